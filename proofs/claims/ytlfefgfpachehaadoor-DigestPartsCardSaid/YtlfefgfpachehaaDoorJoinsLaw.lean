/- PROVED HERE: for every list of texts the law DigestJoins returns true (Join's digest is that of the texts one behind the other), and the list reads afterwards as it did. Its conditions: the two package-level tables hold what their initialisers lay (tied to the program's text by the card). -/
import Derived.Test.YtlfefgfpachehaaDoorTexts
namespace Go.Proofs.YtlfefgfpachehaaDoor
open Go.RowKit

set_option maxRecDepth 100000 in
set_option maxHeartbeats 400000 in
theorem joins_law (ss : List ByteArray) (a0 : Option Addr) (cap : Nat) (w : World) (hG : Glob w) (hT : TextsAt w a0 ss) (hm : ss.length ≤ maxLen) :
    Calls Tryd.prog 4 #[.slice a0 ss.length cap] w fun e w' => e = .returned (.bool true) ∧ Below w.heap.size w w' := by
  by_cases hfew : FewOf ss 20 300
  · have h20 : ss.length ≤ 20 := by have := hfew.1; omega
    have h300 : ∀ j, j < ss.length → (ss.getD j ByteArray.empty).size ≤ 300 := fun j hj => by have := hfew.2 j hj; omega
    have hsz := catN_size h300 ss.length (Nat.le_refl _)
    have hbt := fewB_true hfew
    obtain ⟨A, hA⟩ : ∃ A, A = catN ss ss.length := ⟨_, rfl⟩
    obtain ⟨D, hD⟩ : ∃ D, D = str (sha A.data.toList) := ⟨_, rfl⟩
    have hAs : A.size ≤ 6000 := by rw [hA]; omega
    have HH := Lib.hid (And.intro h20 (And.intro h300 (And.intro hbt (And.intro hA (And.intro hD (And.intro hT hm))))))
    clear h20 h300 hbt hA hD hT hm hfew hsz
    go_enter Tryd.func4, Tryd.ntmps4
    go_wp2_with fail
    refine (few_any ss a0 cap 20 300 _ HH.out.2.2.2.2.2.1 HH.out.2.2.2.2.2.2).mono ?_
    rintro e w0 ⟨rfl, rfl⟩
    rw [HH.out.2.2.1]
    go_wp2_with fail
    refine (awake_any _ hG).mono ?_
    rintro e w1 ⟨rfl, hb1⟩
    go_wp2_with fail
    refine (join_any ss a0 cap _ (hG.below hb1) (HH.out.2.2.2.2.2.1.below hb1) HH.out.1 HH.out.2.1).mono ?_
    rintro e w2 ⟨rfl, hb2⟩
    rw [← HH.out.2.2.2.1, ← HH.out.2.2.2.2.1]
    go_wp2_with fail
    refine (all_any ss a0 cap _ ((HH.out.2.2.2.2.2.1.below hb1).below hb2) HH.out.1 HH.out.2.1).mono ?_
    rintro e w3 ⟨rfl, rfl⟩
    rw [← HH.out.2.2.2.1]
    go_wp2_with fail
    refine (rsumref_any A (by omega) _).mono ?_
    rintro e w4 ⟨rfl, hb4⟩
    rw [← HH.out.2.2.2.2.1]
    go_wp2_with fail
    go_ret
    exact ⟨rfl, (hb1.trans (hb2.mono hb1.size)).trans (hb4.mono (Nat.le_trans hb1.size hb2.size))⟩
  · have hbt := fewB_false hfew
    have HH := Lib.hid (And.intro hbt (And.intro hT hm))
    clear hbt hfew hT hm
    go_enter Tryd.func4, Tryd.ntmps4
    go_wp2_with fail
    refine (few_any ss a0 cap 20 300 _ HH.out.2.1 HH.out.2.2).mono ?_
    rintro e w0 ⟨rfl, rfl⟩
    rw [HH.out.1]
    go_wp2_with fail
    refine (awake_any _ hG).mono ?_
    rintro e w1 ⟨rfl, hb1⟩
    go_wp2_with fail
    go_ret
    exact ⟨rfl, hb1⟩

theorem cells9 : Tryd.prog.cellsOf 9 = 1 := by kernel_rfl
theorem laidOut : laidOutB Tryd.prog = true := by kernel_rfl
/-- The texts of a slice that came in. -/
theorem texts_of {W : World} {a0 : Option Addr} {len cap : Nat} {H : Type} {enc : TypeId × Value → H} {d : DataW H} {p : List MemPlace} {fuel : Nat}
    (hf : DataW.trod enc Tryd.prog W 0 (fun _ => true) true fuel 25 [.slice a0 len cap] = some (d, p)) (hlt : ∀ x ∈ p, x.block < W.heap.size) :
    ∃ ss : List ByteArray, ss.length = len ∧ len ≤ maxLen ∧ TextsAt W a0 ss := by
  rcases Go.ChangeShapes.open_strings Tryd.underlying25 Tryd.underlying9 cells9 hf with ⟨hcs, hx⟩ | ⟨a, len', cap', ss, hcs, _, hl, hm, hz, hx, hcell, hws⟩
  · simp at hcs
    obtain ⟨rfl, rfl, rfl⟩ := hcs
    exact ⟨[], rfl, by decide, fun j hj => absurd hj (by simp)⟩
  · simp at hcs
    obtain ⟨rfl, rfl, rfl⟩ := hcs
    simp only [Prod.mk.injEq] at hx
    obtain ⟨_, rfl⟩ := hx
    simp only [if_true] at hz
    refine ⟨ss.take len, by rw [List.length_take]; omega, by omega, fun j hj => ?_⟩
    rw [List.length_take] at hj
    obtain ⟨b, off, spot⟩ := a
    have hspot : spot = none := by simpa [Addr.add] using World.cell?_spot (hcell 0 (by omega))
    subst hspot
    refine ⟨b, off, rfl, hlt (.cell b off) (MemPlace.mem_row.2 ⟨0, by omega, by simp⟩), ?_⟩
    have := hcell j (by omega)
    rw [show (⟨b, off + j, none⟩ : Addr) = (⟨b, off, none⟩ : Addr).add j from (Go.WideShapes.add_plain b off j).symm, this, List.getD_eq_getElem?_getD, List.getD_eq_getElem?_getD, List.getElem?_take, if_pos (by omega)]
end Go.Proofs.YtlfefgfpachehaaDoor

namespace Go.Proofs.YtlfefgfpachehaaDoor.joinsLaw
open Go.ChangeShapes Go.WideShapes Go.ChangeAt Go.RowKit
open Go.ChangeMaps (open_string shut_string)

theorem contract (H : Type) (enc : TypeId × Value → H) (W : World) (base : Nat) (args : Array Value) (ds gs : List (DataW H)) (before : List MemPlace)
    (hval : ∀ (j : Nat) t v, Tryd.f4.params[j]? = some t → args[j]? = some v → Value.okWide Tryd.prog W .any base t v)
    (hW : DataW.Whole enc Tryd.prog Tryd.f4.params.toList Rows.digestJoinsSpec.vars false W args.toList ds gs before) (hL : laidMetH Tryd.prog Rows.digestJoinsRow.laid W) :
    Calls Tryd.prog 4 args W fun e W' => ∃ v, e = .returned v ∧ Rows.digestJoinsSpec.post enc Tryd.prog Tryd.f4 false true false false W args v W' := by
  have hW' := hW
  obtain ⟨p, q, hA0, hV, rfl, hfz, hnd⟩ := hW
  have hA : DataW.TrodAll enc Tryd.prog W 0 (fun _ => true) true Tryd.f4.params.toList args.toList ds p := hA0
  rw [Tryd.params4] at hA hval
  obtain ⟨v0, vs0, d0, ds0, p0, q0, hargs, rfl, rfl, h0, r0⟩ := trodAll_cons hA
  obtain ⟨rfl, rfl, rfl⟩ := trodAll_nil r0
  obtain rfl : args = #[v0] := by cases args; simp_all
  obtain ⟨rfl, rfl⟩ := trodVars_none hV
  obtain ⟨a0, len, cap, rfl⟩ := okWide_slice Tryd.underlying25 (hval 0 25 v0 rfl rfl)
  have h0k := h0
  obtain ⟨fuel, hf⟩ := h0
  clear hA0
  simp only [List.append_nil] at hW'
  have hlt : ∀ x ∈ p0, x.block < W.heap.size := fun x hx => by simpa using hW'.lt x (by simpa using hx)
  obtain ⟨ss, hlen, hmax, hT⟩ := texts_of hf hlt
  subst hlen
  refine (joins_law ss a0 cap W (glob_of_laid hL) hT hmax).mono fun e W' ⟨he, hb⟩ => ?_
  subst he
  exact ⟨_, rfl, _, _, _, [], _, [], hW', trodAll_cons_mk (shut_bool Tryd.underlying4 _) trodAll_mk0, trodAll_mk1 (Below.trod laidOut (by kernel_rfl) (of_decide_eq_true (by kernel_rfl)) h0k hb hlt), rfl, hb.frame _, fun h => by cases h⟩

theorem laid_met (os : Os) : laidMet Tryd.prog Rows.digestJoinsRow.laid ((laidWorld os).forCall (fun _ _ => 0) ⟨#[], #[.slice none 0 0], []⟩).memory :=
  laidMet_of_run' 8 (by kernel_rfl) (by kernel_rfl)
theorem reads (os : Os) {H : Type} (enc : TypeId × Value → H) : ∃ places, DataW.whole enc Tryd.prog ((laidWorld os).forCall (fun _ _ => 0) ⟨#[], #[.slice none 0 0], []⟩).memory Tryd.f4.params.toList Rows.digestJoinsSpec.vars false #[Value.slice none 0 0].toList 8 = some ([.nil], [], places) :=
  ⟨[], by kernel_rfl⟩

set_option maxRecDepth 100000 in
theorem lifted (os : Os) (started : os.Started) (H : Type) (enc : TypeId × Value → H) (F : Stop.Interp) :
    ReturnsInHanded {} Tryd.checked os 4 .any ((OpenSpec.ofChange Rows.digestJoinsSpec).preRow enc Tryd.prog Tryd.f4 Rows.digestJoinsRow.domain false Rows.digestJoinsRow.laid) (((OpenSpec.ofChange Rows.digestJoinsSpec).at F).post enc Tryd.prog Tryd.f4 false true false false) := by
  obtain ⟨places, hx⟩ := reads os enc
  refine returnsInHanded_of_row (C := Tryd.checked) (s := OpenSpec.ofChange Rows.digestJoinsSpec) own started (by kernel_rfl) Tryd.func4
    (witness_row_at (enc := enc) (C := Tryd.checked) false (laidWorld os) #[.slice none 0 0] rfl (by kernel_rfl) (by kernel_rfl) (by kernel_rfl)
      (OpenSpec.preRow_of_cond 8 hx (by kernel_rfl) (fun k hk => by cases hk) (by kernel_rfl) (laid_met os))) ?_
  intro W base args ds gs before hval hW _ _ _ hL _ _
  exact contract H enc W base args ds gs before hval hW hL

theorem said : Rows.DigestJoinsSaid :=
  OpenClaim.holds_of_cond 4 Tryd.f4 rfl rfl rfl rfl rfl rfl rfl ⟨rfl, rfl, rfl, rfl, rfl⟩ rfl rfl rfl rfl rfl (by kernel_rfl) Tryd.func4 (by kernel_rfl)
    (of_decide_eq_true (by kernel_rfl)) (by unfold Func.isWrapper; first | (rw [if_pos (by decide +kernel)]; kernel_rfl) | (rw [if_neg (by decide +kernel)]; exact ⟨rfl, rfl⟩))
    (fun os started H enc _ F => by rw [OpenClaim.pre_eq_preRow]; exact lifted os started H enc F)

theorem plain (f : FuncId) (fn : Func) (hf : Tryd.pinned.checked.prog.funcNamed "lockbox/lockboxlaw01.DigestJoins" = some f) (hfn : Tryd.pinned.checked.prog.funcs[f]? = some fn) :
    false = Tryd.pinned.checked.prog.looks [] ∧ ∀ (j : Nat) t, fn.params[j]? = some t → Tryd.pinned.checked.prog.wantsStandIn t = false := by
  obtain rfl : f = 4 := Option.some.inj ((show Tryd.prog.funcNamed "lockbox/lockboxlaw01.DigestJoins" = some 4 by kernel_rfl).symm.trans hf) |>.symm
  obtain rfl : fn = Tryd.f4 := (Option.some.inj (Tryd.func4.symm.trans hfn)).symm
  refine ⟨by kernel_rfl, fun j t ht => ?_⟩
  rw [Tryd.params4] at ht
  have hm : t ∈ [25] := by simpa using Array.mem_of_getElem? ht
  have hall : ([25].all fun u => !Tryd.prog.wantsStandIn u) = true := by kernel_rfl
  exact (show Tryd.prog.wantsStandIn t = false by simpa using List.all_eq_true.1 hall t hm)
end Go.Proofs.YtlfefgfpachehaaDoor.joinsLaw

namespace Go.Proofs.YtlfefgfpachehaaDoor
/-- THE CARD. -/
theorem digestJoins_card : Rows.DigestJoinsCardSaid :=
  Claim7.holds_tied_plain_at .later [] _ _ _ _ joinsLaw.said (fun _ h => by cases h) (by kernel_rfl) (fun _ h => by cases h) digestJoins_row_tie rfl ⟨rfl, rfl⟩ (by kernel_rfl) rfl joinsLaw.plain (by kernel_rfl)
end Go.Proofs.YtlfefgfpachehaaDoor
