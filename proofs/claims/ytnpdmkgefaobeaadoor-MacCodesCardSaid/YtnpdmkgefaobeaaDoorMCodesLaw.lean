/- PROVED HERE: for every text and every list of texts the law MacCodes returns true (the code of a text in parts, and in one, is the reference's; the texts that are summed for it are the reference's), and all read afterwards as they did. Its conditions: the two package-level tables of the digest hold what their initialisers lay (tied to the program's text by the card). -/
import Derived.Test.YtnpdmkgefaobeaaDoorMRTexts
import Derived.Test.YtnpdmkgefaobeaaDoorLaid
namespace Go.Proofs.YtnpdmkgefaobeaaDoor
open Go.RowKit

set_option maxRecDepth 100000 in
set_option maxHeartbeats 1000000 in
theorem codes_law {w : World} (key : ByteArray) (_ : key.size ≤ maxLen) (ss : List ByteArray) (a0 : Option Addr) (cap : Nat) (hT : TextsAt w a0 ss) (hm : ss.length ≤ maxLen) (hG : Glob w) :
    Calls Tryd.prog 3 #[.string key, .slice a0 ss.length cap] w fun e w' => e = .returned (.bool true) ∧ Below w.heap.size w w' := by
  by_cases h1 : (300 : Int) < key.size
  · obtain ⟨n, hn⟩ : ∃ n, n = ss.length := ⟨_, rfl⟩
    rw [← hn]
    clear hT hm hn
    go_enter Tryd.func3, Tryd.ntmps3
    go_wp2_with fail
    refine (awake_any _ hG).mono ?_
    rintro e w1 ⟨rfl, h1⟩
    go_wp2_with fail
    go_ret
    exact ⟨rfl, h1⟩
  have few := few_any ss a0 cap 10 300 w hT hm
  by_cases hfew : FewOf ss 10 300
  · rw [fewB_true hfew] at few
    have h20 : ss.length ≤ 10 := by have := hfew.1; omega
    have hs : ∀ j, j < ss.length → (ss.getD j ByteArray.empty).size ≤ 300 := fun j hj => by have := hfew.2 j hj; omega
    have hall := all_any ss a0 cap w hT (by omega) hs
    have hAs := catN_size hs ss.length (Nat.le_refl _)
    obtain ⟨A, hA⟩ : ∃ A, A = catN ss ss.length := ⟨_, rfl⟩
    have hAs2 : A.size ≤ 3000 := by rw [hA]; omega
    have hrc := rcode_any key A (by omega) (by omega) w
    have hm1 := fun W (hb : Below w.heap.size w W) => mcode_any key (by omega) ss a0 cap W (hG.below hb) (hT.below hb) hm (by rw [← hA]; omega)
    have hm2 := fun W (hb : Below w.heap.size w W) => mcode1 key A (by omega) (by omega) w W hG hb
    have ht1 := fun W (hb : Below w.heap.size w W) => mtexts_any key A (by omega) (by omega) W (hG.below hb)
    have ht2 := fun W => rtexts_any key A (by omega) (by omega) W
    rw [← hA] at hall hm1
    obtain ⟨C, hC⟩ : ∃ C, C = str (code key.data.toList A.data.toList) := ⟨_, rfl⟩
    rw [← hC] at hrc hm1 hm2
    obtain ⟨T, hTT⟩ : ∃ T, T = textsOf key A := ⟨_, rfl⟩
    have hTl : T.length ≤ 20 := by rw [hTT]; have := textsOf_le key A; omega
    rw [← hTT] at ht1 ht2
    obtain ⟨n, hn⟩ : ∃ n, n = ss.length := ⟨_, rfl⟩
    rw [← hn] at few hall hm1 ⊢
    have hCC : (C.toList == C.toList) = true := by simp
    have H := Lib.hid (And.intro few (And.intro hall (And.intro hrc (And.intro hm1 (And.intro hm2 (And.intro ht1 (And.intro ht2 hTl)))))))
    clear few hall hrc hm1 hm2 ht1 ht2 hTT hC hA hAs hAs2 hT hm hn hs hfew h20 hTl
    go_enter Tryd.func3, Tryd.ntmps3
    go_wp2_with fail
    refine H.out.1.mono ?_
    rintro e w0 ⟨rfl, rfl⟩
    go_wp2_with fail
    refine H.out.2.1.mono ?_
    rintro e w0 ⟨rfl, rfl⟩
    go_wp2_with fail
    refine H.out.2.2.1.mono ?_
    rintro e w1 ⟨rfl, k1⟩
    have K1 := Lib.hid k1
    clear k1
    go_wp2_with fail
    refine (awake_any _ (hG.below K1.out)).mono ?_
    rintro e w2 ⟨rfl, k2⟩
    have K2 := Lib.hid (below_call K1.out k2)
    clear k2
    go_wp2_with fail
    refine (H.out.2.2.2.1 _ K2.out).mono ?_
    rintro e w3 ⟨rfl, k3⟩
    have K3 := Lib.hid (below_call K2.out k3)
    clear k3
    go_wp2_with fail
    refine (H.out.2.2.2.2.1 _ K3.out).mono ?_
    rintro e w4 ⟨rfl, k4⟩
    have K4 := Lib.hid k4
    clear k4
    go_wp2_with fail
    refine (H.out.2.2.2.2.2.1 _ K4.out).mono ?_
    rintro e w5 ⟨a5, c5, rfl, t5, k5⟩
    have K5 := Lib.hid (And.intro (below_call K4.out k5) t5)
    clear k5 t5
    go_wp2_with fail
    refine (H.out.2.2.2.2.2.2.1 _).mono ?_
    rintro e w6 ⟨a6, c6, rfl, t6, k6⟩
    have K6 := Lib.hid (And.intro (below_call K5.out.1 k6) (And.intro (K5.out.2.below k6) t6))
    clear k6 t6
    go_wp2_with fail
    refine (rsame_any T a5 a6 c5 c6 _ K6.out.2.1 K6.out.2.2 H.out.2.2.2.2.2.2.2).mono ?_
    rintro e w7 ⟨rfl, k7⟩
    have K7 := Lib.hid (below_call K6.out.1 k7)
    clear k7
    go_wp2_with fail
    go_ret
    exact ⟨rfl, K7.out⟩
  · rw [fewB_false hfew] at few
    obtain ⟨n, hn⟩ : ∃ n, n = ss.length := ⟨_, rfl⟩
    rw [← hn] at few ⊢
    have H := Lib.hid few
    clear few hfew hT hm hn
    go_enter Tryd.func3, Tryd.ntmps3
    go_wp2_with fail
    refine H.out.mono ?_
    rintro e w0 ⟨rfl, rfl⟩
    go_wp2_with fail
    refine (awake_any _ hG).mono ?_
    rintro e w1 ⟨rfl, h1⟩
    go_wp2_with fail
    go_ret
    exact ⟨rfl, h1⟩
end Go.Proofs.YtnpdmkgefaobeaaDoor

namespace Go.Proofs.YtnpdmkgefaobeaaDoor.macCodesLaw
open Go.ChangeShapes Go.WideShapes Go.ChangeAt Go.RowKit
open Go.ChangeMaps (open_string shut_string)

theorem contract (H : Type) (enc : TypeId × Value → H) (W : World) (base : Nat) (args : Array Value) (ds gs : List (DataW H)) (before : List MemPlace)
    (hval : ∀ (j : Nat) t v, Tryd.f3.params[j]? = some t → args[j]? = some v → Value.okWide Tryd.prog W .any base t v)
    (hW : DataW.Whole enc Tryd.prog Tryd.f3.params.toList Rows.macCodesSpec.vars false W args.toList ds gs before) (hL : laidMetH Tryd.prog Rows.macCodesRow.laid W) :
    Calls Tryd.prog 3 args W fun e W' => ∃ v, e = .returned v ∧ Rows.macCodesSpec.post enc Tryd.prog Tryd.f3 false true false false W args v W' := by
  have hW' := hW
  obtain ⟨p, q, hA0, hV, rfl, hfz, hnd⟩ := hW
  have hA : DataW.TrodAll enc Tryd.prog W 0 (fun _ => true) true Tryd.f3.params.toList args.toList ds p := hA0
  rw [Tryd.params3] at hA hval
  obtain ⟨v0, vs0, d0, ds0, p0, q0, hargs, rfl, rfl, h0, r0⟩ := trodAll_cons hA
  obtain ⟨v1, vs1, d1, ds1, p1, q1, rfl, rfl, rfl, h1, r1⟩ := trodAll_cons r0
  obtain ⟨rfl, rfl, rfl⟩ := trodAll_nil r1
  obtain rfl : args = #[v0, v1] := by cases args; simp_all
  obtain ⟨rfl, rfl⟩ := trodVars_none hV
  obtain ⟨s0, rfl, rfl, rfl, ws0⟩ := open_string Tryd.underlying9 (hval 0 9 v0 rfl rfl) h0
  obtain ⟨a1, len1, cap1, rfl⟩ := okWide_slice Tryd.underlying22 (hval 1 22 v1 rfl rfl)
  have hk1 := h1
  obtain ⟨fuel1, hf1⟩ := h1
  clear hA0
  simp only [List.append_nil, List.nil_append] at hW'
  have hlt1 : ∀ x ∈ p1, x.block < W.heap.size := fun x hx => by simpa using hW'.lt x (by simp [hx])
  obtain ⟨ss1, hlen1, hmax1, hT1⟩ := texts_of hf1 hlt1
  subst hlen1
  refine (codes_law s0 (by simpa using ws0) ss1 a1 cap1 hT1 hmax1 (w := W) (hG := glob_of_laid hL)).mono fun e W' ⟨he, hb⟩ => ?_
  subst he
  exact ⟨_, rfl, _, _, _, [], _, [], hW', trodAll_cons_mk (shut_bool Tryd.underlying4 _) trodAll_mk0, (trodAll_cons_mk (shut_string Tryd.underlying9 ws0) (trodAll_cons_mk (Below.trod laidOut (by kernel_rfl) (of_decide_eq_true (by kernel_rfl)) hk1 hb hlt1) trodAll_mk0)), rfl, hb.frame _, fun h => by cases h⟩
theorem laid_met (os : Os) : laidMet Tryd.prog Rows.macCodesRow.laid ((laidWorld os).forCall (fun _ _ => 0) ⟨#[], #[.string ⟨#[]⟩, .slice none 0 0], []⟩).memory :=
  laidMet_of_run' 8 (by kernel_rfl) (by kernel_rfl)
theorem reads (os : Os) {H : Type} (enc : TypeId × Value → H) : ∃ places, DataW.whole enc Tryd.prog ((laidWorld os).forCall (fun _ _ => 0) ⟨#[], #[.string ⟨#[]⟩, .slice none 0 0], []⟩).memory Tryd.f3.params.toList Rows.macCodesSpec.vars false #[Value.string ⟨#[]⟩, .slice none 0 0].toList 8 = some ([.lit (.string []), .nil], [], places) :=
  ⟨[], by kernel_rfl⟩
set_option maxRecDepth 100000 in
theorem lifted (os : Os) (started : os.Started) (H : Type) (enc : TypeId × Value → H) (F : Stop.Interp) :
    ReturnsInHanded {} Tryd.checked os 3 .any ((OpenSpec.ofChange Rows.macCodesSpec).preRow enc Tryd.prog Tryd.f3 Rows.macCodesRow.domain false Rows.macCodesRow.laid) (((OpenSpec.ofChange Rows.macCodesSpec).at F).post enc Tryd.prog Tryd.f3 false true false false) := by
  obtain ⟨places, hx⟩ := reads os enc
  refine returnsInHanded_of_row (C := Tryd.checked) (s := OpenSpec.ofChange Rows.macCodesSpec) own started (by kernel_rfl) Tryd.func3
    (witness_row_at (enc := enc) (C := Tryd.checked) false (laidWorld os) #[.string ⟨#[]⟩, .slice none 0 0] rfl (by kernel_rfl) (by kernel_rfl) (by kernel_rfl)
      (OpenSpec.preRow_of_cond 8 hx (by kernel_rfl) (fun k hk => by cases hk) (by kernel_rfl) (laid_met os))) ?_
  intro W base args ds gs before hval hW _ _ _ hL _ _
  exact contract H enc W base args ds gs before hval hW hL
theorem said : Rows.MacCodesSaid :=
  OpenClaim.holds_of_cond 3 Tryd.f3 rfl rfl rfl rfl rfl rfl rfl ⟨rfl, rfl, rfl, rfl, rfl⟩ rfl rfl rfl rfl rfl (by kernel_rfl) Tryd.func3 (by kernel_rfl)
    (of_decide_eq_true (by kernel_rfl)) (by unfold Func.isWrapper; first | (rw [if_pos (by decide +kernel)]; kernel_rfl) | (rw [if_neg (by decide +kernel)]; exact ⟨rfl, rfl⟩))
    (fun os started H enc _ F => by rw [OpenClaim.pre_eq_preRow]; exact lifted os started H enc F)
theorem plain (f : FuncId) (fn : Func) (hf : Tryd.pinned.checked.prog.funcNamed "lockbox/lockboxlaw04.MacCodes" = some f) (hfn : Tryd.pinned.checked.prog.funcs[f]? = some fn) :
    false = Tryd.pinned.checked.prog.looks [] ∧ ∀ (j : Nat) t, fn.params[j]? = some t → Tryd.pinned.checked.prog.wantsStandIn t = false := by
  obtain rfl : f = 3 := Option.some.inj ((show Tryd.prog.funcNamed "lockbox/lockboxlaw04.MacCodes" = some 3 by kernel_rfl).symm.trans hf) |>.symm
  obtain rfl : fn = Tryd.f3 := (Option.some.inj (Tryd.func3.symm.trans hfn)).symm
  refine ⟨by kernel_rfl, fun j t ht => ?_⟩
  rw [Tryd.params3] at ht
  have hm : t ∈ [9, 22] := by simpa using Array.mem_of_getElem? ht
  have hall : ([9, 22].all fun u => !Tryd.prog.wantsStandIn u) = true := by kernel_rfl
  exact (show Tryd.prog.wantsStandIn t = false by simpa using List.all_eq_true.1 hall t hm)
end Go.Proofs.YtnpdmkgefaobeaaDoor.macCodesLaw

namespace Go.Proofs.YtnpdmkgefaobeaaDoor
/-- THE CARD. -/
theorem macCodes_card : Rows.MacCodesCardSaid :=
  Claim7.holds_tied_plain_at .later [] _ _ _ _ macCodesLaw.said (fun _ h => by cases h) (by kernel_rfl) (fun _ h => by cases h) macCodes_row_tie rfl ⟨rfl, rfl⟩ (by kernel_rfl) rfl macCodesLaw.plain (by kernel_rfl)
end Go.Proofs.YtnpdmkgefaobeaaDoor
