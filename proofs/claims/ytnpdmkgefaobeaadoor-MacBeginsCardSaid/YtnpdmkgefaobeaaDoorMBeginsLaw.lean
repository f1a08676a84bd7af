/- PROVED HERE: for every two texts and every number the law MacBegins returns true (what is expanded to fewer bytes is a beginning of what is expanded to more; of the most there are 8,160), and all read afterwards as they did. Its conditions: the two package-level tables of the digest hold what their initialisers lay (tied to the program's text by the card). -/
import Derived.Test.YtnpdmkgefaobeaaDoorMAwake
import Derived.Test.YtnpdmkgefaobeaaDoorLaid
namespace Go.Proofs.YtnpdmkgefaobeaaDoor
open Go.RowKit

theorem expAll_take (sec lab : List UInt8) (i : Nat) : ∀ j, i ≤ j → (expAll sec lab j).take (32 * i) = expAll sec lab i
  | 0, h => by rw [show i = 0 by omega]; rfl
  | j + 1, h => by
    by_cases e : i = j + 1
    · rw [e, List.take_of_length_le (by rw [expAll_length]; exact Nat.le_refl _)]
    · rw [expAll, List.take_append_of_le_length (by rw [expAll_length]; omega)]
      exact expAll_take sec lab i j (by omega)
theorem expand_take (sec lab : List UInt8) (n m : Nat) (h : n ≤ m) : (expand sec lab m).take n = expand sec lab n := by
  unfold expand
  rw [List.take_take, Nat.min_eq_left h, ← expAll_take sec lab ((n + 31) / 32) ((m + 31) / 32) (by omega), List.take_take, Nat.min_eq_left (by omega)]

set_option maxRecDepth 100000 in
set_option maxHeartbeats 1000000 in
theorem begins_law (sec : ByteArray) (_ : sec.size ≤ maxLen) (lab : ByteArray) (_ : lab.size ≤ maxLen) (n : Int) (_ : -9223372036854775808 ≤ n) (_ : n ≤ 9223372036854775807) (w : World) (hG : Glob w) :
    Calls Tryd.prog 7 #[.string sec, .string lab, .int .i64 n] w fun e w' => e = .returned (.bool true) ∧ Below w.heap.size w w' := by
  by_cases h1 : (100 : Int) < sec.size
  · go_enter Tryd.func7, Tryd.ntmps7
    go_wp2_with fail
    refine (awake_any _ hG).mono ?_
    rintro e w1 ⟨rfl, h1⟩
    go_wp2_with fail
    go_ret
    exact ⟨rfl, h1⟩
  by_cases h2 : (100 : Int) < lab.size
  · go_enter Tryd.func7, Tryd.ntmps7
    go_wp2_with fail
    refine (awake_any _ hG).mono ?_
    rintro e w1 ⟨rfl, h1⟩
    go_wp2_with fail
    go_ret
    exact ⟨rfl, h1⟩
  obtain ⟨t, ht⟩ : ∃ t, n.tmod 8161 = t := ⟨_, rfl⟩
  have ht1 : -8161 < t ∧ t < 8161 := by
    subst ht
    rw [Int.tmod_eq_emod]
    split <;> omega
  obtain ⟨ht1, ht2⟩ := ht1
  obtain ⟨N, hN⟩ : ∃ N : Nat, (t + 8161) % 8161 = N := ⟨((t + 8161) % 8161).toNat, by omega⟩
  have hNl : (N : Int) ≤ 8160 := by omega
  obtain ⟨S, hS⟩ : ∃ S, S = str (expand sec.data.toList lab.data.toList N) := ⟨_, rfl⟩
  obtain ⟨T, hT⟩ : ∃ T, T = str (expand sec.data.toList lab.data.toList 8160) := ⟨_, rfl⟩
  have hSs : S.size = N := by rw [hS, str_size, expand_length]
  have hTs : T.size = 8160 := by rw [hT, str_size, expand_length]
  have hTS : T.extract 0 N = S := by rw [hT, hS, str_extract, expand_take _ _ _ _ (by omega)]
  have e1 := fun W (hb : Below w.heap.size w W) => expand_any sec lab (by omega) (by omega) (N : Int) W (hG.below hb)
  have e2 := fun W (hb : Below w.heap.size w W) => expand_any sec lab (by omega) (by omega) 8160 W (hG.below hb)
  have e3 := fun W (hb : Below w.heap.size w W) => expand_any sec lab (by omega) (by omega) 8161 W (hG.below hb)
  rw [show expS sec.data.toList lab.data.toList (N : Int) = S from by rw [expS, if_neg (by omega), Int.toNat_natCast, hS], show expE (N : Int) = 0 from by rw [expE, if_neg (by omega)]] at e1
  rw [show expS sec.data.toList lab.data.toList 8160 = T from by rw [expS, if_neg (by omega), hT]; rfl, show expE 8160 = 0 from by rw [expE, if_neg (by omega)]] at e2
  rw [show expS sec.data.toList lab.data.toList 8161 = ⟨#[]⟩ from by rw [expS, if_pos (by omega)], show expE 8161 = 1 from by rw [expE, if_pos (by omega)]] at e3
  have H := Lib.hid (And.intro e1 (And.intro e2 (And.intro e3 (And.intro hSs (And.intro hTs hTS)))))
  clear e1 e2 e3 hS hT hSs hTs hTS
  go_enter Tryd.func7, Tryd.ntmps7
  go_wp2_with fail
  refine (H.out.1 _ (Below.refl _ _)).mono ?_
  rintro e w1 ⟨rfl, k1⟩
  have K1 := Lib.hid k1
  clear k1
  go_wp2_with fail
  refine (H.out.2.1 _ K1.out).mono ?_
  rintro e w2 ⟨rfl, k2⟩
  have K2 := Lib.hid (below_call K1.out k2)
  clear k2
  go_wp2_with fail
  refine (H.out.2.2.1 _ K2.out).mono ?_
  rintro e w3 ⟨rfl, k3⟩
  have K3 := Lib.hid (below_call K2.out k3)
  clear k3
  go_wp2_with fail
  refine (awake_any _ (hG.below K3.out)).mono ?_
  rintro e w4 ⟨rfl, k4⟩
  have K4 := Lib.hid (below_call K3.out k4)
  clear k4
  have hSs := H.out.2.2.2.1
  have hTs := H.out.2.2.2.2.1
  have hTS := H.out.2.2.2.2.2
  go_wp2_with fail
  go_ret
  exact ⟨rfl, K4.out⟩
end Go.Proofs.YtnpdmkgefaobeaaDoor

namespace Go.Proofs.YtnpdmkgefaobeaaDoor.macBeginsLaw
open Go.ChangeShapes Go.WideShapes Go.ChangeAt Go.RowKit
open Go.ChangeMaps (open_string shut_string)

theorem contract (H : Type) (enc : TypeId × Value → H) (W : World) (base : Nat) (args : Array Value) (ds gs : List (DataW H)) (before : List MemPlace)
    (hval : ∀ (j : Nat) t v, Tryd.f7.params[j]? = some t → args[j]? = some v → Value.okWide Tryd.prog W .any base t v)
    (hW : DataW.Whole enc Tryd.prog Tryd.f7.params.toList Rows.macBeginsSpec.vars false W args.toList ds gs before) (hL : laidMetH Tryd.prog Rows.macBeginsRow.laid W) :
    Calls Tryd.prog 7 args W fun e W' => ∃ v, e = .returned v ∧ Rows.macBeginsSpec.post enc Tryd.prog Tryd.f7 false true false false W args v W' := by
  have hW' := hW
  obtain ⟨p, q, hA0, hV, rfl, hfz, hnd⟩ := hW
  have hA : DataW.TrodAll enc Tryd.prog W 0 (fun _ => true) true Tryd.f7.params.toList args.toList ds p := hA0
  rw [Tryd.params7] at hA hval
  obtain ⟨v0, vs0, d0, ds0, p0, q0, hargs, rfl, rfl, h0, r0⟩ := trodAll_cons hA
  obtain ⟨v1, vs1, d1, ds1, p1, q1, rfl, rfl, rfl, h1, r1⟩ := trodAll_cons r0
  obtain ⟨v2, vs2, d2, ds2, p2, q2, rfl, rfl, rfl, h2, r2⟩ := trodAll_cons r1
  obtain ⟨rfl, rfl, rfl⟩ := trodAll_nil r2
  obtain rfl : args = #[v0, v1, v2] := by cases args; simp_all
  obtain ⟨rfl, rfl⟩ := trodVars_none hV
  obtain ⟨s0, rfl, rfl, rfl, ws0⟩ := open_string Tryd.underlying9 (hval 0 9 v0 rfl rfl) h0
  obtain ⟨s1, rfl, rfl, rfl, ws1⟩ := open_string Tryd.underlying9 (hval 1 9 v1 rfl rfl) h1
  obtain ⟨n2, rfl, rfl, rfl, ws2⟩ := open_int Tryd.underlying3 (hval 2 3 v2 rfl rfl) h2
  have hbd2 := ws2
  simp only [Lit.wf, Bool.and_eq_true, decide_eq_true_eq] at hbd2
  clear hA0
  simp only [List.append_nil] at hW'
  refine (begins_law s0 (by simpa using ws0) s1 (by simpa using ws1) n2 hbd2.1 hbd2.2 (w := W) (hG := glob_of_laid hL)).mono fun e W' ⟨he, hb⟩ => ?_
  subst he
  exact ⟨_, rfl, _, _, _, [], [], [], hW', trodAll_cons_mk (shut_bool Tryd.underlying4 _) trodAll_mk0, (trodAll_cons_mk (shut_string Tryd.underlying9 ws0) (trodAll_cons_mk (shut_string Tryd.underlying9 ws1) (trodAll_cons_mk (shut_int Tryd.underlying3 ws2) trodAll_mk0))), rfl, hb.frame _, fun h => by cases h⟩
theorem laid_met (os : Os) : laidMet Tryd.prog Rows.macBeginsRow.laid ((laidWorld os).forCall (fun _ _ => 0) ⟨#[], #[.string ⟨#[]⟩, .string ⟨#[]⟩, .int .i64 0], []⟩).memory :=
  laidMet_of_run' 8 (by kernel_rfl) (by kernel_rfl)
theorem reads (os : Os) {H : Type} (enc : TypeId × Value → H) : ∃ places, DataW.whole enc Tryd.prog ((laidWorld os).forCall (fun _ _ => 0) ⟨#[], #[.string ⟨#[]⟩, .string ⟨#[]⟩, .int .i64 0], []⟩).memory Tryd.f7.params.toList Rows.macBeginsSpec.vars false #[Value.string ⟨#[]⟩, .string ⟨#[]⟩, .int .i64 0].toList 8 = some ([.lit (.string []), .lit (.string []), .lit (.int .i64 0)], [], places) :=
  ⟨[], by kernel_rfl⟩
set_option maxRecDepth 100000 in
theorem lifted (os : Os) (started : os.Started) (H : Type) (enc : TypeId × Value → H) (F : Stop.Interp) :
    ReturnsInHanded {} Tryd.checked os 7 .any ((OpenSpec.ofChange Rows.macBeginsSpec).preRow enc Tryd.prog Tryd.f7 Rows.macBeginsRow.domain false Rows.macBeginsRow.laid) (((OpenSpec.ofChange Rows.macBeginsSpec).at F).post enc Tryd.prog Tryd.f7 false true false false) := by
  obtain ⟨places, hx⟩ := reads os enc
  refine returnsInHanded_of_row (C := Tryd.checked) (s := OpenSpec.ofChange Rows.macBeginsSpec) own started (by kernel_rfl) Tryd.func7
    (witness_row_at (enc := enc) (C := Tryd.checked) false (laidWorld os) #[.string ⟨#[]⟩, .string ⟨#[]⟩, .int .i64 0] rfl (by kernel_rfl) (by kernel_rfl) (by kernel_rfl)
      (OpenSpec.preRow_of_cond 8 hx (by kernel_rfl) (fun k hk => by cases hk) (by kernel_rfl) (laid_met os))) ?_
  intro W base args ds gs before hval hW _ _ _ hL _ _
  exact contract H enc W base args ds gs before hval hW hL
theorem said : Rows.MacBeginsSaid :=
  OpenClaim.holds_of_cond 7 Tryd.f7 rfl rfl rfl rfl rfl rfl rfl ⟨rfl, rfl, rfl, rfl, rfl⟩ rfl rfl rfl rfl rfl (by kernel_rfl) Tryd.func7 (by kernel_rfl)
    (of_decide_eq_true (by kernel_rfl)) (by unfold Func.isWrapper; first | (rw [if_pos (by decide +kernel)]; kernel_rfl) | (rw [if_neg (by decide +kernel)]; exact ⟨rfl, rfl⟩))
    (fun os started H enc _ F => by rw [OpenClaim.pre_eq_preRow]; exact lifted os started H enc F)
theorem plain (f : FuncId) (fn : Func) (hf : Tryd.pinned.checked.prog.funcNamed "lockbox/lockboxlaw04.MacBegins" = some f) (hfn : Tryd.pinned.checked.prog.funcs[f]? = some fn) :
    false = Tryd.pinned.checked.prog.looks [] ∧ ∀ (j : Nat) t, fn.params[j]? = some t → Tryd.pinned.checked.prog.wantsStandIn t = false := by
  obtain rfl : f = 7 := Option.some.inj ((show Tryd.prog.funcNamed "lockbox/lockboxlaw04.MacBegins" = some 7 by kernel_rfl).symm.trans hf) |>.symm
  obtain rfl : fn = Tryd.f7 := (Option.some.inj (Tryd.func7.symm.trans hfn)).symm
  refine ⟨by kernel_rfl, fun j t ht => ?_⟩
  rw [Tryd.params7] at ht
  have hm : t ∈ [9, 9, 3] := by simpa using Array.mem_of_getElem? ht
  have hall : ([9, 9, 3].all fun u => !Tryd.prog.wantsStandIn u) = true := by kernel_rfl
  exact (show Tryd.prog.wantsStandIn t = false by simpa using List.all_eq_true.1 hall t hm)
end Go.Proofs.YtnpdmkgefaobeaaDoor.macBeginsLaw

namespace Go.Proofs.YtnpdmkgefaobeaaDoor
/-- THE CARD. -/
theorem macBegins_card : Rows.MacBeginsCardSaid :=
  Claim7.holds_tied_plain_at .later [] _ _ _ _ macBeginsLaw.said (fun _ h => by cases h) (by kernel_rfl) (fun _ h => by cases h) macBegins_row_tie rfl ⟨rfl, rfl⟩ (by kernel_rfl) rfl macBeginsLaw.plain (by kernel_rfl)
end Go.Proofs.YtnpdmkgefaobeaaDoor
