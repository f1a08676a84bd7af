/- PROVED HERE: for every two texts and every number the law MacExpands returns true (what is extracted of any secret, what is expanded to any number of bytes, and both, or the error, are as the reference defines them), and all read afterwards as they did. Its conditions: the two package-level tables of the digest hold what their initialisers lay (tied to the program's text by the card). -/
import Derived.Test.YtnpdmkgefaobeaaDoorMAwake
import Derived.Test.YtnpdmkgefaobeaaDoorMRefK
import Derived.Test.YtnpdmkgefaobeaaDoorLaid
namespace Go.Proofs.YtnpdmkgefaobeaaDoor
open Go.RowKit

set_option maxRecDepth 100000 in
set_option maxHeartbeats 1000000 in
theorem expands_law (salt : ByteArray) (_ : salt.size ≤ maxLen) (sec : ByteArray) (_ : sec.size ≤ maxLen) (n : Int) (_ : -9223372036854775808 ≤ n) (_ : n ≤ 9223372036854775807) (w : World) (hG : Glob w) :
    Calls Tryd.prog 5 #[.string salt, .string sec, .int .i64 n] w fun e w' => e = .returned (.bool true) ∧ Below w.heap.size w w' := by
  by_cases h1 : (200 : Int) < salt.size
  · go_enter Tryd.func5, Tryd.ntmps5
    go_wp2_with fail
    refine (awake_any _ hG).mono ?_
    rintro e w1 ⟨rfl, h1⟩
    go_wp2_with fail
    go_ret
    exact ⟨rfl, h1⟩
  by_cases h2 : (200 : Int) < sec.size
  · go_enter Tryd.func5, Tryd.ntmps5
    go_wp2_with fail
    refine (awake_any _ hG).mono ?_
    rintro e w1 ⟨rfl, h1⟩
    go_wp2_with fail
    go_ret
    exact ⟨rfl, h1⟩
  by_cases h3 : 1000 < n ∧ n ≤ 8160
  · obtain ⟨h3, h4⟩ := h3
    go_enter Tryd.func5, Tryd.ntmps5
    go_wp2_with fail
    refine (awake_any _ hG).mono ?_
    rintro e w1 ⟨rfl, h1⟩
    go_wp2_with fail
    go_ret
    exact ⟨rfl, h1⟩
  have ha := fun W (hb : Below w.heap.size w W) => expand_any sec salt (by omega) (by omega) n W (hG.below hb)
  have hb0 := fun W => rexpand_any sec salt (by omega) (by omega) n W
  have hc := fun W (hb : Below w.heap.size w W) => derive_any sec salt (by omega) (by omega) n W (hG.below hb)
  have hd := fun W => rderive_any sec salt (by omega) (by omega) n W
  have he := fun W (hb : Below w.heap.size w W) => extract_any salt sec (by omega) (by omega) W (hG.below hb)
  have hf := fun W => rextract_any salt sec (by omega) (by omega) W
  obtain ⟨A, hA⟩ : ∃ A, A = expS sec.data.toList salt.data.toList n := ⟨_, rfl⟩
  obtain ⟨B, hB⟩ : ∃ B, B = expS (code [] sec.data.toList) salt.data.toList n := ⟨_, rfl⟩
  obtain ⟨E, hE⟩ : ∃ E, E = expE n := ⟨_, rfl⟩
  obtain ⟨X, hX⟩ : ∃ X, X = str (code salt.data.toList sec.data.toList) := ⟨_, rfl⟩
  rw [← hA, ← hE] at ha hb0
  rw [← hB, ← hE] at hc hd
  rw [← hX] at he hf
  have hEb : 0 ≤ E ∧ E ≤ 1 := by rw [hE, expE]; split <;> omega
  obtain ⟨e0, e1⟩ := hEb
  have H := Lib.hid (And.intro ha (And.intro hb0 (And.intro hc (And.intro hd (And.intro he hf)))))
  clear ha hb0 hc hd he hf hA hB hE hX
  by_cases h4 : 1000 < n
  · have h5 : 8160 < n := by omega
    go_enter Tryd.func5, Tryd.ntmps5
    go_wp2_with fail
    refine (H.out.1 _ (Below.refl _ _)).mono ?_
    rintro e w1 ⟨rfl, k1⟩
    have K1 := Lib.hid (k1)
    clear k1
    go_wp2_with fail
    refine (H.out.2.1 _).mono ?_
    rintro e w2 ⟨rfl, k2⟩
    have K2 := Lib.hid (below_call K1.out k2)
    clear k2
    go_wp2_with fail
    refine (H.out.2.2.1 _ K2.out).mono ?_
    rintro e w3 ⟨rfl, k3⟩
    have K3 := Lib.hid (below_call K2.out k3)
    clear k3
    go_wp2_with fail
    refine (H.out.2.2.2.1 _).mono ?_
    rintro e w4 ⟨rfl, k4⟩
    have K4 := Lib.hid (below_call K3.out k4)
    clear k4
    go_wp2_with fail
    refine (awake_any _ (hG.below K4.out)).mono ?_
    rintro e w5 ⟨rfl, k5⟩
    have K5 := Lib.hid (below_call K4.out k5)
    clear k5
    go_wp2_with fail
    refine (H.out.2.2.2.2.1 _ K5.out).mono ?_
    rintro e w6 ⟨rfl, k6⟩
    have K6 := Lib.hid (below_call K5.out k6)
    clear k6
    go_wp2_with fail
    refine (H.out.2.2.2.2.2 _).mono ?_
    rintro e w7 ⟨rfl, k7⟩
    have K7 := Lib.hid (below_call K6.out k7)
    clear k7
    go_wp2_with fail
    go_ret
    exact ⟨rfl, K7.out⟩
  · go_enter Tryd.func5, Tryd.ntmps5
    go_wp2_with fail
    refine (H.out.1 _ (Below.refl _ _)).mono ?_
    rintro e w1 ⟨rfl, k1⟩
    have K1 := Lib.hid (k1)
    clear k1
    go_wp2_with fail
    refine (H.out.2.1 _).mono ?_
    rintro e w2 ⟨rfl, k2⟩
    have K2 := Lib.hid (below_call K1.out k2)
    clear k2
    go_wp2_with fail
    refine (H.out.2.2.1 _ K2.out).mono ?_
    rintro e w3 ⟨rfl, k3⟩
    have K3 := Lib.hid (below_call K2.out k3)
    clear k3
    go_wp2_with fail
    refine (H.out.2.2.2.1 _).mono ?_
    rintro e w4 ⟨rfl, k4⟩
    have K4 := Lib.hid (below_call K3.out k4)
    clear k4
    go_wp2_with fail
    refine (awake_any _ (hG.below K4.out)).mono ?_
    rintro e w5 ⟨rfl, k5⟩
    have K5 := Lib.hid (below_call K4.out k5)
    clear k5
    go_wp2_with fail
    refine (H.out.2.2.2.2.1 _ K5.out).mono ?_
    rintro e w6 ⟨rfl, k6⟩
    have K6 := Lib.hid (below_call K5.out k6)
    clear k6
    go_wp2_with fail
    refine (H.out.2.2.2.2.2 _).mono ?_
    rintro e w7 ⟨rfl, k7⟩
    have K7 := Lib.hid (below_call K6.out k7)
    clear k7
    go_wp2_with fail
    go_ret
    exact ⟨rfl, K7.out⟩
end Go.Proofs.YtnpdmkgefaobeaaDoor

namespace Go.Proofs.YtnpdmkgefaobeaaDoor.macExpandsLaw
open Go.ChangeShapes Go.WideShapes Go.ChangeAt Go.RowKit
open Go.ChangeMaps (open_string shut_string)

theorem contract (H : Type) (enc : TypeId × Value → H) (W : World) (base : Nat) (args : Array Value) (ds gs : List (DataW H)) (before : List MemPlace)
    (hval : ∀ (j : Nat) t v, Tryd.f5.params[j]? = some t → args[j]? = some v → Value.okWide Tryd.prog W .any base t v)
    (hW : DataW.Whole enc Tryd.prog Tryd.f5.params.toList Rows.macExpandsSpec.vars false W args.toList ds gs before) (hL : laidMetH Tryd.prog Rows.macExpandsRow.laid W) :
    Calls Tryd.prog 5 args W fun e W' => ∃ v, e = .returned v ∧ Rows.macExpandsSpec.post enc Tryd.prog Tryd.f5 false true false false W args v W' := by
  have hW' := hW
  obtain ⟨p, q, hA0, hV, rfl, hfz, hnd⟩ := hW
  have hA : DataW.TrodAll enc Tryd.prog W 0 (fun _ => true) true Tryd.f5.params.toList args.toList ds p := hA0
  rw [Tryd.params5] at hA hval
  obtain ⟨v0, vs0, d0, ds0, p0, q0, hargs, rfl, rfl, h0, r0⟩ := trodAll_cons hA
  obtain ⟨v1, vs1, d1, ds1, p1, q1, rfl, rfl, rfl, h1, r1⟩ := trodAll_cons r0
  obtain ⟨v2, vs2, d2, ds2, p2, q2, rfl, rfl, rfl, h2, r2⟩ := trodAll_cons r1
  obtain ⟨rfl, rfl, rfl⟩ := trodAll_nil r2
  obtain rfl : args = #[v0, v1, v2] := by cases args; simp_all
  obtain ⟨rfl, rfl⟩ := trodVars_none hV
  obtain ⟨s0, rfl, rfl, rfl, ws0⟩ := open_string Tryd.underlying9 (hval 0 9 v0 rfl rfl) h0
  obtain ⟨s1, rfl, rfl, rfl, ws1⟩ := open_string Tryd.underlying9 (hval 1 9 v1 rfl rfl) h1
  obtain ⟨n2, rfl, rfl, rfl, ws2⟩ := open_int Tryd.underlying3 (hval 2 3 v2 rfl rfl) h2
  have hbd2 := ws2
  simp only [Lit.wf, Bool.and_eq_true, decide_eq_true_eq] at hbd2
  clear hA0
  simp only [List.append_nil] at hW'
  refine (expands_law s0 (by simpa using ws0) s1 (by simpa using ws1) n2 hbd2.1 hbd2.2 (w := W) (hG := glob_of_laid hL)).mono fun e W' ⟨he, hb⟩ => ?_
  subst he
  exact ⟨_, rfl, _, _, _, [], [], [], hW', trodAll_cons_mk (shut_bool Tryd.underlying4 _) trodAll_mk0, (trodAll_cons_mk (shut_string Tryd.underlying9 ws0) (trodAll_cons_mk (shut_string Tryd.underlying9 ws1) (trodAll_cons_mk (shut_int Tryd.underlying3 ws2) trodAll_mk0))), rfl, hb.frame _, fun h => by cases h⟩
theorem laid_met (os : Os) : laidMet Tryd.prog Rows.macExpandsRow.laid ((laidWorld os).forCall (fun _ _ => 0) ⟨#[], #[.string ⟨#[]⟩, .string ⟨#[]⟩, .int .i64 0], []⟩).memory :=
  laidMet_of_run' 8 (by kernel_rfl) (by kernel_rfl)
theorem reads (os : Os) {H : Type} (enc : TypeId × Value → H) : ∃ places, DataW.whole enc Tryd.prog ((laidWorld os).forCall (fun _ _ => 0) ⟨#[], #[.string ⟨#[]⟩, .string ⟨#[]⟩, .int .i64 0], []⟩).memory Tryd.f5.params.toList Rows.macExpandsSpec.vars false #[Value.string ⟨#[]⟩, .string ⟨#[]⟩, .int .i64 0].toList 8 = some ([.lit (.string []), .lit (.string []), .lit (.int .i64 0)], [], places) :=
  ⟨[], by kernel_rfl⟩
set_option maxRecDepth 100000 in
theorem lifted (os : Os) (started : os.Started) (H : Type) (enc : TypeId × Value → H) (F : Stop.Interp) :
    ReturnsInHanded {} Tryd.checked os 5 .any ((OpenSpec.ofChange Rows.macExpandsSpec).preRow enc Tryd.prog Tryd.f5 Rows.macExpandsRow.domain false Rows.macExpandsRow.laid) (((OpenSpec.ofChange Rows.macExpandsSpec).at F).post enc Tryd.prog Tryd.f5 false true false false) := by
  obtain ⟨places, hx⟩ := reads os enc
  refine returnsInHanded_of_row (C := Tryd.checked) (s := OpenSpec.ofChange Rows.macExpandsSpec) own started (by kernel_rfl) Tryd.func5
    (witness_row_at (enc := enc) (C := Tryd.checked) false (laidWorld os) #[.string ⟨#[]⟩, .string ⟨#[]⟩, .int .i64 0] rfl (by kernel_rfl) (by kernel_rfl) (by kernel_rfl)
      (OpenSpec.preRow_of_cond 8 hx (by kernel_rfl) (fun k hk => by cases hk) (by kernel_rfl) (laid_met os))) ?_
  intro W base args ds gs before hval hW _ _ _ hL _ _
  exact contract H enc W base args ds gs before hval hW hL
theorem said : Rows.MacExpandsSaid :=
  OpenClaim.holds_of_cond 5 Tryd.f5 rfl rfl rfl rfl rfl rfl rfl ⟨rfl, rfl, rfl, rfl, rfl⟩ rfl rfl rfl rfl rfl (by kernel_rfl) Tryd.func5 (by kernel_rfl)
    (of_decide_eq_true (by kernel_rfl)) (by unfold Func.isWrapper; first | (rw [if_pos (by decide +kernel)]; kernel_rfl) | (rw [if_neg (by decide +kernel)]; exact ⟨rfl, rfl⟩))
    (fun os started H enc _ F => by rw [OpenClaim.pre_eq_preRow]; exact lifted os started H enc F)
theorem plain (f : FuncId) (fn : Func) (hf : Tryd.pinned.checked.prog.funcNamed "lockbox/lockboxlaw04.MacExpands" = some f) (hfn : Tryd.pinned.checked.prog.funcs[f]? = some fn) :
    false = Tryd.pinned.checked.prog.looks [] ∧ ∀ (j : Nat) t, fn.params[j]? = some t → Tryd.pinned.checked.prog.wantsStandIn t = false := by
  obtain rfl : f = 5 := Option.some.inj ((show Tryd.prog.funcNamed "lockbox/lockboxlaw04.MacExpands" = some 5 by kernel_rfl).symm.trans hf) |>.symm
  obtain rfl : fn = Tryd.f5 := (Option.some.inj (Tryd.func5.symm.trans hfn)).symm
  refine ⟨by kernel_rfl, fun j t ht => ?_⟩
  rw [Tryd.params5] at ht
  have hm : t ∈ [9, 9, 3] := by simpa using Array.mem_of_getElem? ht
  have hall : ([9, 9, 3].all fun u => !Tryd.prog.wantsStandIn u) = true := by kernel_rfl
  exact (show Tryd.prog.wantsStandIn t = false by simpa using List.all_eq_true.1 hall t hm)
end Go.Proofs.YtnpdmkgefaobeaaDoor.macExpandsLaw

namespace Go.Proofs.YtnpdmkgefaobeaaDoor
/-- THE CARD. -/
theorem macExpands_card : Rows.MacExpandsCardSaid :=
  Claim7.holds_tied_plain_at .later [] _ _ _ _ macExpandsLaw.said (fun _ h => by cases h) (by kernel_rfl) (fun _ h => by cases h) macExpands_row_tie rfl ⟨rfl, rfl⟩ (by kernel_rfl) rfl macExpandsLaw.plain (by kernel_rfl)
end Go.Proofs.YtnpdmkgefaobeaaDoor
