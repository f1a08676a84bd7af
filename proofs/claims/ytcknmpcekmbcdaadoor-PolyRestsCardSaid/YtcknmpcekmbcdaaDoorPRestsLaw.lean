/- PROVED HERE: for every two texts the law PolyRests returns true (quotient and rest of any polynomials, or the error: the quotient times the divisor, and the rest, are what was divided; the rest has fewer bytes). No condition. -/
import Derived.Test.YtcknmpcekmbcdaaDoorPRest
import Derived.Test.YtcknmpcekmbcdaaDoorPRMul
import Derived.Test.YtcknmpcekmbcdaaDoorPLin
import Derived.Test.YtcknmpcekmbcdaaDoorPLaid
namespace Go.Proofs.YtcknmpcekmbcdaaDoor
open Go.RowKit
open Gf

set_option maxRecDepth 100000 in
set_option maxHeartbeats 2000000 in
theorem rests_law {w : World} (a : ByteArray) (_ : a.size ≤ maxLen) (b : ByteArray) (_ : b.size ≤ maxLen) :
    Calls Tryd.prog 8 #[.string a, .string b] w fun e w' => e = .returned (.bool true) ∧ Below w.heap.size w w' := by
  have hb0 : Below w.heap.size w (w.alloc (.cells #[.string a, .string b] 9)) := (Below.refl _ _).alloc (Nat.le_refl _) _
  have HB0 := Lib.hid hb0
  clear hb0
  have hf := few_any 80 a b w
  cases hfe : few2 80 a b with
  | false =>
    rw [hfe] at hf
    have HF := Lib.hid hf
    clear hf hfe
    go_enter Tryd.func8, Tryd.ntmps8
    go_wp2_with fail
    refine HF.out.mono ?_
    rintro e w1 ⟨rfl, rfl⟩
    go_wp2_with fail
    refine (awake_any _).mono ?_
    rintro e w2 ⟨rfl, hb⟩
    have HB := Lib.hid (gtrans HB0.out hb)
    clear hb
    go_wp2_with fail
    go_ret
    exact ⟨rfl, HB.out⟩
  | true =>
    obtain ⟨ha, hb⟩ := few2_le (m := 80) hfe
    rw [hfe] at hf
    have htb := rtrim_any b (by unfold maxLen; omega)
    by_cases h0 : (trimB b).size = 0
    · have hr := rest_none a b (by omega) (by omega) h0
      rw [empty_eq h0] at htb
      have HF := Lib.hid (And.intro hf (And.intro hr htb))
      clear hf hfe ha hb htb h0 hr
      go_enter Tryd.func8, Tryd.ntmps8
      go_wp2_with fail
      refine HF.out.1.mono ?_
      rintro e w1 ⟨rfl, rfl⟩
      go_wp2_with fail
      refine (HF.out.2.1 _).mono ?_
      rintro e w1 ⟨rfl, rfl⟩
      go_wp2_with fail
      refine (HF.out.2.2 _).mono ?_
      rintro e w1 ⟨rfl, rfl⟩
      go_wp2_with fail
      refine (awake_any _).mono ?_
      rintro e w3 ⟨rfl, hb⟩
      have HB3 := Lib.hid (gtrans HB0.out hb)
      clear hb
      go_wp2_with fail
      go_ret
      exact ⟨rfl, HB3.out⟩
    · have hr := rest_any a b (by omega) (by omega) h0
      have hne := nonempty_ne h0
      have hta := rtrim_any a (by unfold maxLen; omega)
      have HS := Lib.hid (And.intro ha hb)
      have HF := Lib.hid (And.intro hf (And.intro hr (And.intro htb hta)))
      clear hf hfe ha hb htb h0 hr hta
      go_enter Tryd.func8, Tryd.ntmps8
      go_wp2_with fail
      refine HF.out.1.mono ?_
      rintro e w1 ⟨rfl, rfl⟩
      go_wp2_with fail
      refine (HF.out.2.1 _).mono ?_
      rintro e w1 ⟨q, r, rfl, ⟨f1, f2, f3, f4, f5, f6⟩, hb⟩
      have HB1 := Lib.hid (gtrans HB0.out hb)
      have hq : q.size ≤ 80 := Nat.le_trans f5 HS.out.1
      have hr : r.size ≤ 80 := Nat.le_trans f6 HS.out.1
      have hbs := HS.out.2
      have k1 := rmulp_any q b (by omega) (by omega)
      have hms : (mulB q b).size ≤ 100000 := by
        by_cases h : 0 < q.size + b.size
        · have := mulB_size q b h; omega
        · rw [mulB_none (by omega)]; decide
      have k2 := radd_any (mulB q b) r hms (by omega)
      rw [f4] at k2
      have k3 := rtrim_any q (by unfold maxLen; omega)
      have k4 := rtrim_any r (by unfold maxLen; omega)
      rw [f1] at k3
      rw [f2] at k4
      have f3i : (r.size : Int) < ((trimB b).size : Int) := by omega
      have HK := Lib.hid (And.intro k1 (And.intro k2 (And.intro k3 k4)))
      clear hb k1 k2 k3 k4 hms f1 f2 f3 f4 f5 f6 hbs hq hr
      generalize trimB b = T at *
      generalize trimB a = A at *
      generalize mulB q b = M at *
      go_wp2_with fail
      refine (HF.out.2.2.1 _).mono ?_
      rintro e w2 ⟨rfl, rfl⟩
      go_wp2_with fail
      refine (awake_any _).mono ?_
      rintro e w3 ⟨rfl, hb⟩
      have HB3 := Lib.hid (gtrans HB1.out hb)
      clear hb
      go_wp2_with fail
      refine (HK.out.1 _).mono ?_
      rintro e w4 ⟨rfl, hb⟩
      have HB4 := Lib.hid (gtrans HB3.out hb)
      clear hb
      go_wp2_with fail
      refine (HK.out.2.1 _).mono ?_
      rintro e w5 ⟨rfl, hb⟩
      have HB5 := Lib.hid (gtrans HB4.out hb)
      clear hb
      go_wp2_with fail
      refine (HF.out.2.2.2 _).mono ?_
      rintro e w6 ⟨rfl, rfl⟩
      go_wp2_with fail
      refine (HK.out.2.2.1 _).mono ?_
      rintro e w6 ⟨rfl, rfl⟩
      go_wp2_with fail
      refine (HK.out.2.2.2 _).mono ?_
      rintro e w6 ⟨rfl, rfl⟩
      go_wp2_with fail
      go_ret
      exact ⟨rfl, HB5.out⟩
end Go.Proofs.YtcknmpcekmbcdaaDoor

namespace Go.Proofs.YtcknmpcekmbcdaaDoor.polyRestsLaw
open Go.ChangeShapes Go.WideShapes Go.ChangeAt Go.RowKit
open Go.ChangeMaps (open_string shut_string)

theorem contract (H : Type) (enc : TypeId × Value → H) (W : World) (base : Nat) (args : Array Value) (ds gs : List (DataW H)) (before : List MemPlace)
    (hval : ∀ (j : Nat) t v, Tryd.f8.params[j]? = some t → args[j]? = some v → Value.okWide Tryd.prog W .any base t v)
    (hW : DataW.Whole enc Tryd.prog Tryd.f8.params.toList Rows.polyRestsSpec.vars false W args.toList ds gs before) (_ : laidMetH Tryd.prog Rows.polyRestsRow.laid W) :
    Calls Tryd.prog 8 args W fun e W' => ∃ v, e = .returned v ∧ Rows.polyRestsSpec.post enc Tryd.prog Tryd.f8 false true false false W args v W' := by
  have hW' := hW
  obtain ⟨p, q, hA0, hV, rfl, hfz, hnd⟩ := hW
  have hA : DataW.TrodAll enc Tryd.prog W 0 (fun _ => true) true Tryd.f8.params.toList args.toList ds p := hA0
  rw [Tryd.params8] at hA hval
  obtain ⟨v0, vs0, d0, ds0, p0, q0, hargs, rfl, rfl, h0, r0⟩ := trodAll_cons hA
  obtain ⟨v1, vs1, d1, ds1, p1, q1, rfl, rfl, rfl, h1, r1⟩ := trodAll_cons r0
  obtain ⟨rfl, rfl, rfl⟩ := trodAll_nil r1
  obtain rfl : args = #[v0, v1] := by cases args; simp_all
  obtain ⟨rfl, rfl⟩ := trodVars_none hV
  obtain ⟨s0, rfl, rfl, rfl, ws0⟩ := open_string Tryd.underlying9 (hval 0 9 v0 rfl rfl) h0
  obtain ⟨s1, rfl, rfl, rfl, ws1⟩ := open_string Tryd.underlying9 (hval 1 9 v1 rfl rfl) h1
  clear hA0
  simp only [List.append_nil] at hW'
  refine (rests_law s0 (by simpa using ws0) s1 (by simpa using ws1) (w := W)).mono fun e W' ⟨he, hb⟩ => ?_
  subst he
  exact ⟨_, rfl, _, _, _, [], [], [], hW', trodAll_cons_mk (shut_bool Tryd.underlying4 _) trodAll_mk0, (trodAll_cons_mk (shut_string Tryd.underlying9 ws0) (trodAll_cons_mk (shut_string Tryd.underlying9 ws1) trodAll_mk0)), rfl, hb.frame _, fun h => by cases h⟩
theorem laid_met (os : Os) : laidMet Tryd.prog Rows.polyRestsRow.laid ((laidWorld os).forCall (fun _ _ => 0) ⟨#[], #[.string ⟨#[]⟩, .string ⟨#[]⟩], []⟩).memory :=
  laidMet_of_run' 8 (by kernel_rfl) (by kernel_rfl)
theorem reads (os : Os) {H : Type} (enc : TypeId × Value → H) : ∃ places, DataW.whole enc Tryd.prog ((laidWorld os).forCall (fun _ _ => 0) ⟨#[], #[.string ⟨#[]⟩, .string ⟨#[]⟩], []⟩).memory Tryd.f8.params.toList Rows.polyRestsSpec.vars false #[Value.string ⟨#[]⟩, .string ⟨#[]⟩].toList 8 = some ([.lit (.string []), .lit (.string [])], [], places) :=
  ⟨[], by kernel_rfl⟩
set_option maxRecDepth 100000 in
theorem lifted (os : Os) (started : os.Started) (H : Type) (enc : TypeId × Value → H) (F : Stop.Interp) :
    ReturnsInHanded {} Tryd.checked os 8 .any ((OpenSpec.ofChange Rows.polyRestsSpec).preRow enc Tryd.prog Tryd.f8 Rows.polyRestsRow.domain false Rows.polyRestsRow.laid) (((OpenSpec.ofChange Rows.polyRestsSpec).at F).post enc Tryd.prog Tryd.f8 false true false false) := by
  obtain ⟨places, hx⟩ := reads os enc
  refine returnsInHanded_of_row (C := Tryd.checked) (s := OpenSpec.ofChange Rows.polyRestsSpec) own started (by kernel_rfl) Tryd.func8
    (witness_row_at (enc := enc) (C := Tryd.checked) false (laidWorld os) #[.string ⟨#[]⟩, .string ⟨#[]⟩] rfl (by kernel_rfl) (by kernel_rfl) (by kernel_rfl)
      (OpenSpec.preRow_of_cond 8 hx (by kernel_rfl) (fun k hk => by cases hk) (by kernel_rfl) (laid_met os))) ?_
  intro W base args ds gs before hval hW _ _ _ hL _ _
  exact contract H enc W base args ds gs before hval hW hL
theorem said : Rows.PolyRestsSaid :=
  OpenClaim.holds_of_cond 8 Tryd.f8 rfl rfl rfl rfl rfl rfl rfl ⟨rfl, rfl, rfl, rfl, rfl⟩ rfl rfl rfl rfl rfl (by kernel_rfl) Tryd.func8 (by kernel_rfl)
    (of_decide_eq_true (by kernel_rfl)) (by unfold Func.isWrapper; first | (rw [if_pos (by decide +kernel)]; kernel_rfl) | (rw [if_neg (by decide +kernel)]; exact ⟨rfl, rfl⟩))
    (fun os started H enc _ F => by rw [OpenClaim.pre_eq_preRow]; exact lifted os started H enc F)
theorem plain (f : FuncId) (fn : Func) (hf : Tryd.pinned.checked.prog.funcNamed "lockbox/lockboxlaw08.PolyRests" = some f) (hfn : Tryd.pinned.checked.prog.funcs[f]? = some fn) :
    false = Tryd.pinned.checked.prog.looks [] ∧ ∀ (j : Nat) t, fn.params[j]? = some t → Tryd.pinned.checked.prog.wantsStandIn t = false := by
  obtain rfl : f = 8 := Option.some.inj ((show Tryd.prog.funcNamed "lockbox/lockboxlaw08.PolyRests" = some 8 by kernel_rfl).symm.trans hf) |>.symm
  obtain rfl : fn = Tryd.f8 := (Option.some.inj (Tryd.func8.symm.trans hfn)).symm
  refine ⟨by kernel_rfl, fun j t ht => ?_⟩
  rw [Tryd.params8] at ht
  have hm : t ∈ [9, 9] := by simpa using Array.mem_of_getElem? ht
  have hall : ([9, 9].all fun u => !Tryd.prog.wantsStandIn u) = true := by kernel_rfl
  exact (show Tryd.prog.wantsStandIn t = false by simpa using List.all_eq_true.1 hall t hm)
end Go.Proofs.YtcknmpcekmbcdaaDoor.polyRestsLaw

namespace Go.Proofs.YtcknmpcekmbcdaaDoor
/-- THE CARD. -/
theorem polyRests_card : Rows.PolyRestsCardSaid :=
  Claim7.holds_tied_plain_at .later [] _ _ _ _ polyRestsLaw.said (fun _ h => by cases h) (by kernel_rfl) (fun _ h => by cases h) polyRests_row_tie rfl ⟨rfl, rfl⟩ (by kernel_rfl) rfl polyRestsLaw.plain (by kernel_rfl)
end Go.Proofs.YtcknmpcekmbcdaaDoor
