/- PROVED HERE: for every byte and every number the law GfPowers returns true (any power of any byte is the reference's, by its remainder where it is far, or the error). No condition. -/
import Derived.Test.YtcknmpcekmbcdaaGAwake
import Derived.Test.YtcknmpcekmbcdaaRows
import Derived.ProofKit
import Derived.OpenShut
namespace Go.Proofs.Ytcknmpcekmbcdaa
open Go.RowKit
open Gf

set_option maxRecDepth 100000 in
set_option maxHeartbeats 1000000 in
/-- Wherever the number k stands for n. -/
theorem powers_near (a : UInt8) (n k : Int) (hg : gpow a k = gpow a n) (he : gerr a k = gerr a n) (hlo : -300 ≤ k) (hhi : k ≤ 300) (w : World) :
    Calls Try.prog 17 #[.int .u8 (a.toNat : Int), .int .i64 k] w fun e w' => e = .returned (.tuple #[.int .u8 ((gpow a n).toNat : Int), .int .i64 (gerr a n)]) ∧ w = w' := by
  rw [← hg, ← he]; exact rpow_any a k hlo hhi w
theorem gerr_ne {a : UInt8} (h : a ≠ 0) (n : Int) : gerr a n = 0 := if_neg (fun x => h x.1)
set_option maxRecDepth 100000 in
set_option maxHeartbeats 2000000 in
theorem powers_law {w : World} (a : UInt8) (n : Int) (hlo : -9223372036854775808 ≤ n) (hhi : n ≤ 9223372036854775807) :
    Calls Try.prog 4 #[.int .u8 (a.toNat : Int), .int .i64 n] w fun e w' => e = .returned (.bool true) ∧ Below w.heap.size w w' := by
  obtain ⟨P, hP⟩ : ∃ P, P = gpow a n := ⟨_, rfl⟩
  obtain ⟨E, hE⟩ : ∃ E, E = gerr a n := ⟨_, rfl⟩
  have h1 : ∀ w, Calls Try.prog 16 #[.int .u8 (a.toNat : Int), .int .i64 n] w fun e w' => e = .returned (.tuple #[.int .u8 (P.toNat : Int), .int .i64 E]) ∧ w = w' := fun w => by
    rw [hP, hE]; exact gfpow_any a n hlo hhi w
  have h2 : ∀ k : Int, gpow a k = gpow a n → gerr a k = gerr a n → -300 ≤ k → k ≤ 300 → ∀ w, Calls Try.prog 17 #[.int .u8 (a.toNat : Int), .int .i64 k] w fun e w' => e = .returned (.tuple #[.int .u8 (P.toNat : Int), .int .i64 E]) ∧ w = w' := fun k ha hb hc hd w => by
    rw [hP, hE]; exact powers_near a n k ha hb hc hd w
  have H1 := Lib.hid h1
  clear h1 hP hE
  by_cases hbig : 300 < n
  · by_cases ha : a = 0
    · subst ha
      have h3 := h2 1 (by rw [gpow_zero_pos 1 (by decide), gpow_zero_pos n (by omega)]) (by unfold gerr; rw [if_neg (by omega), if_neg (by omega)]) (by decide) (by decide)
      have H3 := Lib.hid h3
      clear h2 h3
      go_enter Try.func4, Try.ntmps4
      go_wp2_with fail
      refine (H1.out _).mono ?_
      rintro e w1 ⟨rfl, rfl⟩
      go_wp2_with fail
      refine (H3.out _).mono ?_
      rintro e w1 ⟨rfl, rfl⟩
      go_wp2_with fail
      refine (awake_any _).mono ?_
      rintro e w1 ⟨rfl, hb⟩
      have HB := Lib.hid hb
      clear hb
      go_wp2_with fail
      go_ret
      exact ⟨rfl, HB.out⟩
    · have e0 := u_ne ha
      have e1 : ((a.toNat : Int) != 0) = true := by rw [bne, e0]; rfl
      have hm : n % 255 = (n % 255) % 255 := by omega
      have hb0 : 0 ≤ n % 255 := by omega
      have hb1 : n % 255 < 255 := by omega
      by_cases hz : n % 255 = 0
      · have h3 := h2 255 (gpow_mod ha (by omega)) (by rw [gerr_ne ha, gerr_ne ha]) (by decide) (by decide)
        have H3 := Lib.hid h3
        clear h2 h3 ha hm hb0 hb1
        go_enter Try.func4, Try.ntmps4
        go_wp2_with fail
        refine (H1.out _).mono ?_
        rintro e w1 ⟨rfl, rfl⟩
        go_wp2_with fail
        refine (H3.out _).mono ?_
        rintro e w1 ⟨rfl, rfl⟩
        go_wp2_with fail
        refine (awake_any _).mono ?_
        rintro e w1 ⟨rfl, hb⟩
        have HB := Lib.hid hb
        clear hb
        go_wp2_with fail
        go_ret
        exact ⟨rfl, HB.out⟩
      · obtain ⟨t, ht⟩ : ∃ t, n % 255 = t := ⟨_, rfl⟩
        have h3 := h2 t (gpow_mod ha (by omega)) (by rw [gerr_ne ha, gerr_ne ha]) (by omega) (by omega)
        have H3 := Lib.hid h3
        have hzi : (t == 0) = false := by rw [← ht]; simpa using hz
        clear h2 h3 ha hm hb0 hb1 hz
        go_enter Try.func4, Try.ntmps4
        go_wp2_with fail
        refine (H1.out _).mono ?_
        rintro e w1 ⟨rfl, rfl⟩
        go_wp2_with fail
        refine (H3.out _).mono ?_
        rintro e w1 ⟨rfl, rfl⟩
        go_wp2_with fail
        refine (awake_any _).mono ?_
        rintro e w1 ⟨rfl, hb⟩
        have HB := Lib.hid hb
        clear hb
        go_wp2_with fail
        go_ret
        exact ⟨rfl, HB.out⟩
  by_cases hsmall : n < -300
  · by_cases ha : a = 0
    · subst ha
      have h3 := h2 (-1) (by rw [gpow_zero_neg (-1) (by decide), gpow_zero_neg n (by omega)]) (by unfold gerr; rw [if_pos ⟨rfl, by decide⟩, if_pos ⟨rfl, by omega⟩]) (by decide) (by decide)
      have H3 := Lib.hid h3
      clear h2 h3
      have hn0 : n < 0 := by omega
      go_enter Try.func4, Try.ntmps4
      go_wp2_with fail
      refine (H1.out _).mono ?_
      rintro e w1 ⟨rfl, rfl⟩
      go_wp2_with fail
      refine (H3.out _).mono ?_
      rintro e w1 ⟨rfl, rfl⟩
      go_wp2_with fail
      refine (awake_any _).mono ?_
      rintro e w1 ⟨rfl, hb⟩
      have HB := Lib.hid hb
      clear hb
      go_wp2_with fail
      go_ret
      exact ⟨rfl, HB.out⟩
    · have e0 := u_ne ha
      have e1 : ((a.toNat : Int) != 0) = true := by rw [bne, e0]; rfl
      obtain ⟨t, ht⟩ : ∃ t, n.tmod 255 = t := ⟨_, rfl⟩
      have ht2 := ht
      rw [Int.tmod_eq_emod] at ht2
      have hb0 : -255 < t := by split at ht2 <;> omega
      have hb1 : t ≤ 0 := by split at ht2 <;> omega
      have hm : t % 255 = n % 255 := by split at ht2 <;> omega
      by_cases hz : t = 0
      · subst hz
        have h3 := h2 255 (gpow_mod ha (by omega)) (by rw [gerr_ne ha, gerr_ne ha]) (by decide) (by decide)
        have H3 := Lib.hid h3
        clear h2 h3 ha hm hb0 hb1 ht2
        go_enter Try.func4, Try.ntmps4
        go_wp2_with fail
        refine (H1.out _).mono ?_
        rintro e w1 ⟨rfl, rfl⟩
        go_wp2_with fail
        refine (H3.out _).mono ?_
        rintro e w1 ⟨rfl, rfl⟩
        go_wp2_with fail
        refine (awake_any _).mono ?_
        rintro e w1 ⟨rfl, hb⟩
        have HB := Lib.hid hb
        clear hb
        go_wp2_with fail
        go_ret
        exact ⟨rfl, HB.out⟩
      · have h3 := h2 t (gpow_mod ha (by omega)) (by rw [gerr_ne ha, gerr_ne ha]) (by omega) (by omega)
        have H3 := Lib.hid h3
        have hzi : (t == 0) = false := by simpa using hz
        clear h2 h3 ha hm hb0 hb1 ht2 hz
        go_enter Try.func4, Try.ntmps4
        go_wp2_with fail
        refine (H1.out _).mono ?_
        rintro e w1 ⟨rfl, rfl⟩
        go_wp2_with fail
        refine (H3.out _).mono ?_
        rintro e w1 ⟨rfl, rfl⟩
        go_wp2_with fail
        refine (awake_any _).mono ?_
        rintro e w1 ⟨rfl, hb⟩
        have HB := Lib.hid hb
        clear hb
        go_wp2_with fail
        go_ret
        exact ⟨rfl, HB.out⟩
  · have h3 := h2 n rfl rfl (by omega) (by omega)
    have H3 := Lib.hid h3
    clear h2 h3
    go_enter Try.func4, Try.ntmps4
    go_wp2_with fail
    refine (H1.out _).mono ?_
    rintro e w1 ⟨rfl, rfl⟩
    go_wp2_with fail
    refine (H3.out _).mono ?_
    rintro e w1 ⟨rfl, rfl⟩
    go_wp2_with fail
    refine (awake_any _).mono ?_
    rintro e w1 ⟨rfl, hb⟩
    have HB := Lib.hid hb
    clear hb
    go_wp2_with fail
    go_ret
    exact ⟨rfl, HB.out⟩
end Go.Proofs.Ytcknmpcekmbcdaa

namespace Go.Proofs.Ytcknmpcekmbcdaa.gfPowersLaw
open Go.ChangeShapes Go.WideShapes Go.ChangeAt Go.RowKit
open Go.ChangeMaps (open_string shut_string)

theorem own : ownKnob Try.prog.godebug = none := by kernel_rfl
set_option maxRecDepth 100000 in
theorem lifted (os : Os) (started : os.Started) (H : Type) (enc : TypeId × Value → H) :
    ReturnsInHanded {} Try.checked os 4 .any (Rows.gfPowersSpec.pre6 enc Try.prog Try.f4 Rows.gfPowersRow.domain false) (Rows.gfPowersSpec.post enc Try.prog Try.f4 false true false false) := by
  refine returnsInHanded_of_change (C := Try.checked) own started (by kernel_rfl) Try.func4
    (ChangeSpec.witness6 (enc := enc) (C := Try.checked) false ⟨#[], #[.int .u8 0, .int .i64 0], []⟩ 8 (by kernel_rfl) (by kernel_rfl) (by kernel_rfl) (by kernel_rfl)) ?_
  intro W base args ds gs before hval0 hW hcnd _
  have hval : ∀ (j : Nat) t v, Try.f4.params[j]? = some t → args[j]? = some v → Value.okWide Try.prog W .any base t v := hval0
  have hW' := hW
  obtain ⟨p, q, hA0, hV, rfl, hfz, hnd⟩ := hW
  have hA : DataW.TrodAll enc Try.prog W 0 (fun _ => true) true Try.f4.params.toList args.toList ds p := hA0
  rw [Try.params4] at hA hval
  obtain ⟨v0, vs0, d0, ds0, p0, q0, hargs, rfl, rfl, h0, r0⟩ := trodAll_cons hA
  obtain ⟨v1, vs1, d1, ds1, p1, q1, rfl, rfl, rfl, h1, r1⟩ := trodAll_cons r0
  obtain ⟨rfl, rfl, rfl⟩ := trodAll_nil r1
  obtain rfl : args = #[v0, v1] := by cases args; simp_all
  obtain ⟨rfl, rfl⟩ := trodVars_none hV
  obtain ⟨n0, rfl, rfl, rfl, ws0⟩ := open_int Try.underlying5 (hval 0 5 v0 rfl rfl) h0
  obtain ⟨x0, rfl⟩ := u8_of ws0
  obtain ⟨n1, rfl, rfl, rfl, ws1⟩ := open_int Try.underlying3 (hval 1 3 v1 rfl rfl) h1
  have hbd1 := ws1
  simp only [Lit.wf, Bool.and_eq_true, decide_eq_true_eq] at hbd1
  clear hA0 hval0
  simp only [List.append_nil] at hW'
  refine (powers_law x0 n1 hbd1.1 hbd1.2 (w := W)).mono fun e W' ⟨he, hb⟩ => ?_
  subst he
  exact ⟨_, rfl, _, _, _, [], [], [], hW', trodAll_cons_mk (shut_bool Try.underlying4 _) trodAll_mk0, (trodAll_cons_mk (shut_int Try.underlying5 ws0) (trodAll_cons_mk (shut_int Try.underlying3 ws1) trodAll_mk0)), rfl, hb.frame _, fun h => by cases h⟩
theorem over : Rows.gfPowersRow.holds Try.pinned (OpenSpec.ofChange Rows.gfPowersSpec) :=
  OpenClaim.holds_of_wide 4 Try.f4 rfl rfl rfl rfl rfl rfl rfl ⟨rfl, rfl, rfl, rfl, rfl⟩ rfl rfl rfl rfl rfl (by kernel_rfl) Try.func4 (by kernel_rfl)
    (of_decide_eq_true (by kernel_rfl)) (by unfold Func.isWrapper; first | (rw [if_pos (by decide +kernel)]; kernel_rfl) | (rw [if_neg (by decide +kernel)]; exact ⟨rfl, rfl⟩))
    (fun os started H enc _ => lifted os started H enc)
end Go.Proofs.Ytcknmpcekmbcdaa.gfPowersLaw

namespace Go.Proofs.Ytcknmpcekmbcdaa
theorem gfPowers_said : Rows.GfPowersSaid := gfPowersLaw.over
end Go.Proofs.Ytcknmpcekmbcdaa
