/- PROVED HERE: for every three bytes the law GfField returns true (sum and product are those of a field). No condition. -/
import Derived.Test.YtcknmpcekmbcdaaGAwake
import Derived.Test.YtcknmpcekmbcdaaRows
import Derived.ProofKit
import Derived.OpenShut
namespace Go.Proofs.Ytcknmpcekmbcdaa
open Go.RowKit
open Gf

theorem add_v {a b s : UInt8} (h : s = a ^^^ b) (w : World) :
    Calls Try.prog 13 #[.int .u8 (a.toNat : Int), .int .u8 (b.toNat : Int)] w fun e w' => e = .returned (.int .u8 (s.toNat : Int)) ∧ w = w' := h ▸ add_any a b w
theorem mul_v {a b s : UInt8} (h : s = mul a b) (w : World) :
    Calls Try.prog 14 #[.int .u8 (a.toNat : Int), .int .u8 (b.toNat : Int)] w fun e w' => e = .returned (.int .u8 (s.toNat : Int)) ∧ w = w' := h ▸ mul_any a b w
theorem add_0 (a : UInt8) (w : World) :
    Calls Try.prog 13 #[.int .u8 (a.toNat : Int), .int .u8 0] w fun e w' => e = .returned (.int .u8 (a.toNat : Int)) ∧ w = w' := add_v (a := a) (b := 0) (by simp) w
theorem mul_1 (a : UInt8) (w : World) :
    Calls Try.prog 14 #[.int .u8 (a.toNat : Int), .int .u8 1] w fun e w' => e = .returned (.int .u8 (a.toNat : Int)) ∧ w = w' := mul_v (a := a) (b := 1) (mul_one a).symm w
theorem mul_0 (a : UInt8) (w : World) :
    Calls Try.prog 14 #[.int .u8 (a.toNat : Int), .int .u8 0] w fun e w' => e = .returned (.int .u8 0) ∧ w = w' := mul_v (a := a) (b := 0) (mul_zero a).symm w
theorem add_s (a : UInt8) (w : World) :
    Calls Try.prog 13 #[.int .u8 (a.toNat : Int), .int .u8 (a.toNat : Int)] w fun e w' => e = .returned (.int .u8 0) ∧ w = w' := add_v (a := a) (b := a) (s := 0) (by simp) w
theorem mul_u {a b : UInt8} (h : mul a b = 1) (w : World) :
    Calls Try.prog 14 #[.int .u8 (a.toNat : Int), .int .u8 (b.toNat : Int)] w fun e w' => e = .returned (.int .u8 1) ∧ w = w' := mul_v (a := a) (b := b) (s := 1) h.symm w
set_option maxRecDepth 100000 in
set_option maxHeartbeats 4000000 in
theorem field_law {w : World} (a b c : UInt8) :
    Calls Try.prog 7 #[.int .u8 (a.toNat : Int), .int .u8 (b.toNat : Int), .int .u8 (c.toNat : Int)] w fun e w' => e = .returned (.bool true) ∧ Below w.heap.size w w' := by
  obtain ⟨s, hs⟩ : ∃ s, s = a ^^^ b := ⟨_, rfl⟩
  obtain ⟨p, hp⟩ : ∃ p, p = mul a b := ⟨_, rfl⟩
  obtain ⟨q, hq⟩ : ∃ q, q = mul p c := ⟨_, rfl⟩
  obtain ⟨v, hv⟩ : ∃ v, v = mul b c := ⟨_, rfl⟩
  obtain ⟨u, hu⟩ : ∃ u, u = b ^^^ c := ⟨_, rfl⟩
  obtain ⟨r, hr⟩ : ∃ r, r = mul a u := ⟨_, rfl⟩
  obtain ⟨g, hg⟩ : ∃ g, g = mul a c := ⟨_, rfl⟩
  obtain ⟨i, hi⟩ : ∃ i, i = invz a := ⟨_, rfl⟩
  obtain ⟨x, hx⟩ : ∃ x, x = mul b i := ⟨_, rfl⟩
  have k1 := add_v hs
  have k2 := add_v (a := b) (b := a) (s := s) (by rw [hs, UInt8.xor_comm])
  have k3 := mul_v hp
  have k4 := mul_v (a := b) (b := a) (s := p) (by rw [hp, mul_comm])
  have k5 := mul_v hq
  have k6 := mul_v hv
  have k7 := mul_v (a := a) (b := v) (s := q) (by rw [hq, hp, hv, mul_assoc])
  have k8 := add_v hu
  have k9 := mul_v hr
  have k10 := mul_v hg
  have k11 := add_v (a := p) (b := g) (s := r) (by rw [hr, hu, hp, hg, mul_add])
  have k12 := gfinv_any a
  have k13 := gfdiv_any b a
  rw [← hi] at k12 k13
  rw [← hx] at k13
  have H := Lib.hid (And.intro k1 (And.intro k2 (And.intro k3 (And.intro k4 (And.intro k5 (And.intro k6 (And.intro k7 (And.intro k8 (And.intro k9 (And.intro k10 (And.intro k11 (And.intro k12 k13))))))))))))
  clear k1 k2 k3 k4 k5 k6 k7 k8 k9 k10 k11 k12 k13
  by_cases ha : a = 0
  · have e0 : ((a.toNat : Int) == 0) = true := by rw [ha]; rfl
    have e1 : ((a.toNat : Int) != 0) = false := by rw [ha]; rfl
    have p0 : ((p.toNat : Int) == 0) = true := by rw [hp, ha, zero_mul]; rfl
    have he : ierr a = 1 := if_pos ha
    rw [he] at H
    clear ha hs hp hq hv hu hr hg hi hx he
    go_enter Try.func7, Try.ntmps7
    go_wp2_with fail
    refine (H.out.1 _).mono ?_
    rintro e w' ⟨rfl, rfl⟩
    go_wp2_with fail
    refine (H.out.2.1 _).mono ?_
    rintro e w' ⟨rfl, rfl⟩
    go_wp2_with fail
    refine (H.out.2.2.1 _).mono ?_
    rintro e w' ⟨rfl, rfl⟩
    go_wp2_with fail
    refine (H.out.2.2.2.1 _).mono ?_
    rintro e w' ⟨rfl, rfl⟩
    go_wp2_with fail
    refine (H.out.2.2.1 _).mono ?_
    rintro e w' ⟨rfl, rfl⟩
    go_wp2_with fail
    refine (H.out.2.2.2.2.1 _).mono ?_
    rintro e w' ⟨rfl, rfl⟩
    go_wp2_with fail
    refine (H.out.2.2.2.2.2.1 _).mono ?_
    rintro e w' ⟨rfl, rfl⟩
    go_wp2_with fail
    refine (H.out.2.2.2.2.2.2.1 _).mono ?_
    rintro e w' ⟨rfl, rfl⟩
    go_wp2_with fail
    refine (H.out.2.2.2.2.2.2.2.1 _).mono ?_
    rintro e w' ⟨rfl, rfl⟩
    go_wp2_with fail
    refine (H.out.2.2.2.2.2.2.2.2.1 _).mono ?_
    rintro e w' ⟨rfl, rfl⟩
    go_wp2_with fail
    refine (H.out.2.2.1 _).mono ?_
    rintro e w' ⟨rfl, rfl⟩
    go_wp2_with fail
    refine (H.out.2.2.2.2.2.2.2.2.2.1 _).mono ?_
    rintro e w' ⟨rfl, rfl⟩
    go_wp2_with fail
    refine (H.out.2.2.2.2.2.2.2.2.2.2.1 _).mono ?_
    rintro e w' ⟨rfl, rfl⟩
    go_wp2_with fail
    refine (add_0 a _).mono ?_
    rintro e w' ⟨rfl, rfl⟩
    go_wp2_with fail
    refine (mul_1 a _).mono ?_
    rintro e w' ⟨rfl, rfl⟩
    go_wp2_with fail
    refine (mul_0 a _).mono ?_
    rintro e w' ⟨rfl, rfl⟩
    go_wp2_with fail
    refine (add_s a _).mono ?_
    rintro e w' ⟨rfl, rfl⟩
    go_wp2_with fail
    refine (H.out.2.2.1 _).mono ?_
    rintro e w' ⟨rfl, rfl⟩
    go_wp2_with fail
    refine (H.out.2.2.2.2.2.2.2.2.2.2.2.1 _).mono ?_
    rintro e w' ⟨rfl, rfl⟩
    go_wp2_with fail
    refine (H.out.2.2.2.2.2.2.2.2.2.2.2.2 _).mono ?_
    rintro e w' ⟨rfl, rfl⟩
    go_wp2_with fail
    refine (awake_any _).mono ?_
    rintro e w1 ⟨rfl, hb⟩
    have HB := Lib.hid hb
    clear hb
    go_wp2_with fail
    go_ret
    exact ⟨rfl, HB.out⟩
  · have e0 := u_ne ha
    have e1 : ((a.toNat : Int) != 0) = true := by rw [bne, e0]; rfl
    have he : ierr a = 0 := if_neg ha
    rw [he] at H
    have hia : mul a i = 1 := by rw [hi, show invz a = inv a from if_neg ha, mul_inv ha]
    have k1 := mul_u hia
    have k2 := mul_v (a := x) (b := a) (s := b) (by rw [hx, mul_assoc, mul_comm i a, hia, mul_one])
    have H2 := Lib.hid (And.intro k1 k2)
    clear k1 k2 hia he
    by_cases hb0 : b = 0
    · have p0 : ((p.toNat : Int) == 0) = true := by rw [hp, hb0, mul_zero]; rfl
      have b1 : ((b.toNat : Int) != 0) = false := by rw [hb0]; rfl
      clear ha hb0 hs hp hq hv hu hr hg hi hx
      go_enter Try.func7, Try.ntmps7
      go_wp2_with fail
      refine (H.out.1 _).mono ?_
      rintro e w' ⟨rfl, rfl⟩
      go_wp2_with fail
      refine (H.out.2.1 _).mono ?_
      rintro e w' ⟨rfl, rfl⟩
      go_wp2_with fail
      refine (H.out.2.2.1 _).mono ?_
      rintro e w' ⟨rfl, rfl⟩
      go_wp2_with fail
      refine (H.out.2.2.2.1 _).mono ?_
      rintro e w' ⟨rfl, rfl⟩
      go_wp2_with fail
      refine (H.out.2.2.1 _).mono ?_
      rintro e w' ⟨rfl, rfl⟩
      go_wp2_with fail
      refine (H.out.2.2.2.2.1 _).mono ?_
      rintro e w' ⟨rfl, rfl⟩
      go_wp2_with fail
      refine (H.out.2.2.2.2.2.1 _).mono ?_
      rintro e w' ⟨rfl, rfl⟩
      go_wp2_with fail
      refine (H.out.2.2.2.2.2.2.1 _).mono ?_
      rintro e w' ⟨rfl, rfl⟩
      go_wp2_with fail
      refine (H.out.2.2.2.2.2.2.2.1 _).mono ?_
      rintro e w' ⟨rfl, rfl⟩
      go_wp2_with fail
      refine (H.out.2.2.2.2.2.2.2.2.1 _).mono ?_
      rintro e w' ⟨rfl, rfl⟩
      go_wp2_with fail
      refine (H.out.2.2.1 _).mono ?_
      rintro e w' ⟨rfl, rfl⟩
      go_wp2_with fail
      refine (H.out.2.2.2.2.2.2.2.2.2.1 _).mono ?_
      rintro e w' ⟨rfl, rfl⟩
      go_wp2_with fail
      refine (H.out.2.2.2.2.2.2.2.2.2.2.1 _).mono ?_
      rintro e w' ⟨rfl, rfl⟩
      go_wp2_with fail
      refine (add_0 a _).mono ?_
      rintro e w' ⟨rfl, rfl⟩
      go_wp2_with fail
      refine (mul_1 a _).mono ?_
      rintro e w' ⟨rfl, rfl⟩
      go_wp2_with fail
      refine (mul_0 a _).mono ?_
      rintro e w' ⟨rfl, rfl⟩
      go_wp2_with fail
      refine (add_s a _).mono ?_
      rintro e w' ⟨rfl, rfl⟩
      go_wp2_with fail
      refine (H.out.2.2.1 _).mono ?_
      rintro e w' ⟨rfl, rfl⟩
      go_wp2_with fail
      refine (H.out.2.2.2.2.2.2.2.2.2.2.2.1 _).mono ?_
      rintro e w' ⟨rfl, rfl⟩
      go_wp2_with fail
      refine (H.out.2.2.2.2.2.2.2.2.2.2.2.2 _).mono ?_
      rintro e w' ⟨rfl, rfl⟩
      go_wp2_with fail
      refine (awake_any _).mono ?_
      rintro e w1 ⟨rfl, hb⟩
      have HB := Lib.hid hb
      clear hb
      go_wp2_with fail
      refine (H2.out.1 _).mono ?_
      rintro e w' ⟨rfl, rfl⟩
      go_wp2_with fail
      refine (H2.out.2 _).mono ?_
      rintro e w' ⟨rfl, rfl⟩
      go_wp2_with fail
      go_ret
      exact ⟨rfl, HB.out⟩
    · have hp0 : p ≠ 0 := fun e => by
        rcases mul_eq_zero (hp ▸ e) with h | h
        · exact ha h
        · exact hb0 h
      have p0 := u_ne hp0
      clear ha hb0 hp0 hs hp hq hv hu hr hg hi hx
      go_enter Try.func7, Try.ntmps7
      go_wp2_with fail
      refine (H.out.1 _).mono ?_
      rintro e w' ⟨rfl, rfl⟩
      go_wp2_with fail
      refine (H.out.2.1 _).mono ?_
      rintro e w' ⟨rfl, rfl⟩
      go_wp2_with fail
      refine (H.out.2.2.1 _).mono ?_
      rintro e w' ⟨rfl, rfl⟩
      go_wp2_with fail
      refine (H.out.2.2.2.1 _).mono ?_
      rintro e w' ⟨rfl, rfl⟩
      go_wp2_with fail
      refine (H.out.2.2.1 _).mono ?_
      rintro e w' ⟨rfl, rfl⟩
      go_wp2_with fail
      refine (H.out.2.2.2.2.1 _).mono ?_
      rintro e w' ⟨rfl, rfl⟩
      go_wp2_with fail
      refine (H.out.2.2.2.2.2.1 _).mono ?_
      rintro e w' ⟨rfl, rfl⟩
      go_wp2_with fail
      refine (H.out.2.2.2.2.2.2.1 _).mono ?_
      rintro e w' ⟨rfl, rfl⟩
      go_wp2_with fail
      refine (H.out.2.2.2.2.2.2.2.1 _).mono ?_
      rintro e w' ⟨rfl, rfl⟩
      go_wp2_with fail
      refine (H.out.2.2.2.2.2.2.2.2.1 _).mono ?_
      rintro e w' ⟨rfl, rfl⟩
      go_wp2_with fail
      refine (H.out.2.2.1 _).mono ?_
      rintro e w' ⟨rfl, rfl⟩
      go_wp2_with fail
      refine (H.out.2.2.2.2.2.2.2.2.2.1 _).mono ?_
      rintro e w' ⟨rfl, rfl⟩
      go_wp2_with fail
      refine (H.out.2.2.2.2.2.2.2.2.2.2.1 _).mono ?_
      rintro e w' ⟨rfl, rfl⟩
      go_wp2_with fail
      refine (add_0 a _).mono ?_
      rintro e w' ⟨rfl, rfl⟩
      go_wp2_with fail
      refine (mul_1 a _).mono ?_
      rintro e w' ⟨rfl, rfl⟩
      go_wp2_with fail
      refine (mul_0 a _).mono ?_
      rintro e w' ⟨rfl, rfl⟩
      go_wp2_with fail
      refine (add_s a _).mono ?_
      rintro e w' ⟨rfl, rfl⟩
      go_wp2_with fail
      refine (H.out.2.2.1 _).mono ?_
      rintro e w' ⟨rfl, rfl⟩
      go_wp2_with fail
      refine (H.out.2.2.2.2.2.2.2.2.2.2.2.1 _).mono ?_
      rintro e w' ⟨rfl, rfl⟩
      go_wp2_with fail
      refine (H.out.2.2.2.2.2.2.2.2.2.2.2.2 _).mono ?_
      rintro e w' ⟨rfl, rfl⟩
      go_wp2_with fail
      refine (awake_any _).mono ?_
      rintro e w1 ⟨rfl, hb⟩
      have HB := Lib.hid hb
      clear hb
      go_wp2_with fail
      refine (H2.out.1 _).mono ?_
      rintro e w' ⟨rfl, rfl⟩
      go_wp2_with fail
      refine (H2.out.2 _).mono ?_
      rintro e w' ⟨rfl, rfl⟩
      go_wp2_with fail
      go_ret
      exact ⟨rfl, HB.out⟩
end Go.Proofs.Ytcknmpcekmbcdaa

namespace Go.Proofs.Ytcknmpcekmbcdaa.gfFieldLaw
open Go.ChangeShapes Go.WideShapes Go.ChangeAt Go.RowKit
open Go.ChangeMaps (open_string shut_string)

theorem own : ownKnob Try.prog.godebug = none := by kernel_rfl
set_option maxRecDepth 100000 in
theorem lifted (os : Os) (started : os.Started) (H : Type) (enc : TypeId × Value → H) :
    ReturnsInHanded {} Try.checked os 7 .any (Rows.gfFieldSpec.pre6 enc Try.prog Try.f7 Rows.gfFieldRow.domain false) (Rows.gfFieldSpec.post enc Try.prog Try.f7 false true false false) := by
  refine returnsInHanded_of_change (C := Try.checked) own started (by kernel_rfl) Try.func7
    (ChangeSpec.witness6 (enc := enc) (C := Try.checked) false ⟨#[], #[.int .u8 0, .int .u8 0, .int .u8 0], []⟩ 8 (by kernel_rfl) (by kernel_rfl) (by kernel_rfl) (by kernel_rfl)) ?_
  intro W base args ds gs before hval0 hW hcnd _
  have hval : ∀ (j : Nat) t v, Try.f7.params[j]? = some t → args[j]? = some v → Value.okWide Try.prog W .any base t v := hval0
  have hW' := hW
  obtain ⟨p, q, hA0, hV, rfl, hfz, hnd⟩ := hW
  have hA : DataW.TrodAll enc Try.prog W 0 (fun _ => true) true Try.f7.params.toList args.toList ds p := hA0
  rw [Try.params7] at hA hval
  obtain ⟨v0, vs0, d0, ds0, p0, q0, hargs, rfl, rfl, h0, r0⟩ := trodAll_cons hA
  obtain ⟨v1, vs1, d1, ds1, p1, q1, rfl, rfl, rfl, h1, r1⟩ := trodAll_cons r0
  obtain ⟨v2, vs2, d2, ds2, p2, q2, rfl, rfl, rfl, h2, r2⟩ := trodAll_cons r1
  obtain ⟨rfl, rfl, rfl⟩ := trodAll_nil r2
  obtain rfl : args = #[v0, v1, v2] := by cases args; simp_all
  obtain ⟨rfl, rfl⟩ := trodVars_none hV
  obtain ⟨n0, rfl, rfl, rfl, ws0⟩ := open_int Try.underlying5 (hval 0 5 v0 rfl rfl) h0
  obtain ⟨x0, rfl⟩ := u8_of ws0
  obtain ⟨n1, rfl, rfl, rfl, ws1⟩ := open_int Try.underlying5 (hval 1 5 v1 rfl rfl) h1
  obtain ⟨x1, rfl⟩ := u8_of ws1
  obtain ⟨n2, rfl, rfl, rfl, ws2⟩ := open_int Try.underlying5 (hval 2 5 v2 rfl rfl) h2
  obtain ⟨x2, rfl⟩ := u8_of ws2
  clear hA0 hval0
  simp only [List.append_nil] at hW'
  refine (field_law x0 x1 x2 (w := W)).mono fun e W' ⟨he, hb⟩ => ?_
  subst he
  exact ⟨_, rfl, _, _, _, [], [], [], hW', trodAll_cons_mk (shut_bool Try.underlying4 _) trodAll_mk0, (trodAll_cons_mk (shut_int Try.underlying5 ws0) (trodAll_cons_mk (shut_int Try.underlying5 ws1) (trodAll_cons_mk (shut_int Try.underlying5 ws2) trodAll_mk0))), rfl, hb.frame _, fun h => by cases h⟩
theorem over : Rows.gfFieldRow.holds Try.pinned (OpenSpec.ofChange Rows.gfFieldSpec) :=
  OpenClaim.holds_of_wide 7 Try.f7 rfl rfl rfl rfl rfl rfl rfl ⟨rfl, rfl, rfl, rfl, rfl⟩ rfl rfl rfl rfl rfl (by kernel_rfl) Try.func7 (by kernel_rfl)
    (of_decide_eq_true (by kernel_rfl)) (by unfold Func.isWrapper; first | (rw [if_pos (by decide +kernel)]; kernel_rfl) | (rw [if_neg (by decide +kernel)]; exact ⟨rfl, rfl⟩))
    (fun os started H enc _ => lifted os started H enc)
end Go.Proofs.Ytcknmpcekmbcdaa.gfFieldLaw

namespace Go.Proofs.Ytcknmpcekmbcdaa
theorem gfField_said : Rows.GfFieldSaid := gfFieldLaw.over
end Go.Proofs.Ytcknmpcekmbcdaa
