/- PROVED HERE: for every list of texts and every text the law ShapeFinds returns true (where a text stands among others, in how many steps, as the reference defines it), and both read afterwards as they did. No condition. -/
import Derived.Test.YtgighdiidblihaaHAwake
import Derived.Test.YtgighdiidblihaaRows
import Derived.ProofKit
import Derived.OpenShut
namespace Go.Proofs.Ytgighdiidblihaa
open Go.RowKit

set_option maxHeartbeats 1000000 in
theorem finds_law {w : World} (ss : List ByteArray) (a0 : Option Addr) (cap : Nat) (hT : TextsAt w a0 ss) (hm : ss.length ≤ maxLen) (s : ByteArray) (_ : s.size ≤ maxLen) :
    Calls Try.prog 6 #[.slice a0 ss.length cap, .string s] w fun e w' => e = .returned (.bool true) ∧ Below w.heap.size w w' := by
  have c0 := few_any ss a0 cap 30 200 w hT hm
  by_cases hF : FewOf ss 30 200
  · rw [fewB_true hF] at c0
    by_cases h2 : (200 : Int) < s.size
    · have H := Lib.hid (And.intro c0 hT)
      clear c0 hT hm hF
      go_enter Try.func6, Try.ntmps6
      go_wp2_with fail
      refine H.out.1.mono ?_
      rintro e w1 ⟨rfl, rfl⟩
      go_wp2_with fail
      refine (awake_any _).mono ?_
      rintro e w1 ⟨rfl, h1⟩
      go_wp2_with fail
      go_ret
      exact ⟨rfl, h1⟩
    · have hm1 : ss.length ≤ 1000 := by have := hF.1; omega
      have hz : ∀ j, j < ss.length → (ss.getD j ByteArray.empty).size ≤ 1000000 := fun j hj => by have := hF.2 j hj; omega
      have c1 := find_any ss a0 cap s w hT hm1 (by omega) hz
      have c2 := fun W (hb : Below w.heap.size w W) => rfind_any ss a0 cap s W (hT.below hb) hm1
      have c3 := fun W (hb : Below w.heap.size w W) => rsteps_any ss a0 cap s W (hT.below hb) hm1 (by omega) hz
      generalize findN ss s ss.length = f at *
      generalize stepsN ss s ss.length = t at *
      have H := Lib.hid (And.intro c0 (And.intro c1 (And.intro c2 c3)))
      clear c0 c1 c2 c3 hT hm hF hm1 hz
      go_enter Try.func6, Try.ntmps6
      go_wp2_with fail
      refine H.out.1.mono ?_
      rintro e w1 ⟨rfl, rfl⟩
      go_wp2_with fail
      refine H.out.2.1.mono ?_
      rintro e w1 ⟨rfl, rfl⟩
      go_wp2_with fail
      refine (awake_any _).mono ?_
      rintro e w2 ⟨rfl, k1⟩
      have K1 := Lib.hid k1
      clear k1
      go_wp2_with fail
      refine (H.out.2.2.1 _ K1.out).mono ?_
      rintro e w3 ⟨rfl, rfl⟩
      go_wp2_with fail
      refine (H.out.2.2.2 _ K1.out).mono ?_
      rintro e w3 ⟨rfl, rfl⟩
      go_wp2_with fail
      go_ret
      exact ⟨rfl, K1.out⟩
  · rw [fewB_false hF] at c0
    have H := Lib.hid c0
    clear c0 hT hm hF
    go_enter Try.func6, Try.ntmps6
    go_wp2_with fail
    refine H.out.mono ?_
    rintro e w1 ⟨rfl, rfl⟩
    go_wp2_with fail
    refine (awake_any _).mono ?_
    rintro e w1 ⟨rfl, h1⟩
    go_wp2_with fail
    go_ret
    exact ⟨rfl, h1⟩
end Go.Proofs.Ytgighdiidblihaa

namespace Go.Proofs.Ytgighdiidblihaa.shapeFindsLaw
open Go.ChangeShapes Go.WideShapes Go.ChangeAt Go.RowKit
open Go.ChangeMaps (open_string shut_string)

theorem own : ownKnob Try.prog.godebug = none := by kernel_rfl
set_option maxRecDepth 100000 in
theorem lifted (os : Os) (started : os.Started) (H : Type) (enc : TypeId × Value → H) :
    ReturnsInHanded {} Try.checked os 6 .any (Rows.shapeFindsSpec.pre6 enc Try.prog Try.f6 Rows.shapeFindsRow.domain false) (Rows.shapeFindsSpec.post enc Try.prog Try.f6 false true false false) := by
  refine returnsInHanded_of_change (C := Try.checked) own started (by kernel_rfl) Try.func6
    (ChangeSpec.witness6 (enc := enc) (C := Try.checked) false ⟨#[], #[.slice none 0 0, .string ⟨#[]⟩], []⟩ 8 (by kernel_rfl) (by kernel_rfl) (by kernel_rfl) (by kernel_rfl)) ?_
  intro W base args ds gs before hval0 hW hcnd _
  have hval : ∀ (j : Nat) t v, Try.f6.params[j]? = some t → args[j]? = some v → Value.okWide Try.prog W .any base t v := hval0
  have hW' := hW
  obtain ⟨p, q, hA0, hV, rfl, hfz, hnd⟩ := hW
  have hA : DataW.TrodAll enc Try.prog W 0 (fun _ => true) true Try.f6.params.toList args.toList ds p := hA0
  rw [Try.params6] at hA hval
  obtain ⟨v0, vs0, d0, ds0, p0, q0, hargs, rfl, rfl, h0, r0⟩ := trodAll_cons hA
  obtain ⟨v1, vs1, d1, ds1, p1, q1, rfl, rfl, rfl, h1, r1⟩ := trodAll_cons r0
  obtain ⟨rfl, rfl, rfl⟩ := trodAll_nil r1
  obtain rfl : args = #[v0, v1] := by cases args; simp_all
  obtain ⟨rfl, rfl⟩ := trodVars_none hV
  obtain ⟨a0, len0, cap0, rfl⟩ := okWide_slice Try.underlying40 (hval 0 40 v0 rfl rfl)
  have hk0 := h0
  obtain ⟨fuel0, hf0⟩ := h0
  obtain ⟨s1, rfl, rfl, rfl, ws1⟩ := open_string Try.underlying9 (hval 1 9 v1 rfl rfl) h1
  clear hA0 hval0
  simp only [List.append_nil] at hW'
  have hlt0 : ∀ x ∈ p0, x.block < W.heap.size := fun x hx => by simpa using hW'.lt x (by simp [hx])
  obtain ⟨ss0, hlen0, hmax0, hT0⟩ := texts_of hf0 hlt0
  subst hlen0
  refine (finds_law ss0 a0 cap0 hT0 hmax0 s1 (by simpa using ws1) (w := W)).mono fun e W' ⟨he, hb⟩ => ?_
  subst he
  exact ⟨_, rfl, _, _, _, [], _, [], hW', trodAll_cons_mk (shut_bool Try.underlying4 _) trodAll_mk0, (trodAll_cons_mk (Below.trod laidOut (by kernel_rfl) (of_decide_eq_true (by kernel_rfl)) hk0 hb hlt0) (trodAll_cons_mk (shut_string Try.underlying9 ws1) trodAll_mk0)), rfl, hb.frame _, fun h => by cases h⟩
theorem over : Rows.shapeFindsRow.holds Try.pinned (OpenSpec.ofChange Rows.shapeFindsSpec) :=
  OpenClaim.holds_of_wide 6 Try.f6 rfl rfl rfl rfl rfl rfl rfl ⟨rfl, rfl, rfl, rfl, rfl⟩ rfl rfl rfl rfl rfl (by kernel_rfl) Try.func6 (by kernel_rfl)
    (of_decide_eq_true (by kernel_rfl)) (by unfold Func.isWrapper; first | (rw [if_pos (by decide +kernel)]; kernel_rfl) | (rw [if_neg (by decide +kernel)]; exact ⟨rfl, rfl⟩))
    (fun os started H enc _ => lifted os started H enc)
end Go.Proofs.Ytgighdiidblihaa.shapeFindsLaw

namespace Go.Proofs.Ytgighdiidblihaa
theorem shapeFinds_said : Rows.ShapeFindsSaid := shapeFindsLaw.over
end Go.Proofs.Ytgighdiidblihaa
