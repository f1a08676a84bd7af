/- PROVED HERE: for every three texts the law ShapeOrders returns true (texts stand in one order: it goes through three, and two stand to one another as the other way round), and all read afterwards as they did. No condition. -/
import Derived.Test.YtgighdiidblihaaHAwake
import Derived.Test.YtgighdiidblihaaRows
import Derived.ProofKit
import Derived.OpenShut
namespace Go.Proofs.Ytgighdiidblihaa
open Go.RowKit

theorem cmpB_range (a b : ByteArray) : cmpB a b = -1 ∨ cmpB a b = 0 ∨ cmpB a b = 1 := cmpL_range _ _
theorem cmpB_swap (a b : ByteArray) : cmpB b a = - cmpB a b := cmpL_swap _ _
theorem cmpB_same (a b : ByteArray) : decide (a = b) = decide (cmpB a b = 0) := by
  by_cases h : a = b
  · subst h; rw [decide_eq_true rfl, decide_eq_true (show cmpB a a = 0 from cmpL_self _)]
  · rw [decide_eq_false h, decide_eq_false (show ¬ cmpB a b = 0 from fun e => h (bytes_of_list (cmpL_zero e)))]
theorem cmpB_le (a b c : ByteArray) : cmpB a b ≤ 0 → cmpB b c ≤ 0 → cmpB a c ≤ 0 := cmpL_le _ _ _
theorem cmpB_ge (a b c : ByteArray) : 0 ≤ cmpB a b → 0 ≤ cmpB b c → 0 ≤ cmpB a c := fun h k => by
  have := cmpB_le c b a (by rw [cmpB_swap b c]; omega) (by rw [cmpB_swap a b]; omega)
  rw [cmpB_swap a c] at this; omega
set_option maxHeartbeats 1000000 in
theorem orders_law (a : ByteArray) (_ : a.size ≤ maxLen) (b : ByteArray) (_ : b.size ≤ maxLen) (c : ByteArray) (_ : c.size ≤ maxLen) (w : World) :
    Calls Try.prog 8 #[.string a, .string b, .string c] w fun e w' => e = .returned (.bool true) ∧ Below w.heap.size w w' := by
  by_cases h1 : (300 : Int) < a.size
  · go_enter Try.func8, Try.ntmps8
    go_wp2_with fail
    refine (awake_any _).mono ?_
    rintro e w1 ⟨rfl, h1⟩
    go_wp2_with fail
    go_ret
    exact ⟨rfl, h1⟩
  by_cases h2 : (300 : Int) < b.size
  · go_enter Try.func8, Try.ntmps8
    go_wp2_with fail
    refine (awake_any _).mono ?_
    rintro e w1 ⟨rfl, h1⟩
    go_wp2_with fail
    go_ret
    exact ⟨rfl, h1⟩
  by_cases h3 : (300 : Int) < c.size
  · go_enter Try.func8, Try.ntmps8
    go_wp2_with fail
    refine (awake_any _).mono ?_
    rintro e w1 ⟨rfl, h1⟩
    go_wp2_with fail
    go_ret
    exact ⟨rfl, h1⟩
  have ha : a.size ≤ maxLen := by unfold maxLen; omega
  have hb : b.size ≤ maxLen := by unfold maxLen; omega
  have hc : c.size ≤ maxLen := by unfold maxLen; omega
  have c1 := order_any a b ha hb
  have c2 := order_any b c hb hc
  have c3 := order_any a c ha hc
  have c4 := order_any b a hb ha
  have c5 := equal_any a b ha hb
  rw [cmpB_swap a b] at c4
  rw [cmpB_same a b] at c5
  have l1 := cmpB_le a b c
  have l2 := cmpB_ge a b c
  have rx := cmpB_range a b
  have ry := cmpB_range b c
  have rz := cmpB_range a c
  generalize cmpB a b = x at *
  generalize cmpB b c = y at *
  generalize cmpB a c = z at *
  generalize longer a b = n1 at *
  generalize longer b c = n2 at *
  generalize longer a c = n3 at *
  generalize longer b a = n4 at *
  rcases rx with rfl | rfl | rfl <;> rcases ry with rfl | rfl | rfl <;> rcases rz with rfl | rfl | rfl <;> first
    | (exfalso; omega)
    | (have H := Lib.hid (And.intro c1 (And.intro c2 (And.intro c3 (And.intro c4 c5))))
       clear c1 c2 c3 c4 c5 ha hb hc l1 l2
       go_enter Try.func8, Try.ntmps8
       go_wp2_with fail
       refine (H.out.1 _).mono ?_
       rintro e w1 ⟨rfl, k1⟩
       have K1 := Lib.hid k1
       clear k1
       go_wp2_with fail
       refine (H.out.2.1 _).mono ?_
       rintro e w2 ⟨rfl, k2⟩
       have K2 := Lib.hid (below_call K1.out k2)
       clear k2
       go_wp2_with fail
       refine (H.out.2.2.1 _).mono ?_
       rintro e w3 ⟨rfl, k3⟩
       have K3 := Lib.hid (below_call K2.out k3)
       clear k3
       go_wp2_with fail
       refine (H.out.2.2.2.1 _).mono ?_
       rintro e w4 ⟨rfl, k4⟩
       have K4 := Lib.hid (below_call K3.out k4)
       clear k4
       go_wp2_with fail
       refine (H.out.2.2.2.2 _).mono ?_
       rintro e w5 ⟨rfl, rfl⟩
       go_wp2_with fail
       refine (awake_any _).mono ?_
       rintro e w5 ⟨rfl, k5⟩
       have K5 := Lib.hid (below_call K4.out k5)
       clear k5
       go_wp2_with fail
       go_ret
       exact ⟨rfl, K5.out⟩)
end Go.Proofs.Ytgighdiidblihaa

namespace Go.Proofs.Ytgighdiidblihaa.shapeOrdersLaw
open Go.ChangeShapes Go.WideShapes Go.ChangeAt Go.RowKit
open Go.ChangeMaps (open_string shut_string)

theorem own : ownKnob Try.prog.godebug = none := by kernel_rfl
set_option maxRecDepth 100000 in
theorem lifted (os : Os) (started : os.Started) (H : Type) (enc : TypeId × Value → H) :
    ReturnsInHanded {} Try.checked os 8 .any (Rows.shapeOrdersSpec.pre6 enc Try.prog Try.f8 Rows.shapeOrdersRow.domain false) (Rows.shapeOrdersSpec.post enc Try.prog Try.f8 false true false false) := by
  refine returnsInHanded_of_change (C := Try.checked) own started (by kernel_rfl) Try.func8
    (ChangeSpec.witness6 (enc := enc) (C := Try.checked) false ⟨#[], #[.string ⟨#[]⟩, .string ⟨#[]⟩, .string ⟨#[]⟩], []⟩ 8 (by kernel_rfl) (by kernel_rfl) (by kernel_rfl) (by kernel_rfl)) ?_
  intro W base args ds gs before hval0 hW hcnd _
  have hval : ∀ (j : Nat) t v, Try.f8.params[j]? = some t → args[j]? = some v → Value.okWide Try.prog W .any base t v := hval0
  have hW' := hW
  obtain ⟨p, q, hA0, hV, rfl, hfz, hnd⟩ := hW
  have hA : DataW.TrodAll enc Try.prog W 0 (fun _ => true) true Try.f8.params.toList args.toList ds p := hA0
  rw [Try.params8] at hA hval
  obtain ⟨v0, vs0, d0, ds0, p0, q0, hargs, rfl, rfl, h0, r0⟩ := trodAll_cons hA
  obtain ⟨v1, vs1, d1, ds1, p1, q1, rfl, rfl, rfl, h1, r1⟩ := trodAll_cons r0
  obtain ⟨v2, vs2, d2, ds2, p2, q2, rfl, rfl, rfl, h2, r2⟩ := trodAll_cons r1
  obtain ⟨rfl, rfl, rfl⟩ := trodAll_nil r2
  obtain rfl : args = #[v0, v1, v2] := by cases args; simp_all
  obtain ⟨rfl, rfl⟩ := trodVars_none hV
  obtain ⟨s0, rfl, rfl, rfl, ws0⟩ := open_string Try.underlying9 (hval 0 9 v0 rfl rfl) h0
  obtain ⟨s1, rfl, rfl, rfl, ws1⟩ := open_string Try.underlying9 (hval 1 9 v1 rfl rfl) h1
  obtain ⟨s2, rfl, rfl, rfl, ws2⟩ := open_string Try.underlying9 (hval 2 9 v2 rfl rfl) h2
  clear hA0 hval0
  simp only [List.append_nil] at hW'
  refine (orders_law s0 (by simpa using ws0) s1 (by simpa using ws1) s2 (by simpa using ws2) (w := W)).mono fun e W' ⟨he, hb⟩ => ?_
  subst he
  exact ⟨_, rfl, _, _, _, [], [], [], hW', trodAll_cons_mk (shut_bool Try.underlying4 _) trodAll_mk0, (trodAll_cons_mk (shut_string Try.underlying9 ws0) (trodAll_cons_mk (shut_string Try.underlying9 ws1) (trodAll_cons_mk (shut_string Try.underlying9 ws2) trodAll_mk0))), rfl, hb.frame _, fun h => by cases h⟩
theorem over : Rows.shapeOrdersRow.holds Try.pinned (OpenSpec.ofChange Rows.shapeOrdersSpec) :=
  OpenClaim.holds_of_wide 8 Try.f8 rfl rfl rfl rfl rfl rfl rfl ⟨rfl, rfl, rfl, rfl, rfl⟩ rfl rfl rfl rfl rfl (by kernel_rfl) Try.func8 (by kernel_rfl)
    (of_decide_eq_true (by kernel_rfl)) (by unfold Func.isWrapper; first | (rw [if_pos (by decide +kernel)]; kernel_rfl) | (rw [if_neg (by decide +kernel)]; exact ⟨rfl, rfl⟩))
    (fun os started H enc _ => lifted os started H enc)
end Go.Proofs.Ytgighdiidblihaa.shapeOrdersLaw

namespace Go.Proofs.Ytgighdiidblihaa
theorem shapeOrders_said : Rows.ShapeOrdersSaid := shapeOrdersLaw.over
end Go.Proofs.Ytgighdiidblihaa
