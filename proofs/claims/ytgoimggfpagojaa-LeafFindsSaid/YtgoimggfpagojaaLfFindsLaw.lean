/- PROVED HERE: for every leaf and every text the law LeafFinds returns true (which leaf ahead of any leaf has a tag, as the reference finds it; of a leaf that may be it is none behind it), and both read afterwards as they did. No condition. -/
import Derived.Test.YtgoimggfpagojaaLfAwake
import Derived.Test.YtgoimggfpagojaaLfLaw
import Derived.Test.YtgoimggfpagojaaLfRFind
import Derived.Test.YtgoimggfpagojaaRows
import Derived.ProofKit
import Derived.OpenShut
namespace Go.Proofs.Ytgoimggfpagojaa
open Go.RowKit
open Cn

theorem findP_le {n : Int} (h0 : 0 ≤ n) : ∀ {l : List Po} {t : ByteArray}, (∀ p ∈ l, p.prev ≤ n) → (findP l t).1 ≤ n
  | [], _, _ => h0
  | p :: l, t, h => by
    unfold findP
    split
    · exact h p (by simp)
    · exact findP_le h0 fun q hq => h q (by simp [hq])
set_option maxRecDepth 100000 in
set_option maxHeartbeats 4000000 in
theorem finds_law {w : World} (x : LfA) (hx : x.Ok w) (tag : ByteArray) (ht : tag.size ≤ maxLen) :
    Calls Try.prog 6 #[.agg x.cs, .string tag] w fun e w' => e = .returned (.bool true) ∧ Below w.heap.size w w' := by
  obtain ⟨l, a0, cap⟩ := x
  unfold maxLen at ht
  unfold LfA.cs
  have hT := hx.tags
  have hm : l.tags.length ≤ maxLen := Nat.le_trans hx.len hx.cap
  simp only at hT hm
  clear hx
  obtain ⟨w1, hw1⟩ : ∃ w1, w1 = w.alloc (.cells (lfCs l a0 cap) 24) := ⟨_, rfl⟩
  have hb1 : Below w.heap.size w w1 := by rw [hw1]; exact (Below.refl _ _).alloc (Nat.le_refl _) _
  have hg1 : w1.heap[w.heap.size]? = some (.cells (lfCs l a0 cap) 24 (0, 0)) := by rw [hw1]; exact heap_alloc_new _ _
  have hT1 := hT.below hb1
  have cf := few17_any l a0 cap hm w1 hT1
  obtain ⟨c0, c1, c2, c3, c4⟩ := lf_cell hg1
  cases hf : fewL l with
  | false =>
    rw [hf] at cf
    have H := Lib.hid (And.intro cf hb1)
    clear cf hb1 hg1 hT1 hT hm hf
    unfold lfCs at *
    go_enter Try.func6, Try.ntmps6
    go_upto_region 1 with fail
    rw [← hw1]
    clear hw1
    go_wp2_with fail
    refine H.out.1.mono ?_
    rintro e w2 ⟨rfl, hb⟩
    have H2 := Lib.hid (H.out.2.trans (hb.mono H.out.2.size))
    clear hb
    go_wp2_with fail
    refine (awake17_any _).mono ?_
    rintro e w3 ⟨rfl, hb⟩
    have H3 := Lib.hid (H2.out.trans (hb.mono H2.out.size))
    clear hb
    go_wp2_with fail
    go_ret
    exact ⟨rfl, H3.out⟩
  | true =>
    rw [hf] at cf
    obtain ⟨f1, f2, f3, f4⟩ := fewL_iff.1 hf
    by_cases htag : tag.size ≤ 100
    rotate_left
    · have e1 : decide ((100 : Int) < (tag.size : Int)) = true := decide_eq_true (by omega)
      have H := Lib.hid (And.intro cf hb1)
      clear cf hb1 hg1 hT1 hT hm hf f1 f2 f3 f4 htag
      unfold lfCs at *
      go_enter Try.func6, Try.ntmps6
      go_upto_region 1 with fail
      rw [← hw1]
      clear hw1
      go_wp2_with fail
      refine H.out.1.mono ?_
      rintro e w2 ⟨rfl, hb⟩
      have H2 := Lib.hid (H.out.2.trans (hb.mono H.out.2.size))
      clear hb
      go_wp2_with fail
      refine (awake17_any _).mono ?_
      rintro e w3 ⟨rfl, hb⟩
      have H3 := Lib.hid (H2.out.trans (hb.mono H2.out.size))
      clear hb
      go_wp2_with fail
      go_ret
      exact ⟨rfl, H3.out⟩
    have e1 : decide ((100 : Int) < (tag.size : Int)) = false := decide_eq_false (by omega)
    have cfind := fun W (h : Below w1.heap.size w1 W) => find_any l tag a0 cap (by omega) W (hT1.below h)
    have cref := fun W (h : Below w1.heap.size w1 W) => ref17_any l a0 cap (by omega) W (hT1.below h)
    have crf := fun W a c (h : PoAt W a l.tags) => rfind_any l tag a c (by omega) W h
    have cck := fun W (h : Below w1.heap.size w1 W) => check17_any l a0 cap (by omega) W (hT1.below h)
    obtain ⟨P, hP⟩ : ∃ P, P = (findP l.tags tag).1 := ⟨_, rfl⟩
    obtain ⟨I, hI⟩ : ∃ I, I = (findP l.tags tag).2 := ⟨_, rfl⟩
    obtain ⟨B, hB⟩ : ∃ B, B = lfB l := ⟨_, rfl⟩
    have hle : B = true → P ≤ l.n := fun h => by
      rw [hB] at h
      obtain ⟨h1, h2⟩ := lfB_iff.1 h
      rw [hP]
      exact findP_le (headB_iff.1 h1).1.1 fun p hp => (h2.po hp).2.2
    rw [← hP, ← hI] at cfind
    simp only [← hP, ← hI] at crf
    rw [← hB] at cck
    have hPP : (P == P) = true := by simp
    have hII : (I == I) = true := by simp
    have H := Lib.hid (And.intro cf (And.intro cfind (And.intro cref (And.intro crf (And.intro cck (And.intro hb1 (And.intro hg1 hle)))))))
    clear cf cfind cref crf cck hb1 hg1 hT1 hT hm hf f1 f2 f3 f4 htag hP hI hle hB
    unfold lfCs at *
    go_enter Try.func6, Try.ntmps6
    go_upto_region 1 with fail
    rw [← hw1]
    clear hw1
    go_wp2_with fail
    refine H.out.1.mono ?_
    rintro e w2 ⟨rfl, hb⟩
    have hg2 := (hb.block _ (lt_of_heap H.out.2.2.2.2.2.2.1)).trans H.out.2.2.2.2.2.2.1
    clear c0 c1 c2 c3 c4
    obtain ⟨c0, c1, c2, c3, c4⟩ := lf_cell (l := l) hg2
    have H2 := Lib.hid (And.intro hb hg2)
    clear hb hg2
    go_wp2_with fail
    refine (H.out.2.1 _ H2.out.1).mono ?_
    rintro e w3 ⟨rfl, hb⟩
    have hg3 := (hb.block _ (lt_of_heap H2.out.2)).trans H2.out.2
    clear c0 c1 c2 c3 c4
    obtain ⟨c0, c1, c2, c3, c4⟩ := lf_cell (l := l) hg3
    have H3 := Lib.hid (And.intro (H2.out.1.trans (hb.mono H2.out.1.size)) hg3)
    clear hb hg3
    go_wp2_with fail
    refine (H.out.2.2.1 _ H3.out.1).mono ?_
    rintro e w4 ⟨a4, cp4, rfl, hP4, hb⟩
    have H4 := Lib.hid (And.intro (H3.out.1.trans (hb.mono H3.out.1.size)) (And.intro ((hb.block _ (lt_of_heap H3.out.2)).trans H3.out.2) (H.out.2.2.2.1 w4 a4 cp4 hP4)))
    clear hb hP4 c0 c1 c2 c3 c4
    go_wp2_with fail
    refine H4.out.2.2.mono ?_
    rintro e w5 ⟨rfl, hb⟩
    obtain ⟨w6, hw6⟩ : ∃ w6, w6 = w5.alloc (.cells #[.int .i64 P, .bool I] 46) := ⟨_, rfl⟩
    have hb6 : Below w5.heap.size w5 w6 := by rw [hw6]; exact (Below.refl _ _).alloc (Nat.le_refl _) _
    have hg6 : w6.heap[w5.heap.size]? = some (.cells #[.int .i64 P, .bool I] 46 (0, 0)) := by rw [hw6]; exact heap_alloc_new _ _
    have hb46 := hb.trans (hb6.mono hb.size)
    have H6 := Lib.hid (And.intro (H4.out.1.trans (hb46.mono H4.out.1.size)) (And.intro ((hb46.block _ (lt_of_heap H4.out.2.1)).trans H4.out.2.1) hg6))
    clear hb hb6 hg6 hb46
    go_upto_region 5 with fail
    rw [← hw6]
    clear hw6
    go_wp2_with fail
    refine (awake17_any _).mono ?_
    rintro e w7 ⟨rfl, hb⟩
    have hg7 := (hb.block _ (lt_of_heap H6.out.2.1)).trans H6.out.2.1
    have hg7b := (hb.block _ (lt_of_heap H6.out.2.2)).trans H6.out.2.2
    obtain ⟨c0, c1, c2, c3, c4⟩ := lf_cell (l := l) hg7
    have d0 : w7.cell? ⟨w5.heap.size, 0, none⟩ = some (.int .i64 P) := cell_of_row _ _ _ _ _ _ hg7b
    have d1 : w7.cell? ⟨w5.heap.size, 1, none⟩ = some (.bool I) := cell_of_row _ _ _ _ _ _ hg7b
    have H7 := Lib.hid (And.intro (H6.out.1.trans (hb.mono H6.out.1.size)) hg7)
    clear hb hg7 hg7b
    cases B with
    | false =>
      go_wp2_with fail
      refine (H.out.2.2.2.2.1 _ H7.out.1).mono ?_
      rintro e w8 ⟨rfl, hb⟩
      have H8 := Lib.hid (H.out.2.2.2.2.2.1.trans ((H7.out.1.trans (hb.mono H7.out.1.size)).mono H.out.2.2.2.2.2.1.size))
      clear hb
      go_wp2_with fail
      go_ret
      exact ⟨by first | rfl | simp, H8.out⟩
    | true =>
      have e2 : decide (P ≤ l.n) = true := decide_eq_true (H.out.2.2.2.2.2.2.2 rfl)
      go_wp2_with fail
      refine (H.out.2.2.2.2.1 _ H7.out.1).mono ?_
      rintro e w8 ⟨rfl, hb⟩
      have hg8 := (hb.block _ (lt_of_heap H7.out.2)).trans H7.out.2
      clear c0 c1 c2 c3 c4
      obtain ⟨c0, c1, c2, c3, c4⟩ := lf_cell (l := l) hg8
      have H8 := Lib.hid (H.out.2.2.2.2.2.1.trans ((H7.out.1.trans (hb.mono H7.out.1.size)).mono H.out.2.2.2.2.2.1.size))
      clear hb hg8
      go_wp2_with fail
      go_ret
      exact ⟨by first | rfl | simp, H8.out⟩
end Go.Proofs.Ytgoimggfpagojaa

namespace Go.Proofs.Ytgoimggfpagojaa.leafFindsLaw
open Go.ChangeShapes Go.WideShapes Go.ChangeAt Go.RowKit
open Go.ChangeMaps (open_string shut_string)

theorem own : ownKnob Try.prog.godebug = none := by kernel_rfl
set_option maxRecDepth 100000 in
theorem lifted (os : Os) (started : os.Started) (H : Type) (enc : TypeId × Value → H) :
    ReturnsInHanded {} Try.checked os 6 .any (Rows.leafFindsSpec.pre6 enc Try.prog Try.f6 Rows.leafFindsRow.domain false) (Rows.leafFindsSpec.post enc Try.prog Try.f6 false true false false) := by
  refine returnsInHanded_of_change (C := Try.checked) own started (by kernel_rfl) Try.func6
    (ChangeSpec.witness6 (enc := enc) (C := Try.checked) false ⟨#[], #[.agg #[.int .i64 0, .int .i64 0, .string ⟨#[]⟩, .slice none 0 0, .string ⟨#[]⟩], .string ⟨#[]⟩], []⟩ 8 (by kernel_rfl) (by kernel_rfl) (by kernel_rfl) (by kernel_rfl)) ?_
  intro W base args ds gs before hval0 hW hcnd _
  have hval : ∀ (j : Nat) t v, Try.f6.params[j]? = some t → args[j]? = some v → Value.okWide Try.prog W .any base t v := hval0
  have hW' := hW
  obtain ⟨p, q, hA0, hV, rfl, hfz, hnd⟩ := hW
  have hA : DataW.TrodAll enc Try.prog W 0 (fun _ => true) true Try.f6.params.toList args.toList ds p := hA0
  rw [Try.params6] at hA hval
  obtain ⟨v0, vs0, d0, ds0, p0, q0, hargs, rfl, rfl, h0, r0⟩ := trodAll_cons hA
  obtain ⟨v1, vs1, d1, ds1, p1, q1, rfl, rfl, rfl, h1, r1⟩ := trodAll_cons r0
  obtain ⟨rfl, rfl, rfl⟩ := trodAll_nil r1
  obtain rfl : args = #[v0, v1] := by cases args; simp_all
  obtain ⟨rfl, rfl⟩ := trodVars_none hV
  obtain ⟨cs0, rfl, hcs0⟩ := okWide_struct Try.underlying24 (hval 0 24 v0 rfl rfl)
  have hk0 := h0
  obtain ⟨fuel0, hf0⟩ := h0
  obtain ⟨s1, rfl, rfl, rfl, ws1⟩ := open_string Try.underlying9 (hval 1 9 v1 rfl rfl) h1
  clear hA0 hval0
  simp only [List.append_nil] at hW'
  have hlt0 : ∀ x ∈ p0, x.block < W.heap.size := fun x hx => by simpa using hW'.lt x (by simp [hx])
  obtain ⟨x0a, hit0, hf0a⟩ := open_leaf hf0 hlt0
  obtain rfl : cs0 = LfA.cs x0a := Array.toList_inj.1 hit0
  refine (finds_law x0a hf0a s1 (by simpa using ws1) (w := W)).mono fun e W' ⟨he, hb⟩ => ?_
  subst he
  exact ⟨_, rfl, _, _, _, [], _, [], hW', trodAll_cons_mk (shut_bool Try.underlying4 _) trodAll_mk0, (trodAll_cons_mk (Below.trod laidOut (by kernel_rfl) (of_decide_eq_true (by kernel_rfl)) hk0 hb hlt0) (trodAll_cons_mk (shut_string Try.underlying9 ws1) trodAll_mk0)), rfl, hb.frame _, fun h => by cases h⟩
theorem over : Rows.leafFindsRow.holds Try.pinned (OpenSpec.ofChange Rows.leafFindsSpec) :=
  OpenClaim.holds_of_wide 6 Try.f6 rfl rfl rfl rfl rfl rfl rfl ⟨rfl, rfl, rfl, rfl, rfl⟩ rfl rfl rfl rfl rfl (by kernel_rfl) Try.func6 (by kernel_rfl)
    (of_decide_eq_true (by kernel_rfl)) (by unfold Func.isWrapper; first | (rw [if_pos (by decide +kernel)]; kernel_rfl) | (rw [if_neg (by decide +kernel)]; exact ⟨rfl, rfl⟩))
    (fun os started H enc _ => lifted os started H enc)
end Go.Proofs.Ytgoimggfpagojaa.leafFindsLaw

namespace Go.Proofs.Ytgoimggfpagojaa
theorem leafFinds_said : Rows.LeafFindsSaid := leafFindsLaw.over
end Go.Proofs.Ytgoimggfpagojaa
