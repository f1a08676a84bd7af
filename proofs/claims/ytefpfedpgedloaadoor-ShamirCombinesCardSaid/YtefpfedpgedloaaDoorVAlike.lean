/- shamir.Check, alike. -/
import Derived.Test.YtefpfedpgedloaaDoorVSplit
import Derived.Deep.RegionWith
import Derived.Deep.RegionHeld
import Derived.Deep.DeepCutAuto
namespace Go.Proofs.YtefpfedpgedloaaDoor
open Go.RowKit
open Gf

theorem okS_decide (s : Shr) : okS s = (decide (1 ≤ s.x) && decide (s.x ≤ 255) && decide (1 ≤ s.need) && decide (s.need ≤ 255) && mayS s.y) := rfl
set_option maxRecDepth 100000 in
set_option maxHeartbeats 1000000 in
theorem check_any (s : Shr) (hs : s.y.size ≤ maxLen) (w : World) :
    Calls Tryd.prog 37 #[.agg #[.int .i64 s.x, .int .i64 s.need, .string s.y]] w fun e w' => e = .returned (.bool (okS s)) ∧ Below w.heap.size w w' := by
  have hm := mayBeSplit_any s.y hs
  have hb0 : Below w.heap.size w (w.alloc (.cells #[.int .i64 s.x, .int .i64 s.need, .string s.y] 41)) := (Below.refl _ _).alloc (Nat.le_refl _) _
  have hg := heap_alloc_new w (.cells #[.int .i64 s.x, .int .i64 s.need, .string s.y] 41)
  have c0 : (w.alloc (.cells #[.int .i64 s.x, .int .i64 s.need, .string s.y] 41)).cell? ⟨w.heap.size, 0, none⟩ = some (.int .i64 s.x) := by rw [cell_of_row _ _ _ _ _ _ hg]; rfl
  have c1 : (w.alloc (.cells #[.int .i64 s.x, .int .i64 s.need, .string s.y] 41)).cell? ⟨w.heap.size, 1, none⟩ = some (.int .i64 s.need) := by rw [cell_of_row _ _ _ _ _ _ hg]; rfl
  have c2 : (w.alloc (.cells #[.int .i64 s.x, .int .i64 s.need, .string s.y] 41)).cell? ⟨w.heap.size, 2, none⟩ = some (.string s.y) := by rw [cell_of_row _ _ _ _ _ _ hg]; rfl
  have H := Lib.hid (And.intro hm hb0)
  clear hm hb0 hg
  rw [okS_decide]
  by_cases h1 : 1 ≤ s.x
  · by_cases h2 : s.x ≤ 255
    · by_cases h3 : 1 ≤ s.need
      · by_cases h4 : s.need ≤ 255
        · rw [decide_eq_true h1, decide_eq_true h2, decide_eq_true h3, decide_eq_true h4, Bool.true_and, Bool.true_and, Bool.true_and, Bool.true_and]
          go_enter Tryd.func37, Tryd.ntmps37
          go_wp2_with fail
          refine (H.out.1 _).mono ?_
          rintro e w1 ⟨rfl, rfl⟩
          go_wp2_with fail
          go_ret
          exact ⟨rfl, H.out.2⟩
        · rw [decide_eq_false h4, Bool.and_false, Bool.false_and]
          go_enter Tryd.func37, Tryd.ntmps37
          go_wp2_with fail
          go_ret
          exact ⟨rfl, H.out.2⟩
      · rw [decide_eq_false h3, Bool.and_false, Bool.false_and, Bool.false_and]
        go_enter Tryd.func37, Tryd.ntmps37
        go_wp2_with fail
        go_ret
        exact ⟨rfl, H.out.2⟩
    · rw [decide_eq_false h2, Bool.and_false, Bool.false_and, Bool.false_and, Bool.false_and]
      go_enter Tryd.func37, Tryd.ntmps37
      go_wp2_with fail
      go_ret
      exact ⟨rfl, H.out.2⟩
  · rw [decide_eq_false h1, Bool.false_and, Bool.false_and, Bool.false_and, Bool.false_and]
    go_enter Tryd.func37, Tryd.ntmps37
    go_wp2_with fail
    go_ret
    exact ⟨rfl, H.out.2⟩
/-- The first k shares are alike. -/
structure AlkT (n : Int) (m : Nat) (l : List Shr) (k : Nat) : Prop where
  each : ∀ s ∈ l.take k, okS s = true ∧ s.need = n ∧ s.y.size = m
  unlike : ((l.take k).map Shr.x).Nodup
theorem take_snocS {l : List Shr} {k : Nat} {s : Shr} (h : l[k]? = some s) : l.take (k + 1) = l.take k ++ [s] := by
  rw [List.take_add_one, h]; rfl
theorem AlkT.zero (n : Int) (m : Nat) (l : List Shr) : AlkT n m l 0 := ⟨fun s hs => by simp at hs, by simp⟩
theorem AlkT.step {n : Int} {m : Nat} {l : List Shr} {k : Nat} {s : Shr} (h : AlkT n m l k) (hs : l[k]? = some s) (h1 : okS s = true) (h2 : s.need = n) (h3 : s.y.size = m) (h4 : s.x ∉ (l.take k).map Shr.x) : AlkT n m l (k + 1) := by
  refine ⟨fun t ht => ?_, ?_⟩
  · rw [take_snocS hs, List.mem_append, List.mem_singleton] at ht
    rcases ht with ht | rfl
    · exact h.each t ht
    · exact ⟨h1, h2, h3⟩
  · rw [take_snocS hs, List.map_append, List.nodup_append]
    refine ⟨h.unlike, by simp, fun a ha b hb e => ?_⟩
    simp at hb
    subst hb e
    exact h4 ha
theorem AlkT.whole {l : List Shr} (h : AlkT (need0 l) (len0 l) l l.length) : alk l = true := by
  obtain ⟨h1, h2⟩ := h
  rw [List.take_length] at h1 h2
  rw [alk_iff]
  exact ⟨fun s hs => (h1 s hs).1, fun s hs => (h1 s hs).2.1, fun s hs => (h1 s hs).2.2, h2⟩
theorem alk_bad {l : List Shr} {k : Nat} {s : Shr} (hs : l[k]? = some s) (h : ¬ (okS s = true ∧ s.need = need0 l ∧ s.y.size = len0 l ∧ s.x ∉ (l.take k).map Shr.x)) : alk l = false := by
  cases e : alk l with
  | false => rfl
  | true =>
    have ha := alk_iff.1 e
    have hm := List.mem_of_getElem? hs
    refine absurd ⟨ha.ok s hm, ha.need s hm, ha.size s hm, fun hx => ?_⟩ h
    have hu := ha.unlike
    rw [← List.take_append_drop k l, List.map_append, List.nodup_append] at hu
    refine hu.2.2 _ hx s.x ?_ rfl
    rw [List.mem_map]
    refine ⟨s, List.mem_of_getElem? (i := 0) ?_, rfl⟩
    rw [List.getElem?_drop, Nat.add_zero]; exact hs
theorem mem_bys {l : List Shr} {n : Int} {m k : Nat} (h : AlkT n m l k) {x : Int} (h0 : 0 ≤ x) (h1 : x ≤ 255) : bx x ∈ bys (l.take k) ↔ x ∈ (l.take k).map Shr.x := by
  unfold bys
  rw [List.mem_map, List.mem_map]
  constructor
  · rintro ⟨t, ht, e⟩
    have := (okS_iff.1 (h.each t ht).1).1
    exact ⟨t, ht, bx_inj (by omega) (by omega) h0 h1 e⟩
  · rintro ⟨t, ht, rfl⟩; exact ⟨t, ht, rfl⟩
end Go.Proofs.YtefpfedpgedloaaDoor
