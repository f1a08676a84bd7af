/- Plain: what the texts of a root are, one by one. -/
import Derived.Test.YtdjhlgodecnidaaDoorTrTwin2
import Derived.Test.YtdjhlgodecnidaaDoorTrTexts
namespace Go.Proofs.YtdjhlgodecnidaaDoor
open Go.RowKit
open Tr

theorem sumT_node : ∀ (n : Nat) (l : List ByteArray), l.length = n → Tr.Digs l → ∀ x ∈ sumT l, ∃ a b, x = nodeT a b ∧ a.size = 32 ∧ b.size = 32 := by
  intro n
  induction n using Nat.strongRecOn with
  | ind n ih =>
    intro l hn hD x hx
    by_cases h2 : 2 ≤ l.length
    · have p1 := hf_pos l.length
      have p2 := hf_lt h2
      rw [sumT_two h2] at hx
      have t1 : (l.take (hf l.length)).length = hf l.length := by rw [List.length_take]; omega
      have t2 : (l.drop (hf l.length)).length = l.length - hf l.length := List.length_drop ..
      rcases List.mem_append.1 hx with hx | hx
      · rcases List.mem_append.1 hx with hx | hx
        · exact ih _ (by omega) _ t1 (hD.take _) x hx
        · exact ih _ (by omega) _ t2 (hD.drop _) x hx
      · simp only [List.mem_singleton] at hx
        exact ⟨_, _, hx, root_size (hD.take _), root_size (hD.drop _)⟩
    · rw [sumT_one (by omega)] at hx
      cases hx
theorem sumT_root {l : List ByteArray} (h : 2 ≤ l.length) : ∃ x ∈ sumT l, sumE x = root l := by
  refine ⟨nodeT (root (l.take (hf l.length))) (root (l.drop (hf l.length))), ?_, (root_two h).symm⟩
  rw [sumT_two h]
  simp
theorem nodeT_first (a b : ByteArray) : (nodeT a b).data.toList[0]? = some 1 := by rw [nodeT_data]; rfl
/-- The texts of a root. -/
def txts (ss : List ByteArray) : List ByteArray := ss.map leafT ++ sumT (ss.map leaf)
theorem txts_length (ss : List ByteArray) : (txts ss).length = 2 * ss.length - 1 := by
  unfold txts
  rw [List.length_append, List.length_map, sumT_length _ _ rfl, List.length_map]
  omega
theorem txts_leaf {ss : List ByteArray} {i : Nat} (h : i < ss.length) : gt (txts ss) i = leafT (gt ss i) := by
  unfold gt txts
  rw [List.getD_eq_getElem?_getD, List.getD_eq_getElem?_getD, List.getElem?_append_left (by rw [List.length_map]; exact h), List.getElem?_map, List.getElem?_eq_getElem h]
  rfl
theorem txts_node {ss : List ByteArray} {i : Nat} (h : ss.length ≤ i) (h2 : i < (txts ss).length) : ∃ a b, gt (txts ss) i = nodeT a b ∧ a.size = 32 ∧ b.size = 32 := by
  refine sumT_node _ (ss.map leaf) rfl (digs_leaves ss) _ ?_
  have e : gt (txts ss) i = gt (sumT (ss.map leaf)) (i - ss.length) := by
    unfold gt txts
    rw [List.getD_eq_getElem?_getD, List.getD_eq_getElem?_getD, List.getElem?_append_right (by rw [List.length_map]; exact h), List.length_map]
  rw [e]
  refine gt_mem ?_
  unfold txts at h2
  rw [List.length_append, List.length_map] at h2
  omega
theorem txts_root {ss : List ByteArray} (h : 1 ≤ ss.length) : ∃ i, i < (txts ss).length ∧ sumE (gt (txts ss) i) = root (ss.map leaf) := by
  have key : ∃ x ∈ txts ss, sumE x = root (ss.map leaf) := by
    by_cases h2 : 2 ≤ ss.length
    · obtain ⟨x, hx, e⟩ := sumT_root (l := ss.map leaf) (by rw [List.length_map]; exact h2)
      exact ⟨x, List.mem_append_right _ hx, e⟩
    · cases ss with
      | nil => simp at h
      | cons a r =>
        have : r = [] := by
          cases r with
          | nil => rfl
          | cons b r => simp at h2
        subst this
        exact ⟨leafT a, by simp [txts], rfl⟩
  obtain ⟨x, hx, e⟩ := key
  obtain ⟨i, hi, rfl⟩ := List.mem_iff_getElem.1 hx
  refine ⟨i, hi, ?_⟩
  rw [← e]
  unfold gt
  rw [List.getD_eq_getElem?_getD, List.getElem?_eq_getElem hi]
  rfl
theorem txts_size {ss : List ByteArray} {m : Nat} (hs : ∀ j, j < ss.length → (gt ss j).size ≤ m) (hm : 64 ≤ m) (i : Nat) (h : i < (txts ss).length) : (gt (txts ss) i).size ≤ m + 1 := by
  by_cases h2 : i < ss.length
  · rw [txts_leaf h2]
    unfold leafT
    rw [ByteArray.size_append]
    have := hs i h2
    show 1 + _ ≤ _
    omega
  · obtain ⟨a, b, e, ha, hb⟩ := txts_node (by omega) h
    rw [e, nodeT_size, ha, hb]
    omega
end Go.Proofs.YtdjhlgodecnidaaDoor
