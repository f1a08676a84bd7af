/- Words, without a program: the place of a text in a list that rises; one more among the first ones; sorted texts, each once. -/
import Derived.Test.YtgoimggfpagojaaDoorWdMath
namespace Go.Proofs.YtgoimggfpagojaaDoor

namespace Wd
/-- How many of a list's first ones are less. -/
def rank : List ByteArray → ByteArray → Nat
  | [], _ => 0
  | x :: r, s => if less x s = true then rank r s + 1 else 0
theorem rank_le : ∀ (l : List ByteArray) (s : ByteArray), rank l s ≤ l.length
  | [], _ => Nat.le_refl _
  | x :: r, s => by
    unfold rank
    split
    · have := rank_le r s; simp; omega
    · simp
theorem rank_lt : ∀ {l : List ByteArray} {s : ByteArray} {t : Nat}, t < rank l s → less (l.getD t s) s = true
  | [], _, _, h => by simp [rank] at h
  | x :: r, s, t, h => by
    unfold rank at h
    split at h
    · rename_i hx
      cases t with
      | zero => simpa using hx
      | succ t => simpa using rank_lt (l := r) (t := t) (by omega)
    · omega
theorem rank_ge : ∀ {l : List ByteArray} {s : ByteArray} {t : Nat}, Rises l → rank l s ≤ t → less (l.getD t s) s = false
  | [], s, t, _, _ => by simp [less_irrefl]
  | x :: r, s, t, hr, h => by
    have h' := List.pairwise_cons.1 hr
    unfold rank at h
    split at h
    · cases t with
      | zero => omega
      | succ t => simpa using rank_ge (l := r) (t := t) h'.2 (by omega)
    · rename_i hx
      cases t with
      | zero => simpa using hx
      | succ t =>
        by_cases ht : t < r.length
        · have hm : r.getD t s ∈ r := by
            rw [List.getD_eq_getElem?_getD, List.getElem?_eq_getElem ht]; exact List.getElem_mem ht
          have h1 := h'.1 _ hm
          cases e : less ((x :: r).getD (t + 1) s) s with
          | false => rfl
          | true => exact absurd (less_trans h1 (by simpa using e)) hx
        · have e : (x :: r).getD (t + 1) s = s := by
            rw [List.getD_eq_getElem?_getD, List.getElem?_eq_none (by simp; omega)]; rfl
          rw [e]; exact less_irrefl _
/-- A text in a list that rises: where it goes. -/
theorem put_at : ∀ {l : List ByteArray} {s : ByteArray}, Rises l → put l s = if l[rank l s]? = some s then l else l.take (rank l s) ++ s :: l.drop (rank l s)
  | [], s, _ => by simp [put, rank]
  | x :: r, s, hr => by
    have h' := List.pairwise_cons.1 hr
    unfold put
    by_cases e : x = s
    · subst e
      have hk : rank (x :: r) x = 0 := by unfold rank; rw [less_irrefl]; rfl
      rw [if_pos rfl, hk, if_pos (by simp)]
    · rw [if_neg e]
      by_cases h1 : less s x = true
      · have hk : rank (x :: r) s = 0 := by unfold rank; rw [less_asymm h1]; rfl
        rw [if_pos h1, hk, if_neg (by simpa using e)]; rfl
      · have h2 : less x s = true := by
          rcases less_total e with h | h
          · exact h
          · exact absurd h h1
        have hk : rank (x :: r) s = rank r s + 1 := by conv => lhs; unfold rank
                                                       rw [if_pos h2]
        rw [if_neg h1, hk, put_at h'.2]
        simp only [List.getElem?_cons_succ, List.take_succ_cons, List.drop_succ_cons]
        split <;> rfl
theorem take_short (x : ByteArray) (r : List ByteArray) : ∀ n, (x :: r).take n = (x :: r.take n).take n
  | 0 => rfl
  | n + 1 => by rw [List.take_succ_cons, List.take_succ_cons, List.take_take]; congr 2; omega
theorem put_take : ∀ (n : Nat) (l : List ByteArray) (s : ByteArray), (put l s).take n = (put (l.take n) s).take n
  | 0, _, _ => by simp
  | n + 1, [], s => rfl
  | n + 1, x :: r, s => by
    rw [List.take_succ_cons, put, put]
    by_cases e : x = s
    · rw [if_pos e, if_pos e, List.take_succ_cons, List.take_succ_cons, List.take_take, Nat.min_self]
    · rw [if_neg e, if_neg e]
      by_cases h1 : less s x = true
      · rw [if_pos h1, if_pos h1, List.take_succ_cons, List.take_succ_cons, take_short x r n]
      · rw [if_neg h1, if_neg h1, List.take_succ_cons, List.take_succ_cons, put_take n r s]
/-- One more among the first twelve. -/
theorem with_there {l : List ByteArray} {s : ByteArray} (hr : Rises l) (hl : l.length ≤ 12) (h : l[rank l s]? = some s ∨ rank l s = 12) : (put l s).take 12 = l := by
  rw [put_at hr]
  by_cases e : l[rank l s]? = some s
  · rw [if_pos e, List.take_of_length_le hl]
  · rcases h with h | h
    · exact absurd h e
    · have := rank_le l s
      rw [if_neg e, h, List.take_of_length_le hl, List.drop_eq_nil_of_le hl, List.take_append_of_le_length (by omega), List.take_of_length_le hl]
theorem with_in {l : List ByteArray} {s : ByteArray} (hr : Rises l) (hl : l.length ≤ 12) (h : ¬ l[rank l s]? = some s) (h2 : rank l s ≠ 12) :
    (put l s).take 12 = (l.take 11).take (rank l s) ++ s :: (l.take 11).drop (rank l s) := by
  have hk := rank_le l s
  rw [put_at hr, if_neg h, List.take_append, List.length_take, Nat.min_eq_left hk, List.take_take, List.take_take, Nat.min_eq_right (by omega), Nat.min_eq_left (by omega), List.drop_take,
    show 12 - rank l s = (11 - rank l s) + 1 by omega, List.take_succ_cons]
theorem with_short {l : List ByteArray} {s : ByteArray} (hr : Rises l) (hl : l.length ≤ 11) (h : ¬ l[rank l s]? = some s) : (put l s).take 12 = l.take (rank l s) ++ s :: l.drop (rank l s) := by
  have hk := rank_le l s
  rw [with_in hr (by omega) h (by omega), List.take_of_length_le hl]
theorem put_has {l : List ByteArray} {s : ByteArray} : l[rank l s]? = some s ↔ rank l s < l.length ∧ l.getD (rank l s) s = s := by
  constructor
  · intro h
    have hk := (List.getElem?_eq_some_iff.1 h).1
    exact ⟨hk, by rw [List.getD_eq_getElem?_getD, h]; rfl⟩
  · rintro ⟨h1, h2⟩
    rw [List.getD_eq_getElem?_getD, List.getElem?_eq_getElem h1] at h2
    rw [List.getElem?_eq_getElem h1]
    exact congrArg some h2
theorem rises_take {l : List ByteArray} (h : Rises l) (n : Nat) : Rises (l.take n) := h.sublist (List.take_sublist _ _)
end Wd
end Go.Proofs.YtgoimggfpagojaaDoor
