/- What layer 21 says of books, plainly. -/
import Derived.Test.YtnkkbinbeildmaaPyMath
namespace Go.Proofs.Ytnkkbinbeildmaa
open Go.RowKit
namespace Bk
structure Good (l : List En) : Prop where
  ids : l.Pairwise (fun x y => x.q.id ≠ y.q.id)
  may : ∀ x ∈ l, Py.mayB x.q = true
  st : ∀ x ∈ l, 1 ≤ x.st ∧ x.st ≤ 4
  few : l.length ≤ 200
theorem Good.nil : Good [] := ⟨List.Pairwise.nil, by simp, by simp, by simp⟩
theorem find_of {l : List En} (h : Good l) {i : Nat} {x : En} (hi : l[i]? = some x) : findN l x.q.id = i := by
  refine Py.first_is (x := x) (fun j hj y hy => ?_) hi (by simp)
  obtain ⟨h1, e1⟩ := List.getElem?_eq_some_iff.1 hi
  obtain ⟨h2, e2⟩ := List.getElem?_eq_some_iff.1 hy
  have := List.pairwise_iff_getElem.1 h.ids j i h2 h1 hj
  rw [e1, e2] at this
  simpa using this
theorem find_at {l : List En} {id : Int} {x : En} (h : l[findN l id]? = some x) : x.q.id = id := by
  have := Py.first_at h
  simpa using this
theorem find_le (l : List En) (id : Int) : findN l id ≤ l.length := Py.first_le _ _
theorem find_no {l : List En} {id : Int} (h : findN l id = l.length) : ∀ x ∈ l, x.q.id ≠ id := fun x hx => by
  obtain ⟨i, hi⟩ := List.mem_iff_getElem?.1 hx
  have h1 := (List.getElem?_eq_some_iff.1 hi).1
  have := Py.first_before (p := fun x : En => decide (x.q.id = id)) (show i < findN l id by omega) hi
  simpa using this
theorem setS_length (l : List En) (i : Nat) (s : Int) : (setS l i s).length = l.length := by unfold setS; split <;> simp
theorem setS_at {l : List En} {i : Nat} {s : Int} {j : Nat} {y : En} (hj : l[j]? = some y) : (setS l i s)[j]? = some (if j = i then ⟨y.q, s⟩ else y) := by
  unfold setS
  split
  · rename_i hn
    have : j ≠ i := fun e => by rw [e, hn] at hj; cases hj
    rw [if_neg this, hj]
  · rename_i x hx
    by_cases e : j = i
    · subst e
      rw [hx] at hj; injection hj with hj; subst hj
      rw [if_pos rfl, List.getElem?_set_self (List.getElem?_eq_some_iff.1 hx).1]
    · rw [if_neg e, List.getElem?_set_ne (fun h => e h.symm), hj]
theorem setS_of {l : List En} {i : Nat} {s : Int} {j : Nat} {y : En} (hj : (setS l i s)[j]? = some y) : ∃ z, l[j]? = some z ∧ y.q = z.q ∧ (y = z ∨ y.st = s) := by
  have h1 := (List.getElem?_eq_some_iff.1 hj).1
  rw [setS_length] at h1
  obtain ⟨z, hz⟩ : ∃ z, l[j]? = some z := ⟨_, List.getElem?_eq_getElem h1⟩
  rw [setS_at (i := i) (s := s) hz] at hj
  injection hj with hj
  refine ⟨z, hz, ?_⟩
  split at hj
  · subst hj; exact ⟨rfl, .inr rfl⟩
  · subst hj; exact ⟨rfl, .inl rfl⟩
theorem Good.set {l : List En} (h : Good l) (i : Nat) {s : Int} (hs : 1 ≤ s ∧ s ≤ 4) : Good (setS l i s) := by
  refine ⟨?_, fun y hy => ?_, fun y hy => ?_, by rw [setS_length]; exact h.few⟩
  · rw [List.pairwise_iff_getElem]
    intro a b ha hb hab
    obtain ⟨x, hx, e1, -⟩ := setS_of (List.getElem?_eq_getElem ha)
    obtain ⟨y, hy, e2, -⟩ := setS_of (List.getElem?_eq_getElem hb)
    obtain ⟨h1, f1⟩ := List.getElem?_eq_some_iff.1 hx
    obtain ⟨h2, f2⟩ := List.getElem?_eq_some_iff.1 hy
    have := List.pairwise_iff_getElem.1 h.ids a b h1 h2 hab
    rw [f1, f2] at this
    rw [e1, e2]; exact this
  · obtain ⟨j, hj⟩ := List.mem_iff_getElem?.1 hy
    obtain ⟨z, hz, e, -⟩ := setS_of hj
    rw [e]; exact h.may z (List.mem_of_getElem? hz)
  · obtain ⟨j, hj⟩ := List.mem_iff_getElem?.1 hy
    obtain ⟨z, hz, -, e⟩ := setS_of hj
    rcases e with e | e
    · rw [e]; exact h.st z (List.mem_of_getElem? hz)
    · rw [e]; exact hs
theorem Good.put {l : List En} (h : Good l) {q : Py.Q} (hq : Py.mayB q = true) (hf : findN l q.id = l.length) (hl : l.length < 200) : Good (l ++ [⟨q, 1⟩]) := by
  refine ⟨?_, fun y hy => ?_, fun y hy => ?_, by simp; omega⟩
  · rw [List.pairwise_append]
    refine ⟨h.ids, by simp, fun x hx y hy => ?_⟩
    simp at hy; subst hy
    exact find_no hf x hx
  · rw [List.mem_append] at hy
    rcases hy with hy | hy
    · exact h.may y hy
    · simp at hy; subst hy; exact hq
  · rw [List.mem_append] at hy
    rcases hy with hy | hy
    · exact h.st y hy
    · simp at hy; subst hy; exact ⟨Int.le_refl _, by show (1 : Int) ≤ 4; decide⟩
/-- What an act does keeps a book good. -/
theorem Good.does {l l' : List En} (h : Good l) {a : Act} (hk : 0 ≤ a.kind ∧ a.kind ≤ 3) (hd : (doI l a).1 = some l') : Good l' := by
  unfold doI at hd
  split at hd
  · cases hd
  split at hd
  · unfold putI at hd
    split at hd
    · cases hd
    split at hd
    · cases hd
    split at hd
    · cases hd
    split at hd
    · cases hd
    rename_i h1 h2 h3 h4
    injection hd with hd
    subst hd
    exact h.put (by simpa using h1) (Nat.le_antisymm (find_le _ _) (by omega)) (by omega)
  · rename_i hk0
    split at hd
    · cases hd
    · split at hd
      · injection hd with hd
        subst hd
        exact h.set _ (by omega)
      · cases hd
theorem Good.behind {l : List En} (h : Good l) {a : Act} (hk : 0 ≤ a.kind ∧ a.kind ≤ 3) : Good (after l a) := by
  unfold after
  cases hd : (doI l a).1 with
  | none => exact h
  | some l' => exact h.does hk hd
theorem after_length (l : List En) (a : Act) : (after l a).length ≤ l.length + 1 := by
  unfold after doI putI
  split
  · simp
  split
  · split
    · simp
    split
    · simp
    split
    · simp
    split
    · simp
    · simp
  · split
    · simp
    · split
      · simp [setS_length]
      · simp
/-- What stands in a good book behind an act. -/
theorem ends {l : List En} {a : Act} (hk : 0 ≤ a.kind ∧ a.kind ≤ 3) {i : Nat} {x : En} (hx : l[i]? = some x) :
    ∃ y, (after l a)[i]? = some y ∧ y.q = x.q ∧ (x.st = 3 ∨ x.st = 4 → y.st = x.st) ∧ (x.st = 2 → y.st = 2 ∨ y.st = 4) := by
  have same : ∃ y, l[i]? = some y ∧ y.q = x.q ∧ (x.st = 3 ∨ x.st = 4 → y.st = x.st) ∧ (x.st = 2 → y.st = 2 ∨ y.st = 4) := ⟨x, hx, rfl, fun _ => rfl, fun e => .inl e⟩
  have hi := (List.getElem?_eq_some_iff.1 hx).1
  unfold after doI
  split
  · exact same
  split
  · unfold putI
    split
    · exact same
    split
    · exact same
    split
    · exact same
    split
    · exact same
    · refine ⟨x, ?_, rfl, fun _ => rfl, fun e => .inl e⟩
      simp only [Option.getD_some]
      rw [List.getElem?_append_left hi, hx]
  · rename_i hk0
    split
    · exact same
    · rename_i z hz
      split
      · rename_i hj
        simp only [Option.getD_some]
        refine ⟨_, setS_at hx, ?_⟩
        by_cases e : i = findN l a.id
        · rw [if_pos e]
          subst e
          rw [hx] at hz; injection hz with hz; subst hz
          refine ⟨rfl, fun e2 => ?_, fun e2 => ?_⟩
          · exfalso
            unfold judI at hj
            have ha : atI x a.now = x.st := by unfold atI; rw [if_neg (by omega)]
            rw [ha] at hj
            split at hj
            · omega
            split at hj
            · omega
            split at hj
            · omega
            split at hj
            · omega
            · omega
          · show a.kind + 1 = 2 ∨ a.kind + 1 = 4
            unfold judI at hj
            split at hj
            · omega
            split at hj
            · omega
            have ha : atI x a.now = 2 := by
              unfold atI at *
              split
              · rename_i h5 h6; rw [if_pos h6] at h5; exact absurd rfl h5
              · exact e2
            rw [ha] at hj
            split at hj
            · omega
            split at hj
            · omega
            · omega
        · rw [if_neg e]
          exact ⟨rfl, fun _ => rfl, fun e => .inl e⟩
      · exact same
theorem may_exp {q : Py.Q} (h : Py.mayB q = true) : 0 ≤ q.exp ∧ q.exp ≤ 1099511627776 := by
  simp only [Py.mayB, Py.inB, Bool.and_eq_true, decide_eq_true_eq] at h
  exact h.2
theorem at_zero {x : En} (h : Py.mayB x.q = true) : atI x 0 = x.st := by
  have := may_exp h
  unfold atI; rw [if_neg (by omega)]
theorem state_of {l : List En} (h : Good l) {i : Nat} {x : En} (hi : l[i]? = some x) (now : Int) : stateI l x.q.id now = atI x now := by
  unfold stateI; rw [find_of h hi, hi]
end Bk
end Go.Proofs.Ytnkkbinbeildmaa
