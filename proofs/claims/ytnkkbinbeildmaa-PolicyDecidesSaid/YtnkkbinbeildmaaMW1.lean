/- Merged by program: Words, without a program: the order of texts; lists that rise; one more, once; letters, words, the words of a text. | Words, without a program: the place of a text in a list that rises; one more among the first ones; sorted texts, each once. -/
import Derived.WalkKit
namespace Go.Proofs.Ytnkkbinbeildmaa

namespace Wd
/-- The order of texts, by their bytes. -/
def less (a b : ByteArray) : Bool := Op.bytesLess a.toList b.toList
theorem toList_eq {a b : ByteArray} (h : a.toList = b.toList) : a = b := by
  rw [ByteArray.toList_eq, ByteArray.toList_eq] at h
  apply ByteArray.ext
  exact Array.toList_inj.1 h
theorem bl_irrefl : ∀ l : List UInt8, Op.bytesLess l l = false
  | [] => rfl
  | a :: l => by
    rw [Op.bytesLess]
    simp [bl_irrefl l]
theorem bl_trans : ∀ a b c : List UInt8, Op.bytesLess a b = true → Op.bytesLess b c = true → Op.bytesLess a c = true
  | [], b, [], _, h => by cases b <;> simp [Op.bytesLess] at h
  | [], _, _ :: _, _, _ => by simp [Op.bytesLess]
  | _ :: _, [], _, h, _ => by simp [Op.bytesLess] at h
  | _ :: _, _ :: _, [], _, h => by simp [Op.bytesLess] at h
  | x :: a, y :: b, z :: c, h1, h2 => by
    simp only [Op.bytesLess, Bool.or_eq_true, Bool.and_eq_true, decide_eq_true_eq, beq_iff_eq] at h1 h2 ⊢
    have ih := bl_trans a b c
    rcases h1 with h1 | ⟨rfl, h1⟩
    · rcases h2 with h2 | ⟨rfl, h2⟩
      · exact Or.inl (UInt8.lt_trans h1 h2)
      · exact Or.inl h1
    · rcases h2 with h2 | ⟨rfl, h2⟩
      · exact Or.inl h2
      · exact Or.inr ⟨rfl, ih h1 h2⟩
theorem bl_total : ∀ a b : List UInt8, a ≠ b → Op.bytesLess a b = true ∨ Op.bytesLess b a = true
  | [], [], h => absurd rfl h
  | [], _ :: _, _ => by simp [Op.bytesLess]
  | _ :: _, [], _ => by simp [Op.bytesLess]
  | x :: a, y :: b, h => by
    simp only [Op.bytesLess, Bool.or_eq_true, Bool.and_eq_true, decide_eq_true_eq, beq_iff_eq]
    by_cases hxy : x = y
    · subst hxy
      rcases bl_total a b (fun e => h (by rw [e])) with h1 | h1
      · exact Or.inl (Or.inr ⟨rfl, h1⟩)
      · exact Or.inr (Or.inr ⟨rfl, h1⟩)
    · rcases UInt8.lt_or_lt_of_ne hxy with h1 | h1
      · exact Or.inl (Or.inl h1)
      · exact Or.inr (Or.inl h1)
theorem less_irrefl (a : ByteArray) : less a a = false := bl_irrefl _
theorem less_trans {a b c : ByteArray} (h : less a b = true) (h2 : less b c = true) : less a c = true := bl_trans _ _ _ h h2
theorem less_total {a b : ByteArray} (h : a ≠ b) : less a b = true ∨ less b a = true := bl_total _ _ (fun e => h (toList_eq e))
theorem less_asymm {a b : ByteArray} (h : less a b = true) : less b a = false := by
  cases hb : less b a with
  | false => rfl
  | true => have := less_trans h hb; rw [less_irrefl] at this; cases this
theorem less_ne {a b : ByteArray} (h : less a b = true) : a ≠ b := fun e => by rw [e, less_irrefl] at h; cases h
/-- A list that rises. -/
def Rises (l : List ByteArray) : Prop := l.Pairwise (fun a b => less a b = true)
theorem rises_unique : ∀ {l m : List ByteArray}, Rises l → Rises m → (∀ x, x ∈ l ↔ x ∈ m) → l = m
  | [], [], _, _, _ => rfl
  | [], b :: m, _, _, h => absurd ((h b).2 List.mem_cons_self) (by simp)
  | a :: l, [], _, _, h => absurd ((h a).1 List.mem_cons_self) (by simp)
  | a :: l, b :: m, hl, hm, h => by
    have hl' := List.pairwise_cons.1 hl
    have hm' := List.pairwise_cons.1 hm
    have hab : a = b := by
      rcases List.mem_cons.1 ((h a).1 List.mem_cons_self) with e | e
      · exact e
      · rcases List.mem_cons.1 ((h b).2 List.mem_cons_self) with e2 | e2
        · exact e2.symm
        · have h1 := hm'.1 a e
          have h2 := hl'.1 b e2
          rw [less_asymm h1] at h2; cases h2
    subst hab
    congr 1
    refine rises_unique hl'.2 hm'.2 fun x => ?_
    constructor
    · intro hx
      rcases List.mem_cons.1 ((h x).1 (List.mem_cons_of_mem _ hx)) with e | e
      · subst e; have := hl'.1 x hx; rw [less_irrefl] at this; cases this
      · exact e
    · intro hx
      rcases List.mem_cons.1 ((h x).2 (List.mem_cons_of_mem _ hx)) with e | e
      · subst e; have := hm'.1 x hx; rw [less_irrefl] at this; cases this
      · exact e
/-- One more, once. -/
def put : List ByteArray → ByteArray → List ByteArray
  | [], s => [s]
  | x :: r, s => if x = s then x :: r else if less s x = true then s :: x :: r else x :: put r s
theorem put_mem : ∀ (l : List ByteArray) (s x : ByteArray), x ∈ put l s ↔ x = s ∨ x ∈ l
  | [], s, x => by simp [put]
  | y :: r, s, x => by
    unfold put
    split
    · rename_i e; subst e; simp
    · split
      · simp
      · rw [List.mem_cons, put_mem r s x, List.mem_cons]
        constructor
        · rintro (h | h | h)
          · exact Or.inr (Or.inl h)
          · exact Or.inl h
          · exact Or.inr (Or.inr h)
        · rintro (h | h | h)
          · exact Or.inr (Or.inl h)
          · exact Or.inl h
          · exact Or.inr (Or.inr h)
theorem put_rises : ∀ {l : List ByteArray} {s : ByteArray}, Rises l → Rises (put l s)
  | [], s, _ => List.pairwise_singleton _ _
  | y :: r, s, h => by
    have h' := List.pairwise_cons.1 h
    unfold put
    split
    · exact h
    · rename_i hne
      split
      · rename_i hl
        refine List.pairwise_cons.2 ⟨fun x hx => ?_, h⟩
        rcases List.mem_cons.1 hx with rfl | hx
        · exact hl
        · exact less_trans hl (h'.1 x hx)
      · rename_i hl
        refine List.pairwise_cons.2 ⟨fun x hx => ?_, put_rises h'.2⟩
        rcases (put_mem r s x).1 hx with rfl | hx
        · rcases less_total hne with h2 | h2
          · exact h2
          · exact absurd h2 hl
        · exact h'.1 x hx
theorem put_length (l : List ByteArray) (s : ByteArray) : (put l s).length ≤ l.length + 1 := by
  induction l with
  | nil => simp [put]
  | cons y r ih =>
    unfold put
    split
    · simp
    · split
      · simp
      · simp; omega
/-- Putting what rises one by one makes it. -/
theorem foldl_put_mem : ∀ (m l : List ByteArray) (x : ByteArray), x ∈ m.foldl put l ↔ x ∈ m ∨ x ∈ l
  | [], l, x => by simp
  | s :: m, l, x => by
    rw [List.foldl_cons, foldl_put_mem m (put l s) x, put_mem, List.mem_cons]
    constructor
    · rintro (h | h | h)
      · exact Or.inl (Or.inr h)
      · exact Or.inl (Or.inl h)
      · exact Or.inr h
    · rintro ((h | h) | h)
      · exact Or.inr (Or.inl h)
      · exact Or.inl h
      · exact Or.inr (Or.inr h)
theorem foldl_put_rises : ∀ (m : List ByteArray) {l : List ByteArray}, Rises l → Rises (m.foldl put l)
  | [], _, h => h
  | s :: m, _, h => by rw [List.foldl_cons]; exact foldl_put_rises m (put_rises h)
theorem foldl_put_self {m : List ByteArray} (h : Rises m) : m.foldl put [] = m :=
  rises_unique (foldl_put_rises m List.Pairwise.nil) h fun x => by rw [foldl_put_mem]; simp

/-- A byte as a letter; 0: it is none. -/
def let1 (c : UInt8) : UInt8 := if 65 ≤ c ∧ c ≤ 90 then c + 32 else if (97 ≤ c ∧ c ≤ 122) ∨ (48 ≤ c ∧ c ≤ 57) then c else 0
theorem let1_idem (c : UInt8) : let1 (let1 c) = let1 c := by
  have h : ∀ c : Fin 256, let1 (let1 (UInt8.ofNat c.1)) = let1 (UInt8.ofNat c.1) := by decide +kernel
  have := h ⟨c.toNat, c.toNat_lt⟩
  simpa using this
/-- A word, or the error. -/
def norm (l : List UInt8) : Except Int (List UInt8) := if (l.any fun c => let1 c == 0) = true then .error 3 else if l = [] then .error 3 else if 24 < l.length then .error 2 else .ok (l.map let1)
/-- The pieces between what is no letter. -/
def cut : List UInt8 → List UInt8 → List (List UInt8)
  | cur, [] => [cur]
  | cur, c :: r => if let1 c = 0 then cur :: cut [] r else cut (cur ++ [c]) r
def addW (l : List ByteArray) (p : List UInt8) : List ByteArray := match norm p with
  | .ok w => put l ⟨w.toArray⟩
  | .error _ => l
def allW (t : List UInt8) : List ByteArray := (cut [] t).foldl addW []
/-- The words of a text. -/
def ofW (t : List UInt8) : List ByteArray := (allW t).take 12
theorem addW_rises {l : List ByteArray} (h : Rises l) (p : List UInt8) : Rises (addW l p) := by
  unfold addW
  split
  · exact put_rises h
  · exact h
theorem fold_rises : ∀ (ps : List (List UInt8)) {l : List ByteArray}, Rises l → Rises (ps.foldl addW l)
  | [], _, h => h
  | p :: ps, _, h => by rw [List.foldl_cons]; exact fold_rises ps (addW_rises h p)
theorem ofW_rises (t : List UInt8) : Rises (ofW t) := (fold_rises _ List.Pairwise.nil).sublist (List.take_sublist _ _)
/-- Is it a word? -/
def IsW (s : ByteArray) : Prop := norm s.data.toList = .ok s.data.toList
theorem norm_ok {p w : List UInt8} (h : norm p = .ok w) : w = p.map let1 ∧ p ≠ [] ∧ p.length ≤ 24 ∧ ∀ c ∈ p, let1 c ≠ 0 := by
  unfold norm at h
  split at h
  · cases h
  · rename_i h1
    split at h
    · cases h
    · rename_i h2
      split at h
      · cases h
      · rename_i h3
        injection h with h
        refine ⟨h.symm, h2, by omega, fun c hc e => h1 ?_⟩
        rw [List.any_eq_true]
        exact ⟨c, hc, by simp [e]⟩
theorem norm_of {p : List UInt8} (h1 : p ≠ []) (h2 : p.length ≤ 24) (h3 : ∀ c ∈ p, let1 c ≠ 0) : norm p = .ok (p.map let1) := by
  unfold norm
  rw [if_neg, if_neg h1, if_neg (by omega)]
  rw [List.any_eq_true]
  rintro ⟨c, hc, e⟩
  exact h3 c hc (by simpa using e)
theorem norm_word {p w : List UInt8} (h : norm p = .ok w) : norm w = .ok w := by
  obtain ⟨rfl, h1, h2, h3⟩ := norm_ok h
  rw [norm_of]
  · congr 1
    rw [List.map_map]
    apply List.map_congr_left
    intro c _
    exact let1_idem c
  · simpa using h1
  · simpa using h2
  · intro c hc
    obtain ⟨d, hd, rfl⟩ := List.mem_map.1 hc
    rw [let1_idem]; exact h3 d hd
theorem fold_words : ∀ (ps : List (List UInt8)) {l : List ByteArray}, (∀ x ∈ l, IsW x) → ∀ x ∈ ps.foldl addW l, IsW x
  | [], _, h => h
  | p :: ps, l, h => by
    rw [List.foldl_cons]
    refine fold_words ps fun x hx => ?_
    unfold addW at hx
    split at hx
    · rename_i w hw
      rcases (put_mem l _ x).1 hx with rfl | hx
      · exact norm_word hw
      · exact h x hx
    · exact h x hx
theorem ofW_words (t : List UInt8) : ∀ x ∈ ofW t, IsW x := fun x hx => fold_words _ (fun x h => by cases h) x (List.mem_of_mem_take hx)
/-- Pieces of letters with what is no letter behind each. -/
theorem cut_letters : ∀ (p : List UInt8) (cur : List UInt8) (c : UInt8) (r : List UInt8), (∀ x ∈ p, let1 x ≠ 0) → let1 c = 0 → cut cur (p ++ c :: r) = (cur ++ p) :: cut [] r
  | [], cur, c, r, _, hc => by rw [List.nil_append, cut, if_pos hc, List.append_nil]
  | x :: p, cur, c, r, hp, hc => by
    rw [List.cons_append, cut, if_neg (hp x List.mem_cons_self), cut_letters p _ c r (fun y hy => hp y (List.mem_cons_of_mem _ hy)) hc, List.append_assoc]; rfl
theorem addW_nil (l : List ByteArray) : addW l [] = l := by unfold addW norm; simp
theorem cut_gap : ∀ (g : List UInt8) (r : List UInt8) (l : List ByteArray), (∀ x ∈ g, let1 x = 0) → (cut [] (g ++ r)).foldl addW l = (cut [] r).foldl addW l
  | [], _, _, _ => rfl
  | x :: g, r, l, h => by
    rw [List.cons_append, cut, if_pos (h x List.mem_cons_self), List.foldl_cons, addW_nil, cut_gap g r l (fun y hy => h y (List.mem_cons_of_mem _ hy))]
/-- What is made of words, each with what is no letter behind it. -/
theorem again : ∀ (ps : List (List UInt8 × ByteArray)) (g : List UInt8) (l : List ByteArray), g ≠ [] → (∀ x ∈ g, let1 x = 0) → (∀ x ∈ ps, norm x.1 = .ok x.2.data.toList) →
    (cut [] (ps.flatMap fun x => x.1 ++ g)).foldl addW l = (ps.map (·.2)).foldl put l
  | [], g, l, _, _, _ => by simp [cut, addW_nil]
  | x :: ps, c :: g, l, hg, h0, h => by
    have hx := h x List.mem_cons_self
    obtain ⟨-, -, -, h3⟩ := norm_ok hx
    rw [List.flatMap_cons, List.append_assoc, List.cons_append, cut_letters _ _ _ _ h3 (h0 c List.mem_cons_self), List.foldl_cons, List.nil_append, cut_gap g _ _ (fun y hy => h0 y (List.mem_cons_of_mem _ hy)),
      again ps (c :: g) _ hg h0 (fun y hy => h y (List.mem_cons_of_mem _ hy)), List.map_cons, List.foldl_cons]
    congr 1
    unfold addW
    rw [hx]
end Wd
end Go.Proofs.Ytnkkbinbeildmaa
namespace Go.Proofs.Ytnkkbinbeildmaa

namespace Wd
/-- How many of a list's first ones are less. -/
def rank : List ByteArray → ByteArray → Nat
  | [], _ => 0
  | x :: r, s => if less x s = true then rank r s + 1 else 0
theorem rank_le : ∀ (l : List ByteArray) (s : ByteArray), rank l s ≤ l.length
  | [], _ => Nat.le_refl _
  | x :: r, s => by
    unfold rank
    split
    · have := rank_le r s; simp; omega
    · simp
theorem rank_lt : ∀ {l : List ByteArray} {s : ByteArray} {t : Nat}, t < rank l s → less (l.getD t s) s = true
  | [], _, _, h => by simp [rank] at h
  | x :: r, s, t, h => by
    unfold rank at h
    split at h
    · rename_i hx
      cases t with
      | zero => simpa using hx
      | succ t => simpa using rank_lt (l := r) (t := t) (by omega)
    · omega
theorem rank_ge : ∀ {l : List ByteArray} {s : ByteArray} {t : Nat}, Rises l → rank l s ≤ t → less (l.getD t s) s = false
  | [], s, t, _, _ => by simp [less_irrefl]
  | x :: r, s, t, hr, h => by
    have h' := List.pairwise_cons.1 hr
    unfold rank at h
    split at h
    · cases t with
      | zero => omega
      | succ t => simpa using rank_ge (l := r) (t := t) h'.2 (by omega)
    · rename_i hx
      cases t with
      | zero => simpa using hx
      | succ t =>
        by_cases ht : t < r.length
        · have hm : r.getD t s ∈ r := by
            rw [List.getD_eq_getElem?_getD, List.getElem?_eq_getElem ht]; exact List.getElem_mem ht
          have h1 := h'.1 _ hm
          cases e : less ((x :: r).getD (t + 1) s) s with
          | false => rfl
          | true => exact absurd (less_trans h1 (by simpa using e)) hx
        · have e : (x :: r).getD (t + 1) s = s := by
            rw [List.getD_eq_getElem?_getD, List.getElem?_eq_none (by simp; omega)]; rfl
          rw [e]; exact less_irrefl _
/-- A text in a list that rises: where it goes. -/
theorem put_at : ∀ {l : List ByteArray} {s : ByteArray}, Rises l → put l s = if l[rank l s]? = some s then l else l.take (rank l s) ++ s :: l.drop (rank l s)
  | [], s, _ => by simp [put, rank]
  | x :: r, s, hr => by
    have h' := List.pairwise_cons.1 hr
    unfold put
    by_cases e : x = s
    · subst e
      have hk : rank (x :: r) x = 0 := by unfold rank; rw [less_irrefl]; rfl
      rw [if_pos rfl, hk, if_pos (by simp)]
    · rw [if_neg e]
      by_cases h1 : less s x = true
      · have hk : rank (x :: r) s = 0 := by unfold rank; rw [less_asymm h1]; rfl
        rw [if_pos h1, hk, if_neg (by simpa using e)]; rfl
      · have h2 : less x s = true := by
          rcases less_total e with h | h
          · exact h
          · exact absurd h h1
        have hk : rank (x :: r) s = rank r s + 1 := by conv => lhs; unfold rank
                                                       rw [if_pos h2]
        rw [if_neg h1, hk, put_at h'.2]
        simp only [List.getElem?_cons_succ, List.take_succ_cons, List.drop_succ_cons]
        split <;> rfl
theorem take_short (x : ByteArray) (r : List ByteArray) : ∀ n, (x :: r).take n = (x :: r.take n).take n
  | 0 => rfl
  | n + 1 => by rw [List.take_succ_cons, List.take_succ_cons, List.take_take]; congr 2; omega
theorem put_take : ∀ (n : Nat) (l : List ByteArray) (s : ByteArray), (put l s).take n = (put (l.take n) s).take n
  | 0, _, _ => by simp
  | n + 1, [], s => rfl
  | n + 1, x :: r, s => by
    rw [List.take_succ_cons, put, put]
    by_cases e : x = s
    · rw [if_pos e, if_pos e, List.take_succ_cons, List.take_succ_cons, List.take_take, Nat.min_self]
    · rw [if_neg e, if_neg e]
      by_cases h1 : less s x = true
      · rw [if_pos h1, if_pos h1, List.take_succ_cons, List.take_succ_cons, take_short x r n]
      · rw [if_neg h1, if_neg h1, List.take_succ_cons, List.take_succ_cons, put_take n r s]
/-- One more among the first twelve. -/
theorem with_there {l : List ByteArray} {s : ByteArray} (hr : Rises l) (hl : l.length ≤ 12) (h : l[rank l s]? = some s ∨ rank l s = 12) : (put l s).take 12 = l := by
  rw [put_at hr]
  by_cases e : l[rank l s]? = some s
  · rw [if_pos e, List.take_of_length_le hl]
  · rcases h with h | h
    · exact absurd h e
    · have := rank_le l s
      rw [if_neg e, h, List.take_of_length_le hl, List.drop_eq_nil_of_le hl, List.take_append_of_le_length (by omega), List.take_of_length_le hl]
theorem with_in {l : List ByteArray} {s : ByteArray} (hr : Rises l) (hl : l.length ≤ 12) (h : ¬ l[rank l s]? = some s) (h2 : rank l s ≠ 12) :
    (put l s).take 12 = (l.take 11).take (rank l s) ++ s :: (l.take 11).drop (rank l s) := by
  have hk := rank_le l s
  rw [put_at hr, if_neg h, List.take_append, List.length_take, Nat.min_eq_left hk, List.take_take, List.take_take, Nat.min_eq_right (by omega), Nat.min_eq_left (by omega), List.drop_take,
    show 12 - rank l s = (11 - rank l s) + 1 by omega, List.take_succ_cons]
theorem with_short {l : List ByteArray} {s : ByteArray} (hr : Rises l) (hl : l.length ≤ 11) (h : ¬ l[rank l s]? = some s) : (put l s).take 12 = l.take (rank l s) ++ s :: l.drop (rank l s) := by
  have hk := rank_le l s
  rw [with_in hr (by omega) h (by omega), List.take_of_length_le hl]
theorem put_has {l : List ByteArray} {s : ByteArray} : l[rank l s]? = some s ↔ rank l s < l.length ∧ l.getD (rank l s) s = s := by
  constructor
  · intro h
    have hk := (List.getElem?_eq_some_iff.1 h).1
    exact ⟨hk, by rw [List.getD_eq_getElem?_getD, h]; rfl⟩
  · rintro ⟨h1, h2⟩
    rw [List.getD_eq_getElem?_getD, List.getElem?_eq_getElem h1] at h2
    rw [List.getElem?_eq_getElem h1]
    exact congrArg some h2
theorem rises_take {l : List ByteArray} (h : Rises l) (n : Nat) : Rises (l.take n) := h.sublist (List.take_sublist _ _)
end Wd
end Go.Proofs.Ytnkkbinbeildmaa
