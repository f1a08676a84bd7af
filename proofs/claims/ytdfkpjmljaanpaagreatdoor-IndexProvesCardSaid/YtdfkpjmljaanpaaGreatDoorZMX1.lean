/- MX1, what is wanted of it. -/
import Derived.Test.YtdfkpjmljaanpaaGreatDoorZLfMath
import Derived.Test.YtdfkpjmljaanpaaGreatDoorZMT1
namespace Go.Proofs.YtdfkpjmljaanpaaGreatDoor
open Go.RowKit
open Cn
/-- A row: how many leaves have a tag, and the last one. -/
structure Rw where
  tag : ByteArray
  cnt : Int
  last : Int
namespace Ix
/-- Rows that rise by their tags. -/
def Rise (l : List Rw) : Prop := l.Pairwise (fun a b => Wd.less a.tag b.tag = true)
/-- A tag's row. -/
def fnd : List Rw → ByteArray → Option Rw
  | [], _ => none
  | r :: l, t => if r.tag = t then some r else fnd l t
/-- The place of a tag's row, counted on from k; below 0: it has none. -/
def plc : List Rw → ByteArray → Nat → Int
  | [], _, _ => -1
  | r :: l, t, k => if r.tag = t then (k : Int) else plc l t (k + 1)
def cn : Option Rw → Int
  | none => 0
  | some r => r.cnt
def pv : Option Rw → Int
  | none => 0
  | some r => r.last + 1
/-- The rows with a leaf more, and its postings. -/
def mrg (n : Int) : List Rw → List ByteArray → List Rw × List Po
  | [], [] => ([], [])
  | [], t :: ts => (⟨t, 1, n⟩ :: (mrg n [] ts).1, ⟨t, 0⟩ :: (mrg n [] ts).2)
  | r :: rs, [] => (r :: rs, [])
  | r :: rs, t :: ts =>
    if Wd.less t r.tag = true then (⟨t, 1, n⟩ :: (mrg n (r :: rs) ts).1, ⟨t, 0⟩ :: (mrg n (r :: rs) ts).2)
    else if t = r.tag then (⟨t, r.cnt + 1, n⟩ :: (mrg n rs ts).1, ⟨t, r.last + 1⟩ :: (mrg n rs ts).2)
    else (r :: (mrg n rs (t :: ts)).1, (mrg n rs (t :: ts)).2)
termination_by rs ts => rs.length + ts.length
theorem mrg_nil (n : Int) (rs : List Rw) : mrg n rs [] = (rs, []) := by
  cases rs <;> rw [mrg]
theorem mrg_new (n : Int) (t : ByteArray) (ts : List ByteArray) : mrg n [] (t :: ts) = (⟨t, 1, n⟩ :: (mrg n [] ts).1, ⟨t, 0⟩ :: (mrg n [] ts).2) := by rw [mrg]
theorem mrg_less {n : Int} {r : Rw} {rs : List Rw} {t : ByteArray} {ts : List ByteArray} (h : Wd.less t r.tag = true) : mrg n (r :: rs) (t :: ts) = (⟨t, 1, n⟩ :: (mrg n (r :: rs) ts).1, ⟨t, 0⟩ :: (mrg n (r :: rs) ts).2) := by
  rw [mrg, if_pos h]
theorem mrg_same {n : Int} {r : Rw} {rs : List Rw} {ts : List ByteArray} : mrg n (r :: rs) (r.tag :: ts) = (⟨r.tag, r.cnt + 1, n⟩ :: (mrg n rs ts).1, ⟨r.tag, r.last + 1⟩ :: (mrg n rs ts).2) := by
  rw [mrg, if_neg (by rw [Wd.less_irrefl]; decide), if_pos rfl]
theorem mrg_more {n : Int} {r : Rw} {rs : List Rw} {t : ByteArray} {ts : List ByteArray} (h : Wd.less r.tag t = true) : mrg n (r :: rs) (t :: ts) = (r :: (mrg n rs (t :: ts)).1, (mrg n rs (t :: ts)).2) := by
  rw [mrg, if_neg (by rw [Wd.less_asymm h]; decide), if_neg (fun e => Wd.less_ne h e.symm)]
/-- How a tag stands to a row's. -/
theorem less_cases (a b : ByteArray) : Wd.less a b = true ∨ a = b ∨ Wd.less b a = true := by
  by_cases h : a = b
  · exact Or.inr (Or.inl h)
  · rcases Wd.less_total h with h1 | h1
    · exact Or.inl h1
    · exact Or.inr (Or.inr h1)
/-- A way to go through the rows and the tags: what is told of a merge is told by its steps. -/
theorem mrg_ind {M : List Rw → List ByteArray → Prop} (h0 : ∀ rs, M rs []) (h1 : ∀ t ts, M [] ts → M [] (t :: ts))
    (h2 : ∀ r rs t ts, Wd.less t r.tag = true → M (r :: rs) ts → M (r :: rs) (t :: ts))
    (h3 : ∀ r rs ts, M rs ts → M (r :: rs) (r.tag :: ts))
    (h4 : ∀ r rs t ts, Wd.less r.tag t = true → M rs (t :: ts) → M (r :: rs) (t :: ts)) :
    ∀ (k : Nat) (rs : List Rw) (ts : List ByteArray), rs.length + ts.length = k → M rs ts := by
  intro k
  induction k using Nat.strongRecOn with
  | ind k ih =>
    intro rs ts hk
    match rs, ts, hk with
    | rs, [], _ => exact h0 rs
    | [], t :: ts, hk => exact h1 t ts (ih _ (by rw [← hk]; simp only [List.length_cons, List.length_nil]; omega) [] ts rfl)
    | r :: rs, t :: ts, hk =>
      rcases less_cases t r.tag with h | h | h
      · exact h2 r rs t ts h (ih _ (by rw [← hk]; simp only [List.length_cons]; omega) (r :: rs) ts rfl)
      · subst h
        exact h3 r rs ts (ih _ (by rw [← hk]; simp only [List.length_cons]; omega) rs ts rfl)
      · exact h4 r rs t ts h (ih _ (by rw [← hk]; simp only [List.length_cons]; omega) rs (t :: ts) rfl)
theorem mrg_mem (n : Int) (rs : List Rw) (ts : List ByteArray) : ∀ x ∈ (mrg n rs ts).1, x ∈ rs ∨ (x.tag ∈ ts ∧ x.last = n ∧ (x.cnt = 1 ∨ ∃ r ∈ rs, r.tag = x.tag ∧ x.cnt = r.cnt + 1)) := by
  refine mrg_ind (M := fun rs ts => ∀ x ∈ (mrg n rs ts).1, x ∈ rs ∨ (x.tag ∈ ts ∧ x.last = n ∧ (x.cnt = 1 ∨ ∃ r ∈ rs, r.tag = x.tag ∧ x.cnt = r.cnt + 1))) ?_ ?_ ?_ ?_ ?_ _ rs ts rfl
  · intro rs x hx
    rw [mrg_nil] at hx
    exact Or.inl hx
  · intro t ts ih x hx
    rw [mrg_new] at hx
    rcases List.mem_cons.1 hx with rfl | hx
    · exact Or.inr ⟨List.mem_cons_self, rfl, Or.inl rfl⟩
    · rcases ih x hx with h | ⟨a, b, c⟩
      · exact Or.inl h
      · exact Or.inr ⟨List.mem_cons_of_mem _ a, b, c⟩
  · intro r rs t ts hl ih x hx
    rw [mrg_less hl] at hx
    rcases List.mem_cons.1 hx with rfl | hx
    · exact Or.inr ⟨List.mem_cons_self, rfl, Or.inl rfl⟩
    · rcases ih x hx with h | ⟨a, b, c⟩
      · exact Or.inl h
      · exact Or.inr ⟨List.mem_cons_of_mem _ a, b, c⟩
  · intro r rs ts ih x hx
    rw [mrg_same] at hx
    rcases List.mem_cons.1 hx with rfl | hx
    · exact Or.inr ⟨List.mem_cons_self, rfl, Or.inr ⟨r, List.mem_cons_self, rfl, rfl⟩⟩
    · rcases ih x hx with h | ⟨a, b, c⟩
      · exact Or.inl (List.mem_cons_of_mem _ h)
      · refine Or.inr ⟨List.mem_cons_of_mem _ a, b, ?_⟩
        rcases c with c | ⟨q, hq, e⟩
        · exact Or.inl c
        · exact Or.inr ⟨q, List.mem_cons_of_mem _ hq, e⟩
  · intro r rs t ts hl ih x hx
    rw [mrg_more hl] at hx
    rcases List.mem_cons.1 hx with rfl | hx
    · exact Or.inl List.mem_cons_self
    · rcases ih x hx with h | ⟨a, b, c⟩
      · exact Or.inl (List.mem_cons_of_mem _ h)
      · refine Or.inr ⟨a, b, ?_⟩
        rcases c with c | ⟨q, hq, e⟩
        · exact Or.inl c
        · exact Or.inr ⟨q, List.mem_cons_of_mem _ hq, e⟩
theorem Rise.tail {r : Rw} {rs : List Rw} (h : Rise (r :: rs)) : Rise rs := (List.pairwise_cons.1 h).2
theorem Rise.head {r : Rw} {rs : List Rw} (h : Rise (r :: rs)) : ∀ x ∈ rs, Wd.less r.tag x.tag = true := (List.pairwise_cons.1 h).1
theorem mrg_rise (n : Int) (rs : List Rw) (ts : List ByteArray) : Rise rs → Wd.Rises ts → Rise (mrg n rs ts).1 := by
  refine mrg_ind (M := fun rs ts => Rise rs → Wd.Rises ts → Rise (mrg n rs ts).1) ?_ ?_ ?_ ?_ ?_ _ rs ts rfl
  · intro rs hr _
    rw [mrg_nil]; exact hr
  · intro t ts ih hr ht
    obtain ⟨h1, h2⟩ := List.pairwise_cons.1 ht
    rw [mrg_new]
    refine List.pairwise_cons.2 ⟨fun x hx => ?_, ih hr h2⟩
    rcases mrg_mem n [] ts x hx with h | ⟨a, -, -⟩
    · simp at h
    · exact h1 _ a
  · intro r rs t ts hl ih hr ht
    obtain ⟨h1, h2⟩ := List.pairwise_cons.1 ht
    rw [mrg_less hl]
    refine List.pairwise_cons.2 ⟨fun x hx => ?_, ih hr h2⟩
    rcases mrg_mem n (r :: rs) ts x hx with h | ⟨a, -, -⟩
    · rcases List.mem_cons.1 h with rfl | h
      · exact hl
      · exact Wd.less_trans hl (hr.head x h)
    · exact h1 _ a
  · intro r rs ts ih hr ht
    obtain ⟨h1, h2⟩ := List.pairwise_cons.1 ht
    rw [mrg_same]
    refine List.pairwise_cons.2 ⟨fun x hx => ?_, ih hr.tail h2⟩
    rcases mrg_mem n rs ts x hx with h | ⟨a, -, -⟩
    · exact hr.head x h
    · exact h1 _ a
  · intro r rs t ts hl ih hr ht
    rw [mrg_more hl]
    refine List.pairwise_cons.2 ⟨fun x hx => ?_, ih hr.tail ht⟩
    rcases mrg_mem n rs (t :: ts) x hx with h | ⟨a, -, -⟩
    · exact hr.head x h
    · rcases List.mem_cons.1 a with e | h
      · rw [e]; exact hl
      · exact Wd.less_trans hl ((List.pairwise_cons.1 ht).1 _ h)
theorem fnd_none {t : ByteArray} : ∀ {l : List Rw}, (∀ x ∈ l, x.tag ≠ t) → fnd l t = none
  | [], _ => rfl
  | r :: l, h => by rw [fnd, if_neg (h r List.mem_cons_self), fnd_none (fun x hx => h x (List.mem_cons_of_mem _ hx))]
theorem fnd_some {t : ByteArray} {x : Rw} : ∀ {l : List Rw}, fnd l t = some x → x ∈ l ∧ x.tag = t
  | [], h => by simp [fnd] at h
  | r :: l, h => by
    rw [fnd] at h
    by_cases e : r.tag = t
    · rw [if_pos e] at h
      obtain rfl := Option.some.inj h
      exact ⟨List.mem_cons_self, e⟩
    · rw [if_neg e] at h
      exact ⟨List.mem_cons_of_mem _ (fnd_some h).1, (fnd_some h).2⟩
theorem fnd_of {t : ByteArray} {x : Rw} : ∀ {l : List Rw}, Rise l → x ∈ l → x.tag = t → fnd l t = some x
  | r :: l, hr, hx, e => by
    rw [fnd]
    rcases List.mem_cons.1 hx with rfl | h
    · rw [if_pos e]
    · have h1 := hr.head x h
      rw [e] at h1
      rw [if_neg (Wd.less_ne h1), fnd_of hr.tail h e]
theorem fnd_no {l : List Rw} {t : ByteArray} (h : fnd l t = none) : ∀ x ∈ l, x.tag ≠ t := by
  induction l with
  | nil => intro x hx; simp at hx
  | cons r l ih =>
    rw [fnd] at h
    by_cases e : r.tag = t
    · rw [if_pos e] at h; cases h
    · rw [if_neg e] at h
      intro x hx
      rcases List.mem_cons.1 hx with rfl | hx
      · exact e
      · exact ih h x hx
theorem fnd_lower {t : ByteArray} {r : Rw} {rs : List Rw} (hr : Rise (r :: rs)) (hl : Wd.less t r.tag = true) : fnd (r :: rs) t = none := by
  refine fnd_none fun x hx => ?_
  rcases List.mem_cons.1 hx with rfl | h
  · exact fun e => Wd.less_ne hl e.symm
  · exact fun e => Wd.less_ne (Wd.less_trans hl (hr.head x h)) e.symm
def inB (ts : List ByteArray) (u : ByteArray) : Bool := ts.any fun t => decide (t = u)
theorem inB_iff {ts : List ByteArray} {u : ByteArray} : inB ts u = true ↔ u ∈ ts := by
  unfold inB
  rw [List.any_eq_true]
  constructor
  · rintro ⟨x, hx, e⟩
    rw [← of_decide_eq_true e]; exact hx
  · exact fun h => ⟨u, h, decide_eq_true rfl⟩
/-- WHICH ROW A TAG HAS, with a leaf more. -/
theorem mrg_fnd (n : Int) (u : ByteArray) (rs : List Rw) (ts : List ByteArray) : Rise rs → Wd.Rises ts → fnd (mrg n rs ts).1 u = if inB ts u = true then some ⟨u, cn (fnd rs u) + 1, n⟩ else fnd rs u := by
  refine mrg_ind (M := fun rs ts => Rise rs → Wd.Rises ts → fnd (mrg n rs ts).1 u = if inB ts u = true then some ⟨u, cn (fnd rs u) + 1, n⟩ else fnd rs u) ?_ ?_ ?_ ?_ ?_ _ rs ts rfl
  · intro rs _ _
    rw [mrg_nil, if_neg (by simp [inB])]
  · intro t ts ih hr ht
    rw [mrg_new]
    show (if t = u then some (⟨t, 1, n⟩ : Rw) else fnd (mrg n [] ts).1 u) = _
    by_cases e : t = u
    · subst e
      rw [if_pos rfl, if_pos (inB_iff.2 List.mem_cons_self)]; rfl
    · rw [if_neg e, ih hr (List.pairwise_cons.1 ht).2]
      by_cases hu : u ∈ ts
      · rw [if_pos (inB_iff.2 hu), if_pos (inB_iff.2 (List.mem_cons_of_mem _ hu))]
      · rw [if_neg (fun h => hu (inB_iff.1 h)), if_neg (fun h => by rcases List.mem_cons.1 (inB_iff.1 h) with h | h; exact e h.symm; exact hu h)]
  · intro r rs t ts hl ih hr ht
    rw [mrg_less hl, fnd]
    by_cases e : t = u
    · subst e
      rw [if_pos rfl, if_pos (inB_iff.2 List.mem_cons_self), fnd_lower hr hl]; rfl
    · rw [if_neg e, ih hr (List.pairwise_cons.1 ht).2]
      by_cases hu : u ∈ ts
      · rw [if_pos (inB_iff.2 hu), if_pos (inB_iff.2 (List.mem_cons_of_mem _ hu))]
      · rw [if_neg (fun h => hu (inB_iff.1 h)), if_neg (fun h => by rcases List.mem_cons.1 (inB_iff.1 h) with h | h; exact e h.symm; exact hu h)]
  · intro r rs ts ih hr ht
    rw [mrg_same, fnd, fnd]
    by_cases e : r.tag = u
    · rw [if_pos e, if_pos e, if_pos (inB_iff.2 (by rw [← e]; exact List.mem_cons_self)), ← e]; rfl
    · rw [if_neg e, if_neg e, ih hr.tail (List.pairwise_cons.1 ht).2]
      by_cases hu : u ∈ ts
      · rw [if_pos (inB_iff.2 hu), if_pos (inB_iff.2 (List.mem_cons_of_mem _ hu))]
      · rw [if_neg (fun h => hu (inB_iff.1 h)), if_neg (fun h => by rcases List.mem_cons.1 (inB_iff.1 h) with h | h; exact e h.symm; exact hu h)]
  · intro r rs t ts hl ih hr ht
    rw [mrg_more hl, fnd, fnd]
    by_cases e : r.tag = u
    · rw [if_pos e, if_pos e, if_neg]
      rw [inB_iff, ← e, List.mem_cons]
      rintro (h | h)
      · exact Wd.less_ne hl h
      · exact Wd.less_ne (Wd.less_trans hl ((List.pairwise_cons.1 ht).1 _ h)) rfl
    · rw [if_neg e, if_neg e, ih hr.tail ht]
/-- The postings of a leaf: one more than the last one was, or 0. -/
theorem mrg_po (n : Int) (rs : List Rw) (ts : List ByteArray) : Rise rs → Wd.Rises ts → (mrg n rs ts).2 = ts.map fun t => ⟨t, pv (fnd rs t)⟩ := by
  refine mrg_ind (M := fun rs ts => Rise rs → Wd.Rises ts → (mrg n rs ts).2 = ts.map fun t => ⟨t, pv (fnd rs t)⟩) ?_ ?_ ?_ ?_ ?_ _ rs ts rfl
  · intro rs _ _
    rw [mrg_nil]; rfl
  · intro t ts ih hr ht
    rw [mrg_new, List.map_cons, ih hr (List.pairwise_cons.1 ht).2]; rfl
  · intro r rs t ts hl ih hr ht
    rw [mrg_less hl, List.map_cons, ih hr (List.pairwise_cons.1 ht).2, fnd_lower hr hl]; rfl
  · intro r rs ts ih hr ht
    obtain ⟨h1, h2⟩ := List.pairwise_cons.1 ht
    rw [mrg_same, List.map_cons, ih hr.tail h2, fnd, if_pos rfl]
    have h3 : (ts.map fun t => (⟨t, pv (fnd rs t)⟩ : Po)) = ts.map fun t => ⟨t, pv (fnd (r :: rs) t)⟩ := by
      refine List.map_congr_left fun x hx => ?_
      rw [fnd, if_neg (Wd.less_ne (h1 x hx))]
    rw [h3]; rfl
  · intro r rs t ts hl ih hr ht
    rw [mrg_more hl, ih hr.tail ht]
    refine List.map_congr_left fun x hx => ?_
    rw [fnd, if_neg]
    rcases List.mem_cons.1 hx with rfl | h
    · exact Wd.less_ne hl
    · exact Wd.less_ne (Wd.less_trans hl ((List.pairwise_cons.1 ht).1 _ h))
theorem mrg_len (n : Int) (rs : List Rw) (ts : List ByteArray) : (mrg n rs ts).1.length ≤ rs.length + ts.length ∧ (mrg n rs ts).2.length = ts.length := by
  refine mrg_ind (M := fun rs ts => (mrg n rs ts).1.length ≤ rs.length + ts.length ∧ (mrg n rs ts).2.length = ts.length) ?_ ?_ ?_ ?_ ?_ _ rs ts rfl
  · intro rs; rw [mrg_nil]; simp
  · intro t ts ih; rw [mrg_new]; simp only [List.length_cons, List.length_nil] at ih ⊢; omega
  · intro r rs t ts hl ih; rw [mrg_less hl]; simp only [List.length_cons] at ih ⊢; omega
  · intro r rs ts ih; rw [mrg_same]; simp only [List.length_cons] at ih ⊢; omega
  · intro r rs t ts hl ih; rw [mrg_more hl]; simp only [List.length_cons] at ih ⊢; omega
theorem risen_eq : ∀ {a b : List Rw}, Rise a → Rise b → (∀ t, fnd a t = fnd b t) → a = b
  | [], [], _, _, _ => rfl
  | [], y :: b, _, _, h => by have := h y.tag; rw [fnd, fnd, if_pos rfl] at this; cases this
  | x :: a, [], _, _, h => by have := h x.tag; rw [fnd, fnd, if_pos rfl] at this; cases this
  | x :: a, y :: b, ha, hb, h => by
    have e : x = y := by
      rcases less_cases x.tag y.tag with h1 | h1 | h1
      · have := h x.tag
        rw [fnd_lower hb h1, fnd, if_pos rfl] at this; cases this
      · have := h x.tag
        rw [fnd, if_pos rfl, fnd, if_pos h1.symm] at this
        exact Option.some.inj this
      · have := h y.tag
        rw [fnd_lower ha h1, fnd, if_pos rfl] at this; cases this
    subst e
    congr 1
    refine risen_eq ha.tail hb.tail fun t => ?_
    by_cases e : x.tag = t
    · rw [fnd_none (fun z hz => e ▸ fun h' => Wd.less_ne (ha.head z hz) h'.symm), fnd_none (fun z hz => e ▸ fun h' => Wd.less_ne (hb.head z hz) h'.symm)]
    · have := h t
      rw [fnd, fnd, if_neg e, if_neg e] at this
      exact this
/-- Rows behind leaves of numbers below n. -/
structure Good (n : Int) (rs : List Rw) : Prop where
  rise : Rise rs
  all : ∀ r ∈ rs, r.tag.size = 32 ∧ 1 ≤ r.cnt ∧ r.cnt ≤ r.last + 1 ∧ r.last < n
theorem Good.nil (n : Int) : Good n [] := ⟨List.Pairwise.nil, fun r hr => by simp at hr⟩
theorem Good.mono {n m : Int} {rs : List Rw} (h : Good n rs) (hm : n ≤ m) : Good m rs := ⟨h.rise, fun r hr => by obtain ⟨a, b, c, d⟩ := h.all r hr; exact ⟨a, b, c, by omega⟩⟩
theorem Good.more {n : Int} {rs : List Rw} {ts : List ByteArray} (h : Good n rs) (h0 : 0 ≤ n) (ht : Wd.Rises ts) (h32 : ∀ t ∈ ts, t.size = 32) : Good (n + 1) (mrg n rs ts).1 := by
  refine ⟨mrg_rise n rs ts h.rise ht, fun r hr => ?_⟩
  rcases mrg_mem n rs ts r hr with h1 | ⟨h1, h2, h3⟩
  · obtain ⟨a, b, c, d⟩ := h.all r h1
    exact ⟨a, b, c, by omega⟩
  · refine ⟨h32 _ h1, ?_⟩
    rcases h3 with h3 | ⟨q, hq, -, h3⟩
    · omega
    · obtain ⟨a, b, c, d⟩ := h.all q hq
      omega
/-- Which leaves an index takes. -/
def risesB : List ByteArray → Bool
  | [] => true
  | [_] => true
  | a :: b :: l => Wd.less a b && risesB (b :: l)
theorem risesB_iff : ∀ (l : List ByteArray), risesB l = true ↔ Wd.Rises l
  | [] => ⟨fun _ => List.Pairwise.nil, fun _ => rfl⟩
  | [a] => ⟨fun _ => List.pairwise_singleton _ _, fun _ => rfl⟩
  | a :: b :: l => by
    rw [risesB, Bool.and_eq_true, risesB_iff (b :: l)]
    constructor
    · rintro ⟨h1, h2⟩
      refine List.pairwise_cons.2 ⟨fun x hx => ?_, h2⟩
      rcases List.mem_cons.1 hx with rfl | hx
      · exact h1
      · exact Wd.less_trans h1 ((List.pairwise_cons.1 h2).1 x hx)
    · intro h
      exact ⟨(List.pairwise_cons.1 h).1 b List.mem_cons_self, (List.pairwise_cons.1 h).2⟩
def adB (rs : List Rw) (n : Int) (ts : List ByteArray) : Bool := decide (0 ≤ n ∧ n ≤ 4095 ∧ ts.length ≤ 12) && rs.all (fun r => decide (r.last < n)) && ts.all (fun t => decide (t.size = 32)) && risesB ts
theorem adB_iff {rs : List Rw} {n : Int} {ts : List ByteArray} : adB rs n ts = true ↔ (0 ≤ n ∧ n ≤ 4095 ∧ ts.length ≤ 12) ∧ (∀ r ∈ rs, r.last < n) ∧ (∀ t ∈ ts, t.size = 32) ∧ Wd.Rises ts := by
  unfold adB
  rw [Bool.and_eq_true, Bool.and_eq_true, Bool.and_eq_true, risesB_iff, List.all_eq_true, List.all_eq_true, decide_eq_true_eq]
  simp only [decide_eq_true_eq]
  constructor
  · rintro ⟨⟨⟨a, b⟩, c⟩, d⟩; exact ⟨a, b, c, d⟩
  · rintro ⟨a, b, c, d⟩; exact ⟨⟨⟨a, b⟩, c⟩, d⟩
/-- An index with a leaf more, its postings, and the error. -/
def addI (rs : List Rw) (n : Int) (ts : List ByteArray) : List Rw × List Po × Int :=
  if adB rs n ts = true then (if 4096 < (mrg n rs ts).1.length then ([], [], 6) else ((mrg n rs ts).1, (mrg n rs ts).2, 0)) else ([], [], 1)
/-- A row's leaf, the text of a root, as items and as bytes. -/
def rwT (r : Rw) : Pt := lstT [txtT r.tag, numT r.cnt, numT r.last]
def rwS (r : Rw) : ByteArray := str (Cn.bytes (rwT r))
def rwOk (r : Rw) : Prop := r.tag.size = 32 ∧ 1 ≤ r.cnt ∧ r.cnt ≤ 4096 ∧ 0 ≤ r.last ∧ r.last ≤ 4095
theorem Good.ok {n : Int} {rs : List Rw} (h : Good n rs) (hn : n ≤ 4096) : ∀ r ∈ rs, rwOk r := fun r hr => by
  obtain ⟨a, b, c, d⟩ := h.all r hr
  exact ⟨a, b, by omega, by omega, by omega⟩
theorem rwT_may {r : Rw} (h : rwOk r) : may (rwT r) 6 = true := by
  obtain ⟨a, b, c, d, e⟩ := h
  refine may_lst (by simp) ?_
  rw [mayAll, mayAll, mayAll, mayAll, may_txt (by omega), may_num (by omega) (by omega), may_num (by omega) (by omega)]; rfl
theorem rwT_len {r : Rw} (h : rwOk r) : (Cn.bytes (rwT r)).length ≤ 100 := by
  obtain ⟨a, b, c, d, e⟩ := h
  have a1 := num_few' (n := r.cnt.toNat) (k := 2) (by omega) (by decide)
  have a2 := num_few' (n := r.last.toNat) (k := 2) (by omega) (by decide)
  have a3 := num_few' (n := r.tag.size) (k := 1) (by omega) (by decide)
  have a4 : (num (0 + 1 + 1 + 1)).length ≤ 2 := num_few' (k := 1) (by decide) (by decide)
  have hl : r.tag.data.toList.length = r.tag.size := by simp
  unfold rwT
  rw [bytes_lstT, bytesAll, bytesAll, bytesAll, bytesAll, bytes_txtT, bytes_numT, bytes_numT]
  simp only [List.length_cons, List.length_append, List.length_nil, hl]
  omega
def idxL : ByteArray := ⟨#[105, 110, 100, 101, 120]⟩
def topT (n : Int) (root : ByteArray) : Pt := lstT [txtT idxL, numT n, txtT root]
def topS (n : Int) (root : ByteArray) : ByteArray := str (Cn.bytes (topT n root))
theorem topT_may {n : Int} {r : ByteArray} (h0 : 0 ≤ n) (h1 : n ≤ 72057594037927935) (hr : r.size ≤ 65536) : may (topT n r) 6 = true := by
  refine may_lst (by simp) ?_
  rw [mayAll, mayAll, mayAll, mayAll, may_txt (by decide), may_num h0 h1, may_txt hr]; rfl
theorem topT_len {n : Int} {r : ByteArray} (h1 : n ≤ 72057594037927935) (hr : r.size ≤ 200) : (Cn.bytes (topT n r)).length ≤ 300 := by
  have a1 := num_few' (n := n.toNat) (k := 7) (by omega) (by decide)
  have a2 := num_few' (n := r.size) (k := 1) (by omega) (by decide)
  have a3 : (num idxL.size).length ≤ 2 := num_few' (k := 1) (by decide) (by decide)
  have a4 : (num (0 + 1 + 1 + 1)).length ≤ 2 := num_few' (k := 1) (by decide) (by decide)
  have hl : r.data.toList.length = r.size := by simp
  have hl2 : idxL.data.toList.length = 5 := rfl
  unfold topT
  rw [bytes_lstT, bytesAll, bytesAll, bytesAll, bytesAll, bytes_txtT, bytes_txtT, bytes_numT]
  simp only [List.length_cons, List.length_append, List.length_nil, hl, hl2]
  omega
end Ix
end Go.Proofs.YtdfkpjmljaanpaaGreatDoor
namespace Go.Proofs.YtdfkpjmljaanpaaGreatDoor
open Go.RowKit
open Cn
namespace Ix
open Tr
/-- The digests of the rows' leaves, the text of the root, the root. -/
def lvs (rs : List Rw) : List ByteArray := rs.map fun r => leaf (rwS r)
def rtT (rs : List Rw) : ByteArray := topS rs.length (root (lvs rs))
def rtI (rs : List Rw) : ByteArray := sumE (rtT rs)
theorem lvs_length (rs : List Rw) : (lvs rs).length = rs.length := by unfold lvs; rw [List.length_map]
theorem lvs_digs (rs : List Rw) : Digs (lvs rs) := fun x hx => by
  obtain ⟨r, -, rfl⟩ := List.mem_map.1 hx
  exact sumE_size _
theorem lvs_getD {rs : List Rw} {i : Nat} (h : i < rs.length) : (lvs rs).getD i ByteArray.empty = leaf (rwS rs[i]) := by
  rw [List.getD_eq_getElem?_getD, List.getElem?_eq_getElem (by rw [lvs_length]; exact h)]
  simp [lvs]
theorem root_32 : ∀ {l : List ByteArray}, Digs l → (root l).size = 32
  | [], _ => sumE_size _
  | [x], h => h x (by simp)
  | a :: b :: r, _ => by rw [root_two (by simp)]; exact sumE_size _
/-- A row that is shown, its place, its way. -/
structure Sh where
  pl : Int
  row : Rw
  way : List ByteArray
def digB (ws : List ByteArray) : Bool := ws.all fun x => decide (x.size = 32)
theorem digB_iff {ws : List ByteArray} : digB ws = true ↔ Digs ws := by
  unfold digB Digs
  rw [List.all_eq_true]
  simp only [decide_eq_true_eq]
/-- Where a way leads, of any numbers. -/
def clI (n i : Int) (d : ByteArray) (ws : List ByteArray) : Option (ByteArray × List ByteArray × List ByteArray) :=
  if 1 ≤ n ∧ n ≤ 4096 ∧ 0 ≤ i ∧ i < n ∧ digB ws = true then climb i.toNat (n.toNat - 1) d ws else none
instance (r : Rw) : Decidable (rwOk r) := inferInstanceAs (Decidable (_ ∧ _))
def leadsB (rt : ByteArray) (n : Int) (s : Sh) : Bool := decide (rwOk s.row) && (match clI n s.pl (leaf (rwS s.row)) s.way with
  | none => false
  | some x => decide (sumE (topS n x.1) = rt))
def Rw.zero : Rw := ⟨⟨#[]⟩, 0, 0⟩
/-- What rows that are shown tell: the row, whether there is one, whether that is proved. -/
def tellI (t : ByteArray) (n : Int) : List Sh → Rw × Bool × Bool
  | [] => (Rw.zero, false, false)
  | [a] => if a.row.tag = t then (a.row, true, true) else (Rw.zero, false, (Wd.less t a.row.tag && decide (a.pl = 0)) || (Wd.less a.row.tag t && decide (a.pl + 1 = n)))
  | [a, b] => (Rw.zero, false, Wd.less a.row.tag t && Wd.less t b.row.tag && decide (a.pl + 1 = b.pl))
  | _ => (Rw.zero, false, false)
def verI (rt t : ByteArray) (n : Int) (l : List Sh) : Rw × Bool × Bool :=
  if l.all (leadsB rt n) = true then (if l = [] then (Rw.zero, false, decide (n = 0 ∧ rtI [] = rt)) else tellI t n l) else (Rw.zero, false, false)
theorem climb_32 : ∀ (last a : Nat) (d : ByteArray) (w : List ByteArray) (x : ByteArray × List ByteArray × List ByteArray), d.size = 32 → climb a last d w = some x → x.1.size = 32 := by
  intro last
  induction last using Nat.strongRecOn with
  | ind last ih =>
    intro a d w x hd hc
    by_cases h0 : last = 0
    · subst h0
      rw [climb_zero] at hc
      by_cases hwn : w = []
      · rw [if_pos hwn] at hc
        injection hc with hc
        subst hc
        exact hd
      · rw [if_neg hwn] at hc; cases hc
    · rw [climb_step _ _ h0] at hc
      by_cases hal : a = last ∧ a % 2 = 0
      · rw [if_pos hal] at hc; exact ih _ (by omega) _ _ _ _ hd hc
      · rw [if_neg hal] at hc
        match w, hc with
        | y :: r, hc =>
          simp only at hc
          by_cases he : a % 2 = 0
          · rw [if_pos he] at hc
            obtain ⟨z, hz, rfl⟩ := Option.map_eq_some_iff.1 hc
            exact ih (last / 2) (by omega) (a / 2) _ _ z (sumE_size _) hz
          · rw [if_neg he] at hc
            obtain ⟨z, hz, rfl⟩ := Option.map_eq_some_iff.1 hc
            exact ih (last / 2) (by omega) (a / 2) _ _ z (sumE_size _) hz
theorem rise_at {rs : List Rw} (h : Rise rs) {i j : Nat} {a b : Rw} (ha : rs[i]? = some a) (hb : rs[j]? = some b) (hij : i < j) : Wd.less a.tag b.tag = true := by
  obtain ⟨hi, rfl⟩ := List.getElem?_eq_some_iff.1 ha
  obtain ⟨hj, rfl⟩ := List.getElem?_eq_some_iff.1 hb
  exact List.pairwise_iff_getElem.1 h i j hi hj hij
theorem mem_at {rs : List Rw} {x : Rw} (h : x ∈ rs) : ∃ j : Nat, j < rs.length ∧ rs[j]? = some x := by
  obtain ⟨j, hj, rfl⟩ := List.mem_iff_getElem.1 h
  exact ⟨j, hj, List.getElem?_eq_getElem hj⟩
end Ix
end Go.Proofs.YtdfkpjmljaanpaaGreatDoor
namespace Go.Proofs.YtdfkpjmljaanpaaGreatDoor
open Go.RowKit
open Cn
namespace Ix
open Tr
theorem way_32 : ∀ (n : Nat) (l : List ByteArray) (i : Nat), l.length = n → Digs l → Digs (way l i) := by
  intro n
  induction n using Nat.strongRecOn with
  | ind n ih =>
    intro l i hn hD
    by_cases h : 2 ≤ l.length
    · have p1 := hf_pos l.length
      have p2 := hf_lt h
      have ht : Digs (l.take (hf l.length)) := fun x hx => hD x (List.mem_of_mem_take hx)
      have hd : Digs (l.drop (hf l.length)) := fun x hx => hD x (List.mem_of_mem_drop hx)
      rw [way_two h]
      split
      · intro x hx
        rcases List.mem_append.1 hx with hx | hx
        · exact ih (hf l.length) (by omega) _ i (by rw [List.length_take]; omega) ht x hx
        · rw [List.mem_singleton.1 hx]; exact root_32 hd
      · intro x hx
        rcases List.mem_append.1 hx with hx | hx
        · exact ih (l.length - hf l.length) (by omega) _ _ (by rw [List.length_drop]) hd x hx
        · rw [List.mem_singleton.1 hx]; exact root_32 ht
    · rw [way_one (by omega)]
      intro x hx; cases hx
/-- Does a row stand next to where a tag would stand? -/
def nextB (rs : List Rw) (t : ByteArray) (i : Nat) (r : Rw) : Bool :=
  (Wd.less r.tag t && (match rs[i + 1]? with
    | none => true
    | some q => Wd.less t q.tag)) || (Wd.less t r.tag && (match i with
    | 0 => true
    | j + 1 => match rs[j]? with
      | none => true
      | some q => Wd.less q.tag t))
def pickB (rs : List Rw) (t : ByteArray) (i : Nat) (r : Rw) : Bool :=
  if (fnd rs t).isSome = true then decide (r.tag = t) else nextB rs t i r
def shAt (rs : List Rw) (t : ByteArray) (i : Nat) : Option Sh := match rs[i]? with
  | none => none
  | some r => if pickB rs t i r = true then some ⟨i, r, way (lvs rs) i⟩ else none
/-- What a proof of a tag shows, of the first so many rows. -/
def prvN (rs : List Rw) (t : ByteArray) (k : Nat) : List Sh := (List.range k).filterMap (shAt rs t)
def prvI (rs : List Rw) (t : ByteArray) : List Sh := prvN rs t rs.length
theorem prvN_succ (rs : List Rw) (t : ByteArray) (k : Nat) : prvN rs t (k + 1) = prvN rs t k ++ (shAt rs t k).toList := by
  unfold prvN
  rw [List.range_succ, List.filterMap_append]
  congr 1
/-- Where a tag that has no row would stand. -/
theorem stand : ∀ {rs : List Rw} {t : ByteArray}, Rise rs → fnd rs t = none → ∃ k : Nat, k ≤ rs.length ∧ (∀ i r, rs[i]? = some r → i < k → Wd.less r.tag t = true) ∧ (∀ i r, rs[i]? = some r → k ≤ i → Wd.less t r.tag = true)
  | [], _, _, _ => ⟨0, by simp, fun i r h => by simp at h, fun i r h => by simp at h⟩
  | r :: rs, t, hr, hf => by
    have hne : ∀ x ∈ r :: rs, x.tag ≠ t := fnd_no hf
    rcases less_cases t r.tag with h | h | h
    · refine ⟨0, by simp, fun i x _ hi => by omega, fun i x hx _ => ?_⟩
      have hm : x ∈ r :: rs := List.mem_of_getElem? hx
      rcases List.mem_cons.1 hm with rfl | hm
      · exact h
      · exact Wd.less_trans h (hr.head x hm)
    · exact absurd h.symm (hne r List.mem_cons_self)
    · obtain ⟨k, hk, h1, h2⟩ := stand hr.tail (fnd_none (fun x hx => hne x (List.mem_cons_of_mem _ hx)))
      refine ⟨k + 1, by simpa using hk, fun i x hx hi => ?_, fun i x hx hi => ?_⟩
      · cases i with
        | zero => simp only [List.getElem?_cons_zero, Option.some.injEq] at hx; subst hx; exact h
        | succ i => exact h1 i x (by simpa using hx) (by omega)
      · cases i with
        | zero => omega
        | succ i => exact h2 i x (by simpa using hx) (by omega)
theorem prv_some {rs : List Rw} (hr : Rise rs) {t : ByteArray} {r : Rw} (hf : fnd rs t = some r) : ∃ i : Nat, rs[i]? = some r ∧ ∀ k, k ≤ rs.length → prvN rs t k = if i < k then [⟨i, r, way (lvs rs) i⟩] else [] := by
  obtain ⟨hm, ht⟩ := fnd_some hf
  obtain ⟨i, hi, hri⟩ := mem_at hm
  refine ⟨i, hri, fun k => ?_⟩
  induction k with
  | zero => intro _; rw [if_neg (by omega)]; rfl
  | succ k ih =>
    intro hk
    rw [prvN_succ, ih (by omega)]
    have hsh : shAt rs t k = if k = i then some ⟨i, r, way (lvs rs) i⟩ else none := by
      unfold shAt
      rw [List.getElem?_eq_getElem (by omega : k < rs.length)]
      simp only
      unfold pickB
      simp only [hf, Option.isSome_some, if_true]
      by_cases e : k = i
      · subst e
        rw [List.getElem?_eq_getElem (by omega : k < rs.length)] at hri
        obtain rfl := Option.some.inj hri
        rw [if_pos (decide_eq_true ht), if_pos rfl]
      · rw [if_neg e, if_neg]
        rw [decide_eq_true_eq]
        intro e2
        have hkr := List.getElem?_eq_getElem (by omega : k < rs.length)
        rcases Nat.lt_or_ge k i with h | h
        · have := rise_at hr hkr hri h
          rw [e2, ht, Wd.less_irrefl] at this; cases this
        · have := rise_at hr hri hkr (by omega)
          rw [e2, ht, Wd.less_irrefl] at this; cases this
    rw [hsh]
    by_cases e : k = i
    · subst e
      rw [if_pos rfl, if_neg (by omega), if_pos (by omega)]; rfl
    · rw [if_neg e]
      by_cases h : i < k
      · rw [if_pos h, if_pos (by omega)]; rfl
      · rw [if_neg h, if_neg (by omega)]; rfl
theorem prv_none {rs : List Rw} {t : ByteArray} (hf : fnd rs t = none) {k : Nat} (hkl : k ≤ rs.length) (h1 : ∀ i r, rs[i]? = some r → i < k → Wd.less r.tag t = true) (h2 : ∀ i r, rs[i]? = some r → k ≤ i → Wd.less t r.tag = true) :
    ∀ m, m ≤ rs.length → prvN rs t m = (if h : 0 < k ∧ k - 1 < m ∧ k - 1 < rs.length then [⟨((k - 1 : Nat) : Int), rs[k - 1]'h.2.2, way (lvs rs) (k - 1)⟩] else []) ++ (if h : k < m ∧ k < rs.length then [⟨(k : Int), rs[k]'h.2, way (lvs rs) k⟩] else []) := by
  intro m
  induction m with
  | zero => intro _; rw [dif_neg (by omega), dif_neg (by omega)]; rfl
  | succ m ih =>
    intro hm
    have hml : m < rs.length := by omega
    rw [prvN_succ, ih (by omega)]
    have hmr := List.getElem?_eq_getElem hml
    have hsh : shAt rs t m = if m + 1 = k ∨ m = k then some ⟨m, rs[m], way (lvs rs) m⟩ else none := by
      unfold shAt
      rw [hmr]
      simp only
      unfold pickB
      rw [hf]
      simp only [Option.isSome_none, Bool.false_eq_true, if_false]
      congr 1
      apply propext
      unfold nextB
      rw [Bool.or_eq_true, Bool.and_eq_true, Bool.and_eq_true]
      constructor
      · rintro (⟨a, b⟩ | ⟨a, b⟩)
        · left
          rcases Nat.lt_or_ge m k with h | h
          · by_cases e : m + 1 < rs.length
            · rw [List.getElem?_eq_getElem e] at b
              simp only at b
              rcases Nat.lt_or_ge (m + 1) k with h3 | h3
              · have := h1 _ _ (List.getElem?_eq_getElem e) h3
                rw [Wd.less_asymm this] at b; cases b
              · omega
            · rcases Nat.lt_or_ge (m + 1) k with h3 | h3
              · exfalso
                omega
              · omega
          · have := h2 _ _ hmr h
            rw [Wd.less_asymm this] at a; cases a
        · right
          rcases Nat.lt_or_ge m k with h | h
          · have := h1 _ _ hmr h
            rw [Wd.less_asymm this] at a; cases a
          · cases m with
            | zero => omega
            | succ j =>
              simp only at b
              have hjl : j < rs.length := by omega
              rw [List.getElem?_eq_getElem hjl] at b
              simp only at b
              rcases Nat.lt_or_ge j k with h3 | h3
              · omega
              · have := h2 _ _ (List.getElem?_eq_getElem hjl) h3
                rw [Wd.less_asymm this] at b; cases b
      · rintro (e | e)
        · left
          refine ⟨h1 _ _ hmr (by omega), ?_⟩
          cases hq : rs[m + 1]? with
          | none => rfl
          | some q => exact h2 _ _ hq (by omega)
        · right
          refine ⟨h2 _ _ hmr (by omega), ?_⟩
          cases m with
          | zero => rfl
          | succ j =>
            simp only
            cases hq : rs[j]? with
            | none => rfl
            | some q => exact h1 _ _ hq (by omega)
    rw [hsh]
    by_cases e1 : m + 1 = k
    · subst e1
      rw [if_pos (Or.inl rfl), dif_neg (by omega), dif_neg (by omega), dif_pos (by omega), dif_neg (by omega)]
      simp
    · by_cases e2 : m = k
      · subst e2
        rw [if_pos (Or.inr rfl)]
        by_cases h0 : 0 < m
        · rw [dif_pos (by omega), dif_neg (by omega), dif_pos (by omega), dif_pos (by omega)]; simp
        · rw [dif_neg (by omega), dif_neg (by omega), dif_neg (by omega), dif_pos (by omega)]; simp
      · rw [if_neg (by omega)]
        simp only [Option.toList_none, List.append_nil]
        congr 1
        · by_cases h : 0 < k ∧ k - 1 < m ∧ k - 1 < rs.length
          · rw [dif_pos h, dif_pos (by omega)]
          · rw [dif_neg h, dif_neg (by omega)]
        · by_cases h : k < m ∧ k < rs.length
          · rw [dif_pos h, dif_pos (by omega)]
          · rw [dif_neg h, dif_neg (by omega)]
theorem leads_way {rs : List Rw} {m : Int} (hG : Good m rs) (hm : m ≤ 4096) (hl : rs.length ≤ 4096) {i : Nat} {r : Rw} (h : rs[i]? = some r) : leadsB (rtI rs) rs.length ⟨i, r, way (lvs rs) i⟩ = true := by
  obtain ⟨hi, rfl⟩ := List.getElem?_eq_some_iff.1 h
  unfold leadsB
  rw [Bool.and_eq_true, decide_eq_true_eq]
  refine ⟨hG.ok hm _ (List.getElem_mem hi), ?_⟩
  have hw : digB (way (lvs rs) i) = true := digB_iff.2 (way_32 _ _ i rfl (lvs_digs rs))
  unfold clI
  simp only
  rw [if_pos ⟨by omega, by omega, by omega, by omega, hw⟩, Int.toNat_natCast, Int.toNat_natCast]
  obtain ⟨T, lf, hc, -⟩ := climb_way (rs.length - 1) (lvs rs) i (by rw [lvs_length]; omega) (by omega)
  rw [lvs_getD hi] at hc
  rw [hc]
  exact decide_eq_true rfl
/-- WHAT IS PROVED IS VERIFIED. -/
theorem ver_prv {rs : List Rw} {m : Int} (hG : Good m rs) (hm : m ≤ 4096) (hl : rs.length ≤ 4096) (t : ByteArray) :
    verI (rtI rs) t rs.length (prvI rs t) = (match fnd rs t with
      | some r => (r, true, true)
      | none => (Rw.zero, false, true)) := by
  unfold verI prvI
  cases hf : fnd rs t with
  | some r =>
    obtain ⟨i, hi, hk⟩ := prv_some hG.rise hf
    have hil := (List.getElem?_eq_some_iff.1 hi).1
    rw [hk _ (Nat.le_refl _), if_pos hil, if_pos (by rw [List.all_cons, leads_way hG hm hl hi]; rfl), if_neg (by simp), tellI, if_pos (fnd_some hf).2]
  | none =>
    obtain ⟨k, hkl, h1, h2⟩ := stand hG.rise hf
    rw [prv_none hf hkl h1 h2 _ (Nat.le_refl _)]
    by_cases h0 : 0 < k
    · have hk1 : k - 1 < rs.length := by omega
      have e1 := List.getElem?_eq_getElem hk1
      rw [dif_pos ⟨h0, hk1, hk1⟩]
      by_cases h3 : k < rs.length
      · have e2 := List.getElem?_eq_getElem h3
        rw [dif_pos ⟨h3, h3⟩]
        rw [if_pos (by rw [List.all_append, List.all_cons, List.all_cons, leads_way hG hm hl e1, leads_way hG hm hl e2]; rfl), if_neg (by simp)]
        simp only [List.cons_append, List.nil_append]
        rw [tellI, h1 _ _ e1 (by omega), h2 _ _ e2 (by omega)]
        simp only
        rw [decide_eq_true (by omega)]; rfl
      · rw [dif_neg (by omega), List.append_nil, if_pos (by rw [List.all_cons, leads_way hG hm hl e1]; rfl), if_neg (by simp)]
        have h4 := h1 _ _ e1 (by omega)
        rw [tellI, if_neg (Wd.less_ne h4), h4]
        simp only
        rw [decide_eq_true (by omega : (((k - 1 : Nat) : Int)) + 1 = (rs.length : Int)), Bool.and_self, Bool.or_true]
    · obtain rfl : k = 0 := by omega
      rw [dif_neg (by omega), List.nil_append]
      by_cases h3 : 0 < rs.length
      · have e2 := List.getElem?_eq_getElem h3
        rw [dif_pos ⟨h3, h3⟩, if_pos (by rw [List.all_cons, leads_way hG hm hl e2]; rfl), if_neg (by simp)]
        have h4 := h2 _ _ e2 (by omega)
        rw [tellI, if_neg (fun e => Wd.less_ne h4 e.symm), h4]
        rfl
      · have h5 : rs = [] := List.eq_nil_of_length_eq_zero (by omega)
        subst h5
        rw [dif_neg (by simp), if_pos List.all_nil, if_pos rfl]
        rw [decide_eq_true ⟨rfl, rfl⟩]
end Ix
end Go.Proofs.YtdfkpjmljaanpaaGreatDoor
namespace Go.Proofs.YtdfkpjmljaanpaaGreatDoor
open Go.RowKit
open Cn
namespace Ix
open Tr
theorem prv_mem {rs : List Rw} {t : ByteArray} {k : Nat} {s : Sh} (h : s ∈ prvN rs t k) : ∃ (i : Nat) (r : Rw), rs[i]? = some r ∧ s = ⟨i, r, way (lvs rs) i⟩ := by
  unfold prvN at h
  obtain ⟨i, -, hi⟩ := List.mem_filterMap.1 h
  unfold shAt at hi
  cases hr : rs[i]? with
  | none => rw [hr] at hi; cases hi
  | some r =>
    rw [hr] at hi
    simp only at hi
    split at hi
    · exact ⟨i, r, hr, (Option.some.inj hi).symm⟩
    · cases hi
end Ix
end Go.Proofs.YtdfkpjmljaanpaaGreatDoor
