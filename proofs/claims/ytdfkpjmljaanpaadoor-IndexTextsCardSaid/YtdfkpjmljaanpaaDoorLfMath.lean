/- Leaves, without a program: which may be, their bytes, the leaf of bytes. -/
import Derived.Test.YtdfkpjmljaanpaaDoorCnT
import Derived.Test.YtdfkpjmljaanpaaDoorMW1
namespace Go.Proofs.YtdfkpjmljaanpaaDoor
open Go.RowKit
open Cn

/-- A tag, and which leaf ahead has it. -/
structure Po where
  tag : ByteArray
  prev : Int
/-- A leaf. -/
structure Lf where
  n : Int
  k : Int
  d : ByteArray
  tags : List Po
  x : ByteArray
def Lf.zero : Lf := ⟨0, 0, ⟨#[]⟩, [], ⟨#[]⟩⟩
def poB (n : Int) (p : Po) : Bool := decide (p.tag.size = 32) && decide (0 ≤ p.prev) && decide (p.prev ≤ n)
/-- Does the i-th tag stand right? -/
def tagAt (n : Int) (l : List Po) (i : Nat) : Bool := match l[i]? with
  | none => true
  | some p => poB n p && (match i with
    | 0 => true
    | j + 1 => match l[j]? with
      | none => true
      | some q => Wd.less q.tag p.tag)
def TagsOk (n : Int) (l : List Po) : Prop := ∀ i, i < l.length → tagAt n l i = true
def headB (l : Lf) : Bool := decide (0 ≤ l.n) && decide (l.n ≤ 4095) && (decide (l.k = 1) || decide (l.k = 2)) && decide (l.d.size = 32) && decide (l.x.size = 32) && decide (l.tags.length ≤ 12) && (decide (l.k ≠ 2) || decide (l.tags = []))
instance (n : Int) (l : List Po) : Decidable (TagsOk n l) := inferInstanceAs (Decidable (∀ i, i < l.length → tagAt n l i = true))
def lfB (l : Lf) : Bool := headB l && decide (TagsOk l.n l.tags)
theorem headB_iff {l : Lf} : headB l = true ↔ (0 ≤ l.n ∧ l.n ≤ 4095) ∧ (l.k = 1 ∨ l.k = 2) ∧ l.d.size = 32 ∧ l.x.size = 32 ∧ l.tags.length ≤ 12 ∧ (l.k ≠ 2 ∨ l.tags = []) := by
  unfold headB
  simp only [Bool.and_eq_true, Bool.or_eq_true, decide_eq_true_eq]
  constructor
  · rintro ⟨⟨⟨⟨⟨⟨a, b⟩, c⟩, d⟩, e⟩, f⟩, g⟩; exact ⟨⟨a, b⟩, c, d, e, f, g⟩
  · rintro ⟨⟨a, b⟩, c, d, e, f, g⟩; exact ⟨⟨⟨⟨⟨⟨a, b⟩, c⟩, d⟩, e⟩, f⟩, g⟩
theorem lfB_iff {l : Lf} : lfB l = true ↔ headB l = true ∧ TagsOk l.n l.tags := by unfold lfB; simp
theorem TagsOk.po {n : Int} {l : List Po} (h : TagsOk n l) {p : Po} (hp : p ∈ l) : p.tag.size = 32 ∧ 0 ≤ p.prev ∧ p.prev ≤ n := by
  obtain ⟨i, hi, rfl⟩ := List.mem_iff_getElem.1 hp
  have h1 := h i hi
  unfold tagAt at h1
  rw [List.getElem?_eq_getElem hi] at h1
  simp only [Bool.and_eq_true] at h1
  have h2 := h1.1
  unfold poB at h2
  simp only [Bool.and_eq_true, decide_eq_true_eq] at h2
  exact ⟨h2.1.1, h2.1.2, h2.2⟩
def poT (p : Po) : Pt := lstT [txtT p.tag, numT p.prev]
/-- A leaf as an item. -/
def lfT (l : Lf) : Pt := lstT [numT l.n, numT l.k, txtT l.d, lstT (l.tags.map poT), txtT l.x]
/-- A leaf's bytes; none, if it may not be. -/
def lfS (l : Lf) : ByteArray := if lfB l = true then ⟨(Cn.bytes (lfT l)).toArray⟩ else ⟨#[]⟩
theorem mayAll_map {d : Nat} : ∀ (l : List Po), (∀ p ∈ l, may (poT p) d = true) → mayAll (l.map poT) d = true
  | [], _ => rfl
  | p :: l, h => by
    rw [List.map_cons, mayAll, h p List.mem_cons_self, mayAll_map l (fun q hq => h q (List.mem_cons_of_mem _ hq))]; rfl
theorem lfT_may {l : Lf} (hb : lfB l = true) : may (lfT l) 6 = true := by
  obtain ⟨h1, h2⟩ := lfB_iff.1 hb
  have h3 := headB_iff.1 h1
  have hp : ∀ p ∈ l.tags, may (poT p) 4 = true := fun p hp => by
    have h4 := h2.po hp
    refine may_lst (by simp) ?_
    rw [mayAll, mayAll, mayAll, may_txt (by omega), may_num h4.2.1 (by omega)]; rfl
  refine may_lst (by simp) ?_
  rw [mayAll, mayAll, mayAll, mayAll, mayAll, mayAll, may_num (by omega) (by omega), may_num (by omega) (by omega), may_txt (by omega), may_lst (by rw [List.length_map]; omega) (mayAll_map _ hp), may_txt (by omega)]
  rfl
theorem poT_len {n : Int} (hn : n ≤ 4095) {p : Po} (h : p.tag.size = 32 ∧ 0 ≤ p.prev ∧ p.prev ≤ n) : (Cn.bytes (poT p)).length ≤ 50 := by
  have a1 := num_few' (n := p.prev.toNat) (k := 2) (by omega) (by decide)
  have a2 := num_few' (n := p.tag.size) (k := 1) (by omega) (by decide)
  have a4 : (num (0 + 1 + 1)).length ≤ 2 := num_few' (k := 1) (by decide) (by decide)
  have hl : p.tag.data.toList.length = p.tag.size := by simp
  unfold poT
  rw [bytes_lstT, bytesAll, bytesAll, bytesAll, bytes_txtT, bytes_numT]
  simp only [List.length_cons, List.length_append, List.length_nil, hl]
  omega
theorem poAll_len {n : Int} (hn : n ≤ 4095) : ∀ (l : List Po), (∀ p ∈ l, p.tag.size = 32 ∧ 0 ≤ p.prev ∧ p.prev ≤ n) → (bytesAll (l.map poT)).length ≤ 50 * l.length
  | [], _ => by simp [bytesAll]
  | p :: l, h => by
    rw [List.map_cons, bytesAll, List.length_append, List.length_cons]
    have h1 := poT_len hn (h p List.mem_cons_self)
    have h2 := poAll_len hn l (fun q hq => h q (List.mem_cons_of_mem _ hq))
    omega
theorem lfT_len {l : Lf} (hb : lfB l = true) : (Cn.bytes (lfT l)).length ≤ 1000 := by
  obtain ⟨h1, h2⟩ := lfB_iff.1 hb
  have h3 := headB_iff.1 h1
  have a0 := poAll_len (n := l.n) (by omega) l.tags (fun p hp => h2.po hp)
  have a1 := num_few' (n := l.n.toNat) (k := 2) (by omega) (by decide)
  have a2 := num_few' (n := l.k.toNat) (k := 1) (by omega) (by decide)
  have a3 := num_few' (n := l.d.size) (k := 1) (by omega) (by decide)
  have a4 := num_few' (n := l.x.size) (k := 1) (by omega) (by decide)
  have a5 := num_few' (n := l.tags.length) (k := 1) (by omega) (by decide)
  have a6 : (num (0 + 1 + 1 + 1 + 1 + 1)).length ≤ 2 := num_few' (k := 1) (by decide) (by decide)
  have hl1 : l.d.data.toList.length = l.d.size := by simp
  have hl2 : l.x.data.toList.length = l.x.size := by simp
  unfold lfT
  rw [bytes_lstT, bytesAll, bytesAll, bytesAll, bytesAll, bytesAll, bytesAll, bytes_numT, bytes_numT, bytes_txtT, bytes_txtT, bytes_lstT, List.length_map]
  simp only [List.length_cons, List.length_append, List.length_nil, hl1, hl2]
  omega
theorem lfS_size (l : Lf) : (lfS l).size ≤ 1000 := by
  unfold lfS
  by_cases hb : lfB l = true
  · rw [if_pos hb, size_toArray]; exact lfT_len hb
  · rw [if_neg hb]; decide
theorem poT_inj {p q : Po} (hpq : poT p = poT q) : p = q := by
  obtain ⟨t, r⟩ := p
  obtain ⟨t', r'⟩ := q
  unfold poT lstT numT txtT at hpq
  injection hpq with _ _ _ hpq
  injection hpq with k1 hpq
  injection hpq with k2 _
  injection k1 with _ _ k1
  injection k2 with _ k2
  subst k1 k2; rfl
theorem map_poT : ∀ {l m : List Po}, l.map poT = m.map poT → l = m
  | [], [], _ => rfl
  | [], _ :: _, h => by simp at h
  | _ :: _, [], h => by simp at h
  | p :: l, q :: m, h => by
    rw [List.map_cons, List.map_cons] at h
    injection h with h1 h2
    rw [poT_inj h1, map_poT h2]
theorem lfT_inj {a b : Lf} (h : lfT a = lfT b) : a = b := by
  obtain ⟨n, k, d, tags, x⟩ := a
  obtain ⟨n', k', d', tags', x'⟩ := b
  unfold lfT lstT numT txtT at h
  injection h with _ _ _ h
  injection h with h1 h
  injection h with h2 h
  injection h with h3 h
  injection h with h4 h
  injection h with h5 _
  injection h1 with _ h1
  injection h2 with _ h2
  injection h3 with _ _ h3
  injection h4 with _ _ _ h4
  injection h5 with _ _ h5
  subst h1 h2 h3 h5
  have h6 := map_poT h4
  subst h6; rfl
theorem lfS_dec {l : Lf} (hb : lfB l = true) : decR (lfS l).data.toList = .ok (lfT l) := by
  unfold lfS
  rw [if_pos hb]
  show decR (Cn.bytes (lfT l)).toArray.toList = _
  rw [List.toList_toArray]
  exact decR_bytes (lfT_may hb) (Nat.le_trans (lfT_len hb) (by decide))
/-- IN ONE WAY ALONE. -/
theorem lfS_inj {a b : Lf} (ha : lfB a = true) (hb : lfB b = true) (h : lfS a = lfS b) : a = b := by
  have h1 := lfS_dec ha
  rw [h, lfS_dec hb] at h1
  injection h1 with h1
  exact (lfT_inj h1).symm
theorem lfS_empty {l : Lf} : (lfS l).size = 0 ↔ lfB l = false := by
  unfold lfS
  cases hb : lfB l with
  | false => rw [if_neg (by decide)]; simp; rfl
  | true =>
    rw [if_pos rfl, size_toArray]
    constructor
    · intro e; have := bytes_pos (lfT l); omega
    · intro e; cases e
/-- The leaf that bytes say, and the error. -/
noncomputable def rdL (s : ByteArray) : Lf × Int := @dite _ (∃ l, lfB l = true ∧ lfS l = s) (Classical.propDecidable _) (fun h => (Classical.choose h, 0)) (fun _ => (Lf.zero, 3))
theorem rdL_ok {l : Lf} (hb : lfB l = true) : rdL (lfS l) = (l, 0) := by
  have h : ∃ m, lfB m = true ∧ lfS m = lfS l := ⟨l, hb, rfl⟩
  unfold rdL
  rw [dif_pos h]
  have h2 := Classical.choose_spec h
  rw [lfS_inj h2.1 hb h2.2]
theorem rdL_bad {s : ByteArray} (h : ¬ ∃ l, lfB l = true ∧ lfS l = s) : rdL s = (Lf.zero, 3) := by
  unfold rdL
  rw [dif_neg h]
theorem rdL_cases (s : ByteArray) : (∃ l, lfB l = true ∧ lfS l = s ∧ rdL s = (l, 0)) ∨ ((¬ ∃ l, lfB l = true ∧ lfS l = s) ∧ rdL s = (Lf.zero, 3)) := by
  by_cases h : ∃ l, lfB l = true ∧ lfS l = s
  · obtain ⟨l, h1, rfl⟩ := h
    exact Or.inl ⟨l, h1, rfl, rdL_ok h1⟩
  · exact Or.inr ⟨h, rdL_bad h⟩
/-- Which leaf ahead has a tag. -/
def findP : List Po → ByteArray → Int × Bool
  | [], _ => (0, false)
  | p :: l, t => if p.tag = t then (p.prev, true) else findP l t
end Go.Proofs.YtdfkpjmljaanpaaDoor
