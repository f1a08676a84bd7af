/- MT1, what is wanted of it. -/
import Derived.Test.YtdfkpjmljaanpaaGreatDoorZMH2
namespace Go.Proofs.YtdfkpjmljaanpaaGreatDoor
open Go.RowKit
namespace Tr
def leafT (s : ByteArray) : ByteArray := ⟨#[0]⟩ ++ s
def nodeT (a b : ByteArray) : ByteArray := ⟨#[1]⟩ ++ a ++ b
def sumE (s : ByteArray) : ByteArray := str (sha s.data.toList)
def leaf (s : ByteArray) : ByteArray := sumE (leafT s)
def node (a b : ByteArray) : ByteArray := sumE (nodeT a b)
theorem sumE_size (s : ByteArray) : (sumE s).size = 32 := by rw [sumE, str_size, sha_length]
/-- The greatest power of 2 below n. -/
def hf (n : Nat) : Nat := 2 ^ Nat.log2 (n - 1)
theorem hf_pos (n : Nat) : 0 < hf n := Nat.two_pow_pos _
theorem hf_lt {n : Nat} (h : 2 ≤ n) : hf n < n := by
  have : 2 ^ Nat.log2 (n - 1) ≤ n - 1 := Nat.log2_self_le (by omega)
  unfold hf; omega
theorem hf_ge {n : Nat} (h : 2 ≤ n) : n ≤ 2 * hf n := by
  have : n - 1 < 2 ^ (Nat.log2 (n - 1) + 1) := Nat.lt_log2_self
  rw [Nat.pow_succ] at this
  unfold hf; omega
theorem hf_unique {n k j : Nat} (hk : k = 2 ^ j) (h1 : k < n) (h2 : n ≤ 2 * k) : k = hf n := by
  have e : Nat.log2 (n - 1) = j := by
    have h0 : n - 1 ≠ 0 := by have := Nat.two_pow_pos j; omega
    have a : j ≤ Nat.log2 (n - 1) := (Nat.le_log2 h0).2 (by omega)
    have b : Nat.log2 (n - 1) < j + 1 := (Nat.log2_lt h0).2 (by rw [Nat.pow_succ]; omega)
    omega
  unfold hf
  rw [e, hk]
theorem hf_even {n : Nat} (h : 3 ≤ n) : ∃ m, 1 ≤ m ∧ hf n = 2 * m ∧ hf ((n + 1) / 2) = m := by
  have h1 := hf_lt (n := n) (by omega)
  have h2 := hf_ge (n := n) (by omega)
  have h3 : hf n = 2 ^ Nat.log2 (n - 1) := rfl
  cases hj : Nat.log2 (n - 1) with
  | zero => rw [hj] at h3; omega
  | succ j =>
    rw [hj, Nat.pow_succ] at h3
    have hp := Nat.two_pow_pos j
    exact ⟨2 ^ j, by omega, by omega, (hf_unique rfl (by omega) (by omega)).symm⟩
/-- The root. -/
def rootF : Nat → List ByteArray → ByteArray
  | 0, _ => sumE ⟨#[]⟩
  | f + 1, l => match l with
    | [] => sumE ⟨#[]⟩
    | [d] => d
    | l => node (rootF f (l.take (hf l.length))) (rootF f (l.drop (hf l.length)))
def root (l : List ByteArray) : ByteArray := rootF l.length l
theorem len_cases {α : Type} (l : List α) : l = [] ∨ (∃ a, l = [a]) ∨ 2 ≤ l.length := by
  match l with
  | [] => exact .inl rfl
  | [a] => exact .inr (.inl ⟨a, rfl⟩)
  | a :: b :: r => exact .inr (.inr (by simp))
theorem rootF_succ {f : Nat} {l : List ByteArray} (h : 2 ≤ l.length) : rootF (f + 1) l = node (rootF f (l.take (hf l.length))) (rootF f (l.drop (hf l.length))) := by
  match l, h with
  | a :: b :: r, _ => rfl
theorem rootF_any : ∀ (f g : Nat) (l : List ByteArray), l.length ≤ f → l.length ≤ g → rootF f l = rootF g l := by
  intro f
  induction f with
  | zero =>
    intro g l h1 h2
    have : l = [] := List.length_eq_zero_iff.1 (by omega)
    subst this
    cases g <;> rfl
  | succ f ih =>
    intro g l h1 h2
    cases g with
    | zero =>
      have : l = [] := List.length_eq_zero_iff.1 (by omega)
      subst this; rfl
    | succ g =>
      rcases len_cases l with rfl | ⟨a, rfl⟩ | h
      · rfl
      · rfl
      · rw [rootF_succ h, rootF_succ h]
        have p1 := hf_pos l.length
        have p2 := hf_lt h
        rw [ih g _ (by rw [List.length_take]; omega) (by rw [List.length_take]; omega), ih g _ (by rw [List.length_drop]; omega) (by rw [List.length_drop]; omega)]
theorem root_one (a : ByteArray) : root [a] = a := rfl
theorem root_two {l : List ByteArray} (h : 2 ≤ l.length) : root l = node (root (l.take (hf l.length))) (root (l.drop (hf l.length))) := by
  have p1 := hf_pos l.length
  have p2 := hf_lt h
  unfold root
  rw [show rootF l.length l = rootF (l.length - 1 + 1) l by congr 1; omega, rootF_succ h]
  congr 1
  · exact rootF_any _ _ _ (by rw [List.length_take]; omega) (Nat.le_refl _)
  · exact rootF_any _ _ _ (by rw [List.length_drop]; omega) (Nat.le_refl _)
/-- The next level. -/
def next : List ByteArray → List ByteArray
  | a :: b :: r => node a b :: next r
  | l => l
theorem next_length : ∀ l : List ByteArray, (next l).length = (l.length + 1) / 2
  | [] => rfl
  | [a] => by simp [next]
  | a :: b :: r => by rw [next, List.length_cons, next_length r]; simp; omega
theorem next_append : ∀ (p q : List ByteArray), p.length % 2 = 0 → next (p ++ q) = next p ++ next q
  | [], q, _ => rfl
  | [a], q, h => by simp at h
  | a :: b :: r, q, h => by
    rw [List.cons_append, List.cons_append, next, next, List.cons_append, next_append r q (by simp at h; omega)]
theorem next_one (a : ByteArray) : next [a] = [a] := rfl
theorem next_pair (a b : ByteArray) : next [a, b] = [node a b] := rfl
theorem next_halves {l : List ByteArray} {k : Nat} (h : k % 2 = 0) (hk : k ≤ l.length) : next l = next (l.take k) ++ next (l.drop k) ∧ (next (l.take k)).length = k / 2 := by
  constructor
  · rw [← next_append _ _ (by rw [List.length_take]; omega), List.take_append_drop]
  · rw [next_length, List.length_take]; omega
theorem next_take {l : List ByteArray} {k : Nat} (h : k % 2 = 0) (hk : k ≤ l.length) : next (l.take k) = (next l).take (k / 2) := by
  obtain ⟨e, e2⟩ := next_halves h hk
  rw [e, List.take_append_of_le_length (Nat.le_of_eq e2.symm)]
  exact (List.take_of_length_le (Nat.le_of_eq e2)).symm
theorem next_drop {l : List ByteArray} {k : Nat} (h : k % 2 = 0) (hk : k ≤ l.length) : next (l.drop k) = (next l).drop (k / 2) := by
  obtain ⟨e, e2⟩ := next_halves h hk
  rw [e, ← e2, List.drop_left]
/-- A root is that of the next level. -/
theorem root_next : ∀ (n : Nat) (l : List ByteArray), l.length = n → root (next l) = root l := by
  intro n
  induction n using Nat.strongRecOn with
  | ind n ih =>
    intro l hn
    rcases len_cases l with rfl | ⟨a, rfl⟩ | h
    · rfl
    · rfl
    · by_cases h3 : 3 ≤ l.length
      · obtain ⟨m, m1, m2, m3⟩ := hf_even h3
        have p2 := hf_lt h
        have hl := next_length l
        rw [root_two h, root_two (l := next l) (by omega), hl, m3, m2, ← ih (2 * m) (by omega) (l.take (2 * m)) (by rw [List.length_take]; omega), ← ih (l.length - 2 * m) (by omega) (l.drop (2 * m)) (by rw [List.length_drop])]
        rw [next_take (by omega) (by omega), next_drop (by omega) (by omega), show 2 * m / 2 = m by omega]
      · match l, h, h3 with
        | [a, b], _, _ => rfl
        | a :: b :: c :: r, _, h3 => simp at h3
theorem root_next' (l : List ByteArray) : root (next l) = root l := root_next _ l rfl
/-- The way of a place. -/
def wayF : Nat → List ByteArray → Nat → List ByteArray
  | 0, _, _ => []
  | f + 1, l, i => if l.length ≤ 1 then [] else
      if i < hf l.length then wayF f (l.take (hf l.length)) i ++ [root (l.drop (hf l.length))]
      else wayF f (l.drop (hf l.length)) (i - hf l.length) ++ [root (l.take (hf l.length))]
def way (l : List ByteArray) (i : Nat) : List ByteArray := wayF l.length l i
theorem wayF_any : ∀ (f g : Nat) (l : List ByteArray) (i : Nat), l.length ≤ f → l.length ≤ g → wayF f l i = wayF g l i := by
  intro f
  induction f with
  | zero =>
    intro g l i h1 h2
    cases g with
    | zero => rfl
    | succ g => rw [wayF, wayF, if_pos (by omega)]
  | succ f ih =>
    intro g l i h1 h2
    cases g with
    | zero => rw [wayF, wayF, if_pos (by omega)]
    | succ g =>
      rw [wayF, wayF]
      by_cases h : l.length ≤ 1
      · rw [if_pos h, if_pos h]
      · rw [if_neg h, if_neg h]
        have p1 := hf_pos l.length
        have p2 := hf_lt (n := l.length) (by omega)
        rw [ih g _ _ (by rw [List.length_take]; omega) (by rw [List.length_take]; omega), ih g _ _ (by rw [List.length_drop]; omega) (by rw [List.length_drop]; omega)]
theorem way_one {l : List ByteArray} (h : l.length ≤ 1) (i : Nat) : way l i = [] := by
  unfold way
  cases hl : l.length with
  | zero => rfl
  | succ n => rw [wayF, if_pos h]
theorem way_two {l : List ByteArray} (h : 2 ≤ l.length) (i : Nat) : way l i = if i < hf l.length then way (l.take (hf l.length)) i ++ [root (l.drop (hf l.length))] else way (l.drop (hf l.length)) (i - hf l.length) ++ [root (l.take (hf l.length))] := by
  have p1 := hf_pos l.length
  have p2 := hf_lt h
  unfold way
  rw [show wayF l.length l i = wayF (l.length - 1 + 1) l i by congr 1; omega, wayF, if_neg (by omega)]
  rw [wayF_any (l.length - 1) (l.take (hf l.length)).length _ _ (by rw [List.length_take]; omega) (Nat.le_refl _), wayF_any (l.length - 1) (l.drop (hf l.length)).length _ _ (by rw [List.length_drop]; omega) (Nat.le_refl _)]
/-- What stands beside a place. -/
def sib (l : List ByteArray) (i : Nat) : List ByteArray := if i % 2 = 1 then (l.drop (i - 1)).take 1 else (l.drop (i + 1)).take 1
theorem sib_take {l : List ByteArray} {k i : Nat} (hk : k % 2 = 0) (h : i < k) : sib (l.take k) i = sib l i := by
  unfold sib
  have : ∀ j, j < k → ((l.take k).drop j).take 1 = (l.drop j).take 1 := fun j hj => by
    rw [List.drop_take, List.take_take, Nat.min_eq_left (by omega)]
  split
  · exact this _ (by omega)
  · exact this _ (by omega)
theorem sib_drop {l : List ByteArray} {k i : Nat} (hk : k % 2 = 0) (h : k ≤ i) : sib (l.drop k) (i - k) = sib l i := by
  unfold sib
  rw [show (i - k) % 2 = i % 2 by omega, List.drop_drop, List.drop_drop]
  split
  · rw [show k + (i - k - 1) = i - 1 by omega]
  · rw [show k + (i - k + 1) = i + 1 by omega]
theorem way_next : ∀ (n : Nat) (l : List ByteArray) (i : Nat), l.length = n → i < n → way l i = sib l i ++ way (next l) (i / 2) := by
  intro n
  induction n using Nat.strongRecOn with
  | ind n ih =>
    intro l i hn hi
    rcases len_cases l with rfl | ⟨a, rfl⟩ | h
    · simp at hn; omega
    · simp at hn
      obtain rfl : i = 0 := by omega
      rfl
    · by_cases h3 : 3 ≤ l.length
      · obtain ⟨m, m1, m2, m3⟩ := hf_even h3
        have p2 := hf_lt h
        have hl := next_length l
        rw [way_two h, way_two (l := next l) (by omega), hl, m3, m2]
        by_cases hc : i < 2 * m
        · rw [if_pos hc, if_pos (by omega), ih (2 * m) (by omega) (l.take (2 * m)) i (by rw [List.length_take]; omega) hc, sib_take (by omega) hc, next_take (by omega) (by omega), show 2 * m / 2 = m by omega, List.append_assoc]
          rw [← root_next' (l.drop (2 * m)), next_drop (by omega) (by omega), show 2 * m / 2 = m by omega]
        · rw [if_neg hc, if_neg (by omega), ih (l.length - 2 * m) (by omega) (l.drop (2 * m)) (i - 2 * m) (by rw [List.length_drop]) (by omega), sib_drop (by omega) (by omega), next_drop (by omega) (by omega), show 2 * m / 2 = m by omega, show (i - 2 * m) / 2 = i / 2 - m by omega, List.append_assoc]
          rw [← root_next' (l.take (2 * m)), next_take (by omega) (by omega), show 2 * m / 2 = m by omega]
      · match l, h, h3, hn with
        | [a, b], _, _, hn =>
          have : i = 0 ∨ i = 1 := by simp at hn; omega
          rcases this with rfl | rfl <;> rfl
        | a :: b :: c :: r, _, h3, _ => simp at h3
/-- The bridge. -/
def bridgeF : Nat → List ByteArray → Nat → Bool → List ByteArray
  | 0, _, _, _ => []
  | f + 1, l, m, known => if m = l.length then (if known = true then [] else [root l]) else
      if m ≤ hf l.length then bridgeF f (l.take (hf l.length)) m known ++ [root (l.drop (hf l.length))]
      else bridgeF f (l.drop (hf l.length)) (m - hf l.length) false ++ [root (l.take (hf l.length))]
def bridge (l : List ByteArray) (m : Nat) (known : Bool) : List ByteArray := bridgeF l.length l m known
/-- Where a bridge may begin: ahead of the end, or at the end of a whole tree. -/
def Fit (n m : Nat) : Prop := 1 ≤ m ∧ (m < n ∨ (m = n ∧ ∃ j, n = 2 ^ j))
theorem Fit.left {n m : Nat} (h : Fit n m) (hk : m ≤ hf n) : Fit (hf n) m := by
  refine ⟨h.1, ?_⟩
  by_cases e : m = hf n
  · exact Or.inr ⟨e, _, rfl⟩
  · exact Or.inl (by omega)
/-- The level so many further up. -/
def up : Nat → List ByteArray → List ByteArray
  | 0, l => l
  | j + 1, l => up j (next l)
end Tr
end Go.Proofs.YtdfkpjmljaanpaaGreatDoor
namespace Go.Proofs.YtdfkpjmljaanpaaGreatDoor
open Go.RowKit
namespace Tr
/-- Where a way leads: the root, the texts, what stood to the left; none, if it is too short or too long. -/
def climbF : Nat → Nat → Nat → ByteArray → List ByteArray → Option (ByteArray × List ByteArray × List ByteArray)
  | f, at', last, d, way =>
    if last = 0 then (if way = [] then some (d, [], []) else none) else
    match f with
    | 0 => none
    | f + 1 =>
      if at' = last ∧ at' % 2 = 0 then climbF f (at' / 2) (last / 2) d way else
      match way with
      | [] => none
      | w :: r =>
        if at' % 2 = 0 then (climbF f (at' / 2) (last / 2) (node d w) r).map fun x => (x.1, nodeT d w :: x.2.1, x.2.2)
        else (climbF f (at' / 2) (last / 2) (node w d) r).map fun x => (x.1, nodeT w d :: x.2.1, w :: x.2.2)
theorem climbF_zero (f at' : Nat) (d : ByteArray) (way : List ByteArray) : climbF f at' 0 d way = if way = [] then some (d, [], []) else none := by
  unfold climbF; rw [if_pos rfl]
theorem climbF_succ (f : Nat) {at' last : Nat} (d : ByteArray) (way : List ByteArray) (h : last ≠ 0) : climbF (f + 1) at' last d way =
    if at' = last ∧ at' % 2 = 0 then climbF f (at' / 2) (last / 2) d way else
      match way with
      | [] => none
      | w :: r =>
        if at' % 2 = 0 then (climbF f (at' / 2) (last / 2) (node d w) r).map fun x => (x.1, nodeT d w :: x.2.1, x.2.2)
        else (climbF f (at' / 2) (last / 2) (node w d) r).map fun x => (x.1, nodeT w d :: x.2.1, w :: x.2.2) := by
  rw [climbF.eq_def]
  exact if_neg h
theorem climbF_any : ∀ (f g at' last : Nat) (d : ByteArray) (way : List ByteArray), last ≤ f → last ≤ g → climbF f at' last d way = climbF g at' last d way := by
  intro f
  induction f with
  | zero => intro g at' last d way h1 h2; obtain rfl : last = 0 := by omega
            rw [climbF_zero, climbF_zero]
  | succ f ih =>
    intro g at' last d way h1 h2
    by_cases hl : last = 0
    · subst hl; rw [climbF_zero, climbF_zero]
    · cases g with
      | zero => omega
      | succ g =>
        rw [climbF_succ f d way hl, climbF_succ g d way hl]
        have e := fun d w => ih g (at' / 2) (last / 2) d w (by omega) (by omega)
        rw [e]
        cases way with
        | nil => rfl
        | cons w r => simp only [e]
def climb (at' last : Nat) (d : ByteArray) (way : List ByteArray) := climbF last at' last d way
theorem climb_zero (at' : Nat) (d : ByteArray) (way : List ByteArray) : climb at' 0 d way = if way = [] then some (d, [], []) else none := climbF_zero _ _ _ _
theorem climb_step {at' last : Nat} (d : ByteArray) (way : List ByteArray) (h : last ≠ 0) : climb at' last d way =
    if at' = last ∧ at' % 2 = 0 then climb (at' / 2) (last / 2) d way else
      match way with
      | [] => none
      | w :: r =>
        if at' % 2 = 0 then (climb (at' / 2) (last / 2) (node d w) r).map fun x => (x.1, nodeT d w :: x.2.1, x.2.2)
        else (climb (at' / 2) (last / 2) (node w d) r).map fun x => (x.1, nodeT w d :: x.2.1, w :: x.2.2) := by
  unfold climb
  rw [show climbF last at' last d way = climbF (last - 1 + 1) at' last d way by congr 1; omega, climbF_succ _ d way h]
  have e := fun d w => climbF_any (last - 1) (last / 2) (at' / 2) (last / 2) d w (by omega) (by omega)
  rw [e]
  cases way with
  | nil => rfl
  | cons w r => simp only [e]
theorem drop_cons {l : List ByteArray} {i : Nat} (h : i < l.length) : (l.drop i).take 1 = [l.getD i ByteArray.empty] := by
  rw [List.drop_eq_getElem_cons h, List.getD_eq_getElem?_getD, List.getElem?_eq_getElem h]
  rfl
theorem next_getD : ∀ (l : List ByteArray) (j : Nat), 2 * j + 1 < l.length → (next l).getD j ByteArray.empty = node (l.getD (2 * j) ByteArray.empty) (l.getD (2 * j + 1) ByteArray.empty)
  | [], j, h => by simp at h
  | [a], j, h => by simp at h
  | a :: b :: r, 0, _ => rfl
  | a :: b :: r, j + 1, h => by
    have := next_getD r j (by simp at h; omega)
    rw [next, List.getD_cons_succ, this, show 2 * (j + 1) = 2 * j + 1 + 1 by omega, List.getD_cons_succ, List.getD_cons_succ, show 2 * j + 1 + 1 + 1 = 2 * j + 1 + 1 + 1 from rfl, List.getD_cons_succ, List.getD_cons_succ]
theorem next_last : ∀ (l : List ByteArray) (j : Nat), 2 * j + 1 = l.length → (next l).getD j ByteArray.empty = l.getD (2 * j) ByteArray.empty
  | [], j, h => by simp at h
  | [a], j, h => by
    obtain rfl : j = 0 := by simp at h; omega
    rfl
  | a :: b :: r, 0, h => by simp at h
  | a :: b :: r, j + 1, h => by
    have := next_last r j (by simp at h; omega)
    rw [next, List.getD_cons_succ, this, show 2 * (j + 1) = 2 * j + 1 + 1 by omega, List.getD_cons_succ, List.getD_cons_succ]
theorem take_succ_getD {l : List ByteArray} {i : Nat} (h : i < l.length) : l.take (i + 1) = l.take i ++ [l.getD i ByteArray.empty] := by
  rw [List.take_add_one, List.getD_eq_getElem?_getD, List.getElem?_eq_getElem h]; rfl
theorem next_snoc {l : List ByteArray} (y : ByteArray) (h : l.length % 2 = 0) : next (l ++ [y]) = next l ++ [y] := by rw [next_append _ _ h, next_one]
theorem next_snoc2 {l : List ByteArray} (x y : ByteArray) (h : l.length % 2 = 0) : next (l ++ [x, y]) = next l ++ [node x y] := by rw [next_append _ _ h, next_pair]
/-- THE WAY OF A PLACE LEADS TO THE ROOT; what stood to its left leads, from any digest at that place, to the root of those ahead of it and it. -/
theorem climb_way : ∀ (last : Nat) (L : List ByteArray) (at' : Nat), L.length = last + 1 → at' ≤ last →
    ∃ T lf, climb at' last (L.getD at' ByteArray.empty) (way L at') = some (root L, T, lf) ∧ ∀ y, ∃ T2 l2, climb at' at' y lf = some (root (L.take at' ++ [y]), T2, l2) := by
  intro last
  induction last using Nat.strongRecOn with
  | ind last ih =>
    intro L a hL ha
    by_cases h0 : last = 0
    · subst h0
      obtain rfl : a = 0 := by omega
      match L, hL with
      | [x], _ => exact ⟨[], [], by rw [climb_zero, way_one (by simp), if_pos rfl]; rfl, fun y => ⟨[], [], by rw [climb_zero, if_pos rfl]; rfl⟩⟩
    · have hl := next_length L
      obtain ⟨T, lf, i1, i2⟩ := ih (last / 2) (by omega) (next L) (a / 2) (by rw [hl]; omega) (by omega)
      have hw := way_next _ L a rfl (by omega)
      rw [hw, climb_step _ _ h0]
      by_cases hodd : a % 2 = 1
      · -- a to the left
        rw [if_neg (fun e => by omega)]
        have hs : sib L a = [L.getD (a - 1) ByteArray.empty] := by unfold sib; rw [if_pos hodd, drop_cons (by omega)]
        have hg : (next L).getD (a / 2) ByteArray.empty = node (L.getD (a - 1) ByteArray.empty) (L.getD a ByteArray.empty) := by
          rw [next_getD L (a / 2) (by omega), show 2 * (a / 2) = a - 1 by omega, show a - 1 + 1 = a by omega]
        rw [hs, List.singleton_append]
        simp only
        rw [if_neg (by omega), ← hg, i1]
        refine ⟨_, _, by rw [root_next']; rfl, fun y => ?_⟩
        obtain ⟨T2, l2, j1⟩ := i2 (node (L.getD (a - 1) ByteArray.empty) y)
        rw [climb_step _ _ (by omega), if_neg (fun e => by omega)]
        simp only
        rw [if_neg (by omega), j1]
        refine ⟨nodeT (L.getD (a - 1) ByteArray.empty) y :: T2, L.getD (a - 1) ByteArray.empty :: l2, ?_⟩
        have e : root (L.take a ++ [y]) = root ((next L).take (a / 2) ++ [node (L.getD (a - 1) ByteArray.empty) y]) := by
          have ht : L.take a = L.take (a - 1) ++ [L.getD (a - 1) ByteArray.empty] := by
            rw [← take_succ_getD (by omega), show a - 1 + 1 = a by omega]
          rw [← root_next' (L.take a ++ [y]), ht, List.append_assoc, List.singleton_append, next_snoc2 _ _ (by rw [List.length_take]; omega), next_take (by omega) (by omega), show (a - 1) / 2 = a / 2 by omega]
        rw [e]; rfl
      · -- a to the right, or alone
        have hfirst : ∀ y, ∃ T2 l2, climb a a y lf = some (root (L.take a ++ [y]), T2, l2) := fun y => by
          obtain ⟨T2, l2, j1⟩ := i2 y
          by_cases hz : a = 0
          · subst hz
            rw [Nat.zero_div, List.take_zero] at j1
            exact ⟨_, _, by rw [List.take_zero]; exact j1⟩
          · refine ⟨T2, l2, ?_⟩
            rw [climb_step _ _ hz, if_pos ⟨rfl, by omega⟩, j1]
            rw [← root_next' (L.take a ++ [y]), next_snoc _ (by rw [List.length_take]; omega), next_take (by omega) (by omega)]
        by_cases hal : a = last
        · rw [if_pos ⟨hal, by omega⟩]
          have hs : sib L a = [] := by unfold sib; rw [if_neg hodd, List.drop_of_length_le (by omega)]; rfl
          have hg : (next L).getD (a / 2) ByteArray.empty = L.getD a ByteArray.empty := by
            rw [next_last L (a / 2) (by omega), show 2 * (a / 2) = a by omega]
          rw [hs, List.nil_append, ← hg, i1]
          exact ⟨_, _, by rw [root_next'], hfirst⟩
        · rw [if_neg (fun e => hal e.1)]
          have hs : sib L a = [L.getD (a + 1) ByteArray.empty] := by unfold sib; rw [if_neg hodd, drop_cons (by omega)]
          have hg : (next L).getD (a / 2) ByteArray.empty = node (L.getD a ByteArray.empty) (L.getD (a + 1) ByteArray.empty) := by
            rw [next_getD L (a / 2) (by omega), show 2 * (a / 2) = a by omega]
          rw [hs, List.singleton_append]
          simp only
          rw [if_pos (by omega), ← hg, i1]
          exact ⟨_, _, by rw [root_next']; rfl, hfirst⟩
/-- The texts of the nodes that are summed for a root. -/
def sumF : Nat → List ByteArray → List ByteArray
  | 0, _ => []
  | f + 1, l => if l.length < 2 then [] else sumF f (l.take (hf l.length)) ++ sumF f (l.drop (hf l.length)) ++ [nodeT (root (l.take (hf l.length))) (root (l.drop (hf l.length)))]
def sumT (l : List ByteArray) : List ByteArray := sumF l.length l
theorem sumF_any : ∀ (f g : Nat) (l : List ByteArray), l.length ≤ f → l.length ≤ g → sumF f l = sumF g l := by
  intro f
  induction f with
  | zero =>
    intro g l h1 h2
    cases g with
    | zero => rfl
    | succ g => rw [sumF, sumF, if_pos (by omega)]
  | succ f ih =>
    intro g l h1 h2
    cases g with
    | zero => rw [sumF, sumF, if_pos (by omega)]
    | succ g =>
      rw [sumF, sumF]
      by_cases h : l.length < 2
      · rw [if_pos h, if_pos h]
      · rw [if_neg h, if_neg h]
        have p1 := hf_pos l.length
        have p2 := hf_lt (n := l.length) (by omega)
        rw [ih g _ (by rw [List.length_take]; omega) (by rw [List.length_take]; omega), ih g _ (by rw [List.length_drop]; omega) (by rw [List.length_drop]; omega)]
theorem sumT_one {l : List ByteArray} (h : l.length < 2) : sumT l = [] := by
  unfold sumT
  cases hl : l.length with
  | zero => rfl
  | succ n => rw [sumF, if_pos h]
theorem sumT_two {l : List ByteArray} (h : 2 ≤ l.length) : sumT l = sumT (l.take (hf l.length)) ++ sumT (l.drop (hf l.length)) ++ [nodeT (root (l.take (hf l.length))) (root (l.drop (hf l.length)))] := by
  have p1 := hf_pos l.length
  have p2 := hf_lt h
  unfold sumT
  rw [show sumF l.length l = sumF (l.length - 1 + 1) l by congr 1; omega, sumF, if_neg (by omega)]
  rw [sumF_any (l.length - 1) (l.take (hf l.length)).length _ (by rw [List.length_take]; omega) (Nat.le_refl _), sumF_any (l.length - 1) (l.drop (hf l.length)).length _ (by rw [List.length_drop]; omega) (Nat.le_refl _)]
theorem sumT_length : ∀ (n : Nat) (l : List ByteArray), l.length = n → (sumT l).length = n - 1 := by
  intro n
  induction n using Nat.strongRecOn with
  | ind n ih =>
    intro l hn
    by_cases h : 2 ≤ l.length
    · have p1 := hf_pos l.length
      have p2 := hf_lt h
      rw [sumT_two h, List.length_append, List.length_append, ih (hf l.length) (by omega) _ (by rw [List.length_take]; omega), ih (l.length - hf l.length) (by omega) _ (by rw [List.length_drop])]
      simp; omega
    · rw [sumT_one (by omega)]; simp; omega
def Digs (l : List ByteArray) : Prop := ∀ x ∈ l, x.size = 32
theorem Digs.next : ∀ {l : List ByteArray}, Digs l → Digs (next l)
  | [], h => h
  | [a], h => h
  | a :: b :: r, h => fun x hx => by
    rw [Tr.next, List.mem_cons] at hx
    rcases hx with rfl | hx
    · exact sumE_size _
    · exact Digs.next (l := r) (fun y hy => h y (List.mem_cons_of_mem _ (List.mem_cons_of_mem _ hy))) x hx
theorem Digs.getD {l : List ByteArray} (h : Digs l) {i : Nat} (hi : i < l.length) : (l.getD i ByteArray.empty).size = 32 := by
  rw [List.getD_eq_getElem?_getD, List.getElem?_eq_getElem hi]
  exact h _ (List.getElem_mem hi)
theorem Digs.up : ∀ (j : Nat) {l : List ByteArray}, Digs l → Digs (up j l)
  | 0, _, h => h
  | j + 1, _, h => Digs.up j h.next
/-- How many texts a way has: as many as it. -/
theorem climb_len : ∀ (last at' : Nat) (d : ByteArray) (w : List ByteArray) (x : ByteArray × List ByteArray × List ByteArray), climb at' last d w = some x → x.2.1.length = w.length ∧ x.2.2.length ≤ w.length := by
  intro last
  induction last using Nat.strongRecOn with
  | ind last ih =>
    intro a d w x hc
    by_cases h0 : last = 0
    · subst h0
      rw [climb_zero] at hc
      by_cases hwn : w = []
      · rw [if_pos hwn] at hc
        injection hc with hc
        subst hc hwn
        exact ⟨rfl, Nat.le_refl _⟩
      · rw [if_neg hwn] at hc; cases hc
    · rw [climb_step _ _ h0] at hc
      by_cases hal : a = last ∧ a % 2 = 0
      · rw [if_pos hal] at hc; exact ih _ (by omega) _ _ _ _ hc
      · rw [if_neg hal] at hc
        cases w with
        | nil => cases hc
        | cons y r =>
          simp only at hc
          by_cases hev : a % 2 = 0
          · rw [if_pos hev] at hc
            cases hcc : climb (a / 2) (last / 2) (node d y) r with
            | none => rw [hcc] at hc; cases hc
            | some z =>
              rw [hcc] at hc
              simp only [Option.map_some, Option.some.injEq] at hc
              subst hc
              have := ih _ (by omega) _ _ _ _ hcc
              simp; omega
          · rw [if_neg hev] at hc
            cases hcc : climb (a / 2) (last / 2) (node y d) r with
            | none => rw [hcc] at hc; cases hc
            | some z =>
              rw [hcc] at hc
              simp only [Option.map_some, Option.some.injEq] at hc
              subst hc
              have := ih _ (by omega) _ _ _ _ hcc
              simp; omega
end Tr
end Go.Proofs.YtdfkpjmljaanpaaGreatDoor
namespace Go.Proofs.YtdfkpjmljaanpaaGreatDoor
open Go.RowKit
namespace Tr
theorem getD_take {l : List ByteArray} {q : Nat} (h : 1 ≤ q) (hq : q ≤ l.length) : l.take (q - 1) ++ [l.getD (q - 1) ByteArray.empty] = l.take q := by
  rw [← take_succ_getD (by omega), show q - 1 + 1 = q by omega]
/-- The peaks of digests: the roots of the whole trees, the greatest first. -/
def pkF : Nat → List ByteArray → List ByteArray
  | 0, _ => []
  | f + 1, l => if l = [] then [] else if l.length % 2 = 0 then pkF f (next l) else pkF f (next (l.take (l.length - 1))) ++ [l.getD (l.length - 1) ByteArray.empty]
def peaks (l : List ByteArray) : List ByteArray := pkF l.length l
/-- The root of peaks. -/
def rf : List ByteArray → ByteArray
  | [] => sumE ⟨#[]⟩
  | [x] => x
  | a :: b :: r => node a (rf (b :: r))
end Tr
end Go.Proofs.YtdfkpjmljaanpaaGreatDoor
