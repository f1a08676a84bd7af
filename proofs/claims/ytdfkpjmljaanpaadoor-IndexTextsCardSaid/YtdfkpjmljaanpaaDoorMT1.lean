/- Merged by program: The tree of digests, without a program: the root, the way, the bridge, the texts, level by level; where a way leads; what leads to the root is what stands there, or there is a twin. | Where a way leads, without a program: the way of a place leads to the root; what leads to the root is what stands there, by the way of that place, or two unlike texts have one digest. Texts of a root; peaks. | Bridges and peaks, without a program: where a bridge leads; what begins a log is the root of its first leaves, or there is a twin; leaf by leaf. -/
import Derived.Test.YtdfkpjmljaanpaaDoorMH2
namespace Go.Proofs.YtdfkpjmljaanpaaDoor
open Go.RowKit

namespace Tr
def leafT (s : ByteArray) : ByteArray := ⟨#[0]⟩ ++ s
def nodeT (a b : ByteArray) : ByteArray := ⟨#[1]⟩ ++ a ++ b
def sumE (s : ByteArray) : ByteArray := str (sha s.data.toList)
def leaf (s : ByteArray) : ByteArray := sumE (leafT s)
def node (a b : ByteArray) : ByteArray := sumE (nodeT a b)
theorem sumE_size (s : ByteArray) : (sumE s).size = 32 := by rw [sumE, str_size, sha_length]
/-- The greatest power of 2 below n. -/
def hf (n : Nat) : Nat := 2 ^ Nat.log2 (n - 1)
theorem hf_pos (n : Nat) : 0 < hf n := Nat.two_pow_pos _
theorem hf_lt {n : Nat} (h : 2 ≤ n) : hf n < n := by
  have : 2 ^ Nat.log2 (n - 1) ≤ n - 1 := Nat.log2_self_le (by omega)
  unfold hf; omega
theorem hf_ge {n : Nat} (h : 2 ≤ n) : n ≤ 2 * hf n := by
  have : n - 1 < 2 ^ (Nat.log2 (n - 1) + 1) := Nat.lt_log2_self
  rw [Nat.pow_succ] at this
  unfold hf; omega
theorem hf_unique {n k j : Nat} (hk : k = 2 ^ j) (h1 : k < n) (h2 : n ≤ 2 * k) : k = hf n := by
  have e : Nat.log2 (n - 1) = j := by
    have h0 : n - 1 ≠ 0 := by have := Nat.two_pow_pos j; omega
    have a : j ≤ Nat.log2 (n - 1) := (Nat.le_log2 h0).2 (by omega)
    have b : Nat.log2 (n - 1) < j + 1 := (Nat.log2_lt h0).2 (by rw [Nat.pow_succ]; omega)
    omega
  unfold hf
  rw [e, hk]
theorem hf_two : hf 2 = 1 := by decide
theorem hf_even {n : Nat} (h : 3 ≤ n) : ∃ m, 1 ≤ m ∧ hf n = 2 * m ∧ hf ((n + 1) / 2) = m := by
  have h1 := hf_lt (n := n) (by omega)
  have h2 := hf_ge (n := n) (by omega)
  have h3 : hf n = 2 ^ Nat.log2 (n - 1) := rfl
  cases hj : Nat.log2 (n - 1) with
  | zero => rw [hj] at h3; omega
  | succ j =>
    rw [hj, Nat.pow_succ] at h3
    have hp := Nat.two_pow_pos j
    exact ⟨2 ^ j, by omega, by omega, (hf_unique rfl (by omega) (by omega)).symm⟩

/-- The root. -/
def rootF : Nat → List ByteArray → ByteArray
  | 0, _ => sumE ⟨#[]⟩
  | f + 1, l => match l with
    | [] => sumE ⟨#[]⟩
    | [d] => d
    | l => node (rootF f (l.take (hf l.length))) (rootF f (l.drop (hf l.length)))
def root (l : List ByteArray) : ByteArray := rootF l.length l
theorem len_cases {α : Type} (l : List α) : l = [] ∨ (∃ a, l = [a]) ∨ 2 ≤ l.length := by
  match l with
  | [] => exact .inl rfl
  | [a] => exact .inr (.inl ⟨a, rfl⟩)
  | a :: b :: r => exact .inr (.inr (by simp))
theorem rootF_succ {f : Nat} {l : List ByteArray} (h : 2 ≤ l.length) : rootF (f + 1) l = node (rootF f (l.take (hf l.length))) (rootF f (l.drop (hf l.length))) := by
  match l, h with
  | a :: b :: r, _ => rfl
theorem rootF_any : ∀ (f g : Nat) (l : List ByteArray), l.length ≤ f → l.length ≤ g → rootF f l = rootF g l := by
  intro f
  induction f with
  | zero =>
    intro g l h1 h2
    have : l = [] := List.length_eq_zero_iff.1 (by omega)
    subst this
    cases g <;> rfl
  | succ f ih =>
    intro g l h1 h2
    cases g with
    | zero =>
      have : l = [] := List.length_eq_zero_iff.1 (by omega)
      subst this; rfl
    | succ g =>
      rcases len_cases l with rfl | ⟨a, rfl⟩ | h
      · rfl
      · rfl
      · rw [rootF_succ h, rootF_succ h]
        have p1 := hf_pos l.length
        have p2 := hf_lt h
        rw [ih g _ (by rw [List.length_take]; omega) (by rw [List.length_take]; omega), ih g _ (by rw [List.length_drop]; omega) (by rw [List.length_drop]; omega)]
theorem root_nil : root [] = sumE ⟨#[]⟩ := rfl
theorem root_one (a : ByteArray) : root [a] = a := rfl
theorem root_two {l : List ByteArray} (h : 2 ≤ l.length) : root l = node (root (l.take (hf l.length))) (root (l.drop (hf l.length))) := by
  have p1 := hf_pos l.length
  have p2 := hf_lt h
  unfold root
  rw [show rootF l.length l = rootF (l.length - 1 + 1) l by congr 1; omega, rootF_succ h]
  congr 1
  · exact rootF_any _ _ _ (by rw [List.length_take]; omega) (Nat.le_refl _)
  · exact rootF_any _ _ _ (by rw [List.length_drop]; omega) (Nat.le_refl _)

/-- The next level. -/
def next : List ByteArray → List ByteArray
  | a :: b :: r => node a b :: next r
  | l => l
theorem next_length : ∀ l : List ByteArray, (next l).length = (l.length + 1) / 2
  | [] => rfl
  | [a] => by simp [next]
  | a :: b :: r => by rw [next, List.length_cons, next_length r]; simp; omega
theorem next_append : ∀ (p q : List ByteArray), p.length % 2 = 0 → next (p ++ q) = next p ++ next q
  | [], q, _ => rfl
  | [a], q, h => by simp at h
  | a :: b :: r, q, h => by
    rw [List.cons_append, List.cons_append, next, next, List.cons_append, next_append r q (by simp at h; omega)]
theorem next_one (a : ByteArray) : next [a] = [a] := rfl
theorem next_pair (a b : ByteArray) : next [a, b] = [node a b] := rfl
theorem split_at (l : List ByteArray) (k : Nat) : l = l.take k ++ l.drop k := (List.take_append_drop k l).symm
theorem next_halves {l : List ByteArray} {k : Nat} (h : k % 2 = 0) (hk : k ≤ l.length) : next l = next (l.take k) ++ next (l.drop k) ∧ (next (l.take k)).length = k / 2 := by
  constructor
  · rw [← next_append _ _ (by rw [List.length_take]; omega), List.take_append_drop]
  · rw [next_length, List.length_take]; omega
theorem next_take {l : List ByteArray} {k : Nat} (h : k % 2 = 0) (hk : k ≤ l.length) : next (l.take k) = (next l).take (k / 2) := by
  obtain ⟨e, e2⟩ := next_halves h hk
  rw [e, List.take_append_of_le_length (Nat.le_of_eq e2.symm)]
  exact (List.take_of_length_le (Nat.le_of_eq e2)).symm
theorem next_drop {l : List ByteArray} {k : Nat} (h : k % 2 = 0) (hk : k ≤ l.length) : next (l.drop k) = (next l).drop (k / 2) := by
  obtain ⟨e, e2⟩ := next_halves h hk
  rw [e, ← e2, List.drop_left]
/-- A root is that of the next level. -/
theorem root_next : ∀ (n : Nat) (l : List ByteArray), l.length = n → root (next l) = root l := by
  intro n
  induction n using Nat.strongRecOn with
  | ind n ih =>
    intro l hn
    rcases len_cases l with rfl | ⟨a, rfl⟩ | h
    · rfl
    · rfl
    · by_cases h3 : 3 ≤ l.length
      · obtain ⟨m, m1, m2, m3⟩ := hf_even h3
        have p2 := hf_lt h
        have hl := next_length l
        rw [root_two h, root_two (l := next l) (by omega), hl, m3, m2, ← ih (2 * m) (by omega) (l.take (2 * m)) (by rw [List.length_take]; omega), ← ih (l.length - 2 * m) (by omega) (l.drop (2 * m)) (by rw [List.length_drop])]
        rw [next_take (by omega) (by omega), next_drop (by omega) (by omega), show 2 * m / 2 = m by omega]
      · match l, h, h3 with
        | [a, b], _, _ => rfl
        | a :: b :: c :: r, _, h3 => simp at h3
theorem root_next' (l : List ByteArray) : root (next l) = root l := root_next _ l rfl

/-- The way of a place. -/
def wayF : Nat → List ByteArray → Nat → List ByteArray
  | 0, _, _ => []
  | f + 1, l, i => if l.length ≤ 1 then [] else
      if i < hf l.length then wayF f (l.take (hf l.length)) i ++ [root (l.drop (hf l.length))]
      else wayF f (l.drop (hf l.length)) (i - hf l.length) ++ [root (l.take (hf l.length))]
def way (l : List ByteArray) (i : Nat) : List ByteArray := wayF l.length l i
theorem wayF_any : ∀ (f g : Nat) (l : List ByteArray) (i : Nat), l.length ≤ f → l.length ≤ g → wayF f l i = wayF g l i := by
  intro f
  induction f with
  | zero =>
    intro g l i h1 h2
    cases g with
    | zero => rfl
    | succ g => rw [wayF, wayF, if_pos (by omega)]
  | succ f ih =>
    intro g l i h1 h2
    cases g with
    | zero => rw [wayF, wayF, if_pos (by omega)]
    | succ g =>
      rw [wayF, wayF]
      by_cases h : l.length ≤ 1
      · rw [if_pos h, if_pos h]
      · rw [if_neg h, if_neg h]
        have p1 := hf_pos l.length
        have p2 := hf_lt (n := l.length) (by omega)
        rw [ih g _ _ (by rw [List.length_take]; omega) (by rw [List.length_take]; omega), ih g _ _ (by rw [List.length_drop]; omega) (by rw [List.length_drop]; omega)]
theorem way_one {l : List ByteArray} (h : l.length ≤ 1) (i : Nat) : way l i = [] := by
  unfold way
  cases hl : l.length with
  | zero => rfl
  | succ n => rw [wayF, if_pos h]
theorem way_two {l : List ByteArray} (h : 2 ≤ l.length) (i : Nat) : way l i = if i < hf l.length then way (l.take (hf l.length)) i ++ [root (l.drop (hf l.length))] else way (l.drop (hf l.length)) (i - hf l.length) ++ [root (l.take (hf l.length))] := by
  have p1 := hf_pos l.length
  have p2 := hf_lt h
  unfold way
  rw [show wayF l.length l i = wayF (l.length - 1 + 1) l i by congr 1; omega, wayF, if_neg (by omega)]
  rw [wayF_any (l.length - 1) (l.take (hf l.length)).length _ _ (by rw [List.length_take]; omega) (Nat.le_refl _), wayF_any (l.length - 1) (l.drop (hf l.length)).length _ _ (by rw [List.length_drop]; omega) (Nat.le_refl _)]
/-- What stands beside a place. -/
def sib (l : List ByteArray) (i : Nat) : List ByteArray := if i % 2 = 1 then (l.drop (i - 1)).take 1 else (l.drop (i + 1)).take 1
theorem sib_take {l : List ByteArray} {k i : Nat} (hk : k % 2 = 0) (h : i < k) : sib (l.take k) i = sib l i := by
  unfold sib
  have : ∀ j, j < k → ((l.take k).drop j).take 1 = (l.drop j).take 1 := fun j hj => by
    rw [List.drop_take, List.take_take, Nat.min_eq_left (by omega)]
  split
  · exact this _ (by omega)
  · exact this _ (by omega)
theorem sib_drop {l : List ByteArray} {k i : Nat} (hk : k % 2 = 0) (h : k ≤ i) : sib (l.drop k) (i - k) = sib l i := by
  unfold sib
  rw [show (i - k) % 2 = i % 2 by omega, List.drop_drop, List.drop_drop]
  split
  · rw [show k + (i - k - 1) = i - 1 by omega]
  · rw [show k + (i - k + 1) = i + 1 by omega]
theorem way_next : ∀ (n : Nat) (l : List ByteArray) (i : Nat), l.length = n → i < n → way l i = sib l i ++ way (next l) (i / 2) := by
  intro n
  induction n using Nat.strongRecOn with
  | ind n ih =>
    intro l i hn hi
    rcases len_cases l with rfl | ⟨a, rfl⟩ | h
    · simp at hn; omega
    · simp at hn
      obtain rfl : i = 0 := by omega
      rfl
    · by_cases h3 : 3 ≤ l.length
      · obtain ⟨m, m1, m2, m3⟩ := hf_even h3
        have p2 := hf_lt h
        have hl := next_length l
        rw [way_two h, way_two (l := next l) (by omega), hl, m3, m2]
        by_cases hc : i < 2 * m
        · rw [if_pos hc, if_pos (by omega), ih (2 * m) (by omega) (l.take (2 * m)) i (by rw [List.length_take]; omega) hc, sib_take (by omega) hc, next_take (by omega) (by omega), show 2 * m / 2 = m by omega, List.append_assoc]
          rw [← root_next' (l.drop (2 * m)), next_drop (by omega) (by omega), show 2 * m / 2 = m by omega]
        · rw [if_neg hc, if_neg (by omega), ih (l.length - 2 * m) (by omega) (l.drop (2 * m)) (i - 2 * m) (by rw [List.length_drop]) (by omega), sib_drop (by omega) (by omega), next_drop (by omega) (by omega), show 2 * m / 2 = m by omega, show (i - 2 * m) / 2 = i / 2 - m by omega, List.append_assoc]
          rw [← root_next' (l.take (2 * m)), next_take (by omega) (by omega), show 2 * m / 2 = m by omega]
      · match l, h, h3, hn with
        | [a, b], _, _, hn =>
          have : i = 0 ∨ i = 1 := by simp at hn; omega
          rcases this with rfl | rfl <;> rfl
        | a :: b :: c :: r, _, h3, _ => simp at h3

/-- The bridge. -/
def bridgeF : Nat → List ByteArray → Nat → Bool → List ByteArray
  | 0, _, _, _ => []
  | f + 1, l, m, known => if m = l.length then (if known = true then [] else [root l]) else
      if m ≤ hf l.length then bridgeF f (l.take (hf l.length)) m known ++ [root (l.drop (hf l.length))]
      else bridgeF f (l.drop (hf l.length)) (m - hf l.length) false ++ [root (l.take (hf l.length))]
def bridge (l : List ByteArray) (m : Nat) (known : Bool) : List ByteArray := bridgeF l.length l m known
theorem bridgeF_any : ∀ (f g : Nat) (l : List ByteArray) (m : Nat) (known : Bool), 1 ≤ m → m ≤ l.length → l.length ≤ f → l.length ≤ g → bridgeF f l m known = bridgeF g l m known := by
  intro f
  induction f with
  | zero => intro g l m known h0 h1 h2 h3; omega
  | succ f ih =>
    intro g l m known h0 h1 h2 h3
    cases g with
    | zero => omega
    | succ g =>
      rw [bridgeF, bridgeF]
      by_cases h : m = l.length
      · rw [if_pos h, if_pos h]
      · rw [if_neg h, if_neg h]
        have p1 := hf_pos l.length
        have p2 := hf_lt (n := l.length) (by omega)
        by_cases hc : m ≤ hf l.length
        · rw [if_pos hc, if_pos hc, ih g _ _ _ h0 (by rw [List.length_take]; omega) (by rw [List.length_take]; omega) (by rw [List.length_take]; omega)]
        · rw [if_neg hc, if_neg hc, ih g _ _ _ (by omega) (by rw [List.length_drop]; omega) (by rw [List.length_drop]; omega) (by rw [List.length_drop]; omega)]
theorem bridge_all {l : List ByteArray} (h : 1 ≤ l.length) (known : Bool) : bridge l l.length known = if known = true then [] else [root l] := by
  unfold bridge
  rw [show bridgeF l.length l l.length known = bridgeF (l.length - 1 + 1) l l.length known by congr 1; omega, bridgeF, if_pos rfl]
theorem bridge_two {l : List ByteArray} {m : Nat} (h0 : 1 ≤ m) (h : m < l.length) (known : Bool) : bridge l m known =
    if m ≤ hf l.length then bridge (l.take (hf l.length)) m known ++ [root (l.drop (hf l.length))] else bridge (l.drop (hf l.length)) (m - hf l.length) false ++ [root (l.take (hf l.length))] := by
  have p1 := hf_pos l.length
  have p2 := hf_lt (n := l.length) (by omega)
  unfold bridge
  rw [show bridgeF l.length l m known = bridgeF (l.length - 1 + 1) l m known by congr 1; omega, bridgeF, if_neg (by omega)]
  by_cases hc : m ≤ hf l.length
  · rw [if_pos hc, if_pos hc, bridgeF_any (l.length - 1) (l.take (hf l.length)).length _ _ _ h0 (by rw [List.length_take]; omega) (by rw [List.length_take]; omega) (Nat.le_refl _)]
  · rw [if_neg hc, if_neg hc, bridgeF_any (l.length - 1) (l.drop (hf l.length)).length _ _ _ (by omega) (by rw [List.length_drop]; omega) (by rw [List.length_drop]; omega) (Nat.le_refl _)]
/-- Where a bridge may begin: ahead of the end, or at the end of a whole tree. -/
def Fit (n m : Nat) : Prop := 1 ≤ m ∧ (m < n ∨ (m = n ∧ ∃ j, n = 2 ^ j))
theorem Fit.left {n m : Nat} (h : Fit n m) (hk : m ≤ hf n) : Fit (hf n) m := by
  refine ⟨h.1, ?_⟩
  by_cases e : m = hf n
  · exact Or.inr ⟨e, _, rfl⟩
  · exact Or.inl (by omega)
theorem bridge_odd : ∀ (n : Nat) (l : List ByteArray) (m : Nat) (known : Bool), l.length = n → Fit n m → m % 2 = 1 →
    bridge l m known = (if known = true ∧ m = 1 then [] else (l.drop (m - 1)).take 1) ++ way l (m - 1) := by
  intro n
  induction n using Nat.strongRecOn with
  | ind n ih =>
    intro l m known hn hf1 ho
    by_cases hm : m = n
    · have h1 : n = 1 := by
        rcases hf1.2 with h | ⟨-, j, h⟩
        · omega
        · cases j with
          | zero => simpa using h
          | succ j => rw [Nat.pow_succ] at h; omega
      subst h1 hm
      rcases len_cases l with rfl | ⟨a, rfl⟩ | h
      · simp at hn
      · rw [show (1 : Nat) = [a].length from rfl, bridge_all (by simp), way_one (by simp)]
        cases known <;> rfl
      · omega
    · have hlt : m < l.length := by rcases hf1.2 with h | h <;> omega
      have p2 := hf_lt (n := l.length) (by have := hf1.1; omega)
      have h2 : 2 ≤ l.length := by have := hf1.1; omega
      rw [bridge_two hf1.1 hlt, way_two h2]
      by_cases hc : m ≤ hf l.length
      · have q1 : m - 1 < hf l.length := by have := hf1.1; omega
        rw [if_pos hc, if_pos q1, ih (hf l.length) (by omega) (l.take (hf l.length)) m known (by rw [List.length_take]; omega) (Fit.left (hn ▸ hf1) hc) ho, List.append_assoc]
        rw [List.drop_take, List.take_take, Nat.min_eq_left (by have := hf1.1; omega)]
      · have q1 : ¬ (m - 1 < hf l.length) := by omega
        rw [if_neg hc, if_neg q1]
        have he : hf l.length % 2 = 0 := by
          by_cases h3 : 3 ≤ l.length
          · obtain ⟨q, -, q2, -⟩ := hf_even h3; omega
          · have : l.length = 2 := by omega
            rw [this, hf_two] at hc; omega
        have p1 := hf_pos l.length
        rw [ih (l.length - hf l.length) (by omega) (l.drop (hf l.length)) (m - hf l.length) false (by rw [List.length_drop]) ⟨by omega, Or.inl (by omega)⟩ (by omega), if_neg (fun e => by cases e.1), if_neg (fun e => by omega), List.append_assoc, List.drop_drop]
        rw [show hf l.length + (m - hf l.length - 1) = m - 1 by omega, show m - hf l.length - 1 = m - 1 - hf l.length by omega]
theorem bridge_even : ∀ (n : Nat) (l : List ByteArray) (m : Nat) (known : Bool), l.length = n → Fit n m → m % 2 = 0 → bridge l m known = bridge (next l) (m / 2) known := by
  intro n
  induction n using Nat.strongRecOn with
  | ind n ih =>
    intro l m known hn hf1 ho
    have hl := next_length l
    by_cases hm : m = n
    · subst hn
      subst hm
      have h1 := hf1.1
      rw [bridge_all h1, show l.length / 2 = (next l).length by rw [hl]; omega, bridge_all (by rw [hl]; omega), root_next']
    · have hlt : m < l.length := by rcases hf1.2 with h | h <;> omega
      have h3 : 3 ≤ l.length := by have := hf1.1; omega
      obtain ⟨q, q1, q2, q3⟩ := hf_even h3
      have p2 := hf_lt (n := l.length) (by omega)
      have h1 := hf1.1
      rw [bridge_two h1 hlt, bridge_two (l := next l) (m := m / 2) (by omega) (by rw [hl]; omega), hl, q3, q2]
      by_cases hc : m ≤ 2 * q
      · rw [if_pos hc, if_pos (by omega), ih (2 * q) (by omega) (l.take (2 * q)) m known (by rw [List.length_take]; omega) (q2 ▸ Fit.left (hn ▸ hf1) (by omega)) ho, next_take (by omega) (by omega), show 2 * q / 2 = q by omega, ← root_next' (l.drop (2 * q)), next_drop (by omega) (by omega), show 2 * q / 2 = q by omega]
      · rw [if_neg hc, if_neg (by omega), ih (l.length - 2 * q) (by omega) (l.drop (2 * q)) (m - 2 * q) false (by rw [List.length_drop]) ⟨by omega, Or.inl (by omega)⟩ (by omega), next_drop (by omega) (by omega), show 2 * q / 2 = q by omega, show (m - 2 * q) / 2 = m / 2 - q by omega, ← root_next' (l.take (2 * q)), next_take (by omega) (by omega), show 2 * q / 2 = q by omega]
/-- The level so many further up. -/
def up : Nat → List ByteArray → List ByteArray
  | 0, l => l
  | j + 1, l => up j (next l)
theorem root_up : ∀ (j : Nat) (l : List ByteArray), root (up j l) = root l
  | 0, _ => rfl
  | j + 1, l => by rw [up, root_up j, root_next']
theorem up_length : ∀ (j : Nat) (l : List ByteArray), 1 ≤ l.length → (up j l).length = (l.length - 1) / 2 ^ j + 1
  | 0, l, h => by rw [up]; simp; omega
  | j + 1, l, h => by
    have hl := next_length l
    rw [up, up_length j (next l) (by omega), hl, show (l.length + 1) / 2 - 1 = (l.length - 1) / 2 by omega, Nat.div_div_eq_div_mul, Nat.pow_succ, Nat.mul_comm 2]
theorem fit_next {l : List ByteArray} {m : Nat} (h : Fit l.length m) (he : m % 2 = 0) : Fit (next l).length (m / 2) := by
  have hl := next_length l
  have h1 := h.1
  refine ⟨by omega, ?_⟩
  rcases h.2 with h2 | ⟨h2, j, h3⟩
  · exact Or.inl (by omega)
  · refine Or.inr ⟨by omega, ?_⟩
    cases j with
    | zero => simp at h3; omega
    | succ j => exact ⟨j, by rw [Nat.pow_succ] at h3; omega⟩
theorem bridge_up : ∀ (j : Nat) (l : List ByteArray) (q : Nat) (known : Bool), Fit l.length (q * 2 ^ j) → bridge l (q * 2 ^ j) known = bridge (up j l) q known ∧ Fit (up j l).length q
  | 0, l, q, known, h => by rw [Nat.pow_zero, Nat.mul_one] at h ⊢; exact ⟨rfl, h⟩
  | j + 1, l, q, known, h => by
    have e : q * 2 ^ (j + 1) = 2 * (q * 2 ^ j) := by rw [Nat.pow_succ, ← Nat.mul_assoc, Nat.mul_comm]
    rw [e] at h ⊢
    have h2 := fit_next h (by omega)
    rw [show 2 * (q * 2 ^ j) / 2 = q * 2 ^ j by omega] at h2
    obtain ⟨i1, i2⟩ := bridge_up j (next l) q known h2
    rw [bridge_even _ l _ known rfl h (by omega), show 2 * (q * 2 ^ j) / 2 = q * 2 ^ j by omega]
    exact ⟨i1, i2⟩
theorem up_take : ∀ (j : Nat) (l : List ByteArray) (q : Nat), q * 2 ^ j ≤ l.length → up j (l.take (q * 2 ^ j)) = (up j l).take q
  | 0, l, q, h => by rw [Nat.pow_zero, Nat.mul_one, up, up]
  | j + 1, l, q, h => by
    have e : q * 2 ^ (j + 1) = 2 * (q * 2 ^ j) := by rw [Nat.pow_succ, ← Nat.mul_assoc, Nat.mul_comm]
    rw [e] at h ⊢
    have hl := next_length l
    rw [up, up, next_take (by omega) h, show 2 * (q * 2 ^ j) / 2 = q * 2 ^ j by omega, up_take j (next l) q (by omega)]
end Tr
end Go.Proofs.YtdfkpjmljaanpaaDoor
namespace Go.Proofs.YtdfkpjmljaanpaaDoor
open Go.RowKit

namespace Tr
/-- Where a way leads: the root, the texts, what stood to the left; none, if it is too short or too long. -/
def climbF : Nat → Nat → Nat → ByteArray → List ByteArray → Option (ByteArray × List ByteArray × List ByteArray)
  | f, at', last, d, way =>
    if last = 0 then (if way = [] then some (d, [], []) else none) else
    match f with
    | 0 => none
    | f + 1 =>
      if at' = last ∧ at' % 2 = 0 then climbF f (at' / 2) (last / 2) d way else
      match way with
      | [] => none
      | w :: r =>
        if at' % 2 = 0 then (climbF f (at' / 2) (last / 2) (node d w) r).map fun x => (x.1, nodeT d w :: x.2.1, x.2.2)
        else (climbF f (at' / 2) (last / 2) (node w d) r).map fun x => (x.1, nodeT w d :: x.2.1, w :: x.2.2)
theorem climbF_zero (f at' : Nat) (d : ByteArray) (way : List ByteArray) : climbF f at' 0 d way = if way = [] then some (d, [], []) else none := by
  unfold climbF; rw [if_pos rfl]
theorem climbF_succ (f : Nat) {at' last : Nat} (d : ByteArray) (way : List ByteArray) (h : last ≠ 0) : climbF (f + 1) at' last d way =
    if at' = last ∧ at' % 2 = 0 then climbF f (at' / 2) (last / 2) d way else
      match way with
      | [] => none
      | w :: r =>
        if at' % 2 = 0 then (climbF f (at' / 2) (last / 2) (node d w) r).map fun x => (x.1, nodeT d w :: x.2.1, x.2.2)
        else (climbF f (at' / 2) (last / 2) (node w d) r).map fun x => (x.1, nodeT w d :: x.2.1, w :: x.2.2) := by
  rw [climbF.eq_def]
  exact if_neg h
theorem climbF_any : ∀ (f g at' last : Nat) (d : ByteArray) (way : List ByteArray), last ≤ f → last ≤ g → climbF f at' last d way = climbF g at' last d way := by
  intro f
  induction f with
  | zero => intro g at' last d way h1 h2; obtain rfl : last = 0 := by omega
            rw [climbF_zero, climbF_zero]
  | succ f ih =>
    intro g at' last d way h1 h2
    by_cases hl : last = 0
    · subst hl; rw [climbF_zero, climbF_zero]
    · cases g with
      | zero => omega
      | succ g =>
        rw [climbF_succ f d way hl, climbF_succ g d way hl]
        have e := fun d w => ih g (at' / 2) (last / 2) d w (by omega) (by omega)
        rw [e]
        cases way with
        | nil => rfl
        | cons w r => simp only [e]
def climb (at' last : Nat) (d : ByteArray) (way : List ByteArray) := climbF last at' last d way
theorem climb_zero (at' : Nat) (d : ByteArray) (way : List ByteArray) : climb at' 0 d way = if way = [] then some (d, [], []) else none := climbF_zero _ _ _ _
theorem climb_step {at' last : Nat} (d : ByteArray) (way : List ByteArray) (h : last ≠ 0) : climb at' last d way =
    if at' = last ∧ at' % 2 = 0 then climb (at' / 2) (last / 2) d way else
      match way with
      | [] => none
      | w :: r =>
        if at' % 2 = 0 then (climb (at' / 2) (last / 2) (node d w) r).map fun x => (x.1, nodeT d w :: x.2.1, x.2.2)
        else (climb (at' / 2) (last / 2) (node w d) r).map fun x => (x.1, nodeT w d :: x.2.1, w :: x.2.2) := by
  unfold climb
  rw [show climbF last at' last d way = climbF (last - 1 + 1) at' last d way by congr 1; omega, climbF_succ _ d way h]
  have e := fun d w => climbF_any (last - 1) (last / 2) (at' / 2) (last / 2) d w (by omega) (by omega)
  rw [e]
  cases way with
  | nil => rfl
  | cons w r => simp only [e]

theorem drop_cons {l : List ByteArray} {i : Nat} (h : i < l.length) : (l.drop i).take 1 = [l.getD i ByteArray.empty] := by
  rw [List.drop_eq_getElem_cons h, List.getD_eq_getElem?_getD, List.getElem?_eq_getElem h]
  rfl
theorem next_getD : ∀ (l : List ByteArray) (j : Nat), 2 * j + 1 < l.length → (next l).getD j ByteArray.empty = node (l.getD (2 * j) ByteArray.empty) (l.getD (2 * j + 1) ByteArray.empty)
  | [], j, h => by simp at h
  | [a], j, h => by simp at h
  | a :: b :: r, 0, _ => rfl
  | a :: b :: r, j + 1, h => by
    have := next_getD r j (by simp at h; omega)
    rw [next, List.getD_cons_succ, this, show 2 * (j + 1) = 2 * j + 1 + 1 by omega, List.getD_cons_succ, List.getD_cons_succ, show 2 * j + 1 + 1 + 1 = 2 * j + 1 + 1 + 1 from rfl, List.getD_cons_succ, List.getD_cons_succ]
theorem next_last : ∀ (l : List ByteArray) (j : Nat), 2 * j + 1 = l.length → (next l).getD j ByteArray.empty = l.getD (2 * j) ByteArray.empty
  | [], j, h => by simp at h
  | [a], j, h => by
    obtain rfl : j = 0 := by simp at h; omega
    rfl
  | a :: b :: r, 0, h => by simp at h
  | a :: b :: r, j + 1, h => by
    have := next_last r j (by simp at h; omega)
    rw [next, List.getD_cons_succ, this, show 2 * (j + 1) = 2 * j + 1 + 1 by omega, List.getD_cons_succ, List.getD_cons_succ]
theorem take_succ_getD {l : List ByteArray} {i : Nat} (h : i < l.length) : l.take (i + 1) = l.take i ++ [l.getD i ByteArray.empty] := by
  rw [List.take_add_one, List.getD_eq_getElem?_getD, List.getElem?_eq_getElem h]; rfl
theorem next_snoc {l : List ByteArray} (y : ByteArray) (h : l.length % 2 = 0) : next (l ++ [y]) = next l ++ [y] := by rw [next_append _ _ h, next_one]
theorem next_snoc2 {l : List ByteArray} (x y : ByteArray) (h : l.length % 2 = 0) : next (l ++ [x, y]) = next l ++ [node x y] := by rw [next_append _ _ h, next_pair]
/-- THE WAY OF A PLACE LEADS TO THE ROOT; what stood to its left leads, from any digest at that place, to the root of those ahead of it and it. -/
theorem climb_way : ∀ (last : Nat) (L : List ByteArray) (at' : Nat), L.length = last + 1 → at' ≤ last →
    ∃ T lf, climb at' last (L.getD at' ByteArray.empty) (way L at') = some (root L, T, lf) ∧ ∀ y, ∃ T2 l2, climb at' at' y lf = some (root (L.take at' ++ [y]), T2, l2) := by
  intro last
  induction last using Nat.strongRecOn with
  | ind last ih =>
    intro L a hL ha
    by_cases h0 : last = 0
    · subst h0
      obtain rfl : a = 0 := by omega
      match L, hL with
      | [x], _ => exact ⟨[], [], by rw [climb_zero, way_one (by simp), if_pos rfl]; rfl, fun y => ⟨[], [], by rw [climb_zero, if_pos rfl]; rfl⟩⟩
    · have hl := next_length L
      obtain ⟨T, lf, i1, i2⟩ := ih (last / 2) (by omega) (next L) (a / 2) (by rw [hl]; omega) (by omega)
      have hw := way_next _ L a rfl (by omega)
      rw [hw, climb_step _ _ h0]
      by_cases hodd : a % 2 = 1
      · -- a to the left
        rw [if_neg (fun e => by omega)]
        have hs : sib L a = [L.getD (a - 1) ByteArray.empty] := by unfold sib; rw [if_pos hodd, drop_cons (by omega)]
        have hg : (next L).getD (a / 2) ByteArray.empty = node (L.getD (a - 1) ByteArray.empty) (L.getD a ByteArray.empty) := by
          rw [next_getD L (a / 2) (by omega), show 2 * (a / 2) = a - 1 by omega, show a - 1 + 1 = a by omega]
        rw [hs, List.singleton_append]
        simp only
        rw [if_neg (by omega), ← hg, i1]
        refine ⟨_, _, by rw [root_next']; rfl, fun y => ?_⟩
        obtain ⟨T2, l2, j1⟩ := i2 (node (L.getD (a - 1) ByteArray.empty) y)
        rw [climb_step _ _ (by omega), if_neg (fun e => by omega)]
        simp only
        rw [if_neg (by omega), j1]
        refine ⟨nodeT (L.getD (a - 1) ByteArray.empty) y :: T2, L.getD (a - 1) ByteArray.empty :: l2, ?_⟩
        have e : root (L.take a ++ [y]) = root ((next L).take (a / 2) ++ [node (L.getD (a - 1) ByteArray.empty) y]) := by
          have ht : L.take a = L.take (a - 1) ++ [L.getD (a - 1) ByteArray.empty] := by
            rw [← take_succ_getD (by omega), show a - 1 + 1 = a by omega]
          rw [← root_next' (L.take a ++ [y]), ht, List.append_assoc, List.singleton_append, next_snoc2 _ _ (by rw [List.length_take]; omega), next_take (by omega) (by omega), show (a - 1) / 2 = a / 2 by omega]
        rw [e]; rfl
      · -- a to the right, or alone
        have hfirst : ∀ y, ∃ T2 l2, climb a a y lf = some (root (L.take a ++ [y]), T2, l2) := fun y => by
          obtain ⟨T2, l2, j1⟩ := i2 y
          by_cases hz : a = 0
          · subst hz
            rw [Nat.zero_div, List.take_zero] at j1
            exact ⟨_, _, by rw [List.take_zero]; exact j1⟩
          · refine ⟨T2, l2, ?_⟩
            rw [climb_step _ _ hz, if_pos ⟨rfl, by omega⟩, j1]
            rw [← root_next' (L.take a ++ [y]), next_snoc _ (by rw [List.length_take]; omega), next_take (by omega) (by omega)]
        by_cases hal : a = last
        · rw [if_pos ⟨hal, by omega⟩]
          have hs : sib L a = [] := by unfold sib; rw [if_neg hodd, List.drop_of_length_le (by omega)]; rfl
          have hg : (next L).getD (a / 2) ByteArray.empty = L.getD a ByteArray.empty := by
            rw [next_last L (a / 2) (by omega), show 2 * (a / 2) = a by omega]
          rw [hs, List.nil_append, ← hg, i1]
          exact ⟨_, _, by rw [root_next'], hfirst⟩
        · rw [if_neg (fun e => hal e.1)]
          have hs : sib L a = [L.getD (a + 1) ByteArray.empty] := by unfold sib; rw [if_neg hodd, drop_cons (by omega)]
          have hg : (next L).getD (a / 2) ByteArray.empty = node (L.getD a ByteArray.empty) (L.getD (a + 1) ByteArray.empty) := by
            rw [next_getD L (a / 2) (by omega), show 2 * (a / 2) = a by omega]
          rw [hs, List.singleton_append]
          simp only
          rw [if_pos (by omega), ← hg, i1]
          exact ⟨_, _, by rw [root_next']; rfl, hfirst⟩

/-- The texts of the nodes that are summed for a root. -/
def sumF : Nat → List ByteArray → List ByteArray
  | 0, _ => []
  | f + 1, l => if l.length < 2 then [] else sumF f (l.take (hf l.length)) ++ sumF f (l.drop (hf l.length)) ++ [nodeT (root (l.take (hf l.length))) (root (l.drop (hf l.length)))]
def sumT (l : List ByteArray) : List ByteArray := sumF l.length l
theorem sumF_any : ∀ (f g : Nat) (l : List ByteArray), l.length ≤ f → l.length ≤ g → sumF f l = sumF g l := by
  intro f
  induction f with
  | zero =>
    intro g l h1 h2
    cases g with
    | zero => rfl
    | succ g => rw [sumF, sumF, if_pos (by omega)]
  | succ f ih =>
    intro g l h1 h2
    cases g with
    | zero => rw [sumF, sumF, if_pos (by omega)]
    | succ g =>
      rw [sumF, sumF]
      by_cases h : l.length < 2
      · rw [if_pos h, if_pos h]
      · rw [if_neg h, if_neg h]
        have p1 := hf_pos l.length
        have p2 := hf_lt (n := l.length) (by omega)
        rw [ih g _ (by rw [List.length_take]; omega) (by rw [List.length_take]; omega), ih g _ (by rw [List.length_drop]; omega) (by rw [List.length_drop]; omega)]
theorem sumT_one {l : List ByteArray} (h : l.length < 2) : sumT l = [] := by
  unfold sumT
  cases hl : l.length with
  | zero => rfl
  | succ n => rw [sumF, if_pos h]
theorem sumT_two {l : List ByteArray} (h : 2 ≤ l.length) : sumT l = sumT (l.take (hf l.length)) ++ sumT (l.drop (hf l.length)) ++ [nodeT (root (l.take (hf l.length))) (root (l.drop (hf l.length)))] := by
  have p1 := hf_pos l.length
  have p2 := hf_lt h
  unfold sumT
  rw [show sumF l.length l = sumF (l.length - 1 + 1) l by congr 1; omega, sumF, if_neg (by omega)]
  rw [sumF_any (l.length - 1) (l.take (hf l.length)).length _ (by rw [List.length_take]; omega) (Nat.le_refl _), sumF_any (l.length - 1) (l.drop (hf l.length)).length _ (by rw [List.length_drop]; omega) (Nat.le_refl _)]
theorem sumT_length : ∀ (n : Nat) (l : List ByteArray), l.length = n → (sumT l).length = n - 1 := by
  intro n
  induction n using Nat.strongRecOn with
  | ind n ih =>
    intro l hn
    by_cases h : 2 ≤ l.length
    · have p1 := hf_pos l.length
      have p2 := hf_lt h
      rw [sumT_two h, List.length_append, List.length_append, ih (hf l.length) (by omega) _ (by rw [List.length_take]; omega), ih (l.length - hf l.length) (by omega) _ (by rw [List.length_drop])]
      simp; omega
    · rw [sumT_one (by omega)]; simp; omega
/-- The texts of a level's pairs. -/
def pairT : List ByteArray → List ByteArray
  | a :: b :: r => nodeT a b :: pairT r
  | _ => []
theorem pairT_append : ∀ (p q : List ByteArray), p.length % 2 = 0 → pairT (p ++ q) = pairT p ++ pairT q
  | [], q, _ => rfl
  | [a], q, h => by simp at h
  | a :: b :: r, q, h => by
    rw [List.cons_append, List.cons_append, pairT, pairT, List.cons_append, pairT_append r q (by simp at h; omega)]
theorem sumT_next : ∀ (n : Nat) (l : List ByteArray), l.length = n → ∀ x, x ∈ pairT l ∨ x ∈ sumT (next l) → x ∈ sumT l := by
  intro n
  induction n using Nat.strongRecOn with
  | ind n ih =>
    intro l hn x hx
    rcases len_cases l with rfl | ⟨a, rfl⟩ | h
    · rcases hx with hx | hx
      · simp [pairT] at hx
      · exact hx
    · rcases hx with hx | hx
      · simp [pairT] at hx
      · exact hx
    · by_cases h3 : 3 ≤ l.length
      · obtain ⟨m, m1, m2, m3⟩ := hf_even h3
        have p2 := hf_lt h
        have hl := next_length l
        have hp : pairT l = pairT (l.take (2 * m)) ++ pairT (l.drop (2 * m)) := by
          rw [← pairT_append _ _ (by rw [List.length_take]; omega), List.take_append_drop]
        have e1 : next (l.take (2 * m)) = (next l).take m := by rw [next_take (by omega) (by omega), show 2 * m / 2 = m by omega]
        have e2 : next (l.drop (2 * m)) = (next l).drop m := by rw [next_drop (by omega) (by omega), show 2 * m / 2 = m by omega]
        have i1 := ih (2 * m) (by omega) (l.take (2 * m)) (by rw [List.length_take]; omega) x
        have i2 := ih (l.length - 2 * m) (by omega) (l.drop (2 * m)) (by rw [List.length_drop]) x
        rw [e1] at i1
        rw [e2] at i2
        rw [sumT_two h, m2]
        rw [hp, sumT_two (l := next l) (by omega), hl, m3, ← e1, ← e2, root_next', root_next', e1, e2] at hx
        simp only [List.mem_append] at hx ⊢
        rcases hx with (hx | hx) | (hx | hx) | hx
        · exact Or.inl (Or.inl (i1 (Or.inl hx)))
        · exact Or.inl (Or.inr (i2 (Or.inl hx)))
        · exact Or.inl (Or.inl (i1 (Or.inr hx)))
        · exact Or.inl (Or.inr (i2 (Or.inr hx)))
        · exact Or.inr hx
      · match l, h, h3, hx with
        | [a, b], _, _, hx =>
          rcases hx with hx | hx
          · exact hx
          · rw [next_pair, sumT_one (by simp)] at hx; cases hx
        | a :: b :: c :: r, _, h3, _ => simp at h3
theorem sumT_up : ∀ (j : Nat) (l : List ByteArray) (x : ByteArray), x ∈ sumT (up j l) → x ∈ sumT l
  | 0, _, _, h => h
  | j + 1, l, x, h => sumT_next _ l rfl x (Or.inr (sumT_up j (next l) x h))
theorem pairT_mem : ∀ (l : List ByteArray) (j : Nat), 2 * j + 1 < l.length → nodeT (l.getD (2 * j) ByteArray.empty) (l.getD (2 * j + 1) ByteArray.empty) ∈ pairT l
  | [], j, h => by simp at h
  | [a], j, h => by simp at h
  | a :: b :: r, 0, _ => by simp [pairT]
  | a :: b :: r, j + 1, h => by
    have := pairT_mem r j (by simp at h; omega)
    rw [pairT, show 2 * (j + 1) = 2 * j + 1 + 1 by omega, List.getD_cons_succ, List.getD_cons_succ, List.getD_cons_succ, List.getD_cons_succ]
    exact List.mem_cons_of_mem _ this
theorem nodeT_data (a b : ByteArray) : (nodeT a b).data.toList = 1 :: (a.data.toList ++ b.data.toList) := by unfold nodeT; simp
theorem nodeT_inj {a b c d : ByteArray} (h : nodeT a b = nodeT c d) (ha : a.size = c.size) : a = c ∧ b = d := by
  have := congrArg (fun x => x.data.toList) h
  simp only [nodeT_data, List.cons.injEq, true_and] at this
  obtain ⟨h1, h2⟩ := List.append_inj this (by simpa using ha)
  exact ⟨Go.WideShapes.bytes_inj h1, Go.WideShapes.bytes_inj h2⟩
theorem sumE_inj {a b : ByteArray} (h : sumE a = sumE b) : sha a.data.toList = sha b.data.toList := by
  have := congrArg (fun x => x.data.toList) h
  simpa only [sumE, str_data] using this
/-- Two unlike texts of one digest among those. -/
def TwinIn (S : List ByteArray) : Prop := ∃ a b, a ∈ S ∧ b ∈ S ∧ a ≠ b ∧ sumE a = sumE b
theorem TwinIn.sub {S T : List ByteArray} (h : TwinIn S) (hs : ∀ x ∈ S, x ∈ T) : TwinIn T := by
  obtain ⟨a, b, ha, hb, hn, he⟩ := h
  exact ⟨a, b, hs a ha, hs b hb, hn, he⟩
def Digs (l : List ByteArray) : Prop := ∀ x ∈ l, x.size = 32
theorem Digs.next : ∀ {l : List ByteArray}, Digs l → Digs (next l)
  | [], h => h
  | [a], h => h
  | a :: b :: r, h => fun x hx => by
    rw [Tr.next, List.mem_cons] at hx
    rcases hx with rfl | hx
    · exact sumE_size _
    · exact Digs.next (l := r) (fun y hy => h y (List.mem_cons_of_mem _ (List.mem_cons_of_mem _ hy))) x hx
theorem Digs.getD {l : List ByteArray} (h : Digs l) {i : Nat} (hi : i < l.length) : (l.getD i ByteArray.empty).size = 32 := by
  rw [List.getD_eq_getElem?_getD, List.getElem?_eq_getElem hi]
  exact h _ (List.getElem_mem hi)
theorem Digs.up : ∀ (j : Nat) {l : List ByteArray}, Digs l → Digs (up j l)
  | 0, _, h => h
  | j + 1, _, h => Digs.up j h.next
/-- WHAT LEADS TO THE ROOT IS WHAT STANDS THERE, BY ITS WAY, OR THERE IS A TWIN. -/
theorem climb_binds : ∀ (last : Nat) (L : List ByteArray) (at' : Nat) (d : ByteArray) (w : List ByteArray) (T lf : List ByteArray), L.length = last + 1 → at' ≤ last → Digs L → d.size = 32 → Digs w →
    climb at' last d w = some (root L, T, lf) → (d = L.getD at' ByteArray.empty ∧ w = way L at') ∨ TwinIn (T ++ sumT L) := by
  intro last
  induction last using Nat.strongRecOn with
  | ind last ih =>
    intro L a d w T lf hL ha hD hd hw hc
    by_cases h0 : last = 0
    · subst h0
      obtain rfl : a = 0 := by omega
      match L, hL with
      | [x], _ =>
        rw [climb_zero] at hc
        by_cases hwn : w = []
        · rw [if_pos hwn] at hc
          simp only [Option.some.injEq, Prod.mk.injEq] at hc
          exact Or.inl ⟨hc.1, by rw [hwn, way_one (by simp)]⟩
        · rw [if_neg hwn] at hc; cases hc
    · have hl := next_length L
      rw [climb_step _ _ h0] at hc
      have hway := way_next _ L a rfl (by omega)
      have hsub : ∀ x, x ∈ sumT (next L) → x ∈ sumT L := fun x hx => sumT_next _ L rfl x (Or.inr hx)
      by_cases hal : a = last ∧ a % 2 = 0
      · rw [if_pos hal, ← root_next'] at hc
        rcases ih (last / 2) (by omega) (next L) (a / 2) d w T lf (by rw [hl]; omega) (by omega) hD.next hd hw hc with ⟨j1, j2⟩ | j
        · refine Or.inl ⟨?_, ?_⟩
          · rw [j1, next_last L (a / 2) (by omega), show 2 * (a / 2) = a by omega]
          · rw [hway, j2]
            have hs : sib L a = [] := by unfold sib; rw [if_neg (by omega), List.drop_of_length_le (by omega)]; rfl
            rw [hs, List.nil_append]
        · exact Or.inr (j.sub (fun x hx => by
            rcases List.mem_append.1 hx with hx | hx
            · exact List.mem_append.2 (Or.inl hx)
            · exact List.mem_append.2 (Or.inr (hsub x hx))))
      · rw [if_neg hal] at hc
        cases w with
        | nil => cases hc
        | cons x r =>
          simp only at hc
          have hx32 : x.size = 32 := hw x (by simp)
          have hr : Digs r := fun y hy => hw y (List.mem_cons_of_mem _ hy)
          by_cases hev : a % 2 = 0
          · rw [if_pos hev] at hc
            have halt : a < last := by omega
            have hg : (next L).getD (a / 2) ByteArray.empty = node (L.getD a ByteArray.empty) (L.getD (a + 1) ByteArray.empty) := by
              rw [next_getD L (a / 2) (by omega), show 2 * (a / 2) = a by omega]
            have hm := pairT_mem L (a / 2) (by omega)
            rw [show 2 * (a / 2) = a by omega] at hm
            have hm2 := sumT_next _ L rfl _ (Or.inl hm)
            cases hcc : climb (a / 2) (last / 2) (node d x) r with
            | none => rw [hcc] at hc; cases hc
            | some z =>
              obtain ⟨z1, z2, z3⟩ := z
              rw [hcc] at hc
              simp only [Option.map_some, Option.some.injEq, Prod.mk.injEq] at hc
              obtain ⟨c1, c2, c3⟩ := hc
              rw [c1, ← root_next'] at hcc
              subst c2
              rcases ih (last / 2) (by omega) (next L) (a / 2) (node d x) r z2 z3 (by rw [hl]; omega) (by omega) hD.next (sumE_size _) hr hcc with ⟨j1, j2⟩ | j
              · rw [hg] at j1
                by_cases ht : nodeT d x = nodeT (L.getD a ByteArray.empty) (L.getD (a + 1) ByteArray.empty)
                · obtain ⟨k1, k2⟩ := nodeT_inj ht (by rw [hd, hD.getD (by omega)])
                  refine Or.inl ⟨k1, ?_⟩
                  have hs : sib L a = [L.getD (a + 1) ByteArray.empty] := by unfold sib; rw [if_neg (by omega), drop_cons (by omega)]
                  rw [hway, hs, ← j2, k2]; rfl
                · exact Or.inr ⟨_, _, List.mem_append.2 (Or.inl (List.mem_cons_self ..)), List.mem_append.2 (Or.inr hm2), ht, j1⟩
              · exact Or.inr (j.sub (fun y hy => by
                  rcases List.mem_append.1 hy with hy | hy
                  · exact List.mem_append.2 (Or.inl (List.mem_cons_of_mem _ hy))
                  · exact List.mem_append.2 (Or.inr (hsub y hy))))
          · rw [if_neg hev] at hc
            have hg : (next L).getD (a / 2) ByteArray.empty = node (L.getD (a - 1) ByteArray.empty) (L.getD a ByteArray.empty) := by
              rw [next_getD L (a / 2) (by omega), show 2 * (a / 2) = a - 1 by omega, show a - 1 + 1 = a by omega]
            have hm := pairT_mem L (a / 2) (by omega)
            rw [show 2 * (a / 2) = a - 1 by omega, show a - 1 + 1 = a by omega] at hm
            have hm2 := sumT_next _ L rfl _ (Or.inl hm)
            cases hcc : climb (a / 2) (last / 2) (node x d) r with
            | none => rw [hcc] at hc; cases hc
            | some z =>
              obtain ⟨z1, z2, z3⟩ := z
              rw [hcc] at hc
              simp only [Option.map_some, Option.some.injEq, Prod.mk.injEq] at hc
              obtain ⟨c1, c2, c3⟩ := hc
              rw [c1, ← root_next'] at hcc
              subst c2
              rcases ih (last / 2) (by omega) (next L) (a / 2) (node x d) r z2 z3 (by rw [hl]; omega) (by omega) hD.next (sumE_size _) hr hcc with ⟨j1, j2⟩ | j
              · rw [hg] at j1
                by_cases ht : nodeT x d = nodeT (L.getD (a - 1) ByteArray.empty) (L.getD a ByteArray.empty)
                · obtain ⟨k1, k2⟩ := nodeT_inj ht (by rw [hx32, hD.getD (by omega)])
                  refine Or.inl ⟨k2, ?_⟩
                  have hs : sib L a = [L.getD (a - 1) ByteArray.empty] := by unfold sib; rw [if_pos (by omega), drop_cons (by omega)]
                  rw [hway, hs, ← j2, k1]; rfl
                · exact Or.inr ⟨_, _, List.mem_append.2 (Or.inl (List.mem_cons_self ..)), List.mem_append.2 (Or.inr hm2), ht, j1⟩
              · exact Or.inr (j.sub (fun y hy => by
                  rcases List.mem_append.1 hy with hy | hy
                  · exact List.mem_append.2 (Or.inl (List.mem_cons_of_mem _ hy))
                  · exact List.mem_append.2 (Or.inr (hsub y hy))))
/-- How many texts a way has: as many as it. -/
theorem climb_len : ∀ (last at' : Nat) (d : ByteArray) (w : List ByteArray) (x : ByteArray × List ByteArray × List ByteArray), climb at' last d w = some x → x.2.1.length = w.length ∧ x.2.2.length ≤ w.length := by
  intro last
  induction last using Nat.strongRecOn with
  | ind last ih =>
    intro a d w x hc
    by_cases h0 : last = 0
    · subst h0
      rw [climb_zero] at hc
      by_cases hwn : w = []
      · rw [if_pos hwn] at hc
        injection hc with hc
        subst hc hwn
        exact ⟨rfl, Nat.le_refl _⟩
      · rw [if_neg hwn] at hc; cases hc
    · rw [climb_step _ _ h0] at hc
      by_cases hal : a = last ∧ a % 2 = 0
      · rw [if_pos hal] at hc; exact ih _ (by omega) _ _ _ _ hc
      · rw [if_neg hal] at hc
        cases w with
        | nil => cases hc
        | cons y r =>
          simp only at hc
          by_cases hev : a % 2 = 0
          · rw [if_pos hev] at hc
            cases hcc : climb (a / 2) (last / 2) (node d y) r with
            | none => rw [hcc] at hc; cases hc
            | some z =>
              rw [hcc] at hc
              simp only [Option.map_some, Option.some.injEq] at hc
              subst hc
              have := ih _ (by omega) _ _ _ _ hcc
              simp; omega
          · rw [if_neg hev] at hc
            cases hcc : climb (a / 2) (last / 2) (node y d) r with
            | none => rw [hcc] at hc; cases hc
            | some z =>
              rw [hcc] at hc
              simp only [Option.map_some, Option.some.injEq] at hc
              subst hc
              have := ih _ (by omega) _ _ _ _ hcc
              simp; omega
end Tr
end Go.Proofs.YtdfkpjmljaanpaaDoor
namespace Go.Proofs.YtdfkpjmljaanpaaDoor
open Go.RowKit

namespace Tr
theorem climb_first : ∀ (last at' : Nat) (d : ByteArray) (w : List ByteArray) (r : ByteArray) (T lf : List ByteArray), at' ≤ last → climb at' last d w = some (r, T, lf) → ∀ y, ∃ z, climb at' at' y lf = some z := by
  intro last
  induction last using Nat.strongRecOn with
  | ind last ih =>
    intro a d w r T lf ha hc y
    by_cases h0 : last = 0
    · subst h0
      obtain rfl : a = 0 := by omega
      rw [climb_zero] at hc
      by_cases hwn : w = []
      · rw [if_pos hwn] at hc
        simp only [Option.some.injEq, Prod.mk.injEq] at hc
        obtain ⟨-, -, rfl⟩ := hc
        exact ⟨_, by rw [climb_zero, if_pos rfl]⟩
      · rw [if_neg hwn] at hc; cases hc
    · rw [climb_step _ _ h0] at hc
      have up1 : ∀ (d' : ByteArray) (w' : List ByteArray) (r' : ByteArray) (T' lf' : List ByteArray), a % 2 = 0 → climb (a / 2) (last / 2) d' w' = some (r', T', lf') → ∃ z, climb a a y lf' = some z := fun d' w' r' T' lf' he hcc => by
        obtain ⟨z, hz⟩ := ih _ (by omega) _ _ _ _ _ _ (by omega) hcc y
        by_cases hz0 : a = 0
        · subst hz0; exact ⟨z, hz⟩
        · exact ⟨z, by rw [climb_step _ _ hz0, if_pos ⟨rfl, he⟩, hz]⟩
      by_cases hal : a = last ∧ a % 2 = 0
      · rw [if_pos hal] at hc; exact up1 _ _ _ _ _ hal.2 hc
      · rw [if_neg hal] at hc
        cases w with
        | nil => cases hc
        | cons x q =>
          simp only at hc
          by_cases hev : a % 2 = 0
          · rw [if_pos hev] at hc
            cases hcc : climb (a / 2) (last / 2) (node d x) q with
            | none => rw [hcc] at hc; cases hc
            | some z =>
              obtain ⟨z1, z2, z3⟩ := z
              rw [hcc] at hc
              simp only [Option.map_some, Option.some.injEq, Prod.mk.injEq] at hc
              obtain ⟨-, -, rfl⟩ := hc
              exact up1 _ _ _ _ _ hev hcc
          · rw [if_neg hev] at hc
            cases hcc : climb (a / 2) (last / 2) (node x d) q with
            | none => rw [hcc] at hc; cases hc
            | some z =>
              obtain ⟨z1, z2, z3⟩ := z
              rw [hcc] at hc
              simp only [Option.map_some, Option.some.injEq, Prod.mk.injEq] at hc
              obtain ⟨-, -, rfl⟩ := hc
              obtain ⟨z, hz⟩ := ih _ (by omega) _ _ _ _ _ _ (by omega) hcc (node x y)
              refine ⟨(z.1, nodeT x y :: z.2.1, x :: z.2.2), ?_⟩
              rw [climb_step _ _ (by omega), if_neg (fun e => hev e.2)]
              simp only
              rw [if_neg hev, hz]; rfl
/-- Where a bridge leads that begins at the digest d: the root, and the texts. -/
def stepC (a last : Nat) (old d : ByteArray) (w : List ByteArray) : Option (ByteArray × List ByteArray) :=
  match climb a last d w with
  | none => none
  | some (r, T, lf) => match climb a a d lf with
    | none => none
    | some (r1, T1, _) => if r1 = old then some (r, T1 ++ T) else none
def crossP (q last : Nat) (old : ByteArray) (br : List ByteArray) : Option (ByteArray × List ByteArray) :=
  if q = 1 then stepC 0 last old old br else match br with
    | [] => none
    | x :: r => stepC (q - 1) last old x r
theorem getD_take {l : List ByteArray} {q : Nat} (h : 1 ≤ q) (hq : q ≤ l.length) : l.take (q - 1) ++ [l.getD (q - 1) ByteArray.empty] = l.take q := by
  rw [← take_succ_getD (by omega), show q - 1 + 1 = q by omega]
theorem level_last {n m j q : Nat} (hm : m = q * 2 ^ j) (h0 : 1 ≤ q) (hlt : m < n) : q - 1 ≤ (n - 1) / 2 ^ j ∧ q ≤ (n - 1) / 2 ^ j + 1 := by
  have hp := Nat.two_pow_pos j
  have : q ≤ (n - 1) / 2 ^ j := (Nat.le_div_iff_mul_le hp).2 (by omega)
  omega
/-- THE BRIDGE LEADS TO BOTH ROOTS. -/
theorem cross_way {l : List ByteArray} {m j q : Nat} (hm : m = q * 2 ^ j) (ho : q % 2 = 1) (hlt : m < l.length) :
    ∃ T, crossP q ((l.length - 1) / 2 ^ j) (root (l.take m)) (bridge l m true) = some (root l, T) := by
  obtain ⟨hq, hq2⟩ := level_last hm (by omega) hlt
  have hfit : Fit l.length (q * 2 ^ j) := by
    have := Nat.mul_le_mul (show 1 ≤ q by omega) (Nat.two_pow_pos j)
    exact ⟨by omega, Or.inl (by omega)⟩
  obtain ⟨b1, b2⟩ := bridge_up j l q true hfit
  have hul := up_length j l (by omega)
  have b3 := bridge_odd _ (up j l) q true rfl b2 ho
  obtain ⟨T, lf, c1, c2⟩ := climb_way _ (up j l) (q - 1) hul hq
  obtain ⟨T2, l2, c3⟩ := c2 ((up j l).getD (q - 1) ByteArray.empty)
  rw [getD_take (by omega) (by omega), ← up_take j l q (by omega), root_up, ← hm] at c3
  rw [root_up] at c1
  have hst : stepC (q - 1) ((l.length - 1) / 2 ^ j) (root (l.take m)) ((up j l).getD (q - 1) ByteArray.empty) (way (up j l) (q - 1)) = some (root l, T2 ++ T) := by
    unfold stepC
    rw [c1]
    simp only
    rw [c3]
    exact if_pos rfl
  refine ⟨T2 ++ T, ?_⟩
  rw [hm, b1, b3, ← hm]
  unfold crossP
  by_cases h1 : q = 1
  · rw [if_pos h1, if_pos ⟨rfl, h1⟩, List.nil_append]
    have hr : root (l.take m) = (up j l).getD 0 ByteArray.empty := by
      rw [← root_up j, hm, up_take j l q (by omega), h1, ← getD_take (l := up j l) (q := 1) (by omega) (by omega)]; rfl
    rw [h1, show 1 - 1 = 0 from rfl, ← hr] at hst
    rw [h1]
    exact hst
  · rw [if_neg h1, if_neg (fun e => h1 e.2), drop_cons (by omega), List.singleton_append]
    exact hst
/-- WHAT BEGINS A LOG IS THE ROOT OF ITS FIRST LEAVES, OR THERE IS A TWIN. -/
theorem cross_binds {l : List ByteArray} {m j q : Nat} (hm : m = q * 2 ^ j) (ho : q % 2 = 1) (hlt : m < l.length) (hD : Digs l) (old : ByteArray) (hold : old.size = 32) (br : List ByteArray) (hbr : Digs br) (T : List ByteArray)
    (hc : crossP q ((l.length - 1) / 2 ^ j) old br = some (root l, T)) : old = root (l.take m) ∨ TwinIn (T ++ sumT l) := by
  obtain ⟨hq, hq2⟩ := level_last hm (by omega) hlt
  have hul := up_length j l (by omega)
  have key : ∀ (d : ByteArray) (w : List ByteArray), d.size = 32 → Digs w → stepC (q - 1) ((l.length - 1) / 2 ^ j) old d w = some (root l, T) → old = root (l.take m) ∨ TwinIn (T ++ sumT l) := fun d w hd hw hs => by
    unfold stepC at hs
    split at hs
    · cases hs
    · rename_i r T0 lf hcl
      split at hs
      · cases hs
      · rename_i r1 T1 l1 hc1
        split at hs
        · rename_i hr1
          simp only [Option.some.injEq, Prod.mk.injEq] at hs
          obtain ⟨rfl, rfl⟩ := hs
          rw [← root_up j] at hcl
          rcases climb_binds _ (up j l) (q - 1) d w T0 lf hul hq (Digs.up j hD) hd hw hcl with ⟨k1, k2⟩ | k
          · obtain ⟨T', lf', c1, c2⟩ := climb_way _ (up j l) (q - 1) hul hq
            obtain ⟨T2, l2, c3⟩ := c2 ((up j l).getD (q - 1) ByteArray.empty)
            rw [getD_take (by omega) (by omega), ← up_take j l q (by omega), root_up, ← hm] at c3
            rw [k1, k2, c1] at hcl
            simp only [Option.some.injEq, Prod.mk.injEq] at hcl
            obtain ⟨-, -, rfl⟩ := hcl
            rw [← k1, hc1] at c3
            simp only [Option.some.injEq, Prod.mk.injEq] at c3
            exact Or.inl (hr1.symm.trans c3.1)
          · refine Or.inr (k.sub fun x hx => ?_)
            rcases List.mem_append.1 hx with hx | hx
            · exact List.mem_append.2 (Or.inl (List.mem_append.2 (Or.inr hx)))
            · exact List.mem_append.2 (Or.inr (sumT_up j l x hx))
        · cases hs
  unfold crossP at hc
  by_cases h1 : q = 1
  · rw [if_pos h1] at hc
    exact key old br hold hbr (by rw [h1]; exact hc)
  · rw [if_neg h1] at hc
    cases br with
    | nil => cases hc
    | cons x r => exact key x r (hbr x (by simp)) (fun y hy => hbr y (List.mem_cons_of_mem _ hy)) hc

/-- The peaks of digests: the roots of the whole trees, the greatest first. -/
def pkF : Nat → List ByteArray → List ByteArray
  | 0, _ => []
  | f + 1, l => if l = [] then [] else if l.length % 2 = 0 then pkF f (next l) else pkF f (next (l.take (l.length - 1))) ++ [l.getD (l.length - 1) ByteArray.empty]
def peaks (l : List ByteArray) : List ByteArray := pkF l.length l
theorem pkF_any : ∀ (f g : Nat) (l : List ByteArray), l.length ≤ f → l.length ≤ g → pkF f l = pkF g l := by
  intro f
  induction f with
  | zero =>
    intro g l h1 h2
    have : l = [] := List.length_eq_zero_iff.1 (by omega)
    subst this
    cases g <;> rfl
  | succ f ih =>
    intro g l h1 h2
    by_cases hl : l = []
    · subst hl; cases g <;> rfl
    · have hpos : 0 < l.length := List.length_pos_iff.2 hl
      cases g with
      | zero => omega
      | succ g =>
        rw [pkF, pkF, if_neg hl, if_neg hl]
        have n1 := next_length l
        have n2 := next_length (l.take (l.length - 1))
        rw [List.length_take] at n2
        by_cases he : l.length % 2 = 0
        · rw [if_pos he, if_pos he, ih g _ (by omega) (by omega)]
        · rw [if_neg he, if_neg he, ih g _ (by omega) (by omega)]
theorem peaks_nil : peaks [] = [] := rfl
theorem peaks_even {l : List ByteArray} (h : l.length % 2 = 0) : peaks l = peaks (next l) := by
  by_cases hl : l = []
  · subst hl; rfl
  · have hpos : 0 < l.length := List.length_pos_iff.2 hl
    have n1 := next_length l
    unfold peaks
    rw [show pkF l.length l = pkF (l.length - 1 + 1) l by congr 1; omega, pkF, if_neg hl, if_pos h]
    exact pkF_any _ _ _ (by omega) (Nat.le_refl _)
theorem peaks_odd {l : List ByteArray} (x : ByteArray) (h : l.length % 2 = 0) : peaks (l ++ [x]) = peaks l ++ [x] := by
  have e : peaks (l ++ [x]) = pkF l.length (next l) ++ [x] := by
    unfold peaks
    rw [show (l ++ [x]).length = l.length + 1 by simp, pkF, if_neg (by simp), if_neg (by simp; omega)]
    rw [show (l ++ [x]).length - 1 = l.length by simp, List.take_left, List.getD_eq_getElem?_getD, List.getElem?_append_right (Nat.le_refl _), Nat.sub_self]
    rfl
  have n1 := next_length l
  rw [e, peaks_even h]
  congr 1
  by_cases hl : l = []
  · subst hl; rfl
  · have hpos : 0 < l.length := List.length_pos_iff.2 hl
    exact pkF_any _ _ _ (by omega) (Nat.le_refl _)
/-- What the loop of With makes. -/
theorem peaks_step {l : List ByteArray} (y c : ByteArray) (h : l.length % 2 = 0) : peaks (l ++ [y] ++ [c]) = peaks (next l ++ [node y c]) := by
  rw [List.append_assoc, List.singleton_append, peaks_even (by simp; omega), next_snoc2 _ _ h]
/-- The root of peaks. -/
def rf : List ByteArray → ByteArray
  | [] => sumE ⟨#[]⟩
  | [x] => x
  | a :: b :: r => node a (rf (b :: r))
theorem rf_cons (a : ByteArray) {r : List ByteArray} (h : r ≠ []) : rf (a :: r) = node a (rf r) := by
  cases r with
  | nil => exact absurd rfl h
  | cons b r => rfl
theorem rf_snoc2 : ∀ (ps : List ByteArray) (x y : ByteArray), rf (ps ++ [x, y]) = rf (ps ++ [node x y])
  | [], x, y => rfl
  | a :: ps, x, y => by
    rw [List.cons_append, List.cons_append, rf_cons a (by simp), rf_cons a (by simp), rf_snoc2 ps x y]
theorem last_split {l : List ByteArray} (h : 0 < l.length) : l = l.take (l.length - 1) ++ [l.getD (l.length - 1) ByteArray.empty] := by
  conv => lhs; rw [← List.take_length (l := l)]
  rw [← take_succ_getD (by omega), show l.length - 1 + 1 = l.length by omega]
theorem rf_root : ∀ (n : Nat) (l : List ByteArray) (x : ByteArray), l.length = n → rf (peaks l ++ [x]) = root (l ++ [x]) := by
  intro n
  induction n using Nat.strongRecOn with
  | ind n ih =>
    intro l x hn
    by_cases hl : l = []
    · subst hl; rfl
    · have hpos : 0 < l.length := List.length_pos_iff.2 hl
      have n1 := next_length l
      by_cases he : l.length % 2 = 0
      · rw [peaks_even he, ih _ (by omega) (next l) x rfl, ← next_snoc x he, root_next']
      · have hs := last_split hpos
        obtain ⟨p, y, hp⟩ : ∃ p y, l = p ++ [y] := ⟨_, _, hs⟩
        have hpl : p.length % 2 = 0 := by rw [hp] at he; simp at he; omega
        have hpn := next_length p
        have hp1 : l.length = p.length + 1 := by rw [hp]; simp
        rw [hp, peaks_odd y hpl, List.append_assoc, List.singleton_append, rf_snoc2, peaks_even hpl, ih _ (by omega) (next p) (node y x) rfl, List.append_assoc, List.singleton_append, ← next_snoc2 y x hpl, root_next']
theorem rf_peaks : ∀ (n : Nat) (l : List ByteArray), l.length = n → rf (peaks l) = root l := by
  intro n
  induction n using Nat.strongRecOn with
  | ind n ih =>
    intro l hn
    by_cases hl : l = []
    · subst hl; rfl
    · have hpos : 0 < l.length := List.length_pos_iff.2 hl
      have n1 := next_length l
      by_cases he : l.length % 2 = 0
      · rw [peaks_even he, ih _ (by omega) (next l) rfl, root_next']
      · have hs := last_split hpos
        obtain ⟨p, y, hp⟩ : ∃ p y, l = p ++ [y] := ⟨_, _, hs⟩
        have hpl : p.length % 2 = 0 := by rw [hp] at he; simp at he; omega
        rw [hp, peaks_odd y hpl, rf_root _ p y rfl]
theorem peaks_length : ∀ (n : Nat) (l : List ByteArray), l.length = n → (peaks l).length ≤ n := by
  intro n
  induction n using Nat.strongRecOn with
  | ind n ih =>
    intro l hn
    by_cases hl : l = []
    · subst hl; exact Nat.zero_le _
    · have hpos : 0 < l.length := List.length_pos_iff.2 hl
      have n1 := next_length l
      by_cases he : l.length % 2 = 0
      · rw [peaks_even he]; have := ih _ (by omega) (next l) rfl; omega
      · have hs := last_split hpos
        obtain ⟨p, y, hp⟩ : ∃ p y, l = p ++ [y] := ⟨_, _, hs⟩
        have hpl : p.length % 2 = 0 := by rw [hp] at he; simp at he; omega
        have hp1 : l.length = p.length + 1 := by rw [hp]; simp
        rw [hp, peaks_odd y hpl]
        have := ih _ (by omega) p rfl
        simp; omega
end Tr
end Go.Proofs.YtdfkpjmljaanpaaDoor
