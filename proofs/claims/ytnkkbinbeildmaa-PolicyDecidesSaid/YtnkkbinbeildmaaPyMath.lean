/- What layers 20 and 21 say, plainly: requests, rules, books. -/
import Derived.Test.YtnkkbinbeildmaaMW1
namespace Go.Proofs.Ytnkkbinbeildmaa
open Go.RowKit
namespace Py
/-- A request. -/
structure Q where
  id : Int
  who : ByteArray
  entry : Int
  reason : ByteArray
  exp : Int
/-- A rule. -/
structure R where
  who : ByteArray
  word : ByteArray
  fr : Int
  to : Int
  un : Int
  mo : Int
  allow : Bool
def inB (x a b : Int) : Bool := decide (a ≤ x) && decide (x ≤ b)
def nameC (c : UInt8) : Bool := inB (c.toNat : Int) 97 122 || inB (c.toNat : Int) 48 57 || c.toNat == 45 || c.toNat == 46
def nameB (s : ByteArray) : Bool := inB (s.size : Int) 1 24 && s.data.toList.all nameC
def mayB (q : Q) : Bool := inB q.id 1 1048576 && nameB q.who && inB q.entry 0 4095 && decide (q.reason.size ≤ 120) && inB q.exp 0 1099511627776
def wordB (s : ByteArray) : Bool := match Wd.norm s.data.toList with
  | .ok x => decide (x = s.data.toList)
  | .error _ => false
def ruleB (r : R) : Bool := (decide (r.who.size = 0) || nameB r.who) && (decide (r.word.size = 0) || wordB r.word) && inB r.fr 0 4096 && inB r.to 0 4096 && inB r.un 0 1099511627776 && inB r.mo 0 50
def checkB (l : List R) : Bool := decide (l.length ≤ 20) && l.all ruleB
def hasW (q : Q) (s : ByteArray) : Bool := (Wd.ofW q.reason.data.toList).any fun x => decide (x = s)
def fitsB (r : R) (q : Q) (now : Int) : Bool := ruleB r && mayB q && (decide (r.who.size = 0) || decide (r.who = q.who)) && (decide (r.word.size = 0) || hasW q r.word) && decide (r.fr ≤ q.entry) && decide (q.entry < r.to) && decide (now ≤ r.un)
def allowI (r : R) (opn : Int) : Int := if r.allow = false then 10 else if r.mo ≤ opn then 6 else 0
/-- The first place where something holds; the length where there is none. -/
def first {α : Type} (p : α → Bool) : List α → Nat
  | [] => 0
  | x :: l => if p x then 0 else first p l + 1
theorem first_le {α : Type} (p : α → Bool) : ∀ l : List α, first p l ≤ l.length
  | [] => Nat.le_refl _
  | x :: l => by
    unfold first; split
    · exact Nat.zero_le _
    · have := first_le p l; simp; omega
theorem first_at {α : Type} {p : α → Bool} : ∀ {l : List α} {x : α}, l[first p l]? = some x → p x = true
  | [], x, h => by simp at h
  | y :: l, x, h => by
    unfold first at h
    split at h
    · rename_i hp; simp at h; rw [← h]; exact hp
    · rw [List.getElem?_cons_succ] at h; exact first_at h
theorem first_before {α : Type} {p : α → Bool} : ∀ {l : List α} {k : Nat} {x : α}, k < first p l → l[k]? = some x → p x = false
  | [], k, x, h, _ => absurd h (Nat.not_lt_zero _)
  | y :: l, k, x, h, h2 => by
    unfold first at h
    split at h
    · exact absurd h (Nat.not_lt_zero _)
    · rename_i hp
      cases k with
      | zero => simp at h2; rw [← h2]; simpa using hp
      | succ k => rw [List.getElem?_cons_succ] at h2; exact first_before (Nat.lt_of_succ_lt_succ h) h2
theorem first_is {α : Type} {p : α → Bool} : ∀ {l : List α} {k : Nat} {x : α}, (∀ j, j < k → ∀ y, l[j]? = some y → p y = false) → l[k]? = some x → p x = true → first p l = k
  | [], k, x, _, h, _ => by simp at h
  | y :: l, 0, x, _, h, h2 => by simp at h; unfold first; rw [h, if_pos h2]
  | y :: l, k + 1, x, h0, h, h2 => by
    have hy : p y = false := h0 0 (Nat.succ_pos _) y rfl
    unfold first
    rw [if_neg (by simp [hy])]
    congr 1
    exact first_is (l := l) (fun j hj z hz => h0 (j + 1) (Nat.succ_lt_succ hj) z (by rw [List.getElem?_cons_succ]; exact hz)) (by rw [List.getElem?_cons_succ] at h; exact h) h2
theorem first_none {α : Type} {p : α → Bool} : ∀ {l : List α}, (∀ x ∈ l, p x = false) → first p l = l.length
  | [], _ => rfl
  | y :: l, h => by
    unfold first
    rw [if_neg (by simp [h y (by simp)]), first_none (fun x hx => h x (by simp [hx])), List.length_cons]
theorem first_append {α : Type} {p : α → Bool} : ∀ {l : List α} (m : List α), first p l < l.length → first p (l ++ m) = first p l
  | [], m, h => absurd h (Nat.lt_irrefl _)
  | y :: l, m, h => by
    by_cases hp : p y = true
    · simp [first, hp]
    · simp only [first, hp, if_false, Bool.false_eq_true, List.cons_append] at h ⊢
      rw [first_append m (by simpa using h)]
theorem first_take {α : Type} {p : α → Bool} : ∀ {l : List α}, first p l < l.length → first p (l.take (first p l + 1)) = first p l
  | [], h => absurd h (Nat.lt_irrefl _)
  | y :: l, h => by
    unfold first at h ⊢
    split at h
    · rename_i hp; rw [if_pos hp]; simp [first, hp]
    · rename_i hp
      have ih := first_take (p := p) (l := l) (by simpa using h)
      simp only [hp, if_false, Bool.false_eq_true, List.take_succ_cons, first, ih]
theorem first_drop {α : Type} {p : α → Bool} {l : List α} (h : first p l < l.length) : first p (l.drop (first p l)) = 0 := by
  obtain ⟨x, hx⟩ : ∃ x, l[first p l]? = some x := ⟨_, List.getElem?_eq_getElem h⟩
  have hp := first_at hx
  exact first_is (k := 0) (x := x) (fun j hj => absurd hj (Nat.not_lt_zero _)) (by rw [List.getElem?_drop]; simpa using hx) hp
/-- What a policy decides: the rule's place, and the error. -/
def decI (l : List R) (q : Q) (now opn : Int) : Int × Int :=
  if (checkB l && mayB q && inB now 0 1099511627776 && decide (0 ≤ opn)) = false then (-1, 1)
  else if q.exp < now then (-1, 11)
  else match l[first (fun r => fitsB r q now) l]? with
    | none => (-1, 10)
    | some r => ((first (fun r => fitsB r q now) l : Nat), allowI r opn)
end Py
/-- An entry of a book, and how it stands. -/
structure En where
  q : Py.Q
  st : Int
namespace Bk
def atI (x : En) (now : Int) : Int := if (x.st = 1 ∨ x.st = 2) ∧ x.q.exp < now then 5 else x.st
def findN (l : List En) (id : Int) : Nat := Py.first (fun x => decide (x.q.id = id)) l
def stateI (l : List En) (id now : Int) : Int := match l[findN l id]? with
  | none => 0
  | some x => atI x now
def openN (l : List En) (who : ByteArray) (now : Int) : Nat := (l.filter fun x => decide (x.q.who = who) && decide (atI x now = 1)).length
/-- An act: 0 puts, 1 approves, 2 denies, 3 revokes. -/
structure Act where
  kind : Int
  q : Py.Q
  id : Int
  who : ByteArray
  now : Int
def putI (l : List En) (q : Py.Q) (now : Int) : Option (List En) × Int :=
  if Py.mayB q = false then (none, 1)
  else if findN l q.id < l.length then (none, 5)
  else if q.exp < now then (none, 11)
  else if 200 ≤ l.length then (none, 6)
  else (some (l ++ [⟨q, 1⟩]), 0)
def setS (l : List En) (i : Nat) (s : Int) : List En := match l[i]? with
  | none => l
  | some x => l.set i ⟨x.q, s⟩
def judI (x : En) (a : Act) : Int :=
  if a.kind = 3 ∧ x.q.who ≠ a.who then 10
  else if atI x a.now = 5 then 11
  else if atI x a.now = a.kind + 1 then 5
  else if atI x a.now = 1 ∨ (a.kind = 3 ∧ atI x a.now = 2) then 0
  else 10
/-- What an act does to a book: none: nothing; the error. -/
def doI (l : List En) (a : Act) : Option (List En) × Int :=
  if Py.inB a.now 0 1099511627776 = false then (none, 1)
  else if a.kind = 0 then putI l a.q a.now
  else match l[findN l a.id]? with
    | none => (none, 4)
    | some x => if judI x a = 0 then (some (setS l (findN l a.id) (a.kind + 1)), 0) else (none, judI x a)
def after (l : List En) (a : Act) : List En := (doI l a).1.getD l
end Bk
end Go.Proofs.Ytnkkbinbeildmaa
