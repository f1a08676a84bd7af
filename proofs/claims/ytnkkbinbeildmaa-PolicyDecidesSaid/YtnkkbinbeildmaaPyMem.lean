/- Records in memory: a request, a rule, an entry, an act. -/
import Derived.Test.YtnkkbinbeildmaaMB
import Derived.Test.YtnkkbinbeildmaaOwnR
import Derived.Test.YtnkkbinbeildmaaPyMath
namespace Go.Proofs.Ytnkkbinbeildmaa
open Go.RowKit
/-- Records of k cells in memory. -/
def RecsAt {α : Type} (k : Nat) (c : α → Array Value) (w : World) (a0 : Option Addr) (l : List α) : Prop :=
  ∀ j x, l[j]? = some x → ∃ b off, a0 = some ⟨b, off, none⟩ ∧ b < w.heap.size ∧ ∀ m, m < k → w.cell? ⟨b, off + j * k + m, none⟩ = (c x)[m]?
section
variable {α : Type} {k : Nat} {c : α → Array Value} {w w' : World} {a0 : Option Addr} {l : List α}
theorem RecsAt.nil (k : Nat) (c : α → Array Value) (w : World) (a0 : Option Addr) : RecsAt k c w a0 [] := fun j x hx => by simp at hx
theorem RecsAt.below (h : RecsAt k c w a0 l) (hb : Below w.heap.size w w') : RecsAt k c w' a0 l := fun j a hj => by
  obtain ⟨b, off, rfl, hbl, hc⟩ := h j a hj
  exact ⟨b, off, rfl, Nat.lt_of_lt_of_le hbl hb.size, fun k hk => by rw [hb.cell (p := ⟨b, _, none⟩) hbl]; exact hc k hk⟩
theorem RecsAt.drew (h : RecsAt k c w a0 l) : RecsAt k c w.drew a0 l := h
theorem OwnR.recs {T : TypeId} {B : Nat} {a : Option Addr} {cap : Nat} (h : OwnR T k c B w a cap l) (hk : ∀ x, (c x).size = k) : RecsAt k c w a l := fun j x hj => by
  obtain ⟨g, rfl, -, hg, hm⟩ := h.at hk hj
  exact ⟨g, 0, rfl, hg, fun m hm' => by rw [Nat.zero_add]; exact hm m hm'⟩
end
def qCs (q : Py.Q) : Array Value := #[.int .i64 q.id, .string q.who, .int .i64 q.entry, .string q.reason, .int .i64 q.exp]
def qVal (q : Py.Q) : Value := .agg #[.int .i64 q.id, .string q.who, .int .i64 q.entry, .string q.reason, .int .i64 q.exp]
def ruCs (r : Py.R) : Array Value := #[.string r.who, .string r.word, .int .i64 r.fr, .int .i64 r.to, .int .i64 r.un, .int .i64 r.mo, .bool r.allow]
def ruVal (r : Py.R) : Value := .agg #[.string r.who, .string r.word, .int .i64 r.fr, .int .i64 r.to, .int .i64 r.un, .int .i64 r.mo, .bool r.allow]
def enCs (x : En) : Array Value := #[.int .i64 x.q.id, .string x.q.who, .int .i64 x.q.entry, .string x.q.reason, .int .i64 x.q.exp, .int .i64 x.st]
def enVal (x : En) : Value := .agg #[.int .i64 x.q.id, .string x.q.who, .int .i64 x.q.entry, .string x.q.reason, .int .i64 x.q.exp, .int .i64 x.st]
/-- A number that a word of 64 bits holds. -/
def J64 (n : Int) : Prop := -9223372036854775808 ≤ n ∧ n ≤ 9223372036854775807
structure Py.Q.Ok (q : Py.Q) : Prop where
  id : J64 q.id
  who : q.who.size ≤ maxLen
  entry : J64 q.entry
  reason : q.reason.size ≤ maxLen
  exp : J64 q.exp
structure Py.R.Ok (r : Py.R) : Prop where
  who : r.who.size ≤ maxLen
  word : r.word.size ≤ maxLen
  fr : J64 r.fr
  to : J64 r.to
  un : J64 r.un
  mo : J64 r.mo
/-- An act of layer 21's statements: its cells. -/
def acCs (a : Bk.Act) : Array Value := #[.int .i64 a.kind, .int .i64 a.id, .int .i64 a.now, .int .i64 a.q.id, .string a.q.who, .int .i64 a.q.entry, .string a.q.reason, .int .i64 a.q.exp, .string a.who]
structure Bk.Act.Ok (a : Bk.Act) : Prop where
  kind : J64 a.kind
  id : J64 a.id
  now : J64 a.now
  q : a.q.Ok
  who : a.who.size ≤ maxLen
end Go.Proofs.Ytnkkbinbeildmaa
