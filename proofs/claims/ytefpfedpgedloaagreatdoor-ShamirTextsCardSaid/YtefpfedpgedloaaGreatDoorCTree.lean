/- Items in memory: trees that know where their lists lie. -/
import Derived.Test.YtefpfedpgedloaaGreatDoorCPutNum
namespace Go.Proofs.YtefpfedpgedloaaGreatDoor
open Go.RowKit
open Cn

/-- An item, and where its list lies (with what capacity). -/
inductive It where
  | mk (k n : Int) (s : ByteArray) (a : Option Addr) (cap : Nat) (l : List It)
namespace It
def k : It → Int | mk k _ _ _ _ _ => k
def n : It → Int | mk _ n _ _ _ _ => n
def s : It → ByteArray | mk _ _ s _ _ _ => s
def a : It → Option Addr | mk _ _ _ a _ _ => a
def cap : It → Nat | mk _ _ _ _ c _ => c
def l : It → List It | mk _ _ _ _ _ l => l
theorem eta : ∀ x : It, x = mk x.k x.n x.s x.a x.cap x.l | mk _ _ _ _ _ _ => rfl
/-- The list's value. -/
def lv (x : It) : Value := .slice x.a x.l.length x.cap
def cells (x : It) : Array Value := #[.int .i64 x.k, .int .i64 x.n, .string x.s, .slice x.a x.l.length x.cap]
def val (x : It) : Value := .agg x.cells
mutual
def pure : It → Pt
  | mk k n s _ _ l => .mk k n s (pureAll l)
def pureAll : List It → List Pt
  | [] => []
  | x :: r => pure x :: pureAll r
end
mutual
def sz : It → Nat
  | mk _ _ _ _ _ l => 1 + szAll l
def szAll : List It → Nat
  | [] => 0
  | x :: r => sz x + szAll r
end
theorem pureAll_eq : ∀ l, pureAll l = l.map pure
  | [] => rfl
  | x :: r => by rw [pureAll, pureAll_eq r]; rfl
theorem pureAll_length (l : List It) : (pureAll l).length = l.length := by rw [pureAll_eq, List.length_map]
theorem pure_eq (x : It) : x.pure = .mk x.k x.n x.s (pureAll x.l) := by cases x; rfl
theorem sz_eq (x : It) : x.sz = 1 + szAll x.l := by cases x; rfl
theorem sz_mem : ∀ {l : List It} {x : It}, x ∈ l → sz x ≤ szAll l
  | y :: r, x, h => by
    rw [szAll]
    rcases List.mem_cons.1 h with rfl | h
    · omega
    · have := sz_mem h; omega
theorem sz_lt {x y : It} (h : y ∈ x.l) : y.sz < x.sz := by rw [sz_eq x]; have := sz_mem h; omega
end It

/-- The cells of a list of items, from an address on. -/
def RowAt (w : World) (b o : Nat) (l : List It) : Prop := ∀ j x, l[j]? = some x → w.cell? ⟨b, o + j * 4, none⟩ = some (.int .i64 x.k) ∧ w.cell? ⟨b, o + j * 4 + 1, none⟩ = some (.int .i64 x.n) ∧ w.cell? ⟨b, o + j * 4 + 2, none⟩ = some (.string x.s) ∧ w.cell? ⟨b, o + j * 4 + 3, none⟩ = some (.slice x.a x.l.length x.cap)
/-- A list lies where it says (or is empty). -/
def Lies (w : World) (S : Nat → Prop) (a : Option Addr) (l : List It) : Prop := l.length ≤ maxLen ∧ (l ≠ [] → ∃ b o, a = some ⟨b, o, none⟩ ∧ b < w.heap.size ∧ S b ∧ RowAt w b o l)
namespace It
mutual
/-- An item's lists lie in memory, all of them in blocks of which S holds. -/
def In (w : World) (S : Nat → Prop) : It → Prop
  | mk _ _ s a _ l => s.size ≤ maxLen ∧ Lies w S a l ∧ InAll w S l
def InAll (w : World) (S : Nat → Prop) : List It → Prop
  | [] => True
  | x :: r => In w S x ∧ InAll w S r
end
theorem in_eq (w : World) (S : Nat → Prop) (x : It) : x.In w S = (x.s.size ≤ maxLen ∧ Lies w S x.a x.l ∧ InAll w S x.l) := by cases x; rfl
theorem inAll_mem {w : World} {S : Nat → Prop} : ∀ {l : List It}, InAll w S l → ∀ x ∈ l, x.In w S
  | y :: r, h, x, hx => by
    rcases List.mem_cons.1 hx with rfl | hx
    · exact h.1
    · exact inAll_mem h.2 x hx
theorem inAll_of {w : World} {S : Nat → Prop} : ∀ {l : List It}, (∀ x ∈ l, x.In w S) → InAll w S l
  | [], _ => trivial
  | y :: r, h => ⟨h y (by simp), inAll_of fun x hx => h x (by simp [hx])⟩
end It
theorem RowAt.same {w w' : World} {b o : Nat} {l : List It} (h : RowAt w b o l) (hb : w'.heap[b]? = w.heap[b]?) : RowAt w' b o l := fun j x hx => by
  have e : ∀ i, w'.cell? ⟨b, i, none⟩ = w.cell? ⟨b, i, none⟩ := fun i => World.cell?_of_block (w := w) (a := ⟨b, i, none⟩) hb
  rw [e, e, e, e]
  exact h j x hx
/-- What a change of the world asks of the blocks of S, to leave items as they are. -/
def KeptS (S T : Nat → Prop) (w w' : World) : Prop := (∀ b, S b → b < w.heap.size → T b ∧ w'.heap[b]? = w.heap[b]?) ∧ w.heap.size ≤ w'.heap.size
theorem Lies.kept {w w' : World} {S T : Nat → Prop} {a : Option Addr} {l : List It} (h : Lies w S a l) (hk : KeptS S T w w') : Lies w' T a l := ⟨h.1, fun hl => by
  obtain ⟨b, o, ha, hb, hs, hr⟩ := h.2 hl
  obtain ⟨h1, h2⟩ := hk.1 b hs hb
  exact ⟨b, o, ha, Nat.lt_of_lt_of_le hb hk.2, h1, hr.same h2⟩⟩
mutual
theorem It.In.kept {w w' : World} {S T : Nat → Prop} (hk : KeptS S T w w') : ∀ x : It, x.In w S → x.In w' T
  | .mk _ _ _ _ _ l, h => ⟨h.1, h.2.1.kept hk, It.InAll.kept hk l h.2.2⟩
theorem It.InAll.kept {w w' : World} {S T : Nat → Prop} (hk : KeptS S T w w') : ∀ l : List It, It.InAll w S l → It.InAll w' T l
  | [], _ => trivial
  | x :: r, h => ⟨It.In.kept hk x h.1, It.InAll.kept hk r h.2⟩
end
theorem keptS_below {B : Nat} {w w' : World} (h : Below B w w') : KeptS (· < B) (· < B) w w' := ⟨fun b hb _ => ⟨hb, h.block b hb⟩, h.size⟩
theorem keptS_any {w w' : World} {S : Nat → Prop} (h : Below w.heap.size w w') : KeptS S S w w' := ⟨fun b hs hb => ⟨hs, h.block b hb⟩, h.size⟩
/-- The item at a place, and its four cells. -/
theorem Lies.at {w : World} {S : Nat → Prop} {a : Option Addr} {l : List It} (h : Lies w S a l) {j : Nat} (hj : j < l.length) : ∃ b o x, a = some ⟨b, o, none⟩ ∧ b < w.heap.size ∧ S b ∧ l[j]? = some x ∧ x ∈ l ∧ w.cell? ⟨b, o + j * 4, none⟩ = some (.int .i64 x.k) ∧ w.cell? ⟨b, o + j * 4 + 1, none⟩ = some (.int .i64 x.n) ∧ w.cell? ⟨b, o + j * 4 + 2, none⟩ = some (.string x.s) ∧ w.cell? ⟨b, o + j * 4 + 3, none⟩ = some (.slice x.a x.l.length x.cap) := by
  obtain ⟨b, o, ha, hb, hs, hr⟩ := h.2 (fun e => by subst e; exact absurd hj (by simp))
  obtain ⟨c1, c2, c3, c4⟩ := hr j l[j] (List.getElem?_eq_getElem hj)
  exact ⟨b, o, l[j], ha, hb, hs, List.getElem?_eq_getElem hj, List.getElem_mem hj, c1, c2, c3, c4⟩
/-- The type of items: four cells. -/
theorem info24 : (Tryz.prog.info? 60).map (fun i => (i.zero, i.size, i.bytes)) = some (some (.agg #[.int .i64 0, .int .i64 0, .string ⟨#[]⟩, .slice none 0 0]), 4, 56) := by kernel_rfl
end Go.Proofs.YtefpfedpgedloaaGreatDoor
