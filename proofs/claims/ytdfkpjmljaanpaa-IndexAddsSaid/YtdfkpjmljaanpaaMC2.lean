/- Merged by program: The contracts of three library functions (Len, String of strings.Builder; bits.Len), laid by the shelf at this program, in plain words. | strings.Builder in this program: copyCheck, WriteByte, WriteString. | putNum: a number's bytes go into the builder. | Items in memory: trees that know where their lists lie. | mayBe, Check: which items may be. -/
import Derived.Shelf.Strings.Builder1
import Derived.Shelf.Strings.BuilderF
import Derived.Shelf.Strings.BuilderK
import Derived.Test.YtdfkpjmljaanpaaBitsLen
import Derived.Test.YtdfkpjmljaanpaaMC1
import Derived.WalkKit
import Derived.Lib.Builder
import Derived.Lib.FrozenHead2
import Derived.Lib.OthersKept
import Derived.Lib.UnsafeStr
namespace Go.Proofs
open Go.Shelf
end Go.Proofs
namespace Go.Proofs.Ytdfkpjmljaanpaa
open Go.RowKit

set_option maxRecDepth 100000 in
theorem info_u8 : (Try.prog.info? 5).map (fun i => (i.zero, i.size, i.bytes)) = some (some (.int .u8 0), 1, 1) := by kernel_rfl

set_option maxRecDepth 100000 in
theorem byteCells_append (a b : List UInt8) : Lib.byteCells (a ++ b) = Lib.byteCells a ++ Lib.byteCells b := by simp [Lib.byteCells]
set_option maxRecDepth 100000 in
theorem byteCells_len (a : List UInt8) : (Lib.byteCells a).length = a.length := by simp [Lib.byteCells]
end Go.Proofs.Ytdfkpjmljaanpaa
namespace Go.Proofs.Ytdfkpjmljaanpaa
open Go.RowKit
open Cn

theorem byte_at (n m : Nat) : (n : Int) / 2 ^ (8 * (m - 1)) % 256 = ((UInt8.ofNat (n / 256 ^ (m - 1))).toNat : Int) := by
  rw [UInt8.toNat_ofNat', show (256 : Nat) ^ (m - 1) = 2 ^ (8 * (m - 1)) by rw [Nat.pow_mul]]
  rw [show (2 : Int) ^ (8 * (m - 1)) = ((2 ^ (8 * (m - 1)) : Nat) : Int) by rw [Int.natCast_pow]; rfl]
  generalize 2 ^ (8 * (m - 1)) = P
  rfl

end Go.Proofs.Ytdfkpjmljaanpaa
namespace Go.Proofs.Ytdfkpjmljaanpaa
open Go.RowKit
open Cn

/-- An item, and where its list lies (with what capacity). -/
inductive It where
  | mk (k n : Int) (s : ByteArray) (a : Option Addr) (cap : Nat) (l : List It)
namespace It
def k : It → Int | mk k _ _ _ _ _ => k
def n : It → Int | mk _ n _ _ _ _ => n
def s : It → ByteArray | mk _ _ s _ _ _ => s
def a : It → Option Addr | mk _ _ _ a _ _ => a
def cap : It → Nat | mk _ _ _ _ c _ => c
def l : It → List It | mk _ _ _ _ _ l => l
theorem eta : ∀ x : It, x = mk x.k x.n x.s x.a x.cap x.l | mk _ _ _ _ _ _ => rfl
/-- The list's value. -/
def lv (x : It) : Value := .slice x.a x.l.length x.cap
def cells (x : It) : Array Value := #[.int .i64 x.k, .int .i64 x.n, .string x.s, .slice x.a x.l.length x.cap]
def val (x : It) : Value := .agg x.cells
mutual
def pure : It → Pt
  | mk k n s _ _ l => .mk k n s (pureAll l)
def pureAll : List It → List Pt
  | [] => []
  | x :: r => pure x :: pureAll r
end
mutual
def sz : It → Nat
  | mk _ _ _ _ _ l => 1 + szAll l
def szAll : List It → Nat
  | [] => 0
  | x :: r => sz x + szAll r
end
theorem pureAll_eq : ∀ l, pureAll l = l.map pure
  | [] => rfl
  | x :: r => by rw [pureAll, pureAll_eq r]; rfl
theorem pureAll_length (l : List It) : (pureAll l).length = l.length := by rw [pureAll_eq, List.length_map]
theorem pure_eq (x : It) : x.pure = .mk x.k x.n x.s (pureAll x.l) := by cases x; rfl
theorem sz_eq (x : It) : x.sz = 1 + szAll x.l := by cases x; rfl
theorem sz_mem : ∀ {l : List It} {x : It}, x ∈ l → sz x ≤ szAll l
  | y :: r, x, h => by
    rw [szAll]
    rcases List.mem_cons.1 h with rfl | h
    · omega
    · have := sz_mem h; omega
theorem sz_lt {x y : It} (h : y ∈ x.l) : y.sz < x.sz := by rw [sz_eq x]; have := sz_mem h; omega
end It

/-- The cells of a list of items, from an address on. -/
def RowAt (w : World) (b o : Nat) (l : List It) : Prop := ∀ j x, l[j]? = some x → w.cell? ⟨b, o + j * 4, none⟩ = some (.int .i64 x.k) ∧ w.cell? ⟨b, o + j * 4 + 1, none⟩ = some (.int .i64 x.n) ∧ w.cell? ⟨b, o + j * 4 + 2, none⟩ = some (.string x.s) ∧ w.cell? ⟨b, o + j * 4 + 3, none⟩ = some (.slice x.a x.l.length x.cap)
/-- A list lies where it says (or is empty). -/
def Lies (w : World) (S : Nat → Prop) (a : Option Addr) (l : List It) : Prop := l.length ≤ maxLen ∧ (l ≠ [] → ∃ b o, a = some ⟨b, o, none⟩ ∧ b < w.heap.size ∧ S b ∧ RowAt w b o l)
namespace It
mutual
/-- An item's lists lie in memory, all of them in blocks of which S holds. -/
def In (w : World) (S : Nat → Prop) : It → Prop
  | mk _ _ s a _ l => s.size ≤ maxLen ∧ Lies w S a l ∧ InAll w S l
def InAll (w : World) (S : Nat → Prop) : List It → Prop
  | [] => True
  | x :: r => In w S x ∧ InAll w S r
end
theorem in_eq (w : World) (S : Nat → Prop) (x : It) : x.In w S = (x.s.size ≤ maxLen ∧ Lies w S x.a x.l ∧ InAll w S x.l) := by cases x; rfl
theorem inAll_mem {w : World} {S : Nat → Prop} : ∀ {l : List It}, InAll w S l → ∀ x ∈ l, x.In w S
  | y :: r, h, x, hx => by
    rcases List.mem_cons.1 hx with rfl | hx
    · exact h.1
    · exact inAll_mem h.2 x hx
theorem inAll_of {w : World} {S : Nat → Prop} : ∀ {l : List It}, (∀ x ∈ l, x.In w S) → InAll w S l
  | [], _ => trivial
  | y :: r, h => ⟨h y (by simp), inAll_of fun x hx => h x (by simp [hx])⟩
end It
theorem RowAt.same {w w' : World} {b o : Nat} {l : List It} (h : RowAt w b o l) (hb : w'.heap[b]? = w.heap[b]?) : RowAt w' b o l := fun j x hx => by
  have e : ∀ i, w'.cell? ⟨b, i, none⟩ = w.cell? ⟨b, i, none⟩ := fun i => World.cell?_of_block (w := w) (a := ⟨b, i, none⟩) hb
  rw [e, e, e, e]
  exact h j x hx
/-- What a change of the world asks of the blocks of S, to leave items as they are. -/
def KeptS (S T : Nat → Prop) (w w' : World) : Prop := (∀ b, S b → b < w.heap.size → T b ∧ w'.heap[b]? = w.heap[b]?) ∧ w.heap.size ≤ w'.heap.size
theorem Lies.kept {w w' : World} {S T : Nat → Prop} {a : Option Addr} {l : List It} (h : Lies w S a l) (hk : KeptS S T w w') : Lies w' T a l := ⟨h.1, fun hl => by
  obtain ⟨b, o, ha, hb, hs, hr⟩ := h.2 hl
  obtain ⟨h1, h2⟩ := hk.1 b hs hb
  exact ⟨b, o, ha, Nat.lt_of_lt_of_le hb hk.2, h1, hr.same h2⟩⟩
mutual
theorem It.In.kept {w w' : World} {S T : Nat → Prop} (hk : KeptS S T w w') : ∀ x : It, x.In w S → x.In w' T
  | .mk _ _ _ _ _ l, h => ⟨h.1, h.2.1.kept hk, It.InAll.kept hk l h.2.2⟩
theorem It.InAll.kept {w w' : World} {S T : Nat → Prop} (hk : KeptS S T w w') : ∀ l : List It, It.InAll w S l → It.InAll w' T l
  | [], _ => trivial
  | x :: r, h => ⟨It.In.kept hk x h.1, It.InAll.kept hk r h.2⟩
end
theorem keptS_below {B : Nat} {w w' : World} (h : Below B w w') : KeptS (· < B) (· < B) w w' := ⟨fun b hb _ => ⟨hb, h.block b hb⟩, h.size⟩
theorem keptS_any {w w' : World} {S : Nat → Prop} (h : Below w.heap.size w w') : KeptS S S w w' := ⟨fun b hs hb => ⟨hs, h.block b hb⟩, h.size⟩
/-- The item at a place, and its four cells. -/
theorem Lies.at {w : World} {S : Nat → Prop} {a : Option Addr} {l : List It} (h : Lies w S a l) {j : Nat} (hj : j < l.length) : ∃ b o x, a = some ⟨b, o, none⟩ ∧ b < w.heap.size ∧ S b ∧ l[j]? = some x ∧ x ∈ l ∧ w.cell? ⟨b, o + j * 4, none⟩ = some (.int .i64 x.k) ∧ w.cell? ⟨b, o + j * 4 + 1, none⟩ = some (.int .i64 x.n) ∧ w.cell? ⟨b, o + j * 4 + 2, none⟩ = some (.string x.s) ∧ w.cell? ⟨b, o + j * 4 + 3, none⟩ = some (.slice x.a x.l.length x.cap) := by
  obtain ⟨b, o, ha, hb, hs, hr⟩ := h.2 (fun e => by subst e; exact absurd hj (by simp))
  obtain ⟨c1, c2, c3, c4⟩ := hr j l[j] (List.getElem?_eq_getElem hj)
  exact ⟨b, o, l[j], ha, hb, hs, List.getElem?_eq_getElem hj, List.getElem_mem hj, c1, c2, c3, c4⟩
end Go.Proofs.Ytdfkpjmljaanpaa
namespace Go.Proofs.Ytdfkpjmljaanpaa
open Go.RowKit
open Cn

theorem ret_bool {a b : Bool} (h : a = b) : Ending.returned (.bool a) = .returned (.bool b) := by rw [h]
theorem c_toList_data (s : ByteArray) : s.toList = s.data.toList := ByteArray.toList_eq s
theorem toList_nil (s : ByteArray) : s.toList = [] ↔ s.size = 0 := by
  rw [c_toList_data]; exact ⟨fun h => by have := congrArg List.length h; simpa using this, fun h => List.eq_nil_of_length_eq_zero (by simpa using h)⟩
theorem mayAll_mem {d : Nat} : ∀ {l : List Pt}, mayAll l d = true → ∀ x ∈ l, may x d = true
  | y :: r, h, x, hx => by
    rw [mayAll, Bool.and_eq_true] at h
    rcases List.mem_cons.1 hx with rfl | hx
    · exact h.1
    · exact mayAll_mem h.2 x hx
theorem may1_eq (n : Int) (s : ByteArray) (l : List It) (d : Nat) : may (.mk 1 n s (It.pureAll l)) d = true ↔ (0 ≤ n ∧ n ≤ 72057594037927935 ∧ s.size = 0 ∧ l.length = 0) := by
  simp [may, It.pureAll_length, and_assoc]
theorem may2_eq (n : Int) (s : ByteArray) (l : List It) (d : Nat) : may (.mk 2 n s (It.pureAll l)) d = true ↔ (n = 0 ∧ s.size ≤ 65536 ∧ l.length = 0) := by
  simp [may, It.pureAll_length, and_assoc]
theorem may3_eq (n : Int) (s : ByteArray) (l : List It) (d : Nat) : may (.mk 3 n s (It.pureAll l)) d = true ↔ (n = 0 ∧ s.size = 0 ∧ l.length ≤ 1024 ∧ 0 < d ∧ mayAll (It.pureAll l) (d - 1) = true) := by
  simp [may, It.pureAll_length, and_assoc]
theorem may0_eq {k n : Int} {s : ByteArray} {l : List Pt} {d : Nat} (h1 : k ≠ 1) (h2 : k ≠ 2) (h3 : k ≠ 3) : may (.mk k n s l) d = false := by
  simp [may, h1, h2, h3]
end Go.Proofs.Ytdfkpjmljaanpaa
