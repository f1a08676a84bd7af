/- Merged by program: Slices of bytes that a call makes itself: append of one byte, the text they make. | Slices of bytes that a call makes itself: bytes read and stored one by one, made by make, a beginning as a text. | Lists of texts that come in. | Memory: whole rows, slices of arrays; no function of the program. | Rows of values in a block of their own. | append of whatever is appended (a text's bytes, too) to a row that the call owns. -/
import Derived.Test.YtnkkbinbeildmaaProg
import Derived.WalkKit
import Derived.Lib.Hide
import Derived.Deep.AppendLies
import Derived.Laws.OwnMore
import Derived.Laws.IdiomStrings
import Derived.ProofKit
import Derived.OpenShut
import Derived.SliceStrings
import Derived.Deep.MidRow
import Derived.Deep.AppendSrc
namespace Go.Proofs.Ytnkkbinbeildmaa
open Go.RowKit

/-- Bytes as a text. -/
def str (l : List UInt8) : ByteArray := ⟨l.toArray⟩
theorem str_data (l : List UInt8) : (str l).data.toList = l := rfl
theorem str_size (l : List UInt8) : (str l).size = l.length := rfl
theorem toList_data (s : ByteArray) : s.toList = s.data.toList := by
  obtain ⟨⟨l⟩⟩ := s
  simp
theorem str_of (s : ByteArray) : str s.data.toList = s := rfl
/-- The bytes as the model's numbers. -/
def nums (l : List UInt8) : List Int := l.map fun b => (b.toNat : Int)
theorem strOfNums_nums (l : List UInt8) : strOfNums (nums l) = str l := by
  have : (strOfNums (nums l)).data.toList = (str l).data.toList := by
    rw [strOfNums_data, str_data, nums, List.map_map]
    conv => rhs; rw [← List.map_id l]
    exact List.map_congr_left fun b _ => by simp
  cases h : strOfNums (nums l); cases h2 : str l
  simp_all [Array.ext_iff]
/-- Bytes as cells. -/
def bcells (l : List UInt8) : List Value := l.map fun b => Value.int .u8 (b.toNat : Int)
theorem bcells_length (l : List UInt8) : (bcells l).length = l.length := by simp [bcells]
theorem bcells_snoc (l : List UInt8) (c : UInt8) : bcells (l ++ [c]) = bcells l ++ [.int .u8 (c.toNat : Int)] := by simp [bcells]

theorem Try.info_byte : (Try.prog.info? 5).map (fun i => (i.zero, i.size, i.bytes)) = some (some (.int .u8 0), 1, 1) := by kernel_rfl

/-- A slice of bytes that the call made itself (in a block from B on), or nil: what it holds. -/
def OwnB (B : Nat) (w : World) (a : Option Addr) (cap : Nat) (l : List UInt8) : Prop :=
  w.ownsRow B 5 1 (.slice a l.length cap) l.length (bcells l)
theorem OwnB.nil (B : Nat) (w : World) : OwnB B w none 0 [] := World.ownsRow_nil _ _ _ _
theorem OwnB.drew {B : Nat} {w : World} {a : Option Addr} {cap : Nat} {l : List UInt8} (h : OwnB B w a cap l) : OwnB B w.drew a cap l := h
theorem OwnB.alloc {B : Nat} {w : World} {a : Option Addr} {cap : Nat} {l : List UInt8} (h : OwnB B w a cap l) (o : Obj) : OwnB B (w.alloc o) a cap l := World.ownsRow.alloc h o
theorem OwnB.size {B : Nat} {w : World} {g : Nat} {cap : Nat} {l : List UInt8} (h : OwnB B w (some ⟨g, 0, none⟩) cap l) : B ≤ g ∧ g < w.heap.size := World.ownsRow.lt h g rfl
theorem OwnB.call {B : Nat} {w w' : World} {a : Option Addr} {cap : Nat} {l : List UInt8} (h : OwnB B w a cap l) (hb : Below w.heap.size w w') : OwnB B w' a cap l := by
  obtain ⟨h1, h2⟩ := h
  refine ⟨h1, ?_⟩
  rcases h2 with h2 | ⟨g, c, cur, e, hB, hg, h3⟩
  · exact .inl h2
  · exact .inr ⟨g, c, cur, e, hB, (hb.block g (Array.getElem?_eq_some_iff.1 hg).1).trans hg, h3⟩
set_option maxRecDepth 100000 in
theorem OwnB.conv {B : Nat} {w : World} {a : Option Addr} {cap : Nat} {l : List UInt8} (h : OwnB B w a cap l) :
    (convert 139 9 (.slice a l.length cap)).run Try.prog w = .ok (.string (str l)) w := by
  rcases h.2 with ⟨e, hn⟩ | ⟨g, c, cur, e, hB, hg, hn, hc, hs, ht⟩
  · injection e with e1 e2 e3
    subst e1
    rw [run_convert_bytes_nil w 139 5 Try.underlying139 Try.underlying5 _ _ 9 Try.underlying9, List.length_eq_zero_iff.1 hn]
    rfl
  · injection e with e1 e2 e3
    subst e1 e3
    rw [← strOfNums_nums]
    refine run_convert_bytes_arg (P := Try.prog) w 139 5 Try.underlying139 Try.underlying5 g 0 l.length cap (nums l) (by simp [nums]) (fun j hj => ?_) 9 Try.underlying9
    have := World.ownsRow.cellAt h j (by simpa using hj)
    rw [Nat.zero_add, this]
    simp [bcells, nums, List.getD_eq_getElem?_getD, hj]
theorem OwnB.below {B : Nat} {w w' : World} {v : Value} {n : Nat} {xs : List Value} {w0 : World} (h : w.ownsRow B 5 1 v n xs) (hg : w.grownBy w' v.ownBlock) (hB : B ≤ w.heap.size) (hb : Below B w0 w) : Below B w0 w' :=
  hb.grown hg hB (fun k hk => (World.ownsRow.lt h k hk).1)

theorem cell_new (w : World) (v : Value) (t : TypeId) : (w.alloc (.cells #[v] t)).cell? ⟨w.heap.size, 0, none⟩ = some v := by
  rw [cell_of_row _ _ _ _ _ _ (heap_alloc_new _ _)]; rfl
/-- append of one byte. -/
theorem wpList_append_byte {ops : Array Oper} {rest : List Oper} {o : Oper} {act : Act} {Q : Exit → Act → World → Prop} {w w0 : World} (hgd : o.guard = none) (s x : Operand)
    (ho : o.op = .call { callee := .builtin .append, args := #[s, x], argTypes := #[139, 139] })
    {B : Nat} {a : Option Addr} {cap : Nat} {l : List UInt8} (hown : OwnB B w a cap l) (hs : act.eval s = .slice a l.length cap)
    (g c' : Nat) (c : UInt8) (hx : act.eval x = .slice (some ⟨g, 0, none⟩) 1 c') (hc : w.cell? ⟨g, 0, none⟩ = some (.int .u8 (c.toNat : Int)))
    (hlen : l.length < 70368744177664) (hbase : B ≤ w.heap.size) (hb0 : Below B w0 w)
    (h : ∀ g cap w', OwnB B w' (some ⟨g, 0, none⟩) cap (l ++ [c]) → Below B w0 w' → wpList Try.prog ops Q rest (act.put o.dst (.slice (some ⟨g, 0, none⟩) (l.length + 1) cap)) w') : wpList Try.prog ops Q (o :: rest) act w := by
  obtain ⟨i0, hi0, hz0, hz1, hz2⟩ := info_parts Try.info_byte
  refine wpList_append_lies w hgd s x 139 ho B 5 i0 _ 1 1 Try.underlying139 hi0 hz0 hz1 hz2 rfl (by decide) (.slice a l.length cap) l.length (bcells l) hs hown ⟨g, 0, none⟩ 1 c' [.int .u8 (c.toNat : Int)] hx rfl
    (fun j u hj => ?_) (by simp [Value.oneCell']) (by decide) (by unfold maxLen; omega) (by omega) hbase w.heap.size rfl (fun g cap w' h1 h2 _ _ => h g cap w' ?_ ?_)
  · match j, hj with
    | 0, hj =>
      simp at hj
      subst hj
      rw [show (⟨g, 0, none⟩ : Addr).add 0 = ⟨g, 0, none⟩ from by simp [Addr.add]]
      exact hc
  · unfold OwnB
    rw [bcells_snoc, List.length_append]; exact h1
  · exact OwnB.below hown h2 hbase hb0
theorem wpList_append_byte' {ops : Array Oper} {rest : List Oper} {o : Oper} {act : Act} {Q : Exit → Act → World → Prop} {w w0 : World} (hgd : o.guard = none) (s x : Operand)
    (ho : o.op = .call { callee := .builtin .append, args := #[s, x], argTypes := #[139, 139] })
    {B : Nat} {a : Option Addr} {cap : Nat} {l : List UInt8} (hown : OwnB B w a cap l) (n : Nat) (hn : l.length = n) (hs : act.eval s = .slice a n cap)
    (g c' : Nat) (c : UInt8) (hx : act.eval x = .slice (some ⟨g, 0, none⟩) 1 c') (hc : w.cell? ⟨g, 0, none⟩ = some (.int .u8 (c.toNat : Int)))
    (hlen : n < 70368744177664) (hbase : B ≤ w.heap.size) (hb0 : Below B w0 w)
    (h : ∀ g cap w', OwnB B w' (some ⟨g, 0, none⟩) cap (l ++ [c]) → Below B w0 w' → wpList Try.prog ops Q rest (act.put o.dst (.slice (some ⟨g, 0, none⟩) (n + 1) cap)) w') : wpList Try.prog ops Q (o :: rest) act w := by
  subst hn
  exact wpList_append_byte hgd s x ho hown hs g c' c hx hc hlen hbase hb0 h
/-- append of one byte, at a step of a region that draws its order. -/
theorem step_append_byte {ops : Array Oper} {o : Oper} {act : Act} {K : Act → World → Prop} {Q : Exit → Act → World → Prop} {E : Prop} {w w0 : World} (hgd : o.guard = none) (s x : Operand)
    (ho : o.op = .call { callee := .builtin .append, args := #[s, x], argTypes := #[139, 139] })
    {B : Nat} {a : Option Addr} {cap : Nat} {l : List UInt8} (hown : OwnB B w a cap l) (n : Nat) (hn : l.length = n) (hs : act.eval s = .slice a n cap)
    (g c' : Nat) (c : UInt8) (hx : act.eval x = .slice (some ⟨g, 0, none⟩) 1 c') (hc : w.cell? ⟨g, 0, none⟩ = some (.int .u8 (c.toNat : Int)))
    (hlen : n < 70368744177664) (hbase : B ≤ w.heap.size) (hb0 : Below B w0 w)
    (h : ∀ g cap w', OwnB B w' (some ⟨g, 0, none⟩) cap (l ++ [c]) → Below B w0 w' → K (act.put o.dst (.slice (some ⟨g, 0, none⟩) (n + 1) cap)) w') :
    if Region.wanted o (yielded ops act.tmps) = true then Oper.wp Try.prog o act w K Q else E := by
  subst hn
  obtain ⟨i0, hi0, hz0, hz1, hz2⟩ := info_parts Try.info_byte
  refine step_append_lies w hgd s x 139 ho B 5 i0 _ 1 1 Try.underlying139 hi0 hz0 hz1 hz2 rfl (by decide) (.slice a l.length cap) l.length (bcells l) hs hown ⟨g, 0, none⟩ 1 c' [.int .u8 (c.toNat : Int)] hx rfl
    (fun j u hj => ?_) (by simp [Value.oneCell']) (by decide) (by unfold maxLen; omega) (by omega) hbase w.heap.size rfl (fun g cap w' h1 h2 _ _ => h g cap w' ?_ ?_)
  · match j, hj with
    | 0, hj =>
      simp at hj
      subst hj
      rw [show (⟨g, 0, none⟩ : Addr).add 0 = ⟨g, 0, none⟩ from by simp [Addr.add]]
      exact hc
  · unfold OwnB
    rw [bcells_snoc, List.length_append]; exact h1
  · exact OwnB.below hown h2 hbase hb0
/-- A block from B on whose first cells are the bytes l, and may be written. -/
def Row8 (B : Nat) (w : World) (g : Nat) (l : List UInt8) : Prop :=
  B ≤ g ∧ g < w.heap.size ∧ ∀ i, i < l.length → w.cell? ⟨g, i, none⟩ = some (.int .u8 ((l.getD i 0).toNat : Int)) ∧ w.frozen? ⟨g, i, none⟩ = false
theorem Row8.call {B : Nat} {w w' : World} {g : Nat} {l : List UInt8} (h : Row8 B w g l) (hb : Below w.heap.size w w') : Row8 B w' g l :=
  ⟨h.1, Nat.lt_of_lt_of_le h.2.1 hb.size, fun i hi => ⟨by rw [hb.cell (p := ⟨g, i, none⟩) h.2.1]; exact (h.2.2 i hi).1, by rw [hb.frozen (p := ⟨g, i, none⟩) h.2.1]; exact (h.2.2 i hi).2⟩⟩
theorem Row8.drew {B : Nat} {w : World} {g : Nat} {l : List UInt8} (h : Row8 B w g l) : Row8 B w.drew g l := h
theorem Row8.conv {B : Nat} {w : World} {g : Nat} {l : List UInt8} (h : Row8 B w g l) (n : Nat) (hn : l.length = n) (cap : Nat) :
    (convert 139 9 (.slice (some ⟨g, 0, none⟩) n cap)).run Try.prog w = .ok (.string (str l)) w := by
  subst hn
  rw [← strOfNums_nums]
  refine run_convert_bytes_arg (P := Try.prog) w 139 5 Try.underlying139 Try.underlying5 g 0 l.length cap (nums l) (by simp [nums]) (fun j hj => ?_) 9 Try.underlying9
  rw [Nat.zero_add, (h.2.2 j hj).1]
  simp [nums, List.getD_eq_getElem?_getD, hj]
theorem Row8.put {B : Nat} {w : World} {g : Nat} {l l' : List UInt8} (h : Row8 B w g l) (j : Nat) (hj : j < l.length) (c : UInt8) (hl : l'.length = l.length) (hc : l'.getD j 0 = c) (ho : ∀ i, i < l.length → i ≠ j → l'.getD i 0 = l.getD i 0) :
    Row8 B (w.setCell ⟨g, j, none⟩ (.int .u8 (c.toNat : Int))) g l' := by
  refine ⟨h.1, by simpa using h.2.1, fun i hi => ?_⟩
  rw [hl] at hi
  constructor
  · by_cases e : i = j
    · subst e; rw [hc]; exact World.cell?_setCell_same _ _ _ (h.2.2 i hi).1
    · rw [ho i hi e, World.cell?_setCell_other (h := by intro e2; injection e2 with _ e3 _; exact e e3.symm)]; exact (h.2.2 i hi).1
  · rw [World.frozen?_setCell]; exact (h.2.2 i hi).2
/-- What a text's bytes are laid into. -/
theorem conv_bytes (w : World) (s : ByteArray) : ∃ cap w', (convert 9 139 (.string s)).run Try.prog w = .ok (.slice (some ⟨w.heap.size, 0, none⟩) s.size cap) w' ∧ Row8 w.heap.size w' w.heap.size s.data.toList ∧ Below w.heap.size w w' ∧ w'.heap.size = w.heap.size + 1 := by
  refine ⟨_, _, run_bytes_of_string w 9 139 5 s Try.underlying9 Try.underlying139 Try.underlying5, ⟨Nat.le_refl _, by simp, fun i hi => ?_⟩, ?_, by simp⟩
  · have hi' : i < s.size := by simpa using hi
    have hg : (w.drew.alloc (.cells (bytesRow s (grownCap w s.size 0 5)) 5 ((bytesRow s (grownCap w s.size 0 5)).size, (bytesRow s (grownCap w s.size 0 5)).size + 1))).heap[w.heap.size]? = some _ := heap_alloc_new w.drew _
    constructor
    · rw [cell_of_row _ _ _ _ _ _ hg]
      unfold bytesRow
      rw [Array.getElem?_append_left (by simpa using hi')]
      simp [List.getD_eq_getElem?_getD, hi']
    · unfold World.frozen?
      rw [hg]
      have : s.size ≤ (bytesRow s (grownCap w s.size 0 5)).size := by unfold bytesRow; rw [Array.size_append, Array.size_map]; exact Nat.le_add_right _ _
      simp
      omega
  · exact ((Below.refl _ _).drew).alloc (by simp) _
end Go.Proofs.Ytnkkbinbeildmaa
namespace Go.Proofs.Ytnkkbinbeildmaa
open Go.RowKit

theorem make_bytes (w : World) (n : Nat) (hn : n ≤ 1000000) : ∃ w', (Instr.makeSlice 139 (.int .i64 (n : Int)) (.int .i64 (n : Int))).run Try.prog w = .ok (.slice (some ⟨w.heap.size, 0, none⟩) n n) w' ∧ OwnB w.heap.size w' (some ⟨w.heap.size, 0, none⟩) n (List.replicate n 0) ∧ Below w.heap.size w w' := by
  obtain ⟨i0, hi0, hz0, hz1, hz2⟩ := info_parts Try.info_byte
  obtain ⟨w', h1, h2, h3⟩ := run_makeSlice_full (P := Try.prog) w w.heap.size 139 5 i0 (.int .u8 0) 1 Try.underlying139 hi0 hz0 hz1 .i64 .i64 n (by omega) (by rw [hz2]; omega) (by unfold maxLen; omega) (Nat.le_refl _)
  refine ⟨w', h1, ?_, (Below.refl _ _).grown h3 (Nat.le_refl _) (fun k hk => by cases hk)⟩
  unfold OwnB
  rw [List.length_replicate]
  have e : bcells (List.replicate n 0) = (madeCells (Value.int IntKind.u8 0).cells (n * 1)).toList := by
    simp only [bcells, madeCells, Value.cells, List.map_replicate, Nat.mul_one]
    apply List.ext_getElem?
    intro i
    by_cases hi : i < n
    · simp [hi, Nat.mod_one]
    · simp [hi]
  rw [e]; exact h2
/-- A byte that the call may write. -/
theorem OwnB.cellAt {B : Nat} {w : World} {g cap : Nat} {l : List UInt8} (h : OwnB B w (some ⟨g, 0, none⟩) cap l) (j : Nat) (hj : j < l.length) : w.cell? ⟨g, j, none⟩ = some (.int .u8 ((l.getD j 0).toNat : Int)) := by
  rw [World.ownsRow.cellAt h j (by omega)]
  simp [bcells, List.getD_eq_getElem?_getD, hj]
theorem OwnB.frozenAt {B : Nat} {w : World} {g cap : Nat} {l : List UInt8} (h : OwnB B w (some ⟨g, 0, none⟩) cap l) (j : Nat) : w.frozen? ⟨g, j, none⟩ = false := World.ownsRow.frozenAt h j
theorem bcells_set (l : List UInt8) (j : Nat) (c : UInt8) : bcells (l.set j c) = (bcells l).set j (.int .u8 (c.toNat : Int)) := by
  simp [bcells, List.map_set]
theorem OwnB.put {B : Nat} {w : World} {g cap : Nat} {l : List UInt8} (h : OwnB B w (some ⟨g, 0, none⟩) cap l) (j : Nat) (c : UInt8) :
    OwnB B (w.setCell ⟨g, j, none⟩ (.int .u8 (c.toNat : Int))) (some ⟨g, 0, none⟩) cap (l.set j c) := by
  unfold OwnB
  rw [List.length_set, bcells_set]
  exact (World.ownsRow.stored h j _).1

theorem wp_conv_take {B : Nat} {w : World} {g cap : Nat} {l : List UInt8} (h : OwnB B w (some ⟨g, 0, none⟩) cap l) (n : Nat) (hn : n ≤ l.length) :
    (convert 139 9 (.slice (some ⟨g, 0, none⟩) n cap)).run Try.prog w = .ok (.string (str (l.take n))) w := by
  rw [← strOfNums_nums]
  refine run_convert_bytes_arg (P := Try.prog) w 139 5 Try.underlying139 Try.underlying5 g 0 n cap (nums (l.take n)) (by simp [nums]; omega) (fun j hj => ?_) 9 Try.underlying9
  rw [Nat.zero_add, h.cellAt j (by omega)]
  have : j < l.length := by omega
  simp [nums, List.getD_eq_getElem?_getD, hj, this]

/-- append of the bytes of an array. -/
theorem wpList_append_bytes {ops : Array Oper} {rest : List Oper} {o : Oper} {act : Act} {Q : Exit → Act → World → Prop} {w w0 : World} (hgd : o.guard = none) (s x : Operand)
    (ho : o.op = .call { callee := .builtin .append, args := #[s, x], argTypes := #[139, 139] })
    {B : Nat} {a : Option Addr} {cap : Nat} {l : List UInt8} (hown : OwnB B w a cap l) (n : Nat) (hn : l.length = n) (hs : act.eval s = .slice a n cap)
    (g c' m : Nat) (c : List UInt8) (hx : act.eval x = .slice (some ⟨g, 0, none⟩) m c') (hm : c.length = m) (hm0 : 0 < m) (hc : ∀ j, j < m → w.cell? ⟨g, j, none⟩ = some (.int .u8 ((c.getD j 0).toNat : Int)))
    (hlen : n + m < 70368744177664) (hbase : B ≤ w.heap.size) (hb0 : Below B w0 w)
    (h : ∀ g cap w', OwnB B w' (some ⟨g, 0, none⟩) cap (l ++ c) → Below B w0 w' → wpList Try.prog ops Q rest (act.put o.dst (.slice (some ⟨g, 0, none⟩) (n + m) cap)) w') : wpList Try.prog ops Q (o :: rest) act w := by
  subst hn hm
  obtain ⟨i0, hi0, hz0, hz1, hz2⟩ := info_parts Try.info_byte
  refine wpList_append_lies w hgd s x 139 ho B 5 i0 _ 1 1 Try.underlying139 hi0 hz0 hz1 hz2 rfl (by decide) (.slice a l.length cap) l.length (bcells l) hs hown ⟨g, 0, none⟩ c.length c' (bcells c) hx (by simp [bcells])
    (fun j u hj => ?_) (fun u hu => by simp only [bcells, List.mem_map] at hu; obtain ⟨b, _, rfl⟩ := hu; rfl) hm0 (by unfold maxLen; omega) (by omega) hbase w.heap.size rfl (fun g cap w' h1 h2 _ _ => h g cap w' ?_ ?_)
  · have hj' : j < c.length := by
      have := (List.getElem?_eq_some_iff.1 hj).1
      simpa [bcells] using this
    rw [show (⟨g, 0, none⟩ : Addr).add j = ⟨g, j, none⟩ from by unfold Addr.add; split <;> simp_all, hc j hj']
    rw [← hj]
    simp [bcells, List.getD_eq_getElem?_getD, hj']
  · unfold OwnB
    rw [show bcells (l ++ c) = bcells l ++ bcells c from by simp [bcells], List.length_append]; exact h1
  · exact OwnB.below hown h2 hbase hb0
/-- make of no byte, with room. -/
theorem make_room (w : World) (n : Nat) (hn : n ≤ 1000000) : ∃ w', (Instr.makeSlice 139 (.int .i64 0) (.int .i64 (n : Int))).run Try.prog w = .ok (.slice (some ⟨w.heap.size, 0, none⟩) 0 n) w' ∧ OwnB w.heap.size w' (some ⟨w.heap.size, 0, none⟩) n [] ∧ Below w.heap.size w w' := by
  obtain ⟨i0, hi0, hz0, hz1, hz2⟩ := info_parts Try.info_byte
  obtain ⟨w', h1, h2, h3⟩ := run_makeSlice_owned (P := Try.prog) w w.heap.size 139 5 i0 (.int .u8 0) 1 Try.underlying139 hi0 hz0 hz1 .i64 .i64 n (by omega) (by rw [hz2]; omega) (by unfold maxLen; omega) (Nat.le_refl _)
  exact ⟨w', h1, h2, (Below.refl _ _).grown h3 (Nat.le_refl _) (fun k hk => by cases hk)⟩
end Go.Proofs.Ytnkkbinbeildmaa
namespace Go.Proofs.Ytnkkbinbeildmaa
open Go.RowKit

/-- The texts of a slice, in memory. -/
def TextsAt (w : World) (a0 : Option Addr) (ss : List ByteArray) : Prop :=
  ∀ j, j < ss.length → ∃ b off, a0 = some ⟨b, off, none⟩ ∧ b < w.heap.size ∧ w.cell? ⟨b, off + j, none⟩ = some (.string (ss.getD j ByteArray.empty))
theorem TextsAt.below {w w' : World} {a0 : Option Addr} {ss : List ByteArray} (h : TextsAt w a0 ss) (hb : Below w.heap.size w w') : TextsAt w' a0 ss := fun j hj => by
  obtain ⟨b, off, rfl, hbl, hc⟩ := h j hj
  exact ⟨b, off, rfl, Nat.lt_of_lt_of_le hbl hb.size, by rw [hb.cell (p := ⟨b, off + j, none⟩) hbl]; exact hc⟩
theorem cellsStr : Try.prog.cellsOf 9 = 1 := by kernel_rfl
theorem laidOut : laidOutB Try.prog = true := by kernel_rfl
/-- The texts of a slice that came in. -/
theorem texts_of {W : World} {a0 : Option Addr} {len cap : Nat} {H : Type} {enc : TypeId × Value → H} {d : DataW H} {p : List MemPlace} {fuel : Nat}
    (hf : DataW.trod enc Try.prog W 0 (fun _ => true) true fuel 86 [.slice a0 len cap] = some (d, p)) (hlt : ∀ x ∈ p, x.block < W.heap.size) :
    ∃ ss : List ByteArray, ss.length = len ∧ len ≤ maxLen ∧ TextsAt W a0 ss := by
  rcases Go.ChangeShapes.open_strings Try.underlying86 Try.underlying9 cellsStr hf with ⟨hcs, hx⟩ | ⟨a, len', cap', ss, hcs, _, hl, hm, hz, hx, hcell, hws⟩
  · simp at hcs
    obtain ⟨rfl, rfl, rfl⟩ := hcs
    exact ⟨[], rfl, by decide, fun j hj => absurd hj (by simp)⟩
  · simp at hcs
    obtain ⟨rfl, rfl, rfl⟩ := hcs
    simp only [Prod.mk.injEq] at hx
    obtain ⟨_, rfl⟩ := hx
    simp only [if_true] at hz
    refine ⟨ss.take len, by rw [List.length_take]; omega, by omega, fun j hj => ?_⟩
    rw [List.length_take] at hj
    obtain ⟨b, off, spot⟩ := a
    have hspot : spot = none := by simpa [Addr.add] using World.cell?_spot (hcell 0 (by omega))
    subst hspot
    refine ⟨b, off, rfl, hlt (.cell b off) (MemPlace.mem_row.2 ⟨0, by omega, by simp⟩), ?_⟩
    have := hcell j (by omega)
    rw [show (⟨b, off + j, none⟩ : Addr) = (⟨b, off, none⟩ : Addr).add j from (Go.WideShapes.add_plain b off j).symm, this, List.getD_eq_getElem?_getD, List.getD_eq_getElem?_getD, List.getElem?_take, if_pos (by omega)]
theorem data_append (a b : ByteArray) : (a ++ b).data.toList = a.data.toList ++ b.data.toList := by simp
end Go.Proofs.Ytnkkbinbeildmaa
namespace Go.Proofs.Ytnkkbinbeildmaa
open Go.RowKit

section
variable {P : Program}
/-- A whole array into the block that it fills, at the list of a plain region's operations. -/
theorem wpList_store_row {ops : Array Oper} {rest : List Oper} {o : Oper} {a : Act} {w : World} {Q : Exit → Act → World → Prop} (hgd : o.guard = none) (ty : TypeId) (x y : Operand) (ho : o.op = .store ty x y)
    (g : Nat) (hx : a.eval x = .pointer (some ⟨g, 0, none⟩)) (t : TypeId) (old cells : Array Value) (hy : a.eval y = .agg cells) (hg : w.heap[g]? = some (.cells old t (0, 0)))
    (hi : (P.info? ty).map (·.size) = some cells.size) (hold : old.size = cells.size) (h1 : cells.all (·.oneCell') = true)
    (h : wpList P ops Q rest (a.put o.dst undef) (w.setRow g cells)) : wpList P ops Q (o :: rest) a w :=
  wpList_plain hgd fun _ hK => by
    unfold Oper.wp execOp
    simp only [ho, hx, hy, Instr.storeAt, Instr.sureAddr, Sem.run_bind, Sem.run_pure, Result.andThen_ok, run_storeVar_row w g t ty old cells hg hi hold h1]
    exact hK _ _ h
/-- A slice of an array of one-cell elements, with both bounds. -/
theorem run_sliceAt_lh {T E N : Nat} (hu : P.underlying T = some (.array N E)) (hs : (P.info? E).map (·.size) = some 1) (b o l h : Nat) (hl : l ≤ h) (hh : h ≤ N) (hN : l < N) (W : World) :
    (Instr.sliceAt T (.pointer (some ⟨b, o, none⟩)) (some (.int .i64 l)) (some (.int .i64 h)) none).run P W = .ok (.slice (some ⟨b, o + l, none⟩) (h - l) (N - l)) W := by
  have hA : P.arrayLen T = N := by simp [Program.arrayLen, hu]
  have hE : P.elem T = E := by simp [Program.elem, hu]
  have hu' : P.underlying T = some (.array (P.arrayLen T) (P.elem T)) := by rw [hA, hE]; exact hu
  rw [run_sliceAt_array_lh W T ⟨b, o, none⟩ hu' .i64 .i64 l h (by omega) (by omega) (by rw [hA]; omega), hA, hE]
  cases hq : P.info? E with
  | none => simp [hq] at hs
  | some i =>
    have hi : i.size = 1 := by simpa [hq] using hs
    have hadd : (⟨b, o, none⟩ : Addr).add l = ⟨b, o + l, none⟩ := Addr.add_mid b o l
    simp [sizeOf, typeInfo, hq, hi, slicedAt, hadd]
    omega
theorem run_sliceAt_h {T E N : Nat} (hu : P.underlying T = some (.array N E)) (hs : (P.info? E).map (·.size) = some 1) (b o h : Nat) (hh : h ≤ N) (W : World) :
    (Instr.sliceAt T (.pointer (some ⟨b, o, none⟩)) none (some (.int .i64 h)) none).run P W = .ok (.slice (some ⟨b, o, none⟩) h N) W := by
  have hA : P.arrayLen T = N := by simp [Program.arrayLen, hu]
  have hE : P.elem T = E := by simp [Program.elem, hu]
  have hu' : P.underlying T = some (.array (P.arrayLen T) (P.elem T)) := by rw [hA, hE]; exact hu
  rw [run_sliceAt_array_h W T ⟨b, o, none⟩ hu' .i64 h (by omega) (by rw [hA]; omega), hA, hE]
  cases hq : P.info? E with
  | none => simp [hq] at hs
  | some i =>
    have hi : i.size = 1 := by simpa [hq] using hs
    have hadd : (⟨b, o, none⟩ : Addr).add 0 = ⟨b, o, none⟩ := Addr.add_mid b o 0
    simp [sizeOf, typeInfo, hq, hi, slicedAt, hadd]
theorem run_sliceAt_l {T E N : Nat} (hu : P.underlying T = some (.array N E)) (hs : (P.info? E).map (·.size) = some 1) (b o l : Nat) (hN : l < N) (W : World) :
    (Instr.sliceAt T (.pointer (some ⟨b, o, none⟩)) (some (.int .i64 l)) none none).run P W = .ok (.slice (some ⟨b, o + l, none⟩) (N - l) (N - l)) W := by
  have hA : P.arrayLen T = N := by simp [Program.arrayLen, hu]
  have hE : P.elem T = E := by simp [Program.elem, hu]
  have hu' : P.underlying T = some (.array (P.arrayLen T) (P.elem T)) := by rw [hA, hE]; exact hu
  rw [run_sliceAt_array_l W T ⟨b, o, none⟩ hu' .i64 l (by omega) (by rw [hA]; omega), hA, hE]
  cases hq : P.info? E with
  | none => simp [hq] at hs
  | some i =>
    have hi : i.size = 1 := by simpa [hq] using hs
    have hadd : (⟨b, o, none⟩ : Addr).add l = ⟨b, o + l, none⟩ := Addr.add_mid b o l
    simp [sizeOf, typeInfo, hq, hi, slicedAt, hadd]
    omega
end
theorem below_setRow {B : Nat} {a w : World} (h : Below B a w) (g : Nat) (cs : Array Value) (hg : B ≤ g) : Below B a (w.setRow g cs) :=
  h.trans ⟨rfl, rfl, rfl, by simp, fun k hk => setRow_other w g k cs (by omega)⟩

theorem heap_alloc3 (w : World) (A B C : Obj) :
    (((w.alloc A).alloc B).alloc C).heap[w.heap.size]? = some A ∧ (((w.alloc A).alloc B).alloc C).heap[w.heap.size + 1]? = some B ∧ (((w.alloc A).alloc B).alloc C).heap[w.heap.size + 1 + 1]? = some C ∧
    (((w.alloc A).alloc B).alloc C).heap.size = w.heap.size + 3 ∧ Below w.heap.size w (((w.alloc A).alloc B).alloc C) := by
  have s1 : (w.alloc A).heap.size = w.heap.size + 1 := by simp
  have s2 : ((w.alloc A).alloc B).heap.size = w.heap.size + 1 + 1 := by simp
  refine ⟨?_, ?_, ?_, by simp, (((Below.refl _ _).alloc (Nat.le_refl _) _).alloc (by simp) _).alloc (by simp; omega) _⟩
  · rw [Below.heap_alloc _ _ _ (by simp only [s2]; omega)]; exact heap_alloc2_old w A B
  · rw [Below.heap_alloc _ _ _ (by simp only [s2]; omega)]; exact heap_alloc2_new w A B
  · have := heap_alloc_new ((w.alloc A).alloc B) C; rwa [s2] at this
theorem below_trans' {B : Nat} {A X Y : World} (h : Below B A X) (k : Below X.heap.size X Y) (hB : B ≤ X.heap.size) : Below B A Y := h.trans (k.mono hB)
end Go.Proofs.Ytnkkbinbeildmaa
namespace Go.Proofs.Ytnkkbinbeildmaa
open Go.RowKit

/-- A row of values lies in block g. -/
def RowV (t : TypeId) (w : World) (g : Nat) (l : List Value) : Prop := w.heap[g]? = some (.cells l.toArray t (0, 0))
theorem RowV.lt {t : TypeId} {w : World} {g : Nat} {l : List Value} (h : RowV t w g l) : g < w.heap.size := (Array.getElem?_eq_some_iff.1 h).1
theorem RowV.call {t : TypeId} {w w' : World} {g : Nat} {l : List Value} (h : RowV t w g l) (hb : Below w.heap.size w w') : RowV t w' g l := (hb.block g h.lt).trans h
theorem RowV.drew {t : TypeId} {w : World} {g : Nat} {l : List Value} (h : RowV t w g l) : RowV t w.drew g l := h
theorem RowV.alloc {t : TypeId} {w : World} {g : Nat} {l : List Value} (h : RowV t w g l) (o : Obj) : RowV t (w.alloc o) g l := h.call ((Below.refl _ _).alloc (Nat.le_refl _) o)
theorem RowV.cell {t : TypeId} {w : World} {g : Nat} {l : List Value} (h : RowV t w g l) (i : Nat) (v : Value) (hv : l[i]? = some v) : w.cell? ⟨g, i, none⟩ = some v := by
  rw [cell_of_row _ _ _ _ _ _ h]; simpa using hv
theorem RowV.frozen {t : TypeId} {w : World} {g : Nat} {l : List Value} (h : RowV t w g l) (i : Nat) : w.frozen? ⟨g, i, none⟩ = false := frozen_of_row _ _ _ _ _ h
theorem RowV.put {t : TypeId} {w : World} {g : Nat} {l : List Value} (h : RowV t w g l) (i : Nat) (x : Value) : RowV t (w.setCell ⟨g, i, none⟩ x) g (l.set i x) := by
  unfold RowV
  rw [show (l.set i x).toArray = l.toArray.setIfInBounds i x by simp]
  exact heap_setCell_same _ _ _ _ _ _ h
theorem RowV.other {t : TypeId} {w : World} {g : Nat} {l : List Value} (h : RowV t w g l) (a : Addr) (v : Value) (ha : a.block ≠ g) : RowV t (w.setCell a v) g l := by
  unfold RowV; rw [heap_setCell_other _ _ _ _ (fun e => ha e.symm)]; exact h
end Go.Proofs.Ytnkkbinbeildmaa
namespace Go.Proofs.Ytnkkbinbeildmaa
open Go.RowKit

theorem heap_setCells (b : Nat) (t : TypeId) : ∀ (vs : List Value) (o : Nat) (w : World) (c : Array Value), w.heap[b]? = some (.cells c t (0, 0)) → o + vs.length ≤ c.size →
    ∃ c' : Array Value, (w.setCells b o vs).heap[b]? = some (.cells c' t (0, 0)) ∧ c'.size = c.size ∧ ∀ i, c'[i]? = if o ≤ i ∧ i < o + vs.length then vs[i - o]? else c[i]?
  | [], o, w, c, h, _ => ⟨c, h, rfl, fun i => by rw [if_neg (by simp)]⟩
  | v :: r, o, w, c, h, hl => by
    obtain ⟨c', h1, h2, h3⟩ := heap_setCells b t r (o + 1) (w.setCell ⟨b, o, none⟩ v) _ (heap_setCell_same _ _ _ _ _ _ h) (by simp at hl ⊢; omega)
    refine ⟨c', h1, by simpa using h2, fun i => ?_⟩
    rw [h3, Array.getElem?_setIfInBounds]
    simp only [List.length_cons] at hl ⊢
    by_cases e : o = i
    · subst e; rw [if_neg (by omega), if_pos rfl, if_pos (by omega), if_pos (by omega)]; simp
    · by_cases e2 : o + 1 ≤ i ∧ i < o + 1 + r.length
      · rw [if_pos e2, if_pos (by omega), show i - o = (i - (o + 1)) + 1 by omega]; simp
      · rw [if_neg e2, if_neg e, if_neg (by omega)]
theorem heap_setCells_other (b k : Nat) (hk : k ≠ b) : ∀ (vs : List Value) (o : Nat) (w : World), (w.setCells b o vs).heap[k]? = w.heap[k]?
  | [], _, _ => rfl
  | v :: r, o, w => (heap_setCells_other b k hk r (o + 1) _).trans (heap_setCell_other w _ k v hk)
theorem size_setCells (b : Nat) : ∀ (vs : List Value) (o : Nat) (w : World), (w.setCells b o vs).heap.size = w.heap.size
  | [], _, _ => rfl
  | v :: r, o, w => (size_setCells b r (o + 1) _).trans (by simp [World.setCell])
theorem below_setCells {B : Nat} {a : World} (b : Nat) (hb : B ≤ b) : ∀ (vs : List Value) (o : Nat) (w : World), Below B a w → Below B a (w.setCells b o vs)
  | [], _, _, h => h
  | v :: r, o, _, h => below_setCells b hb r (o + 1) _ (h.setCell hb v)
theorem grownBy_setCells (b : Nat) : ∀ (vs : List Value) (o : Nat) (w : World), w.grownBy (w.setCells b o vs) (some b)
  | [], _, w => ⟨rfl, rfl, rfl, Nat.le_refl _, fun _ _ _ => rfl⟩
  | v :: r, o, w => by
    obtain ⟨h1, h2, h3, h4, h5⟩ := grownBy_setCells b r (o + 1) (w.setCell ⟨b, o, none⟩ v)
    have hsz : (w.setCell ⟨b, o, none⟩ v).heap.size = w.heap.size := by simp [World.setCell]
    rw [hsz] at h4 h5
    refine ⟨h1, h2, h3, h4, fun k hk hne => ?_⟩
    exact (h5 k hk hne).trans (heap_setCell_other w _ k v (fun e => hne (by rw [e])))

/-- THE LAW. -/
theorem run_append_src {P : Program} (w : World) (t tx ty : TypeId) (e : TypeId) (i : TypeInfo) (z : Value) (size bytes : Nat) (ht : P.underlying t = some (.slice e)) (hi : P.info? e = some i) (hz : i.zero = some z)
    (hsize : i.size = size) (hby : i.bytes = bytes) (hzs : z.cells.size = size)
    (v : Value) (n : Nat) (xs : List Value) (hown : w.ownsRow 0 e size v n xs) (x : Value) (m : Nat) (news : List Value) (hs : Src P size tx x m news w)
    (h63 : n + m ≤ 1152921504606846976) (hbytes : (n + m) * bytes ≤ 140737488355328) :
    ∃ a cap w', (Builtin.append_ #[t, tx] ty #[v, x]).run P w = .ok (.slice a (n + m) cap) w' ∧ w'.ownsRow 0 e size (.slice a (n + m) cap) (n + m) (xs ++ news) ∧ w.grownBy w' v.ownBlock ∧
      (∀ g, (Value.slice a (n + m) cap).ownBlock = some g → v.ownBlock = some g ∨ (g = w.heap.size ∧ g < w'.heap.size)) := by
  subst hsize
  subst hby
  have hml : n + m ≤ maxLen := by unfold maxLen; omega
  have hlen : (xs ++ news).length = (n + m) * i.size := by rw [List.length_append, hown.1, hs.newsLen, Nat.add_mul]
  have grown : ∀ (old : Nat), old < n + m → ∀ (row : Option Nat),
      (w.drew.alloc (.cells ((xs ++ news).toArray ++ Builtin.zeroCells z.cells (grownCap w (n + m) old e - (n + m))) e)).ownsRow 0 e i.size
        (.slice (some ⟨w.heap.size, 0, none⟩) (n + m) (grownCap w (n + m) old e)) (n + m) (xs ++ news) ∧
      w.grownBy (w.drew.alloc (.cells ((xs ++ news).toArray ++ Builtin.zeroCells z.cells (grownCap w (n + m) old e - (n + m))) e)) row := by
    intro old ho row
    have hge := grownCap_ge w (n + m) old e
    have hcm : grownCap w (n + m) old e ≤ maxLen := grownCap_le_maxLen w (n + m) old e hml
    refine ⟨⟨hlen, .inr ⟨w.heap.size, _, _, rfl, Nat.zero_le _, heap_alloc_new w.drew _, hge, hcm, ?_, ?_⟩⟩, ⟨rfl, rfl, rfl, by simp, fun k hk _ => heap_alloc_old w.drew _ hk⟩⟩
    · rw [Array.size_append, List.size_toArray, size_zeroCells, hzs, hlen, ← Nat.add_mul]
      congr 1
      omega
    · rw [Array.toList_append, ← hlen]
      exact List.take_left
  rcases hown.2 with ⟨rfl, rfl⟩ | ⟨g, cap, cur, rfl, hbg, hg, hnc, hcm, hcs, htake⟩
  · have hx : xs = [] := List.eq_nil_of_length_eq_zero (by simpa using hown.1)
    subst hx
    by_cases hm : m = 0
    · subst hm
      have hn : news = [] := List.eq_nil_of_length_eq_zero (by simpa using hs.newsLen)
      subst hn
      refine ⟨none, 0, w, ?_, World.ownsRow_nil w 0 e i.size, ⟨rfl, rfl, rfl, Nat.le_refl _, fun _ _ _ => rfl⟩, fun g hg => by simp [Value.ownBlock] at hg⟩
      rcases hs.kind with ⟨e', hk⟩ | hk <;> simp [Builtin.append_, run_underlying ht, run_underlying hk, sizeOf, typeInfo, hi, hs.len, hs.cells]
    · have hr := run_append_grow_src (P := P) w t tx ty e i z ht hi hz none 0 0 [] (run_firstCells_none w.drew i.size 0 0 0) x m news hs (by omega) (by omega) (growslice_fits (by omega) (by simpa using hbytes))
      have hgr := grown 0 (by omega) (Value.ownBlock (.slice none 0 0))
      simp only [List.nil_append] at hgr hr ⊢
      exact ⟨_, _, _, hr, hgr.1, hgr.2, fun g hg => .inr ⟨by simpa [Value.ownBlock] using hg.symm, by simp [Value.ownBlock] at hg; simp; omega⟩⟩
  · by_cases hroom : n + m ≤ cap
    · have hfit : n * i.size + news.length ≤ cur.size := by rw [hs.newsLen, hcs, ← Nat.add_mul]; exact Nat.mul_le_mul_right _ hroom
      have hr := run_append_room_src (P := P) w t tx ty e i ht hi g 0 n cap x m news hs hroom
        (fun j hj => by rw [cell_of_row w g _ cur e (0, 0) hg]; rw [Array.getElem?_eq_getElem (by omega)]; rfl) (fun j hj => frozen_of_row w g _ cur e hg)
      obtain ⟨c', h1, h2, h3⟩ := heap_setCells g e news (0 + n * i.size) w cur hg (by omega)
      refine ⟨_, _, _, hr, ⟨hlen, .inr ⟨g, cap, c', rfl, Nat.zero_le _, h1, hroom, hcm, by rw [h2, hcs], ?_⟩⟩, grownBy_setCells g news _ w, fun g' hg' => .inl (by simpa [Value.ownBlock] using hg')⟩
      apply List.ext_getElem?
      intro j
      rw [List.getElem?_take, List.getElem?_append, Array.getElem?_toList, h3, hown.1]
      have hxs : ∀ j, j < n * i.size → xs[j]? = cur[j]? := fun j hj => by
        rw [← htake, List.getElem?_take, if_pos hj, Array.getElem?_toList]
      have hnl := hs.newsLen
      rw [Nat.add_mul]
      by_cases h1 : j < n * i.size
      · rw [if_pos (by omega), if_neg (by omega), if_pos h1, hxs j h1]
      · by_cases h2 : j < n * i.size + m * i.size
        · rw [if_pos h2, if_pos (by omega), if_neg h1]; congr 1; omega
        · rw [if_neg h2, if_neg h1, List.getElem?_eq_none (by omega)]
    · have holds : ∀ j u, xs[j]? = some u → w.drew.cell? ((⟨g, 0, none⟩ : Addr).add j) = some u := fun j u hu => by
        have := hown.cells (g := g) rfl j u hu
        simpa using this
      have hr := run_append_grow_src (P := P) w t tx ty e i z ht hi hz (some ⟨g, 0, none⟩) n cap xs (run_firstCells_some (P := P) w.drew i.size n ⟨g, 0, none⟩ n cap xs hown.1 holds) x m news hs (by omega) (by omega) (growslice_fits (by omega) hbytes)
      have hgr := grown cap (by omega) (Value.ownBlock (.slice (some ⟨g, 0, none⟩) n cap))
      exact ⟨_, _, _, hr, hgr.1, hgr.2, fun g' hg' => .inr ⟨by simpa [Value.ownBlock] using hg'.symm, by simp [Value.ownBlock] at hg'; simp; omega⟩⟩
end Go.Proofs.Ytnkkbinbeildmaa
namespace Go.Proofs.Ytnkkbinbeildmaa
open Go.RowKit
/-- append of a text's bytes, at the operation. -/
theorem wp_append_str {o : Oper} {a : Act} {K : Act → World → Prop} {Q : Exit → Act → World → Prop} {w : World} (s x : Operand)
    (ho : o.op = .call { callee := .builtin .append, args := #[s, x], argTypes := #[139, 9] })
    (v : Value) (n : Nat) (xs : List Value) (hs : a.eval s = v) (hown : w.ownsRow 0 5 1 v n xs) (c : ByteArray) (hx : a.eval x = .string c) (hb : n + c.size ≤ 70368744177664)
    (h : ∀ ad cap w', w'.ownsRow 0 5 1 (.slice ad (n + c.size) cap) (n + c.size) (xs ++ byteCells c) → w.grownBy w' v.ownBlock → (∀ g, (Value.slice ad (n + c.size) cap).ownBlock = some g → v.ownBlock = some g ∨ (g = w.heap.size ∧ g < w'.heap.size)) → K (a.put o.dst (.slice ad (n + c.size) cap)) w') : o.wp Try.prog a w K Q := by
  obtain ⟨i0, hi0, hz0, hz1, hz2⟩ := info_parts (show (Try.prog.info? 5).map (fun i => (i.zero, i.size, i.bytes)) = some (some (.int .u8 0), 1, 1) by kernel_rfl)
  obtain ⟨ad, cap, w', hr, h2, h3, h4⟩ := run_append_src (P := Try.prog) w 139 9 o.type 5 i0 (.int .u8 0) 1 1 Try.underlying139 hi0 hz0 hz1 hz2 rfl v n xs hown (.string c) c.size (byteCells c) (Src.ofString w Try.underlying9 c) (by omega) (by omega)
  unfold Oper.wp execOp
  simp only [ho, resolve, invoke, builtin, Sem.run_bind, Sem.run_pure, Result.andThen_ok, List.map_toArray, List.map_cons, List.map_nil, hs, hx, hr]
  exact h ad cap w' h2 h3 h4
/-- At a step of a region that draws its order. -/
theorem step_append_str {ops : Array Oper} {o : Oper} {a : Act} {K : Act → World → Prop} {Q : Exit → Act → World → Prop} {E : Prop} {w : World} (hgd : o.guard = none) (s x : Operand)
    (ho : o.op = .call { callee := .builtin .append, args := #[s, x], argTypes := #[139, 9] })
    (v : Value) (n : Nat) (xs : List Value) (hs : a.eval s = v) (hown : w.ownsRow 0 5 1 v n xs) (c : ByteArray) (hx : a.eval x = .string c) (hb : n + c.size ≤ 70368744177664)
    (h : ∀ ad cap w', w'.ownsRow 0 5 1 (.slice ad (n + c.size) cap) (n + c.size) (xs ++ byteCells c) → w.grownBy w' v.ownBlock → (∀ g, (Value.slice ad (n + c.size) cap).ownBlock = some g → v.ownBlock = some g ∨ (g = w.heap.size ∧ g < w'.heap.size)) → K (a.put o.dst (.slice ad (n + c.size) cap)) w') :
    if Region.wanted o (yielded ops a.tmps) = true then Oper.wp Try.prog o a w K Q else E := by
  have hw : Region.wanted o (yielded ops a.tmps) = true := by simp [Region.wanted, hgd]
  rw [if_pos hw]
  exact wp_append_str s x ho v n xs hs hown c hx hb h
end Go.Proofs.Ytnkkbinbeildmaa
namespace Go.Proofs.Ytnkkbinbeildmaa
open Go.RowKit
/-- append of whatever is appended, at a plain region's list. -/
theorem wpList_append_src {ops : Array Oper} {rest : List Oper} {o : Oper} {act : Act} {Q : Exit → Act → World → Prop} {w : World} (hgd : o.guard = none) (s x : Operand) (t tx : TypeId)
    (ho : o.op = .call { callee := .builtin .append, args := #[s, x], argTypes := #[t, tx] }) (e : TypeId) (i : TypeInfo) (z : Value) (size bytes : Nat) (ht : Try.prog.underlying t = some (.slice e)) (hi : Try.prog.info? e = some i) (hz : i.zero = some z)
    (hsize : i.size = size) (hby : i.bytes = bytes) (hzs : z.cells.size = size)
    (v : Value) (n : Nat) (xs : List Value) (hs : act.eval s = v) (hown : w.ownsRow 0 e size v n xs) (xv : Value) (m : Nat) (news : List Value) (hx : act.eval x = xv) (hsrc : Src Try.prog size tx xv m news w)
    (h63 : n + m ≤ 1152921504606846976) (hbytes : (n + m) * bytes ≤ 140737488355328)
    (h : ∀ ad cap w', w'.ownsRow 0 e size (.slice ad (n + m) cap) (n + m) (xs ++ news) → w.grownBy w' v.ownBlock → (∀ g, (Value.slice ad (n + m) cap).ownBlock = some g → v.ownBlock = some g ∨ (g = w.heap.size ∧ g < w'.heap.size)) → wpList Try.prog ops Q rest (act.put o.dst (.slice ad (n + m) cap)) w') : wpList Try.prog ops Q (o :: rest) act w :=
  wpList_plain hgd fun K hK => by
    obtain ⟨ad, cap, w', hr, h2, h3, h4⟩ := run_append_src (P := Try.prog) w t tx o.type e i z size bytes ht hi hz hsize hby hzs v n xs hown xv m news hsrc h63 hbytes
    unfold Oper.wp execOp
    simp only [ho, resolve, invoke, builtin, Sem.run_bind, Sem.run_pure, Result.andThen_ok, List.map_toArray, List.map_cons, List.map_nil, hs, hx, hr]
    exact hK _ _ (h ad cap w' h2 h3 h4)
end Go.Proofs.Ytnkkbinbeildmaa
namespace Go.Proofs.Ytnkkbinbeildmaa
open Go.RowKit
/-- append of whatever is appended, at a step of a region that draws its order. -/
theorem step_append_src {ops : Array Oper} {o : Oper} {act : Act} {K : Act → World → Prop} {Q : Exit → Act → World → Prop} {E : Prop} {w : World} (hgd : o.guard = none) (s x : Operand) (t tx : TypeId)
    (ho : o.op = .call { callee := .builtin .append, args := #[s, x], argTypes := #[t, tx] }) (e : TypeId) (i : TypeInfo) (z : Value) (size bytes : Nat) (ht : Try.prog.underlying t = some (.slice e)) (hi : Try.prog.info? e = some i) (hz : i.zero = some z)
    (hsize : i.size = size) (hby : i.bytes = bytes) (hzs : z.cells.size = size)
    (v : Value) (n : Nat) (xs : List Value) (hs : act.eval s = v) (hown : w.ownsRow 0 e size v n xs) (xv : Value) (m : Nat) (news : List Value) (hx : act.eval x = xv) (hsrc : Src Try.prog size tx xv m news w)
    (h63 : n + m ≤ 1152921504606846976) (hbytes : (n + m) * bytes ≤ 140737488355328)
    (h : ∀ ad cap w', w'.ownsRow 0 e size (.slice ad (n + m) cap) (n + m) (xs ++ news) → w.grownBy w' v.ownBlock → (∀ g, (Value.slice ad (n + m) cap).ownBlock = some g → v.ownBlock = some g ∨ (g = w.heap.size ∧ g < w'.heap.size)) → K (act.put o.dst (.slice ad (n + m) cap)) w') :
    if Region.wanted o (yielded ops act.tmps) = true then Oper.wp Try.prog o act w K Q else E := by
  have hw : Region.wanted o (yielded ops act.tmps) = true := by simp [Region.wanted, hgd]
  rw [if_pos hw]
  obtain ⟨ad, cap, w', hr, h2, h3, h4⟩ := run_append_src (P := Try.prog) w t tx o.type e i z size bytes ht hi hz hsize hby hzs v n xs hown xv m news hsrc h63 hbytes
  unfold Oper.wp execOp
  simp only [ho, resolve, invoke, builtin, Sem.run_bind, Sem.run_pure, Result.andThen_ok, List.map_toArray, List.map_cons, List.map_nil, hs, hx, hr]
  exact h ad cap w' h2 h3 h4
end Go.Proofs.Ytnkkbinbeildmaa
