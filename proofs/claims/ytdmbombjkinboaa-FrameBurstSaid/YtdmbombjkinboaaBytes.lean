/- Slices of bytes that a call makes itself: append of one byte, the text they make. -/
import Derived.Test.YtdmbombjkinboaaProg
import Derived.WalkKit
import Derived.Lib.Hide
import Derived.Deep.AppendLies
import Derived.Laws.OwnMore
import Derived.Laws.IdiomStrings
namespace Go.Proofs.Ytdmbombjkinboaa
open Go.RowKit

/-- Bytes as a text. -/
def str (l : List UInt8) : ByteArray := ⟨l.toArray⟩
theorem str_data (l : List UInt8) : (str l).data.toList = l := rfl
theorem str_size (l : List UInt8) : (str l).size = l.length := rfl
theorem toList_data (s : ByteArray) : s.toList = s.data.toList := by
  obtain ⟨⟨l⟩⟩ := s
  simp
theorem str_of (s : ByteArray) : str s.data.toList = s := rfl
/-- The bytes as the model's numbers. -/
def nums (l : List UInt8) : List Int := l.map fun b => (b.toNat : Int)
theorem strOfNums_nums (l : List UInt8) : strOfNums (nums l) = str l := by
  have : (strOfNums (nums l)).data.toList = (str l).data.toList := by
    rw [strOfNums_data, str_data, nums, List.map_map]
    conv => rhs; rw [← List.map_id l]
    exact List.map_congr_left fun b _ => by simp
  cases h : strOfNums (nums l); cases h2 : str l
  simp_all [Array.ext_iff]
/-- Bytes as cells. -/
def bcells (l : List UInt8) : List Value := l.map fun b => Value.int .u8 (b.toNat : Int)
theorem bcells_length (l : List UInt8) : (bcells l).length = l.length := by simp [bcells]
theorem bcells_snoc (l : List UInt8) (c : UInt8) : bcells (l ++ [c]) = bcells l ++ [.int .u8 (c.toNat : Int)] := by simp [bcells]

theorem Try.info_byte : (Try.prog.info? 5).map (fun i => (i.zero, i.size, i.bytes)) = some (some (.int .u8 0), 1, 1) := by kernel_rfl

/-- A slice of bytes that the call made itself (in a block from B on), or nil: what it holds. -/
def OwnB (B : Nat) (w : World) (a : Option Addr) (cap : Nat) (l : List UInt8) : Prop :=
  w.ownsRow B 5 1 (.slice a l.length cap) l.length (bcells l)
theorem OwnB.nil (B : Nat) (w : World) : OwnB B w none 0 [] := World.ownsRow_nil _ _ _ _
theorem OwnB.drew {B : Nat} {w : World} {a : Option Addr} {cap : Nat} {l : List UInt8} (h : OwnB B w a cap l) : OwnB B w.drew a cap l := h
theorem OwnB.alloc {B : Nat} {w : World} {a : Option Addr} {cap : Nat} {l : List UInt8} (h : OwnB B w a cap l) (o : Obj) : OwnB B (w.alloc o) a cap l := World.ownsRow.alloc h o
theorem OwnB.size {B : Nat} {w : World} {g : Nat} {cap : Nat} {l : List UInt8} (h : OwnB B w (some ⟨g, 0, none⟩) cap l) : B ≤ g ∧ g < w.heap.size := World.ownsRow.lt h g rfl
theorem OwnB.call {B : Nat} {w w' : World} {a : Option Addr} {cap : Nat} {l : List UInt8} (h : OwnB B w a cap l) (hb : Below w.heap.size w w') : OwnB B w' a cap l := by
  obtain ⟨h1, h2⟩ := h
  refine ⟨h1, ?_⟩
  rcases h2 with h2 | ⟨g, c, cur, e, hB, hg, h3⟩
  · exact .inl h2
  · exact .inr ⟨g, c, cur, e, hB, (hb.block g (Array.getElem?_eq_some_iff.1 hg).1).trans hg, h3⟩
set_option maxRecDepth 100000 in
theorem OwnB.conv {B : Nat} {w : World} {a : Option Addr} {cap : Nat} {l : List UInt8} (h : OwnB B w a cap l) :
    (convert 47 9 (.slice a l.length cap)).run Try.prog w = .ok (.string (str l)) w := by
  rcases h.2 with ⟨e, hn⟩ | ⟨g, c, cur, e, hB, hg, hn, hc, hs, ht⟩
  · injection e with e1 e2 e3
    subst e1
    rw [run_convert_bytes_nil w 47 5 Try.underlying47 Try.underlying5 _ _ 9 Try.underlying9, List.length_eq_zero_iff.1 hn]
    rfl
  · injection e with e1 e2 e3
    subst e1 e3
    rw [← strOfNums_nums]
    refine run_convert_bytes_arg (P := Try.prog) w 47 5 Try.underlying47 Try.underlying5 g 0 l.length cap (nums l) (by simp [nums]) (fun j hj => ?_) 9 Try.underlying9
    have := World.ownsRow.cellAt h j (by simpa using hj)
    rw [Nat.zero_add, this]
    simp [bcells, nums, List.getD_eq_getElem?_getD, hj]
theorem OwnB.below {B : Nat} {w w' : World} {v : Value} {n : Nat} {xs : List Value} {w0 : World} (h : w.ownsRow B 5 1 v n xs) (hg : w.grownBy w' v.ownBlock) (hB : B ≤ w.heap.size) (hb : Below B w0 w) : Below B w0 w' :=
  hb.grown hg hB (fun k hk => (World.ownsRow.lt h k hk).1)

theorem cell_new (w : World) (v : Value) (t : TypeId) : (w.alloc (.cells #[v] t)).cell? ⟨w.heap.size, 0, none⟩ = some v := by
  rw [cell_of_row _ _ _ _ _ _ (heap_alloc_new _ _)]; rfl
/-- append of one byte. -/
theorem wpList_append_byte {ops : Array Oper} {rest : List Oper} {o : Oper} {act : Act} {Q : Exit → Act → World → Prop} {w w0 : World} (hgd : o.guard = none) (s x : Operand)
    (ho : o.op = .call { callee := .builtin .append, args := #[s, x], argTypes := #[47, 47] })
    {B : Nat} {a : Option Addr} {cap : Nat} {l : List UInt8} (hown : OwnB B w a cap l) (hs : act.eval s = .slice a l.length cap)
    (g c' : Nat) (c : UInt8) (hx : act.eval x = .slice (some ⟨g, 0, none⟩) 1 c') (hc : w.cell? ⟨g, 0, none⟩ = some (.int .u8 (c.toNat : Int)))
    (hlen : l.length < 70368744177664) (hbase : B ≤ w.heap.size) (hb0 : Below B w0 w)
    (h : ∀ g cap w', OwnB B w' (some ⟨g, 0, none⟩) cap (l ++ [c]) → Below B w0 w' → wpList Try.prog ops Q rest (act.put o.dst (.slice (some ⟨g, 0, none⟩) (l.length + 1) cap)) w') : wpList Try.prog ops Q (o :: rest) act w := by
  obtain ⟨i0, hi0, hz0, hz1, hz2⟩ := info_parts Try.info_byte
  refine wpList_append_lies w hgd s x 47 ho B 5 i0 _ 1 1 Try.underlying47 hi0 hz0 hz1 hz2 rfl (by decide) (.slice a l.length cap) l.length (bcells l) hs hown ⟨g, 0, none⟩ 1 c' [.int .u8 (c.toNat : Int)] hx rfl
    (fun j u hj => ?_) (by simp [Value.oneCell']) (by decide) (by unfold maxLen; omega) (by omega) hbase w.heap.size rfl (fun g cap w' h1 h2 _ _ => h g cap w' ?_ ?_)
  · match j, hj with
    | 0, hj =>
      simp at hj
      subst hj
      rw [show (⟨g, 0, none⟩ : Addr).add 0 = ⟨g, 0, none⟩ from by simp [Addr.add]]
      exact hc
  · unfold OwnB
    rw [bcells_snoc, List.length_append]; exact h1
  · exact OwnB.below hown h2 hbase hb0
theorem wpList_append_byte' {ops : Array Oper} {rest : List Oper} {o : Oper} {act : Act} {Q : Exit → Act → World → Prop} {w w0 : World} (hgd : o.guard = none) (s x : Operand)
    (ho : o.op = .call { callee := .builtin .append, args := #[s, x], argTypes := #[47, 47] })
    {B : Nat} {a : Option Addr} {cap : Nat} {l : List UInt8} (hown : OwnB B w a cap l) (n : Nat) (hn : l.length = n) (hs : act.eval s = .slice a n cap)
    (g c' : Nat) (c : UInt8) (hx : act.eval x = .slice (some ⟨g, 0, none⟩) 1 c') (hc : w.cell? ⟨g, 0, none⟩ = some (.int .u8 (c.toNat : Int)))
    (hlen : n < 70368744177664) (hbase : B ≤ w.heap.size) (hb0 : Below B w0 w)
    (h : ∀ g cap w', OwnB B w' (some ⟨g, 0, none⟩) cap (l ++ [c]) → Below B w0 w' → wpList Try.prog ops Q rest (act.put o.dst (.slice (some ⟨g, 0, none⟩) (n + 1) cap)) w') : wpList Try.prog ops Q (o :: rest) act w := by
  subst hn
  exact wpList_append_byte hgd s x ho hown hs g c' c hx hc hlen hbase hb0 h
/-- append of one byte, at a step of a region that draws its order. -/
theorem step_append_byte {ops : Array Oper} {o : Oper} {act : Act} {K : Act → World → Prop} {Q : Exit → Act → World → Prop} {E : Prop} {w w0 : World} (hgd : o.guard = none) (s x : Operand)
    (ho : o.op = .call { callee := .builtin .append, args := #[s, x], argTypes := #[47, 47] })
    {B : Nat} {a : Option Addr} {cap : Nat} {l : List UInt8} (hown : OwnB B w a cap l) (n : Nat) (hn : l.length = n) (hs : act.eval s = .slice a n cap)
    (g c' : Nat) (c : UInt8) (hx : act.eval x = .slice (some ⟨g, 0, none⟩) 1 c') (hc : w.cell? ⟨g, 0, none⟩ = some (.int .u8 (c.toNat : Int)))
    (hlen : n < 70368744177664) (hbase : B ≤ w.heap.size) (hb0 : Below B w0 w)
    (h : ∀ g cap w', OwnB B w' (some ⟨g, 0, none⟩) cap (l ++ [c]) → Below B w0 w' → K (act.put o.dst (.slice (some ⟨g, 0, none⟩) (n + 1) cap)) w') :
    if Region.wanted o (yielded ops act.tmps) = true then Oper.wp Try.prog o act w K Q else E := by
  subst hn
  obtain ⟨i0, hi0, hz0, hz1, hz2⟩ := info_parts Try.info_byte
  refine step_append_lies w hgd s x 47 ho B 5 i0 _ 1 1 Try.underlying47 hi0 hz0 hz1 hz2 rfl (by decide) (.slice a l.length cap) l.length (bcells l) hs hown ⟨g, 0, none⟩ 1 c' [.int .u8 (c.toNat : Int)] hx rfl
    (fun j u hj => ?_) (by simp [Value.oneCell']) (by decide) (by unfold maxLen; omega) (by omega) hbase w.heap.size rfl (fun g cap w' h1 h2 _ _ => h g cap w' ?_ ?_)
  · match j, hj with
    | 0, hj =>
      simp at hj
      subst hj
      rw [show (⟨g, 0, none⟩ : Addr).add 0 = ⟨g, 0, none⟩ from by simp [Addr.add]]
      exact hc
  · unfold OwnB
    rw [bcells_snoc, List.length_append]; exact h1
  · exact OwnB.below hown h2 hbase hb0
/-- A block from B on whose first cells are the bytes l, and may be written. -/
def Row8 (B : Nat) (w : World) (g : Nat) (l : List UInt8) : Prop :=
  B ≤ g ∧ g < w.heap.size ∧ ∀ i, i < l.length → w.cell? ⟨g, i, none⟩ = some (.int .u8 ((l.getD i 0).toNat : Int)) ∧ w.frozen? ⟨g, i, none⟩ = false
theorem Row8.call {B : Nat} {w w' : World} {g : Nat} {l : List UInt8} (h : Row8 B w g l) (hb : Below w.heap.size w w') : Row8 B w' g l :=
  ⟨h.1, Nat.lt_of_lt_of_le h.2.1 hb.size, fun i hi => ⟨by rw [hb.cell (p := ⟨g, i, none⟩) h.2.1]; exact (h.2.2 i hi).1, by rw [hb.frozen (p := ⟨g, i, none⟩) h.2.1]; exact (h.2.2 i hi).2⟩⟩
theorem Row8.drew {B : Nat} {w : World} {g : Nat} {l : List UInt8} (h : Row8 B w g l) : Row8 B w.drew g l := h
theorem Row8.conv {B : Nat} {w : World} {g : Nat} {l : List UInt8} (h : Row8 B w g l) (n : Nat) (hn : l.length = n) (cap : Nat) :
    (convert 47 9 (.slice (some ⟨g, 0, none⟩) n cap)).run Try.prog w = .ok (.string (str l)) w := by
  subst hn
  rw [← strOfNums_nums]
  refine run_convert_bytes_arg (P := Try.prog) w 47 5 Try.underlying47 Try.underlying5 g 0 l.length cap (nums l) (by simp [nums]) (fun j hj => ?_) 9 Try.underlying9
  rw [Nat.zero_add, (h.2.2 j hj).1]
  simp [nums, List.getD_eq_getElem?_getD, hj]
theorem Row8.put {B : Nat} {w : World} {g : Nat} {l l' : List UInt8} (h : Row8 B w g l) (j : Nat) (hj : j < l.length) (c : UInt8) (hl : l'.length = l.length) (hc : l'.getD j 0 = c) (ho : ∀ i, i < l.length → i ≠ j → l'.getD i 0 = l.getD i 0) :
    Row8 B (w.setCell ⟨g, j, none⟩ (.int .u8 (c.toNat : Int))) g l' := by
  refine ⟨h.1, by simpa using h.2.1, fun i hi => ?_⟩
  rw [hl] at hi
  constructor
  · by_cases e : i = j
    · subst e; rw [hc]; exact World.cell?_setCell_same _ _ _ (h.2.2 i hi).1
    · rw [ho i hi e, World.cell?_setCell_other (h := by intro e2; injection e2 with _ e3 _; exact e e3.symm)]; exact (h.2.2 i hi).1
  · rw [World.frozen?_setCell]; exact (h.2.2 i hi).2
/-- What a text's bytes are laid into. -/
theorem conv_bytes (w : World) (s : ByteArray) : ∃ cap w', (convert 9 47 (.string s)).run Try.prog w = .ok (.slice (some ⟨w.heap.size, 0, none⟩) s.size cap) w' ∧ Row8 w.heap.size w' w.heap.size s.data.toList ∧ Below w.heap.size w w' ∧ w'.heap.size = w.heap.size + 1 := by
  refine ⟨_, _, run_bytes_of_string w 9 47 5 s Try.underlying9 Try.underlying47 Try.underlying5, ⟨Nat.le_refl _, by simp, fun i hi => ?_⟩, ?_, by simp⟩
  · have hi' : i < s.size := by simpa using hi
    have hg : (w.drew.alloc (.cells (bytesRow s (grownCap w s.size 0 5)) 5 ((bytesRow s (grownCap w s.size 0 5)).size, (bytesRow s (grownCap w s.size 0 5)).size + 1))).heap[w.heap.size]? = some _ := heap_alloc_new w.drew _
    constructor
    · rw [cell_of_row _ _ _ _ _ _ hg]
      unfold bytesRow
      rw [Array.getElem?_append_left (by simpa using hi')]
      simp [List.getD_eq_getElem?_getD, hi']
    · unfold World.frozen?
      rw [hg]
      have : s.size ≤ (bytesRow s (grownCap w s.size 0 5)).size := by unfold bytesRow; rw [Array.size_append, Array.size_map]; exact Nat.le_add_right _ _
      simp
      omega
  · exact ((Below.refl _ _).drew).alloc (by simp) _
end Go.Proofs.Ytdmbombjkinboaa
