/- The reference of disk: Do, its pieces. -/
import Derived.Test.YtefpfedpgedloaaDRFail
import Derived.Deep.RegionHeld
namespace Go.Proofs.Ytefpfedpgedloaa
open Go.RowKit
open Dk

/-- Changes as cells, as the reference has them. -/
def rchgs (cs : List Chg) : List Value := cs.flatMap fun c => (rchgCells c).toList
theorem rchgs_length : ∀ cs : List Chg, (rchgs cs).length = cs.length * 4
  | [] => rfl
  | c :: cs => by
    have ih := rchgs_length cs
    simp only [rchgs, List.flatMap_cons, List.length_append, List.length_cons] at ih ⊢
    rw [ih]; simp [rchgCells]; omega
theorem rchgs_snoc (cs : List Chg) (c : Chg) : rchgs (cs ++ [c]) = rchgs cs ++ (rchgCells c).toList := by simp [rchgs]
theorem rchgs_at : ∀ (cs : List Chg) (k : Nat) (c : Chg), cs[k]? = some c → ∀ j, j < 4 → (rchgs cs)[k * 4 + j]? = (rchgCells c)[j]?
  | [], k, c, h, j, _ => by simp at h
  | d :: cs, 0, c, h, j, hj => by
    simp only [List.getElem?_cons_zero, Option.some.injEq] at h
    subst h
    simp only [rchgs, List.flatMap_cons]
    rw [List.getElem?_append_left (by simp [rchgCells]; omega)]
    simp
  | d :: cs, k + 1, c, h, j, hj => by
    have ih := rchgs_at cs k c (by simpa using h) j hj
    simp only [rchgs, List.flatMap_cons] at ih ⊢
    rw [List.getElem?_append_right (by simp [rchgCells]; omega), ← ih]
    congr 1
    simp [rchgCells]
    omega
theorem rchgs_one (cs : List Chg) : ∀ u ∈ rchgs cs, u.oneCell' = true := fun u hu => by
  simp only [rchgs, List.mem_flatMap, rchgCells, List.mem_cons, List.not_mem_nil, or_false] at hu
  obtain ⟨c, _, rfl | rfl | rfl | rfl⟩ := hu <;> rfl
theorem Try.info_rchg : (Try.prog.info? 66).map (fun i => (i.zero, i.size, i.bytes)) = some (some (.agg #[.int .i64 0, .int .i64 0, .string ⟨#[]⟩, .int .i64 0]), 4, 40) := by kernel_rfl
/-- A list of changes that the call made itself. -/
def OwnC (B : Nat) (w : World) (a : Option Addr) (cap : Nat) (l : List Chg) : Prop :=
  w.ownsRow 0 66 4 (.slice a l.length cap) l.length (rchgs l) ∧ ∀ g, (Value.slice a l.length cap).ownBlock = some g → B ≤ g
theorem OwnC.nil (B : Nat) (w : World) : OwnC B w none 0 [] := ⟨World.ownsRow_nil _ _ _ _, fun g hg => by simp [Value.ownBlock] at hg⟩
theorem OwnC.below {B : Nat} {w w' : World} {a : Option Addr} {cap : Nat} {l : List Chg} (h : OwnC B w a cap l) (hb : Below w.heap.size w w') : OwnC B w' a cap l :=
  ⟨ownsRow_same h.1 (fun g hg => hb.block g (h.1.lt g hg).2), h.2⟩
theorem OwnC.chgs {B : Nat} {w : World} {S : Nat → Prop} {a : Option Addr} {cap : Nat} {l : List Chg} (h : OwnC B w a cap l) (hS : ∀ g, B ≤ g → S g) : ChgsR w S (.slice a l.length cap) l := by
  refine ⟨a, cap, rfl, fun hne => ?_⟩
  rcases own4_form h.1 with ⟨-, h0, -⟩ | ⟨g, rfl, -, -⟩
  · exact absurd (List.length_eq_zero_iff.1 h0) hne
  · refine ⟨g, rfl, (h.1.lt g rfl).2, hS g (h.2 g rfl), fun j c hj k hk => ?_⟩
    have hlt := (List.getElem?_eq_some_iff.1 hj).1
    rw [World.ownsRow.cellAt h.1 (j * 4 + k) (by omega)]
    exact rchgs_at l j c hj k hk
/-- append of one change. -/
theorem wpList_append_chg {ops : Array Oper} {rest : List Oper} {o : Oper} {act : Act} {Q : Exit → Act → World → Prop} {w w0 : World} (hgd : o.guard = none) (s x : Operand)
    (ho : o.op = .call { callee := .builtin .append, args := #[s, x], argTypes := #[28, 28] })
    {B : Nat} {a : Option Addr} {cap : Nat} {l : List Chg} (hown : OwnC B w a cap l) (n : Nat) (hn : l.length = n) (hs : act.eval s = .slice a n cap)
    (g c' : Nat) (c : Chg) (hx : act.eval x = .slice (some ⟨g, 0, none⟩) 1 c') (hc : w.heap[g]? = some (.cells (rchgCells c) 66 (0, 0)))
    (hlen : n < 100000000) (hbase : B ≤ w.heap.size) (hb0 : Below B w0 w)
    (h : ∀ g cap w', OwnC B w' (some ⟨g, 0, none⟩) cap (l ++ [c]) → Below B w0 w' → w.heap.size ≤ w'.heap.size → wpList Try.prog ops Q rest (act.put o.dst (.slice (some ⟨g, 0, none⟩) (n + 1) cap)) w') : wpList Try.prog ops Q (o :: rest) act w := by
  subst hn
  obtain ⟨i0, hi0, hz0, hz1, hz2⟩ := info_parts Try.info_rchg
  refine wpList_append_src hgd s x 28 28 ho 66 i0 (.agg #[.int .i64 0, .int .i64 0, .string ⟨#[]⟩, .int .i64 0]) 4 40 Try.underlying28 hi0 hz0 hz1 hz2 rfl (.slice a l.length cap) l.length (rchgs l) hs hown.1 (.slice (some ⟨g, 0, none⟩) 1 c') 1 (rchgCells c).toList hx
    (Src.ofSlice w Try.underlying28 ⟨g, 0, none⟩ 1 c' (rchgCells c).toList rfl (World.news_of_block hc) (by intro u hu; exact rchgs_one [c] u (by simpa [rchgs] using hu))) (by omega) (by omega) (fun ad cap' w' h1 h2 h3 => ?_)
  rcases own4_form h1 with ⟨-, h0, -⟩ | ⟨g', rfl, -, -⟩
  · omega
  · refine h g' cap' w' ⟨?_, fun k hk => ?_⟩ ?_ h2.size
    · rw [rchgs_snoc, List.length_append]; exact h1
    · have hk' : g' = k := by simpa [Value.ownBlock] using hk
      rcases h3 g' rfl with e | ⟨e, -⟩
      · have := hown.2 g' e; omega
      · omega
    · exact hb0.grown h2 hbase (fun k hk => hown.2 k hk)
/-- The three blocks of the call's own: the disk, the change, the result's place. -/
structure DoS (w : World) (bx cc : Array Value) (W : World) : Prop where
  below : Below w.heap.size w W
  b0 : W.heap[w.heap.size]? = some (.cells bx 32 (0, 0))
  b1 : W.heap[w.heap.size + 1]? = some (.cells cc 66 (0, 0))
  b2 : W.heap[w.heap.size + 2]? = some (.cells zeroRef 32 (0, 0))
  lt : w.heap.size + 3 ≤ W.heap.size
theorem DoS.call {w W W' : World} {bx cc : Array Value} (h : DoS w bx cc W) (hb : Below W.heap.size W W') : DoS w bx cc W' := by
  have hl := h.lt
  exact ⟨h.below.trans (hb.mono h.below.size), (hb.block _ (by omega)).trans h.b0, (hb.block _ (by omega)).trans h.b1, (hb.block _ (by omega)).trans h.b2, Nat.le_trans h.lt hb.size⟩
theorem DoS.drew {w W : World} {bx cc : Array Value} (h : DoS w bx cc W) : DoS w bx cc W.drew := ⟨h.below.drew, h.b0, h.b1, h.b2, h.lt⟩
theorem DoS.later {w W W' : World} {bx cc : Array Value} (h : DoS w bx cc W) (hb : Below (w.heap.size + 3) W W') : DoS w bx cc W' := by
  have hl := h.lt
  exact ⟨h.below.trans (hb.mono (by omega)), (hb.block _ (by omega)).trans h.b0, (hb.block _ (by omega)).trans h.b1, (hb.block _ (by omega)).trans h.b2, Nat.le_trans h.lt hb.size⟩
theorem doS_start (w : World) (bx cc : Array Value) : DoS w bx cc (((w.alloc (.cells bx 32)).alloc (.cells cc 66)).alloc (.cells zeroRef 32)) := by
  have z1 : (w.alloc (.cells bx 32)).heap.size = w.heap.size + 1 := by simp
  have z2 : ((w.alloc (.cells bx 32)).alloc (.cells cc 66)).heap.size = w.heap.size + 2 := by simp
  refine ⟨(((Below.refl _ _).alloc (Nat.le_refl _) _).alloc (by simp) _).alloc (by simp; omega) _, ?_, ?_, ?_, by simp⟩
  · rw [Lib.alloc_old _ _ _ (by simp; omega), Lib.alloc_old _ _ _ (by simp)]; exact heap_alloc_new _ _
  · rw [Lib.alloc_old _ _ _ (by simp)]
    have := heap_alloc_new (w.alloc (.cells bx 32)) (.cells cc 66)
    rw [z1] at this; exact this
  · have := heap_alloc_new ((w.alloc (.cells bx 32)).alloc (.cells cc 66)) (.cells zeroRef 32)
    rw [z2] at this; exact this
/-- Blocks that are none of the three. -/
def Apart3 (S : Nat → Prop) (B : Nat) (g : Nat) : Prop := S g ∧ g ≠ B ∧ g ≠ B + 1 ∧ g ≠ B + 2
theorem DoS.ref {w W : World} {bx cc : Array Value} {S : Nat → Prop} {cells : Array Value} {R : Disk} (h : DoS w bx cc W) (hr : RefIn w S cells R) : RefIn W (Apart3 S w.heap.size) cells R :=
  hr.kept ⟨fun b hs hb => ⟨⟨hs, by omega, by omega, by omega⟩, h.below.block b hb⟩, h.below.size⟩
theorem chg_box {w W : World} {bx : Array Value} {kind x long : Int} {text : ByteArray} (h : DoS w bx #[.int .i64 kind, .int .i64 x, .string text, .int .i64 long] W) :
    W.cell? ⟨w.heap.size + 1, 0, none⟩ = some (.int .i64 kind) ∧ W.cell? ⟨w.heap.size + 1, 1, none⟩ = some (.int .i64 x) ∧ W.cell? ⟨w.heap.size + 1, 2, none⟩ = some (.string text) ∧ W.cell? ⟨w.heap.size + 1, 3, none⟩ = some (.int .i64 long) := by
  refine ⟨?_, ?_, ?_, ?_⟩ <;> (rw [cell_of_row _ _ _ _ _ _ h.b1]; rfl)
theorem res_box {w W : World} {bx cc : Array Value} (h : DoS w bx cc W) :
    W.cell? ⟨w.heap.size + 2, 0, none⟩ = some (.int .i64 0) ∧ W.cell? ⟨w.heap.size + 2, 1, none⟩ = some (.slice none 0 0) ∧ W.cell? ⟨w.heap.size + 2, 2, none⟩ = some (.slice none 0 0) ∧ W.cell? ⟨w.heap.size + 2, 3, none⟩ = some (.int .i64 0) ∧ W.cell? ⟨w.heap.size + 2, 4, none⟩ = some (.int .i64 0) ∧
    W.cell? ⟨w.heap.size + 2, 5, none⟩ = some (.bool false) ∧ W.cell? ⟨w.heap.size + 2, 6, none⟩ = some (.int .i64 0) ∧ W.cell? ⟨w.heap.size + 2, 7, none⟩ = some (.int .i64 0) ∧ W.cell? ⟨w.heap.size + 2, 8, none⟩ = some (.int .i64 0) ∧ W.cell? ⟨w.heap.size + 2, 9, none⟩ = some (.bool false) ∧ ∀ j, W.frozen? ⟨w.heap.size + 2, j, none⟩ = false := by
  refine ⟨?_, ?_, ?_, ?_, ?_, ?_, ?_, ?_, ?_, ?_, fun j => frozen_of_row _ _ _ _ _ h.b2⟩ <;> (rw [cell_of_row _ _ _ _ _ _ h.b2]; rfl)
/-- The disk is handed back as it was. -/
theorem do_same {w W : World} {bx cc : Array Value} {S : Nat → Prop} {R : Disk} (h : DoS w bx cc W) (hr : RefIn w S bx R) (vs : List Value) : RefIn (W.setCells (w.heap.size + 2) 0 vs) S bx R ∧ Below w.heap.size w (W.setCells (w.heap.size + 2) 0 vs) := by
  have hb : Below w.heap.size w (W.setCells (w.heap.size + 2) 0 vs) := h.below.grown (grownBy_setCells _ _ _ _) h.below.size (fun k hk => by injection hk with hk; omega)
  exact ⟨hr.kept (keptS_below hb), hb⟩
end Go.Proofs.Ytefpfedpgedloaa
