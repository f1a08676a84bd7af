/- The law's 'do': one act at a disk and at its reference: what the walk carries. -/
import Derived.Test.YtefpfedpgedloaaDRDoAny
import Derived.Test.YtefpfedpgedloaaDRNew
import Derived.Test.YtefpfedpgedloaaDOpen
namespace Go.Proofs.Ytefpfedpgedloaa
open Go.RowKit
open Dk

/-- What an act makes of a disk, and what it says. -/
def deed (d : Disk) (x : Deed) : Disk × Int :=
  if x.kind = 0 then d.act 0 x.x 0 x.s else if x.kind = 1 then d.act 1 x.x x.n ⟨#[]⟩ else if x.kind = 2 then d.act 2 x.x 0 ⟨#[]⟩ else if x.kind = 3 then d.sync
  else if x.kind = 4 then (d.fail x.x x.n, 0) else if x.kind = 5 then (d.up, if d.down = true then 1 else 0) else if x.kind = 6 then (d.lay x.after x.keep x.torn, 0) else (d, 0)
/-- The blocks of the reference: of no disk, and not the three boxes. -/
def Sx (V : Nat → Prop) (w : World) (ρ : Nat → Nat) (g : Nat) : Prop := ρ g = 0 ∧ (g < w.heap.size ∨ w.heap.size + 3 ≤ g) ∧ V g
/-- The walk's state. -/
structure Lds (w : World) (ρ ρ' : Nat → Nat) (b : Nat) (D : Disk) (bx : Array Value) (x : Deed) (W : World) : Prop where
  disk : DiskAt W ρ' b D
  touch : Touch RA ρ ρ' w W
  b0 : W.heap[w.heap.size]? = some (.cells bx 32 (0, 0))
  b1 : W.heap[w.heap.size + 1]? = some (.cells x.cells 39 (0, 0))
  b2 : W.heap[w.heap.size + 2]? = some (.cells zeroRef 32 (0, 0))
  lt : w.heap.size + 3 ≤ W.heap.size
  z : ∀ g, w.heap.size ≤ g → g < w.heap.size + 3 → ρ' g = 0
theorem Lds.start {w : World} {ρ : Nat → Nat} {b : Nat} {D : Disk} (h : DiskAt w ρ b D) (bx : Array Value) (x : Deed) {W : World}
    (hW : W = ((w.alloc (.cells bx 32)).alloc (.cells x.cells 39)).alloc (.cells zeroRef 32)) : Lds w ρ ρ b D bx x W := by
  subst hW
  have hb : Below w.heap.size w (((w.alloc (.cells bx 32)).alloc (.cells x.cells 39)).alloc (.cells zeroRef 32)) := (((Below.refl _ _).alloc (Nat.le_refl _) _).alloc (by simp) _).alloc (by simp; omega) _
  have h1 := heap_alloc_new (w.alloc (.cells bx 32)) (.cells x.cells 39)
  have h2 := heap_alloc_new ((w.alloc (.cells bx 32)).alloc (.cells x.cells 39)) (.cells zeroRef 32)
  have z1 : (w.alloc (.cells bx 32)).heap.size = w.heap.size + 1 := by simp
  have z2 : ((w.alloc (.cells bx 32)).alloc (.cells x.cells 39)).heap.size = w.heap.size + 2 := by simp
  rw [z1] at h1
  rw [z2] at h2
  refine ⟨h.below hb, Touch.of_below ρ hb, ?_, ?_, h2, by simp, fun g hg _ => h.raw.lab g hg⟩
  · rw [heap_alloc_old _ _ (by rw [z2]; omega), heap_alloc_old _ _ (by rw [z1]; omega)]; exact heap_alloc_new _ _
  · rw [heap_alloc_old _ _ (by rw [z2]; omega)]; exact h1
theorem Lds.call {w W W' : World} {ρ ρ' : Nat → Nat} {b : Nat} {D : Disk} {bx : Array Value} {x : Deed} (h : Lds w ρ ρ' b D bx x W) (hb : Below W.heap.size W W') : Lds w ρ ρ' b D bx x W' := by
  have hl := h.lt
  exact ⟨h.disk.below hb, h.touch.trans (Touch.of_below ρ' hb), (hb.block _ (by omega)).trans h.b0, (hb.block _ (by omega)).trans h.b1, (hb.block _ (by omega)).trans h.b2, Nat.le_trans h.lt hb.size, h.z⟩
theorem Lds.drew {w W : World} {ρ ρ' : Nat → Nat} {b : Nat} {D : Disk} {bx : Array Value} {x : Deed} (h : Lds w ρ ρ' b D bx x W) : Lds w ρ ρ' b D bx x W.drew :=
  ⟨⟨raw_drew h.disk.raw, h.disk.ok⟩, touch_drew h.touch, h.b0, h.b1, h.b2, h.lt, h.z⟩
/-- The disk's own call. -/
theorem Lds.oper {w W W' : World} {ρ ρ' ρ'' : Nat → Nat} {b : Nat} {D D' : Disk} {bx : Array Value} {x : Deed} (h : Lds w ρ ρ' b D bx x W) (hd : DiskAt W' ρ'' b D') (ht : Touch RA ρ' ρ'' W W') : Lds w ρ ρ'' b D' bx x W' := by
  have hl := h.lt
  have hn : ∀ g, w.heap.size ≤ g → g < w.heap.size + 3 → W'.heap[g]? = W.heap[g]? := fun g h1 h2 => ht.same g (by omega) (fun e => e (h.z g h1 h2))
  exact ⟨hd, h.touch.trans ht, (hn _ (by omega) (by omega)).trans h.b0, (hn _ (by omega) (by omega)).trans h.b1, (hn _ (by omega) (by omega)).trans h.b2, Nat.le_trans h.lt ht.size, fun g h1 h2 => (ht.old g (by omega)).trans (h.z g h1 h2)⟩
theorem Lds.new {w W : World} {ρ ρ' : Nat → Nat} {b : Nat} {D : Disk} {bx : Array Value} {x : Deed} (h : Lds w ρ ρ' b D bx x W) {V : Nat → Prop} (hV : ∀ g, w.heap.size ≤ g → V g) : ∀ g, W.heap.size ≤ g → Sx V w ρ' g := fun g hg => ⟨h.disk.raw.lab g hg, .inr (Nat.le_trans h.lt hg), hV g (by have := h.lt; omega)⟩
/-- The reference behind the boxes. -/
theorem Lds.ref {w W : World} {ρ : Nat → Nat} {b : Nat} {D : Disk} {bx : Array Value} {x : Deed} (h : Lds w ρ ρ b D bx x W) {c : Array Value} {R : Disk} {V : Nat → Prop} (hr : RefIn w (fun g => ρ g = 0 ∧ V g) c R) : RefIn W (Sx V w ρ) c R :=
  hr.kept ⟨fun g hg hl => ⟨⟨hg.1, .inl hl, hg.2⟩, h.touch.same g hl (fun e => e hg.1)⟩, h.touch.size⟩
/-- The reference behind the disk's own call. -/
theorem ref_oper {V : Nat → Prop} {w W W' : World} {ρ' ρ'' : Nat → Nat} {c : Array Value} {R : Disk} (hr : RefIn W (Sx V w ρ') c R) (ht : Touch RA ρ' ρ'' W W') : RefIn W' (Sx V w ρ'') c R :=
  hr.kept ⟨fun g hg hl => ⟨⟨(ht.old g hl).trans hg.1, hg.2⟩, ht.same g hl (fun e => e hg.1)⟩, ht.size⟩
/-- A box of the three is another row now. -/
theorem Lds.ends {w W : World} {ρ ρ' : Nat → Nat} {b : Nat} {D : Disk} {bx : Array Value} {x : Deed} (h : Lds w ρ ρ' b D bx x W) {V : Nat → Prop} {c : Array Value} {R : Disk} (hr : RefIn W (Sx V w ρ') c R) (vs : List Value) :
    DiskAt (W.setCells (w.heap.size + 2) 0 vs) ρ' b D ∧ RefIn (W.setCells (w.heap.size + 2) 0 vs) (fun g => ρ' g = 0 ∧ V g) c R ∧ Touch RA ρ ρ' w (W.setCells (w.heap.size + 2) 0 vs) := by
  have hl := h.lt
  have hB : Below w.heap.size W (W.setCells (w.heap.size + 2) 0 vs) := (Below.refl w.heap.size W).grown (grownBy_setCells _ _ _ _) (by omega) (fun k hk => by injection hk with hk; omega)
  have hz : (W.setCells (w.heap.size + 2) 0 vs).heap.size = W.heap.size := size_setCells _ _ _ _
  refine ⟨h.disk.touch (R := (· = 0)) (ρ' := ρ') ⟨hB.os, hB.tape, hB.output, hB.size, fun _ _ => rfl, fun g _ hg => heap_setCells_other _ _ (fun e => hg (by rw [e]; exact h.z _ (by omega) (by omega))) _ _ _, fun _ _ => rfl⟩ (fun r hr e => hr e), ?_, ?_⟩
  · exact hr.kept ⟨fun g hg _ => ⟨⟨hg.1, hg.2.2⟩, heap_setCells_other _ _ (fun e => by have := hg.2.1; omega) _ _ _⟩, hB.size⟩
  · exact ⟨hB.os.trans h.touch.os, hB.tape.trans h.touch.tape, hB.output.trans h.touch.output, by omega, h.touch.old, fun g hg hne => (hB.block g hg).trans (h.touch.same g hg hne), fun g hg => h.touch.lab g (by omega)⟩
/-- The same, as the walk shows the world. -/
theorem Lds.ends10 {w W : World} {ρ ρ' : Nat → Nat} {b : Nat} {D : Disk} {bx : Array Value} {x : Deed} (h : Lds w ρ ρ' b D bx x W) {V : Nat → Prop} {c : Array Value} {R : Disk} (hr : RefIn W (Sx V w ρ') c R) (v0 v1 v2 v3 v4 v5 v6 v7 v8 v9 : Value) :
    DiskAt ((((((((((W.setCell ⟨w.heap.size + 1 + 1, 0, none⟩ v0).setCell ⟨w.heap.size + 1 + 1, 1, none⟩ v1).setCell ⟨w.heap.size + 1 + 1, 2, none⟩ v2).setCell ⟨w.heap.size + 1 + 1, 3, none⟩ v3).setCell ⟨w.heap.size + 1 + 1, 4, none⟩ v4).setCell ⟨w.heap.size + 1 + 1, 5, none⟩ v5).setCell ⟨w.heap.size + 1 + 1, 6, none⟩ v6).setCell ⟨w.heap.size + 1 + 1, 7, none⟩ v7).setCell ⟨w.heap.size + 1 + 1, 8, none⟩ v8).setCell ⟨w.heap.size + 1 + 1, 9, none⟩ v9) ρ' b D ∧ RefIn ((((((((((W.setCell ⟨w.heap.size + 1 + 1, 0, none⟩ v0).setCell ⟨w.heap.size + 1 + 1, 1, none⟩ v1).setCell ⟨w.heap.size + 1 + 1, 2, none⟩ v2).setCell ⟨w.heap.size + 1 + 1, 3, none⟩ v3).setCell ⟨w.heap.size + 1 + 1, 4, none⟩ v4).setCell ⟨w.heap.size + 1 + 1, 5, none⟩ v5).setCell ⟨w.heap.size + 1 + 1, 6, none⟩ v6).setCell ⟨w.heap.size + 1 + 1, 7, none⟩ v7).setCell ⟨w.heap.size + 1 + 1, 8, none⟩ v8).setCell ⟨w.heap.size + 1 + 1, 9, none⟩ v9) (fun g => ρ' g = 0 ∧ V g) c R ∧ Touch RA ρ ρ' w ((((((((((W.setCell ⟨w.heap.size + 1 + 1, 0, none⟩ v0).setCell ⟨w.heap.size + 1 + 1, 1, none⟩ v1).setCell ⟨w.heap.size + 1 + 1, 2, none⟩ v2).setCell ⟨w.heap.size + 1 + 1, 3, none⟩ v3).setCell ⟨w.heap.size + 1 + 1, 4, none⟩ v4).setCell ⟨w.heap.size + 1 + 1, 5, none⟩ v5).setCell ⟨w.heap.size + 1 + 1, 6, none⟩ v6).setCell ⟨w.heap.size + 1 + 1, 7, none⟩ v7).setCell ⟨w.heap.size + 1 + 1, 8, none⟩ v8).setCell ⟨w.heap.size + 1 + 1, 9, none⟩ v9) := h.ends hr [v0, v1, v2, v3, v4, v5, v6, v7, v8, v9]
/-- The cells of an act in its box. -/
theorem act_box {w W : World} {ρ ρ' : Nat → Nat} {b : Nat} {D : Disk} {bx : Array Value} {x : Deed} (h : Lds w ρ ρ' b D bx x W) :
    W.cell? ⟨w.heap.size + 1, 0, none⟩ = some (.int .i64 x.kind) ∧ W.cell? ⟨w.heap.size + 1, 1, none⟩ = some (.int .i64 x.x) ∧ W.cell? ⟨w.heap.size + 1, 2, none⟩ = some (.int .i64 x.n) ∧ W.cell? ⟨w.heap.size + 1, 3, none⟩ = some (.string x.s) ∧
    W.cell? ⟨w.heap.size + 1, 4, none⟩ = some (.int .i64 x.after) ∧ W.cell? ⟨w.heap.size + 1, 5, none⟩ = some (.int .i64 x.keep) ∧ W.cell? ⟨w.heap.size + 1, 6, none⟩ = some (.int .i64 x.torn) := by
  refine ⟨?_, ?_, ?_, ?_, ?_, ?_, ?_⟩ <;> (rw [cell_of_row _ _ _ _ _ _ h.b1]; rfl)
theorem zero_box {w W : World} {ρ ρ' : Nat → Nat} {b : Nat} {D : Disk} {bx : Array Value} {x : Deed} (h : Lds w ρ ρ' b D bx x W) :
    W.cell? ⟨w.heap.size + 2, 0, none⟩ = some (.int .i64 0) ∧ W.cell? ⟨w.heap.size + 2, 1, none⟩ = some (.slice none 0 0) ∧ W.cell? ⟨w.heap.size + 2, 2, none⟩ = some (.slice none 0 0) ∧ W.cell? ⟨w.heap.size + 2, 3, none⟩ = some (.int .i64 0) ∧ W.cell? ⟨w.heap.size + 2, 4, none⟩ = some (.int .i64 0) ∧
    W.cell? ⟨w.heap.size + 2, 5, none⟩ = some (.bool false) ∧ W.cell? ⟨w.heap.size + 2, 6, none⟩ = some (.int .i64 0) ∧ W.cell? ⟨w.heap.size + 2, 7, none⟩ = some (.int .i64 0) ∧ W.cell? ⟨w.heap.size + 2, 8, none⟩ = some (.int .i64 0) ∧ W.cell? ⟨w.heap.size + 2, 9, none⟩ = some (.bool false) ∧ ∀ j, W.frozen? ⟨w.heap.size + 2, j, none⟩ = false := by
  refine ⟨?_, ?_, ?_, ?_, ?_, ?_, ?_, ?_, ?_, ?_, fun j => frozen_of_row _ _ _ _ _ h.b2⟩ <;> (rw [cell_of_row _ _ _ _ _ _ h.b2]; rfl)
end Go.Proofs.Ytefpfedpgedloaa
