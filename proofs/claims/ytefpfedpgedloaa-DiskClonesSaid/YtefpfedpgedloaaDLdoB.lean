/- The law's 'do': stores into the reference's box. -/
import Derived.Test.YtefpfedpgedloaaDLdoA
namespace Go.Proofs.Ytefpfedpgedloaa
open Go.RowKit
open Dk

theorem Lds.put {w W : World} {ρ ρ' : Nat → Nat} {b : Nat} {D : Disk} {bx : Array Value} {x : Deed} (h : Lds w ρ ρ' b D bx x W) (j : Nat) (v : Value) : Lds w ρ ρ' b D (bx.setIfInBounds j v) x (W.setCell ⟨w.heap.size, j, none⟩ v) := by
  have hl := h.lt
  have hz : (W.setCell ⟨w.heap.size, j, none⟩ v).heap.size = W.heap.size := by simp [World.setCell]
  have ho : ∀ g, g ≠ w.heap.size → (W.setCell ⟨w.heap.size, j, none⟩ v).heap[g]? = W.heap[g]? := fun g hg => heap_setCell_other W _ g v hg
  refine ⟨h.disk.touch (R := (· = 0)) (ρ' := ρ') ⟨rfl, rfl, rfl, by omega, fun _ _ => rfl, fun g _ hg => ho g (fun e => hg (by rw [e]; exact h.z _ (by omega) (by omega))), fun _ _ => rfl⟩ (fun r hr e => hr e), ?_, heap_setCell_same _ _ _ _ _ _ h.b0, (ho _ (by omega)).trans h.b1, (ho _ (by omega)).trans h.b2, by omega, h.z⟩
  exact ⟨h.touch.os, h.touch.tape, h.touch.output, by have := h.touch.size; omega, h.touch.old, fun g hg hne => (ho g (by omega)).trans (h.touch.same g hg hne), fun g hg => h.touch.lab g (by omega)⟩
theorem ref_put {V : Nat → Prop} {w W : World} {ρ' : Nat → Nat} {c : Array Value} {R : Disk} (hr : RefIn W (Sx V w ρ') c R) (j : Nat) (v : Value) : RefIn (W.setCell ⟨w.heap.size, j, none⟩ v) (Sx V w ρ') c R :=
  hr.kept ⟨fun g hg _ => ⟨hg, heap_setCell_other W (Addr.mk w.heap.size j none) g v (fun e => by have := hg.2.1; have : g = w.heap.size := e; omega)⟩, by simp [World.setCell]⟩
theorem ref_frozen {w W : World} {ρ ρ' : Nat → Nat} {b : Nat} {D : Disk} {bx : Array Value} {x : Deed} (h : Lds w ρ ρ' b D bx x W) : ∀ j, W.frozen? ⟨w.heap.size, j, none⟩ = false := fun _ => frozen_of_row _ _ _ _ _ h.b0
/-- The whole row of the box is another now. -/
theorem Lds.puts {w W : World} {ρ ρ' : Nat → Nat} {b : Nat} {D : Disk} {bx : Array Value} {x : Deed} (h : Lds w ρ ρ' b D bx x W) (vs : List Value) (hb : vs.length = bx.size) : Lds w ρ ρ' b D vs.toArray x (W.setCells w.heap.size 0 vs) := by
  have hl := h.lt
  have hz : (W.setCells w.heap.size 0 vs).heap.size = W.heap.size := size_setCells _ _ _ _
  have ho : ∀ g, g ≠ w.heap.size → (W.setCells w.heap.size 0 vs).heap[g]? = W.heap[g]? := fun g hg => heap_setCells_other _ _ hg _ _ _
  have hB : Below w.heap.size W (W.setCells w.heap.size 0 vs) := (Below.refl w.heap.size W).grown (grownBy_setCells _ _ _ _) (by omega) (fun k hk => by injection hk with hk; omega)
  obtain ⟨c', h1, h2, h3⟩ := heap_setCells w.heap.size _ vs 0 W bx h.b0 (by omega)
  have e : c' = vs.toArray := Array.ext_getElem? fun i => by
    rw [h3]
    by_cases hi : i < vs.length
    · rw [if_pos ⟨Nat.zero_le _, by omega⟩]; simp
    · rw [if_neg (by omega), Array.getElem?_eq_none (by omega), Array.getElem?_eq_none (by simpa using hi)]
  rw [e] at h1
  refine ⟨h.disk.touch (R := (· = 0)) (ρ' := ρ') ⟨hB.os, hB.tape, hB.output, by omega, fun _ _ => rfl, fun g _ hg => ho g (fun e => hg (by rw [e]; exact h.z _ (by omega) (by omega))), fun _ _ => rfl⟩ (fun r hr e => hr e), ?_, h1, (ho _ (by omega)).trans h.b1, (ho _ (by omega)).trans h.b2, by omega, h.z⟩
  exact ⟨hB.os.trans h.touch.os, hB.tape.trans h.touch.tape, hB.output.trans h.touch.output, by have := h.touch.size; omega, h.touch.old, fun g hg hne => (ho g (by omega)).trans (h.touch.same g hg hne), fun g hg => h.touch.lab g (by omega)⟩
theorem ref_puts {V : Nat → Prop} {w W : World} {ρ' : Nat → Nat} {c : Array Value} {R : Disk} (hr : RefIn W (Sx V w ρ') c R) (vs : List Value) : RefIn (W.setCells w.heap.size 0 vs) (Sx V w ρ') c R :=
  hr.kept ⟨fun g hg _ => ⟨hg, heap_setCells_other _ _ (fun e => by have := hg.2.1; omega) _ _ _⟩, by rw [size_setCells]; exact Nat.le_refl _⟩
/-- A disk whose lists are the same. -/
theorem ref_same {w : World} {S : Nat → Prop} {R R' : Disk} {sv wv : Value} (h : RefIn w S (refCells R sv wv) R) (h1 : R'.sure = R.sure) (h2 : R'.waits = R.waits) : RefIn w S (refCells R' sv wv) R' := by
  obtain ⟨sv', wv', e, k1, k2⟩ := h
  injection e with e
  simp only [List.cons.injEq] at e
  refine ⟨sv, wv, rfl, ?_, ?_⟩
  · rw [e.2.1, h1]; exact k1
  · rw [e.2.2.1, h2]; exact k2
end Go.Proofs.Ytefpfedpgedloaa
