/- The reference of disk: Do: what its last stores keep. -/
import Derived.Test.YtefpfedpgedloaaDRDo
namespace Go.Proofs.Ytefpfedpgedloaa
open Go.RowKit
open Dk

theorem end2 {w w5 : World} (S : Nat → Prop) (hb : Below w.heap.size w w5) (hlt : w.heap.size + 3 ≤ w5.heap.size) (v2 v3 : Value) (vs : List Value) :
    KeptS (Apart3 S w.heap.size) S w5 (((w5.setCell ⟨w.heap.size, 2, none⟩ v2).setCell ⟨w.heap.size, 3, none⟩ v3).setCells (w.heap.size + 2) 0 vs) ∧ Below w.heap.size w (((w5.setCell ⟨w.heap.size, 2, none⟩ v2).setCell ⟨w.heap.size, 3, none⟩ v3).setCells (w.heap.size + 2) 0 vs) :=
  ⟨⟨fun b hs _ => ⟨hs.1, by rw [heap_setCells_other _ _ (fun e => hs.2.2.2 e), heap_setCell_other _ _ b _ (fun e => hs.2.1 e), heap_setCell_other _ _ b _ (fun e => hs.2.1 e)]⟩, by rw [size_setCells]; simp [World.setCell]⟩,
    (((hb.setCell (p := ⟨w.heap.size, 2, none⟩) (Nat.le_refl _) v2).setCell (p := ⟨w.heap.size, 3, none⟩) (Nat.le_refl _) v3).grown (grownBy_setCells _ _ _ _) (by simp [World.setCell]; omega) (fun k hk => by injection hk with hk; omega))⟩
theorem end3 {w w5 : World} (S : Nat → Prop) (hb : Below w.heap.size w w5) (hlt : w.heap.size + 3 ≤ w5.heap.size) (v1 v2 v3 : Value) (vs : List Value) :
    KeptS (Apart3 S w.heap.size) S w5 ((((w5.setCell ⟨w.heap.size, 6, none⟩ v1).setCell ⟨w.heap.size, 2, none⟩ v2).setCell ⟨w.heap.size, 3, none⟩ v3).setCells (w.heap.size + 2) 0 vs) ∧ Below w.heap.size w ((((w5.setCell ⟨w.heap.size, 6, none⟩ v1).setCell ⟨w.heap.size, 2, none⟩ v2).setCell ⟨w.heap.size, 3, none⟩ v3).setCells (w.heap.size + 2) 0 vs) :=
  ⟨⟨fun b hs _ => ⟨hs.1, by rw [heap_setCells_other _ _ (fun e => hs.2.2.2 e), heap_setCell_other _ _ b _ (fun e => hs.2.1 e), heap_setCell_other _ _ b _ (fun e => hs.2.1 e), heap_setCell_other _ _ b _ (fun e => hs.2.1 e)]⟩, by rw [size_setCells]; simp [World.setCell]⟩,
    ((((hb.setCell (p := ⟨w.heap.size, 6, none⟩) (Nat.le_refl _) v1).setCell (p := ⟨w.heap.size, 2, none⟩) (Nat.le_refl _) v2).setCell (p := ⟨w.heap.size, 3, none⟩) (Nat.le_refl _) v3).grown (grownBy_setCells _ _ _ _) (by simp [World.setCell]; omega) (fun k hk => by injection hk with hk; omega))⟩
theorem endS {w w6 : World} (S : Nat → Prop) (hb : Below w.heap.size w w6) (hlt : w.heap.size + 3 ≤ w6.heap.size) (vs : List Value) :
    KeptS (Apart3 S w.heap.size) S w6 (w6.setCells (w.heap.size + 2) 0 vs) ∧ Below w.heap.size w (w6.setCells (w.heap.size + 2) 0 vs) :=
  ⟨⟨fun b hs _ => ⟨hs.1, by rw [heap_setCells_other _ _ (fun e => hs.2.2.2 e)]⟩, by rw [size_setCells]; exact Nat.le_refl _⟩,
    hb.grown (grownBy_setCells _ _ _ _) (by omega) (fun k hk => by injection hk with hk; omega)⟩
end Go.Proofs.Ytefpfedpgedloaa
