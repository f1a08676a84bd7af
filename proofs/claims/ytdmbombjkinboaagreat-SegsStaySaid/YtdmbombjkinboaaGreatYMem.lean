/- A store in memory: its cells, its rows; what its calls may touch. The calls that only read, and sync. -/
import Derived.Test.YtdmbombjkinboaaGreatYMath
import Derived.Test.YtdmbombjkinboaaGreatMD3
import Derived.Test.YtdmbombjkinboaaGreatMF2
namespace Go.Proofs.YtdmbombjkinboaaGreat
open Go.RowKit
open Dk Sg

def stCells (b : Nat) (S : Stor) (vs vr : Value) : Array Value :=
  #[.pointer (some ⟨b, 0, none⟩), .int .i64 S.falls, .int .i64 (S.at_ : Int), .int .i64 (S.epoch : Int), vs, vr, .int .i64 (S.sure : Int)]
/-- The cells of a store. -/
def Hd (w : World) (s b : Nat) (S : Stor) (vs vr : Value) : Prop := w.heap[s]? = some (.cells (stCells b S vs vr) 69 (0, 0))
theorem hd_cells {w : World} {s b : Nat} {S : Stor} {vs vr : Value} (h : Hd w s b S vs vr) :
    w.cell? ⟨s, 0, none⟩ = some (.pointer (some ⟨b, 0, none⟩)) ∧ w.cell? ⟨s, 1, none⟩ = some (.int .i64 S.falls) ∧ w.cell? ⟨s, 2, none⟩ = some (.int .i64 (S.at_ : Int)) ∧
    w.cell? ⟨s, 3, none⟩ = some (.int .i64 (S.epoch : Int)) ∧ w.cell? ⟨s, 4, none⟩ = some vs ∧ w.cell? ⟨s, 5, none⟩ = some vr ∧ w.cell? ⟨s, 6, none⟩ = some (.int .i64 (S.sure : Int)) := by
  unfold Hd at h
  refine ⟨?_, ?_, ?_, ?_, ?_, ?_, ?_⟩ <;> (rw [cell_of_row _ _ _ _ _ _ h]; rfl)
theorem hd_free {w : World} {s b : Nat} {S : Stor} {vs vr : Value} (h : Hd w s b S vs vr) (j : Nat) : w.frozen? ⟨s, j, none⟩ = false := frozen_of_row _ _ _ _ _ h
theorem Hd.lt {w : World} {s b : Nat} {S : Stor} {vs vr : Value} (h : Hd w s b S vs vr) : s < w.heap.size := (Array.getElem?_eq_some_iff.1 h).1
theorem Hd.same {w w' : World} {s b : Nat} {S : Stor} {vs vr : Value} (h : Hd w s b S vs vr) (e : w'.heap[s]? = w.heap[s]?) : Hd w' s b S vs vr := e.trans h
/-- A change of the world: blocks with a role, and those of X, may be written; no other one has turned. -/
structure TouchX (X : Nat → Prop) (ρ ρ' : Nat → Nat) (w w' : World) : Prop where
  os : w'.os = w.os
  tape : w'.tape = w.tape
  output : w'.output = w.output
  size : w.heap.size ≤ w'.heap.size
  old : ∀ g, g < w.heap.size → ρ' g = ρ g
  same : ∀ g, g < w.heap.size → ρ g = 0 → ¬ X g → w'.heap[g]? = w.heap[g]?
  lab : ∀ g, w'.heap.size ≤ g → ρ' g = ρ g
theorem TouchX.refl (X : Nat → Prop) (ρ : Nat → Nat) (w : World) : TouchX X ρ ρ w w := ⟨rfl, rfl, rfl, Nat.le_refl _, fun _ _ => rfl, fun _ _ _ _ => rfl, fun _ _ => rfl⟩
theorem TouchX.of {X : Nat → Prop} {ρ ρ' : Nat → Nat} {w w' : World} (t : Touch RA ρ ρ' w w') : TouchX X ρ ρ' w w' :=
  ⟨t.os, t.tape, t.output, t.size, t.old, fun g hg h0 _ => t.same g hg (fun h => h h0), t.lab⟩
theorem TouchX.below {X : Nat → Prop} {ρ : Nat → Nat} {w w' : World} (t : Below w.heap.size w w') : TouchX X ρ ρ w w' :=
  ⟨t.os, t.tape, t.output, t.size, fun _ _ => rfl, fun g hg _ _ => t.block g hg, fun _ _ => rfl⟩
theorem TouchX.mono {X Y : Nat → Prop} {ρ ρ' : Nat → Nat} {w w' : World} (t : TouchX X ρ ρ' w w') (h : ∀ g, g < w.heap.size → X g → Y g) : TouchX Y ρ ρ' w w' :=
  ⟨t.os, t.tape, t.output, t.size, t.old, fun g hg h0 hx => t.same g hg h0 (fun k => hx (h g hg k)), t.lab⟩
theorem TouchX.trans {X : Nat → Prop} {ρ ρ' ρ'' : Nat → Nat} {a b c : World} (h : TouchX X ρ ρ' a b) (k : TouchX X ρ' ρ'' b c) : TouchX X ρ ρ'' a c :=
  ⟨k.os.trans h.os, k.tape.trans h.tape, k.output.trans h.output, Nat.le_trans h.size k.size, fun g hg => (k.old g (Nat.lt_of_lt_of_le hg h.size)).trans (h.old g hg),
    fun g hg h0 hx => (k.same g (Nat.lt_of_lt_of_le hg h.size) ((h.old g hg).trans h0) hx).trans (h.same g hg h0 hx), fun g hg => (k.lab g hg).trans (h.lab g (Nat.le_trans k.size hg))⟩
theorem TouchX.set {X : Nat → Prop} {ρ ρ' : Nat → Nat} {w w' : World} (t : TouchX X ρ ρ' w w') (p : Addr) (v : Value) (hp : X p.block) : TouchX X ρ ρ' w (w'.setCell p v) := by
  have hsz : (w'.setCell p v).heap.size = w'.heap.size := by simp [World.setCell]
  exact ⟨t.os, t.tape, t.output, by rw [hsz]; exact t.size, t.old, fun g hg h0 hx => (heap_setCell_other w' _ g v (fun e => hx (by rw [e]; exact hp))).trans (t.same g hg h0 hx), fun g hg => t.lab g (by rw [hsz] at hg; exact hg)⟩
theorem TouchX.hd {X : Nat → Prop} {ρ ρ' : Nat → Nat} {w w' : World} (t : TouchX X ρ ρ' w w') {s b : Nat} {S : Stor} {vs vr : Value} (h : Hd w s b S vs vr) (h0 : ρ s = 0) (hx : ¬ X s) : Hd w' s b S vs vr :=
  h.same (t.same s h.lt h0 hx)
/-- A cell outside a disk is another now. -/
theorem diskAt_set {w : World} {ρ : Nat → Nat} {b : Nat} {D : Disk} (h : DiskAt w ρ b D) (p : Addr) (v : Value) (hp : ρ p.block = 0) : DiskAt (w.setCell p v) ρ b D := by
  have hsz : (w.setCell p v).heap.size = w.heap.size := by simp [World.setCell]
  refine h.touch (R := fun r => r = 0) ⟨rfl, rfl, rfl, by rw [hsz]; exact Nat.le_refl _, fun _ _ => rfl, fun g hg hr => heap_setCell_other w _ g v (fun e => hr (by rw [e]; exact hp)), fun _ _ => rfl⟩ (fun r hr e => hr e)
/-- A cell of a store is another now. -/
theorem hd_set {w : World} {s b : Nat} {S S' : Stor} {vs vr vs' vr' v : Value} (h : Hd w s b S vs vr) (j : Nat) (hc : (stCells b S vs vr).setIfInBounds j v = stCells b S' vs' vr') : Hd (w.setCell ⟨s, j, none⟩ v) s b S' vs' vr' := by
  unfold Hd
  rw [← hc]
  exact heap_setCell_same _ _ _ _ _ _ h
/-- What a call of a store says that touches but the disk and the store's own cells. -/
def Doing (ρ : Nat → Nat) (s b : Nat) (vs vr : Value) (r : Res) (w : World) (e : Ending) (w' : World) : Prop :=
  e = .returned (.int .i64 r.2.2) ∧ ∃ ρ', DiskAt w' ρ' b r.1 ∧ Hd w' s b r.2.1 vs vr ∧ TouchX (· = s) ρ ρ' w w'

set_option maxRecDepth 100000 in
theorem ssync_any {w : World} {ρ : Nat → Nat} {s b : Nat} {D : Disk} {S : Stor} {vs : Value} {ar : Option Addr} {cr : Nat} (h : DiskAt w ρ b D) (hs : Small D) (hd : Hd w s b S vs (.slice ar S.recs.length cr)) (h0 : ρ s = 0) :
    Calls Tryz.prog 47 #[.pointer (some ⟨s, 0, none⟩)] w (Doing ρ s b vs (.slice ar S.recs.length cr) (syncS D S) w) := by
  have hsy := sync_any h hs
  obtain ⟨q0, -⟩ := hd_cells hd
  have H := Lib.hid (And.intro hsy (And.intro hd h0))
  obtain ⟨N, hN⟩ : ∃ N, N = S.recs.length := ⟨_, rfl⟩
  rw [← hN]
  have HN := Lib.hid hN
  clear hsy hd h0 h hs hN
  unfold syncS
  generalize D.sync = r at *
  obtain ⟨D1, q⟩ := r
  go_enter Tryz.func47, Tryz.ntmps47
  go_wp2_with fail
  refine H.out.1.mono ?_
  rintro e w' ⟨rfl, ρ', hD, ht⟩
  have hd' : Hd w' s b S vs (.slice ar N cr) := by
    have := (TouchX.of (X := fun _ => False) ht).hd H.out.2.1 H.out.2.2 (fun k => k)
    rwa [HN.out]
  obtain ⟨-, -, -, -, -, q5, q6⟩ := hd_cells hd'
  have f6 := hd_free hd' 6
  have H2 := Lib.hid (And.intro hD (And.intro ht hd'))
  clear hD ht hd'
  by_cases hq : q = 0
  · subst hq
    go_wp2_with fail
    go_ret
    rw [andS_ok rfl]
    refine ⟨rfl, ρ', diskAt_set H2.out.1 _ _ ((H2.out.2.1.old s (Hd.lt H.out.2.1)).trans H.out.2.2), hd_set H2.out.2.2 6 (by rw [HN.out]; rfl), (TouchX.of H2.out.2.1).set _ _ rfl⟩
  · have hq' : (q == 0) = false := by simpa using hq
    go_wp2_with fail
    go_ret
    rw [andS_no hq]
    exact ⟨rfl, ρ', H2.out.1, H2.out.2.2, TouchX.of H2.out.2.1⟩
end Go.Proofs.YtdmbombjkinboaaGreat
