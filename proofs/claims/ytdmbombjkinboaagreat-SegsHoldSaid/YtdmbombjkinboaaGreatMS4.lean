/- Merged by program: A store in memory: its cells, its rows; what its calls may touch. The calls that only read, and sync. | segs: rows of segments; what is read of a store: last, fell, Left, mayTurn, free. | segs: free: the least extent that no segment has. | segs: framed, put, lay, turn. | Own rows of items without lists, and of segments: append of one. -/
import Derived.Test.YtdmbombjkinboaaGreatYMath
import Derived.Test.YtdmbombjkinboaaGreatMD3
import Derived.Test.YtdmbombjkinboaaGreatMF2
import Derived.BigQuiet
import Derived.Test.YtdmbombjkinboaaGreatMC5
import Derived.Test.YtdmbombjkinboaaGreatMC6
import Derived.Deep.RegionWith
import Derived.Test.YtdmbombjkinboaaGreatMC4
namespace Go.Proofs.YtdmbombjkinboaaGreat
open Go.RowKit
open Dk Sg

def stCells (b : Nat) (S : Stor) (vs vr : Value) : Array Value :=
  #[.pointer (some ⟨b, 0, none⟩), .int .i64 S.falls, .int .i64 (S.at_ : Int), .int .i64 (S.epoch : Int), vs, vr, .int .i64 (S.sure : Int)]
/-- The cells of a store. -/
def Hd (w : World) (s b : Nat) (S : Stor) (vs vr : Value) : Prop := w.heap[s]? = some (.cells (stCells b S vs vr) 69 (0, 0))
theorem hd_cells {w : World} {s b : Nat} {S : Stor} {vs vr : Value} (h : Hd w s b S vs vr) :
    w.cell? ⟨s, 0, none⟩ = some (.pointer (some ⟨b, 0, none⟩)) ∧ w.cell? ⟨s, 1, none⟩ = some (.int .i64 S.falls) ∧ w.cell? ⟨s, 2, none⟩ = some (.int .i64 (S.at_ : Int)) ∧
    w.cell? ⟨s, 3, none⟩ = some (.int .i64 (S.epoch : Int)) ∧ w.cell? ⟨s, 4, none⟩ = some vs ∧ w.cell? ⟨s, 5, none⟩ = some vr ∧ w.cell? ⟨s, 6, none⟩ = some (.int .i64 (S.sure : Int)) := by
  unfold Hd at h
  refine ⟨?_, ?_, ?_, ?_, ?_, ?_, ?_⟩ <;> (rw [cell_of_row _ _ _ _ _ _ h]; rfl)
theorem hd_free {w : World} {s b : Nat} {S : Stor} {vs vr : Value} (h : Hd w s b S vs vr) (j : Nat) : w.frozen? ⟨s, j, none⟩ = false := frozen_of_row _ _ _ _ _ h
theorem Hd.lt {w : World} {s b : Nat} {S : Stor} {vs vr : Value} (h : Hd w s b S vs vr) : s < w.heap.size := (Array.getElem?_eq_some_iff.1 h).1
theorem Hd.same {w w' : World} {s b : Nat} {S : Stor} {vs vr : Value} (h : Hd w s b S vs vr) (e : w'.heap[s]? = w.heap[s]?) : Hd w' s b S vs vr := e.trans h
/-- A change of the world: blocks with a role, and those of X, may be written; no other one has turned. -/
structure TouchX (X : Nat → Prop) (ρ ρ' : Nat → Nat) (w w' : World) : Prop where
  os : w'.os = w.os
  tape : w'.tape = w.tape
  output : w'.output = w.output
  size : w.heap.size ≤ w'.heap.size
  old : ∀ g, g < w.heap.size → ρ' g = ρ g
  same : ∀ g, g < w.heap.size → ρ g = 0 → ¬ X g → w'.heap[g]? = w.heap[g]?
  lab : ∀ g, w'.heap.size ≤ g → ρ' g = ρ g
theorem TouchX.refl (X : Nat → Prop) (ρ : Nat → Nat) (w : World) : TouchX X ρ ρ w w := ⟨rfl, rfl, rfl, Nat.le_refl _, fun _ _ => rfl, fun _ _ _ _ => rfl, fun _ _ => rfl⟩
theorem TouchX.of {X : Nat → Prop} {ρ ρ' : Nat → Nat} {w w' : World} (t : Touch RA ρ ρ' w w') : TouchX X ρ ρ' w w' :=
  ⟨t.os, t.tape, t.output, t.size, t.old, fun g hg h0 _ => t.same g hg (fun h => h h0), t.lab⟩
theorem TouchX.below {X : Nat → Prop} {ρ : Nat → Nat} {w w' : World} (t : Below w.heap.size w w') : TouchX X ρ ρ w w' :=
  ⟨t.os, t.tape, t.output, t.size, fun _ _ => rfl, fun g hg _ _ => t.block g hg, fun _ _ => rfl⟩
theorem TouchX.mono {X Y : Nat → Prop} {ρ ρ' : Nat → Nat} {w w' : World} (t : TouchX X ρ ρ' w w') (h : ∀ g, g < w.heap.size → X g → Y g) : TouchX Y ρ ρ' w w' :=
  ⟨t.os, t.tape, t.output, t.size, t.old, fun g hg h0 hx => t.same g hg h0 (fun k => hx (h g hg k)), t.lab⟩
theorem TouchX.trans {X : Nat → Prop} {ρ ρ' ρ'' : Nat → Nat} {a b c : World} (h : TouchX X ρ ρ' a b) (k : TouchX X ρ' ρ'' b c) : TouchX X ρ ρ'' a c :=
  ⟨k.os.trans h.os, k.tape.trans h.tape, k.output.trans h.output, Nat.le_trans h.size k.size, fun g hg => (k.old g (Nat.lt_of_lt_of_le hg h.size)).trans (h.old g hg),
    fun g hg h0 hx => (k.same g (Nat.lt_of_lt_of_le hg h.size) ((h.old g hg).trans h0) hx).trans (h.same g hg h0 hx), fun g hg => (k.lab g hg).trans (h.lab g (Nat.le_trans k.size hg))⟩
theorem TouchX.set {X : Nat → Prop} {ρ ρ' : Nat → Nat} {w w' : World} (t : TouchX X ρ ρ' w w') (p : Addr) (v : Value) (hp : X p.block) : TouchX X ρ ρ' w (w'.setCell p v) := by
  have hsz : (w'.setCell p v).heap.size = w'.heap.size := by simp [World.setCell]
  exact ⟨t.os, t.tape, t.output, by rw [hsz]; exact t.size, t.old, fun g hg h0 hx => (heap_setCell_other w' _ g v (fun e => hx (by rw [e]; exact hp))).trans (t.same g hg h0 hx), fun g hg => t.lab g (by rw [hsz] at hg; exact hg)⟩
theorem TouchX.hd {X : Nat → Prop} {ρ ρ' : Nat → Nat} {w w' : World} (t : TouchX X ρ ρ' w w') {s b : Nat} {S : Stor} {vs vr : Value} (h : Hd w s b S vs vr) (h0 : ρ s = 0) (hx : ¬ X s) : Hd w' s b S vs vr :=
  h.same (t.same s h.lt h0 hx)
/-- A cell outside a disk is another now. -/
theorem diskAt_set {w : World} {ρ : Nat → Nat} {b : Nat} {D : Disk} (h : DiskAt w ρ b D) (p : Addr) (v : Value) (hp : ρ p.block = 0) : DiskAt (w.setCell p v) ρ b D := by
  have hsz : (w.setCell p v).heap.size = w.heap.size := by simp [World.setCell]
  refine h.touch (R := fun r => r = 0) ⟨rfl, rfl, rfl, by rw [hsz]; exact Nat.le_refl _, fun _ _ => rfl, fun g hg hr => heap_setCell_other w _ g v (fun e => hr (by rw [e]; exact hp)), fun _ _ => rfl⟩ (fun r hr e => hr e)
/-- A cell of a store is another now. -/
theorem hd_set {w : World} {s b : Nat} {S S' : Stor} {vs vr vs' vr' v : Value} (h : Hd w s b S vs vr) (j : Nat) (hc : (stCells b S vs vr).setIfInBounds j v = stCells b S' vs' vr') : Hd (w.setCell ⟨s, j, none⟩ v) s b S' vs' vr' := by
  unfold Hd
  rw [← hc]
  exact heap_setCell_same _ _ _ _ _ _ h
/-- What a call of a store says that touches but the disk and the store's own cells. -/
def Doing (ρ : Nat → Nat) (s b : Nat) (vs vr : Value) (r : Res) (w : World) (e : Ending) (w' : World) : Prop :=
  e = .returned (.int .i64 r.2.2) ∧ ∃ ρ', DiskAt w' ρ' b r.1 ∧ Hd w' s b r.2.1 vs vr ∧ TouchX (· = s) ρ ρ' w w'

set_option maxRecDepth 100000 in
theorem ssync_any {w : World} {ρ : Nat → Nat} {s b : Nat} {D : Disk} {S : Stor} {vs : Value} {ar : Option Addr} {cr : Nat} (h : DiskAt w ρ b D) (hs : Small D) (hd : Hd w s b S vs (.slice ar S.recs.length cr)) (h0 : ρ s = 0) :
    Calls Tryz.prog 47 #[.pointer (some ⟨s, 0, none⟩)] w (Doing ρ s b vs (.slice ar S.recs.length cr) (syncS D S) w) := by
  have hsy := sync_any h hs
  obtain ⟨q0, -⟩ := hd_cells hd
  have H := Lib.hid (And.intro hsy (And.intro hd h0))
  obtain ⟨N, hN⟩ : ∃ N, N = S.recs.length := ⟨_, rfl⟩
  rw [← hN]
  have HN := Lib.hid hN
  clear hsy hd h0 h hs hN
  unfold syncS
  generalize D.sync = r at *
  obtain ⟨D1, q⟩ := r
  go_enter Tryz.func47, Tryz.ntmps47
  go_wp2_with fail
  refine H.out.1.mono ?_
  rintro e w' ⟨rfl, ρ', hD, ht⟩
  have hd' : Hd w' s b S vs (.slice ar N cr) := by
    have := (TouchX.of (X := fun _ => False) ht).hd H.out.2.1 H.out.2.2 (fun k => k)
    rwa [HN.out]
  obtain ⟨-, -, -, -, -, q5, q6⟩ := hd_cells hd'
  have f6 := hd_free hd' 6
  have H2 := Lib.hid (And.intro hD (And.intro ht hd'))
  clear hD ht hd'
  by_cases hq : q = 0
  · subst hq
    go_wp2_with fail
    go_ret
    rw [andS_ok rfl]
    refine ⟨rfl, ρ', diskAt_set H2.out.1 _ _ ((H2.out.2.1.old s (Hd.lt H.out.2.1)).trans H.out.2.2), hd_set H2.out.2.2 6 (by rw [HN.out]; rfl), (TouchX.of H2.out.2.1).set _ _ rfl⟩
  · have hq' : (q == 0) = false := by simpa using hq
    go_wp2_with fail
    go_ret
    rw [andS_no hq]
    exact ⟨rfl, ρ', H2.out.1, H2.out.2.2, TouchX.of H2.out.2.1⟩
end Go.Proofs.YtdmbombjkinboaaGreat
namespace Go.Proofs.YtdmbombjkinboaaGreat
open Go.RowKit
open Dk Sg

def segCells (l : List (Nat × Nat)) : List Value := l.flatMap fun x => [.int .i64 (x.1 : Int), .int .i64 (x.2 : Int)]
theorem segCells_length : ∀ l : List (Nat × Nat), (segCells l).length = l.length * 2
  | [] => rfl
  | x :: l => by
    have h := segCells_length l
    unfold segCells at h ⊢
    rw [List.flatMap_cons, List.length_append, h, List.length_cons]; simp; omega
theorem segCells_snoc (l : List (Nat × Nat)) (x : Nat × Nat) : segCells (l ++ [x]) = segCells l ++ [.int .i64 (x.1 : Int), .int .i64 (x.2 : Int)] := by
  unfold segCells; simp
theorem segCells_at : ∀ (l : List (Nat × Nat)) (k : Nat) (x : Nat × Nat), l[k]? = some x → (segCells l)[k * 2]? = some (.int .i64 (x.1 : Int)) ∧ (segCells l)[k * 2 + 1]? = some (.int .i64 (x.2 : Int))
  | [], k, x, h => by simp at h
  | y :: l, 0, x, h => by
    simp only [List.getElem?_cons_zero, Option.some.injEq] at h
    subst h
    exact ⟨rfl, rfl⟩
  | y :: l, k + 1, x, h => by
    have ih := segCells_at l k x (by simpa using h)
    have e : segCells (y :: l) = .int .i64 (y.1 : Int) :: .int .i64 (y.2 : Int) :: segCells l := rfl
    rw [e, show (k + 1) * 2 = k * 2 + 1 + 1 by omega, List.getElem?_cons_succ, List.getElem?_cons_succ, List.getElem?_cons_succ]
    exact ⟨ih.1, ih.2⟩
/-- A row of segments that the store owns. -/
def OwnG (w : World) (a : Option Addr) (cap : Nat) (l : List (Nat × Nat)) : Prop := w.ownsRow 0 86 2 (.slice a l.length cap) l.length (segCells l)
theorem OwnG.at {w : World} {a : Option Addr} {cap : Nat} {l : List (Nat × Nat)} (h : OwnG w a cap l) {i : Nat} {x : Nat × Nat} (hx : l[i]? = some x) :
    ∃ g, a = some ⟨g, 0, none⟩ ∧ w.cell? ⟨g, i * 2, none⟩ = some (.int .i64 (x.1 : Int)) ∧ w.cell? ⟨g, i * 2 + 1, none⟩ = some (.int .i64 (x.2 : Int)) ∧ g < w.heap.size := by
  have hi : i < l.length := (List.getElem?_eq_some_iff.1 hx).1
  rcases h.2 with ⟨e, hn⟩ | ⟨g, c, cur, e, hB, hg, hn, hc, hs, ht⟩
  · omega
  · injection e with e1 e2 e3
    subst e1 e3
    have h1 := World.ownsRow.cellAt h (i * 2) (by omega)
    have h2 := World.ownsRow.cellAt h (i * 2 + 1) (by omega)
    obtain ⟨k1, k2⟩ := segCells_at l i x hx
    exact ⟨g, rfl, h1.trans k1, h2.trans k2, (World.ownsRow.lt h g rfl).2⟩
theorem OwnG.cap {w : World} {a : Option Addr} {cap : Nat} {l : List (Nat × Nat)} (h : OwnG w a cap l) : l.length ≤ cap ∧ cap ≤ maxLen := by
  rcases h.2 with ⟨e, hn⟩ | ⟨g, c, cur, e, hB, hg, hn, hc, hs, ht⟩
  · injection e with _ _ e3
    subst e3
    exact ⟨by omega, Nat.zero_le _⟩
  · injection e with e1 e2 e3
    subst e3
    exact ⟨hn, hc⟩
theorem OwnG.same {w w' : World} {a : Option Addr} {cap : Nat} {l : List (Nat × Nat)} (h : OwnG w a cap l) (hs : ∀ g, (Value.slice a l.length cap).ownBlock = some g → w'.heap[g]? = w.heap[g]?) : OwnG w' a cap l := ownsRow_same h hs
theorem OwnG.call {w w' : World} {a : Option Addr} {cap : Nat} {l : List (Nat × Nat)} (h : OwnG w a cap l) (hb : Below w.heap.size w w') : OwnG w' a cap l := ownsRow_below h hb

theorem still {f : Nat} {args : Array Value} {w : World} {x : Ending} (h : Calls Tryz.prog f args w fun e w' => e = x ∧ w = w') : Calls Tryz.prog f args w fun e w' => e = x ∧ w' = w := h.mono fun _ _ ⟨a, b⟩ => ⟨a, b.symm⟩
set_option maxRecDepth 100000 in
theorem slast_any {w : World} {s b : Nat} {S : Stor} {a : Option Addr} {cap : Nat} {vr : Value} (hd : Hd w s b S (.slice a S.segs.length cap) vr) (ho : OwnG w a cap S.segs) (hne : S.segs ≠ []) :
    Calls Tryz.prog 41 #[.pointer (some ⟨s, 0, none⟩)] w fun e w' => e = .returned (.int .i64 (S.last : Int)) ∧ ∃ m, w' = w.drewN m := by
  obtain ⟨-, -, -, -, q4, -⟩ := hd_cells hd
  obtain ⟨n, hn⟩ : ∃ n, S.segs.length = n + 1 := ⟨S.segs.length - 1, by have := List.length_pos_iff.2 hne; omega⟩
  obtain ⟨x, hx⟩ : ∃ x, S.segs[n]? = some x := ⟨_, List.getElem?_eq_getElem (by omega)⟩
  have hl : S.last = x.1 := by
    unfold Stor.last
    rw [List.getLastD_eq_getLast?, List.getLast?_eq_getElem?, hn, Nat.add_sub_cancel, hx]; rfl
  obtain ⟨g, rfl, c0, -, -⟩ := ho.at hx
  have hm := ho.cap
  unfold maxLen at hm
  rw [hl]
  rw [hn] at q4
  have H := Lib.hid hn
  clear ho hne hx hl hd hn
  obtain ⟨x1, x2⟩ := x
  simp only at c0 ⊢
  have hn1 : n < 9223372036854775807 := by have := H.out; omega
  clear hm
  have e1 : (((n + 1 : Nat) : Int)) - 1 = (n : Int) := by omega
  go_enter Tryz.func41, Tryz.ntmps41
  go_wp2_with fail
  go_quiet (fail)
  go_wp2_with fail
  go_ret
  exact ⟨rfl, _, rfl⟩

set_option maxRecDepth 100000 in
theorem sfell_any {w : World} {ρ : Nat → Nat} {s b : Nat} {D : Disk} {S : Stor} {vs vr : Value} (h : DiskAt w ρ b D) (hd : Hd w s b S vs vr) :
    Calls Tryz.prog 39 #[.pointer (some ⟨s, 0, none⟩)] w fun e w' => e = .returned (.bool (fellS D S)) ∧ Below w.heap.size w w' := by
  have hdn := fun (n : Nat) => down_any (h.below (below_dN w n))
  have hfl := fun (n : Nat) => falls_any (h.below (below_dN w n))
  obtain ⟨q0, q1, -⟩ := hd_cells hd
  clear h hd
  unfold fellS
  generalize D.falls = f at *
  generalize S.falls = f' at *
  generalize D.down = dn at *
  have H := Lib.hid (And.intro hdn hfl)
  clear hdn hfl
  cases dn with
  | true =>
    go_enter Tryz.func39, Tryz.ntmps39
    go_wp2_with fail
    go_quiet ((go_at_call 29; exact Calls.quiet_of_same (still (H.out.1 _))))
    go_wp2_with fail
    go_ret
    exact ⟨rfl, below_dN _ _⟩
  | false =>
    go_enter Tryz.func39, Tryz.ntmps39
    go_wp2_with fail
    go_quiet ((first | (go_at_call 29; exact Calls.quiet_of_same (still (H.out.1 _))) | (go_at_call 48; exact Calls.quiet_of_same (still (H.out.2 _)))))
    go_wp2_with fail
    go_ret
    exact ⟨rfl, below_dN _ _⟩

set_option maxRecDepth 100000 in
theorem sleft_any {w : World} {ρ : Nat → Nat} {s b : Nat} {D : Disk} {S : Stor} {a : Option Addr} {cap : Nat} {vr : Value} (h : DiskAt w ρ b D) (hd : Hd w s b S (.slice a S.segs.length cap) vr) (hn : S.segs.length ≤ 1000000) :
    Calls Tryz.prog 22 #[.pointer (some ⟨s, 0, none⟩)] w fun e w' => e = .returned (.int .i64 (leftS D S)) ∧ Below w.heap.size w w' := by
  have hex := fun (n : Nat) => extents_any (h.below (below_dN w n))
  have hnum := h.ok.num
  obtain ⟨q0, -, -, -, q4, -⟩ := hd_cells hd
  clear h hd
  unfold leftS
  generalize D.sure.length = L at *
  generalize S.segs.length = n at *
  have H := Lib.hid hex
  clear hex
  go_enter Tryz.func22, Tryz.ntmps22
  go_wp2_with fail
  go_quiet ((go_at_call 33; exact Calls.quiet_of_same (still (H.out _))))
  go_wp2_with fail
  go_ret
  exact ⟨rfl, below_dN _ _⟩
theorem sleft_nil (w : World) : Calls Tryz.prog 22 #[.pointer none] w fun e w' => e = .returned (.int .i64 0) ∧ Below w.heap.size w w' := by
  go_enter Tryz.func22, Tryz.ntmps22
  go_wp2_with fail
  go_ret
  exact ⟨rfl, Below.refl _ _⟩
set_option maxRecDepth 100000 in
theorem mayTurn_any {w : World} {ρ : Nat → Nat} {s b : Nat} {D : Disk} {S : Stor} {a : Option Addr} {cap : Nat} {vr : Value} (h : DiskAt w ρ b D) (hd : Hd w s b S (.slice a S.segs.length cap) vr) (hn : S.segs.length ≤ 1000000) :
    Calls Tryz.prog 63 #[.pointer (some ⟨s, 0, none⟩)] w fun e w' => e = .returned (.int .i64 (mayTurnS D S)) ∧ Below w.heap.size w w' := by
  have hl := sleft_any h hd hn
  have H := Lib.hid (And.intro hl hd)
  clear hl h hd hn
  unfold mayTurnS
  generalize leftS D S = l at *
  generalize hE : S.epoch = E at *
  go_enter Tryz.func63, Tryz.ntmps63
  go_wp2_with fail
  refine H.out.1.mono ?_
  rintro e w' ⟨rfl, hb⟩
  obtain ⟨-, -, -, q3, -⟩ := hd_cells (H.out.2.same (hb.block _ H.out.2.lt))
  rw [hE] at q3
  have HB := Lib.hid hb
  clear hb hE
  by_cases hl0 : l = 0
  · subst hl0
    go_wp2_with fail
    go_ret
    exact ⟨rfl, HB.out⟩
  · have hl1 : (l == 0) = false := by simpa using hl0
    by_cases hE : E = 1099511627776
    · subst hE
      go_wp2_with fail
      go_ret
      exact ⟨rfl, HB.out⟩
    · have hE1 : ((E : Int) == 1099511627776) = false := by simp; omega
      go_wp2_with fail
      go_ret
      exact ⟨rfl, HB.out⟩
theorem slen_any {w : World} {s b : Nat} {S : Stor} {vs : Value} {a : Option Addr} {n cap : Nat} (hd : Hd w s b S vs (.slice a n cap)) :
    Calls Tryz.prog 12 #[.pointer (some ⟨s, 0, none⟩)] w fun e w' => e = .returned (.int .i64 (n : Int)) ∧ w = w' := by
  obtain ⟨-, -, -, -, -, q5, -⟩ := hd_cells hd
  clear hd
  go_enter Tryz.func12, Tryz.ntmps12
  go_wp2_with fail
  go_ret
  exact ⟨rfl, rfl⟩
theorem slen_nil (w : World) : Calls Tryz.prog 12 #[.pointer none] w fun e w' => e = .returned (.int .i64 0) ∧ w = w' := by
  go_enter Tryz.func12, Tryz.ntmps12
  go_wp2_with fail
  go_ret
  exact ⟨rfl, rfl⟩
theorem ssure_any {w : World} {s b : Nat} {S : Stor} {vs vr : Value} (hd : Hd w s b S vs vr) :
    Calls Tryz.prog 15 #[.pointer (some ⟨s, 0, none⟩)] w fun e w' => e = .returned (.int .i64 (S.sure : Int)) ∧ w = w' := by
  obtain ⟨-, -, -, -, -, -, q6⟩ := hd_cells hd
  clear hd
  go_enter Tryz.func15, Tryz.ntmps15
  go_wp2_with fail
  go_ret
  exact ⟨rfl, rfl⟩
theorem ssure_nil (w : World) : Calls Tryz.prog 15 #[.pointer none] w fun e w' => e = .returned (.int .i64 0) ∧ w = w' := by
  go_enter Tryz.func15, Tryz.ntmps15
  go_wp2_with fail
  go_ret
  exact ⟨rfl, rfl⟩
end Go.Proofs.YtdmbombjkinboaaGreat
namespace Go.Proofs.YtdmbombjkinboaaGreat
open Go.RowKit
open Dk Sg

theorem free1_any (w : World) (x : Nat × Nat) (p : Nat) (y : Nat) (hp : w.cell? ⟨p, 0, none⟩ = some (.int .i64 (y : Int))) :
    Calls Tryz.prog 84 #[.agg #[.int .i64 (x.1 : Int), .int .i64 (x.2 : Int)], .pointer (some ⟨p, 0, none⟩)] w fun e w' => e = .returned (.bool (decide (x.1 = y))) ∧ Below w.heap.size w w' := by
  obtain ⟨x1, x2⟩ := x
  have hb : ∀ o, Below w.heap.size w (w.alloc o) := fun o => (Below.refl _ _).alloc (Nat.le_refl _) o
  have hlt := World.block_lt_of_cell? w _ hp
  have hp2 : ∀ o, (w.alloc o).cell? ⟨p, 0, none⟩ = some (.int .i64 (y : Int)) := fun o => by rw [World.cell?_alloc_lt _ _ _ (by simpa using hlt)]; exact hp
  simp only
  by_cases h : x1 = y
  · subst h
    have H := Lib.hid hb
    clear hb hlt hp
    go_enter Tryz.func84, Tryz.ntmps84
    go_wp2_with fail
    go_ret
    exact ⟨by simp, H.out _⟩
  · have h1 : ((x1 : Int) == (y : Int)) = false := by simp; omega
    have H := Lib.hid (And.intro hb h)
    clear hb hlt hp
    go_enter Tryz.func84, Tryz.ntmps84
    go_wp2_with fail
    go_ret
    exact ⟨by simp [H.out.2], H.out.1 _⟩
set_option maxRecDepth 100000 in
theorem indexFree_any (l : List (Nat × Nat)) (a : Option Addr) (cap : Nat) (p y : Nat) (w : World) (ho : OwnG w a cap l) (hp : w.cell? ⟨p, 0, none⟩ = some (.int .i64 (y : Int))) :
    Calls Tryz.prog 101 #[.slice a l.length cap, .func (.func 84) #[] #[.pointer (some ⟨p, 0, none⟩)]] w fun e w' =>
      (∃ k : Int, e = .returned (.int .i64 k) ∧ (0 ≤ k ↔ y ∈ l.map (·.1))) ∧ Below w.heap.size w w' := by
  have hlt := World.block_lt_of_cell? w _ hp
  obtain ⟨N, hN⟩ : ∃ N, N = l.length := ⟨_, rfl⟩
  have hm : N ≤ 9223372036854775807 := by have := ho.cap; unfold maxLen at this; omega
  rw [← hN]
  have H := Lib.hid (And.intro ho (And.intro hp (And.intro hN hlt)))
  clear ho hp hN hlt
  go_enter Tryz.func101, Tryz.ntmps101
  go_wp2_with fail
  go_loopw [8, 5] (fun iv _ wr => ∃ i : Nat, i ≤ N ∧ iv = .int .i64 i ∧ Below w.heap.size w wr ∧ ∀ x ∈ l.take i, x.1 ≠ y) (fun iv _ _ => N - (intOf iv).toNat)
  case atStart => exact ⟨0, by omega, rfl, Below.refl _ _, fun x hx => by simp at hx⟩
  case round =>
    obtain ⟨i, hi, rfl, hb, hno⟩ := hrel
    have HR := Lib.hid (And.intro hb hno)
    clear hb hno
    by_cases hlt : i < N
    · obtain ⟨x, hx⟩ : ∃ x, l[i]? = some x := ⟨_, List.getElem?_eq_getElem (by have := H.out.2.2.1; omega)⟩
      obtain ⟨g, rfl, c0, c1, -⟩ := (H.out.1.call HR.out.1).at hx
      have hf := fun W (hb : Below wr.heap.size wr W) => free1_any W x p y (by rw [World.cell?, (HR.out.1.trans (hb.mono HR.out.1.size)).block _ H.out.2.2.2]; exact H.out.2.1)
      have HX := Lib.hid (And.intro hx hf)
      clear hf hx
      obtain ⟨x1, x2⟩ := x
      go_wp2_with fail
      refine (HX.out.2 _ (Below.refl _ _)).mono ?_
      rintro e w' ⟨rfl, hb'⟩
      have hb2 := HR.out.1.trans (hb'.mono HR.out.1.size)
      have HB := Lib.hid hb2
      clear hb' hb2
      by_cases hxy : x1 = y
      · have hd : decide ((x1, x2).1 = y) = true := decide_eq_true hxy
        have HXY := Lib.hid hxy
        clear hxy
        go_wp2_with fail
        go_ret
        exact ⟨⟨_, rfl, ⟨fun _ => List.mem_map.2 ⟨_, List.mem_of_getElem? HX.out.1, HXY.out⟩, fun _ => by omega⟩⟩, HB.out⟩
      · have hd : decide ((x1, x2).1 = y) = false := decide_eq_false hxy
        have HXY := Lib.hid hxy
        clear hxy
        go_wp2_with fail
        go_roundw
        case rel =>
          refine ⟨i + 1, by omega, by go_num, HB.out, fun z hz => ?_⟩
          rw [List.take_add_one, HX.out.1] at hz
          rcases List.mem_append.1 hz with hz | hz
          · exact HR.out.2 z hz
          · simp at hz
            rw [hz]; exact HXY.out
        case measure => simp [intOf]; omega
    · obtain rfl : i = N := by omega
      go_wp2_with fail
      go_ret
      refine ⟨⟨_, rfl, ⟨fun h => absurd h (by decide), fun h => ?_⟩⟩, HR.out.1⟩
      obtain ⟨z, hz, hzy⟩ := List.mem_map.1 h
      exact absurd hzy (HR.out.2 z (by rw [H.out.2.2.1, List.take_length]; exact hz))
theorem containsFree_any (l : List (Nat × Nat)) (a : Option Addr) (cap : Nat) (p y : Nat) (w : World) (ho : OwnG w a cap l) (hp : w.cell? ⟨p, 0, none⟩ = some (.int .i64 (y : Int))) :
    Calls Tryz.prog 83 #[.slice a l.length cap, .func (.func 84) #[] #[.pointer (some ⟨p, 0, none⟩)]] w fun e w' =>
      e = .returned (.bool (decide (y ∈ l.map (·.1)))) ∧ Below w.heap.size w w' := by
  have H := Lib.hid (indexFree_any l a cap p y w ho hp)
  clear ho hp
  generalize l.length = N at *
  go_enter Tryz.func83, Tryz.ntmps83
  go_wp2_with fail
  refine H.out.mono ?_
  rintro e w' ⟨⟨k, rfl, hk⟩, hb⟩
  have HB := Lib.hid hb
  clear hb
  go_wp2_with fail
  go_ret
  refine ⟨?_, HB.out⟩
  show Ending.returned (.bool (decide _)) = _
  congr 2
  exact decide_eq_decide.2 hk
theorem freeN_in {l : List Nat} {f x : Nat} (h : x ∈ l) : freeN l (f + 1) x = freeN l f (x + 1) := by rw [freeN, if_pos h]
theorem freeN_no {l : List Nat} {f x : Nat} (h : x ∉ l) : freeN l f x = x := by
  cases f with
  | zero => rfl
  | succ f => rw [freeN, if_neg h]
set_option maxRecDepth 100000 in
theorem sfree_any {w : World} {s b : Nat} {S : Stor} {a : Option Addr} {cap : Nat} {vr : Value} (hd : Hd w s b S (.slice a S.segs.length cap) vr) (ho : OwnG w a cap S.segs) (hx : ∀ x ∈ S.exts, x < 64) :
    Calls Tryz.prog 64 #[.pointer (some ⟨s, 0, none⟩)] w fun e w' => e = .returned (.int .i64 (S.free : Int)) ∧ Below w.heap.size w w' := by
  have H := Lib.hid (And.intro hd (And.intro ho hx))
  obtain ⟨N, hN⟩ : ∃ N, N = S.segs.length := ⟨_, rfl⟩
  have HN := Lib.hid hN
  obtain ⟨E, hE⟩ : ∃ E, E = S.exts := ⟨_, rfl⟩
  have HE := Lib.hid hE
  unfold Stor.free
  rw [← hE]
  clear hd ho hx hN hE
  go_enter Tryz.func64, Tryz.ntmps64
  go_wp2_with fail
  go_loopw [11] (fun _ wr => ∃ j : Nat, j ≤ 62 ∧ wr.heap[w.heap.size]? = some (.cells #[.int .i64 ((2 + j : Nat) : Int)] 3 (0, 0)) ∧ Below w.heap.size w wr ∧ freeN E 64 2 = freeN E (64 - j) (2 + j)) (fun _ wr => 64 - (intOf ((wr.cell? ⟨w.heap.size, 0, none⟩).getD (.int .i64 0))).toNat)
  case atStart =>
    refine ⟨0, by omega, ?_, ?_, rfl⟩
    · exact heap_alloc_new _ _
    · exact (Below.refl _ _).alloc (Nat.le_refl _) _
  case round =>
    obtain ⟨j, hj, hbx, hb, hfr⟩ := hrel
    have hd2 := H.out.1.same (hb.block _ H.out.1.lt)
    have ho2 := H.out.2.1.call hb
    obtain ⟨-, -, -, -, q4, -⟩ := hd_cells hd2
    have qb : wr.cell? ⟨w.heap.size, 0, none⟩ = some (.int .i64 ((2 + j : Nat) : Int)) := by rw [cell_of_row _ _ _ _ _ _ hbx]; rfl
    have fb : wr.frozen? ⟨w.heap.size, 0, none⟩ = false := frozen_of_row _ _ _ _ _ hbx
    have hc := containsFree_any S.segs a cap w.heap.size (2 + j) wr ho2 qb
    rw [show S.segs.map (·.1) = E from HE.out.symm] at hc
    rw [← HN.out] at q4 hc
    have HR := Lib.hid (And.intro hc (And.intro hb (And.intro hfr hbx)))
    clear hc hb hfr hd2 ho2 hbx
    obtain ⟨y, hy⟩ : ∃ y, y = 2 + j := ⟨_, rfl⟩
    simp only [← hy] at qb
    have HY := Lib.hid hy
    clear hy
    go_wp2_with fail
    refine HR.out.1.mono ?_
    rintro e w' ⟨rfl, hb'⟩
    have hlt : w.heap.size < wr.heap.size := (Array.getElem?_eq_some_iff.1 HR.out.2.2.2).1
    have hbx2 := (hb'.block _ hlt).trans HR.out.2.2.2
    rw [← HY.out] at hbx2
    have hb2 := HR.out.2.1.trans (hb'.mono HR.out.2.1.size)
    have qb2 : w'.cell? ⟨w.heap.size, 0, none⟩ = some (.int .i64 (y : Int)) := by rw [cell_of_row _ _ _ _ _ _ hbx2]; rfl
    have fb2 : w'.frozen? ⟨w.heap.size, 0, none⟩ = false := frozen_of_row _ _ _ _ _ hbx2
    have HB := Lib.hid (And.intro hb2 (And.intro hbx2 hj))
    clear qb fb hb' hb2 hbx2 hlt q4
    by_cases hin : 2 + j ∈ E
    · have hd : decide (2 + j ∈ E) = true := decide_eq_true hin
      have hj64 : 2 + j < 64 := H.out.2.2 _ (by rw [← HE.out]; exact hin)
      have hy64 : y < 64 := by have := HY.out; omega
      have HI := Lib.hid (And.intro hin hj64)
      clear hin hj64 hj
      go_wp2_with fail
      go_roundw
      case rel =>
        refine ⟨j + 1, by have := HI.out.2; omega, ?_, HB.out.1.setCell (p := ⟨w.heap.size, 0, none⟩) (Nat.le_refl _) _, ?_⟩
        · refine (heap_setCell_same _ _ _ _ _ _ HB.out.2.1).trans ?_
          have := HY.out
          simp
          omega
        · rw [HR.out.2.2.1, show 64 - j = (64 - (j + 1)) + 1 by have := HI.out.2; omega, freeN_in HI.out.1]; rfl
      case measure =>
        have h1 : (w'.setCell ⟨w.heap.size, 0, none⟩ (.int .i64 ((y : Int) + 1))).cell? ⟨w.heap.size, 0, none⟩ = some (.int .i64 ((y : Int) + 1)) := by
          rw [cell_of_row _ _ _ _ _ _ (heap_setCell_same _ _ _ _ _ _ HB.out.2.1)]; rfl
        have h0 : wr.cell? ⟨w.heap.size, 0, none⟩ = some (.int .i64 ((2 + j : Nat) : Int)) := by rw [cell_of_row _ _ _ _ _ _ HR.out.2.2.2]; rfl
        have := HY.out
        rw [h1, h0]
        simp [intOf]
        omega
    · have hd : decide (2 + j ∈ E) = false := decide_eq_false hin
      have HI := Lib.hid hin
      clear hin
      go_wp2_with fail
      go_ret
      refine ⟨?_, HB.out.1⟩
      rw [HR.out.2.2.1, freeN_no HI.out, ← HY.out]; rfl
end Go.Proofs.YtdmbombjkinboaaGreat
namespace Go.Proofs.YtdmbombjkinboaaGreat
open Go.RowKit
open Dk Sg Fr

set_option maxRecDepth 100000 in
theorem framed_any (T : Nat → Prop) (l : List It) (a : Option Addr) (cap : Nat) (w : World) (hL : Lies w T a l) (hA : It.InAll w T l) (hsz : It.szAll l ≤ 1000000)
    (hm : Cn.may (lstP (It.pureAll l)) 6 = true) (h0 : 1 ≤ (Cn.bytes (lstP (It.pureAll l))).length) (h1 : (Cn.bytes (lstP (It.pureAll l))).length ≤ 32768) :
    Calls Tryz.prog 65 #[.slice a l.length cap] w fun e w' => e = .returned (.string (str (frm (Cn.bytes (lstP (It.pureAll l)))))) ∧ Below w.heap.size w w' := by
  have hls := list_any T l a cap w hL hA hsz
  obtain ⟨N, hN⟩ : ∃ N, N = l.length := ⟨_, rfl⟩
  rw [← hN] at hls ⊢
  obtain ⟨B, hB⟩ : ∃ B, B = str (Cn.bytes (lstP (It.pureAll l))) := ⟨_, rfl⟩
  have hBs : B.size ≤ 32768 := by rw [hB, str_size]; exact h1
  have hmay : may B.data.toList := by rw [may_size, hB, str_size]; exact ⟨h0, h1⟩
  have hwr := fun W => wrap_any B (by omega) W
  rw [wrapE_ok hmay, wrapS_ok hmay] at hwr
  have hF : str (frm B.data.toList) = str (frm (Cn.bytes (lstP (It.pureAll l)))) := by rw [hB, str_data]
  have hE : ∀ x : It, x.pure = lstP (It.pureAll l) → c_encS x.pure = B ∧ encE x.pure = 0 := fun x hx => by
    rw [hx]
    unfold c_encS encE
    rw [if_pos ⟨hm, by omega⟩, if_pos hm, if_pos (by omega)]
    exact ⟨hB.symm, rfl⟩
  have H := Lib.hid (And.intro hls (And.intro hwr (And.intro hF hE)))
  clear hls hwr hF hE hL hA hsz hm h0 h1 hN hB hmay
  go_enter Tryz.func65, Tryz.ntmps65
  go_wp2_with fail
  refine H.out.1.mono ?_
  rintro e w2 ⟨x, rfl, hx, hin, hb2⟩
  obtain ⟨e1, e2⟩ := H.out.2.2.2 x hx
  have henc := encode_any _ x w2 hin
  rw [e1, e2] at henc
  have H2 := Lib.hid (And.intro henc hb2)
  clear henc hb2 hin e1 e2 hx
  obtain ⟨xk, xn, xs, xa, xc, xl⟩ := x
  simp only [It.val, It.cells, It.k, It.n, It.s, It.a, It.cap, It.l] at H2 ⊢
  go_wp2_with fail
  refine H2.out.1.mono ?_
  rintro e w3 ⟨rfl, hb3⟩
  have HB := Lib.hid (H2.out.2.trans (hb3.mono H2.out.2.size))
  clear hb3
  go_wp2_with fail
  refine (H.out.2.1 _).mono ?_
  rintro e w4 ⟨rfl, hb4⟩
  have HB4 := Lib.hid (HB.out.trans (hb4.mono HB.out.size))
  clear hb4
  go_wp2_with fail
  go_ret
  exact ⟨by rw [← H.out.2.2.1]; rfl, HB4.out⟩

set_option maxRecDepth 100000 in
theorem sput_any {w : World} {ρ : Nat → Nat} {s b n : Nat} {D : Disk} {S : Stor} {vs : Value} {ar : Option Addr} {cr : Nat} (h : DiskAt w ρ b D) (hs : Bud n D) (hn : n ≤ 99999999) (hd : Hd w s b S vs (.slice ar S.recs.length cr)) (h0 : ρ s = 0) (x : Nat) (t : ByteArray) :
    Calls Tryz.prog 68 #[.pointer (some ⟨s, 0, none⟩), .int .i64 (x : Int), .string t] w (Doing ρ s b vs (.slice ar S.recs.length cr) (putS D S x t) w) := by
  have hem := empty_any h (hs.small (by omega)) (x : Int)
  obtain ⟨q0, -⟩ := hd_cells hd
  have hs1 := hs.act (kind := 2) (by decide) (x : Int) 0 ⟨#[]⟩
  obtain ⟨R, hR⟩ : ∃ R, R = putS D S x t := ⟨_, rfl⟩
  rw [← hR]
  unfold putS at hR
  generalize D.act 2 (x : Int) 0 ⟨#[]⟩ = r1 at *
  obtain ⟨D1, e1⟩ := r1
  have H := Lib.hid (And.intro hem (And.intro hd (And.intro h0 (And.intro hs1 hR))))
  obtain ⟨vr, hvr⟩ : ∃ vr, vr = Value.slice ar S.recs.length cr := ⟨_, rfl⟩
  have HV := Lib.hid hvr
  rw [← hvr]
  clear hem hd h0 hs1 h hs hvr hR
  go_enter Tryz.func68, Tryz.ntmps68
  go_wp2_with fail
  refine H.out.1.mono ?_
  rintro e w1 ⟨rfl, ρ1, hD1, ht1⟩
  have hd1 := (TouchX.of (X := fun _ => False) ht1).hd H.out.2.1 H.out.2.2.1 (fun k => k)
  have h01 : ρ1 s = 0 := (ht1.old s (Hd.lt H.out.2.1)).trans H.out.2.2.1
  obtain ⟨q1, -⟩ := hd_cells hd1
  have H1 := Lib.hid (And.intro hD1 (And.intro ht1 (And.intro hd1 h01)))
  clear hD1 ht1 hd1 h01
  by_cases he1 : e1 = 0
  · subst he1
    have hap := append_any H1.out.1 (H.out.2.2.2.1.small (by omega)) (x : Int) t
    have hs2 : Bud (n + 1 + 1) (D1.act 0 (x : Int) 0 t).1 := H.out.2.2.2.1.act (kind := 0) (by decide) (x : Int) 0 t
    have hR2 := H.out.2.2.2.2.trans (andS_ok rfl)
    simp only at hR2
    generalize D1.act 0 (x : Int) 0 t = r2 at *
    obtain ⟨D2, e2⟩ := r2
    have H2 := Lib.hid (And.intro hap (And.intro hs2 hR2))
    clear hap hs2 hR2
    go_wp2_with fail
    refine H2.out.1.mono ?_
    rintro e w2 ⟨rfl, ρ2, hD2, ht2⟩
    have hd2 := (TouchX.of (X := fun _ => False) ht2).hd H1.out.2.2.1 H1.out.2.2.2 (fun k => k)
    have h02 : ρ2 s = 0 := (ht2.old s (Hd.lt H1.out.2.2.1)).trans H1.out.2.2.2
    have ht := (TouchX.of (X := (· = s)) H1.out.2.1).trans (TouchX.of ht2)
    have H3 := Lib.hid (And.intro hD2 (And.intro ht (And.intro hd2 h02)))
    clear hD2 ht2 hd2 h02 ht
    by_cases he2 : e2 = 0
    · subst he2
      have hsy := ssync_any H3.out.1 (H2.out.2.1.small (by omega)) H3.out.2.2.1 H3.out.2.2.2
      rw [← HV.out] at hsy
      have hR3 := H2.out.2.2.trans (andS_ok rfl)
      have H4 := Lib.hid (And.intro hsy hR3)
      clear hsy hR3
      go_wp2_with fail
      refine H4.out.1.mono ?_
      rintro e w3 ⟨rfl, ρ3, hD3, hd3, ht3⟩
      have H5 := Lib.hid (And.intro hD3 (And.intro hd3 ht3))
      clear hD3 hd3 ht3
      go_wp2_with fail
      go_ret
      rw [H4.out.2]
      exact ⟨rfl, ρ3, H5.out.1, H5.out.2.1, H3.out.2.1.trans H5.out.2.2⟩
    · have he2' : (e2 == 0) = false := by simpa using he2
      have HE := Lib.hid he2
      go_wp2_with fail
      go_ret
      rw [H2.out.2.2.trans (andS_no HE.out)]
      exact ⟨rfl, ρ2, H3.out.1, by rw [HV.out]; exact H3.out.2.2.1, H3.out.2.1⟩
  · have he1' : (e1 == 0) = false := by simpa using he1
    have HE := Lib.hid he1
    go_wp2_with fail
    go_ret
    rw [H.out.2.2.2.2.trans (andS_no HE.out)]
    exact ⟨rfl, ρ1, H1.out.1, by rw [HV.out]; exact H1.out.2.2.1, TouchX.of H1.out.2.1⟩
end Go.Proofs.YtdmbombjkinboaaGreat
namespace Go.Proofs.YtdmbombjkinboaaGreat
open Go.RowKit
open Dk Sg

/-- Items that bear no list. -/
def numIt (n : Nat) : It := .mk 1 n ⟨#[]⟩ none 0 []
def txtIt (s : ByteArray) : It := .mk 2 0 s none 0 []
def Leaf (x : It) : Prop := x.a = none ∧ x.cap = 0 ∧ x.l = [] ∧ x.s.size ≤ 65536
theorem numIt_leaf (n : Nat) : Leaf (numIt n) := ⟨rfl, rfl, rfl, Nat.zero_le _⟩
theorem txtIt_leaf {s : ByteArray} (h : s.size ≤ 65536) : Leaf (txtIt s) := ⟨rfl, rfl, rfl, h⟩
theorem numIt_pure (n : Nat) : (numIt n).pure = numP n := rfl
theorem txtIt_pure (s : ByteArray) : (txtIt s).pure = txtP s := rfl
theorem Leaf.in_ {x : It} (h : Leaf x) (w : World) (T : Nat → Prop) : x.In w T := by
  rw [It.in_eq]
  obtain ⟨h1, h2, h3, h4⟩ := h
  rw [h3]
  exact ⟨by unfold maxLen; omega, ⟨Nat.zero_le _, fun k => absurd rfl k⟩, trivial⟩
theorem leaf_all {l : List It} (h : ∀ x ∈ l, Leaf x) (w : World) (T : Nat → Prop) : It.InAll w T l := It.inAll_of fun x hx => (h x hx).in_ w T
theorem leaf_sz : ∀ {l : List It}, (∀ x ∈ l, Leaf x) → It.szAll l = l.length
  | [], _ => rfl
  | x :: l, h => by
    have h1 := leaf_sz (l := l) fun y hy => h y (List.mem_cons_of_mem _ hy)
    have h2 := (h x (List.mem_cons_self ..)).2.2.1
    rw [It.szAll, It.sz_eq, h2, h1, List.length_cons]
    show 1 + It.szAll [] + _ = _
    have : It.szAll [] = 0 := rfl
    omega
/-- A row of items that the call made itself. -/
def OwnI (B : Nat) (w : World) (a : Option Addr) (cap : Nat) (l : List It) : Prop := w.ownsRow B 115 4 (.slice a l.length cap) l.length (flat l)
theorem OwnI.call {B : Nat} {w w' : World} {a : Option Addr} {cap : Nat} {l : List It} (h : OwnI B w a cap l) (hb : Below w.heap.size w w') : OwnI B w' a cap l := ownsRow_below h hb
theorem OwnI.lies {B : Nat} {w : World} {a : Option Addr} {cap : Nat} {l : List It} (h : OwnI B w a cap l) (hl : l.length ≤ 1000000) : Lies w (B ≤ ·) a l := by
  refine ⟨by unfold maxLen; omega, fun hne => ?_⟩
  rcases h.2 with ⟨e, hn⟩ | ⟨g, c, cur, e, hB, hg, hn, hc, hs, ht⟩
  · exact absurd (List.length_eq_zero_iff.1 hn) hne
  · injection e with e1 e2 e3
    subst e1 e3
    refine ⟨g, 0, rfl, (World.ownsRow.lt h g rfl).2, hB, fun j x hx => ?_⟩
    have hj : j < l.length := (List.getElem?_eq_some_iff.1 hx).1
    have h0 := World.ownsRow.cellAt h (j * 4) (by omega)
    have h1 := World.ownsRow.cellAt h (j * 4 + 1) (by omega)
    have h2 := World.ownsRow.cellAt h (j * 4 + 2) (by omega)
    have h3 := World.ownsRow.cellAt h (j * 4 + 3) (by omega)
    rw [show j * 4 = j * 4 + 0 from rfl, flat_get l j x 0 hx (by decide)] at h0
    rw [flat_get l j x 1 hx (by decide)] at h1
    rw [flat_get l j x 2 hx (by decide)] at h2
    rw [flat_get l j x 3 hx (by decide)] at h3
    simp only [Nat.zero_add]
    exact ⟨h0, h1, h2, h3⟩
/-- append of one item. -/
theorem wpList_append_item {ops : Array Oper} {rest : List Oper} {o : Oper} {act : Act} {Q : Exit → Act → World → Prop} {w : World} (hgd : o.guard = none) (s x : Operand)
    (ho : o.op = .call { callee := .builtin .append, args := #[s, x], argTypes := #[113, 113] })
    {B : Nat} {a : Option Addr} {cap0 : Nat} {l : List It} (hown : OwnI B w a cap0 l) (n : Nat) (hn : l.length = n) (hs : act.eval s = .slice a n cap0)
    (g c' : Nat) (c : It) (hc4 : ∀ v ∈ c.cells.toList, v.oneCell' = true) (hx : act.eval x = .slice (some ⟨g, 0, none⟩) 1 c') (hc : w.heap[g]? = some (.cells c.cells 115 (0, 0)))
    (hlen : n < 1000000) (hbase : B ≤ w.heap.size)
    (h : ∀ g cap w', OwnI B w' (some ⟨g, 0, none⟩) cap (l ++ [c]) → w.grownBy w' (Value.slice a l.length cap0).ownBlock → wpList Tryz.prog ops Q rest (act.put o.dst (.slice (some ⟨g, 0, none⟩) (n + 1) cap)) w') : wpList Tryz.prog ops Q (o :: rest) act w := by
  subst hn
  obtain ⟨i0, hi0, hz0, hz1, hz2⟩ := info_parts info24
  refine wpList_append_lies w hgd s x 113 ho B 115 i0 _ 4 56 Tryz.underlying113 hi0 hz0 hz1 hz2 rfl (by decide) (.slice a l.length cap0) l.length (flat l) hs hown ⟨g, 0, none⟩ 1 c' c.cells.toList hx (by simp [It.cells])
    (fun j u hj => ?_) hc4 (by decide) (by unfold maxLen; omega) (by omega) hbase w.heap.size rfl (fun g cap w' h1 h2 _ _ => h g cap w' ?_ h2)
  · rw [show (⟨g, 0, none⟩ : Addr).add j = ⟨g, j, none⟩ by unfold Addr.add; split <;> simp_all, cell_of_row _ _ _ _ _ _ hc]
    simpa using hj
  · unfold OwnI
    rw [flat_append, List.length_append]
    simpa [flat] using h1
theorem Tryz.info_seg : (Tryz.prog.info? 86).map (fun i => (i.zero, i.size, i.bytes)) = some (some (.agg #[.int .i64 0, .int .i64 0]), 2, 16) := by kernel_rfl
/-- append of one segment. -/
theorem wpList_append_seg {ops : Array Oper} {rest : List Oper} {o : Oper} {act : Act} {Q : Exit → Act → World → Prop} {w : World} (hgd : o.guard = none) (s x : Operand)
    (ho : o.op = .call { callee := .builtin .append, args := #[s, x], argTypes := #[67, 67] })
    {a : Option Addr} {cap0 : Nat} {l : List (Nat × Nat)} (hown : OwnG w a cap0 l) (n : Nat) (hn : l.length = n) (hs : act.eval s = .slice a n cap0)
    (g c' : Nat) (c : Nat × Nat) (hx : act.eval x = .slice (some ⟨g, 0, none⟩) 1 c') (hc : w.heap[g]? = some (.cells #[.int .i64 (c.1 : Int), .int .i64 (c.2 : Int)] 86 (0, 0)))
    (hlen : n < 1000000)
    (h : ∀ g cap w', OwnG w' (some ⟨g, 0, none⟩) cap (l ++ [c]) → w.grownBy w' (Value.slice a l.length cap0).ownBlock → ((Value.slice a l.length cap0).ownBlock = some g ∨ g = w.heap.size) → wpList Tryz.prog ops Q rest (act.put o.dst (.slice (some ⟨g, 0, none⟩) (n + 1) cap)) w') : wpList Tryz.prog ops Q (o :: rest) act w := by
  subst hn
  obtain ⟨i0, hi0, hz0, hz1, hz2⟩ := info_parts Tryz.info_seg
  refine wpList_append_lies w hgd s x 67 ho 0 86 i0 _ 2 16 Tryz.underlying67 hi0 hz0 hz1 hz2 rfl (by decide) (.slice a l.length cap0) l.length (segCells l) hs hown ⟨g, 0, none⟩ 1 c' [.int .i64 (c.1 : Int), .int .i64 (c.2 : Int)] hx rfl
    (fun j u hj => ?_) (by simp [Value.oneCell']) (by decide) (by unfold maxLen; omega) (by omega) (Nat.zero_le _) w.heap.size rfl (fun g cap w' h1 h2 h3 _ => h g cap w' ?_ h2 h3)
  · rw [show (⟨g, 0, none⟩ : Addr).add j = ⟨g, j, none⟩ by unfold Addr.add; split <;> simp_all, cell_of_row _ _ _ _ _ _ hc]
    simpa using hj
  · unfold OwnG
    rw [segCells_snoc, List.length_append]; exact h1
section
variable {P : Program} (w : World)
/-- append onto a slice that the call owns: the old slice's own row stands, too. -/
theorem run_append_old (t ty : TypeId) (base : Nat) (e : TypeId) (i : TypeInfo) (z : Value) (size bytes : Nat) (ht : P.underlying t = some (.slice e)) (hi : P.info? e = some i) (hz : i.zero = some z)
    (hsize : i.size = size) (hby : i.bytes = bytes) (hzs : z.cells.size = size) (hsz : 0 < size)
    (v : Value) (n : Nat) (xs : List Value) (hown : w.ownsRow base e size v n xs)
    (ad : Addr) (m c : Nat) (news : List Value) (hl : news.length = m * size) (hnews : ∀ j u, news[j]? = some u → w.cell? (ad.add j) = some u) (h1 : ∀ u ∈ news, u.oneCell' = true)
    (hm : 0 < m) (h63 : n + m ≤ maxLen) (hbytes : (n + m) * bytes ≤ 140737488355328) (hbase : base ≤ w.heap.size) (H : Nat) (hH : w.heap.size = H) :
    ∃ g cap w', (Builtin.append_ #[t, t] ty #[v, .slice (some ad) m c]).run P w = .ok (.slice (some ⟨g, 0, none⟩) (n + m) cap) w' ∧
      w'.ownsRow base e size (.slice (some ⟨g, 0, none⟩) (n + m) cap) (n + m) (xs ++ news) ∧ w.grownBy w' v.ownBlock ∧ (v.ownBlock = some g ∨ g = H) ∧ w'.ownsRow base e size v n xs := by
  obtain ⟨g, cap, w', hr, h2, h3, h4, h5⟩ := run_append_lies (P := P) w t ty base e i z size bytes ht hi hz hsize hby hzs hsz v n xs hown ad m c news hl hnews h1 hm h63 hbytes hbase H hH
  refine ⟨g, cap, w', hr, h2, h3, h4, hown.1, ?_⟩
  rcases hown.2 with ⟨rfl, hn⟩ | ⟨g1, cap1, cur, rfl, hbg, hg, hnc, hcm, hcs, htake⟩
  · exact .inl ⟨rfl, hn⟩
  · right
    have holds : ∀ j u, xs[j]? = some u → w.cell? ((⟨g1, 0, none⟩ : Addr).add j) = some u := hown.cells (g := g1) rfl
    by_cases hroom : n + m ≤ cap1
    · have hr' := run_append_room (P := P) w t ty e i ht hi g1 n cap1 cur hg ad m c news (by rw [hsize]; exact hl) hnews h1 hroom (by
        rw [hsize, hl, hcs, ← Nat.add_mul]; exact Nat.mul_le_mul_right _ hroom)
      rw [hr] at hr'
      injection hr' with e1 e2
      injection e1 with e3 e6 e7
      injection e3 with e4
      injection e4 with e5
      subst e5 e7
      rcases h2.2 with ⟨k, _⟩ | ⟨g2, cap2, cur2, k, hb2, hg2, hn2, hc2, hs2, ht2⟩
      · cases k
      · injection k with k1 _ k3
        injection k1 with k1
        injection k1 with k1
        subst k1 k3
        refine ⟨g, cap, cur2, rfl, hb2, hg2, hnc, hcm, hs2, ?_⟩
        have hx : xs.length = n * size := hown.1
        have := congrArg (List.take (n * size)) ht2
        rw [List.take_take, Nat.min_eq_left (Nat.mul_le_mul_right _ (by omega)), ← hx, List.take_left] at this
        rw [← hx]; exact this
    · have hr' := run_append_grow (P := P) w t ty e i z ht hi hz ⟨g1, 0, none⟩ n cap1 xs (by rw [hsize]; exact hown.1) holds ad m c news (by rw [hsize]; exact hl) hnews (by omega) (by simp only [maxLen] at h63; omega) (growslice_fits (by omega) (by rw [hby]; exact hbytes))
      rw [hr] at hr'
      injection hr' with e1 e2
      refine ⟨g1, cap1, cur, rfl, hbg, ?_, hnc, hcm, hcs, htake⟩
      rw [e2, Lib.alloc_old w.drew _ _ (Array.getElem?_eq_some_iff.1 hg).1]
      exact hg
theorem step_append_old {ops : Array Oper} {o : Oper} {a : Act} {K : Act → World → Prop} {Q : Exit → Act → World → Prop} {E : Prop} (hgd : o.guard = none) (s x : Operand) (t : TypeId)
    (ho : o.op = .call { callee := .builtin .append, args := #[s, x], argTypes := #[t, t] })
    (base : Nat) (e : TypeId) (i : TypeInfo) (z : Value) (size bytes : Nat) (ht : P.underlying t = some (.slice e)) (hi : P.info? e = some i) (hz : i.zero = some z)
    (hsize : i.size = size) (hby : i.bytes = bytes) (hzs : z.cells.size = size) (hsz : 0 < size)
    (v : Value) (n : Nat) (xs : List Value) (hs : a.eval s = v) (hown : w.ownsRow base e size v n xs)
    (ad : Addr) (m c : Nat) (news : List Value) (hx : a.eval x = .slice (some ad) m c) (hl : news.length = m * size) (hnews : ∀ j u, news[j]? = some u → w.cell? (ad.add j) = some u) (h1 : ∀ u ∈ news, u.oneCell' = true)
    (hm : 0 < m) (h63 : n + m ≤ maxLen) (hbytes : (n + m) * bytes ≤ 140737488355328) (hbase : base ≤ w.heap.size) (H : Nat) (hH : w.heap.size = H)
    (h : ∀ g cap w', w'.ownsRow base e size (.slice (some ⟨g, 0, none⟩) (n + m) cap) (n + m) (xs ++ news) → w.grownBy w' v.ownBlock → (v.ownBlock = some g ∨ g = H) → w'.ownsRow base e size v n xs → K (a.put o.dst (.slice (some ⟨g, 0, none⟩) (n + m) cap)) w') :
    if Region.wanted o (yielded ops a.tmps) = true then Oper.wp P o a w K Q else E := by
  have hw : Region.wanted o (yielded ops a.tmps) = true := by simp [Region.wanted, hgd]
  rw [if_pos hw]
  obtain ⟨g, cap, w', hr, h2, h3, h4, h5⟩ := run_append_old (P := P) w t o.type base e i z size bytes ht hi hz hsize hby hzs hsz v n xs hown ad m c news hl hnews h1 hm h63 hbytes hbase H hH
  unfold Oper.wp execOp
  simp only [ho, resolve, invoke, builtin, Sem.run_bind, Sem.run_pure, Result.andThen_ok, List.map_toArray, List.map_cons, List.map_nil, hs, hx, hr]
  exact h g cap w' h2 h3 h4 h5
end
/-- append of one segment, at a step: the old slice's own row stands. -/
theorem step_append_seg {ops : Array Oper} {o : Oper} {act : Act} {K : Act → World → Prop} {Q : Exit → Act → World → Prop} {E : Prop} {w : World} (hgd : o.guard = none) (s x : Operand)
    (ho : o.op = .call { callee := .builtin .append, args := #[s, x], argTypes := #[67, 67] })
    {a : Option Addr} {cap0 : Nat} {l : List (Nat × Nat)} (hown : OwnG w a cap0 l) (n : Nat) (hn : l.length = n) (hs : act.eval s = .slice a n cap0)
    (g c' : Nat) (c : Nat × Nat) (hx : act.eval x = .slice (some ⟨g, 0, none⟩) 1 c') (hc : w.heap[g]? = some (.cells #[.int .i64 (c.1 : Int), .int .i64 (c.2 : Int)] 86 (0, 0)))
    (hlen : n < 1000000)
    (h : ∀ g cap w', OwnG w' (some ⟨g, 0, none⟩) cap (l ++ [c]) → w.grownBy w' (Value.slice a l.length cap0).ownBlock → ((Value.slice a l.length cap0).ownBlock = some g ∨ g = w.heap.size) → OwnG w' a cap0 l → K (act.put o.dst (.slice (some ⟨g, 0, none⟩) (n + 1) cap)) w') :
    if Region.wanted o (yielded ops act.tmps) = true then Oper.wp Tryz.prog o act w K Q else E := by
  subst hn
  obtain ⟨i0, hi0, hz0, hz1, hz2⟩ := info_parts Tryz.info_seg
  refine step_append_old w hgd s x 67 ho 0 86 i0 _ 2 16 Tryz.underlying67 hi0 hz0 hz1 hz2 rfl (by decide) (.slice a l.length cap0) l.length (segCells l) hs hown ⟨g, 0, none⟩ 1 c' [.int .i64 (c.1 : Int), .int .i64 (c.2 : Int)] hx rfl
    (fun j u hj => ?_) (by simp [Value.oneCell']) (by decide) (by unfold maxLen; omega) (by omega) (Nat.zero_le _) w.heap.size rfl (fun g cap w' h1 h2 h3 h4 => h g cap w' ?_ h2 h3 h4)
  · rw [show (⟨g, 0, none⟩ : Addr).add j = ⟨g, j, none⟩ by unfold Addr.add; split <;> simp_all, cell_of_row _ _ _ _ _ _ hc]
    simpa using hj
  · unfold OwnG
    rw [segCells_snoc, List.length_append]; exact h1
end Go.Proofs.YtdmbombjkinboaaGreat
