/- segs: readLists. -/
import Derived.Test.YtdmbombjkinboaaGreatMS2
namespace Go.Proofs.YtdmbombjkinboaaGreat
open Go.RowKit
open Dk Sg Fr

/-- The list that counts, behind those of one extent. -/
def pickL (x : Nat) (l : List Ent) (c : Nat × Ent) : Nat × Ent := l.foldl (fun c e => if c.2.epoch ≤ e.epoch then (x, e) else c) c
theorem pickL_snoc (x : Nat) (l : List Ent) (e : Ent) (c : Nat × Ent) : pickL x (l ++ [e]) c = if (pickL x l c).2.epoch ≤ e.epoch then (x, e) else pickL x l c := by
  unfold pickL; rw [List.foldl_append]; rfl
/-- What stands in an extent of lists. -/
structure Lst where
  l : List Ent
  m : Nat
  er : Nat
def cAt (L : Nat → Lst) : Nat → Nat × Ent
  | 0 => (0, ⟨0, []⟩)
  | j + 1 => pickL j (L j).l (cAt L j)
def tAt (L : Nat → Lst) : Nat → List (Nat × Nat)
  | 0 => []
  | j + 1 => tearsOf (L j).er j (L j).m (tAt L j)
/-- A store while its lists are read. -/
def stL (falls : Int) (c : Nat × Ent) : Stor := ⟨falls, c.1, c.2.epoch, c.2.exts.map fun x => (x, 0), [], 0⟩
/-- An opening in memory; all of it lies from B on. -/
structure Opg (B : Nat) (w0 : World) (o s b : Nat) (S : Stor) (T : List (Nat × Nat)) (w : World) : Prop where
  ex : ∃ ta tc a cap ar cr, Op w o s (.slice ta T.length tc) ∧ OwnR B w ta tc T ∧ Hd w s b S (.slice a S.segs.length cap) (.slice ar S.recs.length cr) ∧ OwnG w a cap S.segs ∧ (∀ g, (Value.slice a S.segs.length cap).ownBlock = some g → B ≤ g) ∧ OwnT B w ar cr S.recs
  low : Below B w0 w
  oB : B ≤ o
  sB : B ≤ s
theorem Opg.below {B : Nat} {w0 w w' : World} {o s b : Nat} {S : Stor} {T : List (Nat × Nat)} (h : Opg B w0 o s b S T w) (hb : Below w.heap.size w w') (hB : B ≤ w.heap.size) : Opg B w0 o s b S T w' := by
  obtain ⟨ta, tc, a, cap, ar, cr, h1, h2, h3, h4, h5, h6⟩ := h.ex
  exact ⟨⟨ta, tc, a, cap, ar, cr, (hb.block _ h1.lt).trans h1, h2.call hb, h3.same (hb.block _ h3.lt), h4.call hb, h5, h6.call hb⟩, h.low.trans (hb.mono hB), h.oB, h.sB⟩
theorem op_ne_hd {w : World} {o s s' b : Nat} {tv vs vr : Value} {S : Stor} (h : Op w o s' tv) (hd : Hd w s b S vs vr) : o ≠ s := fun e => by
  subst e
  unfold Op at h
  unfold Hd at hd
  rw [h] at hd
  injection hd with hd
  injection hd with _ hd _
  exact absurd hd (by decide)
theorem own_ne {w : World} {B B' : Nat} {t t' : TypeId} {k k' n n' : Nat} {v v' : Value} {xs xs' : List Value} (ht : t ≠ t') (h : w.ownsRow B t k v n xs) (h' : w.ownsRow B' t' k' v' n' xs') {g : Nat} (e : v.ownBlock = some g) : v'.ownBlock ≠ some g := fun e' => by
  rcases h.2 with ⟨rfl, _⟩ | ⟨g1, c, cur, rfl, hB, hg, -⟩
  · cases e
  · injection e with e
    have e : g1 = g := e
    subst e
    rcases h'.2 with ⟨rfl, _⟩ | ⟨g2, c', cur', rfl, hB', hg', -⟩
    · cases e'
    · injection e' with e
      have e : g2 = g1 := e
      subst e
      rw [hg] at hg'
      injection hg' with hg'
      injection hg' with _ hg' _
      exact ht hg'
/-- A scan that leaves all but the tears as it was. -/
theorem Opg.scan {B : Nat} {w0 w w' : World} {o s b : Nat} {S : Stor} {T T' : List (Nat × Nat)} {l : List ByteArray} {e : Ending} {ta : Option Addr} {tc : Nat} (h : Opg B w0 o s b S T w) (hB : B ≤ w.heap.size) (hop : Op w o s (.slice ta T.length tc)) (hot : OwnR B w ta tc T) (hs : Scanned B o s ta tc T T' l w e w') :
    ∃ a cap, e = .returned (.tuple #[.slice a l.length cap, .int .i64 0]) ∧ OwnT w.heap.size w' a cap l ∧ Opg B w0 o s b S T' w' ∧ w.heap.size ≤ w'.heap.size := by
  obtain ⟨a, cap, ta', tc', he, ho, hop', hot', ht⟩ := hs
  obtain ⟨ta0, tc0, a1, cap1, ar, cr, h1, h2, h3, h4, h5, h6⟩ := h.ex
  have hso := op_ne_hd h1 h3
  have kp : ∀ g, g < w.heap.size → g ≠ o → (Value.slice ta T.length tc).ownBlock ≠ some g → w'.heap[g]? = w.heap[g]? := fun g hg h0 h1 => ht.same g hg rfl (fun k => k.elim h0 h1)
  have hne1 : (Value.slice ta T.length tc).ownBlock ≠ some s := fun e => by
    rcases hot.2 with ⟨e1, hn⟩ | ⟨g, c, cur, e1, hB, hg, -⟩
    · injection e1 with e2 _ _; subst e2; cases e
    · injection e1 with e2 _ _
      subst e2
      injection e with e
      have e : g = s := e
      subst e
      unfold Hd at h3
      rw [h3] at hg
      injection hg with hg
      injection hg with _ hg _
      exact absurd hg (by decide)
  have hd' := h3.same (kp s h3.lt (fun e => hso e.symm) hne1)
  have hg' : OwnG w' a1 cap1 S.segs := h4.same fun g hg => kp g (World.ownsRow.lt h4 g hg).2 (fun e => by
    rcases h4.2 with ⟨e1, hn⟩ | ⟨g2, c, cur, e1, hB, hg2, -⟩
    · injection e1 with e2 _ _; subst e2; cases hg
    · injection e1 with e2 _ _
      subst e2
      injection hg with hg
      have hg : g2 = g := hg
      subst hg e
      unfold Op at h1
      rw [h1] at hg2
      injection hg2 with hg2
      injection hg2 with _ hg2 _
      exact absurd hg2 (by decide)) (own_ne (by decide) h4 hot hg)
  have hr' : OwnT B w' ar cr S.recs := by
    refine ⟨h6.1, ?_⟩
    rcases h6.2 with k | ⟨g, c, cur, e, hBg, hg, h3'⟩
    · exact .inl k
    · refine .inr ⟨g, c, cur, e, hBg, (kp g (Array.getElem?_eq_some_iff.1 hg).1 (fun e2 => ?_) (own_ne (by decide) h6 hot (by rw [e]; rfl))).trans hg, h3'⟩
      subst e2
      unfold Op at h1
      rw [h1] at hg
      injection hg with hg
      injection hg with _ hg _
      exact absurd hg (by decide)
  refine ⟨a, cap, he, ho, ⟨⟨ta', tc', a1, cap1, ar, cr, hop', hot', hd', hg', h5, hr'⟩, ⟨ht.os.trans h.low.os, ht.tape.trans h.low.tape, ht.output.trans h.low.output, Nat.le_trans h.low.size ht.size, fun g hg => (kp g (by omega) (by have := h.oB; omega) (fun e => ?_)).trans (h.low.block g hg)⟩, h.oB, h.sB⟩, ht.size⟩
  have := (World.ownsRow.lt hot g e).1
  omega
/-- A store's list is another one now. -/
theorem Opg.put {B : Nat} {w0 w : World} {o s b : Nat} {S : Stor} {T : List (Nat × Nat)} (h : Opg B w0 o s b S T w) {c : Nat × Ent} {a2 : Option Addr} {cap2 : Nat} (hs : S.recs = [] ∧ S.sure = 0)
    (ho : OwnG w a2 cap2 (c.2.exts.map fun x => (x, 0))) (hb : ∀ g, (Value.slice a2 c.2.exts.length cap2).ownBlock = some g → B ≤ g) :
    Opg B w0 o s b (stL S.falls c) T (((w.setCell ⟨s, 2, none⟩ (.int .i64 (c.1 : Int))).setCell ⟨s, 3, none⟩ (.int .i64 (c.2.epoch : Int))).setCell ⟨s, 4, none⟩ (.slice a2 c.2.exts.length cap2)) := by
  obtain ⟨ta, tc, a, cap, ar, cr, h1, h2, h3, h4, h5, h6⟩ := h.ex
  have hso := op_ne_hd h1 h3
  have hlen : (stL S.falls c).segs.length = c.2.exts.length := by show (c.2.exts.map _).length = _; rw [List.length_map]
  have k0 : ∀ g, g ≠ s → (((w.setCell ⟨s, 2, none⟩ (.int .i64 (c.1 : Int))).setCell ⟨s, 3, none⟩ (.int .i64 (c.2.epoch : Int))).setCell ⟨s, 4, none⟩ (.slice a2 c.2.exts.length cap2)).heap[g]? = w.heap[g]? := fun g hg => by
    rw [heap_setCell_other _ _ g _ hg, heap_setCell_other _ _ g _ hg, heap_setCell_other _ _ g _ hg]
  have e2 := heap_setCell_same _ _ 2 _ _ (.int .i64 (c.1 : Int)) h3
  have e3 := heap_setCell_same _ _ 3 _ _ (.int .i64 (c.2.epoch : Int)) e2
  have e4 := heap_setCell_same _ _ 4 _ _ (.slice a2 c.2.exts.length cap2) e3
  have hdn : Hd (((w.setCell ⟨s, 2, none⟩ (.int .i64 (c.1 : Int))).setCell ⟨s, 3, none⟩ (.int .i64 (c.2.epoch : Int))).setCell ⟨s, 4, none⟩ (.slice a2 c.2.exts.length cap2)) s b (stL S.falls c) (.slice a2 (stL S.falls c).segs.length cap2) (.slice ar S.recs.length cr) := by
    unfold Hd
    rw [e4, hlen]
    show some (Obj.cells #[.pointer (some ⟨b, 0, none⟩), .int .i64 S.falls, .int .i64 (c.1 : Int), .int .i64 (c.2.epoch : Int), .slice a2 c.2.exts.length cap2, .slice ar S.recs.length cr, .int .i64 (S.sure : Int)] _ _) = _
    rw [hs.2]; rfl
  refine ⟨⟨ta, tc, a2, cap2, ar, cr, (k0 o hso).trans h1, ?_, ?_, ?_, ?_, ?_⟩, ((h.low.setCell (p := ⟨s, 2, none⟩) h.sB _).setCell (p := ⟨s, 3, none⟩) h.sB _).setCell (p := ⟨s, 4, none⟩) h.sB _, h.oB, h.sB⟩
  · refine h2.same fun g hg => k0 g (fun e => ?_)
    subst e
    rcases h2.2 with ⟨e1, hn⟩ | ⟨g2, c', cur, e1, hB, hg2, -⟩
    · injection e1 with e2 _ _; subst e2; cases hg
    · injection e1 with e2 _ _
      subst e2
      injection hg with hg
      have hg : g2 = g := hg
      subst hg
      unfold Hd at h3
      rw [h3] at hg2
      injection hg2 with hg2
      injection hg2 with _ hg2 _
      exact absurd hg2 (by decide)
  · rw [show (stL S.falls c).recs.length = S.recs.length by rw [hs.1]; rfl]; exact hdn
  · exact ho.same fun g hg => k0 g (fun e => by subst e; exact OwnG.ne h3 ho hg)
  · intro g hg
    rw [hlen] at hg
    exact hb g hg
  · rw [show (stL S.falls c).recs = [] from rfl]
    rw [hs.1] at h6
    refine ⟨h6.1, ?_⟩
    rcases h6.2 with k | ⟨g, c', cur, e, hBg, hg, h3'⟩
    · exact .inl k
    · refine .inr ⟨g, c', cur, e, hBg, (k0 g (fun e2 => ?_)).trans hg, h3'⟩
      subst e2
      unfold Hd at h3
      rw [h3] at hg
      injection hg with hg
      injection hg with _ hg _
      exact absurd hg (by decide)
end Go.Proofs.YtdmbombjkinboaaGreat
