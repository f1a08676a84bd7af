/- The law's own shelf: a disk, a store, what was put there; stands. -/
import Derived.Test.YtdmbombjkinboaaGreatYAwake
namespace Go.Proofs.YtdmbombjkinboaaGreat
open Go.RowKit
open Dk Sg Fr

/-- A shelf's cells. -/
def ShelfAt (w : World) (xb b : Nat) (p va : Value) (k : Nat) : Prop := w.heap[xb]? = some (.cells #[.pointer (some ⟨b, 0, none⟩), p, va, .int .i64 (k : Int)] 32 (0, 0))
theorem ShelfAt.lt {w : World} {xb b : Nat} {p va : Value} {k : Nat} (h : ShelfAt w xb b p va k) : xb < w.heap.size := (Array.getElem?_eq_some_iff.1 h).1
theorem shelf_cells {w : World} {xb b : Nat} {p va : Value} {k : Nat} (h : ShelfAt w xb b p va k) : w.cell? ⟨xb, 0, none⟩ = some (.pointer (some ⟨b, 0, none⟩)) ∧ w.cell? ⟨xb, 1, none⟩ = some p ∧ w.cell? ⟨xb, 2, none⟩ = some va ∧ w.cell? ⟨xb, 3, none⟩ = some (.int .i64 (k : Int)) := by
  unfold ShelfAt at h
  refine ⟨?_, ?_, ?_, ?_⟩ <;> (rw [cell_of_row _ _ _ _ _ _ h]; rfl)
theorem shelf_free {w : World} {xb b : Nat} {p va : Value} {k : Nat} (h : ShelfAt w xb b p va k) (j : Nat) : w.frozen? ⟨xb, j, none⟩ = false := frozen_of_row _ _ _ _ _ h
/-- What stands needs: a disk that was left, and what was put there. -/
structure Left (B : Nat) (w0 w : World) (ρ : Nat → Nat) (b xb : Nat) (p : Value) (D : Disk) (R : List ByteArray) (k : Nat) (a : Option Addr) (cap : Nat) : Prop where
  disk : DiskAt w ρ b D
  low : Below B w0 w
  base : B ≤ w0.heap.size
  rol : ∀ g, g < B → ρ g = 0
  head : ShelfAt w xb b p (.slice a R.length cap) k
  all : OwnT B w a cap R
  xB : B ≤ xb
  x0 : ρ xb = 0
  f0 : ∀ g, (Value.slice a R.length cap).ownBlock = some g → ρ g = 0
/-- A shelf: what was put there is R, so much of it is sure. -/
structure Sx (B : Nat) (w0 w : World) (ρ : Nat → Nat) (U : Nat → Prop) (s b xb : Nat) (D : Disk) (S : Stor) (R : List ByteArray) (k : Nat) (a : Option Addr) (cap : Nat) : Prop where
  at_ : SAt w ρ U s b D S
  ctx : Ctx B w0 w ρ U
  head : ShelfAt w xb b (.pointer (some ⟨s, 0, none⟩)) (.slice a R.length cap) k
  all : OwnT B w a cap R
  xB : B ≤ xb
  x0 : ρ xb = 0 ∧ ¬ U xb
  f0 : ∀ g, (Value.slice a R.length cap).ownBlock = some g → ρ g = 0 ∧ ¬ U g
/-- A shelf that stands: its store has just what was put there. -/
abbrev Sh (B : Nat) (w0 w : World) (ρ : Nat → Nat) (U : Nat → Prop) (s b xb : Nat) (D : Disk) (S : Stor) (a : Option Addr) (cap : Nat) : Prop := Sx B w0 w ρ U s b xb D S S.recs S.sure a cap
theorem sat_keep {w w' : World} {ρ : Nat → Nat} {U : Nat → Prop} {s b : Nat} {D : Disk} {S : Stor} (h : SAt w ρ U s b D S) (hos : w'.os = w.os) (htp : w'.tape = w.tape) (hou : w'.output = w.output) (hsz : w.heap.size ≤ w'.heap.size) (hk : ∀ g, g < w.heap.size → (ρ g ≠ 0 ∨ U g) → w'.heap[g]? = w.heap[g]?) : SAt w' ρ U s b D S := by
  obtain ⟨a', cap', ar, cr, h1, h2, h3, h4, h5⟩ := h.body
  have kp : ∀ g, U g → w'.heap[g]? = w.heap[g]? := fun g hg => hk g (h.off g hg).2 (.inr hg)
  refine ⟨h.disk.touch (R := fun r => r = 0) ⟨hos, htp, hou, hsz, fun _ _ => rfl, fun g hg hr => hk g hg (.inl hr), fun _ _ => rfl⟩ (fun r hr e => hr e), fun g hg => ⟨(h.off g hg).1, Nat.lt_of_lt_of_le (h.off g hg).2 hsz⟩, h.us, a', cap', ar, cr, h1.same (kp s h.us), own_keep h2 fun g hg => kp g (h3 g hg), h3, own_keep h4 fun g hg => kp g (h5 g hg), h5⟩
section
variable {B : Nat} {w0 w w' : World} {ρ ρ' : Nat → Nat} {U U' : Nat → Prop} {s b xb : Nat} {D D' : Disk} {S S' : Stor} {R : List ByteArray} {k : Nat} {a : Option Addr} {cap : Nat}
theorem Sx.allx (h : Sx B w0 w ρ U s b xb D S R k a cap) {g : Nat} (hg : (Value.slice a R.length cap).ownBlock = some g) : g ≠ xb := fun e => own_ne_row (by decide) h.all h.head (by rw [hg, e])
theorem Sx.below (h : Sx B w0 w ρ U s b xb D S R k a cap) (hb : Below w.heap.size w w') : Sx B w0 w' ρ U s b xb D S R k a cap :=
  ⟨h.at_.below hb, h.ctx.below hb, (hb.block xb h.head.lt).trans h.head, h.all.call hb, h.xB, h.x0, h.f0⟩
theorem Sx.move (h : Sx B w0 w ρ U s b xb D S R k a cap) (hs : SAt w' ρ' U' s b D' S') (m : Move ρ U ρ' U' w w') : Sx B w0 w' ρ' U' s b xb D' S' R k a cap := by
  have hl : ∀ g, (Value.slice a R.length cap).ownBlock = some g → g < w.heap.size := fun g hg => (World.ownsRow.lt h.all g hg).2
  exact ⟨hs, h.ctx.move m, (m.same xb h.head.lt h.x0.1 h.x0.2).trans h.head, own_keep h.all fun g hg => m.same g (hl g hg) (h.f0 g hg).1 (h.f0 g hg).2, h.xB, ⟨(m.old xb h.head.lt).trans h.x0.1, fun e => h.x0.2 ((m.oldU xb h.head.lt).1 e)⟩,
    fun g hg => ⟨(m.old g (hl g hg)).trans (h.f0 g hg).1, fun e => (h.f0 g hg).2 ((m.oldU g (hl g hg)).1 e)⟩⟩
theorem Sx.touch (h : Sx B w0 w ρ U s b xb D S R k a cap) (hD : DiskAt w' ρ' b D') (t : TouchX (fun _ => False) ρ ρ' w w') : Sx B w0 w' ρ' U s b xb D' S R k a cap := by
  have hl : ∀ g, (Value.slice a R.length cap).ownBlock = some g → g < w.heap.size := fun g hg => (World.ownsRow.lt h.all g hg).2
  exact ⟨sat_disk h.at_ hD t, h.ctx.touch t h.ctx.own, (t.same xb h.head.lt h.x0.1 (fun e => e)).trans h.head, own_keep h.all fun g hg => t.same g (hl g hg) (h.f0 g hg).1 (fun e => e), h.xB, ⟨(t.old xb h.head.lt).trans h.x0.1, h.x0.2⟩,
    fun g hg => ⟨(t.old g (hl g hg)).trans (h.f0 g hg).1, (h.f0 g hg).2⟩⟩
theorem Sx.left (h : Sx B w0 w ρ U s b xb D S R k a cap) : Left B w0 w ρ b xb (.pointer (some ⟨s, 0, none⟩)) D R k a cap :=
  ⟨h.at_.disk, h.ctx.low, h.ctx.base, h.ctx.rol, h.head, h.all, h.xB, h.x0.1, fun g hg => (h.f0 g hg).1⟩
/-- How much is sure is another number now. -/
theorem Sx.setk (h : Sx B w0 w ρ U s b xb D S R k a cap) (k' : Nat) : Sx B w0 (w.setCell ⟨xb, 3, none⟩ (.int .i64 (k' : Int))) ρ U s b xb D S R k' a cap := by
  have hset : ∀ g, g ≠ xb → (w.setCell ⟨xb, 3, none⟩ (.int .i64 (k' : Int))).heap[g]? = w.heap[g]? := fun g hg => heap_setCell_other _ _ g _ hg
  exact ⟨sat_keep h.at_ rfl rfl rfl (by simp [World.setCell]) (fun g _ hr => hset g (fun e => by rw [e] at hr; exact hr.elim (fun k => k h.x0.1) h.x0.2)), ⟨h.ctx.low.setCell (p := ⟨xb, 3, none⟩) h.xB _, h.ctx.base, h.ctx.rol, h.ctx.own⟩, heap_setCell_same _ _ 3 _ _ _ h.head,
    own_keep h.all fun g hg => hset g (h.allx hg), h.xB, h.x0, h.f0⟩
/-- A text is put to what was put there. -/
theorem Sx.app (h : Sx B w0 w ρ U s b xb D S R k a cap) {w6 w5 : World} {g cap9 : Nat} {r : ByteArray} (hb : Below w.heap.size w w6) (hg : w6.grownBy w5 (Value.slice a R.length cap).ownBlock) (ho : OwnT 0 w5 (some ⟨g, 0, none⟩) cap9 (R ++ [r])) (hgb : (Value.slice a R.length cap).ownBlock = some g ∨ g = w6.heap.size) :
    Sx B w0 (w5.setCell ⟨xb, 2, none⟩ (.slice (some ⟨g, 0, none⟩) (R.length + 1) cap9)) ρ U s b xb D S (R ++ [r]) k (some ⟨g, 0, none⟩) cap9 := by
  have hlen : (R ++ [r]).length = R.length + 1 := List.length_append
  have hset : ∀ y, y ≠ xb → (w5.setCell ⟨xb, 2, none⟩ (.slice (some ⟨g, 0, none⟩) (R.length + 1) cap9)).heap[y]? = w5.heap[y]? := fun y hy => heap_setCell_other _ _ y _ hy
  have k5 : ∀ y, y < w.heap.size → (Value.slice a R.length cap).ownBlock ≠ some y → w5.heap[y]? = w.heap[y]? := fun y hl hn => (hg.block y (Nat.lt_of_lt_of_le hl hb.size) (fun e => hn e.symm)).trans (hb.block y hl)
  have hh5 : ShelfAt w5 xb b (.pointer (some ⟨s, 0, none⟩)) (.slice a R.length cap) k := (k5 xb h.head.lt (fun e => h.allx e rfl)).trans h.head
  have hgx : g ≠ xb := fun e => own_ne_row (by decide) ho (show w5.heap[xb]? = _ from hh5) (by rw [← e]; rfl)
  have hgf : B ≤ g ∧ ρ g = 0 ∧ ¬ U g := by
    rcases hgb with e | e
    · exact ⟨(World.ownsRow.lt h.all g e).1, h.f0 g e⟩
    · have hs := hb.size
      exact ⟨by have := h.ctx.size; omega, h.at_.disk.raw.lab g (by omega), fun u => by have := (h.at_.off g u).2; omega⟩
  have hsat : SAt w5 ρ U s b D S := sat_keep h.at_ (hg.os.trans hb.os) (hg.tape.trans hb.tape) (hg.output.trans hb.output) (Nat.le_trans hb.size hg.size) fun y hl hr => k5 y hl (fun e => hr.elim (fun k => k (h.f0 y e).1) (h.f0 y e).2)
  refine ⟨sat_keep hsat rfl rfl rfl (by simp [World.setCell]) (fun y _ hr => hset y (fun e => by rw [e] at hr; exact hr.elim (fun k => k h.x0.1) h.x0.2)), ⟨?_, h.ctx.base, h.ctx.rol, h.ctx.own⟩, ?_, own_up (own_keep ho fun y hy => hset y ?_) fun y hy => ?_, h.xB, h.x0, fun y hy => ?_⟩
  · refine Below.setCell (p := ⟨xb, 2, none⟩) ?_ h.xB _
    exact ⟨hg.os.trans (hb.os.trans h.ctx.low.os), hg.tape.trans (hb.tape.trans h.ctx.low.tape), hg.output.trans (hb.output.trans h.ctx.low.output), Nat.le_trans h.ctx.low.size (Nat.le_trans hb.size hg.size), fun y hy => (k5 y (Nat.lt_of_lt_of_le hy h.ctx.size) (fun e => by have := (World.ownsRow.lt h.all y e).1; omega)).trans (h.ctx.low.block y hy)⟩
  · rw [hlen]; exact heap_setCell_same _ _ 2 _ _ _ hh5
  · have : g = y := by simpa [Value.ownBlock] using hy
    rw [← this]; exact hgx
  · have : g = y := by simpa [Value.ownBlock] using hy
    rw [← this]; exact hgf.1
  · have : g = y := by simpa [Value.ownBlock] using hy
    rw [← this]; exact hgf.2
end
theorem OwnT.capy {B : Nat} {w : World} {a : Option Addr} {cap : Nat} {l : List ByteArray} (h : OwnT B w a cap l) : l.length ≤ cap ∧ cap ≤ maxLen := by
  rcases h.2 with ⟨e, hn⟩ | ⟨g, c, cur, e, hB, hg, hn, hc, hs, ht⟩
  · injection e with _ _ e3
    subst e3
    exact ⟨by omega, Nat.zero_le _⟩
  · injection e with e1 e2 e3
    subst e3
    exact ⟨hn, hc⟩
theorem texts_take {w : World} {a : Option Addr} {l : List ByteArray} (h : TextsAt w a l) (m : Nat) : TextsAt w a (l.take m) := fun j hj => by
  rw [List.length_take] at hj
  obtain ⟨g, o, e, hg, hc⟩ := h j (by omega)
  refine ⟨g, o, e, hg, ?_⟩
  rw [hc, List.getD_eq_getElem?_getD, List.getD_eq_getElem?_getD, List.getElem?_take_of_lt (by omega)]
set_option maxRecDepth 100000 in
set_option maxHeartbeats 2000000 in
theorem stands_any {B : Nat} {w0 w : World} {ρ : Nat → Nat} {b xb n N M k : Nat} {p : Value} {D : Disk} {R : List ByteArray} {a : Option Addr} {cap : Nat} (h : Left B w0 w ρ b xb p D R k a cap) (hw : D.waits = []) (hi : Sg.Safe n N R k D.sure) (hrm : 1024 ≤ D.room) (hN : N < 1099511627000) (hb : Bud M D) (hM : M ≤ 99997000) (hR : R.length ≤ 1000000) :
    Calls Tryz.prog 17 #[.pointer (some ⟨xb, 0, none⟩)] w fun e w' => e = .returned (.bool true) ∧ ∃ s ρ' U' D' S' a' cap', Sh B w0 w' ρ' U' s b xb D' S' a' cap' ∧ Live n (N + 2) D' S' ∧ Bud (M + 14) D' ∧ D'.room = D.room ∧ S'.recs.length ≤ R.length := by
  obtain ⟨m, hm1, hm2, hrec⟩ := hi
  have hlen : (R.take m).length = m := by rw [List.length_take]; omega
  have hag := again_any h.disk hw hrec hrm hN hb hM
  obtain ⟨q0, -, -, -⟩ := shelf_cells h.head
  have hcap := h.all.capy
  have H := Lib.hid (And.intro h (And.intro hag (And.intro hm1 (And.intro hm2 hlen))))
  have hm9 : m ≤ 1000000 := by omega
  have hmc : (m : Int) ≤ (cap : Int) := by omega
  have hk1 : (k : Int) ≤ (m : Int) := by omega
  have hk2 : (m : Int) ≤ (R.length : Int) := by omega
  obtain ⟨L, hL⟩ : ∃ L, L = R.length := ⟨_, rfl⟩
  rw [← hL] at hk2
  have HL := Lib.hid hL
  clear h hw hrm hN hM hR hag hm1 hm2 hlen hrec hb hcap hL
  go_enter Tryz.func17, Tryz.ntmps17
  go_wp2_with fail
  refine H.out.2.1.mono ?_
  rintro e w1 ⟨s, ρ1, U1, D1, S1, rfl, hst⟩
  have hh1 : ShelfAt w1 xb b p (.slice a L cap) k := by
    rw [HL.out]
    exact (hst.touch.same xb H.out.1.head.lt H.out.1.x0 (fun e => e)).trans H.out.1.head
  obtain ⟨q0, q1, -, -⟩ := shelf_cells hh1
  have f1 := shelf_free hh1 1
  have hxl := hh1.lt
  have hh2 : ShelfAt (w1.setCell ⟨xb, 1, none⟩ (.pointer (some ⟨s, 0, none⟩))) xb b (.pointer (some ⟨s, 0, none⟩)) (.slice a L cap) k := heap_setCell_same _ _ 1 _ _ _ hh1
  have hxu : ¬ U1 xb := fun e => by have := hst.new xb e; have := H.out.1.head.lt; omega
  have hx1 : ρ1 xb = 0 := (hst.touch.old xb H.out.1.head.lt).trans H.out.1.x0
  have hsz2 : (w1.setCell ⟨xb, 1, none⟩ (.pointer (some ⟨s, 0, none⟩))).heap.size = w1.heap.size := by simp [World.setCell]
  have hset : ∀ g, g ≠ xb → (w1.setCell ⟨xb, 1, none⟩ (.pointer (some ⟨s, 0, none⟩))).heap[g]? = w1.heap[g]? := fun g hg => heap_setCell_other _ _ g _ hg
  have hsat2 : SAt (w1.setCell ⟨xb, 1, none⟩ (.pointer (some ⟨s, 0, none⟩))) ρ1 U1 s b D1 S1 := by
    have hd := diskAt_set hst.at_.disk ⟨xb, 1, none⟩ (.pointer (some ⟨s, 0, none⟩)) hx1
    obtain ⟨a', cap', ar, cr, h1, h2, h3, h4, h5⟩ := hst.at_.body
    exact ⟨hd, fun g hg => ⟨(hst.at_.off g hg).1, by rw [hsz2]; exact (hst.at_.off g hg).2⟩, hst.at_.us, a', cap', ar, cr, h1.same (hset s (fun e => hxu (e ▸ hst.at_.us))), own_keep h2 fun g hg => hset g (fun e => hxu (e ▸ h3 g hg)), h3, own_keep h4 fun g hg => hset g (fun e => hxu (e ▸ h5 g hg)), h5⟩
  have hall2 : OwnT B (w1.setCell ⟨xb, 1, none⟩ (.pointer (some ⟨s, 0, none⟩))) a cap R := own_keep H.out.1.all fun g hg => (hset g (fun e => own_ne_row (by decide) H.out.1.all H.out.1.head (by rw [hg, e]))).trans (hst.touch.same g (World.ownsRow.lt H.out.1.all g hg).2 (H.out.1.f0 g hg) (fun e => e))
  have hc2 : Ctx B w0 (w1.setCell ⟨xb, 1, none⟩ (.pointer (some ⟨s, 0, none⟩))) ρ1 U1 := by
    have hc : Ctx B w0 w1 ρ1 U1 := Ctx.new (U := fun _ => False) ⟨H.out.1.low, H.out.1.base, H.out.1.rol, fun _ _ k => k⟩ hst.touch hst.new
    exact ⟨hc.low.setCell (p := ⟨xb, 1, none⟩) H.out.1.xB _, hc.base, hc.rol, hc.own⟩
  obtain ⟨g0, g1, g2, g3⟩ := shelf_cells hh2
  have hal := sat_all hsat2 (by rw [hst.recs, H.out.2.2.2.2]; exact hm9) (fun x hx => by have := hst.live.small x hx; omega)
  rw [hst.recs, H.out.2.2.2.2] at hal
  have hx2 : xb < (w1.setCell ⟨xb, 1, none⟩ (.pointer (some ⟨s, 0, none⟩))).heap.size := hh2.lt
  have H1 := Lib.hid (And.intro hal (And.intro hst (And.intro hh2 (And.intro hsat2 (And.intro hall2 (And.intro hc2 (And.intro hxu hx1)))))))
  clear hal hst hh1 hh2 hsat2 hall2 hc2 hxu hx1 hset hsz2 hxl
  go_upto_region 2 with fail
  clear q0 q1 f1
  generalize w1.setCell _ _ = w2 at *
  go_wp2_with fail
  refine H1.out.1.mono ?_
  rintro e w3 ⟨gn, rfl, ho3, hb3⟩
  have hh3 : ShelfAt w3 xb b (.pointer (some ⟨s, 0, none⟩)) (.slice a L cap) k := (hb3.block xb hx2).trans H1.out.2.2.1
  obtain ⟨-, g1, g2, g3⟩ := shelf_cells hh3
  have hsat3 := H1.out.2.2.2.1.below hb3
  have hall3 := H1.out.2.2.2.2.1.call hb3
  have t1 : TextsAt w3 (some ⟨gn, 0, none⟩) (R.take m) := ho3.texts
  have hsm := rsame_any (R.take m) (some ⟨gn, 0, none⟩) a m cap w3 t1 (texts_take hall3.texts m) (by rw [H.out.2.2.2.2]; exact hm9)
  rw [H.out.2.2.2.2] at hsm
  have H3 := Lib.hid (And.intro hsm (And.intro hsat3 (And.intro hh3 (And.intro ho3 (H1.out.2.2.2.2.2.1.below hb3)))))
  clear hsm hsat3 hh3 ho3 hb3 hall3 t1 hx2
  go_wp2_with fail
  refine H3.out.1.mono ?_
  rintro e w4 ⟨rfl, hb4⟩
  have hx3 := H3.out.2.2.1.lt
  have hh4 : ShelfAt w4 xb b (.pointer (some ⟨s, 0, none⟩)) (.slice a L cap) k := (hb4.block xb hx3).trans H3.out.2.2.1
  obtain ⟨-, g1, g2, g3⟩ := shelf_cells hh4
  have f2 := shelf_free hh4 2
  have f3 := shelf_free hh4 3
  have hsat4 := H3.out.2.1.below hb4
  have hsu := sat_sure hsat4
  rw [H1.out.2.1.sure, H.out.2.2.2.2] at hsu
  have H4 := Lib.hid (And.intro hsu (And.intro hsat4 (And.intro hh4 (And.intro (H3.out.2.2.2.1.call hb4) (And.intro (H3.out.2.2.2.2.below hb4) (Nat.le_trans H3.out.2.2.2.2.size hb4.size))))))
  clear hsu hsat4 hh4 hb4 hx3
  go_wp2_with fail
  refine H4.out.1.mono ?_
  rintro e w5 ⟨rfl, rfl⟩
  go_wp2_with fail
  go_ret
  have hh5 : ShelfAt ((w4.setCell ⟨xb, 2, none⟩ (.slice (some ⟨gn, 0, none⟩) m m)).setCell ⟨xb, 3, none⟩ (.int .i64 (m : Int))) xb b (.pointer (some ⟨s, 0, none⟩)) (.slice (some ⟨gn, 0, none⟩) m m) m := heap_setCell_same _ _ 3 _ _ _ (heap_setCell_same _ _ 2 _ _ _ H4.out.2.2.1)
  have hset : ∀ g, g ≠ xb → ((w4.setCell ⟨xb, 2, none⟩ (.slice (some ⟨gn, 0, none⟩) m m)).setCell ⟨xb, 3, none⟩ (.int .i64 (m : Int))).heap[g]? = w4.heap[g]? := fun g hg => (heap_setCell_other _ _ g _ hg).trans (heap_setCell_other _ _ g _ hg)
  have hsz5 : ((w4.setCell ⟨xb, 2, none⟩ (.slice (some ⟨gn, 0, none⟩) m m)).setCell ⟨xb, 3, none⟩ (.int .i64 (m : Int))).heap.size = w4.heap.size := by simp [World.setCell]
  have hxu := H1.out.2.2.2.2.2.2.1
  have hx1 := H1.out.2.2.2.2.2.2.2
  have hl : S1.recs.length = m := by rw [H1.out.2.1.recs, H.out.2.2.2.2]
  have hsu : S1.sure = m := by rw [H1.out.2.1.sure, H.out.2.2.2.2]
  have hgl : w2.heap.size ≤ gn := (H3.out.2.2.2.1.lt rfl).1
  have ho4 : OwnT w2.heap.size w4 (some ⟨gn, 0, none⟩) m (R.take m) := by
    exact H4.out.2.2.2.1
  refine ⟨rfl, s, ρ1, U1, D1, S1, some ⟨gn, 0, none⟩, m, ⟨?_, ?_, ?_, ?_, H.out.1.xB, ⟨hx1, hxu⟩, fun g hg => ?_⟩, H1.out.2.1.live, H1.out.2.1.bud, H1.out.2.1.room, by rw [hl]; exact H.out.2.2.2.1⟩
  · have hd := diskAt_set (diskAt_set H4.out.2.1.disk ⟨xb, 2, none⟩ (.slice (some ⟨gn, 0, none⟩) m m) hx1) ⟨xb, 3, none⟩ (.int .i64 (m : Int)) hx1
    obtain ⟨a', cap', ar, cr, h1, h2, h3, h4, h5⟩ := H4.out.2.1.body
    exact ⟨hd, fun g hg => ⟨(H4.out.2.1.off g hg).1, by rw [hsz5]; exact (H4.out.2.1.off g hg).2⟩, H4.out.2.1.us, a', cap', ar, cr, h1.same (hset s (fun e => hxu (e ▸ H4.out.2.1.us))), own_keep h2 fun g hg => hset g (fun e => hxu (e ▸ h3 g hg)), h3, own_keep h4 fun g hg => hset g (fun e => hxu (e ▸ h5 g hg)), h5⟩
  · have hc := H4.out.2.2.2.2.1
    exact ⟨(hc.low.setCell (p := ⟨xb, 2, none⟩) H.out.1.xB _).setCell (p := ⟨xb, 3, none⟩) H.out.1.xB _, hc.base, hc.rol, hc.own⟩
  · rw [hl, hsu]; exact hh5
  · rw [H1.out.2.1.recs]
    refine own_up (own_keep (ownsRow_base (B := w2.heap.size) ho4 (Nat.zero_le _)) fun g hg => hset g (fun e => own_ne_row (by decide) H4.out.2.2.2.1 H4.out.2.2.1 ?_)) fun g hg => ?_
    · rw [H.out.2.2.2.2] at hg ⊢; rw [hg, e]
    · rw [H.out.2.2.2.2] at hg
      have : gn = g := by simpa [Value.ownBlock] using hg
      have := H1.out.2.2.2.2.2.1.size
      omega
  · rw [hl] at hg
    have : gn = g := by simpa [Value.ownBlock] using hg
    subst this
    exact ⟨H1.out.2.2.2.1.disk.raw.lab gn hgl, fun e => by have := (H1.out.2.2.2.1.off gn e).2; omega⟩
end Go.Proofs.YtdmbombjkinboaaGreat
