/- The law DiskPlays: the state at the head of a round, and behind an act. -/
import Derived.Test.YtefpfedpgedloaaDStayM
namespace Go.Proofs.Ytefpfedpgedloaa
open Go.RowKit
open Dk

theorem alloc_lt (w : World) (o : Obj) : w.heap.size < (w.alloc o).drew.heap.size := by show w.heap.size < (w.alloc o).heap.size; simp
/-- All that stands at the head of a round: the disk and the reference in one state. -/
def PlayS (w : World) (b B8 N : Nat) (room : Int) (k : Nat) (wr : World) : Prop :=
  ∃ (ρ : Nat → Nat) (D : Disk) (sv wv : Value), DiskAt wr ρ b D ∧ RefIn wr (fun g => ρ g = 0 ∧ g ≠ B8) (refCells D sv wv) D ∧ wr.heap[B8]? = some (.cells (refCells D sv wv) 32 (0, 0)) ∧ ρ B8 = 0 ∧ Below w.heap.size w wr ∧ From w.heap.size ρ ∧
    Near k D ∧ D.sure.length = N ∧ D.room = room ∧ w.heap.size ≤ B8
/-- Behind the act: the reference's next state lies in a box of its own. -/
structure PlayC (wr : World) (b B8 g10 : Nat) (ρ' ρ7 : Nat → Nat) (E : Disk) (old : Array Value) (sv wv : Value) (wc : World) : Prop where
  disk : DiskAt wc ρ7 b E
  ref : RefIn wc (fun g => ρ7 g = 0 ∧ g ≠ B8) (refCells E sv wv) E
  row8 : wc.heap[B8]? = some (.cells old 32 (0, 0))
  row10 : wc.heap[g10]? = some (.cells (refCells E sv wv) 32 (0, 0))
  z8 : ρ7 B8 = 0
  ne : g10 ≠ B8
  touch : Touch RA ρ' ρ7 wr wc
/-- A whole row is another now. -/
theorem row_puts {w : World} {g : Nat} {cs : Array Value} {t : TypeId} {vs : List Value} (h : w.heap[g]? = some (.cells cs t (0, 0))) (hl : vs.length = cs.size) : (w.setCells g 0 vs).heap[g]? = some (.cells vs.toArray t (0, 0)) := by
  obtain ⟨c', h1, h2, h3⟩ := heap_setCells g _ vs 0 w cs h (by omega)
  have e : c' = vs.toArray := Array.ext_getElem? fun i => by
    rw [h3]
    by_cases hi : i < vs.length
    · rw [if_pos ⟨Nat.zero_le _, by omega⟩]; simp
    · rw [if_neg (by omega), Array.getElem?_eq_none (by omega), Array.getElem?_eq_none (by simpa using hi)]
  rw [e] at h1
  exact h1
/-- A row of no role is another now. -/
theorem touch_puts {w : World} {ρ : Nat → Nat} {g : Nat} (vs : List Value) : Touch (· = 0) ρ ρ w (w.setCells g 0 vs) ∨ ρ g ≠ 0 := by
  by_cases h : ρ g = 0
  · refine .inl ?_
    have hz : (w.setCells g 0 vs).heap.size = w.heap.size := size_setCells _ _ _ _
    have hB : Below 0 w (w.setCells g 0 vs) := (Below.refl 0 w).grown (grownBy_setCells _ _ _ _) (Nat.zero_le _) (fun k _ => Nat.zero_le _)
    exact ⟨hB.os, hB.tape, hB.output, by omega, fun _ _ => rfl, fun k _ hk => heap_setCells_other _ _ (fun e => hk (by rw [e]; exact h)) _ _ _, fun _ _ => rfl⟩
  · exact .inr h
theorem disk_puts {w : World} {ρ : Nat → Nat} {b g : Nat} {D : Disk} (h : DiskAt w ρ b D) (hg : ρ g = 0) (vs : List Value) : DiskAt (w.setCells g 0 vs) ρ b D := by
  rcases touch_puts (w := w) (ρ := ρ) (g := g) vs with t | t
  · exact h.touch t (fun r hr e => hr e)
  · exact absurd hg t
theorem ref_puts' {w : World} {S T : Nat → Prop} {g : Nat} {c : Array Value} {R : Disk} (h : RefIn w S c R) (hS : ∀ k, S k → T k ∧ k ≠ g) (vs : List Value) : RefIn (w.setCells g 0 vs) T c R :=
  h.kept ⟨fun k hk _ => ⟨(hS k hk).1, heap_setCells_other _ _ (hS k hk).2 _ _ _⟩, by rw [size_setCells]; exact Nat.le_refl _⟩
/-- The box was made ahead of the call. -/
theorem playA {wr w7 : World} {b B8 : Nat} {ρ' ρ7 : Nat → Nat} {E : Disk} {old z : Array Value} {sv wv : Value} (h8 : wr.heap[B8]? = some (.cells old 32 (0, 0))) (hz8 : ρ' B8 = 0) (hz : ρ' wr.heap.size = 0) (hzs : z.size = 10)
    (hd : DiskAt w7 ρ7 b E) (hr : RefIn w7 (fun g => ρ7 g = 0 ∧ g ≠ B8 ∧ g ≠ wr.heap.size) (refCells E sv wv) E) (ht : Touch RA ρ' ρ7 (wr.alloc (.cells z 32)).drew w7) (vs : List Value) (hvs : vs = (refCells E sv wv).toList) :
    PlayC wr b B8 wr.heap.size ρ' ρ7 E old sv wv (w7.setCells wr.heap.size 0 vs) := by
  have hb8 : B8 < wr.heap.size := (Array.getElem?_eq_some_iff.1 h8).1
  have hlt := alloc_lt wr (.cells z 32)
  have hB : Below wr.heap.size wr (wr.alloc (.cells z 32)).drew := ((Below.refl _ _).alloc (Nat.le_refl _) _).drew
  have r8 : w7.heap[B8]? = some (.cells old 32 (0, 0)) := (ht.same B8 (by omega) (fun e => e hz8)).trans ((hB.block B8 hb8).trans h8)
  have r10 : w7.heap[wr.heap.size]? = some (.cells z 32 (0, 0)) := (ht.same _ hlt (fun e => e hz)).trans (heap_alloc_new wr _)
  have z10 : ρ7 wr.heap.size = 0 := (ht.old _ hlt).trans hz
  have hl : (refCells E sv wv).toList.length = z.size := by rw [hzs]; rfl
  have hta : (refCells E sv wv).toList.toArray = refCells E sv wv := by simp
  rw [← hvs] at hl hta
  obtain ⟨rc, hrc⟩ : ∃ rc, rc = refCells E sv wv := ⟨_, rfl⟩
  rw [← hrc] at hta hr
  have hzz : (w7.setCells wr.heap.size 0 vs).heap.size = w7.heap.size := size_setCells _ _ _ _
  have hg : w7.grownBy (w7.setCells wr.heap.size 0 vs) (some wr.heap.size) := grownBy_setCells _ _ _ _
  have a1 := disk_puts hd z10 vs
  have a2 := ref_puts' (T := fun g => ρ7 g = 0 ∧ g ≠ B8) hr (fun k hk => ⟨⟨hk.1, hk.2.1⟩, hk.2.2⟩) vs
  have a3 : (w7.setCells wr.heap.size 0 vs).heap[B8]? = _ := (heap_setCells_other _ _ (by omega) _ _ _).trans r8
  have a4 := row_puts r10 hl
  rw [hta] at a4
  rw [hrc] at a2 a4
  refine ⟨a1, a2, a3, a4, (ht.old B8 (by omega)).trans hz8, by omega, ?_⟩
  have h1 : Touch RA ρ' ρ7 wr w7 := (Touch.of_below ρ' hB).trans ht
  exact ⟨hg.os.trans h1.os, hg.tape.trans h1.tape, hg.output.trans h1.output, by have := h1.size; omega, h1.old, fun g hg hne => (heap_setCells_other _ _ (by omega) _ _ _).trans (h1.same g hg hne), fun g hg => h1.lab g (by omega)⟩
/-- The same, as the walk shows the world. -/
theorem playA10 {wr w7 : World} {b B8 : Nat} {ρ' ρ7 : Nat → Nat} {E : Disk} {old z : Array Value} {sv wv : Value} (h8 : wr.heap[B8]? = some (.cells old 32 (0, 0))) (hz8 : ρ' B8 = 0) (hz : ρ' wr.heap.size = 0) (hzs : z.size = 10)
    (h : DiskAt w7 ρ7 b E ∧ RefIn w7 (fun g => ρ7 g = 0 ∧ g ≠ B8 ∧ g ≠ wr.heap.size) (refCells E sv wv) E ∧ Touch RA ρ' ρ7 (wr.alloc (.cells z 32)).drew w7) :
    PlayC wr b B8 wr.heap.size ρ' ρ7 E old sv wv ((((((((((w7.setCell ⟨wr.heap.size, 0, none⟩ (.int .i64 E.room)).setCell ⟨wr.heap.size, 1, none⟩ sv).setCell ⟨wr.heap.size, 2, none⟩ wv).setCell ⟨wr.heap.size, 3, none⟩ (.int .i64 E.changes)).setCell ⟨wr.heap.size, 4, none⟩ (.int .i64 E.falls)).setCell ⟨wr.heap.size, 5, none⟩ (.bool E.down)).setCell ⟨wr.heap.size, 6, none⟩ (.int .i64 E.after)).setCell ⟨wr.heap.size, 7, none⟩ (.int .i64 E.keep)).setCell ⟨wr.heap.size, 8, none⟩ (.int .i64 E.torn)).setCell ⟨wr.heap.size, 9, none⟩ (.bool E.laid)) := playA h8 hz8 hz hzs h.1 h.2.1 h.2.2 [.int .i64 E.room, sv, wv, .int .i64 E.changes, .int .i64 E.falls, .bool E.down, .int .i64 E.after, .int .i64 E.keep, .int .i64 E.torn, .bool E.laid] rfl
theorem touch_of_drew {R : Nat → Prop} {ρ ρ' : Nat → Nat} {a b : World} (h : Touch R ρ ρ' a.drew b) : Touch R ρ ρ' a b := ⟨h.os, h.tape, h.output, h.size, h.old, h.same, h.lab⟩
/-- The box is made behind the call. -/
theorem playB {wr w7 wc : World} {b B8 : Nat} {ρ' ρ7 : Nat → Nat} {E : Disk} {old : Array Value} {sv wv : Value} (h8 : wr.heap[B8]? = some (.cells old 32 (0, 0))) (hz8 : ρ' B8 = 0)
    (hd : DiskAt w7 ρ7 b E) (hr : RefIn w7 (fun g => ρ7 g = 0 ∧ g ≠ B8 ∧ g ≠ B8) (refCells E sv wv) E) (ht : Touch RA ρ' ρ7 wr w7) (hb : Below w7.heap.size w7 wc) (h10 : wc.heap[w7.heap.size]? = some (.cells (refCells E sv wv) 32 (0, 0))) :
    PlayC wr b B8 w7.heap.size ρ' ρ7 E old sv wv wc := by
  have hb8 : B8 < wr.heap.size := (Array.getElem?_eq_some_iff.1 h8).1
  have hs := ht.size
  have r8 : w7.heap[B8]? = some (.cells old 32 (0, 0)) := (ht.same B8 (by omega) (fun e => e hz8)).trans h8
  exact ⟨hd.below hb, (hr.kept (T := fun g => ρ7 g = 0 ∧ g ≠ B8) ⟨fun k hk _ => ⟨⟨hk.1, hk.2.1⟩, hb.block k ‹_›⟩, hb.size⟩), (hb.block B8 (by omega)).trans r8, h10, (ht.old B8 (by omega)).trans hz8, by omega, ht.trans (Touch.of_below ρ7 hb)⟩
theorem playB1 {wr w7 : World} {b B8 : Nat} {ρ' ρ7 : Nat → Nat} {E : Disk} {old : Array Value} {sv wv : Value} (h8 : wr.heap[B8]? = some (.cells old 32 (0, 0))) (hz8 : ρ' B8 = 0)
    (h : DiskAt w7 ρ7 b E ∧ RefIn w7 (fun g => ρ7 g = 0 ∧ g ≠ B8 ∧ g ≠ B8) (refCells E sv wv) E ∧ Touch RA ρ' ρ7 wr.drew w7) :
    PlayC wr b B8 w7.heap.size ρ' ρ7 E old sv wv (w7.alloc (.cells #[.int .i64 E.room, sv, wv, .int .i64 E.changes, .int .i64 E.falls, .bool E.down, .int .i64 E.after, .int .i64 E.keep, .int .i64 E.torn, .bool E.laid] 32)) :=
  playB h8 hz8 h.1 h.2.1 (touch_of_drew h.2.2) ((Below.refl _ _).alloc (Nat.le_refl _) _) (heap_alloc_new w7 _)
/-- What a round holds behind the act. -/
structure PlayU (w : World) (b B8 N : Nat) (room : Int) (k : Nat) (ρ : Nat → Nat) (E : Disk) (sv wv : Value) (W : World) : Prop where
  disk : DiskAt W ρ b E
  ref : RefIn W (fun g => ρ g = 0 ∧ g ≠ B8) (refCells E sv wv) E
  row8 : W.heap[B8]? = some (.cells (refCells E sv wv) 32 (0, 0))
  z8 : ρ B8 = 0
  old : Below w.heap.size w W
  frm : From w.heap.size ρ
  near : Near k E
  len : E.sure.length = N
  room : E.room = room
  b8 : w.heap.size ≤ B8
theorem PlayU.out {w W : World} {b B8 N k : Nat} {room : Int} {ρ : Nat → Nat} {E : Disk} {sv wv : Value} (h : PlayU w b B8 N room k ρ E sv wv W) : PlayS w b B8 N room k W :=
  ⟨ρ, E, sv, wv, h.disk, h.ref, h.row8, h.z8, h.old, h.frm, h.near, h.len, h.room, h.b8⟩
theorem PlayU.below {w W W' : World} {b B8 N k : Nat} {room : Int} {ρ : Nat → Nat} {E : Disk} {sv wv : Value} (h : PlayU w b B8 N room k ρ E sv wv W) (hb : Below W.heap.size W W') : PlayU w b B8 N room k ρ E sv wv W' :=
  ⟨h.disk.below hb, h.ref.kept (keptS_below hb), (hb.block B8 (Array.getElem?_eq_some_iff.1 h.row8).1).trans h.row8, h.z8, h.old.trans (hb.mono h.old.size), h.frm, h.near, h.len, h.room, h.b8⟩
/-- The reference's box holds the next state. -/
theorem PlayC.next {w wr wc : World} {b B8 g10 N k : Nat} {room : Int} {ρ' ρ7 : Nat → Nat} {E : Disk} {old : Array Value} {sv wv : Value} (h : PlayC wr b B8 g10 ρ' ρ7 E old sv wv wc) (ho : old.size = 10) (hb : Below w.heap.size w wr) (hf : From w.heap.size ρ') (hn : Near k E) (hl : E.sure.length = N) (hr : E.room = room) (h8 : w.heap.size ≤ B8) (vs : List Value) (hvs : vs = (refCells E sv wv).toList) :
    PlayU w b B8 N room k ρ7 E sv wv (wc.setCells B8 0 vs) := by
  have hvl : (refCells E sv wv).toList.length = old.size := by rw [ho]; rfl
  have hta : (refCells E sv wv).toList.toArray = refCells E sv wv := by simp
  rw [← hvs] at hvl hta
  have a := disk_puts h.disk h.z8 vs
  have b := ref_puts' (T := fun g => ρ7 g = 0 ∧ g ≠ B8) h.ref (fun k hk => ⟨hk, hk.2⟩) vs
  have c := row_puts h.row8 hvl
  rw [hta] at c
  have hs := hb.size
  have hB : Below w.heap.size wc (wc.setCells B8 0 vs) := (Below.refl _ wc).grown (grownBy_setCells _ _ _ _) (by have := h.touch.size; omega) (fun k hk => by injection hk with hk; omega)
  exact ⟨a, b, c, h.z8, (hb.trans (h.touch.below hf (fun e => e rfl) hs)).trans hB, hf.touch h.touch hs, hn, hl, hr, h8⟩
theorem PlayC.next10 {w wr wc : World} {b B8 g10 N k : Nat} {room : Int} {ρ' ρ7 : Nat → Nat} {E : Disk} {old : Array Value} {sv wv : Value} (h : PlayC wr b B8 g10 ρ' ρ7 E old sv wv wc) (ho : old.size = 10) (hb : Below w.heap.size w wr) (hf : From w.heap.size ρ') (hn : Near k E) (hl : E.sure.length = N) (hr : E.room = room) (h8 : w.heap.size ≤ B8) :
    PlayU w b B8 N room k ρ7 E sv wv ((((((((((wc.setCell ⟨B8, 0, none⟩ (.int .i64 E.room)).setCell ⟨B8, 1, none⟩ sv).setCell ⟨B8, 2, none⟩ wv).setCell ⟨B8, 3, none⟩ (.int .i64 E.changes)).setCell ⟨B8, 4, none⟩ (.int .i64 E.falls)).setCell ⟨B8, 5, none⟩ (.bool E.down)).setCell ⟨B8, 6, none⟩ (.int .i64 E.after)).setCell ⟨B8, 7, none⟩ (.int .i64 E.keep)).setCell ⟨B8, 8, none⟩ (.int .i64 E.torn)).setCell ⟨B8, 9, none⟩ (.bool E.laid)) := h.next ho hb hf hn hl hr h8 [.int .i64 E.room, sv, wv, .int .i64 E.changes, .int .i64 E.falls, .bool E.down, .int .i64 E.after, .int .i64 E.keep, .int .i64 E.torn, .bool E.laid] rfl
/-- What is read of an extent, and its room. -/
theorem play_read {E : Disk} {q : Nat} (hd : E.down = false) (hq : q < E.sure.length) : readD E (q : Int) = exAt E.now q ∧ eerr E (q : Int) = 0 ∧ roomD E (q : Int) = E.room - ((exAt E.now q).size : Int) := by
  have h0 : eerr E (q : Int) = 0 := by unfold eerr; rw [if_neg (by rw [hd]; decide), if_neg (by omega)]
  refine ⟨?_, h0, ?_⟩
  · unfold readD; rw [if_pos h0, Int.toNat_natCast]
  · unfold roomD; rw [if_pos h0, Int.toNat_natCast]
theorem play_down {E : Disk} {x : Int} (hd : E.down = true) : readD E x = ⟨#[]⟩ ∧ eerr E x = 9 ∧ roomD E x = 0 := by
  have h0 : eerr E x = 9 := by unfold eerr; rw [if_pos hd]
  refine ⟨?_, h0, ?_⟩
  · unfold readD; rw [h0]; rfl
  · unfold roomD; rw [h0]; rfl
theorem below_drewN (w : World) (n : Nat) : Below w.heap.size w (w.drewN n) := ⟨rfl, rfl, rfl, Nat.le_refl _, fun _ _ => rfl⟩
theorem calls_still {f : Nat} {args : Array Value} {w : World} {x : Ending} (h : Calls Try.prog f args w fun e w' => e = x ∧ w = w') : Calls Try.prog f args w fun e w' => e = x ∧ w' = w := h.mono fun _ _ ⟨a, b⟩ => ⟨a, b.symm⟩
end Go.Proofs.Ytefpfedpgedloaa
