/- The law DiskClones: one disk, and two side by side. -/
import Derived.Test.YtefpfedpgedloaaDClone
import Derived.Test.YtefpfedpgedloaaDPlayM
import Derived.Test.YtefpfedpgedloaaDLSame
namespace Go.Proofs.Ytefpfedpgedloaa
open Go.RowKit
open Dk

/-- A disk that was touched leaves another as it was. -/
theorem Touch.aside {ρ σ σ' : Nat → Nat} {W W' : World} (t : Touch RA σ σ' W W') (hd : ∀ g, ρ g ≠ 0 → σ g = 0) : Touch (· = 0) ρ ρ W W' :=
  ⟨t.os, t.tape, t.output, t.size, fun _ _ => rfl, fun g hg hr => t.same g hg (fun e => e (hd g hr)), fun _ _ => rfl⟩
/-- The first loop. -/
structure ClS (w : World) (b B6 : Nat) (ρ : Nat → Nat) (D D0 : Disk) (cells : Array Value) (k : Nat) (W : World) : Prop where
  disk : DiskAt W ρ b D
  frm : From w.heap.size ρ
  old : Below w.heap.size w W
  near : Near k D
  ref : RefIn W (fun g => ρ g = 0 ∧ True) cells D0
  row : W.heap[B6]? = some (.cells cells 32 (0, 0))
  z6 : ρ B6 = 0
  three : D.sure.length = 3
theorem ClS.below {w W W' : World} {b B6 k : Nat} {ρ : Nat → Nat} {D D0 : Disk} {cells : Array Value} (h : ClS w b B6 ρ D D0 cells k W) (hb : Below W.heap.size W W') : ClS w b B6 ρ D D0 cells k W' :=
  ⟨h.disk.below hb, h.frm, h.old.trans (hb.mono h.old.size), h.near, h.ref.kept (keptS_below hb), (hb.block B6 (Array.getElem?_eq_some_iff.1 h.row).1).trans h.row, h.z6, h.three⟩
theorem ClS.step {w W W' : World} {b B6 k : Nat} {ρ ρ' : Nat → Nat} {D D0 : Disk} {cells : Array Value} (h : ClS w b B6 ρ D D0 cells k W) (x : Deed) (hx : x.Ok) (hd : DiskAt W' ρ' b (deed D x).1) (t : Touch RA ρ ρ' W W') : ClS w b B6 ρ' (deed D x).1 D0 cells (k + 1) W' := by
  have hs := h.old.size
  have h6 := (Array.getElem?_eq_some_iff.1 h.row).1
  exact ⟨hd, h.frm.touch t hs, h.old.trans (t.below h.frm (fun e => e rfl) hs), h.near.step x hx, h.ref.kept ⟨fun g hg hl => ⟨⟨(t.old g hl).trans hg.1, trivial⟩, t.same g hl (fun e => e hg.1)⟩, t.size⟩,
    (t.same B6 h6 (fun e => e h.z6)).trans h.row, (t.old B6 h6).trans h.z6, (deed_room D x).2.trans h.three⟩
/-- Two disks side by side, and a list. -/
structure Cl2 (w : World) (b b2 B6 : Nat) (ρ σ : Nat → Nat) (D C D0 : Disk) (cells : Array Value) (a : Option Addr) (cp : Nat) (L : List ByteArray) (kd kc : Nat) (W : World) : Prop where
  dd : DiskAt W ρ b D
  dc : DiskAt W σ b2 C
  dis : ∀ g, ρ g ≠ 0 → σ g = 0
  fd : From w.heap.size ρ
  fc : From w.heap.size σ
  old : Below w.heap.size w W
  nd : Near kd D
  nc : Near kc C
  ref : RefIn W (fun g => ρ g = 0 ∧ σ g = 0) cells D0
  row : W.heap[B6]? = some (.cells cells 32 (0, 0))
  z1 : ρ B6 = 0
  z2 : σ B6 = 0
  own : OwnX w.heap.size W a cp L
  free : ∀ g, (Value.slice a L.length cp).ownBlock = some g → ρ g = 0 ∧ σ g = 0
  t1 : D.sure.length = 3
  t2 : C.sure.length = 3
theorem Cl2.below {w W W' : World} {b b2 B6 : Nat} {ρ σ : Nat → Nat} {D C D0 : Disk} {cells : Array Value} {a : Option Addr} {cp : Nat} {L : List ByteArray} {kd kc : Nat} (h : Cl2 w b b2 B6 ρ σ D C D0 cells a cp L kd kc W) (hb : Below W.heap.size W W') : Cl2 w b b2 B6 ρ σ D C D0 cells a cp L kd kc W' :=
  ⟨h.dd.below hb, h.dc.below hb, h.dis, h.fd, h.fc, h.old.trans (hb.mono h.old.size), h.nd, h.nc, h.ref.kept (keptS_below hb), (hb.block B6 (Array.getElem?_eq_some_iff.1 h.row).1).trans h.row, h.z1, h.z2, h.own.below hb, h.free, h.t1, h.t2⟩
theorem Cl2.dis' {w W : World} {b b2 B6 : Nat} {ρ σ : Nat → Nat} {D C D0 : Disk} {cells : Array Value} {a : Option Addr} {cp : Nat} {L : List ByteArray} {kd kc : Nat} (h : Cl2 w b b2 B6 ρ σ D C D0 cells a cp L kd kc W) : ∀ g, σ g ≠ 0 → ρ g = 0 := fun g hg => by
  by_cases e : ρ g = 0
  · exact e
  · exact absurd (h.dis g e) hg
theorem Cl2.stepC {w W W' : World} {b b2 B6 : Nat} {ρ σ σ' : Nat → Nat} {D C D0 : Disk} {cells : Array Value} {a : Option Addr} {cp : Nat} {L : List ByteArray} {kd kc : Nat} (h : Cl2 w b b2 B6 ρ σ D C D0 cells a cp L kd kc W) (x : Deed) (hx : x.Ok)
    (hd : DiskAt W' σ' b2 (deed C x).1) (t : Touch RA σ σ' W W') : Cl2 w b b2 B6 ρ σ' D (deed C x).1 D0 cells a cp L kd (kc + 1) W' := by
  have hs := h.old.size
  have h6 := (Array.getElem?_eq_some_iff.1 h.row).1
  refine ⟨h.dd.touch (t.aside h.dis) (fun r hr e => hr e), hd, fun g hg => ?_, h.fd, h.fc.touch t hs, h.old.trans (t.below h.fc (fun e => e rfl) hs), h.nd, h.nc.step x hx, h.ref.kept ⟨fun g hg hl => ⟨⟨hg.1, (t.old g hl).trans hg.2⟩, t.same g hl (fun e => e hg.2)⟩, t.size⟩,
    (t.same B6 h6 (fun e => e h.z2)).trans h.row, h.z1, (t.old B6 h6).trans h.z2, h.own.kept (fun g hg => t.same g (h.own.1.lt g hg).2 (fun e => e (h.free g hg).2)), fun g hg => ⟨(h.free g hg).1, (t.old g (h.own.1.lt g hg).2).trans (h.free g hg).2⟩, h.t1, (deed_room C x).2.trans h.t2⟩
  by_cases hl : g < W.heap.size
  · rw [t.old g hl]; exact h.dis g hg
  · exact absurd (h.dd.raw.lab g (by omega)) hg
theorem Cl2.stepD {w W W' : World} {b b2 B6 : Nat} {ρ ρ' σ : Nat → Nat} {D C D0 : Disk} {cells : Array Value} {a : Option Addr} {cp : Nat} {L : List ByteArray} {kd kc : Nat} (h : Cl2 w b b2 B6 ρ σ D C D0 cells a cp L kd kc W) (x : Deed) (hx : x.Ok)
    (hd : DiskAt W' ρ' b (deed D x).1) (t : Touch RA ρ ρ' W W') : Cl2 w b b2 B6 ρ' σ (deed D x).1 C D0 cells a cp L (kd + 1) kc W' := by
  have hs := h.old.size
  have h6 := (Array.getElem?_eq_some_iff.1 h.row).1
  refine ⟨hd, h.dc.touch (t.aside h.dis') (fun r hr e => hr e), fun g hg => ?_, h.fd.touch t hs, h.fc, h.old.trans (t.below h.fd (fun e => e rfl) hs), h.nd.step x hx, h.nc, h.ref.kept ⟨fun g hg hl => ⟨⟨(t.old g hl).trans hg.1, hg.2⟩, t.same g hl (fun e => e hg.1)⟩, t.size⟩,
    (t.same B6 h6 (fun e => e h.z1)).trans h.row, (t.old B6 h6).trans h.z1, h.z2, h.own.kept (fun g hg => t.same g (h.own.1.lt g hg).2 (fun e => e (h.free g hg).1)), fun g hg => ⟨(t.old g (h.own.1.lt g hg).2).trans (h.free g hg).1, (h.free g hg).2⟩, (deed_room D x).2.trans h.t1, h.t2⟩
  by_cases hl : g < W.heap.size
  · rw [t.old g hl] at hg; exact h.dis g hg
  · exact h.dc.raw.lab g (by omega)
/-- Up, of the one disk alone. -/
theorem Near.up {k : Nat} {d : Disk} (h : Near k d) : Near k d.up := ⟨h.ok.up, h.waits, h.falls0, h.falls1, h.changes0, h.changes1, h.after⟩
theorem RefIn.swap {W : World} {p q : Nat → Prop} {c : Array Value} {R : Disk} (h : RefIn W (fun g => p g ∧ q g) c R) : RefIn W (fun g => q g ∧ p g) c R := h.kept ⟨fun _ hg _ => ⟨⟨hg.2, hg.1⟩, rfl⟩, Nat.le_refl _⟩
/-- A clone beside its disk, which has come up; and what is read of it. -/
theorem Cl2.start {w wr w8 w9 w10 : World} {b b2 B6 k kd : Nat} {ρ σ : Nat → Nat} {D D' D0 : Disk} {cells : Array Value} {a : Option Addr} {cp : Nat} (h : ClS w b B6 ρ D D0 cells k wr) (hc : DiskAt w8 σ b2 D) (hf : From wr.heap.size σ) (h8 : Below wr.heap.size wr w8)
    (hd : DiskAt w9 ρ b D') (hn : Near kd D') (hl : D'.sure.length = 3) (h9 : Touch RA ρ ρ w8 w9) (ho : OwnX w9.heap.size w10 a cp (extD D')) (h10 : Below w9.heap.size w9 w10) :
    Cl2 w b b2 B6 ρ σ D' D D0 cells a cp (extD D') kd k w10 := by
  have hs := h.old.size
  have h6 := (Array.getElem?_eq_some_iff.1 h.row).1
  have z8 := h8.size
  have z9 := h9.size
  have dis : ∀ g, ρ g ≠ 0 → σ g = 0 := fun g hg => by
    by_cases hl : g < wr.heap.size
    · exact hf g hl
    · exact absurd (h.disk.raw.lab g (by omega)) hg
  have dis' : ∀ g, σ g ≠ 0 → ρ g = 0 := fun g hg => by
    by_cases e : ρ g = 0
    · exact e
    · exact absurd (dis g e) hg
  have hc9 := hc.touch (h9.aside dis') (fun r hr e => hr e)
  refine ⟨hd.below h10, hc9.below h10, dis, h.frm, fun g hg => hf g (by omega), ((h.old.trans (h8.mono hs)).trans (h9.below h.frm (fun e => e rfl) (by omega))).trans (h10.mono (by omega)), hn, h.near, ?_, ?_, h.z6, hf B6 h6, ⟨ho.1, fun g hg => by have := ho.2 g hg; omega⟩, fun g hg => ⟨hd.raw.lab g (ho.2 g hg), hc9.raw.lab g (ho.2 g hg)⟩, hl, h.three⟩
  · refine h.ref.kept ⟨fun g hg hl => ⟨⟨hg.1, hf g hl⟩, ?_⟩, ?_⟩
    · rw [h10.block g (by omega), h9.same g (by omega) (fun e => e hg.1), h8.block g hl]
    · have := h10.size; omega
  · rw [h10.block B6 (by omega), h9.same B6 (by omega) (fun e => e h.z6), h8.block B6 h6]; exact h.row
/-- The disk is cloned again. -/
theorem Cl2.again {w wr w8 : World} {b b2 b3 B6 kd kc : Nat} {ρ σ σ3 : Nat → Nat} {D C D0 : Disk} {cells : Array Value} {a : Option Addr} {cp : Nat} {L : List ByteArray} (h : Cl2 w b b2 B6 ρ σ D C D0 cells a cp L kd kc wr) (hc : DiskAt w8 σ3 b3 D) (hf : From wr.heap.size σ3) (h8 : Below wr.heap.size wr w8) :
    Cl2 w b b3 B6 ρ σ3 D D D0 cells a cp L kd kd w8 := by
  have hs := h.old.size
  have h6 := (Array.getElem?_eq_some_iff.1 h.row).1
  have dis : ∀ g, ρ g ≠ 0 → σ3 g = 0 := fun g hg => by
    by_cases hl : g < wr.heap.size
    · exact hf g hl
    · exact absurd (h.dd.raw.lab g (by omega)) hg
  exact ⟨h.dd.below h8, hc, dis, h.fd, fun g hg => hf g (by omega), h.old.trans (h8.mono hs), h.nd, h.nd, h.ref.kept ⟨fun g hg hl => ⟨⟨hg.1, hf g hl⟩, h8.block g hl⟩, h8.size⟩, (h8.block B6 h6).trans h.row, h.z1, hf B6 h6, h.own.below h8, fun g hg => ⟨(h.free g hg).1, hf g (h.own.1.lt g hg).2⟩, h.t1, h.t1⟩
end Go.Proofs.Ytefpfedpgedloaa
