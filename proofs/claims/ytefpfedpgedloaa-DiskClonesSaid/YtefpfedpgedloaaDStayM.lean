/- The law DiskStays: what one act keeps; the state at the head of a round. -/
import Derived.Test.YtefpfedpgedloaaDLdo
import Derived.Test.YtefpfedpgedloaaDFew
import Derived.Test.YtefpfedpgedloaaDLExt
namespace Go.Proofs.Ytefpfedpgedloaa
open Go.RowKit
open Dk

theorem exAt_far {l : List ByteArray} {k : Nat} (h : l.length ≤ k) : exAt l k = ⟨#[]⟩ := by unfold exAt; rw [List.getD_eq_getElem?_getD, List.getElem?_eq_none h]; rfl
/-- An act keeps how many extents there are, and their room. -/
theorem deed_room (d : Disk) (x : Deed) : (deed d x).1.room = d.room ∧ (deed d x).1.sure.length = d.sure.length := by
  unfold deed
  split
  · exact Disk.act_room _ _ _ _
  split
  · exact Disk.act_room _ _ _ _
  split
  · exact Disk.act_room _ _ _ _
  split
  · unfold Disk.sync; split
    · exact ⟨rfl, rfl⟩
    · exact ⟨rfl, Disk.now_length d⟩
  split
  · exact Disk.fail_room _ _
  split
  · exact ⟨rfl, rfl⟩
  split
  · exact ⟨rfl, rfl⟩
  · exact ⟨rfl, rfl⟩
theorem deed_sync {d : Disk} {x : Deed} (h : x.kind = 3) : deed d x = d.sync := by
  unfold deed; rw [if_neg (by omega), if_neg (by omega), if_neg (by omega), if_pos h]
theorem sync_up' {d : Disk} (h : d.sync.1.down = false) : d.down = false := by
  unfold Disk.sync at h
  split at h
  · next e => have h' : d.down = false := h; rw [e] at h'; exact absurd h' (by decide)
  · exact h
theorem stays_deed {S : List ByteArray} {D : Disk} {x : Deed} (h : Stays S D) (ho : D.Ok) (hS : S.length = D.sure.length) (hk : ¬((x.kind = 1 ∨ x.kind = 2) ∧ 0 ≤ x.x ∧ x.x < S.length)) (h3 : x.kind = 3 → (deed D x).1.down = true) : Stays S (deed D x).1 := by
  have hl : ∀ k, D.sure.length ≤ k → exAt S k = ⟨#[]⟩ := fun k hk => exAt_far (by omega)
  by_cases e3 : x.kind = 3
  · have h4 := h3 e3
    rw [deed_sync e3] at h4 ⊢
    refine h.down ?_
    unfold Disk.sync at h4
    split at h4
    · assumption
    · exact h4
  clear h3
  unfold deed
  split
  · exact h.act ho (by omega) _ _ _ (fun k _ => .inl rfl) (fun k _ _ => .inr ⟨rfl, rfl⟩) hl
  split
  · next e => exact h.act ho (by omega) _ _ _ (fun k _ => .inl rfl) (fun k e2 hk2 => absurd ⟨.inl e, by omega, by omega⟩ hk) hl
  split
  · next e => exact h.act ho (by omega) _ _ _ (fun k _ => .inl rfl) (fun k e2 hk2 => absurd ⟨.inr e, by omega, by omega⟩ hk) hl
  split
  · exact h.fail ho _ _
  split
  · exact h.up
  split
  · exact h.lay _ _ _
  · exact h
theorem stays_cut {S : List ByteArray} {D : Disk} {x : Deed} (h : Stays S D) (ho : D.Ok) (hS : S.length = D.sure.length) (hk : x.kind = 1 ∨ x.kind = 2) (h0 : 0 ≤ x.x) (h1 : x.x < S.length) : Stays (S.set x.x.toNat ⟨#[]⟩) (deed D x).1 := by
  have hs : ∀ k : Nat, (k : Int) ≠ x.x → exAt (S.set x.x.toNat ⟨#[]⟩) k = exAt S k ∨ exAt (S.set x.x.toNat ⟨#[]⟩) k = ⟨#[]⟩ := fun k e => .inl (exAt_set_other (by omega) _)
  have hx : ∀ k : Nat, (k : Int) = x.x → exAt (S.set x.x.toNat ⟨#[]⟩) k = ⟨#[]⟩ := fun k e => by
    have e2 : x.x.toNat = k := by omega
    rw [e2]; exact exAt_set_same (by omega) _
  have hl : ∀ k, D.sure.length ≤ k → exAt (S.set x.x.toNat ⟨#[]⟩) k = ⟨#[]⟩ := fun k hk => exAt_far (by rw [List.length_set]; omega)
  unfold deed
  rw [if_neg (by omega)]
  split
  · exact h.act ho (by omega) _ _ _ hs (fun k e _ => .inl (hx k e)) hl
  rw [if_pos (by omega)]
  exact h.act ho (by omega) _ _ _ hs (fun k e _ => .inl (hx k e)) hl
theorem extD_at {D : Disk} (hd : D.down = false) {k : Nat} (hk : k < D.sure.length) : exAt (extD D) k = exAt D.now k := by
  have e : exAt (extD D) k = readD D (k : Int) := by
    unfold exAt extD
    rw [List.getD_eq_getElem?_getD, List.getElem?_map, List.getElem?_range hk]; rfl
  rw [e]
  unfold readD
  rw [if_pos (by unfold eerr; rw [if_neg (by rw [hd]; decide), if_neg (by omega)]), Int.toNat_natCast]
theorem stays_sync {D : Disk} {x : Deed} (hk : x.kind = 3) (hd : (deed D x).1.down = false) : Stays (extD (deed D x).1) (deed D x).1 := by
  rw [deed_sync hk] at hd ⊢
  have hu := sync_up' hd
  have e : D.sync.1 = { D with sure := D.now, waits := [] } := by unfold Disk.sync; rw [if_neg (by rw [hu]; decide)]
  rw [e] at hd ⊢
  intro k
  by_cases hk2 : k < D.now.length
  · refine .inr ⟨?_, fun c hc => by simp at hc⟩
    rw [extD_at hd (show k < D.now.length from hk2)]
    exact Pre.refl _
  · refine .inl (exAt_far ?_)
    rw [extD_length]
    show D.now.length ≤ k
    omega
/-- The state at the head of a round. -/
structure StayS (w : World) (b : Nat) (S : List ByteArray) (a : Option Addr) (cp k : Nat) (ρ : Nat → Nat) (D : Disk) (wr : World) : Prop where
  disk : DiskAt wr ρ b D
  frm : From w.heap.size ρ
  old : Below w.heap.size w wr
  near : Near k D
  three : D.sure.length = 3
  len : S.length = 3
  own : OwnX w.heap.size wr a cp S
  role : ∀ g, (Value.slice a S.length cp).ownBlock = some g → ρ g = 0
  stays : Stays S D
theorem StayS.below {w wr W : World} {b : Nat} {S : List ByteArray} {a : Option Addr} {cp k : Nat} {ρ : Nat → Nat} {D : Disk} (h : StayS w b S a cp k ρ D wr) (hb : Below wr.heap.size wr W) : StayS w b S a cp k ρ D W :=
  ⟨h.disk.below hb, h.frm, h.old.trans (hb.mono h.old.size), h.near, h.three, h.len, h.own.below hb, h.role, h.stays⟩
/-- Behind an act on the disk. -/
structure StayT (w : World) (b : Nat) (S : List ByteArray) (a : Option Addr) (cp k : Nat) (ρ : Nat → Nat) (D : Disk) (wr : World) : Prop where
  disk : DiskAt wr ρ b D
  frm : From w.heap.size ρ
  old : Below w.heap.size w wr
  near : Near k D
  three : D.sure.length = 3
  len : S.length = 3
  own : OwnX w.heap.size wr a cp S
  role : ∀ g, (Value.slice a S.length cp).ownBlock = some g → ρ g = 0
theorem StayS.oper {w W W' : World} {b : Nat} {S : List ByteArray} {a : Option Addr} {cp k : Nat} {ρ ρ' : Nat → Nat} {D : Disk} (h : StayS w b S a cp k ρ D W) (x : Deed) (hx : x.Ok) (hd : DiskAt W' ρ' b (deed D x).1) (ht : Touch RA ρ ρ' W W') : StayT w b S a cp (k + 1) ρ' (deed D x).1 W' := by
  have hs := h.old.size
  refine ⟨hd, h.frm.touch ht hs, h.old.trans (ht.below h.frm (fun e => e rfl) hs), h.near.step x hx, (deed_room D x).2.trans h.three, h.len, h.own.kept fun g hg => ?_, fun g hg => ?_⟩
  · exact ht.same g (h.own.1.lt g hg).2 (fun e => e (h.role g hg))
  · rw [ht.old g (h.own.1.lt g hg).2]; exact h.role g hg
theorem StayT.below {w wr W : World} {b : Nat} {S : List ByteArray} {a : Option Addr} {cp k : Nat} {ρ : Nat → Nat} {D : Disk} (h : StayT w b S a cp k ρ D wr) (hb : Below wr.heap.size wr W) : StayT w b S a cp k ρ D W :=
  ⟨h.disk.below hb, h.frm, h.old.trans (hb.mono h.old.size), h.near, h.three, h.len, h.own.below hb, h.role⟩
theorem StayT.stays {w wr : World} {b : Nat} {S : List ByteArray} {a : Option Addr} {cp k : Nat} {ρ : Nat → Nat} {D : Disk} (h : StayT w b S a cp k ρ D wr) (hs : Stays S D) : StayS w b S a cp k ρ D wr :=
  ⟨h.disk, h.frm, h.old, h.near, h.three, h.len, h.own, h.role, hs⟩
/-- Another list is sure now. -/
theorem StayT.fresh {w wr W : World} {b : Nat} {S S' : List ByteArray} {a a' : Option Addr} {cp cp' k : Nat} {ρ : Nat → Nat} {D : Disk} (h : StayT w b S a cp k ρ D wr) (hb : Below wr.heap.size wr W) (ho : OwnX wr.heap.size W a' cp' S') (hl : S'.length = 3) (hs : Stays S' D) : StayS w b S' a' cp' k ρ D W :=
  ⟨h.disk.below hb, h.frm, h.old.trans (hb.mono h.old.size), h.near, h.three, hl, ⟨ho.1, fun g hg => Nat.le_trans h.old.size (ho.2 g hg)⟩, fun g hg => h.disk.raw.lab g (ho.2 g hg), hs⟩
/-- One of the texts is nothing now. -/
theorem StayT.put {w wr : World} {b : Nat} {S : List ByteArray} {g cp k : Nat} {ρ : Nat → Nat} {D : Disk} (h : StayT w b S (some ⟨g, 0, none⟩) cp k ρ D wr) (j : Nat) (s : ByteArray) (hs : Stays (S.set j s) D) : StayS w b (S.set j s) (some ⟨g, 0, none⟩) cp k ρ D (wr.setCell ⟨g, j, none⟩ (.string s)) := by
  have hr : ρ g = 0 := h.role g rfl
  have hB : w.heap.size ≤ g := h.own.2 g rfl
  have hb : Below w.heap.size wr (wr.setCell ⟨g, j, none⟩ (.string s)) := (Below.refl _ wr).grown (World.ownsRow.stored h.own.1 j (.string s)).2 h.old.size (fun k hk => by injection hk with hk; omega)
  have ho : ∀ k, k ≠ g → (wr.setCell ⟨g, j, none⟩ (.string s)).heap[k]? = wr.heap[k]? := fun k hk => heap_setCell_other wr _ k _ hk
  refine ⟨h.disk.touch (R := (· = 0)) (ρ' := ρ) ⟨rfl, rfl, rfl, by simp, fun _ _ => rfl, fun k _ hk => ho k (fun e => hk (by rw [e]; exact hr)), fun _ _ => rfl⟩ (fun r hr e => hr e), h.frm, h.old.trans hb, h.near, h.three, by rw [List.length_set]; exact h.len, ?_, ?_, hs⟩
  · refine ⟨?_, fun k hk => h.own.2 k (by simpa [Value.ownBlock] using hk)⟩
    rw [List.length_set, show tcells (S.set j s) = (tcells S).set j (.string s) by unfold tcells; rw [List.map_set]]
    exact (World.ownsRow.stored h.own.1 j _).1
  · intro k hk
    rw [List.length_set] at hk
    exact h.role k hk
theorem StayT.cell {w wr : World} {b : Nat} {S : List ByteArray} {a : Option Addr} {cp k : Nat} {ρ : Nat → Nat} {D : Disk} (h : StayT w b S a cp k ρ D wr) : ∃ g, a = some ⟨g, 0, none⟩ ∧ 3 ≤ cp ∧ ∀ j, wr.frozen? ⟨g, j, none⟩ = false := by
  have ho := h.own.1
  rcases own4_form ho with ⟨-, h0, -⟩ | ⟨g, rfl, hc, -⟩
  · have := h.len; omega
  · exact ⟨g, rfl, by have := h.len; omega, fun j => World.ownsRow.frozenAt ho j⟩
theorem text_at {B : Nat} {w : World} {a : Option Addr} {cap : Nat} {l : List ByteArray} (h : OwnX B w a cap l) {j : Nat} (hj : j < l.length) : ∃ g, a = some ⟨g, 0, none⟩ ∧ w.cell? ⟨g, j, none⟩ = some (.string (exAt l j)) := by
  obtain ⟨g, h1, -, h2⟩ := (h.texts (S := fun _ => True) (fun _ _ => trivial)).at hj
  exact ⟨g, h1, h2⟩
end Go.Proofs.Ytefpfedpgedloaa
