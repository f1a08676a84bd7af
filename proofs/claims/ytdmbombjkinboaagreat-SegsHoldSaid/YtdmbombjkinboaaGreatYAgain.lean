/- segs: Open at what a store left; the law's own again. -/
import Derived.Test.YtdmbombjkinboaaGreatMS1
namespace Go.Proofs.YtdmbombjkinboaaGreat
open Go.RowKit
open Dk Sg Fr

/-- A store was opened: it has all records, and all are sure. -/
structure Stands (ρ : Nat → Nat) (b n N M : Nat) (R : List ByteArray) (D : Disk) (w : World) (s : Nat) (ρ' : Nat → Nat) (U' : Nat → Prop) (D' : Disk) (S' : Stor) (w' : World) : Prop where
  at_ : SAt w' ρ' U' s b D' S'
  new : ∀ g, U' g → w.heap.size ≤ g
  touch : TouchX (fun _ => False) ρ ρ' w w'
  live : Live n N D' S'
  recs : S'.recs = R
  sure : S'.sure = R.length
  room : D'.room = D.room
  laid : D.laid = false → D'.laid = false
  waits : D'.waits = []
  bud : Bud M D'
  rm : Rm D → Rm D'
theorem sopen_out {w : World} {ρ : Nat → Nat} {b n N M : Nat} {D : Disk} {R : List ByteArray} (h : DiskAt w ρ b D) (hu : D.down = false) (hw : D.waits = []) (hi : Rec n N R D.sure) (hrm : 1024 ≤ D.room) (hN : N < 1099511627776) (hb : Bud M D) (hM : M ≤ 99998000) :
    Calls Tryz.prog 28 #[.pointer (some ⟨b, 0, none⟩)] w fun e w' =>
      (∃ s ρ' U' D' S', e = .returned (.tuple #[.pointer (some ⟨s, 0, none⟩), .int .i64 0]) ∧ Stands ρ b n (N + 1) (M + 7) R D w s ρ' U' D' S' w') ∨
      (∃ ρ' D', e = .returned (.tuple #[.pointer none, .int .i64 9]) ∧ DiskAt w' ρ' b D' ∧ TouchX (fun _ => False) ρ ρ' w w' ∧ FellTo (Rec n (N + 1) R) D D' ∧ Bud (M + 7) D') := by
  obtain ⟨Ls, c, l, T, h1, rfl⟩ := hi
  have hnow : D.now = D.sure := by unfold Disk.now; rw [hw]; rfl
  have hz : Sz D.sure := by rw [← hnow]; exact h.ok.fits.all
  obtain ⟨L, E, k1, k2, k3, k4⟩ := h1.form hz
  have hlen := h1.len
  have h3 := h1.n3
  have ho := sopen_any h hu hlen h3 hrm hb (by omega) L (by rw [hnow]; exact k1) l E (by rw [k2]; exact h1.exts) (k3 D hnow) (by rw [k2]; have := h1.c1; omega) (by rw [k2]; have := h1.epoch; omega) (fun e => by
    subst e
    have h0 : (stS D.falls (cAt L 2) ([] : List (Nat × List ByteArray)) 0).segs = [] := rfl
    unfold mayTurnS leftS
    show (if (D.sure.length : Int) - 2 - ((stS D.falls (cAt L 2) ([] : List (Nat × List ByteArray)) 0).segs.length : Int) = 0 ∨ (cAt L 2).2.epoch = 1099511627776 then (6 : Int) else 0) = 0
    rw [h0, k2, if_neg]
    have := h1.epoch
    rintro (e | e)
    · simp at e; omega
    · omega)
  rw [k2] at ho
  have hbud := bud_openS (S := stS D.falls c l l.length) hb k4.tears3
  have hout := open_out hu hw k4 hz hrm hN
  refine ho.mono ?_
  rintro e w' (⟨q1, s, ρ', U', rfl, p1, p2, p3⟩ | ⟨q1, rfl, ρ', p1, p2⟩)
  · rcases hout with ⟨-, m1, m2, m3, m4, m5⟩ | ⟨m1, -⟩
    · exact .inl ⟨s, ρ', U', _, _, rfl, p1, p2, p3, m1, m2, m3, m4.room, m4.laid, m5, hbud, fun k => rm_openS k⟩
    · rw [q1] at m1; exact absurd m1 (by decide)
  · rcases hout with ⟨m1, -⟩ | ⟨m1, m2⟩
    · exact absurd m1 q1
    · exact .inr ⟨ρ', _, by rw [m1], p1, p2, m2, hbud⟩
set_option maxRecDepth 100000 in
set_option maxHeartbeats 1000000 in
theorem again_any {w : World} {ρ : Nat → Nat} {b n N M : Nat} {D : Disk} {R : List ByteArray} (h : DiskAt w ρ b D) (hw : D.waits = []) (hi : Rec n N R D.sure) (hrm : 1024 ≤ D.room) (hN : N < 1099511627000) (hb : Bud M D) (hM : M ≤ 99997000) :
    Calls Tryz.prog 10 #[.pointer (some ⟨b, 0, none⟩)] w fun e w' => ∃ s ρ' U' D' S', e = .returned (.pointer (some ⟨s, 0, none⟩)) ∧ Stands ρ b n (N + 2) (M + 14) R D w s ρ' U' D' S' w' := by
  have H := Lib.hid (And.intro h (And.intro hw (And.intro hi (And.intro hrm (And.intro hN (And.intro hb hM))))))
  clear h hw hi hrm hN hb hM
  go_enter Tryz.func10, Tryz.ntmps10
  go_wp2_with fail
  go_loopw [3, 4, 5] (fun iv _ _ wr => ∃ i : Nat, i ≤ 1 ∧ iv = .int .i64 i ∧ ∃ ρi Di, DiskAt wr ρi b Di ∧ Di.waits = [] ∧ Rec n (N + i) R Di.sure ∧ Di.room = D.room ∧ (i = 1 ∨ D.laid = false → Di.laid = false) ∧ TouchX (fun _ => False) ρ ρi w wr ∧ Bud (M + 7 * i) Di ∧ (Rm D → Rm Di)) (fun iv _ _ _ => 4 - (intOf iv).toNat)
  case atStart => exact ⟨0, by omega, rfl, ρ, D, H.out.1, H.out.2.1, H.out.2.2.1, rfl, fun e => e.elim (fun e => by omega) id, TouchX.refl _ _ _, H.out.2.2.2.2.2.1, id⟩
  case round =>
    obtain ⟨i, hi, rfl, ρi, Di, h1, h2, h3, h4, h5, h6, h7, h8⟩ := hrel
    have hup := up_any h1
    have HR := Lib.hid (And.intro h1 (And.intro h2 (And.intro h3 (And.intro h4 (And.intro h5 (And.intro h6 (And.intro h7 (And.intro hup h8))))))))
    clear h1 h2 h3 h4 h5 h6 h7 h8 hup
    have hi4 : (i : Int) < 4 := by omega
    go_wp2_with fail
    refine HR.out.2.2.2.2.2.2.2.1.mono ?_
    rintro e w1 ⟨rfl, hD1, ht1⟩
    have hop := sopen_out (R := R) (n := n) (N := N + i) hD1 rfl HR.out.2.1 HR.out.2.2.1 (by show 1024 ≤ Di.room; rw [HR.out.2.2.2.1]; exact H.out.2.2.2.1) (by have := H.out.2.2.2.2.1; omega) HR.out.2.2.2.2.2.2.1.up (by have := H.out.2.2.2.2.2.2; omega)
    have ht := HR.out.2.2.2.2.2.1.trans (TouchX.of (X := fun _ => False) (ht1.mono (R' := RA) fun r e => by rw [e]; unfold RA; decide))
    have H1 := Lib.hid (And.intro hop ht)
    clear hop ht hD1 ht1
    go_wp2_with fail
    refine H1.out.1.mono ?_
    rintro e w2 (⟨s, ρ', U', D', S', rfl, hst⟩ | ⟨ρ', D', rfl, q1, q2, q3, q4⟩)
    · have H2 := Lib.hid hst
      clear hst
      go_wp2_with fail
      go_ret
      have hs := H2.out
      refine ⟨s, ρ', U', D', S', rfl, hs.at_, fun g hg => Nat.le_trans H1.out.2.size (hs.new g hg), H1.out.2.trans hs.touch, hs.live.mono (by omega), hs.recs, hs.sure, hs.room.trans HR.out.2.2.2.1, fun e => hs.laid (HR.out.2.2.2.2.1 (.inr e)), hs.waits, hs.bud.mono (by omega), fun k => hs.rm (show Rm Di.up from HR.out.2.2.2.2.2.2.2.2 k)⟩
    · have H2 := Lib.hid (And.intro q1 (And.intro q2 (And.intro q3 q4)))
      clear q1 q2 q3 q4
      go_wp2_with fail
      go_roundw
      case rel =>
        have i0 : i = 0 := by
          by_cases e : i = 1
          · have h1 := HR.out.2.2.2.2.1 (.inl e)
            have h2 : Di.laid = true := H2.out.2.2.1.was
            rw [h1] at h2; cases h2
          · omega
        subst i0
        exact ⟨1, by omega, by go_num, ρ', D', H2.out.1, H2.out.2.2.1.waits, H2.out.2.2.1.p, H2.out.2.2.1.room.trans HR.out.2.2.2.1, fun _ => H2.out.2.2.1.laid, H1.out.2.trans H2.out.2.1, H2.out.2.2.2.mono (by omega), fun k => by
          have h2 : Di.laid = true := H2.out.2.2.1.was
          have h3 := (HR.out.2.2.2.2.2.2.2.2 k).1
          rw [h3] at h2; cases h2⟩
      case measure => simp [intOf]; omega
end Go.Proofs.YtdmbombjkinboaaGreat
