/- segs: Append. -/
import Derived.Test.YtdmbombjkinboaaGreatYApp
namespace Go.Proofs.YtdmbombjkinboaaGreat
open Go.RowKit
open Dk Sg Fr

/-- The copy of a store, behind a turn if one was wanted: t is what the turn says. -/
def Mid (w2 : World) (ρ : Nat → Nat) (nx b : Nat) (a : Option Addr) (cap : Nat) (ar : Option Addr) (cr : Nat) (S : Stor) (t : Res) (wc : World) : Prop :=
  ∃ ρ' a' cap', DiskAt wc ρ' b t.1 ∧ Hd wc nx b t.2.1 (.slice a' t.2.1.segs.length cap') (.slice ar t.2.1.recs.length cr) ∧ OwnG wc a' cap' t.2.1.segs ∧
    (∀ g, (Value.slice a' t.2.1.segs.length cap').ownBlock = some g → ρ' g = 0 ∧ ((Value.slice a S.segs.length cap).ownBlock = some g ∨ w2.heap.size ≤ g)) ∧ TouchX (fun g => g = nx ∨ (Value.slice a S.segs.length cap).ownBlock = some g) ρ ρ' w2 wc ∧ OwnG wc a cap S.segs
/-- The store itself, behind what was done to its copy. -/
theorem sat_back {w w2 wc : World} {ρ ρ' : Nat → Nat} {U : Nat → Prop} {s b nx : Nat} {D D' : Disk} {S : Stor} {a ar : Option Addr} {cap cr : Nat} (h : SAt w ρ U s b D S)
    (hd : Hd w s b S (.slice a S.segs.length cap) (.slice ar S.recs.length cr)) (ho : OwnG w a cap S.segs) (hu : ∀ g, (Value.slice a S.segs.length cap).ownBlock = some g → U g) (hor : OwnT 0 w ar cr S.recs) (hur : ∀ g, (Value.slice ar S.recs.length cr).ownBlock = some g → U g)
    (hb : Below w.heap.size w w2) (hnx : w.heap.size ≤ nx) (hD : DiskAt wc ρ' b D') (ht : TouchX (fun g => g = nx ∨ (Value.slice a S.segs.length cap).ownBlock = some g) ρ ρ' w2 wc) (ho' : OwnG wc a cap S.segs) :
    SAt wc ρ' U s b D' S ∧ Move ρ U ρ' U w wc ∧ Hd wc s b S (.slice a S.segs.length cap) (.slice ar S.recs.length cr) ∧ OwnT 0 wc ar cr S.recs := by
  have hlt : ∀ g, U g → g < w2.heap.size := fun g hg => Nat.lt_of_lt_of_le (h.off g hg).2 hb.size
  have hne : ∀ g, U g → g ≠ nx := fun g hg e => by have := (h.off g hg).2; omega
  have hds : Hd wc s b S (.slice a S.segs.length cap) (.slice ar S.recs.length cr) := hd.same ((ht.same s (hlt s h.us) (h.off s h.us).1 (fun e => e.elim (hne s h.us) (OwnG.ne hd ho))).trans (hb.block s (h.off s h.us).2))
  have hrs : OwnT 0 wc ar cr S.recs := hor.same fun g hg => (ht.same g (hlt g (hur g hg)) (h.off g (hur g hg)).1 (fun e => e.elim (hne g (hur g hg)) (OwnT.ne_seg ho hor hg))).trans (hb.block g (h.off g (hur g hg)).2)
  refine ⟨⟨hD, fun g hg => ⟨(ht.old g (hlt g hg)).trans (h.off g hg).1, Nat.lt_of_lt_of_le (hlt g hg) ht.size⟩, h.us, a, cap, ar, cr, hds, ho', hu, hrs, hur⟩, ⟨ht.os.trans hb.os, ht.tape.trans hb.tape, ht.output.trans hb.output, Nat.le_trans hb.size ht.size, fun g hg => ht.old g (Nat.lt_of_lt_of_le hg hb.size), fun _ _ => Iff.rfl,
    fun g hg h0 hx => (ht.same g (Nat.lt_of_lt_of_le hg hb.size) h0 (fun e => e.elim (fun e => by omega) (fun e => hx (hu g e)))).trans (hb.block g hg), ht.lab⟩, hds, hrs⟩
theorem thenS_segs {D : Disk} {S : Stor} (h : S.segs ≠ []) : (turnS D S).2.1.segs ≠ [] := by
  rcases (turnS_keeps D S).2.2 with e | e
  · rw [e]; exact h
  · rw [e]; simp
/-- All cells of a store are written. -/
theorem st7 {w : World} {s b : Nat} {S S' : Stor} {vs vr vs' vr' : Value} (h : Hd w s b S vs vr) :
    Hd (((((((w.setCell ⟨s, 0, none⟩ (.pointer (some ⟨b, 0, none⟩))).setCell ⟨s, 1, none⟩ (.int .i64 S'.falls)).setCell ⟨s, 2, none⟩ (.int .i64 (S'.at_ : Int))).setCell ⟨s, 3, none⟩ (.int .i64 (S'.epoch : Int))).setCell ⟨s, 4, none⟩ vs').setCell ⟨s, 5, none⟩ vr').setCell ⟨s, 6, none⟩ (.int .i64 (S'.sure : Int))) s b S' vs' vr' := by
  have e0 := heap_setCell_same _ _ 0 _ _ (.pointer (some ⟨b, 0, none⟩)) h
  have e1 := heap_setCell_same _ _ 1 _ _ (.int .i64 S'.falls) e0
  have e2 := heap_setCell_same _ _ 2 _ _ (.int .i64 (S'.at_ : Int)) e1
  have e3 := heap_setCell_same _ _ 3 _ _ (.int .i64 (S'.epoch : Int)) e2
  have e4 := heap_setCell_same _ _ 4 _ _ vs' e3
  have e5 := heap_setCell_same _ _ 5 _ _ vr' e4
  have e6 := heap_setCell_same _ _ 6 _ _ (.int .i64 (S'.sure : Int)) e5
  unfold Hd
  rw [e6]
  rfl
def W7os (a b : World) : Prop := b.os = a.os ∧ b.tape = a.tape ∧ b.output = a.output
theorem W7os.set {a b : World} (h : W7os a b) (p : Addr) (v : Value) : W7os a (b.setCell p v) := ⟨h.1, h.2.1, h.2.2⟩
theorem st7_other (w : World) (s : Nat) (v0 v1 v2 v3 v4 v5 v6 : Value) : (∀ g, g ≠ s → (((((((w.setCell ⟨s, 0, none⟩ v0).setCell ⟨s, 1, none⟩ v1).setCell ⟨s, 2, none⟩ v2).setCell ⟨s, 3, none⟩ v3).setCell ⟨s, 4, none⟩ v4).setCell ⟨s, 5, none⟩ v5).setCell ⟨s, 6, none⟩ v6).heap[g]? = w.heap[g]?) ∧
    (((((((w.setCell ⟨s, 0, none⟩ v0).setCell ⟨s, 1, none⟩ v1).setCell ⟨s, 2, none⟩ v2).setCell ⟨s, 3, none⟩ v3).setCell ⟨s, 4, none⟩ v4).setCell ⟨s, 5, none⟩ v5).setCell ⟨s, 6, none⟩ v6).heap.size = w.heap.size ∧ W7os w (((((((w.setCell ⟨s, 0, none⟩ v0).setCell ⟨s, 1, none⟩ v1).setCell ⟨s, 2, none⟩ v2).setCell ⟨s, 3, none⟩ v3).setCell ⟨s, 4, none⟩ v4).setCell ⟨s, 5, none⟩ v5).setCell ⟨s, 6, none⟩ v6) :=
  ⟨fun g hg => by rw [heap_setCell_other _ _ g _ hg, heap_setCell_other _ _ g _ hg, heap_setCell_other _ _ g _ hg, heap_setCell_other _ _ g _ hg, heap_setCell_other _ _ g _ hg, heap_setCell_other _ _ g _ hg, heap_setCell_other _ _ g _ hg], by simp [World.setCell], (((((((show W7os w w from ⟨rfl, rfl, rfl⟩).set _ _).set _ _).set _ _).set _ _).set _ _).set _ _).set _ _⟩
/-- The turn ahead of a record, if one is wanted; what follows. -/
def aheadS (D : Disk) (S : Stor) (r : ByteArray) : Res := if roomD D S.last < (r.size : Int) + 8 then turnS D S else (D, S, 0)
theorem aheadS_keeps {n : Nat} {D : Disk} {S : Stor} {r : ByteArray} (h : S.segs ≠ []) (hs : Bud n D) : (aheadS D S r).2.1.recs = S.recs ∧ (aheadS D S r).2.1.segs ≠ [] ∧ (aheadS D S r).2.1.falls = S.falls ∧ Bud (n + 4) (aheadS D S r).1 := by
  unfold aheadS
  split
  · exact ⟨(turnS_keeps D S).1, thenS_segs h, (turnS_keeps D S).2.1, bud_turnS hs⟩
  · exact ⟨rfl, h, rfl, hs.mono (by omega)⟩
def behindS (S : Stor) (r : ByteArray) (t : Res) : Disk × Stor × Int × Int :=
  if t.2.2 ≠ 0 then (t.1, S, 0, t.2.2)
  else if (t.1.act 0 t.2.1.last 0 (str (frm r.data.toList))).2 ≠ 0 then ((t.1.act 0 t.2.1.last 0 (str (frm r.data.toList))).1, S, 0, (t.1.act 0 t.2.1.last 0 (str (frm r.data.toList))).2)
  else ((t.1.act 0 t.2.1.last 0 (str (frm r.data.toList))).1, { t.2.1 with recs := t.2.1.recs ++ [r] }, t.2.1.recs.length, 0)
theorem appendS_main {D : Disk} {S : Stor} {r : ByteArray} (h0 : ¬ r.size = 0) (h1 : ¬ 900 < r.size) (h2 : fellS D S = false) : appendS D S r = behindS S r (aheadS D S r) := by
  unfold appendS
  rw [if_neg h0, if_neg h1, if_neg (by rw [h2]; decide)]; rfl
theorem appendS_fell {D : Disk} {S : Stor} {r : ByteArray} (h0 : ¬ r.size = 0) (h1 : ¬ 900 < r.size) (h2 : fellS D S = true) : appendS D S r = (D, S, 0, 9) := by
  unfold appendS
  rw [if_neg h0, if_neg h1, if_pos h2]
set_option maxRecDepth 100000 in
set_option maxHeartbeats 2000000 in
theorem sappend_any {w : World} {ρ : Nat → Nat} {U : Nat → Prop} {s b n : Nat} {D : Disk} {S : Stor} (h : SAt w ρ U s b D S) (hs : Bud n D) (hn : n ≤ 99999980) (hf : Fine S) (r : ByteArray) (hr : r.size ≤ maxLen) :
    Calls Tryz.prog 24 #[.pointer (some ⟨s, 0, none⟩), .string r] w fun e w' => e = .returned (.tuple #[.int .i64 (appendS D S r).2.2.1, .int .i64 (appendS D S r).2.2.2]) ∧
      ∃ ρ' U', SAt w' ρ' U' s b (appendS D S r).1 (appendS D S r).2.1 ∧ Move ρ U ρ' U' w w' := by
  unfold maxLen at hr
  by_cases hz : r.size = 0
  · have he : r.toList.isEmpty = true := by rw [empty_size]; exact decide_eq_true hz
    rw [show appendS D S r = (D, S, 0, 1) from if_pos hz]
    have H := Lib.hid h
    clear h hs hn hf hz hr
    go_enter Tryz.func24, Tryz.ntmps24
    go_wp2_with fail
    go_ret2
    exact ⟨rfl, ρ, U, H.out, Move.refl _ _ _⟩
  by_cases hl : 900 < r.size
  · have he : r.toList.isEmpty = false := by rw [empty_size]; exact decide_eq_false hz
    have hl' : (900 : Int) < (r.size : Int) := by omega
    rw [show appendS D S r = (D, S, 0, 2) from (if_neg hz).trans (if_pos hl)]
    have H := Lib.hid h
    clear h hs hn hf hz hl
    go_enter Tryz.func24, Tryz.ntmps24
    go_wp2_with fail
    go_ret2
    exact ⟨rfl, ρ, U, H.out, Move.refl _ _ _⟩
  have he : r.toList.isEmpty = false := by rw [empty_size]; exact decide_eq_false hz
  have hl' : (r.size : Int) ≤ 900 := by omega
  obtain ⟨R, hR⟩ : ∃ R, R = appendS D S r := ⟨_, rfl⟩
  rw [← hR]
  obtain ⟨a, cap, ar, cr, hd, ho, hu, hor, hur⟩ := h.body
  have hfl := sfell_any h.disk hd
  obtain ⟨fl, hfe⟩ : ∃ fl, fl = fellS D S := ⟨_, rfl⟩
  rw [← hfe] at hfl
  have H := Lib.hid (And.intro h (And.intro hs (And.intro hf (And.intro hd (And.intro ho (And.intro hu (And.intro hor (And.intro hur (And.intro hfl (And.intro hR (And.intro hn (And.intro hfe (And.intro hz hl)))))))))))))
  clear h hs hf hd ho hu hor hur hfl hR hfe hn hl hr
  clear hz
  go_enter Tryz.func24, Tryz.ntmps24
  go_wp2_with fail
  refine H.out.2.2.2.2.2.2.2.2.1.mono ?_
  rintro e w1 ⟨rfl, hb1⟩
  have h1 := H.out.1.below hb1
  have hd1 := H.out.2.2.2.1.same (hb1.block _ H.out.2.2.2.1.lt)
  obtain ⟨q0, q1, q2, q3, q4, q5, q6⟩ := hd_cells hd1
  have hsl : s < w1.heap.size := hd1.lt
  have H1 := Lib.hid (And.intro h1 (And.intro hd1 hb1))
  clear h1 hd1 hb1
  cases fl with
  | true =>
    go_wp2_with fail
    go_ret2
    rw [H.out.2.2.2.2.2.2.2.2.2.1.trans (appendS_fell H.out.2.2.2.2.2.2.2.2.2.2.2.2.1 H.out.2.2.2.2.2.2.2.2.2.2.2.2.2 H.out.2.2.2.2.2.2.2.2.2.2.2.1.symm)]
    exact ⟨rfl, ρ, U, H1.out.1, Move.below H1.out.2.2⟩
  | false =>
    have hRR := Lib.hid (H.out.2.2.2.2.2.2.2.2.2.1.trans (appendS_main H.out.2.2.2.2.2.2.2.2.2.2.2.2.1 H.out.2.2.2.2.2.2.2.2.2.2.2.2.2 H.out.2.2.2.2.2.2.2.2.2.2.2.1.symm))
    obtain ⟨N, hN⟩ : ∃ N, N = S.segs.length := ⟨_, rfl⟩
    obtain ⟨M, hM⟩ : ∃ M, M = S.recs.length := ⟨_, rfl⟩
    rw [← hN] at q4
    rw [← hM] at q5
    have HNM := Lib.hid (And.intro hN hM)
    clear hN hM
    obtain ⟨fa, hfa⟩ : ∃ fa, fa = S.falls := ⟨_, rfl⟩
    obtain ⟨at_, hat⟩ : ∃ at_, at_ = S.at_ := ⟨_, rfl⟩
    obtain ⟨ep, hep⟩ : ∃ ep, ep = S.epoch := ⟨_, rfl⟩
    obtain ⟨su, hsu⟩ : ∃ su, su = S.sure := ⟨_, rfl⟩
    rw [← hfa] at q1
    rw [← hat] at q2
    rw [← hep] at q3
    rw [← hsu] at q6
    obtain ⟨w2, hw2⟩ : ∃ w2, w2 = w1.alloc (.cells #[.pointer (some ⟨b, 0, none⟩), .int .i64 fa, .int .i64 (at_ : Int), .int .i64 (ep : Int), .slice a N cap, .slice ar M cr, .int .i64 (su : Int)] 69) := ⟨_, rfl⟩
    have hd2 : Hd w2 w1.heap.size b S (.slice a S.segs.length cap) (.slice ar S.recs.length cr) := by
      unfold Hd stCells
      rw [hw2, heap_alloc_new, hfa, hat, hep, hsu, HNM.out.1, HNM.out.2]
    have hb2 : Below w1.heap.size w1 w2 := by rw [hw2]; exact (Below.refl _ _).alloc (Nat.le_refl _) _
    have HW := Lib.hid (And.intro hd2 (And.intro hb2 hw2))
    clear hfa hat hep hsu hd2 hb2
    go_upto_region 8 with fail
    rw [← hw2]
    clear hw2
    obtain ⟨T, hT⟩ : ∃ T, T = aheadS D S r := ⟨_, rfl⟩
    have HTT := Lib.hid hT
    clear hT
    have hls := fun (k : Nat) => slast_any (w := w2.drewN k) (show Hd (w2.drewN k) w1.heap.size b S _ _ from HW.out.1) ((H.out.2.2.2.2.1.call (H1.out.2.2)).call HW.out.2.1 |>.call (below_dN w2 k)) H.out.2.2.1.ne
    have hrm := fun (k : Nat) => droom_any ((H1.out.1.disk.below HW.out.2.1).below (below_dN w2 k)) (S.last : Int)
    have hlg := fun (k : Nat) => long_any r (by omega) (w2.drewN k)
    obtain ⟨lg, hlgg⟩ : ∃ lg : Int, lg = ((wrapS r).size : Int) := ⟨_, rfl⟩
    have hmay : may r.data.toList := may_size.2 (by have := H.out.2.2.2.2.2.2.2.2.2.2.2.2.1; omega)
    have hlge : lg = (r.size : Int) + 8 := by rw [hlgg, wrapS_ok hmay, str_size, frm_length]; simp; omega
    rw [← hlgg] at hlg
    obtain ⟨rm, hrmm⟩ : ∃ rm, rm = roomD D S.last := ⟨_, rfl⟩
    rw [← hrmm] at hrm
    obtain ⟨q0, -⟩ := hd_cells HW.out.1
    have HC := Lib.hid (And.intro hls (And.intro hrm (And.intro hlg (And.intro hlge hrmm))))
    clear hls hrm hlg hlge hrmm hmay hlgg q1 q2 q3 q4 q5 q6
    go_wp2_with fail
    go_quiet ((first
      | (go_at_call 41; exact Calls.quiet_of (HC.out.1 _))
      | (go_at_call 40; exact Calls.quiet_of_same (still (HC.out.2.1 _)))
      | (go_at_call 42; exact Calls.quiet_of_same (still (HC.out.2.2.1 _)))))
    have hbn : Below w2.heap.size w2 (w2.drewN nq) := below_dN w2 nq
    generalize World.drewN w2 nq = w3 at *
    go_upto_if 34 with fail
    go_cut [] (fun wc => T.2.2 = 0 ∧ Mid w2 ρ w1.heap.size b a cap ar cr S T wc)
    case first =>
      by_cases hlt : rm < lg
      · have hd1 : decide (rm < lg) = true := decide_eq_true hlt
        have hA : aheadS D S r = turnS D S := by unfold aheadS; rw [if_pos (by have := HC.out.2.2.2.1; have := HC.out.2.2.2.2; omega)]
        have HL := Lib.hid hA
        clear hA
        have htn := sturn_any ((H1.out.1.disk.below HW.out.2.1).below hbn) H.out.2.1 (by have := H.out.2.2.2.2.2.2.2.2.2.2.1; omega) (HW.out.1.same (hbn.block _ HW.out.1.lt)) (H1.out.1.disk.raw.lab _ (Nat.le_refl _)) (((H.out.2.2.2.2.1.call H1.out.2.2).call HW.out.2.1).call hbn) H.out.2.2.1.exts (fun g hg => (H.out.1.off g (H.out.2.2.2.2.2.1 g hg)).1) H.out.2.2.1.at_ H.out.2.2.1.epoch H.out.2.2.1.segs (by have := H.out.2.2.1.recs; omega)
        rw [← HL.out, ← HTT.out] at htn
        have HT := Lib.hid (And.intro htn hbn)
        clear htn hbn
        go_wp2_with fail
        refine HT.out.1.mono ?_
        rintro e w4 ⟨rfl, ρ4, a4, cap4, hD4, hd4, ho4, hr4, ht4, hk4⟩
        have ht4' := (TouchX.below (X := fun g => g = w1.heap.size ∨ (Value.slice a S.segs.length cap).ownBlock = some g) (ρ := ρ) HT.out.2).trans ht4
        have hr4' : ∀ g, (Value.slice a4 T.2.1.segs.length cap4).ownBlock = some g → ρ4 g = 0 ∧ ((Value.slice a S.segs.length cap).ownBlock = some g ∨ w2.heap.size ≤ g) := fun g hg => ⟨(hr4 g hg).1, (hr4 g hg).2.imp id (fun k => Nat.le_trans HT.out.2.size k)⟩
        have hmid : Mid w2 ρ w1.heap.size b a cap ar cr S T w4 := ⟨ρ4, a4, cap4, hD4, by rw [HTT.out, HL.out, (turnS_keeps D S).1] at hd4 ⊢; exact hd4, ho4, hr4', ht4', hk4⟩
        have H4 := Lib.hid (And.intro hmid (And.intro hD4 (And.intro ht4' hk4)))
        clear hD4 hd4 ho4 hr4 ht4 hk4 ht4' hr4' hmid
        obtain ⟨D4, S4, e4⟩ := T
        by_cases he4 : e4 = 0
        · subst he4
          go_wp2_with fail
          go_meet
          case rel => exact ⟨trivial, H4.out.1⟩
        · have he4' : (e4 == 0) = false := by simpa using he4
          have HE := Lib.hid he4
          clear he4
          go_wp2_with fail
          go_ret2
          have hRb : R = (D4, S, 0, e4) := by
            rw [hRR.out, ← HTT.out]
            unfold behindS
            rw [if_pos HE.out]
          rw [hRb]
          obtain ⟨k1, k2, -⟩ := sat_back H.out.1 H.out.2.2.2.1 H.out.2.2.2.2.1 H.out.2.2.2.2.2.1 H.out.2.2.2.2.2.2.1 H.out.2.2.2.2.2.2.2.1 (H1.out.2.2.trans (HW.out.2.1.mono H1.out.2.2.size)) H1.out.2.2.size H4.out.2.1 H4.out.2.2.1 H4.out.2.2.2
          exact ⟨rfl, _, _, k1, k2⟩
      · have hd1 : decide (rm < lg) = false := decide_eq_false hlt
        have hA : aheadS D S r = (D, S, 0) := by unfold aheadS; rw [if_neg (by have := HC.out.2.2.2.1; have := HC.out.2.2.2.2; omega)]
        have HL := Lib.hid hA
        clear hA
        have hmid : Mid w2 ρ w1.heap.size b a cap ar cr S T w3 := by
          rw [HTT.out, HL.out]
          exact ⟨ρ, a, cap, (H1.out.1.disk.below HW.out.2.1).below hbn, HW.out.1.same (hbn.block _ HW.out.1.lt), ((H.out.2.2.2.2.1.call H1.out.2.2).call HW.out.2.1).call hbn, fun g hg => ⟨(H.out.1.off g (H.out.2.2.2.2.2.1 g hg)).1, .inl hg⟩, TouchX.below hbn, ((H.out.2.2.2.2.1.call H1.out.2.2).call HW.out.2.1).call hbn⟩
        have HM := Lib.hid hmid
        clear hmid hbn
        go_wp2_with fail
        go_meet
        case rel => exact ⟨by rw [HTT.out, HL.out], HM.out⟩
    case rest =>
      obtain ⟨hT0, ρ4, a4, cap4, hD4, hd4, ho4, hr4, ht4, hk4⟩ := hcut
      have hb02 := H1.out.2.2.trans (HW.out.2.1.mono H1.out.2.2.size)
      obtain ⟨j1, j2, j3, j4⟩ := sat_back H.out.1 H.out.2.2.2.1 H.out.2.2.2.2.1 H.out.2.2.2.2.2.1 H.out.2.2.2.2.2.2.1 H.out.2.2.2.2.2.2.2.1 hb02 H1.out.2.2.size hD4 ht4 hk4
      have hke := aheadS_keeps (r := r) H.out.2.2.1.ne H.out.2.1
      rw [← HTT.out] at hke
      have hRR2 := hRR.out
      rw [← HTT.out] at hRR2
      obtain ⟨D4, S4, e4⟩ := T
      simp only at hT0 hD4 hd4 ho4 hr4 hke
      subst hT0
      have hmay : may r.data.toList := may_size.2 (by have := H.out.2.2.2.2.2.2.2.2.2.2.2.2.1; omega)
      have hwr := fun W => wrap_any r (by omega) W
      rw [wrapE_ok hmay] at hwr
      obtain ⟨tx, htx⟩ : ∃ tx, tx = wrapS r := ⟨_, rfl⟩
      have HM := Lib.hid (And.intro hD4 (And.intro hd4 (And.intro ho4 (And.intro hr4 (And.intro ht4 (And.intro hke.2.1 (And.intro hke.2.2.2 (And.intro hke.1 (And.intro hRR2 (And.intro hk4 (And.intro hb02 (And.intro j3 (And.intro j4 (And.intro hwr hmay))))))))))))))
      clear hD4 hd4 ho4 hr4 ht4 hke hRR2 hk4 hb02 j1 j2 j3 j4 hwr hmay htx HC
      go_wp2_with fail
      refine (HM.out.2.2.2.2.2.2.2.2.2.2.2.2.2.1 _).mono ?_
      rintro e w5 ⟨rfl, hb5⟩
      have hnxl : w1.heap.size < wc.heap.size := HM.out.2.1.lt
      have hnx0 : ρ4 w1.heap.size = 0 := (HM.out.2.2.2.2.1.old _ HW.out.1.lt).trans (H1.out.1.disk.raw.lab _ (Nat.le_refl _))
      have HM5 := Lib.hid (And.intro (HM.out.1.below hb5) (And.intro (HM.out.2.1.same (hb5.block _ hnxl)) (And.intro (HM.out.2.2.1.call hb5) (And.intro hb5 (And.intro hnx0 hnxl)))))
      obtain ⟨p0, -⟩ := hd_cells HM5.out.2.1
      clear hb5 hnxl hnx0
      go_upto_region 13 with fail
      refine wp_region_held (S := fun W => W.cell? ⟨w1.heap.size, 0, none⟩ = some (.pointer (some ⟨b, 0, none⟩))) (by kernel_rfl) ?_
      change wpAnyH _ _ _ _ _ _ _ _ (World.drew _)
      have C : w5.drew.cell? ⟨w1.heap.size, 0, none⟩ = some (.pointer (some ⟨b, 0, none⟩)) := p0
      have hbd : Below w5.heap.size w5 w5.drew := (Below.refl _ _).drew
      generalize World.drew w5 = wh at *
      refine wpAnyH_take (i := 0) (v := ?_) rfl (by kernel_rfl) (by kernel_rfl) (by kernel_rfl) (fun _ _ _ h => h) (Or.inl ⟨by kernel_rfl, ?_⟩) C ?_
      rotate_left
      · (intro W hS; clear hS; go_simp; try (with_reducible rfl))
      refine wpAnyH_take (i := 1) (v := .pointer (some ⟨b, 0, none⟩)) rfl (by kernel_rfl) (by kernel_rfl) (by kernel_rfl) (fun _ _ _ h => h) (Or.inl ⟨by kernel_rfl, ?_⟩) C ?_
      · (intro W hS; go_simp; first | done | (with_reducible rfl) | simp)
      refine wpAnyH_take (i := 3) (v := ?_) rfl (by kernel_rfl) (by kernel_rfl) (by kernel_rfl) (fun _ _ _ h => h) (Or.inl ⟨by kernel_rfl, ?_⟩) C ?_
      rotate_left
      · (intro W hS; clear hS; go_simp; try (with_reducible rfl))
      refine wpAnyH_ready (rs := [2]) (by kernel_rfl) (by simp) ?_
      refine AllReadyH.cons rfl (fun K hK => ?_) AllReadyH.nil
      go_simp
      refine (slast_any (w := wh) (HM5.out.2.1.same (hbd.block _ HM5.out.2.1.lt)) (HM5.out.2.2.1.call hbd) HM.out.2.2.2.2.2.1).mono ?_
      rintro e w6 ⟨rfl, m6, rfl⟩
      have C6 : (wh.drewN m6).cell? ⟨w1.heap.size, 0, none⟩ = some (.pointer (some ⟨b, 0, none⟩)) := C
      have hb6 := hbd.trans ((below_dN wh m6).mono hbd.size)
      refine hK.out _ _ C6 (fun _ => ?_)
      clear hK K C hbd
      generalize World.drewN wh m6 = w6 at *
      refine wpAnyH_ready (rs := [4]) (by kernel_rfl) (by simp) ?_
      refine AllReadyH.cons rfl (fun K hK => ?_) AllReadyH.nil
      go_simp
      have hap := append_any (HM5.out.1.below hb6) (HM.out.2.2.2.2.2.2.1.small (by have := H.out.2.2.2.2.2.2.2.2.2.2.1; omega)) (S4.last : Int) (wrapS r)
      have hHb := Lib.hid (And.intro hap hb6)
      clear hap hb6
      refine hHb.out.1.mono ?_
      rintro e w7 ⟨rfl, ρ7, hD7, ht7⟩
      have C7 : w7.cell? ⟨w1.heap.size, 0, none⟩ = some (.pointer (some ⟨b, 0, none⟩)) := by
        have := ht7.same w1.heap.size (Nat.lt_of_lt_of_le HM5.out.2.1.lt hHb.out.2.size) (fun k => k HM5.out.2.2.2.2.1)
        rw [World.cell?, this]; exact C6
      have H7 := Lib.hid (And.intro hD7 ht7)
      clear hD7 ht7
      refine hK.out _ _ C7 (fun _ => ?_)
      clear hK K C6
      refine wpAnyH_take (i := 5) (v := ?_) rfl (by kernel_rfl) (by kernel_rfl) (by kernel_rfl) (fun _ _ _ h => h) (Or.inl ⟨by kernel_rfl, ?_⟩) C7 ?_
      rotate_left
      · (intro W hS; clear hS; go_simp; try (with_reducible rfl))
      refine wpAnyH_done (by kernel_rfl) ?_ _
      go_simp
      have hbe : R = (if (D4.act 0 S4.last 0 (wrapS r)).2 ≠ 0 then ((D4.act 0 S4.last 0 (wrapS r)).1, S, 0, (D4.act 0 S4.last 0 (wrapS r)).2) else ((D4.act 0 S4.last 0 (wrapS r)).1, { S4 with recs := S4.recs ++ [r] }, (S4.recs.length : Int), 0) : Disk × Stor × Int × Int) := by
        rw [HM.out.2.2.2.2.2.2.2.2.1]
        unfold behindS
        rw [if_neg (fun k => k rfl), ← wrapS_ok HM.out.2.2.2.2.2.2.2.2.2.2.2.2.2.2]
      have hD7 := H7.out.1
      generalize D4.act 0 (S4.last : Int) 0 (wrapS r) = r7 at *
      obtain ⟨D5, e5⟩ := r7
      simp only at hbe hD7
      have ht7 : TouchX (fun g => g = w1.heap.size ∨ (Value.slice a S.segs.length cap).ownBlock = some g) ρ ρ7 w2 w7 := ((HM.out.2.2.2.2.1.trans (TouchX.below HM5.out.2.2.2.1)).trans (TouchX.below hHb.out.2)).trans (TouchX.of H7.out.2)
      have hkeep : ∀ g, g < wc.heap.size → ρ4 g = 0 → w7.heap[g]? = wc.heap[g]? ∧ ρ7 g = 0 := fun g hg h0 => by
        have h1 := HM5.out.2.2.2.1.block g hg
        have g5 := Nat.lt_of_lt_of_le hg HM5.out.2.2.2.1.size
        have h2 := hHb.out.2.block g g5
        have g6 := Nat.lt_of_lt_of_le g5 hHb.out.2.size
        exact ⟨((H7.out.2.same g g6 (fun k => k h0)).trans h2).trans h1, (H7.out.2.old g g6).trans h0⟩
      have hUlt : ∀ g, U g → g < wc.heap.size ∧ ρ4 g = 0 := fun g hg => by
        have h1 := H.out.1.off g hg
        have h2 := Nat.lt_of_lt_of_le h1.2 HM.out.2.2.2.2.2.2.2.2.2.2.1.size
        exact ⟨Nat.lt_of_lt_of_le h2 HM.out.2.2.2.2.1.size, (HM.out.2.2.2.2.1.old g h2).trans h1.1⟩
      have hk7 : OwnG w7 a cap S.segs := HM.out.2.2.2.2.2.2.2.2.2.1.same fun g hg => (hkeep g (hUlt g (H.out.2.2.2.2.2.1 g hg)).1 (hUlt g (H.out.2.2.2.2.2.1 g hg)).2).1
      have hd7 : Hd w7 w1.heap.size b S4 (.slice a4 S4.segs.length cap4) (.slice ar S4.recs.length cr) := HM.out.2.1.same (hkeep _ HM5.out.2.2.2.2.2 HM5.out.2.2.2.2.1).1
      have ho7 : OwnG w7 a4 cap4 S4.segs := HM.out.2.2.1.same fun g hg => (hkeep g (World.ownsRow.lt HM.out.2.2.1 g hg).2 (HM.out.2.2.2.1 g hg).1).1
      obtain ⟨j1, j2, j3, j4⟩ := sat_back H.out.1 H.out.2.2.2.1 H.out.2.2.2.2.1 H.out.2.2.2.2.2.1 H.out.2.2.2.2.2.2.1 H.out.2.2.2.2.2.2.2.1 HM.out.2.2.2.2.2.2.2.2.2.2.1 H1.out.2.2.size hD7 ht7 hk7
      have HS7 := Lib.hid (And.intro hbe (And.intro hD7 (And.intro ht7 (And.intro hd7 (And.intro ho7 (And.intro j1 (And.intro j2 (And.intro j3 (And.intro j4 (And.intro hkeep hUlt))))))))))
      clear hbe hD7 ht7 hk7 hd7 ho7 j1 j2 j3 j4 C7 p0 hkeep hUlt
      by_cases he5 : e5 = 0
      · subst he5
        have hR5 := HS7.out.1.trans (if_neg (fun k => k rfl))
        rw [HM.out.2.2.2.2.2.2.2.1] at hR5
        have HR5 := Lib.hid hR5
        clear hR5
        have hdn7 := HS7.out.2.2.2.1
        rw [HM.out.2.2.2.2.2.2.2.1, ← HNM.out.2] at hdn7
        obtain ⟨-, -, -, -, -, p5, -⟩ := hd_cells hdn7
        have f5 := hd_free hdn7 5
        have hnx7 : w1.heap.size < w7.heap.size := hdn7.lt
        have hrl : r.size ≤ 281474976710656 := by have := H.out.2.2.2.2.2.2.2.2.2.2.2.2.2; omega
        have hM6 : M ≤ 999999 := by have := H.out.2.2.1.recs; have := HNM.out.2; omega
        have HN7 := Lib.hid hdn7
        clear hdn7
        go_wp2_with fail
        go_region_law ((first
          | (refine step_append_rec rfl (.tmp 53) (.tmp 56) rfl (HO8.out) M HNM.out.2.symm (by simp [Act.eval]) w8.heap.size 1 r (by simp [Act.eval]) (heap_alloc_new w8 _) (by omega) ?_; intro g9 cap9 w9 ho9 hg9 hb9; have q9 : w9.cell? ⟨w1.heap.size, 5, none⟩ = some (.slice ar M cr) := (hg9.cell_far ⟨w1.heap.size, 5, none⟩ (by simp; omega) (fun e => OwnT.ne HN8.out.1 HN8.out.2 e.symm)).trans ((((Below.refl w8.heap.size w8).alloc (Nat.le_refl _) _).cell (p := ⟨w1.heap.size, 5, none⟩) hnx8).trans p58); have g9f : w9.frozen? ⟨w1.heap.size, 5, none⟩ = false := (hg9.frozen_far ⟨w1.heap.size, 5, none⟩ (by simp; omega) (fun e => OwnT.ne HN8.out.1 HN8.out.2 e.symm)).trans ((((Below.refl w8.heap.size w8).alloc (Nat.le_refl _) _).frozen (p := ⟨w1.heap.size, 5, none⟩) hnx8).trans f58); have H9 := Lib.hid (And.intro ho9 (And.intro hg9 hb9)); clear ho9 hg9 hb9)
          | (go_simp; go_at_call 46; refine (clone_any r _ hrl).mono ?_; rintro e w8 ⟨rfl, hb8⟩; have hb78 : Below w7.heap.size w7 w8 := (show Below w7.heap.size w7 _ from (Below.refl w7.heap.size w7).drew).trans hb8; have hnx8 : w1.heap.size < w8.heap.size := Nat.lt_of_lt_of_le hnx7 hb78.size; have hd8 := HN7.out.same (hb78.block _ hnx7); have p58 := (hd_cells hd8).2.2.2.2.2.1; have f58 := hd_free hd8 5; have hor8 := HS7.out.2.2.2.2.2.2.2.2.1.call hb78; have HN8 := Lib.hid (And.intro hd8 hor8); have HO8 := Lib.hid (hor8.call (w' := w8.alloc (.cells #[.string r] 9)) ((Below.refl _ _).alloc (Nat.le_refl _) _)); have HB8 := Lib.hid hb78; clear hb8 hb78 hd8 hor8)))
        all_goals
          clear p5 f5 p58 f58 q9 g9f
          have hba : Below w7.heap.size w7 (w8.alloc (.cells #[.string r] 9)) := HB8.out.trans (((Below.refl w8.heap.size w8).alloc (Nat.le_refl _) _).mono HB8.out.size)
          have hur0 : ∀ k, (Value.slice ar S.recs.length cr).ownBlock = some k → ρ7 k = 0 := fun k hk => by
            have h1 := HS7.out.2.2.2.2.2.2.2.2.2.2 k (H.out.2.2.2.2.2.2.2.1 k hk)
            exact (HS7.out.2.2.2.2.2.2.2.2.2.1 k h1.1 h1.2).2
          have kp : ∀ g, g < w7.heap.size → (Value.slice ar S.recs.length cr).ownBlock ≠ some g → w9.heap[g]? = w7.heap[g]? := fun g hg hn => (H9.out.2.1.block g (Nat.lt_of_lt_of_le hg hba.size) (fun e => hn e.symm)).trans (hba.block g hg)
          have hD9 := diskAt_grown HS7.out.2.1 hba H9.out.2.1 hur0
          have hnxr := OwnT.ne HN7.out HS7.out.2.2.2.2.2.2.2.2.1
          have hdn9 := HN7.out.same (kp _ hnx7 hnxr)
          have hds9 := HS7.out.2.2.2.2.2.2.2.1.same (kp s HS7.out.2.2.2.2.2.2.2.1.lt (OwnT.ne HS7.out.2.2.2.2.2.2.2.1 HS7.out.2.2.2.2.2.2.2.2.1))
          have ho9 : OwnG w9 a4 cap4 S4.segs := HS7.out.2.2.2.2.1.same fun g hg => kp g (World.ownsRow.lt HS7.out.2.2.2.2.1 g hg).2 (fun e => OwnT.ne_seg HS7.out.2.2.2.2.1 HS7.out.2.2.2.2.2.2.2.2.1 e hg)
          have hsne : s ≠ w1.heap.size := by have := H1.out.2.1.lt; omega
          have hnx0 : ρ7 w1.heap.size = 0 := (HS7.out.2.2.2.2.2.2.2.2.2.1 _ HM5.out.2.2.2.2.2 HM5.out.2.2.2.2.1).2
          have hdnA : Hd (w9.setCell ⟨w1.heap.size, 5, none⟩ (.slice (some ⟨g9, 0, none⟩) (M + 1) cap9)) w1.heap.size b { S4 with recs := S.recs ++ [r] } (.slice a4 S4.segs.length cap4) (.slice (some ⟨g9, 0, none⟩) (M + 1) cap9) := hd_set hdn9 5 rfl
          have hdsA : Hd (w9.setCell ⟨w1.heap.size, 5, none⟩ (.slice (some ⟨g9, 0, none⟩) (M + 1) cap9)) s b S (.slice a S.segs.length cap) (.slice ar S.recs.length cr) := hds9.same (heap_setCell_other _ _ s _ hsne)
          have hoA : OwnG (w9.setCell ⟨w1.heap.size, 5, none⟩ (.slice (some ⟨g9, 0, none⟩) (M + 1) cap9)) a4 cap4 S4.segs := ho9.same fun g hg => heap_setCell_other _ _ g _ (fun e => OwnG.ne hdn9 ho9 (by rw [hg, e]))
          have hrA : OwnT 0 (w9.setCell ⟨w1.heap.size, 5, none⟩ (.slice (some ⟨g9, 0, none⟩) (M + 1) cap9)) (some ⟨g9, 0, none⟩) cap9 (S.recs ++ [r]) := H9.out.1.same fun g hg => heap_setCell_other _ _ g _ (fun e => OwnT.ne hdn9 H9.out.1 (by rw [hg, e]))
          have hDA := diskAt_set hD9 ⟨w1.heap.size, 5, none⟩ (.slice (some ⟨g9, 0, none⟩) (M + 1) cap9) hnx0
          have htA : TouchX (fun g => g = w1.heap.size ∨ (Value.slice a S.segs.length cap).ownBlock = some g ∨ (Value.slice ar S.recs.length cr).ownBlock = some g) ρ ρ7 w2 (w9.setCell ⟨w1.heap.size, 5, none⟩ (.slice (some ⟨g9, 0, none⟩) (M + 1) cap9)) :=
            ((HS7.out.2.2.1.mono (fun g _ k => k.imp id .inl)).trans (touchX_grown hba H9.out.2.1 (fun k hk => .inr (.inr hk)))).set _ _ (.inl rfl)
          have hg9 : (Value.slice ar S.recs.length cr).ownBlock = some g9 ∨ w.heap.size ≤ g9 := H9.out.2.2.imp id (fun e => by
            rw [e]
            exact Nat.le_trans (Nat.le_trans HM.out.2.2.2.2.2.2.2.2.2.2.1.size (Nat.le_trans HS7.out.2.2.1.size HB8.out.size)) (by simp))
          have hg90 : ρ7 g9 = 0 := by
            rcases H9.out.2.2 with e | e
            · exact hur0 g9 e
            · exact HS7.out.2.1.raw.lab g9 (by rw [e]; exact hba.size)
          generalize World.setCell w9 _ _ = wA at *
          have HA := Lib.hid (And.intro hdnA (And.intro hdsA (And.intro hoA (And.intro hrA (And.intro hDA (And.intro htA (And.intro hg9 (And.intro hg90 hsne))))))))
          obtain ⟨q0, q1, q2, q3, q4, q5, q6⟩ := hd_cells hdnA
          obtain ⟨x0, x1, x2, x3, x4, x5, x6⟩ := hd_cells hdsA
          have f0 := hd_free hdsA 0
          have f1 := hd_free hdsA 1
          have f2 := hd_free hdsA 2
          have f3 := hd_free hdsA 3
          have f4 := hd_free hdsA 4
          have f5 := hd_free hdsA 5
          have f6 := hd_free hdsA 6
          clear hba hur0 kp hD9 hnxr hdn9 hds9 ho9 hsne hnx0 hdnA hdsA hoA hrA hDA htA hg9 hg90
          go_wp2_with fail
          have hB := st7 (S' := { S4 with recs := S.recs ++ [r] }) (vs' := .slice a4 S4.segs.length cap4) (vr' := .slice (some ⟨g9, 0, none⟩) (M + 1) cap9) HA.out.2.1
          obtain ⟨o1, o2, o3, o4, o5⟩ := st7_other wA s (.pointer (some ⟨b, 0, none⟩)) (.int .i64 S4.falls) (.int .i64 (S4.at_ : Int)) (.int .i64 (S4.epoch : Int)) (.slice a4 S4.segs.length cap4) (.slice (some ⟨g9, 0, none⟩) (M + 1) cap9) (.int .i64 (S4.sure : Int))
          have hs0 : ρ7 s = 0 := (HS7.out.2.2.2.2.2.1.off s H.out.1.us).1
          have hDB := diskAt_set (diskAt_set (diskAt_set (diskAt_set (diskAt_set (diskAt_set (diskAt_set HA.out.2.2.2.2.1 ⟨s, 0, none⟩ (.pointer (some ⟨b, 0, none⟩)) hs0) ⟨s, 1, none⟩ (.int .i64 S4.falls) hs0) ⟨s, 2, none⟩ (.int .i64 (S4.at_ : Int)) hs0) ⟨s, 3, none⟩ (.int .i64 (S4.epoch : Int)) hs0) ⟨s, 4, none⟩ (.slice a4 S4.segs.length cap4) hs0) ⟨s, 5, none⟩ (.slice (some ⟨g9, 0, none⟩) (M + 1) cap9) hs0) ⟨s, 6, none⟩ (.int .i64 (S4.sure : Int)) hs0
          simp only at hB
          generalize World.setCell (World.setCell _ _ _) ⟨s, 6, none⟩ _ = wB at *
          have HB := Lib.hid (And.intro hB (And.intro o1 (And.intro o2 (And.intro o3 (And.intro o4 (And.intro o5 (And.intro hs0 hDB)))))))
          have hlB := slen_any hB
          have HLB := Lib.hid hlB
          clear hB o1 o2 o3 o4 o5 hs0 hDB hlB q0 q1 q2 q3 q4 q5 q6 x0 x1 x2 x3 x4 x5 x6 f0 f1 f2 f3 f4 f5 f6
          have e11 : (((M + 1 : Nat) : Int)) - 1 = (M : Int) := by omega
          refine HLB.out.mono ?_
          rintro e wC ⟨rfl, rfl⟩
          go_wp2_with fail
          go_ret2
          rw [HR5.out, ← HNM.out.2]
          have hml : M + 1 = (S.recs ++ [r]).length := by rw [List.length_append, ← HNM.out.2]; rfl
          have hUw : ∀ g, U g → g < w.heap.size := fun g hg => (H.out.1.off g hg).2
          have hz02 := HM.out.2.2.2.2.2.2.2.2.2.2.1.size
          have hU4 : ∀ g, (Value.slice a4 S4.segs.length cap4).ownBlock = some g → g < w.heap.size → U g := fun g hg hl => by
            rcases (HM.out.2.2.2.1 g hg).2 with e | e
            · exact H.out.2.2.2.2.2.1 g e
            · omega
          have hU9 : g9 < w.heap.size → U g9 := fun hl => by
            rcases HA.out.2.2.2.2.2.2.1 with e | e
            · exact H.out.2.2.2.2.2.2.2.1 g9 e
            · omega
          refine ⟨rfl, ρ7, fun g => U g ∨ (Value.slice a4 S4.segs.length cap4).ownBlock = some g ∨ g = g9, ⟨HB.out.2.2.2.2.2.2.2, ?_, .inl H.out.1.us, a4, cap4, some ⟨g9, 0, none⟩, cap9, ?_, ?_, fun g hg => .inr (.inl hg), ?_, ?_⟩, ⟨?_, ?_, ?_, ?_, ?_, ?_, ?_, ?_⟩⟩
          · rintro g (hg | hg | rfl)
            · exact ⟨(HS7.out.2.2.2.2.2.1.off g hg).1, by rw [HB.out.2.2.1]; exact Nat.lt_of_lt_of_le (Nat.lt_of_lt_of_le (hUw g hg) hz02) HA.out.2.2.2.2.2.1.size⟩
            · exact ⟨(HS7.out.2.2.2.2.2.2.2.2.2.1 g (World.ownsRow.lt HM.out.2.2.1 g hg).2 (HM.out.2.2.2.1 g hg).1).2, by rw [HB.out.2.2.1]; exact (World.ownsRow.lt HA.out.2.2.1 g hg).2⟩
            · exact ⟨HA.out.2.2.2.2.2.2.2.1, by rw [HB.out.2.2.1]; exact (World.ownsRow.lt HA.out.2.2.2.1 g rfl).2⟩
          · have := HB.out.1
            rw [hml] at this
            exact this
          · exact HA.out.2.2.1.same fun g hg => HB.out.2.1 g (fun e => OwnG.ne HA.out.2.1 HA.out.2.2.1 (by rw [hg, e]))
          · exact HA.out.2.2.2.1.same fun g hg => HB.out.2.1 g (fun e => OwnT.ne HA.out.2.1 HA.out.2.2.2.1 (by rw [hg, e]))
          · intro g hg
            exact .inr (.inr (by simpa [Value.ownBlock] using hg.symm))
          · exact (HB.out.2.2.2.1.trans HA.out.2.2.2.2.2.1.os).trans HM.out.2.2.2.2.2.2.2.2.2.2.1.os
          · exact (HB.out.2.2.2.2.1.trans HA.out.2.2.2.2.2.1.tape).trans HM.out.2.2.2.2.2.2.2.2.2.2.1.tape
          · exact (HB.out.2.2.2.2.2.1.trans HA.out.2.2.2.2.2.1.output).trans HM.out.2.2.2.2.2.2.2.2.2.2.1.output
          · rw [HB.out.2.2.1]; exact Nat.le_trans hz02 HA.out.2.2.2.2.2.1.size
          · exact fun g hg => HA.out.2.2.2.2.2.1.old g (Nat.lt_of_lt_of_le hg hz02)
          · exact fun g hg => ⟨fun e => by
              rcases e with e | e | rfl
              · exact e
              · exact hU4 g e hg
              · exact hU9 hg, .inl⟩
          · intro g hg h0 hx
            have hgs : g ≠ s := fun e => hx (by rw [e]; exact H.out.1.us)
            refine (HB.out.2.1 g hgs).trans ((HA.out.2.2.2.2.2.1.same g (Nat.lt_of_lt_of_le hg hz02) h0 ?_).trans (HM.out.2.2.2.2.2.2.2.2.2.2.1.block g hg))
            rintro (e | e | e)
            · have := H1.out.2.2.size; omega
            · exact hx (H.out.2.2.2.2.2.1 g e)
            · exact hx (H.out.2.2.2.2.2.2.2.1 g e)
          · exact fun g hg => HA.out.2.2.2.2.2.1.lab g (by rw [HB.out.2.2.1] at hg; exact hg)
      · have he5' : (e5 == 0) = false := by simpa using he5
        have HE := Lib.hid he5
        clear he5
        go_wp2_with fail
        go_ret2
        rw [HS7.out.1.trans (if_pos HE.out)]
        exact ⟨rfl, ρ7, U, HS7.out.2.2.2.2.2.1, HS7.out.2.2.2.2.2.2.1⟩
end Go.Proofs.YtdmbombjkinboaaGreat
