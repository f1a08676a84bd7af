/- Merged by program: disk: put: a change is put to those that wait, a cut may strike at it. | disk: Append, Trim, Empty, Sync, Fail, Lay, New; a nil disk. -/
import Derived.Test.YtdmbombjkinboaaGreatMD2
import Derived.Test.YtdmbombjkinboaaGreatMF1
namespace Go.Proofs.YtdmbombjkinboaaGreat
open Go.RowKit
open Dk

/-- A change more waits. -/
theorem raw_waits {w w1 w2 w3 : World} {ρ : Nat → Nat} {b : Nat} {D : Disk} {N : List ByteArray} {ts tn cap cap2 : Nat} {a ad : Option Addr} {c : Chg} (hr : ρ b = 1) (hl : Lab ρ w) (hn : N.length = D.sure.length)
    (h1 : w.heap[b]? = some (.cells (headCells D ts tn (.slice a D.waits.length cap)) 63 (0, 0))) (hS : Tab w ρ 2 fS ts D.sure) (hN : Tab w ρ 3 fN tn N)
    (hrole : ∀ g, (Value.slice a D.waits.length cap).ownBlock = some g → ρ g = 4)
    (hA : Below w.heap.size w w1) (hg : w1.grownBy w2 (Value.slice a D.waits.length cap).ownBlock) (ho2 : w2.ownsRow 0 71 4 (.slice ad (D.waits.length + 1) cap2) (D.waits.length + 1) (chgsCells D.waits ++ chgCells c))
    (hb : ∀ g, (Value.slice ad (D.waits.length + 1) cap2).ownBlock = some g → (Value.slice a D.waits.length cap).ownBlock = some g ∨ (g = w1.heap.size ∧ g < w2.heap.size)) (hw : w3 = w2.setCell ⟨b, 3, none⟩ (.slice ad (D.waits.length + 1) cap2)) :
    ∃ ρ', Raw w3 ρ' b { D with waits := D.waits ++ [c] } N ∧ Touch RA ρ ρ' w w3 := by
  have hsz1 := hA.size
  have hsz2 := hg.size
  obtain ⟨ρ', r1, r2, r3⟩ : ∃ ρ' : Nat → Nat, (∀ g, g < w.heap.size → ρ' g = ρ g) ∧ (∀ g, w2.heap.size ≤ g → ρ' g = ρ g) ∧ (∀ g, (Value.slice ad (D.waits.length + 1) cap2).ownBlock = some g → ρ' g = 4) := by
    cases e : (Value.slice ad (D.waits.length + 1) cap2).ownBlock with
    | none => exact ⟨ρ, fun _ _ => rfl, fun _ _ => rfl, fun g hg => by simp at hg⟩
    | some g0 =>
      rcases hb g0 e with h | ⟨h1, h2⟩
      · exact ⟨ρ, fun _ _ => rfl, fun _ _ => rfl, fun g hg => by rw [← Option.some.inj hg]; exact hrole g0 h⟩
      · exact ⟨lay ρ g0 4, fun g hg => lay_other (by omega), fun g hg => lay_other (by omega), fun g hg => by rw [← Option.some.inj hg]; exact lay_same _ _ _⟩
  have ht : Touch (· = 4) ρ ρ' w w2 := by
    refine ⟨hg.os.trans hA.os, hg.tape.trans hA.tape, hg.output.trans hA.output, by omega, r1, fun g hg' hne => ?_, r2⟩
    exact (hg.block g (by omega) (fun e => hne (hrole g e.symm))).trans (hA.block g hg')
  have hbl := (Array.getElem?_eq_some_iff.1 h1).1
  obtain ⟨k1, k2⟩ := ht.kept (r := 1) (by decide) b hbl hr
  obtain ⟨p1, p2⟩ := raw_put (w2 := w3) (D' := { D with waits := D.waits ++ [c] }) (N' := N) (wv' := .slice ad (D.waits.length + 1) cap2) k1 (hl.touch ht) hn (k2.trans h1) hw rfl (hS.kept (ht.kept (by decide)) (fun i _ => ht.kept (by unfold fS; omega))) (hN.kept (ht.kept (by decide)) (fun i _ => ht.kept (by unfold fN; omega)))
    ⟨ad, cap2, by simp, by simp only [List.length_append, List.length_cons, List.length_nil]; rw [chgsCells_snoc]; exact ho2, fun g e => r3 g (by simpa using e)⟩
  exact ⟨ρ', p1, (ht.mono (fun r e => by unfold RA; omega)).trans (p2.mono (fun r e => by unfold RA; omega))⟩
/-- A change of what is read. -/
theorem raw_now {w w' w2 : World} {ρ ρ' : Nat → Nat} {b : Nat} {D : Disk} {L : List ByteArray} {ts tn : Nat} {wv : Value} {x : Nat} (hl : Lab ρ w) (hr : ρ b = 1) (hn : L.length = D.sure.length)
    (h1 : w.heap[b]? = some (.cells (headCells D ts tn wv) 63 (0, 0))) (hS : Tab w ρ 2 fS ts D.sure) (hT : Tab w' ρ' 3 fN tn L) (hW : Waits w ρ 4 wv D.waits)
    (t : Touch (fun r => r = 3 ∨ r = fN x) ρ ρ' w w') (hw : w2 = w'.setCell ⟨b, 4, none⟩ (.int .i64 (D.changes + 1))) : Raw w2 ρ' b { D with changes := D.changes + 1 } L ∧ Touch RA ρ ρ' w w2 := by
  have hb := (Array.getElem?_eq_some_iff.1 h1).1
  have hne : ∀ r, r ≠ 3 → (∀ i, r ≠ fN i) → ¬ (r = 3 ∨ r = fN x) := fun r h1 h2 e => by
    rcases e with e | e
    · exact h1 e
    · exact h2 x e
  obtain ⟨k1, k2⟩ := t.kept (r := 1) (hne 1 (by omega) (fun i => by unfold fN; omega)) b hb hr
  obtain ⟨p1, p2⟩ := raw_put (w2 := w2) (D' := { D with changes := D.changes + 1 }) (N' := L) k1 (hl.touch t) hn (k2.trans h1) hw rfl (hS.kept (t.kept (hne 2 (by omega) (fun i => by unfold fN; omega))) (fun i _ => t.kept (hne _ (by unfold fS; omega) (fun j => by unfold fN fS; omega)))) hT (hW.kept (t.kept (hne 4 (by omega) (fun i => by unfold fN; omega))))
  exact ⟨p1, (t.mono (fun r e => by unfold RA; rcases e with e | e; omega; unfold fN at e; omega)).trans (p2.mono (fun r e => by unfold RA; omega))⟩
theorem strikeD_no {D : Disk} (h : ¬ D.laid = true) : strikeD D = (D, false) := if_neg h
theorem strikeD_ahead {D : Disk} (h : D.laid = true) (h2 : 0 < D.after) : strikeD D = ({ D with after := D.after - 1 }, false) := (if_pos h).trans (if_pos h2)
theorem strikeD_yes {D : Disk} (h : D.laid = true) (h2 : ¬ 0 < D.after) : strikeD D = ({ D with laid := false }, true) := (if_pos h).trans (if_neg h2)
theorem strike_puts (D : Disk) (c : Chg) : D.puts c = if (strikeD { D with waits := D.waits ++ [c] }).2 = true then ((strikeD { D with waits := D.waits ++ [c] }).1.fail D.keep D.torn, 9) else ({ (strikeD { D with waits := D.waits ++ [c] }).1 with changes := D.changes + 1 }, 0) := by
  unfold Disk.puts
  by_cases hl : D.laid = true
  · by_cases ha : 0 < D.after
    · rw [strikeD_ahead (D := { D with waits := D.waits ++ [c] }) hl ha, if_neg (fun e => by have := e.2; omega), if_neg (show ¬ false = true by decide), if_pos hl]
    · rw [strikeD_yes (D := { D with waits := D.waits ++ [c] }) hl ha, if_pos ⟨hl, by omega⟩, if_pos (show true = true from rfl)]
  · rw [strikeD_no (D := { D with waits := D.waits ++ [c] }) hl, if_neg (fun e => hl e.1), if_neg (show ¬ false = true by decide), if_neg hl]
theorem strikeD_facts (D : Disk) : (strikeD D).1.sure = D.sure ∧ (strikeD D).1.waits = D.waits ∧ (strikeD D).1.down = D.down ∧ (strikeD D).1.falls = D.falls ∧ (strikeD D).1.changes = D.changes ∧ (strikeD D).1.keep = D.keep ∧ (strikeD D).1.torn = D.torn ∧ (strikeD D).1.room = D.room := by
  unfold strikeD; split
  · split <;> exact ⟨rfl, rfl, rfl, rfl, rfl, rfl, rfl, rfl⟩
  · exact ⟨rfl, rfl, rfl, rfl, rfl, rfl, rfl, rfl⟩

/-- What a disk's numbers may be, that they don't wrap round. -/
structure Small (D : Disk) : Prop where
  waits : D.waits.length ≤ 999999999
  falls0 : 0 ≤ D.falls
  falls1 : D.falls ≤ 1000000000000
  changes0 : 0 ≤ D.changes
  changes1 : D.changes ≤ 1000000000000
  after : D.after ≤ 9223372036854775807
set_option maxRecDepth 100000 in
set_option maxHeartbeats 2000000 in
theorem put_refused {w : World} {ρ : Nat → Nat} {b : Nat} {D : Disk} (h : DiskAt w ρ b D) (kind : Nat) (hk : kind ≤ 2) (x long : Int) (text : ByteArray) (hr : D.refused kind x long text ≠ 0) :
    Calls Tryz.prog 71 #[.pointer (some ⟨b, 0, none⟩), rawChg kind x long text] w fun e w' => e = .returned (.int .i64 (D.refused kind x long text)) ∧ Below w.heap.size w w' := by
  have hB : Below w.heap.size w (w.alloc (.cells #[.int .i64 ((kind : Int) + 1), .int .i64 x, .int .i64 long, .string text] 71)) := (Below.refl _ _).alloc (Nat.le_refl _) _
  have hrf := refuses_any (h.below hB) kind hk x long text
  generalize D.refused kind x long text = R at *
  have hne : (R != 0) = true := by simpa using hr
  unfold rawChg at *
  have H := Lib.hid (And.intro hrf hB)
  clear h hrf hB hr
  go_enter Tryz.func71, Tryz.ntmps71
  go_wp2_with fail
  refine H.out.1.mono ?_
  rintro e w2 ⟨rfl, hb⟩
  have H2 := Lib.hid (H.out.2.trans (hb.mono H.out.2.size))
  clear hb
  go_wp2_with fail
  go_ret
  exact ⟨rfl, H2.out⟩
set_option maxRecDepth 100000 in
set_option maxHeartbeats 2000000 in
theorem put_struck {w : World} {ρ : Nat → Nat} {b : Nat} {D : Disk} (h : DiskAt w ρ b D) (hs : Small D) (kind : Nat) (hk : kind ≤ 2) (x long : Nat) (text : ByteArray) (htx : text.size ≤ 65536) (hr : D.refused kind x long text = 0) (hst : (strikeD { D with waits := D.waits ++ [⟨kind, x, long, text⟩] }).2 = true) :
    Calls Tryz.prog 71 #[.pointer (some ⟨b, 0, none⟩), rawChg kind (x : Int) (long : Int) text] w fun e w' => e = .returned (.int .i64 (D.puts ⟨kind, x, long, text⟩).2) ∧ ∃ ρ', DiskAt w' ρ' b (D.puts ⟨kind, x, long, text⟩).1 ∧ Touch RA ρ ρ' w w' := by
  rw [strike_puts, hst, if_pos rfl]
  have hf7 := strikeD_facts { D with waits := D.waits ++ [⟨kind, x, long, text⟩] }
  obtain ⟨D1, hD1⟩ : ∃ D1 : Disk, D1 = { D with waits := D.waits ++ [⟨kind, x, long, text⟩] } := ⟨_, rfl⟩
  obtain ⟨D2, hD2⟩ : ∃ D2, D2 = (strikeD D1).1 := ⟨_, rfl⟩
  rw [← hD1] at hst hf7 ⊢
  rw [← hD2] at hf7 ⊢
  have HD := Lib.hid (And.intro hD1 (And.intro hD2 (And.intro hst hf7)))
  clear hD1 hD2 hst hf7
  obtain ⟨w1, hw1⟩ : ∃ w1, w1 = w.alloc (.cells #[.int .i64 ((kind : Int) + 1), .int .i64 (x : Int), .int .i64 (long : Int), .string text] 71) := ⟨_, rfl⟩
  have hB : Below w.heap.size w w1 := by rw [hw1]; exact (Below.refl _ _).alloc (Nat.le_refl _) _
  have hbox : w1.heap[w.heap.size]? = some (.cells #[.int .i64 ((kind : Int) + 1), .int .i64 (x : Int), .int .i64 (long : Int), .string text] 71 (0, 0)) := by rw [hw1]; exact heap_alloc_new _ _
  have hrf := refuses_any (h.below hB) kind hk (x : Int) (long : Int) text
  rw [hr] at hrf
  have hcl := fun W => clone_any text W (by omega)
  unfold rawChg at *
  have H := Lib.hid (And.intro h (And.intro hrf (And.intro hB (And.intro hbox (And.intro hcl (And.intro hs hr))))))
  clear h hrf hB hr hbox hcl hs
  obtain ⟨i0, hi0, hz0, hz1, hz2⟩ := info_parts Tryz.info_chg
  go_enter Tryz.func71, Tryz.ntmps71
  go_wp2_with fail
  rw [← hw1]
  clear hw1
  refine H.out.2.1.mono ?_
  rintro e w2 ⟨rfl, hb⟩
  have hbl1 : w.heap.size < w1.heap.size := (Array.getElem?_eq_some_iff.1 H.out.2.2.2.1).1
  have hbox2 := (hb.block _ hbl1).trans H.out.2.2.2.1
  have e3 : w2.cell? ⟨w.heap.size, 3, none⟩ = some (.string text) := by rw [cell_of_row _ _ _ _ _ _ hbox2]; rfl
  have HB2 := Lib.hid (And.intro (H.out.2.2.1.trans (hb.mono H.out.2.2.1.size)) hbox2)
  clear hb hbox2
  go_wp2_with fail
  refine (H.out.2.2.2.2.1 _).mono ?_
  rintro e w3 ⟨rfl, hb⟩
  have hbl2 : w.heap.size < w2.heap.size := (Array.getElem?_eq_some_iff.1 HB2.out.2).1
  have hbox3 := (hb.block _ hbl2).trans HB2.out.2
  have e3' : w3.cell? ⟨w.heap.size, 3, none⟩ = some (.string text) := by rw [cell_of_row _ _ _ _ _ _ hbox3]; rfl
  have f3' : w3.frozen? ⟨w.heap.size, 3, none⟩ = false := frozen_of_row _ _ _ _ _ hbox3
  have HB3 := Lib.hid (And.intro (HB2.out.1.trans (hb.mono HB2.out.1.size)) hbox3)
  clear hb hbox3 e3
  go_wp2_with fail
  have hB4 := HB3.out.1.setCell (p := ⟨w.heap.size, 3, none⟩) (Nat.le_refl _) (.string text)
  have hbox4 := heap_setCell_same _ w.heap.size 3 _ _ (.string text) HB3.out.2
  rw [show (#[Value.int .i64 ((kind : Int) + 1), .int .i64 (x : Int), .int .i64 (long : Int), .string text].setIfInBounds 3 (.string text)) = #[.int .i64 ((kind : Int) + 1), .int .i64 (x : Int), .int .i64 (long : Int), .string text] from rfl] at hbox4
  generalize w3.setCell _ _ = w4 at *
  clear e3' f3'
  have hD := H.out.1.below hB4
  obtain ⟨ts, tn, wv, h1, hS, hN, a, cap, rfl, ho, hrole⟩ := hD.body
  have q3 := (head_cells h1).2.2.2.1
  have g3 := head_free h1 3
  have b0 : w4.cell? ⟨w.heap.size, 0, none⟩ = some (.int .i64 ((kind : Int) + 1)) := by rw [cell_of_row _ _ _ _ _ _ hbox4]; rfl
  have b1 : w4.cell? ⟨w.heap.size, 1, none⟩ = some (.int .i64 (x : Int)) := by rw [cell_of_row _ _ _ _ _ _ hbox4]; rfl
  have b2 : w4.cell? ⟨w.heap.size, 2, none⟩ = some (.int .i64 (long : Int)) := by rw [cell_of_row _ _ _ _ _ _ hbox4]; rfl
  have b3 : w4.cell? ⟨w.heap.size, 3, none⟩ = some (.string text) := by rw [cell_of_row _ _ _ _ _ _ hbox4]; rfl
  have hbl : b < w4.heap.size := hD.raw.lt
  have hbB : w.heap.size < w4.heap.size := (Array.getElem?_eq_some_iff.1 hbox4).1
  have hnb : ∀ g, (Value.slice a D.waits.length cap).ownBlock = some g → g ≠ b := fun g hg e => by have := hrole g hg; rw [e, hD.raw.role] at this; omega
  have hn9 := H.out.2.2.2.2.2.1.waits
  have H4 := Lib.hid (And.intro hD (And.intro hB4 (And.intro hbox4 (And.intro h1 (And.intro hS (And.intro hN (And.intro ho (And.intro hrole (And.intro hnb (And.intro hbl hbB))))))))))
  clear hB4 hbox4 hD h1 hS hN ho hrole hnb
  generalize hnn : D.waits.length = n at q3 hn9
  have HN := Lib.hid hnn
  clear hnn
  go_region_law (refine step_append_src rfl (.tmp 20) (.tmp 22) 61 61 rfl 71 i0 (.agg #[.int .i64 0, .int .i64 0, .int .i64 0, .string ⟨#[]⟩]) 4 40 Tryz.underlying61 hi0 hz0 hz1 hz2 rfl (.slice a n cap) n (chgsCells D.waits) (by simp [Act.eval]) (by have := H4.out.2.2.2.2.2.2.1.alloc (.cells #[.int .i64 ((kind : Int) + 1), .int .i64 (x : Int), .int .i64 (long : Int), .string text] 71); rw [HN.out] at this; exact this) (.slice (some ⟨w4.heap.size, 0, none⟩) 1 1) 1 (chgCells ⟨kind, x, long, text⟩) (by simp [Act.eval]) (Src.ofSlice _ Tryz.underlying61 _ 1 1 _ rfl (World.news_of_block (heap_alloc_new _ _)) (by intro u hu; exact chgs_one [⟨kind, x, long, text⟩] u (by simpa [chgsCells] using hu))) (by omega) (by omega) ?_; intro ad cap2 w5 ho5 hg5 hb5; have q5 : w5.cell? ⟨b, 3, none⟩ = some (.slice a n cap) := (hg5.cell_far ⟨b, 3, none⟩ (by simp; omega) (fun e => H4.out.2.2.2.2.2.2.2.2.1 b (by rw [HN.out]; exact e.symm) rfl)).trans ((((Below.refl w4.heap.size w4).drew.alloc (Nat.le_refl _) _).cell (p := ⟨b, 3, none⟩) hbl).trans q3); have g5 : w5.frozen? ⟨b, 3, none⟩ = false := (hg5.frozen_far ⟨b, 3, none⟩ (by simp; omega) (fun e => H4.out.2.2.2.2.2.2.2.2.1 b (by rw [HN.out]; exact e.symm) rfl)).trans ((((Below.refl w4.heap.size w4).drew.alloc (Nat.le_refl _) _).frozen (p := ⟨b, 3, none⟩) hbl).trans g3); have H5 := Lib.hid (And.intro ho5 (And.intro hg5 hb5)); clear ho5 hg5 hb5)
  all_goals
    clear q3 g3 q5 g5 b0 b1 b2 b3
    have hrw := raw_waits (w3 := w5.setCell ⟨b, 3, none⟩ (.slice ad (D.waits.length + 1) cap2)) H4.out.1.raw.role H4.out.1.raw.lab H4.out.1.raw.num H4.out.2.2.2.1 H4.out.2.2.2.2.1 H4.out.2.2.2.2.2.1 H4.out.2.2.2.2.2.2.2.1 ((Below.refl w4.heap.size w4).drew.alloc (Nat.le_refl _) _) (by rw [HN.out]; exact H5.out.2.1) (by rw [HN.out]; exact H5.out.1) (by rw [HN.out]; exact H5.out.2.2) rfl
    rw [HN.out, ← HD.out.1] at hrw
    obtain ⟨ρ6, hR6, hT6⟩ := hrw
    have hlab0 : ρ w.heap.size = 0 := H.out.1.raw.lab _ (Nat.le_refl _)
    have hbox6 := (hT6.same w.heap.size H4.out.2.2.2.2.2.2.2.2.2.2 (fun e => e hlab0)).trans H4.out.2.2.1
    have hbT6 := (Touch.of_below (R := RA) ρ H4.out.2.1).trans hT6
    have hl6 := (hT6.old w.heap.size H4.out.2.2.2.2.2.2.2.2.2.2).trans hlab0
    have hr6 := strikes_any hR6 (by rw [HD.out.1]; exact H.out.2.2.2.2.2.1.after)
    have hokk := (H.out.1.ok.may hk H.out.2.2.2.2.2.2).2
    rw [Int.toNat_natCast, Int.toNat_natCast] at hokk
    rw [HD.out.2.2.1, ← HD.out.2.1] at hr6
    generalize w5.setCell _ _ = w6 at *
    have H6 := Lib.hid (And.intro hbox6 (And.intro hbT6 (And.intro hl6 (And.intro hr6 hokk))))
    clear hR6 hT6 hlab0 hbox6 hbT6 hl6 hr6 hokk
    go_wp2_with fail
    refine H6.out.2.2.2.1.mono ?_
    rintro e w7 ⟨rfl, hR7, hT7⟩
    obtain ⟨ts7, tn7, wv7, h7, -⟩ := hR7.body
    obtain ⟨-, -, -, -, -, -, -, -, -, q9, q10⟩ := head_cells h7
    obtain ⟨f1, f2, f3, f4, f5, f6, f7, f8⟩ := HD.out.2.2.2
    have hD1 := HD.out.1
    rw [hD1] at f1 f2 f3 f4 f5 f6 f7 f8
    rw [f6] at q9
    rw [f7] at q10
    have hok2 : D2.Ok := ⟨by rw [f8]; exact H.out.1.ok.room0, by rw [f8]; exact H.out.1.ok.room1, by rw [f1]; exact H.out.1.ok.num, by rw [f1, f2]; exact H6.out.2.2.2.2⟩
    have hfl := fun W (hb : Below w7.heap.size w7 W) => fail_raw (hR7.below hb) hok2 (by rw [f3]; exact (Disk.refused_zero H.out.2.2.2.2.2.2).1) (by rw [f2]; simp; have := H.out.2.2.2.2.2.1.waits; omega) (by rw [f4]; exact H.out.2.2.2.2.2.1.falls0) (by rw [f4]; exact H.out.2.2.2.2.2.1.falls1) D.keep D.torn
    have H7 := Lib.hid (And.intro hfl hT7)
    clear hR7 hT7 h7 f1 f2 f3 f4 f5 f6 f7 f8 hD1 hok2 hfl
    go_wp2_with fail
    go_still_tail 11, (by kernel_rfl)
    change wpList _ _ _ _ _ w7.drew
    have hfd := H7.out.1 w7.drew (Below.refl _ _).drew
    have ht8 := touch_drew H7.out.2
    generalize w7.drew = w8 at *
    have H8 := Lib.hid (And.intro hfd ht8)
    clear hfd ht8 q9 q10
    go_wp2_with fail
    refine H8.out.1.mono ?_
    rintro e w9 ⟨rfl, ρ9, hD9, hT9⟩
    have H9 := Lib.hid (And.intro hD9 hT9)
    clear hD9 hT9
    go_wp2_with fail
    go_ret
    exact ⟨rfl, ρ9, H9.out.1, H6.out.2.1.trans ((H8.out.2.mono (fun r e => by unfold RA; omega)).trans H9.out.2)⟩
set_option maxRecDepth 100000 in
set_option maxHeartbeats 2000000 in
theorem put_plain {w : World} {ρ : Nat → Nat} {b : Nat} {D : Disk} (h : DiskAt w ρ b D) (hs : Small D) (kind : Nat) (hk : kind ≤ 2) (x long : Nat) (text : ByteArray) (htx : text.size ≤ 65536) (hr : D.refused kind x long text = 0) (hst : (strikeD { D with waits := D.waits ++ [⟨kind, x, long, text⟩] }).2 = false) :
    Calls Tryz.prog 71 #[.pointer (some ⟨b, 0, none⟩), rawChg kind (x : Int) (long : Int) text] w fun e w' => e = .returned (.int .i64 (D.puts ⟨kind, x, long, text⟩).2) ∧ ∃ ρ', DiskAt w' ρ' b (D.puts ⟨kind, x, long, text⟩).1 ∧ Touch RA ρ ρ' w w' := by
  rw [strike_puts, hst, if_neg (show ¬ false = true by decide)]
  have hf7 := strikeD_facts { D with waits := D.waits ++ [⟨kind, x, long, text⟩] }
  obtain ⟨D1, hD1⟩ : ∃ D1 : Disk, D1 = { D with waits := D.waits ++ [⟨kind, x, long, text⟩] } := ⟨_, rfl⟩
  obtain ⟨D2, hD2⟩ : ∃ D2, D2 = (strikeD D1).1 := ⟨_, rfl⟩
  rw [← hD1] at hst hf7 ⊢
  rw [← hD2] at hf7 ⊢
  have HD := Lib.hid (And.intro hD1 (And.intro hD2 (And.intro hst hf7)))
  clear hD1 hD2 hst hf7
  obtain ⟨w1, hw1⟩ : ∃ w1, w1 = w.alloc (.cells #[.int .i64 ((kind : Int) + 1), .int .i64 (x : Int), .int .i64 (long : Int), .string text] 71) := ⟨_, rfl⟩
  have hB : Below w.heap.size w w1 := by rw [hw1]; exact (Below.refl _ _).alloc (Nat.le_refl _) _
  have hbox : w1.heap[w.heap.size]? = some (.cells #[.int .i64 ((kind : Int) + 1), .int .i64 (x : Int), .int .i64 (long : Int), .string text] 71 (0, 0)) := by rw [hw1]; exact heap_alloc_new _ _
  have hrf := refuses_any (h.below hB) kind hk (x : Int) (long : Int) text
  rw [hr] at hrf
  have hcl := fun W => clone_any text W (by omega)
  unfold rawChg at *
  have H := Lib.hid (And.intro h (And.intro hrf (And.intro hB (And.intro hbox (And.intro hcl (And.intro hs hr))))))
  clear h hrf hB hr hbox hcl hs
  obtain ⟨i0, hi0, hz0, hz1, hz2⟩ := info_parts Tryz.info_chg
  go_enter Tryz.func71, Tryz.ntmps71
  go_wp2_with fail
  rw [← hw1]
  clear hw1
  refine H.out.2.1.mono ?_
  rintro e w2 ⟨rfl, hb⟩
  have hbl1 : w.heap.size < w1.heap.size := (Array.getElem?_eq_some_iff.1 H.out.2.2.2.1).1
  have hbox2 := (hb.block _ hbl1).trans H.out.2.2.2.1
  have e3 : w2.cell? ⟨w.heap.size, 3, none⟩ = some (.string text) := by rw [cell_of_row _ _ _ _ _ _ hbox2]; rfl
  have HB2 := Lib.hid (And.intro (H.out.2.2.1.trans (hb.mono H.out.2.2.1.size)) hbox2)
  clear hb hbox2
  go_wp2_with fail
  refine (H.out.2.2.2.2.1 _).mono ?_
  rintro e w3 ⟨rfl, hb⟩
  have hbl2 : w.heap.size < w2.heap.size := (Array.getElem?_eq_some_iff.1 HB2.out.2).1
  have hbox3 := (hb.block _ hbl2).trans HB2.out.2
  have e3' : w3.cell? ⟨w.heap.size, 3, none⟩ = some (.string text) := by rw [cell_of_row _ _ _ _ _ _ hbox3]; rfl
  have f3' : w3.frozen? ⟨w.heap.size, 3, none⟩ = false := frozen_of_row _ _ _ _ _ hbox3
  have HB3 := Lib.hid (And.intro (HB2.out.1.trans (hb.mono HB2.out.1.size)) hbox3)
  clear hb hbox3 e3
  go_wp2_with fail
  have hB4 := HB3.out.1.setCell (p := ⟨w.heap.size, 3, none⟩) (Nat.le_refl _) (.string text)
  have hbox4 := heap_setCell_same _ w.heap.size 3 _ _ (.string text) HB3.out.2
  rw [show (#[Value.int .i64 ((kind : Int) + 1), .int .i64 (x : Int), .int .i64 (long : Int), .string text].setIfInBounds 3 (.string text)) = #[.int .i64 ((kind : Int) + 1), .int .i64 (x : Int), .int .i64 (long : Int), .string text] from rfl] at hbox4
  generalize w3.setCell _ _ = w4 at *
  clear e3' f3'
  have hD := H.out.1.below hB4
  obtain ⟨ts, tn, wv, h1, hS, hN, a, cap, rfl, ho, hrole⟩ := hD.body
  have q3 := (head_cells h1).2.2.2.1
  have g3 := head_free h1 3
  have b0 : w4.cell? ⟨w.heap.size, 0, none⟩ = some (.int .i64 ((kind : Int) + 1)) := by rw [cell_of_row _ _ _ _ _ _ hbox4]; rfl
  have b1 : w4.cell? ⟨w.heap.size, 1, none⟩ = some (.int .i64 (x : Int)) := by rw [cell_of_row _ _ _ _ _ _ hbox4]; rfl
  have b2 : w4.cell? ⟨w.heap.size, 2, none⟩ = some (.int .i64 (long : Int)) := by rw [cell_of_row _ _ _ _ _ _ hbox4]; rfl
  have b3 : w4.cell? ⟨w.heap.size, 3, none⟩ = some (.string text) := by rw [cell_of_row _ _ _ _ _ _ hbox4]; rfl
  have hbl : b < w4.heap.size := hD.raw.lt
  have hbB : w.heap.size < w4.heap.size := (Array.getElem?_eq_some_iff.1 hbox4).1
  have hnb : ∀ g, (Value.slice a D.waits.length cap).ownBlock = some g → g ≠ b := fun g hg e => by have := hrole g hg; rw [e, hD.raw.role] at this; omega
  have hn9 := H.out.2.2.2.2.2.1.waits
  have H4 := Lib.hid (And.intro hD (And.intro hB4 (And.intro hbox4 (And.intro h1 (And.intro hS (And.intro hN (And.intro ho (And.intro hrole (And.intro hnb (And.intro hbl hbB))))))))))
  clear hB4 hbox4 hD h1 hS hN ho hrole hnb
  generalize hnn : D.waits.length = n at q3 hn9
  have HN := Lib.hid hnn
  clear hnn
  go_region_law (refine step_append_src rfl (.tmp 20) (.tmp 22) 61 61 rfl 71 i0 (.agg #[.int .i64 0, .int .i64 0, .int .i64 0, .string ⟨#[]⟩]) 4 40 Tryz.underlying61 hi0 hz0 hz1 hz2 rfl (.slice a n cap) n (chgsCells D.waits) (by simp [Act.eval]) (by have := H4.out.2.2.2.2.2.2.1.alloc (.cells #[.int .i64 ((kind : Int) + 1), .int .i64 (x : Int), .int .i64 (long : Int), .string text] 71); rw [HN.out] at this; exact this) (.slice (some ⟨w4.heap.size, 0, none⟩) 1 1) 1 (chgCells ⟨kind, x, long, text⟩) (by simp [Act.eval]) (Src.ofSlice _ Tryz.underlying61 _ 1 1 _ rfl (World.news_of_block (heap_alloc_new _ _)) (by intro u hu; exact chgs_one [⟨kind, x, long, text⟩] u (by simpa [chgsCells] using hu))) (by omega) (by omega) ?_; intro ad cap2 w5 ho5 hg5 hb5; have q5 : w5.cell? ⟨b, 3, none⟩ = some (.slice a n cap) := (hg5.cell_far ⟨b, 3, none⟩ (by simp; omega) (fun e => H4.out.2.2.2.2.2.2.2.2.1 b (by rw [HN.out]; exact e.symm) rfl)).trans ((((Below.refl w4.heap.size w4).drew.alloc (Nat.le_refl _) _).cell (p := ⟨b, 3, none⟩) hbl).trans q3); have g5 : w5.frozen? ⟨b, 3, none⟩ = false := (hg5.frozen_far ⟨b, 3, none⟩ (by simp; omega) (fun e => H4.out.2.2.2.2.2.2.2.2.1 b (by rw [HN.out]; exact e.symm) rfl)).trans ((((Below.refl w4.heap.size w4).drew.alloc (Nat.le_refl _) _).frozen (p := ⟨b, 3, none⟩) hbl).trans g3); have H5 := Lib.hid (And.intro ho5 (And.intro hg5 hb5)); clear ho5 hg5 hb5)
  all_goals
    clear q3 g3 q5 g5 b0 b1 b2 b3
    have hrw := raw_waits (w3 := w5.setCell ⟨b, 3, none⟩ (.slice ad (D.waits.length + 1) cap2)) H4.out.1.raw.role H4.out.1.raw.lab H4.out.1.raw.num H4.out.2.2.2.1 H4.out.2.2.2.2.1 H4.out.2.2.2.2.2.1 H4.out.2.2.2.2.2.2.2.1 ((Below.refl w4.heap.size w4).drew.alloc (Nat.le_refl _) _) (by rw [HN.out]; exact H5.out.2.1) (by rw [HN.out]; exact H5.out.1) (by rw [HN.out]; exact H5.out.2.2) rfl
    rw [HN.out, ← HD.out.1] at hrw
    obtain ⟨ρ6, hR6, hT6⟩ := hrw
    have hlab0 : ρ w.heap.size = 0 := H.out.1.raw.lab _ (Nat.le_refl _)
    have hbox6 := (hT6.same w.heap.size H4.out.2.2.2.2.2.2.2.2.2.2 (fun e => e hlab0)).trans H4.out.2.2.1
    have hbT6 := (Touch.of_below (R := RA) ρ H4.out.2.1).trans hT6
    have hl6 := (hT6.old w.heap.size H4.out.2.2.2.2.2.2.2.2.2.2).trans hlab0
    have hr6 := strikes_any hR6 (by rw [HD.out.1]; exact H.out.2.2.2.2.2.1.after)
    have hokk := (H.out.1.ok.may hk H.out.2.2.2.2.2.2).2
    rw [Int.toNat_natCast, Int.toNat_natCast] at hokk
    rw [HD.out.2.2.1, ← HD.out.2.1] at hr6
    generalize w5.setCell _ _ = w6 at *
    have H6 := Lib.hid (And.intro hbox6 (And.intro hbT6 (And.intro hl6 (And.intro hr6 hokk))))
    clear hR6 hT6 hlab0 hbox6 hbT6 hl6 hr6 hokk
    go_wp2_with fail
    refine H6.out.2.2.2.1.mono ?_
    rintro e w7 ⟨rfl, hR7, hT7⟩
    have hbT7 := H6.out.2.1.trans (hT7.mono (R' := RA) (fun r e => by unfold RA; omega))
    obtain ⟨ts7, tn7, wv7, h7, hS7, hN7, hW7⟩ := hR7.body
    have q2 := (head_cells h7).2.2.1
    have hlt6 : w.heap.size < w6.heap.size := (Array.getElem?_eq_some_iff.1 H6.out.1).1
    have hbox7 := (hT7.same w.heap.size hlt6 (fun e => by have : ρ6 w.heap.size = 1 := e; rw [H6.out.2.2.1] at this; omega)).trans H6.out.1
    have b0 : w7.cell? ⟨w.heap.size, 0, none⟩ = some (.int .i64 ((kind : Int) + 1)) := by rw [cell_of_row _ _ _ _ _ _ hbox7]; rfl
    have b1 : w7.cell? ⟨w.heap.size, 1, none⟩ = some (.int .i64 (x : Int)) := by rw [cell_of_row _ _ _ _ _ _ hbox7]; rfl
    have b2 : w7.cell? ⟨w.heap.size, 2, none⟩ = some (.int .i64 (long : Int)) := by rw [cell_of_row _ _ _ _ _ _ hbox7]; rfl
    have b3 : w7.cell? ⟨w.heap.size, 3, none⟩ = some (.string text) := by rw [cell_of_row _ _ _ _ _ _ hbox7]; rfl
    obtain ⟨f1, f2, f3, f4, f5, f6, f7, f8⟩ := HD.out.2.2.2
    have hD1 := HD.out.1
    rw [hD1] at f1 f2 f3 f4 f5 f6 f7 f8
    have hmay := (H.out.1.ok.may hk H.out.2.2.2.2.2.2).1
    rw [Int.toNat_natCast, Int.toNat_natCast] at hmay
    have hln : D.now.length = D2.sure.length := by rw [Disk.now_length, f1]
    have hdo := do_any ⟨kind, x, long, text⟩ D.now tn7 3 fN ρ6 w7.drew (tab_drew hN7) hmay H.out.1.ok.fits.all (fun _ => htx) (fun j _ => fN_ne j) (fun j hj => fN_inj hj) (by rw [Disk.now_length]; exact H.out.1.ok.num)
    rw [hln] at hdo
    have hok2 : Disk.Ok { D2 with changes := D.changes + 1 } := ⟨by show 1 ≤ D2.room; rw [f8]; exact H.out.1.ok.room0, by show D2.room ≤ _; rw [f8]; exact H.out.1.ok.room1, by show D2.sure.length ≤ _; rw [f1]; exact H.out.1.ok.num, by show Fits D2.sure D2.waits; rw [f1, f2]; exact H6.out.2.2.2.2⟩
    have hnow : made D.now ⟨kind, x, long, text⟩ = Disk.now { D2 with changes := D.changes + 1 } := by
      show _ = madeAll D2.sure D2.waits
      rw [f1, f2, madeAll_snoc]; rfl
    have hch : D2.changes = D.changes := f5
    have H7 := Lib.hid (And.intro hbT7 (And.intro hR7 (And.intro h7 (And.intro hS7 (And.intro hN7 (And.intro hW7 (And.intro hdo (And.intro hok2 (And.intro hnow (And.intro hln hch))))))))))
    have hc0 := H.out.2.2.2.2.2.1.changes0
    have hc1 := H.out.2.2.2.2.2.1.changes1
    clear hbT7 hR7 h7 hS7 hN7 hW7 hdo hok2 hnow hln hbox7 f1 f2 f3 f4 f5 f6 f7 f8 hD1 hmay hT7 hch
    go_wp2_with fail
    go_still_tail 5, (by kernel_rfl)
    change wpList _ _ _ _ _ w7.drew
    have hdo := H7.out.2.2.2.2.2.2.1
    have hR8 := raw_drew H7.out.2.1
    generalize hw8 : w7.drew = w8 at *
    have H8 := Lib.hid (And.intro hdo (And.intro hR8 hw8))
    clear hdo hR8 hw8 q2 b0 b1 b2 b3
    go_wp2_with fail
    refine H8.out.1.mono ?_
    rintro e w9 ⟨rfl, ρ9, hT9, ht9⟩
    have hh8 : w8.heap[b]? = some (.cells (headCells D2 ts7 tn7 wv7) 63 (0, 0)) := by rw [← H8.out.2.2]; exact H7.out.2.2.1
    have hh9 := (ht9.same b H8.out.2.1.lt (fun e => by rw [H8.out.2.1.role] at e; rcases e with e | e; omega; unfold fN at e; omega)).trans hh8
    have q4 := (head_cells hh9).2.2.2.2.1
    have g4 := head_free hh9 4
    rw [H7.out.2.2.2.2.2.2.2.2.2.2] at q4
    have H9 := Lib.hid (And.intro hT9 (And.intro ht9 hh8))
    clear hT9 ht9 hh8 hh9
    go_wp2_with fail
    go_ret
    have hS8 : Tab w8 ρ6 2 fS ts7 D2.sure := by rw [← H8.out.2.2]; exact tab_drew H7.out.2.2.2.1
    have hW8 : Waits w8 ρ6 4 wv7 D2.waits := by rw [← H8.out.2.2]; exact H7.out.2.2.2.2.2.1
    have ht8 : Touch RA ρ ρ6 w w8 := by rw [← H8.out.2.2]; exact touch_drew H7.out.1
    obtain ⟨p1, p2⟩ := raw_now (w2 := w9.setCell ⟨b, 4, none⟩ (.int .i64 (D.changes + 1))) (D := D2) H8.out.2.1.lab H8.out.2.1.role (by rw [made_length]; exact H7.out.2.2.2.2.2.2.2.2.2.1) H9.out.2.2 hS8 H9.out.1 hW8 H9.out.2.1 (by rw [H7.out.2.2.2.2.2.2.2.2.2.2])
    rw [H7.out.2.2.2.2.2.2.2.2.2.2, H7.out.2.2.2.2.2.2.2.2.1] at p1
    exact ⟨rfl, ρ9, ⟨p1, H7.out.2.2.2.2.2.2.2.1⟩, ht8.trans p2⟩
end Go.Proofs.YtdmbombjkinboaaGreat
namespace Go.Proofs.YtdmbombjkinboaaGreat
open Go.RowKit
open Dk

/-- A change, of any numbers. -/
theorem dput_any {w : World} {ρ : Nat → Nat} {b : Nat} {D : Disk} (h : DiskAt w ρ b D) (hs : Small D) (kind : Nat) (hk : kind ≤ 2) (x long : Int) (hlg : kind ≠ 1 → long = 0) (text : ByteArray) (htx : kind ≠ 0 → text.size ≤ 65536) :
    Calls Tryz.prog 71 #[.pointer (some ⟨b, 0, none⟩), rawChg kind x long text] w fun e w' => e = .returned (.int .i64 (D.act kind x long text).2) ∧ ∃ ρ', DiskAt w' ρ' b (D.act kind x long text).1 ∧ Touch RA ρ ρ' w w' := by
  unfold Disk.act
  by_cases hr : D.refused kind x long text = 0
  · rw [if_pos hr]
    obtain ⟨-, h0, h1, h2, h3⟩ := Disk.refused_zero hr
    have hl0 : 0 ≤ long := by
      by_cases e : kind = 1
      · exact (h2 e).1
      · rw [hlg e]; exact Int.le_refl _
    have ht : text.size ≤ 65536 := by
      by_cases e : kind = 0
      · have := h3 e; have := h.ok.room1; omega
      · exact htx e
    obtain ⟨m, rfl⟩ : ∃ m : Nat, x = m := ⟨x.toNat, by omega⟩
    obtain ⟨n, rfl⟩ : ∃ n : Nat, long = n := ⟨long.toNat, by omega⟩
    rw [Int.toNat_natCast, Int.toNat_natCast]
    cases hst : (strikeD { D with waits := D.waits ++ [⟨kind, m, n, text⟩] }).2 with
    | true => exact put_struck h hs kind hk m n text ht hr hst
    | false => exact put_plain h hs kind hk m n text ht hr hst
  · rw [if_neg hr]
    exact (put_refused h kind hk x long text hr).mono fun e w' ⟨he, hb⟩ => ⟨he, ρ, h.below hb, Touch.of_below ρ hb⟩
/-- What a call that changes a disk says. -/
def Does (ρ : Nat → Nat) (b : Nat) (r : Disk × Int) (w : World) (e : Ending) (w' : World) : Prop := e = .returned (.int .i64 r.2) ∧ ∃ ρ', DiskAt w' ρ' b r.1 ∧ Touch RA ρ ρ' w w'
set_option maxRecDepth 100000 in
theorem append_any {w : World} {ρ : Nat → Nat} {b : Nat} {D : Disk} (h : DiskAt w ρ b D) (hs : Small D) (x : Int) (s : ByteArray) :
    Calls Tryz.prog 45 #[.pointer (some ⟨b, 0, none⟩), .int .i64 x, .string s] w (Does ρ b (D.act 0 x 0 s) w) := by
  have hp := dput_any h hs 0 (by omega) x 0 (fun _ => rfl) s (fun e => absurd rfl e)
  unfold rawChg at hp
  have H := Lib.hid hp
  clear h hs hp
  go_enter Tryz.func45, Tryz.ntmps45
  go_wp2_with fail
  refine H.out.mono ?_
  rintro e w' ⟨rfl, hr⟩
  have HR := Lib.hid hr
  clear hr
  go_wp2_with fail
  go_ret
  exact ⟨rfl, HR.out⟩
set_option maxRecDepth 100000 in
theorem trim_any {w : World} {ρ : Nat → Nat} {b : Nat} {D : Disk} (h : DiskAt w ρ b D) (hs : Small D) (x long : Int) :
    Calls Tryz.prog 79 #[.pointer (some ⟨b, 0, none⟩), .int .i64 x, .int .i64 long] w (Does ρ b (D.act 1 x long ⟨#[]⟩) w) := by
  have hp := dput_any h hs 1 (by omega) x long (fun e => absurd rfl e) ⟨#[]⟩ (fun _ => Nat.zero_le _)
  unfold rawChg at hp
  have H := Lib.hid hp
  clear h hs hp
  go_enter Tryz.func79, Tryz.ntmps79
  go_wp2_with fail
  refine H.out.mono ?_
  rintro e w' ⟨rfl, hr⟩
  have HR := Lib.hid hr
  clear hr
  go_wp2_with fail
  go_ret
  exact ⟨rfl, HR.out⟩
set_option maxRecDepth 100000 in
theorem empty_any {w : World} {ρ : Nat → Nat} {b : Nat} {D : Disk} (h : DiskAt w ρ b D) (hs : Small D) (x : Int) :
    Calls Tryz.prog 87 #[.pointer (some ⟨b, 0, none⟩), .int .i64 x] w (Does ρ b (D.act 2 x 0 ⟨#[]⟩) w) := by
  have hp := dput_any h hs 2 (by omega) x 0 (fun _ => rfl) ⟨#[]⟩ (fun _ => Nat.zero_le _)
  unfold rawChg at hp
  have H := Lib.hid hp
  clear h hs hp
  go_enter Tryz.func87, Tryz.ntmps87
  go_wp2_with fail
  refine H.out.mono ?_
  rintro e w' ⟨rfl, hr⟩
  have HR := Lib.hid hr
  clear hr
  go_wp2_with fail
  go_ret
  exact ⟨rfl, HR.out⟩
set_option maxRecDepth 100000 in
theorem sync_any {w : World} {ρ : Nat → Nat} {b : Nat} {D : Disk} (h : DiskAt w ρ b D) (hs : Small D) :
    Calls Tryz.prog 73 #[.pointer (some ⟨b, 0, none⟩)] w (Does ρ b D.sync w) := by
  have hdn := down_any h
  unfold Disk.sync
  cases hd : D.down with
  | true =>
    rw [if_pos rfl]
    rw [hd] at hdn
    have H := Lib.hid (And.intro h hdn)
    clear h hs hdn hd
    go_enter Tryz.func73, Tryz.ntmps73
    go_wp2_with fail
    refine H.out.2.mono ?_
    rintro e w' ⟨rfl, rfl⟩
    go_wp2_with fail
    go_ret
    exact ⟨rfl, ρ, H.out.1, Touch.refl _ _ _⟩
  | false =>
    rw [if_neg (by decide)]
    rw [hd] at hdn
    obtain ⟨ts, tn, wv, h1, hS, hN, a, cap, rfl, ho, hrole⟩ := h.body
    have q3 := (head_cells h1).2.2.2.1
    have hst := settle_any h.raw D.waits.length (Nat.le_refl _) (by rw [List.take_length]; exact h.ok.fits) (by have := hs.waits; omega) h.ok.num
    rw [List.take_length] at hst
    have H := Lib.hid (And.intro h (And.intro hdn hst))
    clear h hs hdn h1 hS hN ho hrole hst
    generalize D.waits.length = n at *
    go_enter Tryz.func73, Tryz.ntmps73
    go_wp2_with fail
    refine H.out.2.1.mono ?_
    rintro e w' ⟨rfl, rfl⟩
    go_wp2_with fail
    refine H.out.2.2.mono ?_
    rintro e w2 ⟨rfl, ρ2, hR2, hT2⟩
    have H2 := Lib.hid (And.intro hR2 (And.intro hT2 hd))
    clear hR2 hT2 q3 hd
    go_wp2_with fail
    go_ret
    have hok := H.out.1.ok.sync
    unfold Disk.sync at hok
    rw [if_neg (by rw [H2.out.2.2]; decide)] at hok
    refine ⟨rfl, ρ2, ⟨?_, ?_⟩, H2.out.2.1.mono (fun r e => rs_ra e)⟩
    · have := H2.out.1
      rw [H2.out.2.2] at this
      exact this
    · rw [H2.out.2.2] at hok
      exact hok
theorem failD_any {w : World} {ρ : Nat → Nat} {b : Nat} {D : Disk} (h : DiskAt w ρ b D) (hs : Small D) (keep torn : Int) :
    Calls Tryz.prog 16 #[.pointer (some ⟨b, 0, none⟩), .int .i64 keep, .int .i64 torn] w fun e w' => e = .returned (.tuple #[]) ∧ ∃ ρ', DiskAt w' ρ' b (D.fail keep torn) ∧ Touch RA ρ ρ' w w' := by
  rcases Bool.eq_false_or_eq_true D.down with hd | hd
  · have hdn := down_any h
    rw [hd] at hdn
    rw [show D.fail keep torn = D by unfold Disk.fail; rw [if_pos hd]]
    have H := Lib.hid (And.intro h hdn)
    clear h hs hdn hd
    go_enter Tryz.func16, Tryz.ntmps16
    go_wp2_with fail
    refine H.out.2.mono ?_
    rintro e w' ⟨rfl, rfl⟩
    go_wp2_with fail
    refine bodyPost_ret (v := .tuple #[]) (results_none rfl _ _ _) rfl ?_
    exact ⟨rfl, ρ, H.out.1, Touch.refl _ _ _⟩
  · exact fail_raw h.raw h.ok hd (by have := hs.waits; omega) hs.falls0 hs.falls1 keep torn
theorem lay_end {w : World} {ρ : Nat → Nat} {b : Nat} {D : Disk} {a k t : Int} (h : DiskAt w ρ b D) :
    DiskAt ((((w.setCell ⟨b, 7, none⟩ (.bool true)).setCell ⟨b, 8, none⟩ (.int .i64 a)).setCell ⟨b, 9, none⟩ (.int .i64 k)).setCell ⟨b, 10, none⟩ (.int .i64 t)).drew ρ b (D.lay a k t) ∧
    Touch RA ρ ρ w ((((w.setCell ⟨b, 7, none⟩ (.bool true)).setCell ⟨b, 8, none⟩ (.int .i64 a)).setCell ⟨b, 9, none⟩ (.int .i64 k)).setCell ⟨b, 10, none⟩ (.int .i64 t)).drew := by
  obtain ⟨ts, tn, wv, h1, hS, hN, hW⟩ := h.body
  obtain ⟨r1, s1⟩ := raw_put (w2 := w.setCell ⟨b, 7, none⟩ (.bool true)) (D' := { D with laid := true }) (N' := D.now) h.raw.role h.raw.lab h.raw.num h1 rfl rfl hS hN hW
  obtain ⟨ts, tn, wv, h1, hS, hN, hW⟩ := r1.body
  obtain ⟨r2, s2⟩ := raw_put (w2 := (w.setCell ⟨b, 7, none⟩ (.bool true)).setCell ⟨b, 8, none⟩ (.int .i64 a)) (D' := { D with laid := true, after := a }) (N' := D.now) r1.role r1.lab r1.num h1 rfl rfl hS hN hW
  obtain ⟨ts, tn, wv, h1, hS, hN, hW⟩ := r2.body
  obtain ⟨r3, s3⟩ := raw_put (w2 := ((w.setCell ⟨b, 7, none⟩ (.bool true)).setCell ⟨b, 8, none⟩ (.int .i64 a)).setCell ⟨b, 9, none⟩ (.int .i64 k)) (D' := { D with laid := true, after := a, keep := k }) (N' := D.now) r2.role r2.lab r2.num h1 rfl rfl hS hN hW
  obtain ⟨ts, tn, wv, h1, hS, hN, hW⟩ := r3.body
  obtain ⟨r4, s4⟩ := raw_put (w2 := (((w.setCell ⟨b, 7, none⟩ (.bool true)).setCell ⟨b, 8, none⟩ (.int .i64 a)).setCell ⟨b, 9, none⟩ (.int .i64 k)).setCell ⟨b, 10, none⟩ (.int .i64 t)) (D' := D.lay a k t) (N' := D.now) r3.role r3.lab r3.num h1 rfl rfl hS hN hW
  exact ⟨⟨raw_drew r4, h.ok.lay a k t⟩, touch_drew ((s1.trans (s2.trans (s3.trans s4))).mono (fun r e => by unfold RA; omega))⟩
theorem refuses_nil (w : World) (c0 x long : Int) (text : ByteArray) : Calls Tryz.prog 90 #[.pointer none, .agg #[.int .i64 c0, .int .i64 x, .int .i64 long, .string text]] w fun e w' => e = .returned (.int .i64 9) ∧ Below w.heap.size w w' := by
  have hB : Below w.heap.size w (w.alloc (.cells #[.int .i64 c0, .int .i64 x, .int .i64 long, .string text] 71)) := (Below.refl _ _).alloc (Nat.le_refl _) _
  have HB := Lib.hid hB
  clear hB
  go_enter Tryz.func90, Tryz.ntmps90
  go_wp2_with fail
  refine (extent_nil _ _).mono ?_
  rintro e w' ⟨rfl, rfl⟩
  go_wp2_with fail
  go_ret
  exact ⟨rfl, HB.out⟩
theorem put_nil (w : World) (c0 x long : Int) (text : ByteArray) : Calls Tryz.prog 71 #[.pointer none, .agg #[.int .i64 c0, .int .i64 x, .int .i64 long, .string text]] w fun e w' => e = .returned (.int .i64 9) ∧ Below w.heap.size w w' := by
  have hB : Below w.heap.size w (w.alloc (.cells #[.int .i64 c0, .int .i64 x, .int .i64 long, .string text] 71)) := (Below.refl _ _).alloc (Nat.le_refl _) _
  have HB := Lib.hid hB
  clear hB
  go_enter Tryz.func71, Tryz.ntmps71
  go_wp2_with fail
  refine (refuses_nil _ _ _ _ _).mono ?_
  rintro e w' ⟨rfl, hb⟩
  have H2 := Lib.hid (HB.out.trans (hb.mono HB.out.size))
  clear hb
  go_wp2_with fail
  go_ret
  exact ⟨rfl, H2.out⟩
set_option maxRecDepth 100000 in
theorem lay_any {w : World} {ρ : Nat → Nat} {b : Nat} {D : Disk} (h : DiskAt w ρ b D) (a k t : Int) :
    Calls Tryz.prog 30 #[.pointer (some ⟨b, 0, none⟩), .agg #[.int .i64 a, .int .i64 k, .int .i64 t]] w fun e w' => e = .returned (.tuple #[]) ∧ DiskAt w' ρ b (D.lay a k t) ∧ Touch RA ρ ρ w w' := by
  obtain ⟨w1, hw1⟩ : ∃ w1, w1 = w.alloc (.cells #[.int .i64 a, .int .i64 k, .int .i64 t] 35) := ⟨_, rfl⟩
  have hB : Below w.heap.size w w1 := by rw [hw1]; exact (Below.refl _ _).alloc (Nat.le_refl _) _
  have hbox : w1.heap[w.heap.size]? = some (.cells #[.int .i64 a, .int .i64 k, .int .i64 t] 35 (0, 0)) := by rw [hw1]; exact heap_alloc_new _ _
  have hD := h.below hB
  obtain ⟨ts, tn, wv, h1, hS, hN, hW⟩ := hD.body
  obtain ⟨-, -, -, -, -, -, -, q7, q8, q9, q10⟩ := head_cells h1
  have g7 := head_free h1 7
  have g8 := head_free h1 8
  have g9 := head_free h1 9
  have g10 := head_free h1 10
  have b0 : w1.cell? ⟨w.heap.size, 0, none⟩ = some (.int .i64 a) := by rw [cell_of_row _ _ _ _ _ _ hbox]; rfl
  have b1 : w1.cell? ⟨w.heap.size, 1, none⟩ = some (.int .i64 k) := by rw [cell_of_row _ _ _ _ _ _ hbox]; rfl
  have b2 : w1.cell? ⟨w.heap.size, 2, none⟩ = some (.int .i64 t) := by rw [cell_of_row _ _ _ _ _ _ hbox]; rfl
  have hne : b ≠ w.heap.size := by have := h.raw.lt; omega
  have H := Lib.hid (And.intro hD (And.intro hB (And.intro h1 (And.intro hS (And.intro hN hW)))))
  clear h hB hbox hD h1 hS hN hW
  go_enter Tryz.func30, Tryz.ntmps30
  go_wp2_with fail
  rw [← hw1]
  clear hw1
  go_region
  go_wp2_with fail
  go_end0
  refine ⟨rfl, ?_⟩
  have ht := (Touch.of_below (R := RA) ρ H.out.2.1).trans (lay_end H.out.1 (a := a) (k := k) (t := t)).2
  exact ⟨(lay_end H.out.1).1, ht⟩
theorem append_nil (w : World) (x : Int) (s : ByteArray) : Calls Tryz.prog 45 #[.pointer none, .int .i64 x, .string s] w fun e w' => e = .returned (.int .i64 9) ∧ Below w.heap.size w w' := by
  go_enter Tryz.func45, Tryz.ntmps45
  go_wp2_with fail
  refine (put_nil _ _ _ _ _).mono ?_
  rintro e w' ⟨rfl, hb⟩
  have HB := Lib.hid hb
  clear hb
  go_wp2_with fail
  go_ret
  exact ⟨rfl, HB.out⟩
theorem trim_nil (w : World) (x long : Int) : Calls Tryz.prog 79 #[.pointer none, .int .i64 x, .int .i64 long] w fun e w' => e = .returned (.int .i64 9) ∧ Below w.heap.size w w' := by
  go_enter Tryz.func79, Tryz.ntmps79
  go_wp2_with fail
  refine (put_nil _ _ _ _ _).mono ?_
  rintro e w' ⟨rfl, hb⟩
  have HB := Lib.hid hb
  clear hb
  go_wp2_with fail
  go_ret
  exact ⟨rfl, HB.out⟩
theorem empty_nil (w : World) (x : Int) : Calls Tryz.prog 87 #[.pointer none, .int .i64 x] w fun e w' => e = .returned (.int .i64 9) ∧ Below w.heap.size w w' := by
  go_enter Tryz.func87, Tryz.ntmps87
  go_wp2_with fail
  refine (put_nil _ _ _ _ _).mono ?_
  rintro e w' ⟨rfl, hb⟩
  have HB := Lib.hid hb
  clear hb
  go_wp2_with fail
  go_ret
  exact ⟨rfl, HB.out⟩
theorem sync_nil (w : World) : Calls Tryz.prog 73 #[.pointer none] w fun e w' => e = .returned (.int .i64 9) ∧ w = w' := by
  go_enter Tryz.func73, Tryz.ntmps73
  go_wp2_with fail
  refine (down_nil _).mono ?_
  rintro e w' ⟨rfl, rfl⟩
  go_wp2_with fail
  go_ret
  exact ⟨rfl, rfl⟩
theorem fail_nil (w : World) (keep torn : Int) : Calls Tryz.prog 16 #[.pointer none, .int .i64 keep, .int .i64 torn] w fun e w' => e = .returned (.tuple #[]) ∧ w = w' := by
  go_enter Tryz.func16, Tryz.ntmps16
  go_wp2_with fail
  refine (down_nil _).mono ?_
  rintro e w' ⟨rfl, rfl⟩
  go_wp2_with fail
  refine bodyPost_ret (v := .tuple #[]) (results_none rfl _ _ _) rfl ?_
  exact ⟨rfl, rfl⟩
theorem lay_nil (w : World) (a k t : Int) : Calls Tryz.prog 30 #[.pointer none, .agg #[.int .i64 a, .int .i64 k, .int .i64 t]] w fun e w' => e = .returned (.tuple #[]) ∧ Below w.heap.size w w' := by
  go_enter Tryz.func30, Tryz.ntmps30
  go_wp2_with fail
  go_end0
  exact ⟨rfl, (Below.refl _ _).alloc (Nat.le_refl _) _⟩
theorem run_make_rows (n : Nat) (h : n ≤ 64) (w : World) : (Instr.makeSlice 60 (.int .i64 (n : Int)) (.int .i64 (n : Int))).run Tryz.prog w = .ok (.slice (some ⟨w.heap.size, 0, none⟩) n n) (w.alloc (.cells (Array.replicate n (.slice none 0 0)) 51)) := by
  obtain ⟨i0, hi0, hz0, hz1, hz2⟩ := info_parts Tryz.info_row
  have := run_make (P := Tryz.prog) w 60 51 i0 (.slice none 0 0) Tryz.underlying60 hi0 hz0 .i64 .i64 n n (by omega) (Int.le_refl _) (by rw [hz2]; omega) (by omega)
  rw [hz1, Nat.mul_one] at this
  have e : madeCells (Value.slice none 0 0).cells n = Array.replicate n (.slice none 0 0) := by
    apply Array.toList_inj.1
    rw [show (Value.slice none 0 0).cells = #[Value.slice none 0 0] from rfl, toList_madeCells_one, Array.toList_replicate]
  simp only [Int.toNat_natCast] at this
  rw [e] at this
  exact this
/-- A table of empty rows. -/
theorem tab_new {w : World} {ρ : Nat → Nat} {rt : Nat} {f : Nat → Nat} {t n : Nat} (hr : ρ t = rt) (h : w.heap[t]? = some (.cells (Array.replicate n (.slice none 0 0)) 51 (0, 0))) : Tab w ρ rt f t (List.replicate n ⟨#[]⟩) := by
  refine ⟨hr, _, h, by simp, fun i hi => ⟨.slice none 0 0, ?_, ?_⟩⟩
  · simp at hi; simp [hi]
  · simp at hi
    rw [show exAt (List.replicate n ⟨#[]⟩) i = ⟨#[]⟩ by simp [exAt, hi]]
    exact BRow.nil _ _ _
/-- A disk that is new. -/
theorem new_end (w : World) (n : Nat) (room : Int) (h0 : n ≤ 64) (h1 : 1 ≤ room) (h2 : room ≤ 65536) (g1 g2 : Nat) (hg : (g1 = w.heap.size ∧ g2 = w.heap.size + 1) ∨ (g1 = w.heap.size + 1 ∧ g2 = w.heap.size)) {w1 : World}
    (hw : w1 = (((w.alloc (.cells (Array.replicate n (.slice none 0 0)) 51)).alloc (.cells (Array.replicate n (.slice none 0 0)) 51)).alloc (.cells #[.int .i64 room, .slice (some ⟨g1, 0, none⟩) n n, .slice (some ⟨g2, 0, none⟩) n n, .slice none 0 0, .int .i64 0, .int .i64 0, .bool false, .bool false, .int .i64 0, .int .i64 0, .int .i64 0] 63))) :
    ∃ ρ, DiskAt w1.drew ρ (w.heap.size + 2) (Disk.new n room) ∧ From w.heap.size ρ ∧ Below w.heap.size w w1.drew := by
  have hB : Below w.heap.size w w1 := by rw [hw]; exact ((((Below.refl _ w).alloc (Nat.le_refl _) _).alloc (by simp) _).alloc (by simp; omega) _)
  have hz : w1.heap.size = w.heap.size + 3 := by rw [hw]; simp
  have e0 : w1.heap[w.heap.size]? = some (.cells (Array.replicate n (.slice none 0 0)) 51 (0, 0)) := by
    rw [hw, Lib.alloc_old _ _ _ (by simp; omega), Lib.alloc_old _ _ _ (by simp)]; exact heap_alloc_new w _
  have e1 : w1.heap[w.heap.size + 1]? = some (.cells (Array.replicate n (.slice none 0 0)) 51 (0, 0)) := by
    rw [hw, Lib.alloc_old _ _ _ (by simp)]
    have := heap_alloc_new (w.alloc (.cells (Array.replicate n (.slice none 0 0)) 51)) (.cells (Array.replicate n (.slice none 0 0)) 51)
    rw [show (w.alloc (.cells (Array.replicate n (.slice none 0 0)) 51)).heap.size = w.heap.size + 1 by simp] at this
    exact this
  have e2 := heap_alloc_new ((w.alloc (.cells (Array.replicate n (.slice none 0 0)) 51)).alloc (.cells (Array.replicate n (.slice none 0 0)) 51)) (.cells #[.int .i64 room, .slice (some ⟨g1, 0, none⟩) n n, .slice (some ⟨g2, 0, none⟩) n n, .slice none 0 0, .int .i64 0, .int .i64 0, .bool false, .bool false, .int .i64 0, .int .i64 0, .int .i64 0] 63)
  rw [← hw, show ((w.alloc (.cells (Array.replicate n (.slice none 0 0)) 51)).alloc (.cells (Array.replicate n (.slice none 0 0)) 51)).heap.size = w.heap.size + 2 by simp] at e2
  have e1g : w1.heap[g1]? = some (.cells (Array.replicate n (.slice none 0 0)) 51 (0, 0)) := by rcases hg with ⟨h, -⟩ | ⟨h, -⟩ <;> rw [h] <;> assumption
  have e2g : w1.heap[g2]? = some (.cells (Array.replicate n (.slice none 0 0)) 51 (0, 0)) := by rcases hg with ⟨-, h⟩ | ⟨-, h⟩ <;> rw [h] <;> assumption
  obtain ⟨ρ, hρ⟩ : ∃ ρ, ρ = lay (lay (lay (fun _ => 0) g1 2) g2 3) (w.heap.size + 2) 1 := ⟨_, rfl⟩
  have r1 : ρ g1 = 2 := by rw [hρ, lay_other (by omega), lay_other (by omega), lay_same]
  have r2 : ρ g2 = 3 := by rw [hρ, lay_other (by omega), lay_same]
  have r3 : ρ (w.heap.size + 2) = 1 := by rw [hρ, lay_same]
  have r0 : ∀ g, g ≠ g1 → g ≠ g2 → g ≠ w.heap.size + 2 → ρ g = 0 := fun g a b c => by rw [hρ, lay_other c, lay_other b, lay_other a]
  refine ⟨ρ, ⟨raw_drew ⟨r3, fun g hg' => r0 g (by omega) (by omega) (by omega), by simp [Disk.new, Disk.now, madeAll], g1, g2, .slice none 0 0, ?_, tab_new r1 e1g, tab_new r2 e2g, Waits.nil _ _ _⟩, Disk.Ok.new h0 h1 h2⟩, fun g hg' => r0 g (by omega) (by omega) (by omega), hB.drew⟩
  rw [e2]
  simp [headCells, Disk.new]
set_option maxRecDepth 100000 in
theorem new_bad (n room : Int) (h : n < 1 ∨ 64 < n ∨ room < 1 ∨ 65536 < room) (w : World) : Calls Tryz.prog 7 #[.int .i64 n, .int .i64 room] w fun e w' => e = .returned (.pointer none) ∧ w = w' := by
  by_cases h1 : n < 1
  · clear h
    go_enter Tryz.func7, Tryz.ntmps7
    go_wp2_with fail
    go_ret
    exact ⟨rfl, rfl⟩
  · by_cases h2 : 64 < n
    · clear h
      go_enter Tryz.func7, Tryz.ntmps7
      go_wp2_with fail
      go_ret
      exact ⟨rfl, rfl⟩
    · by_cases h3 : room < 1
      · clear h
        go_enter Tryz.func7, Tryz.ntmps7
        go_wp2_with fail
        go_ret
        exact ⟨rfl, rfl⟩
      · have h4 : 65536 < room := by omega
        clear h
        go_enter Tryz.func7, Tryz.ntmps7
        go_wp2_with fail
        go_ret
        exact ⟨rfl, rfl⟩
set_option maxRecDepth 100000 in
theorem new_any (n : Nat) (room : Int) (h0 : 1 ≤ n) (h1 : n ≤ 64) (h2 : 1 ≤ room) (h3 : room ≤ 65536) (w : World) : Calls Tryz.prog 7 #[.int .i64 (n : Int), .int .i64 room] w fun e w' => ∃ b ρ, e = .returned (.pointer (some ⟨b, 0, none⟩)) ∧ DiskAt w' ρ b (Disk.new n room) ∧ From w.heap.size ρ ∧ Below w.heap.size w w' := by
  have hmk := run_make_rows n h1
  have n0 : (1 : Int) ≤ n := by omega
  have n1 : (n : Int) ≤ 64 := by omega
  go_enter Tryz.func7, Tryz.ntmps7
  go_wp2_with fail
  go_region
  all_goals go_wp2_with fail
  all_goals go_ret
  all_goals refine ⟨w.heap.size + 2, ?_⟩
  · obtain ⟨ρ, a1, a2, a3⟩ := new_end w n room h1 h2 h3 w.heap.size (w.heap.size + 1) (.inl ⟨rfl, rfl⟩) rfl
    exact ⟨ρ, rfl, a1, a2, a3⟩
  · obtain ⟨ρ, a1, a2, a3⟩ := new_end w n room h1 h2 h3 (w.heap.size + 1) w.heap.size (.inr ⟨rfl, rfl⟩) rfl
    exact ⟨ρ, rfl, a1, a2, a3⟩
end Go.Proofs.YtdmbombjkinboaaGreat
