/- segs: Open. -/
import Derived.Test.YtdmbombjkinboaaGreatYOpn2
namespace Go.Proofs.YtdmbombjkinboaaGreat
open Go.RowKit
open Dk Sg Fr

theorem TouchX.then {X : Nat → Prop} {ρ ρ' ρ'' : Nat → Nat} {a b c : World} (h : TouchX (fun _ => False) ρ ρ' a b) (k : TouchX X ρ' ρ'' b c) (hX : ∀ g, X g → a.heap.size ≤ g) : TouchX (fun _ => False) ρ ρ'' a c :=
  ⟨k.os.trans h.os, k.tape.trans h.tape, k.output.trans h.output, Nat.le_trans h.size k.size, fun g hg => (k.old g (Nat.lt_of_lt_of_le hg h.size)).trans (h.old g hg),
    fun g hg h0 hx => (k.same g (Nat.lt_of_lt_of_le hg h.size) ((h.old g hg).trans h0) (fun e => by have := hX g e; omega)).trans (h.same g hg h0 hx), fun g hg => (k.lab g hg).trans (h.lab g (Nat.le_trans k.size hg))⟩
/-- What Open says: r is the disk, the store and the error behind it. -/
def Opens (ρ : Nat → Nat) (b : Nat) (r : Res) (w : World) (e : Ending) (w' : World) : Prop :=
  (r.2.2 = 0 ∧ ∃ s ρ' U', e = .returned (.tuple #[.pointer (some ⟨s, 0, none⟩), .int .i64 0]) ∧ SAt w' ρ' U' s b r.1 r.2.1 ∧ (∀ g, U' g → w.heap.size ≤ g) ∧ TouchX (fun _ => False) ρ ρ' w w') ∨
  (r.2.2 ≠ 0 ∧ e = .returned (.tuple #[.pointer none, .int .i64 r.2.2]) ∧ ∃ ρ', DiskAt w' ρ' b r.1 ∧ TouchX (fun _ => False) ρ ρ' w w')
/-- What stands at the label: an error, and the disk behind it. -/
def OpJ (ρ : Nat → Nat) (b : Nat) (r : Res) (w : World) (a : Act) (w' : World) : Prop :=
  ∃ (q : Int) (u0 u1 u2 u3 u4 u6 u7 u8 u9 u10 u11 u12 u13 u14 u15 u16 u17 u18 u19 u20 u21 u22 u23 u24 u25 u26 u27 u28 u29 u30 u31 u32 u33 : Value), a = { tmps := #[u0, u1, u2, u3, u4, .int .i64 q, u6, u7, u8, u9, u10, u11, u12, u13, u14, u15, u16, u17, u18, u19, u20, u21, u22, u23, u24, u25, u26, u27, u28, u29, u30, u31, u32, u33], defers := [] } ∧ q ≠ 0 ∧ r.2.2 = q ∧ ∃ ρ', DiskAt w' ρ' b r.1 ∧ TouchX (fun _ => False) ρ ρ' w w'
theorem beginS_recs (D : Disk) (S : Stor) : (beginS D S).2.1.recs = S.recs := by
  unfold beginS
  split
  · exact (turnS_keeps D S).1
  · exact (syncS_keeps D S).2.1
/-- The store that was opened. -/
theorem opened_sat {w w3 w4 : World} {ρ ρ3 : Nat → Nat} {o s b : Nat} {S : Stor} {r : Res} {a ar : Option Addr} {cap cr : Nat} (ht : TouchX (fun _ => False) ρ ρ3 w w3) (hs : w.heap.size ≤ s) (hs0 : ρ3 s = 0) (ha : ∀ g, (Value.slice a S.segs.length cap).ownBlock = some g → w.heap.size ≤ g)
    (hd3 : Hd w3 s b S (.slice a S.segs.length cap) (.slice ar S.recs.length cr)) (hg3 : OwnG w3 a cap S.segs) (hr3 : OwnT w.heap.size w3 ar cr S.recs) (hr0 : ∀ g, (Value.slice ar S.recs.length cr).ownBlock = some g → ρ3 g = 0) (hr : r.2.1.recs = S.recs)
    {ta : Option Addr} {tn tc : Nat} (hop : Op w3 o s (.slice ta tn tc)) (ho0 : ρ3 o = 0) {ρ4 : Nat → Nat} {a' : Option Addr} {cap' : Nat} (h1 : DiskAt w4 ρ4 b r.1) (h2 : Hd w4 s b r.2.1 (.slice a' r.2.1.segs.length cap') (.slice ar r.2.1.recs.length cr)) (h3 : OwnG w4 a' cap' r.2.1.segs)
    (h4 : ∀ g, (Value.slice a' r.2.1.segs.length cap').ownBlock = some g → ρ4 g = 0 ∧ ((Value.slice a S.segs.length cap).ownBlock = some g ∨ w3.heap.size ≤ g)) (h5 : TouchX (fun g => g = s ∨ (Value.slice a S.segs.length cap).ownBlock = some g) ρ3 ρ4 w3 w4) :
    Op w4 o s (.slice ta tn tc) ∧ TouchX (fun _ => False) ρ ρ4 w w4 ∧ ∃ U', SAt w4 ρ4 U' s b r.1 r.2.1 ∧ ∀ g, U' g → w.heap.size ≤ g := by
  have hne : ∀ g, (Value.slice ar S.recs.length cr).ownBlock = some g → ¬ (g = s ∨ (Value.slice a S.segs.length cap).ownBlock = some g) := fun g hg e => e.elim (fun e => own_ne_row (by decide) hr3 hd3 (by rw [hg, e])) (own_ne (by decide) hr3 hg3 hg)
  refine ⟨(h5.same o hop.lt ho0 (fun e => e.elim (op_ne_hd hop hd3) (own_ne_row (by decide) hg3 hop))).trans hop, ht.then h5 (fun g e => e.elim (fun e => by rw [e]; exact hs) (ha g)), fun g => w.heap.size ≤ g ∧ g < w4.heap.size ∧ ρ4 g = 0, ⟨h1, fun g hg => ⟨hg.2.2, hg.2.1⟩, ⟨hs, h2.lt, (h5.old s hd3.lt).trans hs0⟩, a', cap', ar, cr, h2, h3, fun g hg => ?_, ?_, fun g hg => ?_⟩, fun g hg => hg.1⟩
  · obtain ⟨k1, k2⟩ := h4 g hg
    exact ⟨k2.elim (ha g) (fun k => Nat.le_trans ht.size k), (World.ownsRow.lt h3 g hg).2, k1⟩
  · rw [hr]
    exact own_keep (ownsRow_base hr3 (Nat.zero_le _)) fun g hg => h5.same g (World.ownsRow.lt hr3 g hg).2 (hr0 g hg) (hne g hg)
  · rw [hr] at hg
    have hl := World.ownsRow.lt hr3 g hg
    exact ⟨hl.1, Nat.lt_of_lt_of_le hl.2 h5.size, (h5.old g hl.2).trans (hr0 g hg)⟩
set_option maxRecDepth 100000 in
set_option maxHeartbeats 4000000 in
theorem sopen_any {w : World} {ρ : Nat → Nat} {b n N : Nat} {D : Disk} (h : DiskAt w ρ b D) (hu : D.down = false) (hn : D.sure.length = n) (h3 : 3 ≤ n) (hrm : 1024 ≤ D.room) (hbd : Bud N D) (hN : N ≤ 99999000) (L : Nat → Lst)
    (hL : ∀ j, j < 2 → Scans (exAt D.now j).data.toList ((L j).l.map entB) (L j).m (L j).er ∧ ((L j).er = 4 ∨ (L j).er = 7) ∧ ∀ e ∈ (L j).l, EntOk n e ∧ e.exts.length ≤ 62)
    (l : List (Nat × List ByteArray)) (E : Nat → Nat × Nat) (hl : l.map (·.1) = (cAt L 2).2.exts) (hok : SegsOk n D l E) (hat : (cAt L 2).1 ≤ 1) (hep : (cAt L 2).2.epoch ≤ 1099511627776)
    (hm : l = [] → mayTurnS D (stS D.falls (cAt L 2) l l.length) = 0) :
    Calls Tryz.prog 28 #[.pointer (some ⟨b, 0, none⟩)] w (Opens ρ b (openS D (stS D.falls (cAt L 2) l l.length) (tS (tAt L 2) l E l.length)) w) := by
  have hfl := falls_any h
  have hlab := h.raw.lab
  have hT2 : (tAt L 2).length ≤ 100 := by
    show (tearsOf _ _ _ (tearsOf _ _ _ [])).length ≤ 100
    unfold tearsOf
    repeat' split
    all_goals simp
  have hTl := tS_len hT2 l E l.length
  obtain ⟨T, hTe⟩ : ∃ T, T = tS (tAt L 2) l E l.length := ⟨_, rfl⟩
  obtain ⟨S, hSe⟩ : ∃ S, S = stS D.falls (cAt L 2) l l.length := ⟨_, rfl⟩
  rw [← hTe, ← hSe]
  rw [← hSe] at hm
  rw [← hTe] at hTl
  have hsl : S.segs.length = l.length := by rw [hSe]; exact segsAt_length _ _
  have hsn : S.segs = [] → l = [] := fun e => List.length_eq_zero_iff.1 (by rw [← hsl, e]; rfl)
  have hn64 := h.ok.num
  have hxx : ∀ x ∈ S.exts, x < 64 := fun x hx => by
    obtain ⟨y, hy, rfl⟩ := List.mem_map.1 hx
    obtain ⟨i, hi⟩ := List.mem_iff_getElem?.1 hy
    have hil : i < l.length := by rw [← hsl]; exact (List.getElem?_eq_some_iff.1 hi).1
    obtain ⟨⟨z, rs⟩, hz⟩ : ∃ z, l[i]? = some z := ⟨_, List.getElem?_eq_getElem hil⟩
    have h1 := segsAt_get (i := l.length) hz
    have h2 : S.segs[i]? = (segsAt l l.length)[i]? := by rw [hSe]; rfl
    rw [hi, h1] at h2
    injection h2 with h2
    have := (hok.ext i z rs hz).1
    rw [h2]; show z < 64; omega
  have hrl : S.recs.length ≤ 1000000 := by
    have : S.recs = l.flatMap (·.2) := by rw [hSe]; show (l.take l.length).flatMap _ = _; rw [List.take_length]
    rw [this]; have := hok.recs; omega
  have hrd := fun o s w1 (hR : Opg w.heap.size w o s b (stL D.falls (0, ⟨0, []⟩)) [] w1) => readLists_any h hu hn (by omega) rfl hR L hL
  have hrs := fun o s w1 (hR : Opg w.heap.size w o s b (stL D.falls (cAt L 2)) (tAt L 2) w1) => readSegments_any h hu hn rfl l E hl hok hT2 hR
  rw [← hTe, ← hSe] at hrs
  have hmh := fun W (hb : Below w.heap.size w W) => mayHave_any (h.below hb) hu (by omega) hrm
  have H := Lib.hid (And.intro h (And.intro hbd (And.intro hlab (And.intro hTl (And.intro hsl (And.intro hxx (And.intro hrl (And.intro (fun e => hm (hsn e)) (And.intro hfl (And.intro hmh (And.intro hrd hrs)))))))))))
  have HS := Lib.hid (And.intro (show S.at_ ≤ 1 by rw [hSe]; exact hat) (And.intro (show S.epoch ≤ 1099511627776 by rw [hSe]; exact hep) (And.intro hok.len hN)))
  clear h hu hn h3 hrm hbd hN hL hl hok hat hep hm hfl hlab hT2 hTl hTe hSe hsl hsn hn64 hxx hrl hrd hrs hmh
  go_enter Tryz.func28, Tryz.ntmps28
  go_wp2_with fail
  refine wp_scope_jumps 0 (OpJ ρ b (openS D S T) w) (fun _ _ => 0) rfl ?_ ?_
  · go_wp2_with fail
    refine H.out.2.2.2.2.2.2.2.2.1.mono ?_
    rintro e w0 ⟨rfl, rfl⟩
    go_upto_region 2 with fail
    generalize hw1 : World.alloc (World.alloc w _) _ = w1
    have hb0 : Below w.heap.size w w1 := by rw [← hw1]; exact ((Below.refl _ _).alloc (Nat.le_refl _) _).alloc (by simp) _
    have hO : Op w1 (w.heap.size + 1) w.heap.size (.slice none 0 0) := by
      rw [← hw1]
      have := heap_alloc_new (w.alloc (.cells #[.pointer (some ⟨b, 0, none⟩), .int .i64 D.falls, .int .i64 0, .int .i64 0, .slice none 0 0, .slice none 0 0, .int .i64 0] 69)) (.cells #[.pointer (some ⟨w.heap.size, 0, none⟩), .slice none 0 0] 94)
      rw [show (w.alloc (.cells #[.pointer (some ⟨b, 0, none⟩), .int .i64 D.falls, .int .i64 0, .int .i64 0, .slice none 0 0, .slice none 0 0, .int .i64 0] 69)).heap.size = w.heap.size + 1 by simp] at this
      exact this
    have hS : Hd w1 w.heap.size b (stL D.falls (0, ⟨0, []⟩)) (.slice none 0 0) (.slice none 0 0) := by
      rw [← hw1]
      exact (heap_alloc_old _ _ (by simp)).trans (heap_alloc_new w _)
    obtain ⟨s, hse⟩ : ∃ s, s = w.heap.size := ⟨_, rfl⟩
    obtain ⟨o, hoe⟩ : ∃ o, o = w.heap.size + 1 := ⟨_, rfl⟩
    rw [← hoe] at hO ⊢
    rw [← hse] at hO hS ⊢
    have hg0 : Opg w.heap.size w o s b (stL D.falls (0, ⟨0, []⟩)) [] w1 := ⟨⟨none, 0, none, 0, none, 0, hO, World.ownsRow_nil _ _ _ _, hS, World.ownsRow_nil _ _ _ _, fun g hg => by simp [Value.ownBlock] at hg, World.ownsRow_nil _ _ _ _⟩, hb0, by omega, by omega⟩
    have H1 := Lib.hid (And.intro hg0 (And.intro hb0 (And.intro hse hoe)))
    clear hg0 hb0 hO hS hse hoe hw1
    go_wp2_with fail
    refine (H.out.2.2.2.2.2.2.2.2.2.1 _ H1.out.2.1).mono ?_
    rintro e w2 ⟨rfl, rfl⟩
    go_wp2_with fail
    refine (H.out.2.2.2.2.2.2.2.2.2.2.1 _ _ _ H1.out.1).mono ?_
    rintro e w2 ⟨rfl, hR2⟩
    have H2 := Lib.hid hR2
    clear hR2
    go_wp2_with fail
    refine (H.out.2.2.2.2.2.2.2.2.2.2.2 _ _ _ H2.out).mono ?_
    rintro e w3 ⟨rfl, hR3⟩
    obtain ⟨ta, tc, a, cap, ar, cr, p1, p2, p3, p4, p5, p6⟩ := id hR3.ex
    have hmb := mayBegin_any (H.out.1.below hR3.low) p1 p3 (by rw [H.out.2.2.2.2.1]; have := HS.out.2.2.1; omega) H.out.2.2.2.2.2.2.2.1
    have H3 := Lib.hid (And.intro hR3 hmb)
    clear hR3 hmb p1 p2 p3 p4 p5 p6 ta tc a cap ar cr
    go_wp2_with fail
    refine H3.out.2.mono ?_
    rintro e w4 ⟨rfl, hb4⟩
    have hR4 := H3.out.1.below hb4 H3.out.1.low.size
    obtain ⟨ta, tc, a, cap, ar, cr, p1, p2, p3, p4, p5, p6⟩ := id hR4.ex
    have hl0 : ∀ g, w.heap.size ≤ g → ρ g = 0 := H.out.2.2.1
    have htm := strim_any (H.out.1.below hR4.low) H.out.2.1 (by have := H.out.2.2.2.1; have := HS.out.2.2; omega) p1 p2 p3 (hl0 o hR4.oB) (hl0 s hR4.sB) (fun g hg => hl0 g (World.ownsRow.lt p2 g hg).1)
    obtain ⟨q, hq⟩ : ∃ q, q = (trimsS D T).2 := ⟨_, rfl⟩
    rw [← hq] at htm
    have H4 := Lib.hid (And.intro htm (And.intro hR4 (And.intro p1 (And.intro p2 (And.intro p3 (And.intro p4 (And.intro p5 (And.intro p6 (And.intro hl0 hq)))))))))
    clear htm hR4 p1 p2 p3 p4 p5 p6 hl0 hq hb4
    go_wp2_with fail
    refine H4.out.1.mono ?_
    rintro e w5 ⟨rfl, ρ5, hD5, ht5⟩
    have ht5' : TouchX (fun _ => False) ρ ρ5 w w5 := (TouchX.below H4.out.2.1.low).trans ht5
    by_cases hq0 : q = 0
    · subst hq0
      have r1 : ρ5 o = 0 := (ht5.old o H4.out.2.2.1.lt).trans (H4.out.2.2.2.2.2.2.2.2.1 o H4.out.2.1.oB)
      have r2 : ρ5 s = 0 := (ht5.old s H4.out.2.2.2.2.1.lt).trans (H4.out.2.2.2.2.2.2.2.2.1 s H4.out.2.1.sB)
      have z0 := H4.out.2.2.2.2.2.2.2.2.1
      have op5 : Op w5 o s (.slice ta T.length tc) := (ht5.same o H4.out.2.2.1.lt (z0 o H4.out.2.1.oB) (fun k => k)).trans H4.out.2.2.1
      have hd5 := ht5.hd H4.out.2.2.2.2.1 (z0 s H4.out.2.1.sB) (fun k => k)
      have hg5 : OwnG w5 a cap S.segs := own_keep H4.out.2.2.2.2.2.1 fun g hg => ht5.same g (World.ownsRow.lt H4.out.2.2.2.2.2.1 g hg).2 (z0 g (H4.out.2.2.2.2.2.2.1 g hg)) (fun k => k)
      have hr5 : OwnT w.heap.size w5 ar cr S.recs := own_keep H4.out.2.2.2.2.2.2.2.1 fun g hg => ht5.same g (World.ownsRow.lt H4.out.2.2.2.2.2.2.2.1 g hg).2 (z0 g (World.ownsRow.lt H4.out.2.2.2.2.2.2.2.1 g hg).1) (fun k => k)
      have hs0 : ∀ g, (Value.slice a S.segs.length cap).ownBlock = some g → ρ5 g = 0 := fun g hg => (ht5.old g (World.ownsRow.lt H4.out.2.2.2.2.2.1 g hg).2).trans (z0 g (H4.out.2.2.2.2.2.2.1 g hg))
      have hr0 : ∀ g, (Value.slice ar S.recs.length cr).ownBlock = some g → ρ5 g = 0 := fun g hg => (ht5.old g (World.ownsRow.lt H4.out.2.2.2.2.2.2.2.1 g hg).2).trans (z0 g (World.ownsRow.lt H4.out.2.2.2.2.2.2.2.1 g hg).1)
      have hbg := begin_any hD5 (bud_trims H.out.2.1 T) (by have := H.out.2.2.2.1; have := HS.out.2.2; omega) op5 hd5 r2 hg5 H.out.2.2.2.2.2.1 hs0 HS.out.1 HS.out.2.1 (by rw [H.out.2.2.2.2.1]; exact HS.out.2.2.1) H.out.2.2.2.2.2.2.1
      have hR : openS D S T = beginS (trimsS D T).1 S := andS_ok H4.out.2.2.2.2.2.2.2.2.2.symm
      have hrr := beginS_recs (trimsS D T).1 S
      have hsB := H4.out.2.1.sB
      have hgB := H4.out.2.2.2.2.2.2.1
      generalize beginS (trimsS D T).1 S = r at *
      obtain ⟨q2, hq2⟩ : ∃ q2, q2 = r.2.2 := ⟨_, rfl⟩
      unfold BegunS at hbg
      rw [← hq2] at hbg
      have H5 := Lib.hid (And.intro hbg (And.intro ht5' (And.intro op5 (And.intro hd5 (And.intro hg5 (And.intro hr5 (And.intro hr0 (And.intro r1 (And.intro r2 (And.intro hrr (And.intro hq2 (And.intro hsB (And.intro hgB hR)))))))))))))
      clear hbg ht5' op5 hd5 hg5 hr5 hr0 r1 r2 hrr hq2 hs0 hR z0 hD5 ht5 H4 H3 H2 hsB hgB
      go_wp2_with fail
      refine H5.out.1.mono ?_
      rintro e w6 ⟨rfl, ρ6, a6, cap6, h1, h2, h3, h4, h5⟩
      obtain ⟨hop6, ht6, U6, hsat, hU6⟩ := opened_sat (r := r) H5.out.2.1 H5.out.2.2.2.2.2.2.2.2.2.2.2.1 H5.out.2.2.2.2.2.2.2.2.1 H5.out.2.2.2.2.2.2.2.2.2.2.2.2.1 H5.out.2.2.2.1 H5.out.2.2.2.2.1 H5.out.2.2.2.2.2.1 H5.out.2.2.2.2.2.2.1 H5.out.2.2.2.2.2.2.2.2.2.1 H5.out.2.2.1 H5.out.2.2.2.2.2.2.2.1 h1 h2 h3 h4 h5
      obtain ⟨o0, -, -⟩ := op_cells hop6
      have H6 := Lib.hid (And.intro hsat (And.intro hU6 (And.intro ht6 h1)))
      clear hop6 hsat hU6 ht6 h1 h2 h3 h4 h5
      by_cases hq20 : q2 = 0
      · subst hq20
        go_wp2_with fail
        simp only [Exit.jump]
        go_ret2
        rw [H5.out.2.2.2.2.2.2.2.2.2.2.2.2.2]
        exact .inl ⟨H5.out.2.2.2.2.2.2.2.2.2.2.1.symm, s, ρ6, U6, rfl, H6.out.1, H6.out.2.1, H6.out.2.2.1⟩
      · have hq2' : (q2 == 0) = false := by simpa using hq20
        have HQ := Lib.hid hq20
        clear hq20
        go_wp2_with fail
        go_step3
        rw [H5.out.2.2.2.2.2.2.2.2.2.2.2.2.2]
        exact ⟨rfl, q2, _, _, _, _, _, _, _, _, _, _, _, _, _, _, _, _, _, _, _, _, _, _, _, _, _, _, _, _, _, _, _, _, _, rfl, HQ.out, H5.out.2.2.2.2.2.2.2.2.2.2.1.symm, ρ6, H6.out.2.2.2, H6.out.2.2.1⟩
    · have hq' : (q == 0) = false := by simpa using hq0
      have HQ := Lib.hid (And.intro hq0 (And.intro hD5 ht5'))
      have hR : openS D S T = ((trimsS D T).1, S, (trimsS D T).2) := andS_no (by rw [← H4.out.2.2.2.2.2.2.2.2.2]; exact hq0)
      have HR := Lib.hid (And.intro hR H4.out.2.2.2.2.2.2.2.2.2)
      clear hq0 hD5 ht5' ht5 hR
      go_wp2_with fail
      go_step3
      exact ⟨rfl, q, _, _, _, _, _, _, _, _, _, _, _, _, _, _, _, _, _, _, _, _, _, _, _, _, _, _, _, _, _, _, _, _, _, rfl, HQ.out.1, by rw [HR.out.1, HR.out.2], ρ5, by rw [HR.out.1]; exact HQ.out.2.1, HQ.out.2.2⟩
  · rintro a' w' ⟨q, u0, u1, u2, u3, u4, u6, u7, u8, u9, u10, u11, u12, u13, u14, u15, u16, u17, u18, u19, u20, u21, u22, u23, u24, u25, u26, u27, u28, u29, u30, u31, u32, u33, rfl, hq, hr, ρ', hD, ht⟩
    have HX := Lib.hid (And.intro hq (And.intro hr (And.intro hD ht)))
    clear hq hr hD ht
    go_wp2_with fail
    simp only [Exit.jump]
    go_ret2
    exact .inr ⟨by rw [HX.out.2.1]; exact HX.out.1, by rw [HX.out.2.1]; rfl, ρ', HX.out.2.2.1, HX.out.2.2.2⟩
end Go.Proofs.YtdmbombjkinboaaGreat
