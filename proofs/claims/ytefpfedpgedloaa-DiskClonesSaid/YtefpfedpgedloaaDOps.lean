/- disk: Append, Trim, Empty, Sync, Fail, Lay, New; a nil disk. -/
import Derived.Test.YtefpfedpgedloaaDPut
namespace Go.Proofs.Ytefpfedpgedloaa
open Go.RowKit
open Dk

/-- A change, of any numbers. -/
theorem put_any {w : World} {ρ : Nat → Nat} {b : Nat} {D : Disk} (h : DiskAt w ρ b D) (hs : Small D) (kind : Nat) (hk : kind ≤ 2) (x long : Int) (hlg : kind ≠ 1 → long = 0) (text : ByteArray) (htx : kind ≠ 0 → text.size ≤ 65536) :
    Calls Try.prog 37 #[.pointer (some ⟨b, 0, none⟩), rawChg kind x long text] w fun e w' => e = .returned (.int .i64 (D.act kind x long text).2) ∧ ∃ ρ', DiskAt w' ρ' b (D.act kind x long text).1 ∧ Touch RA ρ ρ' w w' := by
  unfold Disk.act
  by_cases hr : D.refused kind x long text = 0
  · rw [if_pos hr]
    obtain ⟨-, h0, h1, h2, h3⟩ := Disk.refused_zero hr
    have hl0 : 0 ≤ long := by
      by_cases e : kind = 1
      · exact (h2 e).1
      · rw [hlg e]; exact Int.le_refl _
    have ht : text.size ≤ 65536 := by
      by_cases e : kind = 0
      · have := h3 e; have := h.ok.room1; omega
      · exact htx e
    obtain ⟨m, rfl⟩ : ∃ m : Nat, x = m := ⟨x.toNat, by omega⟩
    obtain ⟨n, rfl⟩ : ∃ n : Nat, long = n := ⟨long.toNat, by omega⟩
    rw [Int.toNat_natCast, Int.toNat_natCast]
    cases hst : (strikeD { D with waits := D.waits ++ [⟨kind, m, n, text⟩] }).2 with
    | true => exact put_struck h hs kind hk m n text ht hr hst
    | false => exact put_plain h hs kind hk m n text ht hr hst
  · rw [if_neg hr]
    exact (put_refused h kind hk x long text hr).mono fun e w' ⟨he, hb⟩ => ⟨he, ρ, h.below hb, Touch.of_below ρ hb⟩
/-- What a call that changes a disk says. -/
def Does (ρ : Nat → Nat) (b : Nat) (r : Disk × Int) (w : World) (e : Ending) (w' : World) : Prop := e = .returned (.int .i64 r.2) ∧ ∃ ρ', DiskAt w' ρ' b r.1 ∧ Touch RA ρ ρ' w w'
set_option maxRecDepth 100000 in
theorem append_any {w : World} {ρ : Nat → Nat} {b : Nat} {D : Disk} (h : DiskAt w ρ b D) (hs : Small D) (x : Int) (s : ByteArray) :
    Calls Try.prog 23 #[.pointer (some ⟨b, 0, none⟩), .int .i64 x, .string s] w (Does ρ b (D.act 0 x 0 s) w) := by
  have hp := put_any h hs 0 (by omega) x 0 (fun _ => rfl) s (fun e => absurd rfl e)
  unfold rawChg at hp
  have H := Lib.hid hp
  clear h hs hp
  go_enter Try.func23, Try.ntmps23
  go_wp2_with fail
  refine H.out.mono ?_
  rintro e w' ⟨rfl, hr⟩
  have HR := Lib.hid hr
  clear hr
  go_wp2_with fail
  go_ret
  exact ⟨rfl, HR.out⟩
set_option maxRecDepth 100000 in
theorem trim_any {w : World} {ρ : Nat → Nat} {b : Nat} {D : Disk} (h : DiskAt w ρ b D) (hs : Small D) (x long : Int) :
    Calls Try.prog 30 #[.pointer (some ⟨b, 0, none⟩), .int .i64 x, .int .i64 long] w (Does ρ b (D.act 1 x long ⟨#[]⟩) w) := by
  have hp := put_any h hs 1 (by omega) x long (fun e => absurd rfl e) ⟨#[]⟩ (fun _ => Nat.zero_le _)
  unfold rawChg at hp
  have H := Lib.hid hp
  clear h hs hp
  go_enter Try.func30, Try.ntmps30
  go_wp2_with fail
  refine H.out.mono ?_
  rintro e w' ⟨rfl, hr⟩
  have HR := Lib.hid hr
  clear hr
  go_wp2_with fail
  go_ret
  exact ⟨rfl, HR.out⟩
set_option maxRecDepth 100000 in
theorem empty_any {w : World} {ρ : Nat → Nat} {b : Nat} {D : Disk} (h : DiskAt w ρ b D) (hs : Small D) (x : Int) :
    Calls Try.prog 31 #[.pointer (some ⟨b, 0, none⟩), .int .i64 x] w (Does ρ b (D.act 2 x 0 ⟨#[]⟩) w) := by
  have hp := put_any h hs 2 (by omega) x 0 (fun _ => rfl) ⟨#[]⟩ (fun _ => Nat.zero_le _)
  unfold rawChg at hp
  have H := Lib.hid hp
  clear h hs hp
  go_enter Try.func31, Try.ntmps31
  go_wp2_with fail
  refine H.out.mono ?_
  rintro e w' ⟨rfl, hr⟩
  have HR := Lib.hid hr
  clear hr
  go_wp2_with fail
  go_ret
  exact ⟨rfl, HR.out⟩
set_option maxRecDepth 100000 in
theorem sync_any {w : World} {ρ : Nat → Nat} {b : Nat} {D : Disk} (h : DiskAt w ρ b D) (hs : Small D) :
    Calls Try.prog 27 #[.pointer (some ⟨b, 0, none⟩)] w (Does ρ b D.sync w) := by
  have hdn := down_any h
  unfold Disk.sync
  cases hd : D.down with
  | true =>
    rw [if_pos rfl]
    rw [hd] at hdn
    have H := Lib.hid (And.intro h hdn)
    clear h hs hdn hd
    go_enter Try.func27, Try.ntmps27
    go_wp2_with fail
    refine H.out.2.mono ?_
    rintro e w' ⟨rfl, rfl⟩
    go_wp2_with fail
    go_ret
    exact ⟨rfl, ρ, H.out.1, Touch.refl _ _ _⟩
  | false =>
    rw [if_neg (by decide)]
    rw [hd] at hdn
    obtain ⟨ts, tn, wv, h1, hS, hN, a, cap, rfl, ho, hrole⟩ := h.body
    have q3 := (head_cells h1).2.2.2.1
    have hst := settle_any h.raw D.waits.length (Nat.le_refl _) (by rw [List.take_length]; exact h.ok.fits) (by have := hs.waits; omega) h.ok.num
    rw [List.take_length] at hst
    have H := Lib.hid (And.intro h (And.intro hdn hst))
    clear h hs hdn h1 hS hN ho hrole hst
    generalize D.waits.length = n at *
    go_enter Try.func27, Try.ntmps27
    go_wp2_with fail
    refine H.out.2.1.mono ?_
    rintro e w' ⟨rfl, rfl⟩
    go_wp2_with fail
    refine H.out.2.2.mono ?_
    rintro e w2 ⟨rfl, ρ2, hR2, hT2⟩
    have H2 := Lib.hid (And.intro hR2 (And.intro hT2 hd))
    clear hR2 hT2 q3 hd
    go_wp2_with fail
    go_ret
    have hok := H.out.1.ok.sync
    unfold Disk.sync at hok
    rw [if_neg (by rw [H2.out.2.2]; decide)] at hok
    refine ⟨rfl, ρ2, ⟨?_, ?_⟩, H2.out.2.1.mono (fun r e => rs_ra e)⟩
    · have := H2.out.1
      rw [H2.out.2.2] at this
      exact this
    · rw [H2.out.2.2] at hok
      exact hok
theorem failD_any {w : World} {ρ : Nat → Nat} {b : Nat} {D : Disk} (h : DiskAt w ρ b D) (hs : Small D) (keep torn : Int) :
    Calls Try.prog 24 #[.pointer (some ⟨b, 0, none⟩), .int .i64 keep, .int .i64 torn] w fun e w' => e = .returned (.tuple #[]) ∧ ∃ ρ', DiskAt w' ρ' b (D.fail keep torn) ∧ Touch RA ρ ρ' w w' := by
  rcases Bool.eq_false_or_eq_true D.down with hd | hd
  · have hdn := down_any h
    rw [hd] at hdn
    rw [show D.fail keep torn = D by unfold Disk.fail; rw [if_pos hd]]
    have H := Lib.hid (And.intro h hdn)
    clear h hs hdn hd
    go_enter Try.func24, Try.ntmps24
    go_wp2_with fail
    refine H.out.2.mono ?_
    rintro e w' ⟨rfl, rfl⟩
    go_wp2_with fail
    refine bodyPost_ret (v := .tuple #[]) (results_none rfl _ _ _) rfl ?_
    exact ⟨rfl, ρ, H.out.1, Touch.refl _ _ _⟩
  · exact fail_raw h.raw h.ok hd (by have := hs.waits; omega) hs.falls0 hs.falls1 keep torn
theorem lay_end {w : World} {ρ : Nat → Nat} {b : Nat} {D : Disk} {a k t : Int} (h : DiskAt w ρ b D) :
    DiskAt ((((w.setCell ⟨b, 7, none⟩ (.bool true)).setCell ⟨b, 8, none⟩ (.int .i64 a)).setCell ⟨b, 9, none⟩ (.int .i64 k)).setCell ⟨b, 10, none⟩ (.int .i64 t)).drew ρ b (D.lay a k t) ∧
    Touch RA ρ ρ w ((((w.setCell ⟨b, 7, none⟩ (.bool true)).setCell ⟨b, 8, none⟩ (.int .i64 a)).setCell ⟨b, 9, none⟩ (.int .i64 k)).setCell ⟨b, 10, none⟩ (.int .i64 t)).drew := by
  obtain ⟨ts, tn, wv, h1, hS, hN, hW⟩ := h.body
  obtain ⟨r1, s1⟩ := raw_put (w2 := w.setCell ⟨b, 7, none⟩ (.bool true)) (D' := { D with laid := true }) (N' := D.now) h.raw.role h.raw.lab h.raw.num h1 rfl rfl hS hN hW
  obtain ⟨ts, tn, wv, h1, hS, hN, hW⟩ := r1.body
  obtain ⟨r2, s2⟩ := raw_put (w2 := (w.setCell ⟨b, 7, none⟩ (.bool true)).setCell ⟨b, 8, none⟩ (.int .i64 a)) (D' := { D with laid := true, after := a }) (N' := D.now) r1.role r1.lab r1.num h1 rfl rfl hS hN hW
  obtain ⟨ts, tn, wv, h1, hS, hN, hW⟩ := r2.body
  obtain ⟨r3, s3⟩ := raw_put (w2 := ((w.setCell ⟨b, 7, none⟩ (.bool true)).setCell ⟨b, 8, none⟩ (.int .i64 a)).setCell ⟨b, 9, none⟩ (.int .i64 k)) (D' := { D with laid := true, after := a, keep := k }) (N' := D.now) r2.role r2.lab r2.num h1 rfl rfl hS hN hW
  obtain ⟨ts, tn, wv, h1, hS, hN, hW⟩ := r3.body
  obtain ⟨r4, s4⟩ := raw_put (w2 := (((w.setCell ⟨b, 7, none⟩ (.bool true)).setCell ⟨b, 8, none⟩ (.int .i64 a)).setCell ⟨b, 9, none⟩ (.int .i64 k)).setCell ⟨b, 10, none⟩ (.int .i64 t)) (D' := D.lay a k t) (N' := D.now) r3.role r3.lab r3.num h1 rfl rfl hS hN hW
  exact ⟨⟨raw_drew r4, h.ok.lay a k t⟩, touch_drew ((s1.trans (s2.trans (s3.trans s4))).mono (fun r e => by unfold RA; omega))⟩
theorem refuses_nil (w : World) (c0 x long : Int) (text : ByteArray) : Calls Try.prog 41 #[.pointer none, .agg #[.int .i64 c0, .int .i64 x, .int .i64 long, .string text]] w fun e w' => e = .returned (.int .i64 9) ∧ Below w.heap.size w w' := by
  have hB : Below w.heap.size w (w.alloc (.cells #[.int .i64 c0, .int .i64 x, .int .i64 long, .string text] 74)) := (Below.refl _ _).alloc (Nat.le_refl _) _
  have HB := Lib.hid hB
  clear hB
  go_enter Try.func41, Try.ntmps41
  go_wp2_with fail
  refine (extent_nil _ _).mono ?_
  rintro e w' ⟨rfl, rfl⟩
  go_wp2_with fail
  go_ret
  exact ⟨rfl, HB.out⟩
theorem put_nil (w : World) (c0 x long : Int) (text : ByteArray) : Calls Try.prog 37 #[.pointer none, .agg #[.int .i64 c0, .int .i64 x, .int .i64 long, .string text]] w fun e w' => e = .returned (.int .i64 9) ∧ Below w.heap.size w w' := by
  have hB : Below w.heap.size w (w.alloc (.cells #[.int .i64 c0, .int .i64 x, .int .i64 long, .string text] 74)) := (Below.refl _ _).alloc (Nat.le_refl _) _
  have HB := Lib.hid hB
  clear hB
  go_enter Try.func37, Try.ntmps37
  go_wp2_with fail
  refine (refuses_nil _ _ _ _ _).mono ?_
  rintro e w' ⟨rfl, hb⟩
  have H2 := Lib.hid (HB.out.trans (hb.mono HB.out.size))
  clear hb
  go_wp2_with fail
  go_ret
  exact ⟨rfl, H2.out⟩
set_option maxRecDepth 100000 in
theorem lay_any {w : World} {ρ : Nat → Nat} {b : Nat} {D : Disk} (h : DiskAt w ρ b D) (a k t : Int) :
    Calls Try.prog 26 #[.pointer (some ⟨b, 0, none⟩), .agg #[.int .i64 a, .int .i64 k, .int .i64 t]] w fun e w' => e = .returned (.tuple #[]) ∧ DiskAt w' ρ b (D.lay a k t) ∧ Touch RA ρ ρ w w' := by
  obtain ⟨w1, hw1⟩ : ∃ w1, w1 = w.alloc (.cells #[.int .i64 a, .int .i64 k, .int .i64 t] 37) := ⟨_, rfl⟩
  have hB : Below w.heap.size w w1 := by rw [hw1]; exact (Below.refl _ _).alloc (Nat.le_refl _) _
  have hbox : w1.heap[w.heap.size]? = some (.cells #[.int .i64 a, .int .i64 k, .int .i64 t] 37 (0, 0)) := by rw [hw1]; exact heap_alloc_new _ _
  have hD := h.below hB
  obtain ⟨ts, tn, wv, h1, hS, hN, hW⟩ := hD.body
  obtain ⟨-, -, -, -, -, -, -, q7, q8, q9, q10⟩ := head_cells h1
  have g7 := head_free h1 7
  have g8 := head_free h1 8
  have g9 := head_free h1 9
  have g10 := head_free h1 10
  have b0 : w1.cell? ⟨w.heap.size, 0, none⟩ = some (.int .i64 a) := by rw [cell_of_row _ _ _ _ _ _ hbox]; rfl
  have b1 : w1.cell? ⟨w.heap.size, 1, none⟩ = some (.int .i64 k) := by rw [cell_of_row _ _ _ _ _ _ hbox]; rfl
  have b2 : w1.cell? ⟨w.heap.size, 2, none⟩ = some (.int .i64 t) := by rw [cell_of_row _ _ _ _ _ _ hbox]; rfl
  have hne : b ≠ w.heap.size := by have := h.raw.lt; omega
  have H := Lib.hid (And.intro hD (And.intro hB (And.intro h1 (And.intro hS (And.intro hN hW)))))
  clear h hB hbox hD h1 hS hN hW
  go_enter Try.func26, Try.ntmps26
  go_wp2_with fail
  rw [← hw1]
  clear hw1
  go_region
  go_wp2_with fail
  go_end0
  refine ⟨rfl, ?_⟩
  have ht := (Touch.of_below (R := RA) ρ H.out.2.1).trans (lay_end H.out.1 (a := a) (k := k) (t := t)).2
  exact ⟨(lay_end H.out.1).1, ht⟩
theorem append_nil (w : World) (x : Int) (s : ByteArray) : Calls Try.prog 23 #[.pointer none, .int .i64 x, .string s] w fun e w' => e = .returned (.int .i64 9) ∧ Below w.heap.size w w' := by
  go_enter Try.func23, Try.ntmps23
  go_wp2_with fail
  refine (put_nil _ _ _ _ _).mono ?_
  rintro e w' ⟨rfl, hb⟩
  have HB := Lib.hid hb
  clear hb
  go_wp2_with fail
  go_ret
  exact ⟨rfl, HB.out⟩
theorem trim_nil (w : World) (x long : Int) : Calls Try.prog 30 #[.pointer none, .int .i64 x, .int .i64 long] w fun e w' => e = .returned (.int .i64 9) ∧ Below w.heap.size w w' := by
  go_enter Try.func30, Try.ntmps30
  go_wp2_with fail
  refine (put_nil _ _ _ _ _).mono ?_
  rintro e w' ⟨rfl, hb⟩
  have HB := Lib.hid hb
  clear hb
  go_wp2_with fail
  go_ret
  exact ⟨rfl, HB.out⟩
theorem empty_nil (w : World) (x : Int) : Calls Try.prog 31 #[.pointer none, .int .i64 x] w fun e w' => e = .returned (.int .i64 9) ∧ Below w.heap.size w w' := by
  go_enter Try.func31, Try.ntmps31
  go_wp2_with fail
  refine (put_nil _ _ _ _ _).mono ?_
  rintro e w' ⟨rfl, hb⟩
  have HB := Lib.hid hb
  clear hb
  go_wp2_with fail
  go_ret
  exact ⟨rfl, HB.out⟩
theorem sync_nil (w : World) : Calls Try.prog 27 #[.pointer none] w fun e w' => e = .returned (.int .i64 9) ∧ w = w' := by
  go_enter Try.func27, Try.ntmps27
  go_wp2_with fail
  refine (down_nil _).mono ?_
  rintro e w' ⟨rfl, rfl⟩
  go_wp2_with fail
  go_ret
  exact ⟨rfl, rfl⟩
theorem fail_nil (w : World) (keep torn : Int) : Calls Try.prog 24 #[.pointer none, .int .i64 keep, .int .i64 torn] w fun e w' => e = .returned (.tuple #[]) ∧ w = w' := by
  go_enter Try.func24, Try.ntmps24
  go_wp2_with fail
  refine (down_nil _).mono ?_
  rintro e w' ⟨rfl, rfl⟩
  go_wp2_with fail
  refine bodyPost_ret (v := .tuple #[]) (results_none rfl _ _ _) rfl ?_
  exact ⟨rfl, rfl⟩
theorem lay_nil (w : World) (a k t : Int) : Calls Try.prog 26 #[.pointer none, .agg #[.int .i64 a, .int .i64 k, .int .i64 t]] w fun e w' => e = .returned (.tuple #[]) ∧ Below w.heap.size w w' := by
  go_enter Try.func26, Try.ntmps26
  go_wp2_with fail
  go_end0
  exact ⟨rfl, (Below.refl _ _).alloc (Nat.le_refl _) _⟩
theorem clone_nil (w : World) : Calls Try.prog 28 #[.pointer none] w fun e w' => e = .returned (.pointer none) ∧ w = w' := by
  go_enter Try.func28, Try.ntmps28
  go_wp2_with fail
  go_ret
  exact ⟨rfl, rfl⟩
theorem run_make_rows (n : Nat) (h : n ≤ 64) (w : World) : (Instr.makeSlice 59 (.int .i64 (n : Int)) (.int .i64 (n : Int))).run Try.prog w = .ok (.slice (some ⟨w.heap.size, 0, none⟩) n n) (w.alloc (.cells (Array.replicate n (.slice none 0 0)) 69)) := by
  obtain ⟨i0, hi0, hz0, hz1, hz2⟩ := info_parts Try.info_row
  have := run_make (P := Try.prog) w 59 69 i0 (.slice none 0 0) Try.underlying59 hi0 hz0 .i64 .i64 n n (by omega) (Int.le_refl _) (by rw [hz2]; omega) (by omega)
  rw [hz1, Nat.mul_one] at this
  have e : madeCells (Value.slice none 0 0).cells n = Array.replicate n (.slice none 0 0) := by
    apply Array.toList_inj.1
    rw [show (Value.slice none 0 0).cells = #[Value.slice none 0 0] from rfl, toList_madeCells_one, Array.toList_replicate]
  simp only [Int.toNat_natCast] at this
  rw [e] at this
  exact this
/-- A table of empty rows. -/
theorem tab_new {w : World} {ρ : Nat → Nat} {rt : Nat} {f : Nat → Nat} {t n : Nat} (hr : ρ t = rt) (h : w.heap[t]? = some (.cells (Array.replicate n (.slice none 0 0)) 69 (0, 0))) : Tab w ρ rt f t (List.replicate n ⟨#[]⟩) := by
  refine ⟨hr, _, h, by simp, fun i hi => ⟨.slice none 0 0, ?_, ?_⟩⟩
  · simp at hi; simp [hi]
  · simp at hi
    rw [show exAt (List.replicate n ⟨#[]⟩) i = ⟨#[]⟩ by simp [exAt, hi]]
    exact BRow.nil _ _ _
/-- A disk that is new. -/
theorem new_end (w : World) (n : Nat) (room : Int) (h0 : n ≤ 64) (h1 : 1 ≤ room) (h2 : room ≤ 65536) (g1 g2 : Nat) (hg : (g1 = w.heap.size ∧ g2 = w.heap.size + 1) ∨ (g1 = w.heap.size + 1 ∧ g2 = w.heap.size)) {w1 : World}
    (hw : w1 = (((w.alloc (.cells (Array.replicate n (.slice none 0 0)) 69)).alloc (.cells (Array.replicate n (.slice none 0 0)) 69)).alloc (.cells #[.int .i64 room, .slice (some ⟨g1, 0, none⟩) n n, .slice (some ⟨g2, 0, none⟩) n n, .slice none 0 0, .int .i64 0, .int .i64 0, .bool false, .bool false, .int .i64 0, .int .i64 0, .int .i64 0] 62))) :
    ∃ ρ, DiskAt w1.drew ρ (w.heap.size + 2) (Disk.new n room) ∧ From w.heap.size ρ ∧ Below w.heap.size w w1.drew := by
  have hB : Below w.heap.size w w1 := by rw [hw]; exact ((((Below.refl _ w).alloc (Nat.le_refl _) _).alloc (by simp) _).alloc (by simp; omega) _)
  have hz : w1.heap.size = w.heap.size + 3 := by rw [hw]; simp
  have e0 : w1.heap[w.heap.size]? = some (.cells (Array.replicate n (.slice none 0 0)) 69 (0, 0)) := by
    rw [hw, Lib.alloc_old _ _ _ (by simp; omega), Lib.alloc_old _ _ _ (by simp)]; exact heap_alloc_new w _
  have e1 : w1.heap[w.heap.size + 1]? = some (.cells (Array.replicate n (.slice none 0 0)) 69 (0, 0)) := by
    rw [hw, Lib.alloc_old _ _ _ (by simp)]
    have := heap_alloc_new (w.alloc (.cells (Array.replicate n (.slice none 0 0)) 69)) (.cells (Array.replicate n (.slice none 0 0)) 69)
    rw [show (w.alloc (.cells (Array.replicate n (.slice none 0 0)) 69)).heap.size = w.heap.size + 1 by simp] at this
    exact this
  have e2 := heap_alloc_new ((w.alloc (.cells (Array.replicate n (.slice none 0 0)) 69)).alloc (.cells (Array.replicate n (.slice none 0 0)) 69)) (.cells #[.int .i64 room, .slice (some ⟨g1, 0, none⟩) n n, .slice (some ⟨g2, 0, none⟩) n n, .slice none 0 0, .int .i64 0, .int .i64 0, .bool false, .bool false, .int .i64 0, .int .i64 0, .int .i64 0] 62)
  rw [← hw, show ((w.alloc (.cells (Array.replicate n (.slice none 0 0)) 69)).alloc (.cells (Array.replicate n (.slice none 0 0)) 69)).heap.size = w.heap.size + 2 by simp] at e2
  have e1g : w1.heap[g1]? = some (.cells (Array.replicate n (.slice none 0 0)) 69 (0, 0)) := by rcases hg with ⟨h, -⟩ | ⟨h, -⟩ <;> rw [h] <;> assumption
  have e2g : w1.heap[g2]? = some (.cells (Array.replicate n (.slice none 0 0)) 69 (0, 0)) := by rcases hg with ⟨-, h⟩ | ⟨-, h⟩ <;> rw [h] <;> assumption
  obtain ⟨ρ, hρ⟩ : ∃ ρ, ρ = lay (lay (lay (fun _ => 0) g1 2) g2 3) (w.heap.size + 2) 1 := ⟨_, rfl⟩
  have r1 : ρ g1 = 2 := by rw [hρ, lay_other (by omega), lay_other (by omega), lay_same]
  have r2 : ρ g2 = 3 := by rw [hρ, lay_other (by omega), lay_same]
  have r3 : ρ (w.heap.size + 2) = 1 := by rw [hρ, lay_same]
  have r0 : ∀ g, g ≠ g1 → g ≠ g2 → g ≠ w.heap.size + 2 → ρ g = 0 := fun g a b c => by rw [hρ, lay_other c, lay_other b, lay_other a]
  refine ⟨ρ, ⟨raw_drew ⟨r3, fun g hg' => r0 g (by omega) (by omega) (by omega), by simp [Disk.new, Disk.now, madeAll], g1, g2, .slice none 0 0, ?_, tab_new r1 e1g, tab_new r2 e2g, Waits.nil _ _ _⟩, Disk.Ok.new h0 h1 h2⟩, fun g hg' => r0 g (by omega) (by omega) (by omega), hB.drew⟩
  rw [e2]
  simp [headCells, Disk.new]
set_option maxRecDepth 100000 in
theorem new_bad (n room : Int) (h : n < 1 ∨ 64 < n ∨ room < 1 ∨ 65536 < room) (w : World) : Calls Try.prog 11 #[.int .i64 n, .int .i64 room] w fun e w' => e = .returned (.pointer none) ∧ w = w' := by
  by_cases h1 : n < 1
  · clear h
    go_enter Try.func11, Try.ntmps11
    go_wp2_with fail
    go_ret
    exact ⟨rfl, rfl⟩
  · by_cases h2 : 64 < n
    · clear h
      go_enter Try.func11, Try.ntmps11
      go_wp2_with fail
      go_ret
      exact ⟨rfl, rfl⟩
    · by_cases h3 : room < 1
      · clear h
        go_enter Try.func11, Try.ntmps11
        go_wp2_with fail
        go_ret
        exact ⟨rfl, rfl⟩
      · have h4 : 65536 < room := by omega
        clear h
        go_enter Try.func11, Try.ntmps11
        go_wp2_with fail
        go_ret
        exact ⟨rfl, rfl⟩
set_option maxRecDepth 100000 in
theorem new_any (n : Nat) (room : Int) (h0 : 1 ≤ n) (h1 : n ≤ 64) (h2 : 1 ≤ room) (h3 : room ≤ 65536) (w : World) : Calls Try.prog 11 #[.int .i64 (n : Int), .int .i64 room] w fun e w' => ∃ b ρ, e = .returned (.pointer (some ⟨b, 0, none⟩)) ∧ DiskAt w' ρ b (Disk.new n room) ∧ From w.heap.size ρ ∧ Below w.heap.size w w' := by
  have hmk := run_make_rows n h1
  have n0 : (1 : Int) ≤ n := by omega
  have n1 : (n : Int) ≤ 64 := by omega
  go_enter Try.func11, Try.ntmps11
  go_wp2_with fail
  go_region
  all_goals go_wp2_with fail
  all_goals go_ret
  all_goals refine ⟨w.heap.size + 2, ?_⟩
  · obtain ⟨ρ, a1, a2, a3⟩ := new_end w n room h1 h2 h3 w.heap.size (w.heap.size + 1) (.inl ⟨rfl, rfl⟩) rfl
    exact ⟨ρ, rfl, a1, a2, a3⟩
  · obtain ⟨ρ, a1, a2, a3⟩ := new_end w n room h1 h2 h3 (w.heap.size + 1) w.heap.size (.inr ⟨rfl, rfl⟩) rfl
    exact ⟨ρ, rfl, a1, a2, a3⟩
end Go.Proofs.Ytefpfedpgedloaa
