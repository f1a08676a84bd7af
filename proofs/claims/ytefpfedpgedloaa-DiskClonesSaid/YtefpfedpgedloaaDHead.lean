/- disk: refuses, strikes, Up, Lay. -/
import Derived.Test.YtefpfedpgedloaaDRead
namespace Go.Proofs.Ytefpfedpgedloaa
open Go.RowKit
open Dk

/-- A change's cells, of any numbers. -/
def rawChg (kind : Nat) (x long : Int) (text : ByteArray) : Value := .agg #[.int .i64 ((kind : Int) + 1), .int .i64 x, .int .i64 long, .string text]
set_option maxRecDepth 100000 in
set_option maxHeartbeats 400000 in
theorem refuses_any {w : World} {ρ : Nat → Nat} {b : Nat} {D : Disk} (h : DiskAt w ρ b D) (kind : Nat) (hk : kind ≤ 2) (x long : Int) (text : ByteArray) :
    Calls Try.prog 41 #[.pointer (some ⟨b, 0, none⟩), rawChg kind x long text] w fun e w' => e = .returned (.int .i64 (D.refused kind x long text)) ∧ Below w.heap.size w w' := by
  have hB : Below w.heap.size w (w.alloc (.cells #[.int .i64 ((kind : Int) + 1), .int .i64 x, .int .i64 long, .string text] 74)) := (Below.refl _ _).alloc (Nat.le_refl _) _
  have HB := Lib.hid hB
  have h' := h.below hB
  rcases eerr_cases D x with ⟨hd, he⟩ | ⟨hd, hx, he⟩ | ⟨hd, m, rfl, hm, he⟩
  · rw [show D.refused kind x long text = 9 by unfold Disk.refused; rw [if_pos hd]]
    have H := Lib.hid (extent_down h' hd x)
    clear h h' hB hd he
    unfold rawChg
    go_enter Try.func41, Try.ntmps41
    go_wp2_with fail
    refine H.out.mono ?_
    rintro e w' ⟨rfl, rfl⟩
    go_wp2_with fail
    go_ret
    exact ⟨rfl, HB.out⟩
  · rw [show D.refused kind x long text = 1 by unfold Disk.refused; rw [if_neg (by rw [hd]; decide), if_pos hx]]
    have H := Lib.hid (extent_far h' hd x hx)
    clear h h' hB hd he hx
    unfold rawChg
    go_enter Try.func41, Try.ntmps41
    go_wp2_with fail
    refine H.out.mono ?_
    rintro e w' ⟨rfl, rfl⟩
    go_wp2_with fail
    go_ret
    exact ⟨rfl, HB.out⟩
  · have hre : D.refused kind (m : Int) long text = if kind = 1 ∧ (long < 0 ∨ ((exAt D.now m).size : Int) < long) then 1 else if kind = 0 ∧ D.room - ((exAt D.now m).size : Int) < (text.size : Int) then 6 else 0 := by
      unfold Disk.refused
      rw [if_neg (by rw [hd]; decide), if_neg (by omega), Int.toNat_natCast]
    have H := Lib.hid (extent_at h' hd m hm)
    obtain ⟨ts, tn, wv, h1, -⟩ := h.body
    have q := (head_cells h1).1
    have hr1 := h.ok.room0
    have hr2 := h.ok.room1
    have hs : (exAt D.now m).size ≤ 65536 := h.ok.fits.all.at m
    generalize (exAt D.now m).size = sz at *
    have HR := Lib.hid hre
    have hbl : b < w.heap.size := h.raw.lt
    rw [hre]
    clear h h' hB hd he h1 hre
    by_cases h0 : kind = 0
    · subst h0
      rw [if_neg (by simp)]
      have hw : IntKind.i64.wrap (D.room - (sz : Int)) = D.room - (sz : Int) := IntWalk.i64_in _ (by omega)
      unfold rawChg at *
      by_cases hf : D.room - (sz : Int) < (text.size : Int)
      · rw [if_pos ⟨rfl, hf⟩]
        have H2 := Lib.hid hw
        clear hw
        go_enter Try.func41, Try.ntmps41
        go_wp2_with fail
        refine H.out.mono ?_
        rintro e w' ⟨⟨a, cap, rfl, -⟩, rfl⟩
        go_wp2_with fail
        have hw := H2.out
        go_quiet (fail)
        clear hw
        go_wp2_with fail
        go_ret
        exact ⟨rfl, HB.out.trans ⟨rfl, rfl, rfl, Nat.le_refl _, fun _ _ => rfl⟩⟩
      · rw [if_neg (fun e => hf e.2)]
        have hf2 : decide (D.room - (sz : Int) < (text.size : Int)) = false := by simpa using hf
        have H2 := Lib.hid hw
        clear hw
        go_enter Try.func41, Try.ntmps41
        go_wp2_with fail
        refine H.out.mono ?_
        rintro e w' ⟨⟨a, cap, rfl, -⟩, rfl⟩
        go_wp2_with fail
        have hw := H2.out
        go_quiet (fail)
        clear hw
        go_wp2_with fail
        go_ret
        exact ⟨rfl, HB.out.trans ⟨rfl, rfl, rfl, Nat.le_refl _, fun _ _ => rfl⟩⟩
    · have hk0 : ((kind : Int) + 1 == 1) = false := by rw [beq_eq_false_iff_ne]; omega
      rw [if_neg (fun e : kind = 0 ∧ _ => h0 e.1)]
      by_cases h1 : kind = 1
      · subst h1
        by_cases hl0 : long < 0
        · rw [if_pos ⟨rfl, .inl hl0⟩]
          unfold rawChg at *
          go_enter Try.func41, Try.ntmps41
          go_wp2_with fail
          refine H.out.mono ?_
          rintro e w' ⟨⟨a, cap, rfl, -⟩, rfl⟩
          go_wp2_with fail
          go_ret
          exact ⟨rfl, HB.out⟩
        · by_cases hl1 : (sz : Int) < long
          · rw [if_pos ⟨rfl, .inr hl1⟩]
            unfold rawChg at *
            go_enter Try.func41, Try.ntmps41
            go_wp2_with fail
            refine H.out.mono ?_
            rintro e w' ⟨⟨a, cap, rfl, -⟩, rfl⟩
            go_wp2_with fail
            go_ret
            exact ⟨rfl, HB.out⟩
          · rw [if_neg (fun e => by rcases e.2 with e | e <;> omega)]
            have hl0' : decide (long < 0) = false := by simpa using hl0
            have hl1' : decide ((sz : Int) < long) = false := by simpa using hl1
            unfold rawChg at *
            go_enter Try.func41, Try.ntmps41
            go_wp2_with fail
            refine H.out.mono ?_
            rintro e w' ⟨⟨a, cap, rfl, -⟩, rfl⟩
            go_wp2_with fail
            go_quiet (fail)
            go_wp2_with fail
            go_ret
            exact ⟨rfl, HB.out.trans ⟨rfl, rfl, rfl, Nat.le_refl _, fun _ _ => rfl⟩⟩
      · obtain rfl : kind = 2 := by omega
        rw [if_neg (by simp)]
        unfold rawChg at *
        go_enter Try.func41, Try.ntmps41
        go_wp2_with fail
        refine H.out.mono ?_
        rintro e w' ⟨⟨a, cap, rfl, -⟩, rfl⟩
        go_wp2_with fail
        go_quiet (fail)
        go_wp2_with fail
        go_ret
        exact ⟨rfl, HB.out.trans ⟨rfl, rfl, rfl, Nat.le_refl _, fun _ _ => rfl⟩⟩

/-- Whether the cut strikes, and the disk behind that. -/
def strikeD (D : Disk) : Disk × Bool := if D.laid = true then (if 0 < D.after then ({ D with after := D.after - 1 }, false) else ({ D with laid := false }, true)) else (D, false)
set_option maxRecDepth 100000 in
theorem strikes_any {w : World} {ρ : Nat → Nat} {b : Nat} {D : Disk} {N : List ByteArray} (h : Raw w ρ b D N) (ha : D.after ≤ 9223372036854775807) :
    Calls Try.prog 43 #[.pointer (some ⟨b, 0, none⟩)] w fun e w' => e = .returned (.bool (strikeD D).2) ∧ Raw w' ρ b (strikeD D).1 N ∧ Touch (· = 1) ρ ρ w w' := by
  obtain ⟨ts, tn, wv, h1, hS, hN, hW⟩ := h.body
  obtain ⟨-, -, -, -, -, -, -, q7, q8, -, -⟩ := head_cells h1
  have f7 := head_free h1 7
  have f8 := head_free h1 8
  unfold strikeD
  rcases Bool.eq_false_or_eq_true D.laid with hl | hl
  rotate_left
  · rw [if_neg (by rw [hl]; decide)]
    rw [hl] at q7
    have H := Lib.hid h
    clear h h1 hS hN hW hl
    go_enter Try.func43, Try.ntmps43
    go_wp2_with fail
    go_ret
    exact ⟨rfl, H.out, Touch.refl _ _ _⟩
  · rw [if_pos hl]
    rw [hl] at q7
    by_cases hp : 0 < D.after
    · rw [if_pos hp]
      have H := Lib.hid (And.intro h (And.intro h1 (And.intro hS (And.intro hN (And.intro hW hl)))))
      clear h h1 hS hN hW hl
      go_enter Try.func43, Try.ntmps43
      go_wp2_with fail
      go_ret
      refine ⟨rfl, ?_⟩
      exact raw_put H.out.1.role H.out.1.lab H.out.1.num H.out.2.1 rfl rfl H.out.2.2.1 H.out.2.2.2.1 H.out.2.2.2.2.1
    · rw [if_neg hp]
      have hp2 : decide (0 < D.after) = false := by simpa using hp
      have H := Lib.hid (And.intro h (And.intro h1 (And.intro hS (And.intro hN (And.intro hW hl)))))
      clear h h1 hS hN hW hl
      go_enter Try.func43, Try.ntmps43
      go_wp2_with fail
      go_ret
      refine ⟨rfl, ?_⟩
      exact raw_put H.out.1.role H.out.1.lab H.out.1.num H.out.2.1 rfl rfl H.out.2.2.1 H.out.2.2.2.1 H.out.2.2.2.2.1
theorem DiskAt.up_at {w : World} {ρ : Nat → Nat} {b : Nat} {D : Disk} (h : DiskAt w ρ b D) (hd : D.down = false) : DiskAt w ρ b D.up := by
  have e : D.up = D := by cases D; simp only at hd; subst hd; rfl
  rw [e]; exact h
set_option maxRecDepth 100000 in
theorem up_any {w : World} {ρ : Nat → Nat} {b : Nat} {D : Disk} (h : DiskAt w ρ b D) :
    Calls Try.prog 25 #[.pointer (some ⟨b, 0, none⟩)] w fun e w' => e = .returned (.bool D.down) ∧ DiskAt w' ρ b D.up ∧ Touch (· = 1) ρ ρ w w' := by
  obtain ⟨ts, tn, wv, h1, hS, hN, hW⟩ := h.body
  obtain ⟨-, -, -, -, -, -, q6, -⟩ := head_cells h1
  have f6 := head_free h1 6
  cases hd : D.down with
  | false =>
    rw [hd] at q6
    have H := Lib.hid (h.up_at hd)
    clear h h1 hS hN hW hd
    go_enter Try.func25, Try.ntmps25
    go_wp2_with fail
    go_ret
    exact ⟨rfl, H.out, Touch.refl _ _ _⟩
  | true =>
    rw [hd] at q6
    have H := Lib.hid (And.intro h (And.intro h1 (And.intro hS (And.intro hN hW))))
    clear h h1 hS hN hW hd
    go_enter Try.func25, Try.ntmps25
    go_wp2_with fail
    go_ret
    refine ⟨rfl, ?_⟩
    have := raw_put (w2 := w.setCell ⟨b, 6, none⟩ (.bool false)) (D' := D.up) (N' := D.up.now) H.out.1.raw.role H.out.1.raw.lab H.out.1.raw.num H.out.2.1 rfl rfl H.out.2.2.1 H.out.2.2.2.1 H.out.2.2.2.2
    exact ⟨⟨this.1, H.out.1.ok.up⟩, this.2⟩
theorem up_nil (w : World) : Calls Try.prog 25 #[.pointer none] w fun e w' => e = .returned (.bool false) ∧ w = w' := by
  go_enter Try.func25, Try.ntmps25
  go_wp2_with fail
  go_ret
  exact ⟨rfl, rfl⟩
end Go.Proofs.Ytefpfedpgedloaa
