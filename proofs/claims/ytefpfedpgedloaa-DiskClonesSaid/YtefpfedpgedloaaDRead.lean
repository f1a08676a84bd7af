/- disk: what is read of a disk (Down, extent, Read, Room, Extents, Waits, Changes, Falls), refuses. -/
import Derived.Test.YtefpfedpgedloaaDDo2
import Derived.BigQuiet
namespace Go.Proofs.Ytefpfedpgedloaa
open Go.RowKit
open Dk

theorem head_cells {w : World} {b : Nat} {D : Disk} {ts tn : Nat} {wv : Value} (h : w.heap[b]? = some (.cells (headCells D ts tn wv) 62 (0, 0))) :
    w.cell? ⟨b, 0, none⟩ = some (.int .i64 D.room) ∧ w.cell? ⟨b, 1, none⟩ = some (.slice (some ⟨ts, 0, none⟩) D.sure.length D.sure.length) ∧ w.cell? ⟨b, 2, none⟩ = some (.slice (some ⟨tn, 0, none⟩) D.sure.length D.sure.length) ∧
    w.cell? ⟨b, 3, none⟩ = some wv ∧ w.cell? ⟨b, 4, none⟩ = some (.int .i64 D.changes) ∧ w.cell? ⟨b, 5, none⟩ = some (.int .i64 D.falls) ∧ w.cell? ⟨b, 6, none⟩ = some (.bool D.down) ∧ w.cell? ⟨b, 7, none⟩ = some (.bool D.laid) ∧
    w.cell? ⟨b, 8, none⟩ = some (.int .i64 D.after) ∧ w.cell? ⟨b, 9, none⟩ = some (.int .i64 D.keep) ∧ w.cell? ⟨b, 10, none⟩ = some (.int .i64 D.torn) := by
  refine ⟨?_, ?_, ?_, ?_, ?_, ?_, ?_, ?_, ?_, ?_, ?_⟩ <;> (rw [cell_of_row _ _ _ _ _ _ h]; rfl)
theorem head_free {w : World} {b : Nat} {cs : Array Value} {t : TypeId} (h : w.heap[b]? = some (.cells cs t (0, 0))) (j : Nat) : w.frozen? ⟨b, j, none⟩ = false := frozen_of_row _ _ _ _ _ h
set_option maxRecDepth 100000 in
theorem down_any {w : World} {ρ : Nat → Nat} {b : Nat} {D : Disk} (h : DiskAt w ρ b D) : Calls Try.prog 15 #[.pointer (some ⟨b, 0, none⟩)] w fun e w' => e = .returned (.bool D.down) ∧ w = w' := by
  obtain ⟨ts, tn, wv, h1, -⟩ := h.body
  have q := (head_cells h1).2.2.2.2.2.2.1
  clear h h1
  go_enter Try.func15, Try.ntmps15
  go_wp2_with fail
  go_ret
  exact ⟨rfl, rfl⟩
theorem down_nil (w : World) : Calls Try.prog 15 #[.pointer none] w fun e w' => e = .returned (.bool true) ∧ w = w' := by
  go_enter Try.func15, Try.ntmps15
  go_wp2_with fail
  go_ret
  exact ⟨rfl, rfl⟩
theorem extents_any {w : World} {ρ : Nat → Nat} {b : Nat} {D : Disk} (h : DiskAt w ρ b D) : Calls Try.prog 13 #[.pointer (some ⟨b, 0, none⟩)] w fun e w' => e = .returned (.int .i64 (D.sure.length : Int)) ∧ w = w' := by
  obtain ⟨ts, tn, wv, h1, -⟩ := h.body
  have q := (head_cells h1).2.2.1
  clear h h1
  go_enter Try.func13, Try.ntmps13
  go_wp2_with fail
  go_ret
  exact ⟨rfl, rfl⟩
theorem extents_nil (w : World) : Calls Try.prog 13 #[.pointer none] w fun e w' => e = .returned (.int .i64 0) ∧ w = w' := by
  go_enter Try.func13, Try.ntmps13
  go_wp2_with fail
  go_ret
  exact ⟨rfl, rfl⟩
theorem waits_any {w : World} {ρ : Nat → Nat} {b : Nat} {D : Disk} (h : DiskAt w ρ b D) : Calls Try.prog 16 #[.pointer (some ⟨b, 0, none⟩)] w fun e w' => e = .returned (.int .i64 (D.waits.length : Int)) ∧ w = w' := by
  obtain ⟨ts, tn, wv, h1, -, -, a, cap, rfl, -⟩ := h.body
  have q := (head_cells h1).2.2.2.1
  clear h h1
  go_enter Try.func16, Try.ntmps16
  go_wp2_with fail
  go_ret
  exact ⟨rfl, rfl⟩
theorem waits_nil (w : World) : Calls Try.prog 16 #[.pointer none] w fun e w' => e = .returned (.int .i64 0) ∧ w = w' := by
  go_enter Try.func16, Try.ntmps16
  go_wp2_with fail
  go_ret
  exact ⟨rfl, rfl⟩
theorem changes_any {w : World} {ρ : Nat → Nat} {b : Nat} {D : Disk} (h : DiskAt w ρ b D) : Calls Try.prog 17 #[.pointer (some ⟨b, 0, none⟩)] w fun e w' => e = .returned (.int .i64 D.changes) ∧ w = w' := by
  obtain ⟨ts, tn, wv, h1, -⟩ := h.body
  have q := (head_cells h1).2.2.2.2.1
  clear h h1
  go_enter Try.func17, Try.ntmps17
  go_wp2_with fail
  go_ret
  exact ⟨rfl, rfl⟩
theorem changes_nil (w : World) : Calls Try.prog 17 #[.pointer none] w fun e w' => e = .returned (.int .i64 0) ∧ w = w' := by
  go_enter Try.func17, Try.ntmps17
  go_wp2_with fail
  go_ret
  exact ⟨rfl, rfl⟩
theorem falls_any {w : World} {ρ : Nat → Nat} {b : Nat} {D : Disk} (h : DiskAt w ρ b D) : Calls Try.prog 18 #[.pointer (some ⟨b, 0, none⟩)] w fun e w' => e = .returned (.int .i64 D.falls) ∧ w = w' := by
  obtain ⟨ts, tn, wv, h1, -⟩ := h.body
  have q := (head_cells h1).2.2.2.2.2.1
  clear h h1
  go_enter Try.func18, Try.ntmps18
  go_wp2_with fail
  go_ret
  exact ⟨rfl, rfl⟩
theorem falls_nil (w : World) : Calls Try.prog 18 #[.pointer none] w fun e w' => e = .returned (.int .i64 0) ∧ w = w' := by
  go_enter Try.func18, Try.ntmps18
  go_wp2_with fail
  go_ret
  exact ⟨rfl, rfl⟩
/-- Why an extent can't be read. -/
def eerr (D : Disk) (x : Int) : Int := if D.down = true then 9 else if x < 0 ∨ (D.sure.length : Int) ≤ x then 1 else 0
set_option maxRecDepth 100000 in
theorem extent_down {w : World} {ρ : Nat → Nat} {b : Nat} {D : Disk} (h : DiskAt w ρ b D) (hd : D.down = true) (x : Int) : Calls Try.prog 36 #[.pointer (some ⟨b, 0, none⟩), .int .i64 x] w fun e w' => e = .returned (.tuple #[.slice none 0 0, .int .i64 9]) ∧ w = w' := by
  have H := down_any h
  rw [hd] at H
  have H := Lib.hid H
  clear h hd
  go_enter Try.func36, Try.ntmps36
  go_wp2_with fail
  refine H.out.mono ?_
  rintro e w' ⟨rfl, rfl⟩
  go_wp2_with fail
  go_ret2
  exact ⟨rfl, rfl⟩
theorem extent_nil (w : World) (x : Int) : Calls Try.prog 36 #[.pointer none, .int .i64 x] w fun e w' => e = .returned (.tuple #[.slice none 0 0, .int .i64 9]) ∧ w = w' := by
  go_enter Try.func36, Try.ntmps36
  go_wp2_with fail
  refine (down_nil _).mono ?_
  rintro e w' ⟨rfl, rfl⟩
  go_wp2_with fail
  go_ret2
  exact ⟨rfl, rfl⟩
set_option maxRecDepth 100000 in
theorem extent_far {w : World} {ρ : Nat → Nat} {b : Nat} {D : Disk} (h : DiskAt w ρ b D) (hd : D.down = false) (x : Int) (hx : x < 0 ∨ (D.sure.length : Int) ≤ x) : Calls Try.prog 36 #[.pointer (some ⟨b, 0, none⟩), .int .i64 x] w fun e w' => e = .returned (.tuple #[.slice none 0 0, .int .i64 1]) ∧ w = w' := by
  have H := down_any h
  rw [hd] at H
  obtain ⟨ts, tn, wv, h1, -⟩ := h.body
  have q := (head_cells h1).2.2.1
  have hn := h.ok.num
  have H := Lib.hid H
  clear h hd h1
  by_cases hx0 : x < 0
  · clear hx
    go_enter Try.func36, Try.ntmps36
    go_wp2_with fail
    refine H.out.mono ?_
    rintro e w' ⟨rfl, rfl⟩
    go_wp2_with fail
    go_ret2
    exact ⟨rfl, rfl⟩
  · have hx1 : (D.sure.length : Int) ≤ x := by omega
    clear hx
    go_enter Try.func36, Try.ntmps36
    go_wp2_with fail
    refine H.out.mono ?_
    rintro e w' ⟨rfl, rfl⟩
    go_wp2_with fail
    go_ret2
    exact ⟨rfl, rfl⟩
set_option maxRecDepth 100000 in
theorem extent_at {w : World} {ρ : Nat → Nat} {b : Nat} {D : Disk} (h : DiskAt w ρ b D) (hd : D.down = false) (x : Nat) (hx : x < D.sure.length) : Calls Try.prog 36 #[.pointer (some ⟨b, 0, none⟩), .int .i64 (x : Int)] w fun e w' =>
    (∃ a cap, e = .returned (.tuple #[.slice a (exAt D.now x).size cap, .int .i64 0]) ∧ w.ownsRow 0 5 1 (.slice a (exAt D.now x).size cap) (exAt D.now x).size (bcells (exAt D.now x).data.toList)) ∧ w = w' := by
  have H := down_any h
  rw [hd] at H
  obtain ⟨ts, tn, wv, h1, -, hT, -⟩ := h.body
  have q := (head_cells h1).2.2.1
  have hn := h.ok.num
  obtain ⟨a, cap, c1, ho, -, -⟩ := hT.at (x := x) (by rw [D.now_length]; exact hx)
  have H := Lib.hid (And.intro H ho)
  have hxi : (x : Int) < D.sure.length := by omega
  clear h hd h1 hT ho
  go_enter Try.func36, Try.ntmps36
  go_wp2_with fail
  refine H.out.1.mono ?_
  rintro e w' ⟨rfl, rfl⟩
  go_wp2_with fail
  go_ret2
  exact ⟨⟨a, cap, rfl, H.out.2⟩, rfl⟩

theorem conv_own {w : World} {a : Option Addr} {cap : Nat} {s : ByteArray} (h : w.ownsRow 0 5 1 (.slice a s.size cap) s.size (bcells s.data.toList)) : (convert 69 9 (.slice a s.size cap)).run Try.prog w = .ok (.string s) w := by
  have hl : s.data.toList.length = s.size := by simp
  have := OwnB.conv (B := 0) (w := w) (a := a) (cap := cap) (l := s.data.toList) (by unfold OwnB; rw [hl]; exact h)
  rw [hl] at this
  exact this
theorem conv_nil (w : World) : (convert 69 9 (.slice none 0 0)).run Try.prog w = .ok (.string ⟨#[]⟩) w := conv_own (s := ⟨#[]⟩) (World.ownsRow_nil _ _ _ _)
/-- What is read of an extent. -/
def readD (D : Disk) (x : Int) : ByteArray := if eerr D x = 0 then exAt D.now x.toNat else ⟨#[]⟩
theorem eerr_cases (D : Disk) (x : Int) : (D.down = true ∧ eerr D x = 9) ∨ (D.down = false ∧ (x < 0 ∨ (D.sure.length : Int) ≤ x) ∧ eerr D x = 1) ∨ (D.down = false ∧ ∃ k : Nat, x = k ∧ k < D.sure.length ∧ eerr D x = 0) := by
  unfold eerr
  cases hd : D.down with
  | true => exact .inl ⟨rfl, if_pos rfl⟩
  | false =>
    rw [if_neg (by decide)]
    by_cases hx : x < 0 ∨ (D.sure.length : Int) ≤ x
    · exact .inr (.inl ⟨rfl, hx, if_pos hx⟩)
    · exact .inr (.inr ⟨rfl, x.toNat, by omega, by omega, if_neg hx⟩)
set_option maxRecDepth 100000 in
theorem read_any {w : World} {ρ : Nat → Nat} {b : Nat} {D : Disk} (h : DiskAt w ρ b D) (x : Int) : Calls Try.prog 20 #[.pointer (some ⟨b, 0, none⟩), .int .i64 x] w fun e w' => e = .returned (.tuple #[.string (readD D x), .int .i64 (eerr D x)]) ∧ w = w' := by
  rcases eerr_cases D x with ⟨hd, he⟩ | ⟨hd, hx, he⟩ | ⟨hd, k, rfl, hk, he⟩
  · rw [readD, he, if_neg (by decide)]
    have H := Lib.hid (extent_down h hd x)
    have hc := conv_nil
    clear h hd he
    go_enter Try.func20, Try.ntmps20
    go_wp2_with fail
    refine H.out.mono ?_
    rintro e w' ⟨rfl, rfl⟩
    go_wp2_with fail
    go_ret2
    exact ⟨rfl, rfl⟩
  · rw [readD, he, if_neg (by decide)]
    have H := Lib.hid (extent_far h hd x hx)
    have hc := conv_nil
    clear h hd hx he
    go_enter Try.func20, Try.ntmps20
    go_wp2_with fail
    refine H.out.mono ?_
    rintro e w' ⟨rfl, rfl⟩
    go_wp2_with fail
    go_ret2
    exact ⟨rfl, rfl⟩
  · rw [readD, he, if_pos rfl, Int.toNat_natCast]
    have H := Lib.hid (extent_at h hd k hk)
    clear h hd hk he
    go_enter Try.func20, Try.ntmps20
    go_wp2_with fail
    refine H.out.mono ?_
    rintro e w' ⟨⟨a, cap, rfl, ho⟩, rfl⟩
    have hc := conv_own ho
    clear ho
    go_wp2_with fail
    go_ret2
    exact ⟨rfl, rfl⟩
theorem read_nil (w : World) (x : Int) : Calls Try.prog 20 #[.pointer none, .int .i64 x] w fun e w' => e = .returned (.tuple #[.string ⟨#[]⟩, .int .i64 9]) ∧ w = w' := by
  have hc := conv_nil
  go_enter Try.func20, Try.ntmps20
  go_wp2_with fail
  refine (extent_nil _ _).mono ?_
  rintro e w' ⟨rfl, rfl⟩
  go_wp2_with fail
  go_ret2
  exact ⟨rfl, rfl⟩
/-- How much room there is. -/
def roomD (D : Disk) (x : Int) : Int := if eerr D x = 0 then D.room - (exAt D.now x.toNat).size else 0
set_option maxRecDepth 100000 in
theorem room_any {w : World} {ρ : Nat → Nat} {b : Nat} {D : Disk} (h : DiskAt w ρ b D) (x : Int) : Calls Try.prog 21 #[.pointer (some ⟨b, 0, none⟩), .int .i64 x] w fun e w' => e = .returned (.int .i64 (roomD D x)) ∧ w = w' := by
  rcases eerr_cases D x with ⟨hd, he⟩ | ⟨hd, hx, he⟩ | ⟨hd, k, rfl, hk, he⟩
  · rw [roomD, he, if_neg (by decide)]
    have H := Lib.hid (extent_down h hd x)
    clear h hd he
    go_enter Try.func21, Try.ntmps21
    go_wp2_with fail
    refine H.out.mono ?_
    rintro e w' ⟨rfl, rfl⟩
    go_wp2_with fail
    go_ret
    exact ⟨rfl, rfl⟩
  · rw [roomD, he, if_neg (by decide)]
    have H := Lib.hid (extent_far h hd x hx)
    clear h hd hx he
    go_enter Try.func21, Try.ntmps21
    go_wp2_with fail
    refine H.out.mono ?_
    rintro e w' ⟨rfl, rfl⟩
    go_wp2_with fail
    go_ret
    exact ⟨rfl, rfl⟩
  · rw [roomD, he, if_pos rfl, Int.toNat_natCast]
    have H := Lib.hid (extent_at h hd k hk)
    obtain ⟨ts, tn, wv, h1, -⟩ := h.body
    have q := (head_cells h1).1
    have hr1 := h.ok.room0
    have hr2 := h.ok.room1
    have hs : (exAt D.now k).size ≤ 65536 := h.ok.fits.all.at k
    clear h hd hk he h1
    go_enter Try.func21, Try.ntmps21
    go_wp2_with fail
    refine H.out.mono ?_
    rintro e w' ⟨⟨a, cap, rfl, ho⟩, rfl⟩
    clear ho
    go_wp2_with fail
    go_ret
    exact ⟨rfl, rfl⟩
theorem room_nil (w : World) (x : Int) : Calls Try.prog 21 #[.pointer none, .int .i64 x] w fun e w' => e = .returned (.int .i64 0) ∧ w = w' := by
  go_enter Try.func21, Try.ntmps21
  go_wp2_with fail
  refine (extent_nil _ _).mono ?_
  rintro e w' ⟨rfl, rfl⟩
  go_wp2_with fail
  go_ret
  exact ⟨rfl, rfl⟩
end Go.Proofs.Ytefpfedpgedloaa
