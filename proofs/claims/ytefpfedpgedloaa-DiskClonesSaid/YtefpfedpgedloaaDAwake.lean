/- A disk that a call made itself; lockboxlaw10.awake. -/
import Derived.Test.YtefpfedpgedloaaDOps
namespace Go.Proofs.Ytefpfedpgedloaa
open Go.RowKit
open Dk

/-- A disk that the call made itself; nothing that was there ahead of the call has turned. -/
def Has (w0 w : World) (b : Nat) (D : Disk) : Prop := ∃ ρ, DiskAt w ρ b D ∧ From w0.heap.size ρ ∧ Below w0.heap.size w0 w
theorem ra0 : ¬ RA 0 := fun h => h rfl
theorem Has.touch {w0 w w' : World} {b : Nat} {D' : Disk} {ρ ρ' : Nat → Nat} (hf : From w0.heap.size ρ) (hb : Below w0.heap.size w0 w) (h : DiskAt w' ρ' b D') (t : Touch RA ρ ρ' w w') : Has w0 w' b D' :=
  ⟨ρ', h, hf.touch t hb.size, hb.trans (t.below hf ra0 hb.size)⟩
theorem Has.below {w0 w w' : World} {b : Nat} {D : Disk} (h : Has w0 w b D) (hb : Below w.heap.size w w') : Has w0 w' b D := by
  obtain ⟨ρ, h1, h2, h3⟩ := h
  exact ⟨ρ, h1.below hb, h2, h3.trans (hb.mono h3.size)⟩
theorem Has.old {w0 w : World} {b : Nat} {D : Disk} (h : Has w0 w b D) : Below w0.heap.size w0 w := by
  obtain ⟨ρ, h1, h2, h3⟩ := h; exact h3
theorem Has.drewN {w0 w : World} {b : Nat} {D : Disk} (h : Has w0 w b D) (n : Nat) : Has w0 (w.drewN n) b D := h.below ⟨rfl, rfl, rfl, Nat.le_refl _, fun _ _ => rfl⟩
theorem new_has (n : Nat) (room : Int) (h0 : 1 ≤ n) (h1 : n ≤ 64) (h2 : 1 ≤ room) (h3 : room ≤ 65536) (w : World) : Calls Try.prog 11 #[.int .i64 (n : Int), .int .i64 room] w fun e w' => ∃ b, e = .returned (.pointer (some ⟨b, 0, none⟩)) ∧ Has w w' b (Disk.new n room) :=
  (new_any n room h0 h1 h2 h3 w).mono fun _ _ ⟨b, ρ, he, h⟩ => ⟨b, he, ρ, h⟩
theorem append_has {w0 w : World} {b : Nat} {D : Disk} (h : Has w0 w b D) (hs : Small D) (x : Int) (s : ByteArray) :
    Calls Try.prog 23 #[.pointer (some ⟨b, 0, none⟩), .int .i64 x, .string s] w fun e w' => e = .returned (.int .i64 (D.act 0 x 0 s).2) ∧ Has w0 w' b (D.act 0 x 0 s).1 := by
  obtain ⟨ρ, h1, h2, h3⟩ := h
  exact (append_any h1 hs x s).mono fun _ _ ⟨he, ρ', h, t⟩ => ⟨he, Has.touch h2 h3 h t⟩
theorem sync_has {w0 w : World} {b : Nat} {D : Disk} (h : Has w0 w b D) (hs : Small D) :
    Calls Try.prog 27 #[.pointer (some ⟨b, 0, none⟩)] w fun e w' => e = .returned (.int .i64 D.sync.2) ∧ Has w0 w' b D.sync.1 := by
  obtain ⟨ρ, h1, h2, h3⟩ := h
  exact (sync_any h1 hs).mono fun _ _ ⟨he, ρ', h, t⟩ => ⟨he, Has.touch h2 h3 h t⟩
theorem fail_has {w0 w : World} {b : Nat} {D : Disk} (h : Has w0 w b D) (hs : Small D) (keep torn : Int) :
    Calls Try.prog 24 #[.pointer (some ⟨b, 0, none⟩), .int .i64 keep, .int .i64 torn] w fun e w' => e = .returned (.tuple #[]) ∧ Has w0 w' b (D.fail keep torn) := by
  obtain ⟨ρ, h1, h2, h3⟩ := h
  exact (failD_any h1 hs keep torn).mono fun _ _ ⟨he, ρ', h, t⟩ => ⟨he, Has.touch h2 h3 h t⟩
theorem up_has {w0 w : World} {b : Nat} {D : Disk} (h : Has w0 w b D) :
    Calls Try.prog 25 #[.pointer (some ⟨b, 0, none⟩)] w fun e w' => e = .returned (.bool D.down) ∧ Has w0 w' b D.up := by
  obtain ⟨ρ, h1, h2, h3⟩ := h
  exact (up_any h1).mono fun _ _ ⟨he, h, t⟩ => ⟨he, Has.touch h2 h3 h (t.mono (fun r e => by unfold RA; omega))⟩
theorem lay_has {w0 w : World} {b : Nat} {D : Disk} (h : Has w0 w b D) (a k t : Int) :
    Calls Try.prog 26 #[.pointer (some ⟨b, 0, none⟩), .agg #[.int .i64 a, .int .i64 k, .int .i64 t]] w fun e w' => e = .returned (.tuple #[]) ∧ Has w0 w' b (D.lay a k t) := by
  obtain ⟨ρ, h1, h2, h3⟩ := h
  exact (lay_any h1 a k t).mono fun _ _ ⟨he, h, t⟩ => ⟨he, Has.touch h2 h3 h t⟩
theorem read_has {w0 w : World} {b : Nat} {D : Disk} (h : Has w0 w b D) (x : Int) : Calls Try.prog 20 #[.pointer (some ⟨b, 0, none⟩), .int .i64 x] w fun e w' => e = .returned (.tuple #[.string (readD D x), .int .i64 (eerr D x)]) ∧ w = w' := by
  obtain ⟨ρ, h1, h2, h3⟩ := h; exact read_any h1 x
theorem room_has {w0 w : World} {b : Nat} {D : Disk} (h : Has w0 w b D) (x : Int) : Calls Try.prog 21 #[.pointer (some ⟨b, 0, none⟩), .int .i64 x] w fun e w' => e = .returned (.int .i64 (roomD D x)) ∧ w = w' := by
  obtain ⟨ρ, h1, h2, h3⟩ := h; exact room_any h1 x
theorem down_has {w0 w : World} {b : Nat} {D : Disk} (h : Has w0 w b D) : Calls Try.prog 15 #[.pointer (some ⟨b, 0, none⟩)] w fun e w' => e = .returned (.bool D.down) ∧ w = w' := by
  obtain ⟨ρ, h1, h2, h3⟩ := h; exact down_any h1
theorem waits_has {w0 w : World} {b : Nat} {D : Disk} (h : Has w0 w b D) : Calls Try.prog 16 #[.pointer (some ⟨b, 0, none⟩)] w fun e w' => e = .returned (.int .i64 (D.waits.length : Int)) ∧ w = w' := by
  obtain ⟨ρ, h1, h2, h3⟩ := h; exact waits_any h1
theorem changes_has {w0 w : World} {b : Nat} {D : Disk} (h : Has w0 w b D) : Calls Try.prog 17 #[.pointer (some ⟨b, 0, none⟩)] w fun e w' => e = .returned (.int .i64 D.changes) ∧ w = w' := by
  obtain ⟨ρ, h1, h2, h3⟩ := h; exact changes_any h1

/-- The page's example. -/
def ex0 : Disk := Disk.new 2 8
def ex1 : Disk := (ex0.act 0 0 0 ⟨#[97, 98, 99]⟩).1
def ex2 : Disk := ex1.sync.1
def ex3 : Disk := (ex2.act 0 0 0 ⟨#[100, 101, 102]⟩).1
def ex4 : Disk := ex3.fail 0 2
def ex5 : Disk := ex4.up
theorem ex_1 : (ex0.act 0 0 0 ⟨#[97, 98, 99]⟩).2 = 0 := by decide +kernel
theorem ex_2 : ex1.sync.2 = 0 := by decide +kernel
theorem ex_3 : (ex2.act 0 0 0 ⟨#[100, 101, 102]⟩).2 = 0 := by decide +kernel
theorem ex_4 : ex4.down = true := by decide +kernel
theorem ex_5 : readD ex5 0 = ⟨#[97, 98, 99, 100, 101]⟩ := by decide +kernel
theorem ex_6 : eerr ex5 0 = 0 := by decide +kernel
theorem ex_7 : roomD ex5 0 = 3 := by decide +kernel
theorem small_ex0 : Small ex0 := ⟨by decide +kernel, by decide +kernel, by decide +kernel, by decide +kernel, by decide +kernel, by decide +kernel⟩
theorem small_ex1 : Small ex1 := ⟨by decide +kernel, by decide +kernel, by decide +kernel, by decide +kernel, by decide +kernel, by decide +kernel⟩
theorem small_ex2 : Small ex2 := ⟨by decide +kernel, by decide +kernel, by decide +kernel, by decide +kernel, by decide +kernel, by decide +kernel⟩
theorem small_ex3 : Small ex3 := ⟨by decide +kernel, by decide +kernel, by decide +kernel, by decide +kernel, by decide +kernel, by decide +kernel⟩
set_option maxRecDepth 100000 in
set_option maxHeartbeats 1000000 in
theorem awake_any (w : World) : Calls Try.prog 10 #[] w fun e w' => e = .returned (.bool true) ∧ Below w.heap.size w w' := by
  have hn := new_has 2 8 (by decide) (by decide) (by decide) (by decide) w
  go_enter Try.func10, Try.ntmps10
  go_wp2_with fail
  refine hn.mono ?_
  rintro e w1 ⟨b, rfl, hd⟩
  clear hn
  have hD := Lib.hid hd
  clear hd
  go_wp2_with fail
  refine (append_has (D := ex0) hD.out small_ex0 0 ⟨#[97, 98, 99]⟩).mono ?_
  rintro e w2 ⟨rfl, hd⟩
  rw [ex_1]
  have hD1 := Lib.hid hd
  clear hd
  go_wp2_with fail
  refine (sync_has (D := ex1) hD1.out small_ex1).mono ?_
  rintro e w3 ⟨rfl, hd⟩
  rw [ex_2]
  have hD2 := Lib.hid hd
  clear hd
  go_wp2_with fail
  refine (append_has (D := ex2) hD2.out small_ex2 0 ⟨#[100, 101, 102]⟩).mono ?_
  rintro e w4 ⟨rfl, hd⟩
  rw [ex_3]
  have hD3 := Lib.hid hd
  clear hd
  go_wp2_with fail
  refine (fail_has (D := ex3) hD3.out small_ex3 0 2).mono ?_
  rintro e w5 ⟨rfl, hd⟩
  have hD4 := Lib.hid hd
  clear hd
  go_wp2_with fail
  refine (up_has (D := ex4) hD4.out).mono ?_
  rintro e w6 ⟨rfl, hd⟩
  rw [ex_4]
  have hD5 := Lib.hid hd
  clear hd
  go_wp2_with fail
  refine (read_has (D := ex5) hD5.out 0).mono ?_
  rintro e w7 ⟨rfl, rfl⟩
  rw [ex_5, ex_6]
  go_wp2_with fail
  refine (room_has (D := ex5) hD5.out 0).mono ?_
  rintro e w7 ⟨rfl, rfl⟩
  rw [ex_7]
  go_wp2_with fail
  go_ret
  exact ⟨rfl, hD5.out.old⟩
end Go.Proofs.Ytefpfedpgedloaa
