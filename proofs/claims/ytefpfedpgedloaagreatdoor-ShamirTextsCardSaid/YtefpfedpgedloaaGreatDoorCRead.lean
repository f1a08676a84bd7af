/- The reader: next, room, number, count. -/
import Derived.Test.YtefpfedpgedloaaGreatDoorCMake
import Derived.Test.YtefpfedpgedloaaGreatDoorCEnc
import Derived.Deep.QuietTactic
import Derived.BigQuiet
import Derived.IntWalk
namespace Go.Proofs.YtefpfedpgedloaaGreatDoor
open Go.RowKit
open Cn

/-- A reader in a block: the text, the place, how many are owed. -/
def Rd (s : ByteArray) (g p ow : Nat) (w : World) : Prop := w.heap[g]? = some (.cells #[.string s, .int .i64 p, .int .i64 ow] 120 (0, 0))
/-- What a reader's call leaves: new blocks, and the reader's own. -/
def RdKept (g : Nat) (w w' : World) : Prop := Below g w w' ∧ ∀ b, b < w.heap.size → b ≠ g → w'.heap[b]? = w.heap[b]?
theorem RdKept.trans {g : Nat} {a b c : World} (h : RdKept g a b) (k : RdKept g b c) : RdKept g a c :=
  ⟨h.1.trans k.1, fun i hi hne => (k.2 i (by have := h.1.size; omega) hne).trans (h.2 i hi hne)⟩
theorem RdKept.refl (g : Nat) (w : World) : RdKept g w w := ⟨Below.refl _ _, fun _ _ _ => rfl⟩
theorem RdKept.size {g : Nat} {w w' : World} (h : RdKept g w w') : w.heap.size ≤ w'.heap.size := h.1.size
theorem RdKept.setCell {g : Nat} {w w' : World} (h : RdKept g w w') (i : Nat) (v : Value) : RdKept g w (w'.setCell ⟨g, i, none⟩ v) :=
  ⟨h.1.setCell (p := ⟨g, i, none⟩) (Nat.le_refl _) v, fun b hb hne => (heap_setCell_other w' _ b v hne).trans (h.2 b hb hne)⟩
theorem RdKept.alloc {g : Nat} {w w' : World} (h : RdKept g w w') (hg : g < w.heap.size) (o : Obj) : RdKept g w (w'.alloc o) :=
  ⟨h.1.alloc (by have := h.1.size; omega) o, fun b hb hne => (Lib.alloc_old _ _ _ (by have := h.1.size; omega)).trans (h.2 b hb hne)⟩
theorem RdKept.drew {g : Nat} {w w' : World} (h : RdKept g w w') : RdKept g w w'.drew := ⟨h.1.drew, h.2⟩
theorem below_drewN {B : Nat} {a w : World} (h : Below B a w) : ∀ n, Below B a (w.drewN n)
  | 0 => h
  | n + 1 => (below_drewN h n).drew
theorem RdKept.drewN {g : Nat} {w w' : World} (h : RdKept g w w') (n : Nat) : RdKept g w (w'.drewN n) := ⟨below_drewN h.1 n, h.2⟩
theorem Rd.at_set {s : ByteArray} {g p ow : Nat} {w : World} (h : Rd s g p ow w) (q : Nat) : Rd s g q ow (w.setCell ⟨g, 1, none⟩ (.int .i64 q)) := by
  unfold Rd at h ⊢
  rw [heap_setCell_same _ _ _ _ _ _ h]
  rfl
theorem Rd.ow_set {s : ByteArray} {g p ow : Nat} {w : World} (h : Rd s g p ow w) (q : Nat) : Rd s g p q (w.setCell ⟨g, 2, none⟩ (.int .i64 q)) := by
  unfold Rd at h ⊢
  rw [heap_setCell_same _ _ _ _ _ _ h]
  rfl
theorem heap_drewN (w : World) : ∀ n, (w.drewN n).heap = w.heap
  | 0 => rfl
  | n + 1 => heap_drewN w n
theorem Rd.drewN {s : ByteArray} {g p ow : Nat} {w : World} (h : Rd s g p ow w) (n : Nat) : Rd s g p ow (w.drewN n) := by unfold Rd at h ⊢; rw [heap_drewN]; exact h
theorem Rd.c0 {s : ByteArray} {g p ow : Nat} {w : World} (h : Rd s g p ow w) : w.cell? ⟨g, 0, none⟩ = some (.string s) := by rw [Lib.cell_of_heap h]; rfl
theorem Rd.c1 {s : ByteArray} {g p ow : Nat} {w : World} (h : Rd s g p ow w) : w.cell? ⟨g, 1, none⟩ = some (.int .i64 p) := by rw [Lib.cell_of_heap h]; rfl
theorem Rd.c2 {s : ByteArray} {g p ow : Nat} {w : World} (h : Rd s g p ow w) : w.cell? ⟨g, 2, none⟩ = some (.int .i64 ow) := by rw [Lib.cell_of_heap h]; rfl
theorem Rd.f {s : ByteArray} {g p ow : Nat} {w : World} (h : Rd s g p ow w) (i : Nat) : w.frozen? ⟨g, i, none⟩ = false := Lib.frozen_of_heap h i
theorem Rd.lt {s : ByteArray} {g p ow : Nat} {w : World} (h : Rd s g p ow w) : g < w.heap.size := lt_of_heap h

set_option maxRecDepth 100000 in
set_option maxHeartbeats 400000 in
theorem room_any (s : ByteArray) (g p ow n : Nat) (w : World) (h : Rd s g p ow w) (hp : p ≤ 200000) (hn : n ≤ 72057594037927936) (ho : ow ≤ 200000) :
    Calls Tryz.prog 83 #[.pointer (some ⟨g, 0, none⟩), .int .i64 n] w fun e w' => e = .returned (.bool (decide (p + n + ow ≤ 65536))) ∧ Rd s g p ow w' ∧ RdKept g w w' := by
  have c1 := h.c1
  have c2 := h.c2
  have e1 : IntKind.i64.wrap ((p : Int) + n) = (p : Int) + n := IntWalk.i64_in _ (by omega)
  have e2 : IntKind.i64.wrap ((p : Int) + n + ow) = (p : Int) + n + ow := IntWalk.i64_in _ (by omega)
  have HH := Lib.hid h
  clear h hp hn ho
  go_enter Tryz.func83, Tryz.ntmps83
  go_wp2_with fail
  go_quiet (fail)
  go_wp2_with fail
  go_ret
  exact ⟨ret_bool (by rw [decide_eq_decide]; omega), HH.out.drewN _, (RdKept.refl _ _).drewN _⟩

set_option maxRecDepth 100000 in
set_option maxHeartbeats 400000 in
theorem next_end (s : ByteArray) (g ow : Nat) (w : World) (h : Rd s g s.size ow w) :
    Calls Tryz.prog 82 #[.pointer (some ⟨g, 0, none⟩)] w fun e w' => e = .returned (.tuple #[.int .i64 0, .int .i64 7]) ∧ Rd s g s.size ow w' ∧ RdKept g w w' := by
  have c0 := h.c0
  have c1 := h.c1
  have HH := Lib.hid h
  clear h
  go_enter Tryz.func82, Tryz.ntmps82
  go_wp2_with fail
  go_quiet (fail)
  go_wp2_with fail
  go_ret2
  exact ⟨rfl, HH.out.drewN _, (RdKept.refl _ _).drewN _⟩
set_option maxRecDepth 100000 in
set_option maxHeartbeats 400000 in
theorem next_any (s : ByteArray) (g p ow : Nat) (c : UInt8) (r : List UInt8) (w : World) (h : Rd s g p ow w) (hp : p ≤ 200000) (hl : s.data.toList.drop p = c :: r) :
    Calls Tryz.prog 82 #[.pointer (some ⟨g, 0, none⟩)] w fun e w' => e = .returned (.tuple #[.int .i64 c.toNat, .int .i64 0]) ∧ Rd s g (p + 1) ow w' ∧ RdKept g w w' := by
  have c0 := h.c0
  have c1 := h.c1
  have f1 := h.f 1
  have hlt : p < s.size := by
    have := congrArg List.length hl
    simp at this
    omega
  have hne : ((p : Int) == s.size) = false := by simp; omega
  have hne' : ¬ (p : Int) = s.size := by omega
  have HH := Lib.hid (And.intro h hl)
  clear h hl
  go_enter Tryz.func82, Tryz.ntmps82
  go_wp2_with fail
  go_quiet (fail)
  go_wp2_with fail
  have R1 : ∀ W, Rd s g p ow W → Rd s g (p + 1) ow (W.setCell ⟨g, 1, none⟩ (.int .i64 ((p : Int) + 1))) := fun W h => h.at_set (p + 1)
  have R2 := R1 _ (HH.out.1.drewN nq)
  have K2 := ((RdKept.refl g w).drewN nq).setCell 1 (.int .i64 ((p : Int) + 1))
  generalize World.setCell _ _ _ = W1 at *
  clear R1 c0 c1 f1
  have d0 := R2.c0
  have d1 : W1.cell? ⟨g, 1, none⟩ = some (.int .i64 ((p : Int) + 1)) := R2.c1
  have HR := Lib.hid (And.intro R2 K2)
  clear R2 K2 hne hne'
  have e1 : IntKind.i64.wrap ((p : Int) + 1 - 1) = (p : Int) := by rw [IntWalk.i64_in _ (by omega)]; omega
  have hpi : (p : Int) < s.size := by omega
  have hp0 : (0 : Int) ≤ (p : Int) := by omega
  go_quiet (fail)
  go_wp2_with fail
  go_ret2
  have hc : wrap64 ((s[p]'hlt).toNat : Int) = c.toNat := by
    have h1 := HH.out.2
    rw [List.drop_eq_getElem_cons (by simpa using hlt)] at h1
    have h2 : s[p]'hlt = c := (List.cons.inj h1).1
    rw [h2]
    have := UInt8.toNat_lt c
    unfold wrap64; omega
  exact ⟨congrArg (fun x => Ending.returned (.tuple #[.int .i64 x, .int .i64 0])) hc, HR.out.1.drewN _, HR.out.2.drewN _⟩

/-- What reading tells: the value (0 where it fails), the error, and where the reader stands if it did not fail. -/
theorem next_at (s : ByteArray) (g p ow : Nat) (w : World) (h : Rd s g p ow w) (hp : p ≤ 200000) (hps : p ≤ s.size) :
    (s.data.toList.drop p = [] → Calls Tryz.prog 82 #[.pointer (some ⟨g, 0, none⟩)] w fun e w' => e = .returned (.tuple #[.int .i64 0, .int .i64 7]) ∧ Rd s g p ow w' ∧ RdKept g w w') ∧
    (∀ c r, s.data.toList.drop p = c :: r → Calls Tryz.prog 82 #[.pointer (some ⟨g, 0, none⟩)] w fun e w' => e = .returned (.tuple #[.int .i64 c.toNat, .int .i64 0]) ∧ Rd s g (p + 1) ow w' ∧ RdKept g w w') := by
  refine ⟨fun h0 => ?_, fun c r hl => next_any s g p ow c r w h hp hl⟩
  have := congrArg List.length h0
  simp at this
  obtain rfl : p = s.size := by omega
  exact next_end s g ow w h
theorem or_byte (a c : Nat) (ha : a < 281474976710656) (hc : c < 256) : bits .or .i64 ((a : Int) * 256) (c : Int) = ((a * 256 + c : Nat) : Int) := by
  have h1 : a * 256 ||| c = a * 256 + c := by
    have := Nat.shiftLeft_add_eq_or_of_lt (i := 8) (b := c) (by omega) a
    rw [Nat.shiftLeft_eq] at this
    exact this.symm
  have o1 : ∀ x : Nat, x < 18446744073709551616 → (BitVec.ofInt 64 (x : Int)).toNat = x := fun x hx => by
    rw [BitVec.ofInt_natCast, BitVec.toNat_ofNat]; exact Nat.mod_eq_of_lt (by omega)
  rw [show (a : Int) * 256 = ((a * 256 : Nat) : Int) by omega]
  show IntKind.i64.wrap ((BitVec.ofInt 64 ((a * 256 : Nat) : Int) ||| BitVec.ofInt 64 (c : Int)).toNat : Int) = _
  rw [BitVec.toNat_or, o1 _ (by omega), o1 _ (by omega), h1, IntKind.wrap_i64]
  omega
theorem byte_lt (c : UInt8) : c.toNat < 256 := UInt8.toNat_lt c
theorem acc_next {acc i : Nat} {c : UInt8} (h : acc < 256 ^ i) : acc * 256 + c.toNat < 256 ^ (i + 1) := by
  have := byte_lt c
  rw [Nat.pow_succ]
  have : (acc + 1) * 256 ≤ 256 ^ i * 256 := Nat.mul_le_mul_right _ h
  omega
/-- How a reading of a number ends. -/
def NumPost (s : ByteArray) (g ow : Nat) (w : World) (R : Except Int (Nat × Nat)) (e : Ending) (w' : World) : Prop :=
  RdKept g w w' ∧ match R with
    | .error x => x ≠ 0 ∧ e = .returned (.tuple #[.int .i64 0, .int .i64 x])
    | .ok (n, q) => e = .returned (.tuple #[.int .i64 n, .int .i64 0]) ∧ Rd s g q ow w' ∧ q ≤ s.size
/-- Digits, with the place behind them. -/
def digitsAt (k : Nat) (f : Bool) (acc : Nat) (l : List UInt8) (size : Nat) : Except Int (Nat × Nat) :=
  match digits k f acc l with
  | .error x => .error x
  | .ok (n, r) => .ok (n, size - r.length)
theorem digits_err : ∀ k f acc l x, digits k f acc l = .error x → x ≠ 0
  | 0, _, _, _, _, h => by simp [digits] at h
  | _ + 1, _, _, [], x, h => by simp [digits] at h; omega
  | k + 1, f, acc, c :: l, x, h => by
    rw [digits] at h
    split at h
    · simp at h; omega
    · exact digits_err k _ _ _ x h

set_option maxRecDepth 100000 in
set_option maxHeartbeats 400000 in
theorem number_any (s : ByteArray) (g p ow k : Nat) (w : World) (h : Rd s g p ow w) (hp : p ≤ 100000) (hps : p ≤ s.size) (hk : k ≤ 7) :
    Calls Tryz.prog 86 #[.pointer (some ⟨g, 0, none⟩), .int .i64 k] w (NumPost s g ow w (digitsAt k true 0 (s.data.toList.drop p) s.size)) := by
  have hki : (k : Int) ≤ 7 := by omega
  obtain ⟨R, hR⟩ : ∃ R, R = digitsAt k true 0 (s.data.toList.drop p) s.size := ⟨_, rfl⟩
  rw [← hR]
  have HR := Lib.hid (And.intro hR h)
  clear hR h
  go_enter Tryz.func86, Tryz.ntmps86
  go_wp2_with fail
  go_loopw [6, 11] (fun nv iv wr => ∃ (i acc : Nat), i ≤ k ∧ iv = .int .i64 i ∧ nv = .int .i64 acc ∧ acc < 256 ^ i ∧ p + i ≤ s.size ∧ Rd s g (p + i) ow wr ∧ RdKept g w wr ∧ R = digitsAt (k - i) (i == 0) acc (s.data.toList.drop (p + i)) s.size) (fun _ iv _ => k - (intOf iv).toNat)
  case atStart => exact ⟨0, 0, by omega, rfl, rfl, by decide, by omega, HR.out.2, RdKept.refl _ _, HR.out.1⟩
  case round =>
    obtain ⟨i, acc, hi, rfl, rfl, hacc, hpi, hrd, hkp, hRi⟩ := hrel
    have HI := Lib.hid (And.intro hrd (And.intro hkp hRi))
    clear hrd hkp hRi
    by_cases hlt : i < k
    · have ha7 : acc < 256 ^ 6 := Nat.lt_of_lt_of_le hacc (Nat.pow_le_pow_right (by decide) (by omega))
      have hai : (acc : Int) < 281474976710656 := by have : (256 : Nat) ^ 6 = 281474976710656 := by decide
                                                     omega
      have HA := Lib.hid hacc
      clear hacc ha7
      cases hl : s.data.toList.drop (p + i) with
      | nil =>
        have HN := Lib.hid hl
        clear hl
        go_wp2_with fail
        refine ((next_at s g (p + i) ow _ HI.out.1 (by omega) hpi).1 HN.out).mono ?_
        rintro e w2 ⟨rfl, hb1, hb2⟩
        have HB := Lib.hid (And.intro hb1 hb2)
        clear hb1 hb2
        go_wp2_with fail
        go_ret2
        refine ⟨HI.out.2.1.trans HB.out.2, ?_⟩
        have : R = .error 7 := by
          rw [HI.out.2.2, HN.out, show k - i = k - i - 1 + 1 by omega]; rfl
        rw [this]
        exact ⟨by decide, rfl⟩
      | cons c r =>
        have hc255 : (c.toNat : Int) ≤ 255 := by have := UInt8.toNat_lt c; omega
        have HN := Lib.hid hl
        clear hl
        by_cases h00 : i = 0 ∧ c.toNat = 0
        · obtain ⟨rfl, hc0⟩ := h00
          have hci : (c.toNat : Int) = 0 := by omega
          have HZ := Lib.hid (And.intro hc0 hci)
          clear hci hc0 hc255
          go_wp2_with fail
          refine ((next_at s g (p + 0) ow _ HI.out.1 (by omega) hpi).2 c r HN.out).mono ?_
          rintro e w2 ⟨rfl, hb1, hb2⟩
          have HB := Lib.hid (And.intro hb1 hb2)
          clear hb1 hb2
          rw [HZ.out.2]
          go_wp2_with fail
          go_ret2
          refine ⟨HI.out.2.1.trans HB.out.2, ?_⟩
          have : R = .error 3 := by
            rw [HI.out.2.2, HN.out, show k - 0 = k - 1 + 1 by omega]
            simp [digitsAt, digits, HZ.out.1]
          rw [this]
          exact ⟨by decide, rfl⟩
        · have hRn : R = digitsAt (k - (i + 1)) (i + 1 == 0) (acc * 256 + c.toNat) r s.size := by
            rw [HI.out.2.2, HN.out, show k - i = k - (i + 1) + 1 by omega, digitsAt, digits, if_neg (by simpa using h00)]
            rfl
          have hdr : s.data.toList.drop (p + (i + 1)) = r := by
            rw [show p + (i + 1) = p + i + 1 by omega, ← List.drop_drop, HN.out]; rfl
          have hps2 : p + (i + 1) ≤ s.size := by
            have := congrArg List.length HN.out
            simp at this; omega
          rw [← hdr] at hRn
          have HD := Lib.hid (And.intro hRn (And.intro h00 hps2))
          clear hRn hdr h00 hps2
          by_cases hi0 : i = 0
          · subst hi0
            have hcn : ((c.toNat : Int) == 0) = false := by
              have := HD.out.2.1
              simp at this ⊢; omega
            have hcn' : ¬ (c.toNat : Int) = 0 := by simpa using hcn
            go_wp2_with fail
            refine ((next_at s g (p + 0) ow _ HI.out.1 (by omega) hpi).2 c r HN.out).mono ?_
            rintro e w2 ⟨rfl, hb1, hb2⟩
            have HB := Lib.hid (And.intro hb1 hb2)
            clear hb1 hb2
            go_wp2_with fail
            go_roundw
            case rel => exact ⟨0 + 1, acc * 256 + c.toNat, by omega, rfl, by rw [or_byte acc _ (by omega) (byte_lt c)], acc_next HA.out, HD.out.2.2, HB.out.1, HI.out.2.1.trans HB.out.2, HD.out.1⟩
            case measure => simp [intOf]; omega
          · have hii : ((i : Int) == 0) = false := by simp; omega
            have hii' : ¬ (i : Int) = 0 := by omega
            go_wp2_with fail
            refine ((next_at s g (p + i) ow _ HI.out.1 (by omega) hpi).2 c r HN.out).mono ?_
            rintro e w2 ⟨rfl, hb1, hb2⟩
            have HB := Lib.hid (And.intro hb1 hb2)
            clear hb1 hb2
            go_wp2_with fail
            go_roundw
            case rel => exact ⟨i + 1, acc * 256 + c.toNat, by omega, by go_num, by rw [or_byte acc _ (by omega) (byte_lt c)], acc_next HA.out, HD.out.2.2, by rw [← Nat.add_assoc]; exact HB.out.1, HI.out.2.1.trans HB.out.2, HD.out.1⟩
            case measure => simp [intOf]; omega
    · obtain rfl : i = k := by omega
      go_wp2_with fail
      go_ret2
      refine ⟨HI.out.2.1, ?_⟩
      have : R = .ok (acc, p + i) := by
        rw [HI.out.2.2, Nat.sub_self]
        simp [digitsAt, digits]
        omega
      rw [this]
      exact ⟨rfl, HI.out.1, hpi⟩
end Go.Proofs.YtefpfedpgedloaaGreatDoor
