/- The reader: count, text. -/
import Derived.Test.YtefpfedpgedloaaGreatDoorCRead
import Derived.Test.YtefpfedpgedloaaGreatDoorCDec
namespace Go.Proofs.YtefpfedpgedloaaGreatDoor
open Go.RowKit
open Cn

def countAt (most p ow : Nat) (l : List UInt8) : Except Int (Nat × Nat) :=
  match count most p ow l with
  | .error x => .error x
  | .ok (n, q, _) => .ok (n, q)
theorem digitsAt_of {k p : Nat} {s : ByteArray} {l : List UInt8} (hl : s.data.toList.drop p = l) (hp : p ≤ s.size) : digitsAt k true 0 l s.size = (match digits k true 0 l with | .error x => .error x | .ok (n, _) => .ok (n, p + k)) := by
  unfold digitsAt
  cases h : digits k true 0 l with
  | error x => rfl
  | ok nr =>
    obtain ⟨n, r⟩ := nr
    obtain ⟨h1, -⟩ := digits_ok _ _ _ _ _ _ h
    have := congrArg List.length hl
    simp at this
    simp only
    congr 2
    omega
theorem digits7 {k : Nat} {l : List UInt8} {n : Nat} {r : List UInt8} (hk : k ≤ 7) (h : digits k true 0 l = .ok (n, r)) : n < 72057594037927936 := (digits_first hk h).2.1

set_option maxRecDepth 100000 in
set_option maxHeartbeats 400000 in
theorem count_any (s : ByteArray) (g p ow most : Nat) (w : World) (h : Rd s g p ow w) (hp : p ≤ 70000) (hps : p ≤ s.size) (ho : ow ≤ 70000) :
    Calls Tryz.prog 112 #[.pointer (some ⟨g, 0, none⟩), .int .i64 most] w (NumPost s g ow w (countAt most p ow (s.data.toList.drop p))) := by
  obtain ⟨R, hR⟩ : ∃ R, R = countAt most p ow (s.data.toList.drop p) := ⟨_, rfl⟩
  rw [← hR]
  have HR := Lib.hid (And.intro hR h)
  clear hR h
  cases hl : s.data.toList.drop p with
  | nil =>
    have HN := Lib.hid hl
    clear hl
    go_enter Tryz.func112, Tryz.ntmps112
    go_wp2_with fail
    refine ((next_at s g p ow _ HR.out.2 (by omega) hps).1 HN.out).mono ?_
    rintro e w2 ⟨rfl, hb1, hb2⟩
    have HB := Lib.hid (And.intro hb1 hb2)
    clear hb1 hb2
    go_wp2_with fail
    go_ret2
    refine ⟨HB.out.2, ?_⟩
    rw [HR.out.1, HN.out]
    exact ⟨by decide, rfl⟩
  | cons c r =>
    have hc255 : (c.toNat : Int) ≤ 255 := by have := byte_lt c; omega
    have hps1 : p + 1 ≤ s.size := by
      have := congrArg List.length hl
      simp at this; omega
    have hdr : s.data.toList.drop (p + 1) = r := by rw [← List.drop_drop, hl]; rfl
    have HN := Lib.hid (And.intro hl hdr)
    clear hl hdr
    by_cases hc7 : 7 < c.toNat
    · have hci : (7 : Int) < c.toNat := by omega
      go_enter Tryz.func112, Tryz.ntmps112
      go_wp2_with fail
      refine ((next_at s g p ow _ HR.out.2 (by omega) hps).2 c r HN.out.1).mono ?_
      rintro e w2 ⟨rfl, hb1, hb2⟩
      have HB := Lib.hid (And.intro hb1 hb2)
      clear hb1 hb2
      go_wp2_with fail
      go_ret2
      refine ⟨HB.out.2, ?_⟩
      rw [HR.out.1, HN.out.1, countAt, count, if_pos hc7]
      exact ⟨by decide, rfl⟩
    · have hci : (c.toNat : Int) ≤ 7 := by omega
      go_enter Tryz.func112, Tryz.ntmps112
      go_wp2_with fail
      refine ((next_at s g p ow _ HR.out.2 (by omega) hps).2 c r HN.out.1).mono ?_
      rintro e w2 ⟨rfl, hb1, hb2⟩
      have HB := Lib.hid (And.intro hb1 hb2)
      clear hb1 hb2
      go_wp2_with fail
      refine (number_any s g (p + 1) ow c.toNat _ HB.out.1 (by omega) hps1 (by omega)).mono ?_
      rw [HN.out.2, digitsAt_of HN.out.2 hps1]
      rintro e w3 ⟨hk3, hres⟩
      cases hd : digits c.toNat true 0 r with
      | error x =>
        rw [hd] at hres
        obtain ⟨hx0, rfl⟩ := hres
        have hx : (x == 0) = false := by simpa using hx0
        have HX := Lib.hid (And.intro hd (And.intro hk3 hx0))
        clear hd hk3 hx0
        go_wp2_with fail
        go_ret2
        refine ⟨HB.out.2.trans HX.out.2.1, ?_⟩
        rw [HR.out.1, HN.out.1, countAt, count, if_neg hc7, HX.out.1]
        exact ⟨HX.out.2.2, rfl⟩
      | ok nr =>
        obtain ⟨n, r'⟩ := nr
        rw [hd] at hres
        obtain ⟨rfl, hrd, hq⟩ := hres
        have hn7 := digits7 (by omega) hd
        have HX := Lib.hid (And.intro hd (And.intro hk3 (And.intro hrd hq)))
        clear hd hk3 hrd hq
        have hRR : R = if most < n ∨ 65536 < p + 1 + c.toNat + n + ow then .error 3 else .ok (n, p + 1 + c.toNat) := by
          rw [HR.out.1, HN.out.1, countAt, count, if_neg hc7, HX.out.1]
          by_cases hx : most < n ∨ 65536 < p + 1 + c.toNat + n + ow
          · simp only [if_pos hx]
          · simp only [if_neg hx]
        have HRR := Lib.hid hRR
        clear hRR
        by_cases hmost : most < n
        · have hmi : (most : Int) < n := by omega
          go_wp2_with fail
          go_ret2
          refine ⟨HB.out.2.trans HX.out.2.1, ?_⟩
          rw [HRR.out, if_pos (.inl hmost)]
          exact ⟨by decide, rfl⟩
        · have hmi : (n : Int) ≤ most := by omega
          have hmd : decide ((most : Int) < n) = false := decide_eq_false (by omega)
          go_wp2_with fail
          refine (room_any s g (p + 1 + c.toNat) ow n _ HX.out.2.2.1 (by omega) (by omega) (by omega)).mono ?_
          rintro e w4 ⟨rfl, hb1, hb2⟩
          have HB4 := Lib.hid (And.intro hb1 hb2)
          clear hb1 hb2
          by_cases hroom : p + 1 + c.toNat + n + ow ≤ 65536
          · have hrt : decide (p + 1 + c.toNat + n + ow ≤ 65536) = true := decide_eq_true hroom
            rw [hrt]
            have HRT := Lib.hid hroom
            clear hrt hroom
            go_wp2_with fail
            go_ret2
            refine ⟨(HB.out.2.trans HX.out.2.1).trans HB4.out.2, ?_⟩
            have h9 := HRT.out
            rw [HRR.out, if_neg (by omega)]
            exact ⟨rfl, HB4.out.1, HX.out.2.2.2⟩
          · have hrt : decide (p + 1 + c.toNat + n + ow ≤ 65536) = false := decide_eq_false hroom
            rw [hrt]
            have HRT := Lib.hid hroom
            clear hrt hroom
            go_wp2_with fail
            go_ret2
            refine ⟨(HB.out.2.trans HX.out.2.1).trans HB4.out.2, ?_⟩
            have h9 := HRT.out
            rw [HRR.out, if_pos (by omega)]
            exact ⟨by decide, rfl⟩
end Go.Proofs.YtefpfedpgedloaaGreatDoor
