/- shamir.sum; halves of lists. -/
import Derived.Test.YtefpfedpgedloaaGreatDoorVRep
import Derived.Test.YtefpfedpgedloaaGreatDoorMV4
import Derived.Test.YtefpfedpgedloaaGreatDoorMV1
import Derived.StillTailTactics
import Derived.BigQuiet
namespace Go.Proofs.YtefpfedpgedloaaGreatDoor
open Go.RowKit
open Gf

/-- The first k bytes exclusive or those of another text. -/
def xorTo (t s : List UInt8) (k : Nat) : List UInt8 := (List.range t.length).map fun i => if i < k then co t i ^^^ co s i else co t i
theorem xorTo_length (t s : List UInt8) (k : Nat) : (xorTo t s k).length = t.length := by simp [xorTo]
theorem xorTo_get (t s : List UInt8) (k i : Nat) (hi : i < t.length) : (xorTo t s k).getD i 0 = if i < k then co t i ^^^ co s i else co t i := by
  unfold xorTo; rw [List.getD_eq_getElem?_getD]; simp only [List.getElem?_map, List.getElem?_range hi, Option.map_some, Option.getD_some]
theorem xorTo_zero (t s : List UInt8) : xorTo t s 0 = t := by
  apply List.ext_getElem?
  intro i
  unfold xorTo co
  by_cases hi : i < t.length
  · simp [hi]
  · simp [hi]
theorem xorTo_all (a b : ByteArray) : str (xorTo a.data.toList b.data.toList a.size) = xorY a b := by
  unfold xorTo xorY
  rw [data_len]
  congr 1
  refine List.map_congr_left fun i hi => ?_
  rw [if_pos (List.mem_range.1 hi)]
set_option maxRecDepth 100000 in
set_option maxHeartbeats 1000000 in
theorem sum_any (a b : ByteArray) (hab : b.size = a.size) (ha : a.size ≤ 1000) (w : World) :
    Calls Tryz.prog 20 #[.string a, .string b] w fun e w' => e = .returned (.string (xorY a b)) ∧ Below w.heap.size w w' := by
  obtain ⟨cap, w2, hcv, hrow, hb2, hz2⟩ := conv_bytes w a
  rw [← xorTo_zero a.data.toList b.data.toList] at hrow
  have hall := xorTo_all a b
  obtain ⟨R, hR⟩ : ∃ R, R = xorY a b := ⟨_, rfl⟩
  rw [← hR] at hall ⊢
  obtain ⟨n, hn⟩ : ∃ n, n = a.size := ⟨_, rfl⟩
  rw [← hn] at hcv hall ha
  have hbn : b.size = n := by omega
  have htl : a.data.toList.length = n := by rw [data_len, hn]
  have HI := Lib.hid (And.intro hrow (And.intro hb2 (And.intro hall (And.intro htl hbn))))
  clear hrow hb2 hz2 hR hall hn htl hab
  go_enter Tryz.func20, Tryz.ntmps20
  go_wp2_with fail
  clear hcv
  go_loopw [6, 11] (fun _ i wr => ∃ k : Nat, k ≤ n ∧ i = .int .i64 (k : Int) ∧ Row8 w.heap.size wr w.heap.size (xorTo a.data.toList b.data.toList k) ∧ Below w.heap.size w wr) (fun _ i _ => n - (intOf i).toNat)
  case atStart => exact ⟨0, by omega, rfl, HI.out.1, HI.out.2.1⟩
  case round =>
    obtain ⟨k, hk, rfl, hR, hb⟩ := hrel
    by_cases hlt : k < n
    · have hkl : k < (xorTo a.data.toList b.data.toList k).length := by rw [xorTo_length, HI.out.2.2.2.1]; exact hlt
      obtain ⟨hc, hf⟩ := hR.2.2 k hkl
      rw [xorTo_get _ _ _ _ (by rw [HI.out.2.2.2.1]; exact hlt), if_neg (by omega)] at hc
      obtain ⟨x, hx⟩ : ∃ x, x = co a.data.toList k := ⟨_, rfl⟩
      rw [← hx] at hc
      have hlS : k < b.size := by have := HI.out.2.2.2.2; omega
      obtain ⟨y, hy⟩ : ∃ y, y = b[k] := ⟨_, rfl⟩
      have hys : co b.data.toList k = y := by rw [hy]; exact co_at b k hlS
      obtain ⟨z, hz⟩ : ∃ z, z = x ^^^ y := ⟨_, rfl⟩
      have hxz : bits .xor .u8 (x.toNat : Int) (y.toNat : Int) = (z.toNat : Int) := by rw [hz]; exact u_xor x y
      have hput := Row8.put (l' := xorTo a.data.toList b.data.toList (k + 1)) (w := wr.drew) hR.drew k hkl z (by rw [xorTo_length, xorTo_length]) (by rw [xorTo_get _ _ _ _ (by rw [HI.out.2.2.2.1]; exact hlt), if_pos (by omega), hz, hx, hys]) (fun i hi hne => by
        rw [xorTo_length] at hi
        rw [xorTo_get _ _ _ _ hi, xorTo_get _ _ _ _ hi]
        by_cases h1 : i < k
        · rw [if_pos (by omega), if_pos h1]
        · rw [if_neg (by omega), if_neg h1])
      have hc2 : wr.drew.cell? ⟨w.heap.size, k, none⟩ = some (.int .u8 (x.toNat : Int)) := hc
      have hf2 : wr.drew.frozen? ⟨w.heap.size, k, none⟩ = false := hf
      have HK := Lib.hid (And.intro hput (hb.drew.setCell (p := ⟨w.heap.size, k, none⟩) (Nat.le_refl _) (.int .u8 (z.toNat : Int))))
      have HY := Lib.hid hy
      clear hR hb hx hys hz hput hkl hy
      go_wp2_with fail
      refine wp_region_still_tail 9 (by kernel_rfl) (by kernel_rfl) ?_
      simp only [List.take_succ_cons, List.take_zero, List.drop_succ_cons, List.drop_zero]
      repeat still_step
      try rw [← HY.out]
      try rw [hxz]
      refine wpStill_nil ?_
      change wpList _ _ _ _ _ wr.drew
      clear hc hf
      generalize wr.drew = w3 at *
      go_wp2_with fail
      go_roundw
      case rel => exact ⟨k + 1, by omega, by go_num, HK.out.1, HK.out.2⟩
      case measure => simp [intOf]; omega
    · obtain rfl : k = n := by omega
      have hcv := hR.conv k (by rw [xorTo_length, HI.out.2.2.2.1]) cap
      rw [HI.out.2.2.1] at hcv
      have HB := Lib.hid hb
      clear hR hb
      go_wp2_with fail
      go_ret
      exact ⟨rfl, HB.out⟩
/-- Shares that are refreshed. -/
structure RGood (l : List Shr) (d : ByteArray) : Prop where
  alk : alk l = true
  ne : l ≠ []
  xs : ∀ (k : Nat) s, l[k]? = some s → s.x = (k : Int) + 1
  may : mayP (zS (len0 l)) d (need0 l) l.length = true
/-- The first so many of these, the others of those. -/
def half {α : Type} (A B : List α) (k : Nat) : List α := A.take k ++ B.drop k
theorem half_zero {α : Type} (A B : List α) : half A B 0 = B := by unfold half; simp
theorem half_all {α : Type} {A B : List α} {n : Nat} (ha : A.length = n) (hb : B.length = n) : half A B n = A := by
  unfold half; rw [List.take_of_length_le (by omega), List.drop_of_length_le (by omega), List.append_nil]
theorem half_length {α : Type} {A B : List α} {n k : Nat} (ha : A.length = n) (hb : B.length = n) (hk : k ≤ n) : (half A B k).length = n := by
  unfold half; rw [List.length_append, List.length_take, List.length_drop]; omega
theorem half_get {α : Type} {A B : List α} {n k : Nat} (ha : A.length = n) (_hb : B.length = n) (hk : k < n) : (half A B k)[k]? = B[k]? := by
  unfold half
  rw [List.getElem?_append_right (by rw [List.length_take]; omega), List.length_take, List.getElem?_drop, ha, Nat.min_eq_left (by omega), Nat.sub_self, Nat.add_zero]
theorem half_set {α : Type} {A B : List α} {n k : Nat} {x : α} (ha : A.length = n) (hb : B.length = n) (hk : k < n) (hx : A[k]? = some x) : (half A B k).set k x = half A B (k + 1) := by
  apply List.ext_getElem?
  intro i
  by_cases e : k = i
  · subst e
    rw [List.getElem?_set_self (by rw [half_length ha hb (by omega)]; exact hk)]
    unfold half
    rw [List.getElem?_append_left (by rw [List.length_take]; omega), List.getElem?_take, if_pos (by omega), hx]
  · rw [List.getElem?_set_ne e]
    unfold half
    by_cases h : i < k
    · rw [List.getElem?_append_left (by rw [List.length_take]; omega), List.getElem?_append_left (by rw [List.length_take]; omega), List.getElem?_take, List.getElem?_take, if_pos h, if_pos (by omega)]
    · rw [List.getElem?_append_right (by rw [List.length_take]; omega), List.getElem?_append_right (by rw [List.length_take]; omega), List.length_take, List.length_take, List.getElem?_drop, List.getElem?_drop]
      congr 1; omega
end Go.Proofs.YtefpfedpgedloaaGreatDoor
