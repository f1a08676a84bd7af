/- poly.Add, Scale, Mul. -/
import Derived.Test.YtefpfedpgedloaaDoorPAdd
import Derived.Test.YtefpfedpgedloaaDoorCopyB
namespace Go.Proofs.YtefpfedpgedloaaDoor
open Go.RowKit
open Gf

/-- Sum, product, and product with a byte, trimmed. -/
def sumB (a b : ByteArray) : ByteArray := str (trimL (addP a.data.toList b.data.toList))
def mulB (a b : ByteArray) : ByteArray := str (trimL (mulP a.data.toList b.data.toList))
def scaleB (p : ByteArray) (c : UInt8) : ByteArray := str (trimL (p.data.toList.map (mul · c)))
theorem sumB_size (a b : ByteArray) : (sumB a b).size ≤ max a.size b.size := by
  unfold sumB; rw [str_size]
  have := trimL_length (addP a.data.toList b.data.toList)
  rw [addP_length] at this
  simpa using this
theorem mulB_size (a b : ByteArray) (h : 0 < a.size + b.size) : (mulB a b).size ≤ a.size + b.size - 1 := by
  unfold mulB; rw [str_size]
  refine trimL_len_le (fun i hi => mulP_length _ _ i ?_)
  have h1 : a.data.toList.length = a.size := by simp
  have h2 : b.data.toList.length = b.size := by simp
  omega
theorem scaleB_size (p : ByteArray) (c : UInt8) : (scaleB p c).size ≤ p.size := by
  unfold scaleB; rw [str_size]
  have := trimL_length (p.data.toList.map (mul · c))
  simpa using this
theorem data_len (s : ByteArray) : s.data.toList.length = s.size := by simp
theorem co_zeros_app (p : List UInt8) (n i : Nat) : co (p ++ List.replicate n 0) i = co p i := by
  unfold co
  rw [List.getD_eq_getElem?_getD, List.getD_eq_getElem?_getD]
  rcases Nat.lt_or_ge i p.length with h | h
  · rw [List.getElem?_append_left h]
  · rw [List.getElem?_append_right h, List.getElem?_eq_none h, List.getElem?_replicate]
    split <;> rfl
/-- What stands in memory behind the sum's loop. -/
def sumK (a b : ByteArray) (n : Nat) : Nat → List UInt8 := addK (a.data.toList ++ (List.replicate n 0).drop a.size) 0 b.data.toList 1
theorem sumK_all {a b : ByteArray} {n : Nat} (ha : a.size ≤ n) (hb : b.size ≤ n) : trimB (str (sumK a b n b.size)) = sumB a b := by
  unfold trimB sumB
  rw [str_data]
  congr 1
  refine trimL_same (fun i => ?_)
  rw [show sumK a b n b.size = addAt (a.data.toList ++ (List.replicate n 0).drop a.size) 0 b.data.toList 1 by unfold sumK addAt; rw [data_len],
    co_addAt, co_addP, List.drop_replicate, co_zeros_app, if_pos (Nat.zero_le _), one_mul, Nat.sub_zero]
  rw [List.length_append, List.length_drop, List.length_replicate, data_len, data_len]; omega
set_option maxRecDepth 100000 in
set_option maxHeartbeats 1000000 in
theorem padd_any (a b : ByteArray) (ha : a.size ≤ 100000) (hb : b.size ≤ 100000) (w : World) :
    Calls Tryd.prog 47 #[.string a, .string b] w fun e w' => e = .returned (.string (sumB a b)) ∧ Below w.heap.size w w' := by
  obtain ⟨n, hn⟩ : ∃ n, n = max a.size b.size := ⟨_, rfl⟩
  have hm : max (a.size : Int) (b.size : Int) = (n : Int) := by omega
  have hna : a.size ≤ n := by omega
  have hnb : b.size ≤ n := by omega
  have hn2 : n ≤ 100000 := by omega
  have hall := sumK_all hna hnb
  obtain ⟨w0, hmk, hown, hb0⟩ := make_bytes w n (by omega)
  have HC := Lib.hid (show OwnB w.heap.size w0 (some ⟨w.heap.size, 0, none⟩) n (List.replicate n 0) ∧ (List.replicate n (0 : UInt8)).length = n ∧ a.size ≤ n ∧ Below w.heap.size w w0 from ⟨hown, List.length_replicate, hna, hb0⟩)
  have HA := Lib.hid hall
  clear hn hown hb0 hall
  go_enter Tryd.func47, Tryd.ntmps47
  go_wp2_with (refine wpList_copy_own_text rfl (.tmp 13) (.tmp 14) 53 9 rfl Tryd.underlying53 a HC rfl rfl ?_; intro w1 hC1)
  clear hmk hm
  go_loopw [6, 18] (fun _ j wr => ∃ k : Nat, k ≤ b.size ∧ j = .int .i64 (k : Int) ∧ OwnB w.heap.size wr (some ⟨w.heap.size, 0, none⟩) n (sumK a b n k) ∧ Below w.heap.size w wr) (fun _ j _ => b.size - (intOf j).toNat)
  case atStart => exact ⟨0, by omega, rfl, hC1.out.1, hC1.out.2⟩
  case round =>
    clear hC1
    obtain ⟨k, hk, rfl, ho, hbw⟩ := hrel
    have hlen : (sumK a b n k).length = n := by
      unfold sumK
      rw [addK_length, List.length_append, List.length_drop, List.length_replicate, data_len]; omega
    by_cases hlt : k < b.size
    · have c1 := ho.cellAt k (by omega)
      have f1 := ho.frozenAt k
      obtain ⟨x, hx⟩ : ∃ x, x = (sumK a b n k).getD k 0 := ⟨_, rfl⟩
      obtain ⟨y, hy⟩ : ∃ y, y = b[k] := ⟨_, rfl⟩
      obtain ⟨z, hz⟩ : ∃ z, z = x ^^^ y := ⟨_, rfl⟩
      have e1 : bits .xor .u8 (x.toNat : Int) (b[k].toNat : Int) = (z.toNat : Int) := by rw [u_xor, hz, hy]
      rw [← hx] at c1
      have hst : (sumK a b n k).set k z = sumK a b n (k + 1) := by
        have h1 : sumK a b n (k + 1) = (sumK a b n k).set (0 + k) (co (sumK a b n k) (0 + k) ^^^ mul 1 (co b.data.toList k)) := rfl
        rw [h1, Nat.zero_add, one_mul, co_at b k hlt, hz, hx, hy]; rfl
      have hp := ho.drew.put k z
      rw [hst] at hp
      have hpb := hbw.drew.setCell (p := ⟨w.heap.size, k, none⟩) (Nat.le_refl _) (.int .u8 (z.toNat : Int))
      have c1' : wr.drew.cell? ⟨w.heap.size, k, none⟩ = some (.int .u8 (x.toNat : Int)) := c1
      have f1' : wr.drew.frozen? ⟨w.heap.size, k, none⟩ = false := f1
      have hkn : (k : Int) < (n : Int) := by omega
      have HP := Lib.hid (And.intro hp hpb)
      clear ho hbw hp hpb hst hx hy hz hlen
      go_wp2_with fail
      refine wp_region_still_tail 9 (by kernel_rfl) (by kernel_rfl) ?_
      simp only [List.take_succ_cons, List.take_zero, List.drop_succ_cons, List.drop_zero]
      repeat still_step
      refine wpStill_nil ?_
      change wpList _ _ _ _ _ wr.drew
      clear c1 f1
      generalize wr.drew = w3 at *
      go_wp2_with fail
      go_roundw
      case rel => exact ⟨k + 1, by omega, by go_num, HP.out.1, HP.out.2⟩
      case measure => simp [intOf]; omega
    · obtain rfl : k = b.size := by omega
      obtain ⟨L, hL⟩ : ∃ L, L = str (sumK a b n b.size) := ⟨_, rfl⟩
      have hcv := ho.conv
      rw [hlen, ← hL] at hcv
      have hLs : L.size ≤ maxLen := by rw [hL, str_size, hlen]; unfold maxLen; omega
      have hLt : trimB L = sumB a b := by rw [hL]; exact HA.out
      have HB := Lib.hid (And.intro hbw (And.intro hLs hLt))
      clear ho hbw hlen hL hLs hLt
      go_wp2_with fail
      refine (trimmed_any L HB.out.2.1 _).mono ?_
      rintro e w2 ⟨rfl, rfl⟩
      go_wp2_with fail
      go_ret
      exact ⟨by rw [← HB.out.2.2]; rfl, HB.out.1⟩
theorem scale_all {p : ByteArray} (c : UInt8) : trimB (str (addAt (List.replicate p.size 0) 0 p.data.toList c)) = scaleB p c := by
  unfold trimB scaleB
  rw [str_data]
  congr 1
  refine trimL_same (fun i => ?_)
  rw [co_addAt, co_map _ (zero_mul c), co_replicate, if_pos (Nat.zero_le _), Nat.sub_zero, UInt8.zero_xor, mul_comm]
  rw [List.length_replicate, data_len]; omega
set_option maxRecDepth 100000 in
set_option maxHeartbeats 1000000 in
theorem pscale_any (p : ByteArray) (hp : p.size ≤ 100000) (c : UInt8) (w : World) :
    Calls Tryd.prog 48 #[.string p, .int .u8 (c.toNat : Int)] w fun e w' => e = .returned (.string (scaleB p c)) ∧ Below w.heap.size w w' := by
  obtain ⟨w0, hmk, hown, hb0⟩ := make_bytes w p.size (by omega)
  have hcall := addTimes_any hown 0 p.size p.size p (by omega) (Nat.le_refl _) (by rw [List.length_replicate]; omega) c
  have HC := Lib.hid (And.intro hcall hb0)
  have HA := Lib.hid (scale_all (p := p) c)
  clear hown hb0 hcall
  go_enter Tryd.func48, Tryd.ntmps48
  go_wp2_with fail
  clear hmk
  refine HC.out.1.mono ?_
  rintro e w1 ⟨rfl, ho, hon⟩
  obtain ⟨L, hL⟩ : ∃ L, L = str (addAt (List.replicate p.size 0) 0 p.data.toList c) := ⟨_, rfl⟩
  have hcv := ho.conv
  have hlen : (addAt (List.replicate p.size 0) 0 p.data.toList c).length = p.size := by rw [addAt_length, List.length_replicate]
  rw [hlen, ← hL] at hcv
  have hLs : L.size ≤ maxLen := by rw [hL, str_size, hlen]; unfold maxLen; omega
  have hLt : trimB L = scaleB p c := by rw [hL]; exact HA.out
  have hbw : Below w.heap.size w w1 := HC.out.2.trans hon.below
  have HB := Lib.hid (And.intro hbw (And.intro hLs hLt))
  clear ho hbw hlen hL hLs hLt hon
  go_wp2_with fail
  refine (trimmed_any L HB.out.2.1 _).mono ?_
  rintro e w2 ⟨rfl, rfl⟩
  go_wp2_with fail
  go_ret
  exact ⟨by rw [← HB.out.2.2]; rfl, HB.out.1⟩
end Go.Proofs.YtefpfedpgedloaaDoor
