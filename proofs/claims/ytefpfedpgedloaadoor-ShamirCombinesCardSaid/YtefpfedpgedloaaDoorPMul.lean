/- poly.Mul. -/
import Derived.Test.YtefpfedpgedloaaDoorPSum
namespace Go.Proofs.YtefpfedpgedloaaDoor
open Go.RowKit
open Gf

/-- What stands in memory behind k rounds. -/
def mK (p q : List UInt8) (n : Nat) : Nat → List UInt8
  | 0 => List.replicate n 0
  | k + 1 => addAt (mK p q n k) k q (co p k)
theorem mK_length (p q : List UInt8) (n : Nat) : ∀ k, (mK p q n k).length = n
  | 0 => List.length_replicate
  | k + 1 => by rw [mK, addAt_length, mK_length p q n k]
theorem co_mK (p q : List UInt8) (n : Nat) : ∀ k, k + q.length ≤ n + 1 → ∀ t, co (mK p q n k) t = conv p q t k
  | 0, _, t => by rw [mK, co_replicate]; rfl
  | k + 1, h, t => by rw [mK, co_addAt _ (by rw [mK_length]; omega), co_mK p q n k (by omega) t]; rfl
theorem trimB_list (s : ByteArray) : trimL (trimB s).data.toList = (trimB s).data.toList := by
  unfold trimB; rw [str_data, trimL_trimL]
/-- The product is trimmed by itself. -/
theorem mK_all {p q : ByteArray} {n : Nat} (hp : trimL p.data.toList = p.data.toList) (hq : trimL q.data.toList = q.data.toList) (hp0 : 0 < p.size) (hq0 : 0 < q.size) (hn : n = p.size + q.size - 1) :
    str (mK p.data.toList q.data.toList n p.size) = mulB p q := by
  have h1 := data_len p
  have h2 := data_len q
  have hc : ∀ t, co (mK p.data.toList q.data.toList n p.size) t = co (mulP p.data.toList q.data.toList) t := fun t => by
    rw [co_mK _ _ _ _ (by omega) t, co_mulP, h1]
  have ht : trimL (mK p.data.toList q.data.toList n p.size) = mK p.data.toList q.data.toList n p.size := by
    refine trimL_of_last (.inr ?_)
    rw [hc, co_mulP, mK_length, show n - 1 = p.data.toList.length + q.data.toList.length - 2 by omega, conv_top _ _ (by omega) (by omega)]
    intro e
    rcases mul_eq_zero e with e1 | e1
    · exact trimL_last hp (by intro e2; rw [e2] at h1; simp at h1; omega) e1
    · exact trimL_last hq (by intro e2; rw [e2] at h2; simp at h2; omega) e1
  unfold mulB
  rw [← trimL_same hc, ht]
theorem mulB_trim (a b : ByteArray) : mulB (trimB a) (trimB b) = mulB a b := by
  unfold mulB
  congr 1
  exact trimL_same (mul_same (co_trimL _) (co_trimL _))
theorem mulB_comm (a b : ByteArray) : mulB a b = mulB b a := by
  unfold mulB
  congr 1
  exact trimL_same (co_mulP_comm _ _)
theorem mulB_none {a b : ByteArray} (h : a.size = 0) : mulB a b = ⟨#[]⟩ := by
  have : a.data.toList = [] := List.length_eq_zero_iff.1 (by rw [data_len]; exact h)
  unfold mulB
  rw [this, mulP]
  rfl
theorem nonempty_ne {s : ByteArray} (h : s.size ≠ 0) : (s.toList == []) = false := by
  have h1 : s.data.toList.length ≠ 0 := by rw [data_len]; exact h
  rw [toList_data]
  generalize s.data.toList = l at *
  cases l with
  | nil => exact absurd rfl h1
  | cons => rfl
theorem empty_eq {s : ByteArray} (h : s.size = 0) : s = ⟨#[]⟩ := bytes_of_list (by
  have e : s.data.toList = [] := List.length_eq_zero_iff.1 (by rw [data_len]; exact h)
  rw [e])
set_option maxRecDepth 100000 in
set_option maxHeartbeats 1000000 in
theorem pmul_any (a b : ByteArray) (ha : a.size ≤ 100000) (hb : b.size ≤ 100000) (w : World) :
    Calls Tryd.prog 49 #[.string a, .string b] w fun e w' => e = .returned (.string (mulB a b)) ∧ Below w.heap.size w w' := by
  have t1 := trimmed_any a (by unfold maxLen; omega)
  have t2 := trimmed_any b (by unfold maxLen; omega)
  have hmt := mulB_trim a b
  have hat := trimB_list a
  have hbt := trimB_list b
  have sa := trimB_size a
  have sb := trimB_size b
  generalize trimB a = A at *
  generalize trimB b = B at *
  rw [← hmt]
  have HT := Lib.hid (And.intro t1 t2)
  have sA : A.size ≤ 100000 := by omega
  have sB : B.size ≤ 100000 := by omega
  clear t1 t2 hmt ha hb sa sb
  by_cases hsw : B.size < A.size
  · have hswi : (B.size : Int) < (A.size : Int) := by omega
    by_cases h0 : B.size = 0
    · have hr : mulB A B = ⟨#[]⟩ := by rw [mulB_comm]; exact mulB_none h0
      rw [hr]
      obtain rfl := empty_eq h0
      clear h0 hr hat hbt
      go_enter Tryd.func49, Tryd.ntmps49
      go_wp2_with fail
      refine (HT.out.1 _).mono ?_
      rintro e w' ⟨rfl, rfl⟩
      go_wp2_with fail
      refine (HT.out.2 _).mono ?_
      rintro e w' ⟨rfl, rfl⟩
      go_wp2_with fail
      go_ret
      exact ⟨rfl, Below.refl _ _⟩
    · have hne := nonempty_ne h0
      have hq0 : 0 < A.size := by omega
      have hp0 : 0 < B.size := by omega
      obtain ⟨n, hn⟩ : ∃ n, n = B.size + A.size - 1 := ⟨_, rfl⟩
      have hni : (B.size : Int) + (A.size : Int) - 1 = (n : Int) := by omega
      have hall : str (mK B.data.toList A.data.toList n B.size) = mulB A B := by rw [mulB_comm]; exact mK_all hbt hat hp0 hq0 hn
      obtain ⟨w0, hmk, hown, hb0⟩ := make_bytes w n (by omega)
      have H0 := Lib.hid (And.intro hown hb0)
      have HA := Lib.hid (And.intro hall hn)
      have hwn : IntKind.i64.wrap (n : Int) = (n : Int) := by rw [IntWalk.i64_in _ (by omega)]
      clear hown hb0 hall hn h0 hat hbt
      go_enter Tryd.func49, Tryd.ntmps49
      go_wp2_with fail
      refine (HT.out.1 _).mono ?_
      rintro e w' ⟨rfl, rfl⟩
      go_wp2_with fail
      refine (HT.out.2 _).mono ?_
      rintro e w' ⟨rfl, rfl⟩
      go_wp2_with fail
      clear hmk hne
      go_loopw [6, 29] (fun _ j wr => ∃ k : Nat, k ≤ B.size ∧ j = .int .i64 (k : Int) ∧ OwnB w.heap.size wr (some ⟨w.heap.size, 0, none⟩) n (mK B.data.toList A.data.toList n k) ∧ Below w.heap.size w wr) (fun _ j _ => B.size - (intOf j).toNat)
      case atStart => exact ⟨0, by omega, rfl, H0.out.1, H0.out.2⟩
      case round =>
        clear H0
        obtain ⟨k, hk, rfl, ho, hbw⟩ := hrel
        have hlen := mK_length B.data.toList A.data.toList n k
        by_cases hlt : k < B.size
        · have hkn : (k : Int) < (n : Int) := by have := HA.out.2; omega
          have hkn2 : (k : Int) ≤ (n : Int) := by omega
          have hcall := addTimes_any ho.drew k (n - k) (n - k) A (by omega) (by have := HA.out.2; omega) (by rw [hlen]; have := HA.out.2; omega) B[k]
          rw [← co_at B k hlt] at hcall
          have hst : addAt (mK B.data.toList A.data.toList n k) k A.data.toList (co B.data.toList k) = mK B.data.toList A.data.toList n (k + 1) := rfl
          rw [hst, co_at B k hlt] at hcall
          have HP := Lib.hid (And.intro hcall hbw.drew)
          clear ho hbw hcall hst hlen
          go_wp2_with fail
          refine wp_region_still_tail 7 (by kernel_rfl) (by kernel_rfl) ?_
          simp only [List.take_succ_cons, List.take_zero, List.drop_succ_cons, List.drop_zero]
          repeat still_step
          refine wpStill_nil ?_
          change wpList _ _ _ _ _ wr.drew
          generalize wr.drew = w3 at *
          go_wp2_with fail
          refine HP.out.1.mono ?_
          rintro e w4 ⟨rfl, ho, hon⟩
          have H4 := Lib.hid (And.intro ho (HP.out.2.trans hon.below))
          clear ho hon
          go_wp2_with fail
          go_roundw
          case rel => exact ⟨k + 1, by omega, by go_num, H4.out.1, H4.out.2⟩
          case measure => simp [intOf]; omega
        · obtain rfl : k = B.size := by omega
          have hcv := ho.conv
          rw [hlen, HA.out.1] at hcv
          have HB := Lib.hid hbw
          clear ho hbw hlen
          go_wp2_with fail
          go_ret
          exact ⟨rfl, HB.out⟩
  · have hswi : ¬ ((B.size : Int) < (A.size : Int)) := by omega
    by_cases h0 : A.size = 0
    · have hr : mulB A B = ⟨#[]⟩ := by exact mulB_none h0
      rw [hr]
      obtain rfl := empty_eq h0
      clear h0 hr hat hbt
      go_enter Tryd.func49, Tryd.ntmps49
      go_wp2_with fail
      refine (HT.out.1 _).mono ?_
      rintro e w' ⟨rfl, rfl⟩
      go_wp2_with fail
      refine (HT.out.2 _).mono ?_
      rintro e w' ⟨rfl, rfl⟩
      go_wp2_with fail
      go_ret
      exact ⟨rfl, Below.refl _ _⟩
    · have hne := nonempty_ne h0
      have hq0 : 0 < B.size := by omega
      have hp0 : 0 < A.size := by omega
      obtain ⟨n, hn⟩ : ∃ n, n = A.size + B.size - 1 := ⟨_, rfl⟩
      have hni : (A.size : Int) + (B.size : Int) - 1 = (n : Int) := by omega
      have hall : str (mK A.data.toList B.data.toList n A.size) = mulB A B := by exact mK_all hat hbt hp0 hq0 hn
      obtain ⟨w0, hmk, hown, hb0⟩ := make_bytes w n (by omega)
      have H0 := Lib.hid (And.intro hown hb0)
      have HA := Lib.hid (And.intro hall hn)
      have hwn : IntKind.i64.wrap (n : Int) = (n : Int) := by rw [IntWalk.i64_in _ (by omega)]
      clear hown hb0 hall hn h0 hat hbt
      go_enter Tryd.func49, Tryd.ntmps49
      go_wp2_with fail
      refine (HT.out.1 _).mono ?_
      rintro e w' ⟨rfl, rfl⟩
      go_wp2_with fail
      refine (HT.out.2 _).mono ?_
      rintro e w' ⟨rfl, rfl⟩
      go_wp2_with fail
      clear hmk hne
      go_loopw [6, 29] (fun _ j wr => ∃ k : Nat, k ≤ A.size ∧ j = .int .i64 (k : Int) ∧ OwnB w.heap.size wr (some ⟨w.heap.size, 0, none⟩) n (mK A.data.toList B.data.toList n k) ∧ Below w.heap.size w wr) (fun _ j _ => A.size - (intOf j).toNat)
      case atStart => exact ⟨0, by omega, rfl, H0.out.1, H0.out.2⟩
      case round =>
        clear H0
        obtain ⟨k, hk, rfl, ho, hbw⟩ := hrel
        have hlen := mK_length A.data.toList B.data.toList n k
        by_cases hlt : k < A.size
        · have hkn : (k : Int) < (n : Int) := by have := HA.out.2; omega
          have hkn2 : (k : Int) ≤ (n : Int) := by omega
          have hcall := addTimes_any ho.drew k (n - k) (n - k) B (by omega) (by have := HA.out.2; omega) (by rw [hlen]; have := HA.out.2; omega) A[k]
          rw [← co_at A k hlt] at hcall
          have hst : addAt (mK A.data.toList B.data.toList n k) k B.data.toList (co A.data.toList k) = mK A.data.toList B.data.toList n (k + 1) := rfl
          rw [hst, co_at A k hlt] at hcall
          have HP := Lib.hid (And.intro hcall hbw.drew)
          clear ho hbw hcall hst hlen
          go_wp2_with fail
          refine wp_region_still_tail 7 (by kernel_rfl) (by kernel_rfl) ?_
          simp only [List.take_succ_cons, List.take_zero, List.drop_succ_cons, List.drop_zero]
          repeat still_step
          refine wpStill_nil ?_
          change wpList _ _ _ _ _ wr.drew
          generalize wr.drew = w3 at *
          go_wp2_with fail
          refine HP.out.1.mono ?_
          rintro e w4 ⟨rfl, ho, hon⟩
          have H4 := Lib.hid (And.intro ho (HP.out.2.trans hon.below))
          clear ho hon
          go_wp2_with fail
          go_roundw
          case rel => exact ⟨k + 1, by omega, by go_num, H4.out.1, H4.out.2⟩
          case measure => simp [intOf]; omega
        · obtain rfl : k = A.size := by omega
          have hcv := ho.conv
          rw [hlen, HA.out.1] at hcv
          have HB := Lib.hid hbw
          clear ho hbw hlen
          go_wp2_with fail
          go_ret
          exact ⟨rfl, HB.out⟩
end Go.Proofs.YtefpfedpgedloaaDoor
