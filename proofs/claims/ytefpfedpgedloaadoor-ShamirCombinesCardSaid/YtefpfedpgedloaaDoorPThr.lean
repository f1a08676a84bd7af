/- poly.Through. -/
import Derived.Test.YtefpfedpgedloaaDoorPAt
import Derived.Test.YtefpfedpgedloaaDoorPValQ
namespace Go.Proofs.YtefpfedpgedloaaDoor
open Go.RowKit
open Gf

/-- x, and 1: x less a place. -/
def lin (x : UInt8) : ByteArray := str [x, 1]
/-- What goes through the first k points, and what is 0 at their places. -/
def thr (l v : ByteArray) : Nat → ByteArray × ByteArray
  | 0 => (⟨#[]⟩, ⟨#[1]⟩)
  | k + 1 => (sumB (thr l v k).1 (scaleB (thr l v k).2 (mul (co v.data.toList k ^^^ valB (thr l v k).1 (co l.data.toList k)) (invz (valB (thr l v k).2 (co l.data.toList k))))),
      mulB (thr l v k).2 (lin (co l.data.toList k)))
theorem valB_sumB (a b : ByteArray) (x : UInt8) : valB (sumB a b) x = valB a x ^^^ valB b x := by
  unfold valB sumB; rw [str_data, val_trimL, val_addP]
theorem valB_mulB (a b : ByteArray) (x : UInt8) : valB (mulB a b) x = mul (valB a x) (valB b x) := by
  unfold valB mulB; rw [str_data, val_trimL, val_mulP]
theorem valB_scaleB (p : ByteArray) (c x : UInt8) : valB (scaleB p c) x = mul (valB p x) c := by
  unfold valB scaleB; rw [str_data, val_trimL, val_scale]
theorem valB_lin (q x : UInt8) : valB (lin q) x = x ^^^ q := by
  unfold valB lin; rw [str_data, val, val, val, mul_zero, UInt8.xor_zero, mul_one, UInt8.xor_comm]
theorem thr_zero (l v : ByteArray) (y : UInt8) : ∀ k, valB (thr l v k).2 y = nought l.data.toList y k
  | 0 => by
    show valB ⟨#[1]⟩ y = 1
    unfold valB
    show val [1] y = 1
    rw [val, val, mul_zero, UInt8.xor_zero]
  | k + 1 => by
    show valB (mulB (thr l v k).2 (lin (co l.data.toList k))) y = _
    rw [valB_mulB, valB_lin, thr_zero l v y k]; rfl
theorem thr_sizes (l v : ByteArray) : ∀ k, (thr l v k).1.size ≤ k ∧ (thr l v k).2.size ≤ k + 1
  | 0 => ⟨Nat.le_refl _, Nat.le_refl _⟩
  | k + 1 => by
    obtain ⟨h1, h2⟩ := thr_sizes l v k
    constructor
    · show (sumB (thr l v k).1 (scaleB (thr l v k).2 _)).size ≤ _
      have := sumB_size (thr l v k).1 (scaleB (thr l v k).2 (mul (co v.data.toList k ^^^ valB (thr l v k).1 (co l.data.toList k)) (invz (valB (thr l v k).2 (co l.data.toList k)))))
      have h3 := scaleB_size (thr l v k).2 (mul (co v.data.toList k ^^^ valB (thr l v k).1 (co l.data.toList k)) (invz (valB (thr l v k).2 (co l.data.toList k))))
      omega
    · show (mulB (thr l v k).2 (lin (co l.data.toList k))).size ≤ _
      have h4 : (lin (co l.data.toList k)).size = 2 := rfl
      have := mulB_size (thr l v k).2 (lin (co l.data.toList k)) (by omega)
      omega
theorem thr_through {l v : ByteArray} (hn : l.data.toList.Nodup) : ∀ k, k ≤ l.size → ∀ j, j < k → valB (thr l v k).1 (co l.data.toList j) = co v.data.toList j
  | 0, _, j, h => absurd h (by omega)
  | k + 1, hk, j, h => by
    show valB (sumB (thr l v k).1 (scaleB (thr l v k).2 _)) _ = _
    rw [valB_sumB, valB_scaleB, thr_zero]
    by_cases e : j = k
    · subst e
      have h0 : nought l.data.toList (co l.data.toList j) j ≠ 0 := nought_ne hn (by rw [data_len]; omega) j (Nat.le_refl _)
      rw [thr_zero, show invz (nought l.data.toList (co l.data.toList j) j) = inv (nought l.data.toList (co l.data.toList j) j) from if_neg h0]
      generalize nought l.data.toList (co l.data.toList j) j = z at *
      rw [mul_comm z, mul_assoc, mul_comm (inv z) z, mul_inv h0, mul_one]
      generalize valB _ _ = a
      rw [UInt8.xor_comm (co v.data.toList j), ← UInt8.xor_assoc, UInt8.xor_self, UInt8.zero_xor]
    · rw [nought_at k (show j < k by omega), zero_mul, UInt8.xor_zero]
      exact thr_through hn k (by omega) j (by omega)
theorem trim_sumB (a b : ByteArray) : trimB (sumB a b) = sumB a b := by
  unfold trimB sumB; rw [str_data, trimL_trimL]
theorem thr_trimmed (l v : ByteArray) : ∀ k, trimB (thr l v k).1 = (thr l v k).1
  | 0 => trimB_empty rfl
  | _ + 1 => trim_sumB _ _
/-- What goes through points, or nothing. -/
def thrB (l v : ByteArray) : ByteArray := if pts l v = true then (thr l v l.size).1 else ⟨#[]⟩
theorem conv_x1 (c : UInt8) (W : World) : (convert 53 9 (.slice (some ⟨W.heap.size, 0, none⟩) 2 2)).run Tryd.prog (W.alloc (.cells #[.int .u8 (c.toNat : Int), .int .u8 1] 5)) = .ok (.string (lin c)) (W.alloc (.cells #[.int .u8 (c.toNat : Int), .int .u8 1] 5)) := by
  have h := run_convert_bytes_arg (P := Tryd.prog) (W.alloc (.cells #[.int .u8 (c.toNat : Int), .int .u8 1] 5)) 53 5 Tryd.underlying53 Tryd.underlying5 W.heap.size 0 2 2 [(c.toNat : Int), 1] rfl (fun j hj => by
    rw [cell_of_row _ _ _ _ _ _ (heap_alloc_new _ _)]
    obtain rfl | rfl : j = 0 ∨ j = 1 := by omega
    · rfl
    · rfl) 9 Tryd.underlying9
  rw [h, show strOfNums [(c.toNat : Int), 1] = lin c from by simp [strOfNums, lin, str]]
theorem div_still (a b : UInt8) (w : World) :
    Calls Tryd.prog 46 #[.int .u8 (a.toNat : Int), .int .u8 (b.toNat : Int)] w fun e w' => e = .returned (.tuple #[.int .u8 ((mul a (invz b)).toNat : Int), .int .i64 (ierr b)]) ∧ w' = w :=
  (gfdiv_any a b w).mono fun _ _ ⟨h, k⟩ => ⟨h, k.symm⟩
set_option maxRecDepth 100000 in
set_option maxHeartbeats 2000000 in
theorem through_any (l v : ByteArray) (hs : l.size ≤ 100000) (w : World) :
    Calls Tryd.prog 38 #[.string l, .string v] w fun e w' => e = .returned (.tuple #[.string (thrB l v), .int .i64 (aerr l v)]) ∧ Below w.heap.size w w' := by
  have hp := arePoints_any l v (by unfold maxLen; omega)
  cases hpt : pts l v with
  | false =>
    rw [show thrB l v = ⟨#[]⟩ by unfold thrB; rw [hpt]; rfl, show aerr l v = 1 by unfold aerr; rw [hpt]; rfl]
    rw [hpt] at hp
    have HU := Lib.hid hp
    clear hp hpt
    go_enter Tryd.func38, Tryd.ntmps38
    go_wp2_with fail
    refine (HU.out _).mono ?_
    rintro e w1 ⟨rfl, hb⟩
    have HB := Lib.hid hb
    clear hb
    go_wp2_with fail
    go_ret2
    exact ⟨rfl, HB.out⟩
  | true =>
    obtain ⟨h1, h2, _⟩ := pts_true hpt
    rw [show aerr l v = 0 by unfold aerr; rw [hpt]; rfl, show thrB l v = (thr l v l.size).1 by unfold thrB; rw [hpt]; rfl]
    rw [hpt] at hp
    have HU := Lib.hid hp
    have hvl : (v.size : Int) = l.size := by omega
    clear hp hpt hs
    go_enter Tryd.func38, Tryd.ntmps38
    go_wp2_with fail
    refine (HU.out _).mono ?_
    rintro e w1 ⟨rfl, hb1⟩
    have H0 := Lib.hid hb1
    clear hb1
    go_wp2_with fail
    go_loopw [6, 7, 8, 9, 10, 11, 18] (fun t z _ _ _ _ i wr => ∃ k : Nat, k ≤ l.size ∧ i = .int .i64 (k : Int) ∧ t = .string (thr l v k).1 ∧ z = .string (thr l v k).2 ∧ Below w.heap.size w wr) (fun _ _ _ _ _ _ i _ => l.size - (intOf i).toNat)
    case atStart => exact ⟨0, by omega, rfl, rfl, rfl, H0.out⟩
    case round =>
      clear H0
      obtain ⟨k, hk, rfl, rfl, rfl, hb⟩ := hrel
      by_cases hlt : k < l.size
      · have hkv : k < v.size := by omega
        obtain ⟨s1, s2⟩ := thr_sizes l v k
        have hn1 : (thr l v (k + 1)).1 = sumB (thr l v k).1 (scaleB (thr l v k).2 (mul (v[k] ^^^ valB (thr l v k).1 l[k]) (invz (valB (thr l v k).2 l[k])))) := by
          rw [← co_at l k hlt, ← co_at v k hkv]; rfl
        have hn2 : (thr l v (k + 1)).2 = mulB (thr l v k).2 (lin l[k]) := by rw [← co_at l k hlt]; rfl
        obtain ⟨T, hT⟩ : ∃ T, T = (thr l v (k + 1)).1 := ⟨_, rfl⟩
        obtain ⟨Z, hZ⟩ : ∃ Z, Z = (thr l v (k + 1)).2 := ⟨_, rfl⟩
        rw [← hT] at hn1
        rw [← hZ] at hn2
        generalize (thr l v k).1 = t at *
        generalize (thr l v k).2 = z at *
        obtain ⟨y, hy⟩ : ∃ y, y = v[k] ^^^ valB t l[k] := ⟨_, rfl⟩
        have e1 := u_xor v[k] (valB t l[k])
        rw [← hy] at e1 hn1
        obtain ⟨q, hq⟩ : ∃ q, q = mul y (invz (valB z l[k])) := ⟨_, rfl⟩
        have hdiv := div_still y (valB z l[k])
        rw [← hq] at hdiv hn1
        have hv1 : t.size ≤ maxLen := by unfold maxLen; omega
        have hv2 : z.size ≤ maxLen := by unfold maxLen; omega
        have hsc := pscale_any z (by omega) q
        have hsz := scaleB_size z q
        have hsu := padd_any t (scaleB z q) (by omega) (by omega)
        rw [← hn1] at hsu
        have hml := pmul_any z (lin l[k]) (by omega) (by show (2 : Nat) ≤ _; omega)
        rw [← hn2] at hml
        have hcv := conv_x1 l[k]
        generalize scaleB z q = S at *
        have HV := Lib.hid (And.intro hdiv (And.intro hsc (And.intro hsu hml)))
        have HT := Lib.hid (And.intro hT hZ)
        have HB := Lib.hid hb
        clear hdiv hsc hsu hml hT hZ hb hn1 hn2 hy hq hsz s1 s2
        go_wp2_with fail
        go_quiet ((first
          | (go_at_call 46; exact Calls.quiet_of_same (HV.out.1 _))
          | (go_at_call 30; exact Calls.quiet_of (value_q _ (by assumption) _ _))))
        have HB1 := Lib.hid (gdrew HB.out nq)
        clear HB
        generalize World.drewN _ _ = W1 at *
        go_wp2_with fail
        refine (HV.out.2.1 _).mono ?_
        rintro e w2 ⟨rfl, hb2⟩
        have HB2 := Lib.hid (HB1.out.trans (hb2.mono HB1.out.size))
        clear hb2
        go_wp2_with fail
        refine (HV.out.2.2.1 _).mono ?_
        rintro e w3 ⟨rfl, hb3⟩
        have HB3 := Lib.hid (HB2.out.trans (hb3.mono HB2.out.size))
        clear hb3
        have hb4 : Below w.heap.size w (w3.alloc (.cells #[.int .u8 (l[k].toNat : Int), .int .u8 1] 5)) := HB3.out.alloc HB3.out.size _
        have HB4 := Lib.hid hb4
        clear hb4
        go_wp2_with fail
        refine (HV.out.2.2.2 _).mono ?_
        rintro e w5 ⟨rfl, hb5⟩
        have HB5 := Lib.hid (HB4.out.trans (hb5.mono HB4.out.size))
        clear hb5
        go_wp2_with fail
        go_roundw
        case rel => exact ⟨k + 1, by omega, by go_num, by rw [← HT.out.1], by rw [← HT.out.2], HB5.out⟩
        case measure => simp [intOf]; omega
      · obtain rfl : k = l.size := by omega
        have HB := Lib.hid hb
        clear hb
        go_wp2_with fail
        go_ret2
        exact ⟨rfl, HB.out⟩
end Go.Proofs.YtefpfedpgedloaaDoor
