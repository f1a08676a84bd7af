/- poly.At; lockboxref08.Weights, At. -/
import Derived.Test.YtefpfedpgedloaaDoorPWts
namespace Go.Proofs.YtefpfedpgedloaaDoor
open Go.RowKit
open Gf

theorem wgtB_size {l : ByteArray} (x : UInt8) (h : ulk l = true) : (wgtB l x).size = l.size := by
  unfold wgtB; rw [if_pos h, str_size, wgts_length, data_len]
theorem wgtB_le (l : ByteArray) (x : UInt8) : (wgtB l x).size ≤ l.size := by
  by_cases h : ulk l = true
  · rw [wgtB_size x h]; exact Nat.le_refl _
  · unfold wgtB; rw [if_neg h]; exact Nat.zero_le _
/-- What goes through the points, there. -/
def atB (l v : ByteArray) (x : UInt8) : UInt8 := if pts l v = true then dot (wgtB l x) v else 0
def aerr (l v : ByteArray) : Int := if pts l v = true then 0 else 1
theorem pts_true {l v : ByteArray} (h : pts l v = true) : l.size = v.size ∧ l.size ≤ 255 ∧ ulk l = true := by
  unfold pts at h
  simp only [Bool.and_eq_true, decide_eq_true_eq] at h
  exact ⟨h.1.1, h.1.2, h.2⟩
theorem rinv_still (a : UInt8) (w : World) :
    Calls Tryd.prog 44 #[.int .u8 (a.toNat : Int)] w fun e w' => e = .returned (.tuple #[.int .u8 ((invz a).toNat : Int), .int .i64 (ierr a)]) ∧ w' = w :=
  (rinv_any a w).mono fun _ _ ⟨h, k⟩ => ⟨h, k.symm⟩
/-- The first k weights. -/
def wS (l : List UInt8) (x : UInt8) (k : Nat) : List UInt8 := (List.range k).map (wgt l x)
theorem wS_length (l : List UInt8) (x : UInt8) (k : Nat) : (wS l x k).length = k := by unfold wS; rw [List.length_map, List.length_range]
theorem wS_snoc (l : List UInt8) (x : UInt8) (k : Nat) : wS l x (k + 1) = wS l x k ++ [wgt l x k] := by
  unfold wS; rw [List.range_succ, List.map_append]; rfl
/-- Factor by factor. -/
def fac (l : List UInt8) (x : UInt8) (i m : Nat) : UInt8 := prodX (fun k => mul (x ^^^ co l k) (inv (co l i ^^^ co l k))) i m
set_option maxRecDepth 100000 in
set_option maxHeartbeats 1000000 in
theorem rweights_any (s : ByteArray) (hs : s.size ≤ 100000) (x : UInt8) (w : World) :
    Calls Tryd.prog 35 #[.string s, .int .u8 (x.toNat : Int)] w fun e w' => e = .returned (.tuple #[.string (wgtB s x), .int .i64 (werr s)]) ∧ Below w.heap.size w w' := by
  have hu := runlike_any s (by unfold maxLen; omega)
  cases hul : ulk s with
  | false =>
    rw [show wgtB s x = ⟨#[]⟩ by unfold wgtB; rw [hul]; rfl, show werr s = 1 by unfold werr; rw [hul]; rfl]
    rw [hul] at hu
    have HU := Lib.hid hu
    clear hu hul
    go_enter Tryd.func35, Tryd.ntmps35
    go_wp2_with fail
    refine (HU.out _).mono ?_
    rintro e w1 ⟨rfl, hb⟩
    have HB := Lib.hid hb
    clear hb
    go_wp2_with fail
    go_ret2
    exact ⟨rfl, HB.out⟩
  | true =>
    have hnd := ulk_nodup hul
    rw [show werr s = 0 by unfold werr; rw [hul]; rfl]
    obtain ⟨R, hR⟩ : ∃ R, R = wgtB s x := ⟨_, rfl⟩
    have hall : str (wS s.data.toList x s.size) = R := by rw [hR, ← data_len]; unfold wgtB; rw [hul]; rfl
    rw [← hR]
    rw [hul] at hu
    have HU := Lib.hid (And.intro hu (And.intro hnd hall))
    clear hu hul hnd hall hR
    go_enter Tryd.func35, Tryd.ntmps35
    go_wp2_with fail
    refine (HU.out.1 _).mono ?_
    rintro e w1 ⟨rfl, hb1⟩
    have H0 := Lib.hid hb1
    clear hb1
    go_wp2_with fail
    go_loopw [6, 7, 8, 9, 10, 11] (fun v i _ _ _ _ wr => ∃ (k : Nat) (ad : Option Addr) (cap : Nat), k ≤ s.size ∧ i = .int .i64 (k : Int) ∧ v = .slice ad k cap ∧ OwnB w.heap.size wr ad cap (wS s.data.toList x k) ∧ Below w.heap.size w wr) (fun _ i _ _ _ _ _ => s.size - (intOf i).toNat)
    case atStart => exact ⟨0, none, 0, by omega, rfl, rfl, OwnB.nil _ _, H0.out⟩
    case round =>
      clear H0
      obtain ⟨k, ad, cap, hk, rfl, rfl, ho, hb⟩ := hrel
      by_cases hlt : k < s.size
      · have H := Lib.hid (And.intro ho hb)
        clear ho hb
        go_wp2_with fail
        go_loopw [8, 9, 10, 11] (fun o j _ _ W => ∃ m : Nat, m ≤ s.size ∧ j = .int .i64 (m : Int) ∧ o = .int .u8 ((fac s.data.toList x k m).toNat : Int) ∧ OwnB w.heap.size W ad cap (wS s.data.toList x k) ∧ Below w.heap.size w W) (fun _ j _ _ _ => s.size - (intOf j).toNat)
        case atStart => exact ⟨0, by omega, rfl, rfl, H.out.1, H.out.2⟩
        case round =>
          clear H
          obtain ⟨m, hm, rfl, rfl, ho, hb⟩ := hrel
          by_cases hlm : m < s.size
          · by_cases hmk : m = k
            · have h1 : fac s.data.toList x k (m + 1) = fac s.data.toList x k m := by unfold fac; rw [prodX, if_pos hmk]
              have hne : ((m : Int) != (k : Int)) = false := by rw [hmk]; simp
              have H := Lib.hid (And.intro ho (And.intro hb h1))
              clear ho hb h1 hmk
              go_wp2_with fail
              go_roundw
              case rel => exact ⟨m + 1, by omega, by go_num, by rw [H.out.2.2], H.out.1, H.out.2.1⟩
              case measure => simp [intOf]; omega
            · have hdn : s[k] ^^^ s[m] ≠ 0 := by
                rw [← co_at s m hlm, ← co_at s k hlt]
                exact diff_ne HU.out.2.1 (by rw [data_len]; exact hlt) m (by rw [data_len]; exact hlm) hmk
              have h1 : fac s.data.toList x k (m + 1) = mul (fac s.data.toList x k m) (mul (x ^^^ s[m]) (invz (s[k] ^^^ s[m]))) := by
                rw [show invz (s[k] ^^^ s[m]) = inv (s[k] ^^^ s[m]) from if_neg hdn, ← co_at s m hlm, ← co_at s k hlt]
                unfold fac; rw [prodX, if_neg hmk]
              have hne : ((m : Int) != (k : Int)) = true := by
                have : (m : Int) ≠ (k : Int) := by omega
                exact bne_iff_ne.2 this
              have e1 := u_xor x s[m]
              have e2 := u_xor s[k] s[m]
              obtain ⟨y, hy⟩ : ∃ y, y = x ^^^ s[m] := ⟨_, rfl⟩
              obtain ⟨z, hz⟩ : ∃ z, z = s[k] ^^^ s[m] := ⟨_, rfl⟩
              rw [← hy, ← hz] at h1
              rw [← hy] at e1
              rw [← hz] at e2
              generalize fac s.data.toList x k m = p at *
              have H := Lib.hid (And.intro ho (And.intro hb h1))
              clear ho hb h1 hmk hdn hy hz
              go_wp2_with fail
              go_quiet ((go_at_call 44; exact Calls.quiet_of_same (rinv_still _ _)))
              go_wp2_with (go_at_call 40; refine (rmul_any _ _ _).mono ?_; rintro e w' ⟨rfl, rfl⟩)
              go_roundw
              case rel => exact ⟨m + 1, by omega, by go_num, by rw [H.out.2.2], H.out.1.drewN _, gdrew H.out.2.1 _⟩
              case measure => simp [intOf]; omega
          · obtain rfl : m = s.size := by omega
            obtain ⟨z, hz⟩ : ∃ z, z = fac s.data.toList x k s.size := ⟨_, rfl⟩
            have hzw : z = wgt s.data.toList x k := by
              rw [hz, ← data_len s]; exact wgt_factors HU.out.2.1 x (by rw [data_len]; exact hlt)
            have hms : wS s.data.toList x (k + 1) = wS s.data.toList x k ++ [z] := by rw [wS_snoc, hzw]
            rw [← hz]
            have hsz := hb.size
            have HM := Lib.hid (And.intro hms (And.intro ho (And.intro hb (wS_length s.data.toList x k))))
            clear hms hz ho hb hzw
            go_wp2_with (at_builtin; (refine wpList_append_byte' (w0 := w) rfl (.tmp 50) (.tmp 52) rfl (HM.out.2.1.alloc _) k HM.out.2.2.2 rfl _ 1 z rfl (cell_new _ _ _) (by omega) (by simp; omega) (HM.out.2.2.1.alloc hsz _) ?_; intro g1 cap1 w1 hown1 hb1; have H1 := Lib.hid (And.intro hown1 hb1); clear hown1 hb1))
            go_roundw
            case rel => exact ⟨k + 1, _, cap1, by omega, by go_num, rfl, by rw [HM.out.1]; exact H1.out.1, H1.out.2⟩
            case measure => simp [intOf]; omega
      · obtain rfl : k = s.size := by omega
        have hcv := ho.conv
        rw [wS_length, HU.out.2.2] at hcv
        have HB := Lib.hid hb
        clear ho hb
        go_wp2_with fail
        go_ret2
        exact ⟨rfl, HB.out⟩
set_option maxHeartbeats 1000000 in
theorem rat8_any (l v : ByteArray) (hs : l.size ≤ 100000) (x : UInt8) (w : World) :
    Calls Tryd.prog 27 #[.string l, .string v, .int .u8 (x.toNat : Int)] w fun e w' => e = .returned (.tuple #[.int .u8 ((atB l v x).toNat : Int), .int .i64 (aerr l v)]) ∧ Below w.heap.size w w' := by
  have hp := rpoints_any l v (by unfold maxLen; omega)
  cases hpt : pts l v with
  | false =>
    rw [show atB l v x = 0 by unfold atB; rw [hpt]; rfl, show aerr l v = 1 by unfold aerr; rw [hpt]; rfl]
    rw [hpt] at hp
    have HU := Lib.hid hp
    clear hp hpt
    go_enter Tryd.func27, Tryd.ntmps27
    go_wp2_with fail
    refine (HU.out _).mono ?_
    rintro e w1 ⟨rfl, hb⟩
    have HB := Lib.hid hb
    clear hb
    go_wp2_with fail
    go_ret2
    exact ⟨rfl, HB.out⟩
  | true =>
    obtain ⟨h1, h2, h3⟩ := pts_true hpt
    rw [show aerr l v = 0 by unfold aerr; rw [hpt]; rfl]
    have hd := rdot_any (wgtB l x) v (by have := wgtB_le l x; unfold maxLen; omega)
    rw [show derr (wgtB l x) v = 0 by unfold derr; rw [wgtB_size x h3, if_pos h1], show dot (wgtB l x) v = atB l v x by unfold atB; rw [if_pos hpt]] at hd
    rw [hpt] at hp
    have HU := Lib.hid (And.intro hp (And.intro (rweights_any l hs x) hd))
    clear hp hpt h1 h2 h3 hd
    go_enter Tryd.func27, Tryd.ntmps27
    go_wp2_with fail
    refine (HU.out.1 _).mono ?_
    rintro e w1 ⟨rfl, hb⟩
    have HB := Lib.hid hb
    clear hb
    go_wp2_with fail
    refine (HU.out.2.1 _).mono ?_
    rintro e w2 ⟨rfl, hb2⟩
    have HB2 := Lib.hid (HB.out.trans (hb2.mono HB.out.size))
    clear hb2
    go_wp2_with fail
    refine (HU.out.2.2 _).mono ?_
    rintro e w3 ⟨rfl, hb3⟩
    have HB3 := Lib.hid (HB2.out.trans (hb3.mono HB2.out.size))
    clear hb3
    go_wp2_with fail
    go_ret2
    exact ⟨rfl, HB3.out⟩
end Go.Proofs.YtefpfedpgedloaaDoor
