/- poly.Weights, At. -/
import Derived.Test.YtcknmpcekmbcdaaDoorPUnl
import Derived.Test.YtcknmpcekmbcdaaDoorGWts
namespace Go.Proofs.YtcknmpcekmbcdaaDoor
open Go.RowKit
open Gf

theorem OwnB.drewN {B : Nat} {w : World} {a : Option Addr} {cap : Nat} {l : List UInt8} (h : OwnB B w a cap l) : ∀ n, OwnB B (w.drewN n) a cap l
  | 0 => h
  | n + 1 => (OwnB.drewN h n).drew
/-- The weights, or nothing. -/
def wgtB (l : ByteArray) (x : UInt8) : ByteArray := if ulk l = true then str (wgts l.data.toList x) else ⟨#[]⟩
def werr (l : ByteArray) : Int := if ulk l = true then 0 else 1
/-- What stands in memory behind k weights. -/
def wK (l : List UInt8) (x : UInt8) (k : Nat) : List UInt8 := (List.range l.length).map fun i => if i < k then wgt l x i else 0
theorem wK_length (l : List UInt8) (x : UInt8) (k : Nat) : (wK l x k).length = l.length := by unfold wK; rw [List.length_map, List.length_range]
theorem wK_zero (l : List UInt8) (x : UInt8) : wK l x 0 = List.replicate l.length 0 := by
  unfold wK
  apply List.ext_getElem?
  intro i
  rw [List.getElem?_map, List.getElem?_replicate]
  by_cases hi : i < l.length
  · rw [List.getElem?_range hi, if_pos hi]; rfl
  · rw [if_neg hi, List.getElem?_eq_none (by rw [List.length_range]; omega)]; rfl
theorem wK_step (l : List UInt8) (x : UInt8) (k : Nat) (hk : k < l.length) : (wK l x k).set k (wgt l x k) = wK l x (k + 1) := by
  apply List.ext_getElem?
  intro i
  unfold wK
  rw [List.getElem?_set, List.length_map, List.length_range, List.getElem?_map, List.getElem?_map]
  by_cases hi : i < l.length
  · rw [List.getElem?_range hi]
    by_cases e : k = i
    · subst e; rw [if_pos rfl, if_pos hk]; simp
    · rw [if_neg e]
      have : (i < k) = (i < k + 1) := by apply propext; omega
      simp [this]
  · rw [if_neg (by omega), List.getElem?_eq_none (by rw [List.length_range]; omega)]; rfl
theorem wK_all (l : List UInt8) (x : UInt8) : wK l x l.length = wgts l x := by
  unfold wK wgts
  refine List.map_congr_left (fun i hi => ?_)
  rw [if_pos (List.mem_range.1 hi)]
set_option maxRecDepth 100000 in
set_option maxHeartbeats 1000000 in
theorem weights_any (s : ByteArray) (hs : s.size ≤ 100000) (x : UInt8) (w : World) :
    Calls Tryd.prog 21 #[.string s, .int .u8 (x.toNat : Int)] w fun e w' => e = .returned (.tuple #[.string (wgtB s x), .int .i64 (werr s)]) ∧ Below w.heap.size w w' := by
  have hu := unlike_any s (by unfold maxLen; omega)
  cases hul : ulk s with
  | false =>
    rw [show wgtB s x = ⟨#[]⟩ by unfold wgtB; rw [hul]; rfl, show werr s = 1 by unfold werr; rw [hul]; rfl]
    rw [hul] at hu
    have HU := Lib.hid hu
    clear hu hul
    go_enter Tryd.func21, Tryd.ntmps21
    go_wp2_with fail
    refine (HU.out _).mono ?_
    rintro e w1 ⟨rfl, hb⟩
    have HB := Lib.hid hb
    clear hb
    go_wp2_with fail
    go_ret2
    exact ⟨rfl, HB.out⟩
  | true =>
    have hnd := ulk_nodup hul
    rw [show werr s = 0 by unfold werr; rw [hul]; rfl]
    obtain ⟨R, hR⟩ : ∃ R, R = wgtB s x := ⟨_, rfl⟩
    have hall : str (wK s.data.toList x s.size) = R := by rw [hR, ← data_len, wK_all]; unfold wgtB; rw [hul]; rfl
    rw [← hR]
    rw [hul] at hu
    have HU := Lib.hid (And.intro hu (And.intro hnd hall))
    clear hu hul hnd hall hR
    go_enter Tryd.func21, Tryd.ntmps21
    go_wp2_with fail
    refine (HU.out.1 _).mono ?_
    rintro e w1 ⟨rfl, hb1⟩
    obtain ⟨w2, hmk, hown, hb2⟩ := make_bytes w1 s.size (by omega)
    have hgb : w.heap.size ≤ w1.heap.size := hb1.size
    rw [← data_len s, ← wK_zero s.data.toList x, data_len] at hown
    have H0 := Lib.hid (And.intro hown (And.intro (hb1.trans (hb2.mono hgb)) hgb))
    clear hown hb1 hb2 hgb
    go_wp2_with fail
    clear hmk
    generalize w1.heap.size = g at *
    go_loopw [7, 8, 9, 10, 19] (fun _ _ _ _ i wr => ∃ k : Nat, k ≤ s.size ∧ i = .int .i64 (k : Int) ∧ OwnB g wr (some ⟨g, 0, none⟩) s.size (wK s.data.toList x k) ∧ Below w.heap.size w wr) (fun _ _ _ _ i _ => s.size - (intOf i).toNat)
    case atStart => exact ⟨0, by omega, rfl, H0.out.1, H0.out.2.1⟩
    case round =>
      have HG := Lib.hid H0.out.2.2
      clear H0
      obtain ⟨k, hk, rfl, ho, hb⟩ := hrel
      by_cases hlt : k < s.size
      · have H := Lib.hid (And.intro ho hb)
        clear ho hb
        go_wp2_with fail
        go_loopw [8, 9, 10, 24] (fun o u _ j W => ∃ m : Nat, m ≤ s.size ∧ j = .int .i64 (m : Int) ∧ o = .int .u8 ((over s.data.toList x k m).toNat : Int) ∧ u = .int .u8 ((under s.data.toList k m).toNat : Int) ∧ OwnB g W (some ⟨g, 0, none⟩) s.size (wK s.data.toList x k) ∧ Below w.heap.size w W) (fun _ _ _ j _ => s.size - (intOf j).toNat)
        case atStart => exact ⟨0, by omega, rfl, rfl, rfl, H.out.1, H.out.2⟩
        case round =>
          clear H
          obtain ⟨m, hm, rfl, rfl, rfl, ho, hb⟩ := hrel
          by_cases hlm : m < s.size
          · by_cases hmk : m = k
            · have h1 : over s.data.toList x k (m + 1) = over s.data.toList x k m := by unfold over; rw [prodX, if_pos hmk]
              have h2 : under s.data.toList k (m + 1) = under s.data.toList k m := by unfold under; rw [prodX, if_pos hmk]
              have hne : ((m : Int) != (k : Int)) = false := by rw [hmk]; simp
              have H := Lib.hid (And.intro ho (And.intro hb (And.intro h1 h2)))
              clear ho hb h1 h2 hmk
              go_wp2_with fail
              go_roundw
              case rel => exact ⟨m + 1, by omega, by go_num, by rw [H.out.2.2.1], by rw [H.out.2.2.2], H.out.1, H.out.2.1⟩
              case measure => simp [intOf]; omega
            · have h1 : over s.data.toList x k (m + 1) = mul (over s.data.toList x k m) (x ^^^ s[m]) := by
                rw [← co_at s m hlm]; unfold over; rw [prodX, if_neg hmk]
              have h2 : under s.data.toList k (m + 1) = mul (under s.data.toList k m) (s[k] ^^^ s[m]) := by
                rw [← co_at s m hlm, ← co_at s k hlt]; unfold under; rw [prodX, if_neg hmk]
              have hne : ((m : Int) != (k : Int)) = true := by
                have : (m : Int) ≠ (k : Int) := by omega
                exact bne_iff_ne.2 this
              have e1 := u_xor x s[m]
              have e2 := u_xor s[k] s[m]
              obtain ⟨y, hy⟩ : ∃ y, y = x ^^^ s[m] := ⟨_, rfl⟩
              obtain ⟨z, hz⟩ : ∃ z, z = s[k] ^^^ s[m] := ⟨_, rfl⟩
              rw [← hy] at h1 e1
              rw [← hz] at h2 e2
              generalize over s.data.toList x k m = p at *
              generalize under s.data.toList k m = q at *
              have H := Lib.hid (And.intro ho (And.intro hb (And.intro h1 h2)))
              clear ho hb h1 h2 hmk hy hz
              go_wp2_with (go_at_call 29; refine (mul_any _ _ _).mono ?_; rintro e w' ⟨rfl, rfl⟩)
              go_quiet ((go_at_call 29; exact Calls.quiet_of_same (mul_still _ _ _)))
              go_wp2_with fail
              go_roundw
              case rel => exact ⟨m + 1, by omega, by go_num, by rw [H.out.2.2.1], by rw [H.out.2.2.2], H.out.1.drewN _, gdrew H.out.2.1 _⟩
              case measure => simp [intOf]; omega
          · obtain rfl : m = s.size := by omega
            have hun : under s.data.toList k s.size ≠ 0 := by rw [← data_len s]; exact under_ne HU.out.2.1 (by rw [data_len]; exact hlt)
            have hw : mul (over s.data.toList x k s.size) (invz (under s.data.toList k s.size)) = wgt s.data.toList x k := by
              unfold invz wgt; rw [if_neg hun, data_len]
            have c1 := ho.cellAt k (by rw [wK_length, data_len]; exact hlt)
            have f1 := ho.frozenAt k
            generalize ((wK s.data.toList x k).getD k 0).toNat = old at c1
            have hp := ho.put k (wgt s.data.toList x k)
            rw [wK_step _ _ _ (by rw [data_len]; exact hlt)] at hp
            have hpb := hb.setCell (p := ⟨g, k, none⟩) HG.out (.int .u8 ((wgt s.data.toList x k).toNat : Int))
            obtain ⟨v, hv⟩ : ∃ v, v = wgt s.data.toList x k := ⟨_, rfl⟩
            rw [← hv] at hw hp hpb
            have hdiv := gfdiv_any (over s.data.toList x k s.size) (under s.data.toList k s.size)
            rw [hw] at hdiv
            generalize over s.data.toList x k s.size = p at *
            generalize under s.data.toList k s.size = q at *
            have HP := Lib.hid (And.intro hp (And.intro hpb hdiv))
            clear ho hb hp hpb hdiv hun hw hv
            go_wp2_with fail
            refine (HP.out.2.2 _).mono ?_
            rintro e w' ⟨rfl, rfl⟩
            go_wp2_with fail
            go_roundw
            case rel => exact ⟨k + 1, by omega, by go_num, HP.out.1, HP.out.2.1⟩
            case measure => simp [intOf]; omega
      · obtain rfl : k = s.size := by omega
        have hcv := ho.conv
        rw [wK_length, data_len, HU.out.2.2] at hcv
        have HB := Lib.hid hb
        clear ho hb
        go_wp2_with fail
        go_ret2
        exact ⟨rfl, HB.out⟩
end Go.Proofs.YtcknmpcekmbcdaaDoor
