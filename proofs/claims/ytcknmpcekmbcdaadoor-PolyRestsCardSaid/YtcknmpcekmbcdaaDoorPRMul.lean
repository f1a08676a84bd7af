/- lockboxref08.Mul. -/
import Derived.Test.YtcknmpcekmbcdaaDoorPRef
namespace Go.Proofs.YtcknmpcekmbcdaaDoor
open Go.RowKit
open Gf

/-- The product's first k bytes. -/
def convK (a b : List UInt8) : Nat → List UInt8
  | 0 => []
  | k + 1 => convK a b k ++ [conv a b k a.length]
theorem convK_length (a b : List UInt8) : ∀ k, (convK a b k).length = k
  | 0 => rfl
  | k + 1 => by rw [convK, List.length_append, convK_length a b k]; rfl
theorem co_convK (a b : List UInt8) : ∀ k i, i < k → co (convK a b k) i = conv a b i a.length
  | 0, i, h => absurd h (by omega)
  | k + 1, i, h => by
    rw [convK, co_app, convK_length]
    by_cases e : i < k
    · rw [if_pos e, co_convK a b k i e]
    · obtain rfl : i = k := by omega
      rw [if_neg e, Nat.sub_self, co_zero]
theorem convK_all {a b : ByteArray} {n : Nat} (hn : n = a.size + b.size) : trimB (str (convK a.data.toList b.data.toList n)) = mulB a b := by
  unfold trimB mulB
  rw [str_data]
  congr 1
  refine trimL_same (fun i => ?_)
  by_cases h : i < n
  · rw [co_convK _ _ _ _ h, co_mulP]
  · rw [co_far (by rw [convK_length]; omega), mulP_length _ _ _ (by rw [data_len, data_len]; omega)]
theorem coI_sub (b : ByteArray) (k i : Nat) (x : UInt8) : mul x (coI b ((k : Int) - (i : Int))) = if i ≤ k then mul x (co b.data.toList (k - i)) else 0 := by
  unfold coI
  by_cases h : i ≤ k
  · rw [if_neg (by omega), if_pos h]
    congr 2
    omega
  · rw [if_pos (by omega), if_neg h, mul_zero]
theorem rat_still (s : ByteArray) (i : Int) (w : World) :
    Calls Tryd.prog 35 #[.string s, .int .i64 i] w fun e w' => e = .returned (.int .u8 ((coI s i).toNat : Int)) ∧ w' = w :=
  (rat_any s i w).mono fun _ _ ⟨h, k⟩ => ⟨h, k.symm⟩
set_option maxRecDepth 100000 in
set_option maxHeartbeats 1000000 in
theorem rmulp_any (a b : ByteArray) (ha : a.size ≤ 100000) (hb : b.size ≤ 100000) (w : World) :
    Calls Tryd.prog 19 #[.string a, .string b] w fun e w' => e = .returned (.string (mulB a b)) ∧ Below w.heap.size w w' := by
  obtain ⟨n, hn⟩ : ∃ n, n = a.size + b.size := ⟨_, rfl⟩
  have hni : (a.size : Int) + (b.size : Int) = (n : Int) := by omega
  have hn2 : n ≤ 200000 := by omega
  have HA := Lib.hid (And.intro (convK_all hn) hn)
  clear hn
  go_enter Tryd.func19, Tryd.ntmps19
  go_wp2_with fail
  go_loopw [5, 6, 7, 8] (fun v i _ _ wr => ∃ (k : Nat) (ad : Option Addr) (cap : Nat), k ≤ n ∧ i = .int .i64 (k : Int) ∧ v = .slice ad k cap ∧ OwnB w.heap.size wr ad cap (convK a.data.toList b.data.toList k) ∧ Below w.heap.size w wr) (fun _ i _ _ _ => n - (intOf i).toNat)
  case atStart => exact ⟨0, none, 0, by omega, rfl, rfl, OwnB.nil _ _, Below.refl _ _⟩
  case round =>
    obtain ⟨k, ad, cap, hk, rfl, rfl, hown, hbe⟩ := hrel
    by_cases hlt : k < n
    · have H := Lib.hid (And.intro hown (And.intro hbe (convK_length a.data.toList b.data.toList k)))
      clear hown hbe
      go_wp2_with fail
      go_loopw [7, 8] (fun c i W => ∃ j : Nat, j ≤ a.size ∧ i = .int .i64 (j : Int) ∧ c = .int .u8 ((conv a.data.toList b.data.toList k j).toNat : Int) ∧ OwnB w.heap.size W ad cap (convK a.data.toList b.data.toList k) ∧ Below w.heap.size w W) (fun _ i _ => a.size - (intOf i).toNat)
      case atStart => exact ⟨0, by omega, rfl, rfl, H.out.1, H.out.2.1⟩
      case round =>
        obtain ⟨j, hj, rfl, rfl, hown, hbe⟩ := hrel
        rename_i W _
        by_cases hlj : j < a.size
        · have hc : conv a.data.toList b.data.toList k (j + 1) = conv a.data.toList b.data.toList k j ^^^ mul a[j] (coI b ((k : Int) - (j : Int))) := by
            rw [coI_sub, ← co_at a j hlj]; rfl
          obtain ⟨x, hx⟩ : ∃ x, x = conv a.data.toList b.data.toList k j := ⟨_, rfl⟩
          obtain ⟨y, hy⟩ : ∃ y, y = conv a.data.toList b.data.toList k (j + 1) := ⟨_, rfl⟩
          rw [← hx, ← hy] at hc
          rw [← hx]
          obtain ⟨d, hd⟩ : ∃ d : Int, d = (k : Int) - (j : Int) := ⟨_, rfl⟩
          have hdw : IntKind.i64.wrap ((k : Int) - (j : Int)) = d := by rw [IntWalk.i64_in _ (by omega), hd]
          rw [← hd] at hc
          obtain ⟨v, hv⟩ : ∃ v, v = coI b d := ⟨_, rfl⟩
          have hat := rat_still b d
          rw [← hv] at hc hat
          have e1 := u_xor x (mul a[j] v)
          rw [← hc] at e1
          have HY := Lib.hid (And.intro hy (And.intro hat (And.intro hown hbe)))
          clear hc hx hy hd hv hat hown hbe
          go_wp2_with fail
          go_quiet ((first
            | (go_at_call 34; exact Calls.quiet_of_same (rmul_still _ _ _))
            | (go_at_call 35; exact Calls.quiet_of_same (HY.out.2.1 _))))
          go_wp2_with fail
          go_roundw
          case rel => exact ⟨j + 1, by omega, by go_num, by rw [HY.out.1], HY.out.2.2.1, gdrew HY.out.2.2.2 _⟩
          case measure => simp [intOf]; omega
        · obtain rfl : j = a.size := by omega
          obtain ⟨z, hz⟩ : ∃ z, z = conv a.data.toList b.data.toList k a.size := ⟨_, rfl⟩
          have hms : convK a.data.toList b.data.toList (k + 1) = convK a.data.toList b.data.toList k ++ [z] := by rw [convK, hz, data_len]
          rw [← hz]
          have hsz := hbe.size
          have HM := Lib.hid (And.intro hms (And.intro hown hbe))
          clear hms hz hown hbe
          go_wp2_with (at_builtin; (refine wpList_append_byte' (w0 := w) rfl (.tmp 35) (.tmp 37) rfl (HM.out.2.1.alloc _) k H.out.2.2 rfl _ 1 z rfl (cell_new _ _ _) (by omega) (by simp; omega) (HM.out.2.2.alloc hsz _) ?_; intro g1 cap1 w1 hown1 hb1; have H1 := Lib.hid (And.intro hown1 hb1); clear hown1 hb1))
          go_roundw
          case rel => exact ⟨k + 1, _, cap1, by omega, by go_num, rfl, by rw [HM.out.1]; exact H1.out.1, H1.out.2⟩
          case measure => simp [intOf]; omega
    · obtain rfl : k = n := by omega
      obtain ⟨L, hL⟩ : ∃ L, L = str (convK a.data.toList b.data.toList k) := ⟨_, rfl⟩
      have hcv := hown.conv
      rw [convK_length, ← hL] at hcv
      have hLs : L.size ≤ maxLen := by rw [hL, str_size, convK_length]; unfold maxLen; omega
      have hLt : trimB L = mulB a b := by rw [hL]; exact HA.out.1
      have HB := Lib.hid (And.intro hLs (And.intro hLt hbe))
      clear hL hLs hLt hown hbe
      go_wp2_with fail
      refine (rtrim_any L HB.out.1 _).mono ?_
      rintro e w2 ⟨rfl, rfl⟩
      go_wp2_with fail
      go_ret
      exact ⟨by rw [← HB.out.2.1]; rfl, HB.out.2.2⟩
end Go.Proofs.YtcknmpcekmbcdaaDoor
