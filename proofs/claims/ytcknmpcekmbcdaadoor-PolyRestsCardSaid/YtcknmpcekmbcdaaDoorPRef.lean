/- lockboxref08.Add, Mul. -/
import Derived.Test.YtcknmpcekmbcdaaDoorPMul
namespace Go.Proofs.YtcknmpcekmbcdaaDoor
open Go.RowKit
open Gf

/-- The sums of the first k bytes. -/
def xorK (b c : List UInt8) : Nat → List UInt8
  | 0 => []
  | k + 1 => xorK b c k ++ [co b k ^^^ co c k]
theorem xorK_length (b c : List UInt8) : ∀ k, (xorK b c k).length = k
  | 0 => rfl
  | k + 1 => by rw [xorK, List.length_append, xorK_length b c k]; rfl
theorem co_app (p q : List UInt8) (i : Nat) : co (p ++ q) i = if i < p.length then co p i else co q (i - p.length) := by
  unfold co
  rw [List.getD_eq_getElem?_getD, List.getD_eq_getElem?_getD, List.getD_eq_getElem?_getD]
  split
  · next h => rw [List.getElem?_append_left h]
  · next h => rw [List.getElem?_append_right (by omega)]
theorem co_xorK (b c : List UInt8) : ∀ k i, i < k → co (xorK b c k) i = co b i ^^^ co c i
  | 0, i, h => absurd h (by omega)
  | k + 1, i, h => by
    rw [xorK, co_app, xorK_length]
    by_cases e : i < k
    · rw [if_pos e, co_xorK b c k i e]
    · obtain rfl : i = k := by omega
      rw [if_neg e, Nat.sub_self, co_zero]
theorem xorK_all {a b : ByteArray} {n : Nat} (ha : a.size ≤ n) (hb : b.size ≤ n) : trimB (str (xorK a.data.toList b.data.toList n)) = sumB a b := by
  unfold trimB sumB
  rw [str_data]
  congr 1
  refine trimL_same (fun i => ?_)
  rw [co_addP]
  by_cases h : i < n
  · rw [co_xorK _ _ _ _ h]
  · rw [co_far (by rw [xorK_length]; omega), co_far (by rw [data_len]; omega), co_far (by rw [data_len]; omega)]; rfl
set_option maxRecDepth 100000 in
set_option maxHeartbeats 1000000 in
theorem radd_any (a b : ByteArray) (ha : a.size ≤ 100000) (hb : b.size ≤ 100000) (w : World) :
    Calls Tryd.prog 17 #[.string a, .string b] w fun e w' => e = .returned (.string (sumB a b)) ∧ Below w.heap.size w w' := by
  obtain ⟨n, hn⟩ : ∃ n, n = max a.size b.size := ⟨_, rfl⟩
  have hna : a.size ≤ n := by omega
  have hnb : b.size ≤ n := by omega
  have hor : n ≤ a.size ∨ n ≤ b.size := by omega
  have HA := Lib.hid (And.intro (xorK_all hna hnb) (And.intro hna (And.intro hnb (And.intro hor (show n ≤ 100000 by omega)))))
  clear hn hna hnb hor
  go_enter Tryd.func17, Tryd.ntmps17
  go_wp2_with fail
  go_loopw [5, 6] (fun v i wr => ∃ (k : Nat) (ad : Option Addr) (cap : Nat), k ≤ n ∧ i = .int .i64 (k : Int) ∧ v = .slice ad k cap ∧ OwnB w.heap.size wr ad cap (xorK a.data.toList b.data.toList k) ∧ Below w.heap.size w wr) (fun _ i _ => n - (intOf i).toNat)
  case atStart => exact ⟨0, none, 0, by omega, rfl, rfl, OwnB.nil _ _, Below.refl _ _⟩
  case round =>
    obtain ⟨k, ad, cap, hk, rfl, rfl, hown, hbe⟩ := hrel
    have H := Lib.hid (And.intro hown (And.intro hbe (xorK_length a.data.toList b.data.toList k)))
    have hsz := hbe.size
    clear hown hbe
    by_cases hlt : k < n
    · have hk1 := HA.out.2.2.2.2
      have ra := rat_any a (k : Int)
      have rb := rat_any b (k : Int)
      rw [coI_nat] at ra rb
      obtain ⟨x, hx⟩ : ∃ x, x = co a.data.toList k := ⟨_, rfl⟩
      obtain ⟨y, hy⟩ : ∃ y, y = co b.data.toList k := ⟨_, rfl⟩
      obtain ⟨z, hz⟩ : ∃ z, z = x ^^^ y := ⟨_, rfl⟩
      rw [← hx] at ra
      rw [← hy] at rb
      have e1 := u_xor x y
      rw [← hz] at e1
      have hms : xorK a.data.toList b.data.toList (k + 1) = xorK a.data.toList b.data.toList k ++ [z] := by rw [xorK, hz, hx, hy]
      have HM := Lib.hid (And.intro hms (And.intro ra rb))
      clear hms ra rb hx hy hz
      by_cases hla : (k : Int) < a.size
      · go_wp2_with fail
        refine (HM.out.2.1 _).mono ?_
        rintro e w' ⟨rfl, rfl⟩
        go_wp2_with fail
        refine (HM.out.2.2 _).mono ?_
        rintro e w' ⟨rfl, rfl⟩
        go_wp2_with (at_builtin; (refine wpList_append_byte' (w0 := w) rfl (.tmp 19) (.tmp 27) rfl (H.out.1.alloc _) k H.out.2.2 rfl wr.heap.size 1 z rfl (cell_new wr _ _) (by omega) (by simp; omega) (H.out.2.1.alloc hsz _) ?_; intro g1 cap1 w1 hown1 hb1; have H1 := Lib.hid (And.intro hown1 hb1); clear hown1 hb1))
        go_roundw
        case rel => exact ⟨k + 1, _, cap1, by omega, by go_num, rfl, by rw [HM.out.1]; exact H1.out.1, H1.out.2⟩
        case measure => simp [intOf]; omega
      · have hlb : (k : Int) < b.size := by have := HA.out.2.2.2.1; omega
        go_wp2_with fail
        refine (HM.out.2.1 _).mono ?_
        rintro e w' ⟨rfl, rfl⟩
        go_wp2_with fail
        refine (HM.out.2.2 _).mono ?_
        rintro e w' ⟨rfl, rfl⟩
        go_wp2_with (at_builtin; (refine wpList_append_byte' (w0 := w) rfl (.tmp 19) (.tmp 27) rfl (H.out.1.alloc _) k H.out.2.2 rfl wr.heap.size 1 z rfl (cell_new wr _ _) (by omega) (by simp; omega) (H.out.2.1.alloc hsz _) ?_; intro g1 cap1 w1 hown1 hb1; have H1 := Lib.hid (And.intro hown1 hb1); clear hown1 hb1))
        go_roundw
        case rel => exact ⟨k + 1, _, cap1, by omega, by go_num, rfl, by rw [HM.out.1]; exact H1.out.1, H1.out.2⟩
        case measure => simp [intOf]; omega
    · obtain rfl : k = n := by omega
      have hla : ¬ ((k : Int) < a.size) := by have := HA.out.2.1; omega
      have hlb : ¬ ((k : Int) < b.size) := by have := HA.out.2.2.1; omega
      obtain ⟨L, hL⟩ : ∃ L, L = str (xorK a.data.toList b.data.toList k) := ⟨_, rfl⟩
      have hcv := H.out.1.conv
      rw [H.out.2.2, ← hL] at hcv
      have hLs : L.size ≤ maxLen := by rw [hL, str_size, H.out.2.2]; have := HA.out.2.2.2.2; unfold maxLen; omega
      have hLt : trimB L = sumB a b := by rw [hL]; exact HA.out.1
      have HB := Lib.hid (And.intro hLs hLt)
      clear hL hLs hLt
      go_wp2_with fail
      refine (rtrim_any L HB.out.1 _).mono ?_
      rintro e w2 ⟨rfl, rfl⟩
      go_wp2_with fail
      go_ret
      exact ⟨by rw [← HB.out.2]; rfl, H.out.2.1⟩
end Go.Proofs.YtcknmpcekmbcdaaDoor
