/- MRef, what is wanted of it. -/
import Derived.Test.YtdfkpjmljaanpaaGreatDoorZMBlock
import Derived.Test.YtdfkpjmljaanpaaGreatDoorZMH3
namespace Go.Proofs.YtdfkpjmljaanpaaGreatDoor
open Go.RowKit
theorem blk_get (k : List UInt8) (i : Nat) (hi : i < 64) : (blk k).getD i 0 = if i < (keyOf k).length then (keyOf k).getD i 0 else 0 := by
  unfold blk
  rw [List.getD_eq_getElem?_getD, List.getD_eq_getElem?_getD]
  by_cases h : i < (keyOf k).length
  · rw [if_pos h, List.getElem?_append_left h]
  · rw [if_neg h, List.getElem?_append_right (by omega), List.getElem?_replicate, if_pos (by omega)]; rfl
theorem padX_next (k : List UInt8) (c : UInt8) (i : Nat) (hi : i < 64) : (padX k c).take (i + 1) = (padX k c).take i ++ [(blk k).getD i 0 ^^^ c] := by
  have hl := padX_length k c
  rw [List.take_succ_eq_append_getElem (by omega)]
  congr 2
  unfold padX
  rw [List.getElem_map, List.getD_eq_getElem?_getD, List.getElem?_eq_getElem (by rw [blk_length]; exact hi)]
  rfl
set_option maxRecDepth 100000 in
set_option maxHeartbeats 1000000 in
theorem rpad_any (key : ByteArray) (hs : key.size < 1099511627000) (c : UInt8) (w : World) :
    Calls Tryz.prog 129 #[.string key, .int .u8 (c.toNat : Int)] w fun e w' => e = .returned (.string (str (padX key.data.toList c))) ∧ Below w.heap.size w w' := by
  obtain ⟨P, hP⟩ : ∃ P, P = padX key.data.toList c := ⟨_, rfl⟩
  have hPl : P.length = 64 := by rw [hP, padX_length]
  rw [← hP]
  obtain ⟨k, hk⟩ : ∃ k : ByteArray, k.data.toList = keyOf key.data.toList := ⟨str (keyOf key.data.toList), rfl⟩
  have hks : k.size ≤ 64 := by have := keyOf_length key.data.toList; rw [← hk] at this; simpa using this
  have hkl : k.size = (keyOf key.data.toList).length := by rw [← hk]; simp
  have HK := Lib.hid (And.intro hk (And.intro hkl (And.intro hP hPl)))
  clear hk hkl hP hPl
  by_cases hbig : (64 : Int) < key.size
  · have hkk : k = str (sha key.data.toList) := Go.WideShapes.bytes_inj (by rw [HK.out.1, keyOf, if_pos (by simp; omega)]; rfl)
    have HKK := Lib.hid hkk
    clear hkk
    go_enter Tryz.func129, Tryz.ntmps129
    go_wp2_with fail
    refine (rsumref_any key (by omega) _).mono ?_
    rintro e w1 ⟨rfl, hb1⟩
    rw [← HKK.out]
    have HB := Lib.hid hb1
    clear hb1
    go_wp2_with fail
    go_loopw [5, 6, 7] (fun v i _ wr => ∃ (j : Nat) (ad : Option Addr) (cap : Nat), j ≤ 64 ∧ i = .int .i64 j ∧ v = .slice ad j cap ∧ OwnB w.heap.size wr ad cap (P.take j) ∧ Below w.heap.size w wr) (fun _ i _ _ => 64 - (intOf i).toNat)
    case atStart => exact ⟨0, none, 0, by omega, rfl, rfl, OwnB.nil _ _, HB.out⟩
    case round =>
      clear HB
      obtain ⟨j, ad, cap, hj, rfl, rfl, hown, hb⟩ := hrel
      by_cases hlt : j < 64
      · have hlen : (P.take j).length = j := by rw [List.length_take, HK.out.2.2.2]; omega
        have hnext := padX_next key.data.toList c j hlt
        rw [← HK.out.2.2.1, blk_get _ _ hlt, ← HK.out.2.1, ← HK.out.1] at hnext
        have hsz := hb.size
        by_cases hin : j < k.size
        · obtain ⟨x, hx⟩ : ∃ x, x = k[j] := ⟨_, rfl⟩
          obtain ⟨y, hy⟩ : ∃ y, y = x ^^^ c := ⟨_, rfl⟩
          have hxy : bits .xor .u8 (k[j].toNat : Int) (c.toNat : Int) = (y.toNat : Int) := by rw [← hx, byte_xor8, hy]
          rw [if_pos hin, show k.data.toList.getD j 0 = x from by rw [hx, List.getD_eq_getElem?_getD, List.getElem?_eq_getElem (by simpa using hin)]; rfl, ← hy] at hnext
          have H := Lib.hid (And.intro hown (And.intro hb (And.intro hlen hnext)))
          clear hown hb hlen hnext hx hy
          go_wp2_with (at_builtin; (refine wpList_append_byte' (w0 := w) rfl (.tmp 24) (.tmp 28) rfl (H.out.1.alloc _) j H.out.2.2.1 rfl wr.heap.size 1 y rfl (cell_new wr _ _) (by omega) (by simp; omega) (H.out.2.1.alloc hsz _) ?_; intro g2 cap2 w2 hown2 hb2; have H2 := Lib.hid (And.intro hown2 hb2); clear hown2 hb2))
          go_roundw
          case rel => exact ⟨j + 1, _, cap2, by omega, by go_num, rfl, by rw [H.out.2.2.2]; exact H2.out.1, H2.out.2⟩
          case measure => simp [intOf]; omega
        · obtain ⟨y, hy⟩ : ∃ y, y = 0 ^^^ c := ⟨_, rfl⟩
          have hxy : bits .xor .u8 0 (c.toNat : Int) = (y.toNat : Int) := by
            have := byte_xor8 0 c
            rw [hy]; exact this
          rw [if_neg hin, ← hy] at hnext
          have H := Lib.hid (And.intro hown (And.intro hb (And.intro hlen hnext)))
          clear hown hb hlen hnext hy
          go_wp2_with (at_builtin; (refine wpList_append_byte' (w0 := w) rfl (.tmp 24) (.tmp 28) rfl (H.out.1.alloc _) j H.out.2.2.1 rfl wr.heap.size 1 y rfl (cell_new wr _ _) (by omega) (by simp; omega) (H.out.2.1.alloc hsz _) ?_; intro g2 cap2 w2 hown2 hb2; have H2 := Lib.hid (And.intro hown2 hb2); clear hown2 hb2))
          go_roundw
          case rel => exact ⟨j + 1, _, cap2, by omega, by go_num, rfl, by rw [H.out.2.2.2]; exact H2.out.1, H2.out.2⟩
          case measure => simp [intOf]; omega
      · obtain rfl : j = 64 := by omega
        have hP : P.take 64 = P := List.take_of_length_le (by rw [HK.out.2.2.2]; exact Nat.le_refl _)
        rw [hP] at hown
        have hcv := hown.conv
        rw [HK.out.2.2.2] at hcv
        have H := Lib.hid hb
        clear hown hb hP
        go_wp2_with fail
        go_ret
        exact ⟨rfl, H.out⟩
  · have hkk : k = key := Go.WideShapes.bytes_inj (by rw [HK.out.1, keyOf, if_neg (by simp; omega)])
    subst hkk
    have HB := Lib.hid (Below.refl w.heap.size w)
    go_enter Tryz.func129, Tryz.ntmps129
    go_wp2_with fail
    go_loopw [5, 6, 7] (fun v i _ wr => ∃ (j : Nat) (ad : Option Addr) (cap : Nat), j ≤ 64 ∧ i = .int .i64 j ∧ v = .slice ad j cap ∧ OwnB w.heap.size wr ad cap (P.take j) ∧ Below w.heap.size w wr) (fun _ i _ _ => 64 - (intOf i).toNat)
    case atStart => exact ⟨0, none, 0, by omega, rfl, rfl, OwnB.nil _ _, HB.out⟩
    case round =>
      clear HB
      obtain ⟨j, ad, cap, hj, rfl, rfl, hown, hb⟩ := hrel
      by_cases hlt : j < 64
      · have hlen : (P.take j).length = j := by rw [List.length_take, HK.out.2.2.2]; omega
        have hnext := padX_next k.data.toList c j hlt
        rw [← HK.out.2.2.1, blk_get _ _ hlt, ← HK.out.2.1, ← HK.out.1] at hnext
        have hsz := hb.size
        by_cases hin : j < k.size
        · obtain ⟨x, hx⟩ : ∃ x, x = k[j] := ⟨_, rfl⟩
          obtain ⟨y, hy⟩ : ∃ y, y = x ^^^ c := ⟨_, rfl⟩
          have hxy : bits .xor .u8 (k[j].toNat : Int) (c.toNat : Int) = (y.toNat : Int) := by rw [← hx, byte_xor8, hy]
          rw [if_pos hin, show k.data.toList.getD j 0 = x from by rw [hx, List.getD_eq_getElem?_getD, List.getElem?_eq_getElem (by simpa using hin)]; rfl, ← hy] at hnext
          have H := Lib.hid (And.intro hown (And.intro hb (And.intro hlen hnext)))
          clear hown hb hlen hnext hx hy
          go_wp2_with (at_builtin; (refine wpList_append_byte' (w0 := w) rfl (.tmp 24) (.tmp 28) rfl (H.out.1.alloc _) j H.out.2.2.1 rfl wr.heap.size 1 y rfl (cell_new wr _ _) (by omega) (by simp; omega) (H.out.2.1.alloc hsz _) ?_; intro g2 cap2 w2 hown2 hb2; have H2 := Lib.hid (And.intro hown2 hb2); clear hown2 hb2))
          go_roundw
          case rel => exact ⟨j + 1, _, cap2, by omega, by go_num, rfl, by rw [H.out.2.2.2]; exact H2.out.1, H2.out.2⟩
          case measure => simp [intOf]; omega
        · obtain ⟨y, hy⟩ : ∃ y, y = 0 ^^^ c := ⟨_, rfl⟩
          have hxy : bits .xor .u8 0 (c.toNat : Int) = (y.toNat : Int) := by
            have := byte_xor8 0 c
            rw [hy]; exact this
          rw [if_neg hin, ← hy] at hnext
          have H := Lib.hid (And.intro hown (And.intro hb (And.intro hlen hnext)))
          clear hown hb hlen hnext hy
          go_wp2_with (at_builtin; (refine wpList_append_byte' (w0 := w) rfl (.tmp 24) (.tmp 28) rfl (H.out.1.alloc _) j H.out.2.2.1 rfl wr.heap.size 1 y rfl (cell_new wr _ _) (by omega) (by simp; omega) (H.out.2.1.alloc hsz _) ?_; intro g2 cap2 w2 hown2 hb2; have H2 := Lib.hid (And.intro hown2 hb2); clear hown2 hb2))
          go_roundw
          case rel => exact ⟨j + 1, _, cap2, by omega, by go_num, rfl, by rw [H.out.2.2.2]; exact H2.out.1, H2.out.2⟩
          case measure => simp [intOf]; omega
      · obtain rfl : j = 64 := by omega
        have hP : P.take 64 = P := List.take_of_length_le (by rw [HK.out.2.2.2]; exact Nat.le_refl _)
        rw [hP] at hown
        have hcv := hown.conv
        rw [HK.out.2.2.2] at hcv
        have H := Lib.hid hb
        clear hown hb hP
        go_wp2_with fail
        go_ret
        exact ⟨rfl, H.out⟩
set_option maxRecDepth 100000 in
set_option maxHeartbeats 400000 in
theorem rcode_any (key text : ByteArray) (hs : key.size < 1099511627000) (ht : text.size < 1099511625000) (w : World) :
    Calls Tryz.prog 61 #[.string key, .string text] w fun e w' => e = .returned (.string (str (code key.data.toList text.data.toList))) ∧ Below w.heap.size w w' := by
  obtain ⟨P, hP⟩ : ∃ P, P = str (padX key.data.toList 92) := ⟨_, rfl⟩
  obtain ⟨Q, hQ⟩ : ∃ Q, Q = str (padX key.data.toList 54) := ⟨_, rfl⟩
  have hPs : P.size = 64 := by rw [hP, str_size, padX_length]
  have hQs : Q.size = 64 := by rw [hQ, str_size, padX_length]
  obtain ⟨D, hD⟩ : ∃ D, D = str (sha (Q ++ text).data.toList) := ⟨_, rfl⟩
  have hDs : D.size = 32 := by rw [hD, str_size, sha_length]
  have b1 : (Q.size : Int) ≤ 64 := by omega
  have b2 : (text.size : Int) < 1099511625000 := by omega
  have b3 : (P.size : Int) ≤ 64 := by omega
  have b4 : (D.size : Int) ≤ 32 := by omega
  have H := Lib.hid (And.intro hP (And.intro hQ (And.intro hD (And.intro hPs (And.intro hQs hDs)))))
  clear hP hQ hD hPs hQs hDs
  go_enter Tryz.func61, Tryz.ntmps61
  go_wp2_with fail
  refine (rpad_any key hs 92 _).mono ?_
  rintro e w1 ⟨rfl, h1⟩
  rw [← H.out.1]
  go_wp2_with fail
  refine (rpad_any key hs 54 _).mono ?_
  rintro e w2 ⟨rfl, h2⟩
  rw [← H.out.2.1]
  go_wp2_with fail
  refine (rsumref_any (Q ++ text) (by rw [ByteArray.size_append]; omega) _).mono ?_
  rintro e w3 ⟨rfl, h3⟩
  rw [← H.out.2.2.1]
  go_wp2_with fail
  refine (rsumref_any (P ++ D) (by rw [ByteArray.size_append]; omega) _).mono ?_
  rintro e w4 ⟨rfl, h4⟩
  go_wp2_with fail
  go_ret
  refine ⟨?_, below_trans' (below_trans' (below_trans' h1 h2 h1.size) h3 (Nat.le_trans h1.size h2.size)) h4 (Nat.le_trans (Nat.le_trans h1.size h2.size) h3.size)⟩
  rw [code, ← str_data (padX key.data.toList 92), ← H.out.1, ← str_data (padX key.data.toList 54), ← H.out.2.1]
  have e1 : (Q ++ text).data.toList = Q.data.toList ++ text.data.toList := by simp
  have e2 : (P ++ D).data.toList = P.data.toList ++ sha (Q.data.toList ++ text.data.toList) := by rw [← e1, ← str_data (sha _), ← H.out.2.2.1]; simp
  rw [← e2, show (P ++ D).data.toList = P.data.toList ++ D.data.toList from by simp]
  rfl
end Go.Proofs.YtdfkpjmljaanpaaGreatDoor
