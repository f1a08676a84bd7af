/- The reference lockboxref04: Extract, Expand, Derive, Number, Key. -/
import Derived.Test.YtgoimggfpagojaaDoorMKey
import Derived.Test.YtgoimggfpagojaaDoorMRef
import Derived.Test.YtgoimggfpagojaaDoorMakeB
namespace Go.Proofs.YtgoimggfpagojaaDoor
open Go.RowKit

set_option maxRecDepth 100000 in
set_option maxHeartbeats 400000 in
theorem rextract_any (salt sec : ByteArray) (hs : salt.size < 1099511627000) (ht : sec.size < 1099511625000) (w : World) :
    Calls Tryd.prog 129 #[.string salt, .string sec] w fun e w' => e = .returned (.string (str (code salt.data.toList sec.data.toList))) ∧ Below w.heap.size w w' := by
  by_cases h0 : salt = ⟨#[]⟩
  · subst h0
    obtain ⟨w0, hmk0, hown, hb0⟩ := pmake_bytes w 32 (by decide)
    have hmk : (Instr.makeSlice 42 (.int .i64 32) (.int .i64 32)).run Tryd.prog w = .ok (.slice (some ⟨w.heap.size, 0, none⟩) 32 32) w0 := hmk0
    have hcv := hown.conv
    rw [List.length_replicate] at hcv
    obtain ⟨O, hO⟩ : ∃ O, O = str (List.replicate 32 0) := ⟨_, rfl⟩
    rw [← hO] at hcv
    have hOs : O.size = 32 := by rw [hO, str_size, List.length_replicate]
    have hc := rcode_any O sec (by omega) ht w0
    have e : code O.data.toList sec.data.toList = code (ByteArray.mk #[]).data.toList sec.data.toList := by
      rw [hO, str_data]
      have := blk_zeros (k := []) (m := 32) (by decide)
      exact code_blk this _
    rw [e] at hc
    have H := Lib.hid (And.intro hc hb0)
    clear hmk0 hown hb0 hO hOs hc e
    go_enter Tryd.func129, Tryd.ntmps129
    go_wp2_with fail
    refine H.out.1.mono ?_
    rintro e w1 ⟨rfl, k1⟩
    go_wp2_with fail
    go_ret
    exact ⟨rfl, kbelow_call H.out.2 k1⟩
  · have he : salt.toList.isEmpty = false := by
      rw [toList_data]
      cases h : salt.data.toList with
      | nil => exact absurd (Go.WideShapes.bytes_inj (b := ⟨#[]⟩) h) h0
      | cons a l => rfl
    have he2 : (salt.toList == []) = false := by
      cases h : salt.toList with
      | nil => rw [h] at he; cases he
      | cons a l => rfl
    clear h0
    go_enter Tryd.func129, Tryd.ntmps129
    go_wp2_with fail
    refine (rcode_any salt sec hs ht _).mono ?_
    rintro e w1 ⟨rfl, k1⟩
    go_wp2_with fail
    go_ret
    exact ⟨rfl, k1⟩

set_option maxRecDepth 100000 in
set_option maxHeartbeats 1000000 in
theorem rexpand_any (sec lab : ByteArray) (hs : sec.size < 1099511627000) (hl : lab.size < 1000000) (n : Int) (w : World) :
    Calls Tryd.prog 128 #[.string sec, .string lab, .int .i64 n] w fun e w' => e = .returned (.tuple #[.string (expS sec.data.toList lab.data.toList n), .int .i64 (expE n)]) ∧ Below w.heap.size w w' := by
  by_cases h0 : n < 0
  · go_enter Tryd.func128, Tryd.ntmps128
    go_wp2_with fail
    go_ret2
    exact ⟨by rw [expS, expE, if_pos (.inl h0), if_pos (.inl h0)]; rfl, Below.refl _ _⟩
  by_cases h1 : 8160 < n
  · go_enter Tryd.func128, Tryd.ntmps128
    go_wp2_with fail
    go_ret2
    exact ⟨by rw [expS, expE, if_pos (.inr h1), if_pos (.inr h1)]; rfl, Below.refl _ _⟩
  obtain ⟨N, rfl⟩ : ∃ N : Nat, n = N := ⟨n.toNat, by omega⟩
  have hN : N ≤ 8160 := by omega
  rw [expS, expE, if_neg (by omega), if_neg (by omega)]
  go_enter Tryd.func128, Tryd.ntmps128
  go_wp2_with fail
  go_loopw [8, 9, 10] (fun all last i wr => ∃ (j : Nat) (L T : ByteArray), j ≤ 255 ∧ 32 * j < N + 32 ∧ i = .int .i64 ((j + 1 : Nat) : Int) ∧ all = .string L ∧ last = .string T ∧ L = str (expAll sec.data.toList lab.data.toList j) ∧ T = str (expT sec.data.toList lab.data.toList j) ∧ Below w.heap.size w wr) (fun _ _ i _ => 257 - (intOf i).toNat)
  case atStart => exact ⟨0, _, _, by omega, by omega, rfl, rfl, rfl, rfl, rfl, Below.refl _ _⟩
  case round =>
    obtain ⟨j, L, T, hj, hjN, rfl, rfl, rfl, hL, hT, hb⟩ := hrel
    have hLs : L.size = 32 * j := by rw [hL, str_size, expAll_length]
    have hTs : T.size ≤ 32 := by rw [hT, str_size]; exact expT_le _ _ _
    have hLi : (L.size : Int) = 32 * (j : Int) := by omega
    have hTi : (T.size : Int) ≤ 32 := by omega
    have H := Lib.hid (And.intro hL (And.intro hT (And.intro hb hLs)))
    clear hL hT hb hLs hTs
    by_cases hlt : 32 * j < N
    · obtain ⟨ch, hch⟩ : ∃ ch, ch = UInt8.ofNat (j + 1) := ⟨_, rfl⟩
      have hchn : ch.toNat = j + 1 := by rw [hch, UInt8.toNat_ofNat']; omega
      rw [← hchn]
      have hc1 : (ch.toNat : Int) ≤ 255 := by omega
      have hltI : (L.size : Int) < N := by omega
      have hconv := conv_one ch
      have hTl : (T.size : Int) + lab.size < 1000100 := by omega
      obtain ⟨A, hA⟩ : ∃ A, A = T ++ lab := ⟨_, rfl⟩
      have hAs : A.size = T.size + lab.size := by rw [hA, ByteArray.size_append]
      have hAi : (A.size : Int) < 1000100 := by omega
      have hcode := fun W => rcode_any sec (A ++ ByteArray.mk #[ch]) hs (by rw [ByteArray.size_append]; have : (ByteArray.mk #[ch]).size = 1 := rfl; omega) W
      obtain ⟨T2, hT2⟩ : ∃ T2, T2 = str (expT sec.data.toList lab.data.toList (j + 1)) := ⟨_, rfl⟩
      have e : str (code sec.data.toList (A ++ ByteArray.mk #[ch]).data.toList) = T2 := by
        rw [hT2, expT, data_append, hA, data_append, H.out.2.1, str_data, hch]
      rw [e] at hcode
      have hT2s : T2.size = 32 := by rw [hT2, str_size, expT_length]
      have hT2i : (T2.size : Int) ≤ 32 := by omega
      have H2 := Lib.hid (And.intro hcode (And.intro hT2 (And.intro hchn (And.intro hA (And.intro hT2s hLi)))))
      have hLz : (L.size : Int) ≤ 8160 := by omega
      clear hcode e hT2 hchn hch hT2s hAs hLi hjN hlt
      go_wp2_with fail
      rw [← H2.out.2.2.2.1]
      refine (H2.out.1 _).mono ?_
      rintro e w2 ⟨rfl, k2⟩
      have K2 := Lib.hid (below_trans' (H.out.2.2.1.alloc H.out.2.2.1.size (.cells #[.int .u8 (ch.toNat : Int)] 5)) k2 (by have := H.out.2.2.1.size; simp; omega))
      clear k2 hconv
      go_wp2_with fail
      go_roundw
      case rel =>
        have h3 := H2.out.2.2.1
        refine ⟨j + 1, L ++ T2, T2, by omega, by have := H.out.2.2.2; omega, by rw [h3]; go_num, rfl, rfl, ?_, H2.out.2.1, K2.out⟩
        apply Go.WideShapes.bytes_inj
        rw [data_append, H.out.1, H2.out.2.1, str_data, str_data, str_data]; rfl
      case measure => simp [intOf]; omega
    · have hlI : ¬ (L.size : Int) < N := by omega
      by_cases hj5 : j = 255
      · obtain ⟨I, hI⟩ : ∃ I : Int, ((j + 1 : Nat) : Int) = I := ⟨_, rfl⟩
        have hI2 : ¬ I ≤ 255 := by omega
        rw [hI]
        clear hI
        have hsl : N ≤ L.size := by omega
        go_wp2_with fail
        go_ret2
        refine ⟨?_, H.out.2.2.1⟩
        have hi2 : j = (N + 31) / 32 := by omega
        rw [expand, ← hi2, ← str_extract, ← H.out.1]; rfl
      · obtain ⟨I, hI⟩ : ∃ I : Int, ((j + 1 : Nat) : Int) = I := ⟨_, rfl⟩
        have hI2 : I ≤ 255 := by omega
        rw [hI]
        clear hI
        have hsl : N ≤ L.size := by omega
        go_wp2_with fail
        go_ret2
        refine ⟨?_, H.out.2.2.1⟩
        have hi2 : j = (N + 31) / 32 := by omega
        rw [expand, ← hi2, ← str_extract, ← H.out.1]; rfl

set_option maxRecDepth 100000 in
set_option maxHeartbeats 400000 in
theorem rderive_any (sec lab : ByteArray) (hs : sec.size < 1099511625000) (hl : lab.size < 1000000) (n : Int) (w : World) :
    Calls Tryd.prog 106 #[.string sec, .string lab, .int .i64 n] w fun e w' => e = .returned (.tuple #[.string (expS (code [] sec.data.toList) lab.data.toList n), .int .i64 (expE n)]) ∧ Below w.heap.size w w' := by
  obtain ⟨K, hK⟩ : ∃ K, K = str (code [] sec.data.toList) := ⟨_, rfl⟩
  have hKs : K.size = 32 := by rw [hK, str_size, code_length]
  have HK := Lib.hid (And.intro hK hKs)
  clear hK hKs
  go_enter Tryd.func106, Tryd.ntmps106
  go_wp2_with fail
  refine (rextract_any ⟨#[]⟩ sec (by decide) hs _).mono ?_
  rintro e w1 ⟨rfl, h1⟩
  rw [show str (code (ByteArray.mk #[]).data.toList sec.data.toList) = K from HK.out.1.symm]
  go_wp2_with fail
  refine (rexpand_any K lab (by rw [HK.out.2]; decide) hl n _).mono ?_
  rintro e w2 ⟨rfl, h2⟩
  go_wp2_with fail
  go_ret2
  exact ⟨by rw [HK.out.1]; rfl, kbelow_call h1 h2⟩

theorem numB_next (u i : Nat) (hi : i < 8) : (numB u).take (i + 1) = (numB u).take i ++ [UInt8.ofNat (u / 256 ^ (7 - i))] := by
  have hl : (numB u).length = 8 := by simp [numB]
  rw [List.take_succ_eq_append_getElem (by omega)]
  congr 2
  simp [numB]
theorem quo_step {u : Nat} (hu : u < 18446744073709551616) (m : Nat) : Value.int .u64 (IntKind.u64.wrap (((u / 256 ^ m : Nat) : Int) / 256)) = .int .u64 ((u / 256 ^ (m + 1) : Nat) : Int) := by
  have h1 : u / 256 ^ (m + 1) = u / 256 ^ m / 256 := by rw [Nat.pow_succ, ← Nat.div_div_eq_div_mul]
  rw [h1, IntKind.wrap_u64]
  have h2 := Nat.div_le_self u (256 ^ m)
  generalize u / 256 ^ m = a at *
  congr 1
  omega
set_option maxRecDepth 100000 in
set_option maxHeartbeats 1000000 in
theorem rnumberK_any (n : Int) (w : World) :
    Calls Tryd.prog 75 #[.int .i64 n] w fun e w' => e = .returned (.string (str (numB (n % 18446744073709551616).toNat))) ∧ Below w.heap.size w w' := by
  obtain ⟨u, hu, hul⟩ := u64_of n
  rw [hu, Int.toNat_natCast]
  have hw : IntKind.u64.wrap n = (u : Int) := by rw [IntKind.wrap_u64]; exact hu
  go_enter Tryd.func75, Tryd.ntmps75
  go_wp2_with fail
  have HU := Lib.hid hul
  clear hw hu hul
  go_loopw [4, 5, 6, 7] (fun v i _ _ wr => ∃ (k : Nat) (ad : Option Addr) (cap : Nat), k ≤ 8 ∧ i = .int .i64 k ∧ v = .slice ad k cap ∧ OwnB w.heap.size wr ad cap ((numB u).take k) ∧ Below w.heap.size w wr) (fun _ i _ _ _ => 8 - (intOf i).toNat)
  case atStart => exact ⟨0, none, 0, by omega, rfl, rfl, OwnB.nil _ _, Below.refl _ _⟩
  case round =>
    obtain ⟨k, ad, cap, hk, rfl, rfl, hown, hb⟩ := hrel
    have hnl : (numB u).length = 8 := by simp [numB]
    have hlen : ((numB u).take k).length = k := by rw [List.length_take, hnl]; omega
    by_cases hlt : k < 8
    · have hnext := numB_next u k hlt
      have H := Lib.hid (And.intro hown (And.intro hb (And.intro hlen (And.intro hnext hnl))))
      have hsz := hb.size
      clear hown hb hlen hnext hnl
      go_wp2_with fail
      obtain ⟨wo, rfl⟩ : ∃ wo : World, wo = wr := ⟨_, rfl⟩
      go_loop [6, 7] (fun p j => ∃ m : Nat, m + k ≤ 7 ∧ j = .int .i64 ((k + m : Nat) : Int) ∧ p = .int .u64 ((u / 256 ^ m : Nat) : Int)) (fun _ j => 7 - (intOf j).toNat)
      case atStart => exact ⟨0, by omega, rfl, by simp⟩
      case round =>
        obtain ⟨m, hm, rfl, rfl⟩ := hrel
        obtain ⟨q, hq⟩ : ∃ q, q = u / 256 ^ m := ⟨_, rfl⟩
        rw [← hq]
        obtain ⟨j, hj⟩ : ∃ j, j = k + m := ⟨_, rfl⟩
        rw [← hj]
        have HQ := Lib.hid (And.intro hq hj)
        clear hq
        by_cases h7 : j < 7
        · clear hj
          go_wp2_with fail
          go_round
          case rel => exact ⟨m + 1, by have := HQ.out.2; omega, by rw [show k + (m + 1) = j + 1 by rw [HQ.out.2]; omega]; go_num, by rw [HQ.out.1]; exact quo_step HU.out m⟩
          case measure => simp [intOf]; omega
        · have hj7 : j = 7 := by omega
          obtain ⟨c, hc⟩ : ∃ c : UInt8, c = UInt8.ofNat q := ⟨_, rfl⟩
          have hcq : (q : Int) % 256 = (c.toNat : Int) := by rw [hc, UInt8.toNat_ofNat']; simp
          have hqe : q = u / 256 ^ (7 - k) := by rw [HQ.out.1]; congr 2; omega
          have HC := Lib.hid (And.intro hc hqe)
          clear hc hqe hj hm hj7
          go_wp2_with (at_builtin; (refine wpList_append_byte' (w0 := w) rfl (.tmp 22) (.tmp 26) rfl (H.out.1.alloc _) k H.out.2.2.1 rfl wo.heap.size 1 c rfl (cell_new wo _ _) (by omega) (by simp; omega) (H.out.2.1.alloc hsz _) ?_; intro g2 cap2 w2 hown2 hb2; have H2 := Lib.hid (And.intro hown2 hb2); clear hown2 hb2))
          go_roundw
          case rel => exact ⟨k + 1, _, cap2, by omega, by go_num, rfl, by rw [H.out.2.2.2.1, ← HC.out.2, ← HC.out.1]; exact H2.out.1, H2.out.2⟩
          case measure => simp [intOf]; omega
    · obtain rfl : k = 8 := by omega
      have hP : (numB u).take 8 = numB u := List.take_of_length_le (by rw [hnl]; exact Nat.le_refl _)
      rw [hP] at hown
      have hcv := hown.conv
      rw [hnl] at hcv
      have H := Lib.hid hb
      clear hown hb hP hlen hnl
      go_wp2_with fail
      go_ret
      exact ⟨rfl, H.out⟩

set_option maxRecDepth 100000 in
set_option maxHeartbeats 400000 in
theorem rkey_any (sec lab : ByteArray) (hs : sec.size < 1099511625000) (hl : lab.size < 999000) (n : Int) (w : World) :
    Calls Tryd.prog 74 #[.string sec, .string lab, .int .i64 n] w fun e w' => e = .returned (.string (str (keyL sec.data.toList lab.data.toList (n % 18446744073709551616).toNat))) ∧ Below w.heap.size w w' := by
  obtain ⟨u, hu⟩ : ∃ u, u = (n % 18446744073709551616).toNat := ⟨_, rfl⟩
  obtain ⟨B, hB⟩ : ∃ B, B = str (numB u) := ⟨_, rfl⟩
  have hBs : B.size = 8 := by rw [hB, str_size]; simp [numB]
  have hBi : (B.size : Int) ≤ 8 := by omega
  have hnum := rnumberK_any n w
  rw [← hu, ← hB] at hnum
  rw [← hu]
  obtain ⟨L, hL⟩ : ∃ L, L = lab ++ ByteArray.mk #[0] := ⟨_, rfl⟩
  have hLs : L.size = lab.size + 1 := by rw [hL, ByteArray.size_append]; rfl
  have hLi : (L.size : Int) ≤ 999000 := by omega
  have hli : (lab.size : Int) ≤ 999000 := by omega
  have e : keyL sec.data.toList lab.data.toList u = expand (code [] sec.data.toList) (L ++ B).data.toList 32 := by
    rw [keyL, data_append, hL, data_append, hB, str_data]
    congr 1
    simp
  have hd := fun W => rderive_any sec (L ++ B) hs (by rw [ByteArray.size_append]; omega) 32 W
  rw [show expS (code [] sec.data.toList) (L ++ B).data.toList 32 = str (keyL sec.data.toList lab.data.toList u) from by rw [expS, if_neg (by omega), e]; rfl] at hd
  have H := Lib.hid (And.intro hnum (And.intro hd hL))
  clear hnum hd hL hB hBs hu e hLs
  go_enter Tryd.func74, Tryd.ntmps74
  go_wp2_with fail
  refine H.out.1.mono ?_
  rintro e w1 ⟨rfl, h1⟩
  rw [← H.out.2.2]
  go_wp2_with fail
  refine (H.out.2.1 _).mono ?_
  rintro e w2 ⟨rfl, h2⟩
  go_wp2_with fail
  go_ret
  exact ⟨rfl, kbelow_call h1 h2⟩
end Go.Proofs.YtgoimggfpagojaaDoor
