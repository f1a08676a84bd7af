/- lockboxref05.Stream, Turn; lockboxlaw05.few. -/
import Derived.Test.YtgoimggfpagojaaDoorQRefB
namespace Go.Proofs.YtgoimggfpagojaaDoor
open Go.RowKit

def txtLen : Value → Nat
  | .string s => s.size
  | _ => 0
theorem strmS_bad {key nonce : ByteArray} {c n : Int} (h : chkE key.size nonce.size c n ≠ 0) : strmS key nonce c n = ⟨#[]⟩ := if_pos h
theorem strmS_good {key nonce : ByteArray} {c n : Int} (h : chkE key.size nonce.size c n = 0) : strmS key nonce c n = str (strm (textF key nonce) c.toNat n.toNat) := if_neg (fun x => x h)
theorem bytes_of_data {a b : ByteArray} (h : a.data.toList = b.data.toList) : a = b := by
  cases a; cases b; simp_all [Array.ext_iff]
theorem data_append' (a b : ByteArray) : (a ++ b).data.toList = a.data.toList ++ b.data.toList := by simp
theorem str_append (a b : List UInt8) : str a ++ str b = str (a ++ b) := by
  apply bytes_of_data
  rw [data_append', str_data, str_data, str_data]
theorem str_take (l : List UInt8) (n : Nat) : (str l).extract 0 n = str (l.take n) := by
  apply bytes_of_data
  rw [ByteArray.data_extract]
  simp [str]
set_option maxRecDepth 100000 in
set_option maxHeartbeats 1000000 in
theorem rstream_any (key nonce : ByteArray) (c n : Int) (w : World) :
    Calls Tryd.prog 105 #[.string key, .string nonce, .int .i64 c, .int .i64 n] w fun e w' => e = .returned (.tuple #[.string (strmS key nonce c n), .int .i64 (chkE key.size nonce.size c n)]) ∧ Below w.heap.size w w' := by
  have ha := rask_any key nonce c
  by_cases h0 : askE key.size nonce.size c = 0
  · have hkc : key.size = 32 ∧ nonce.size = 12 ∧ 0 ≤ c ∧ c ≤ 4294967295 := by
      unfold askE at h0
      split at h0
      · omega
      · split at h0
        · omega
        · omega
    obtain ⟨hk, hn, h1, h2⟩ := hkc
    rw [h0] at ha
    by_cases h3 : n < 0
    · have he : chkE key.size nonce.size c n = 1 := by unfold chkE; rw [h0, if_neg (by omega), if_pos h3]
      rw [strmS_bad (by omega), he]
      have HA := Lib.hid ha
      clear ha he h0 hk hn
      go_enter Tryd.func105, Tryd.ntmps105
      go_wp2_with fail
      refine (HA.out _).mono ?_
      rintro e w1 ⟨rfl, rfl⟩
      go_wp2_with fail
      go_ret2
      exact ⟨rfl, Below.refl _ _⟩
    by_cases h4 : 65536 < n
    · have he : chkE key.size nonce.size c n = 2 := by unfold chkE; rw [h0, if_neg (by omega), if_neg h3, if_pos (.inl h4)]
      rw [strmS_bad (by omega), he]
      have HA := Lib.hid ha
      clear ha he h0 hk hn
      go_enter Tryd.func105, Tryd.ntmps105
      go_wp2_with fail
      refine (HA.out _).mono ?_
      rintro e w1 ⟨rfl, rfl⟩
      go_wp2_with fail
      go_ret2
      exact ⟨rfl, Below.refl _ _⟩
    obtain ⟨C, rfl⟩ : ∃ C : Nat, c = C := ⟨c.toNat, by omega⟩
    obtain ⟨N, rfl⟩ : ∃ N : Nat, n = N := ⟨n.toNat, by omega⟩
    obtain ⟨T, hT⟩ : ∃ T, T = textF key nonce := ⟨_, rfl⟩
    have hblk := fun (D : Nat) (hD : D ≤ 4294967295) W => rblock_any key nonce hk hn (BitVec.ofNat 32 D) W
    have hgood : (N : Int) ≤ (4294967295 - (C : Int) + 1) * 64 → chkE key.size nonce.size C N = 0 ∧ strmS key nonce C N = str (strm T C N) := fun h => by
      have he : chkE key.size nonce.size C N = 0 := by unfold chkE; rw [h0, if_neg (by omega), if_neg h3, if_neg (by omega)]
      exact ⟨he, by rw [strmS_good he, hT, Int.toNat_natCast, Int.toNat_natCast]⟩
    have hbad : (4294967295 - (C : Int) + 1) * 64 < (N : Int) → chkE key.size nonce.size C N = 2 ∧ strmS key nonce C N = ⟨#[]⟩ := fun h => by
      have he : chkE key.size nonce.size C N = 2 := by unfold chkE; rw [h0, if_neg (by omega), if_neg h3, if_pos (.inr h)]
      exact ⟨he, strmS_bad (by omega)⟩
    rw [← hT] at hblk
    obtain ⟨E, hE⟩ : ∃ E, E = chkE key.size nonce.size C N := ⟨_, rfl⟩
    obtain ⟨R, hR⟩ : ∃ R, R = strmS key nonce C N := ⟨_, rfl⟩
    rw [← hE, ← hR] at hgood hbad ⊢
    have HA := Lib.hid (And.intro ha (And.intro hblk (And.intro hgood hbad)))
    have hN : N ≤ 65536 := by omega
    have hC : C ≤ 4294967295 := by omega
    clear ha hblk hgood hbad hE hR hT h0 hk hn h1 h2 h3 h4
    go_enter Tryd.func105, Tryd.ntmps105
    go_wp2_with fail
    refine (HA.out.1 _).mono ?_
    rintro e w1 ⟨rfl, rfl⟩
    go_wp2_with fail
    go_loopw [2, 11] (fun ct sv wr => ∃ (j D m : Nat) (S : ByteArray), D = C + j ∧ m = 64 * j ∧ m < N + 64 ∧ D ≤ 4294967296 ∧ ct = .int .i64 D ∧ sv = .string S ∧ S = str (streamL T C j) ∧ S.size = m ∧ Below w.heap.size w wr) (fun _ sv _ => N + 64 - txtLen sv)
    case atStart => exact ⟨0, C, 0, ⟨#[]⟩, rfl, rfl, by omega, by omega, rfl, rfl, rfl, rfl, Below.refl _ _⟩
    case round =>
      obtain ⟨j, D, m, S, hD, hm, hmN, hDl, rfl, rfl, hS, hSs, hbw⟩ := hrel
      have hSi : (S.size : Int) = m := by omega
      by_cases hlt : m < N
      · have hlt' : (m : Int) < N := by omega
        by_cases hov : 4294967295 < D
        · obtain ⟨hE, hR⟩ := HA.out.2.2.2 (by omega)
          subst hE hR
          have hov' : (4294967295 : Int) < D := by omega
          have HB := Lib.hid hbw
          clear hbw hS hD hm
          go_wp2_with fail
          go_ret2
          exact ⟨rfl, HB.out⟩
        · have hov' : ¬ (4294967295 : Int) < D := by omega
          have hb := fun W => HA.out.2.1 D (by omega) W
          have hV : V (BitVec.ofNat 32 D) = (D : Int) := V_num D (by omega)
          rw [hV] at hb
          obtain ⟨P, hP⟩ : ∃ P, P = str (blockB (field T (BitVec.ofNat 32 D))) := ⟨_, rfl⟩
          rw [← hP] at hb
          have hPs : (P.size : Int) = 64 := by rw [hP, str_size, blockB_length]; rfl
          have hSP : S ++ P = str (streamL T C (j + 1)) := by rw [hS, hP, str_append, hD]; rfl
          have hSPs : (S ++ P).size = m + 64 := by rw [ByteArray.size_append]; omega
          have HB := Lib.hid (And.intro hbw (And.intro hb (And.intro hSP (And.intro hSPs (And.intro (show D + 1 = C + (j + 1) by omega) (show m + 64 = 64 * (j + 1) by omega))))))
          have hNb : (N : Int) ≤ 65536 := by omega
          clear hbw hb hSP hSPs hP hS hD hm hV
          go_wp2_with fail
          refine (HB.out.2.1 _).mono ?_
          rintro e w2 ⟨rfl, hb2⟩
          have H2 := Lib.hid (below_call' HB.out.1 hb2)
          clear hb2
          go_wp2_with fail
          refine ⟨⟨j + 1, D + 1, m + 64, S ++ P, HB.out.2.2.2.2.1, HB.out.2.2.2.2.2, by omega, by omega, by go_num, rfl, HB.out.2.2.1, HB.out.2.2.2.1, H2.out⟩, ?_⟩
          show N + 64 - (S ++ P).size < N + 64 - S.size
          rw [HB.out.2.2.2.1, hSs]; omega
      · obtain ⟨hE, hR⟩ := HA.out.2.2.1 (by omega)
        subst hE
        have hex : S.extract 0 N = R := by rw [hR, hS, str_take, strm_of T C N j (by omega)]
        have hlt' : ¬ (m : Int) < N := by omega
        have HB := Lib.hid hbw
        have HX := Lib.hid hex
        clear hbw hS hD hm hR hex
        go_wp2_with fail
        go_ret2
        exact ⟨by rw [← HX.out]; rfl, HB.out⟩
  · have he : chkE key.size nonce.size c n = askE key.size nonce.size c := by unfold chkE; rw [if_pos h0]
    rw [strmS_bad (by omega), he]
    have hb := ne_zero_bne h0
    generalize askE key.size nonce.size c = E at *
    have HA := Lib.hid ha
    clear ha he h0
    go_enter Tryd.func105, Tryd.ntmps105
    go_wp2_with fail
    refine (HA.out _).mono ?_
    rintro e w1 ⟨rfl, rfl⟩
    go_wp2_with fail
    go_ret2
    exact ⟨rfl, Below.refl _ _⟩

set_option maxRecDepth 100000 in
set_option maxHeartbeats 1000000 in
theorem rturn_any (key nonce : ByteArray) (c : Int) (text : ByteArray) (w : World) :
    Calls Tryd.prog 73 #[.string key, .string nonce, .int .i64 c, .string text] w fun e w' => e = .returned (.tuple #[.string (trnS key nonce c text), .int .i64 (chkE key.size nonce.size c text.size)]) ∧ Below w.heap.size w w' := by
  have h := rstream_any key nonce c text.size w
  obtain ⟨R, hR⟩ : ∃ R, R = trnS key nonce c text := ⟨_, rfl⟩
  obtain ⟨E, hE⟩ : ∃ E, E = chkE key.size nonce.size c text.size := ⟨_, rfl⟩
  obtain ⟨S, hS⟩ : ∃ S, S = strmS key nonce c text.size := ⟨_, rfl⟩
  have hb : S.size ≤ text.size ∧ S.size ≤ 65536 ∧ R = str (xorL (text.data.toList.take S.size) S.data.toList) := by
    by_cases he : chkE key.size nonce.size c text.size = 0
    · have hg := strmS_good he
      rw [Int.toNat_natCast] at hg
      have hsz : S.size = text.size := by rw [hS, hg, str_size, strm_length]
      obtain ⟨-, -, -, -, -, h4, -⟩ := chkE_ok he
      refine ⟨by omega, by omega, ?_⟩
      rw [hsz, List.take_of_length_le (by simp), hR, hS, hg, str_data]
      unfold trnS; rw [if_neg (fun x => x he)]
    · have hg := strmS_bad he
      have hsz : S = ⟨#[]⟩ := by rw [hS, hg]
      refine ⟨by rw [hsz]; exact Nat.zero_le _, by rw [hsz]; exact Nat.zero_le _, ?_⟩
      rw [hsz, hR]
      unfold trnS; rw [if_pos he]; rfl
  rw [← hS, ← hE] at h
  rw [← hR, ← hE]
  obtain ⟨hb1, hb2, hb3⟩ := hb
  have H := Lib.hid (And.intro h hb3)
  clear h hR hE hS hb3
  go_enter Tryd.func73, Tryd.ntmps73
  go_wp2_with fail
  refine H.out.1.mono ?_
  rintro e w1 ⟨rfl, hbw1⟩
  have H1 := Lib.hid hbw1
  clear hbw1
  go_wp2_with fail
  obtain ⟨L, hL⟩ : ∃ L, L = xorL (text.data.toList.take S.size) S.data.toList := ⟨_, rfl⟩
  have htl : (text.data.toList.take S.size).length = S.size := by rw [List.length_take]; simp; omega
  have hLl : L.length = S.size := by rw [hL, xorL, xorTo_length, htl]
  have hLk : ∀ k, k < S.size → L.getD k 0 = byteOf text k ^^^ byteOf S k := fun k hk => by
    rw [hL, xorL, xorTo_get _ _ _ _ (by omega), if_pos (by omega)]
    unfold byteOf
    congr 1
    rw [List.getD_eq_getElem?_getD, List.getElem?_take, if_pos hk, ← List.getD_eq_getElem?_getD]
  have HL := Lib.hid (And.intro hL (And.intro hLl hLk))
  clear hL hLl hLk htl
  go_loopw [12, 13] (fun v i wr => ∃ (k : Nat) (ad : Option Addr) (cap : Nat), k ≤ S.size ∧ i = .int .i64 k ∧ v = .slice ad k cap ∧ OwnB w.heap.size wr ad cap (L.take k) ∧ Below w.heap.size w wr) (fun _ i _ => S.size - (intOf i).toNat)
  case atStart => exact ⟨0, none, 0, by omega, rfl, rfl, OwnB.nil _ _, H1.out⟩
  case round =>
    obtain ⟨k, ad, cap, hk, rfl, rfl, hown, hbw⟩ := hrel
    have hsz := hbw.size
    by_cases hlt : k < S.size
    · have m0 : k < S.size := hlt
      have m1 : k < text.size := by omega
      have y0 := byteOf_lt S k m0
      have y1 := byteOf_lt text k m1
      obtain ⟨z, hz⟩ : ∃ z, z = L.getD k 0 := ⟨_, rfl⟩
      have hzz := hz
      rw [HL.out.2.2 k hlt, UInt8.xor_comm] at hzz
      have hnext : L.take (k + 1) = L.take k ++ [z] := by
        rw [List.take_add_one, hz, List.getD_eq_getElem?_getD]
        congr 1
        have : k < L.length := by rw [HL.out.2.1]; exact hlt
        rw [List.getElem?_eq_getElem this]; rfl
      have hlk : (L.take k).length = k := by rw [List.length_take, HL.out.2.1]; omega
      generalize byteOf S k = b0 at *
      generalize byteOf text k = b1 at *
      have hxb : bits .xor .u8 (b0.toNat : Int) (b1.toNat : Int) = (z.toNat : Int) := by rw [qbyte_xor8, hzz]
      have kS : (k : Int) < S.size := by omega
      have kT : (k : Int) < text.size := by omega
      have H := Lib.hid (And.intro hown.drew (And.intro hbw.drew (And.intro hnext hlk)))
      clear hown hbw hnext hlk hz hzz
      go_wp2_with fail
      refine wp_region_any (by kernel_rfl) ?_
      change wpAny _ _ _ _ _ _ _ (World.drew _)
      refine wpAny_take (i := 0) (v := ?_) rfl (by kernel_rfl) (by kernel_rfl) (by kernel_rfl) (fun _ _ _ h => h) (Or.inl ⟨by kernel_rfl, ?_⟩) ?_
      rotate_left
      · (intro W; go_simp; try (with_reducible rfl))
      refine wpAny_take (i := 1) (v := ?_) rfl (by kernel_rfl) (by kernel_rfl) (by kernel_rfl) (fun _ _ _ h => h) (Or.inl ⟨by kernel_rfl, ?_⟩) ?_
      rotate_left
      · (intro W; go_simp; try (with_reducible rfl))
      refine wpAny_take (i := 2) (v := ?_) rfl (by kernel_rfl) (by kernel_rfl) (by kernel_rfl) (fun _ _ _ h => h) (Or.inl ⟨by kernel_rfl, ?_⟩) ?_
      rotate_left
      · (intro W; go_simp; try (with_reducible rfl))
      refine wpAny_take (i := 3) (v := ?_) rfl (by kernel_rfl) (by kernel_rfl) (by kernel_rfl) (fun _ _ _ h => h) (Or.inl ⟨by kernel_rfl, ?_⟩) ?_
      rotate_left
      · (intro W; go_simp; try (with_reducible rfl))
      refine wpAny_take (i := 4) (v := ?_) rfl (by kernel_rfl) (by kernel_rfl) (by kernel_rfl) (fun _ _ _ h => h) (Or.inl ⟨by kernel_rfl, ?_⟩) ?_
      rotate_left
      · (intro W; go_simp; try (with_reducible rfl))
      refine wpAny_take (i := 5) (v := ?_) rfl (by kernel_rfl) (by kernel_rfl) (by kernel_rfl) (fun _ _ _ h => h) (Or.inl ⟨by kernel_rfl, ?_⟩) ?_
      rotate_left
      · (intro W; go_simp; try (with_reducible rfl))
      refine wpAny_take (i := 6) (v := ?_) rfl (by kernel_rfl) (by kernel_rfl) (by kernel_rfl) (fun _ _ _ h => h) (Or.inl ⟨by kernel_rfl, ?_⟩) ?_
      rotate_left
      · (intro W; go_simp; try (with_reducible rfl))
      refine wpAny_take (i := 7) (v := ?_) rfl (by kernel_rfl) (by kernel_rfl) (by kernel_rfl) (fun _ _ _ h => h) (Or.inl ⟨by kernel_rfl, ?_⟩) ?_
      rotate_left
      · (intro W; go_simp; try (with_reducible rfl))
      refine wpAny_ready (rs := [8]) (by kernel_rfl) (by simp) ?_
      refine AllReady.cons rfl (fun K hK => ?_) AllReady.nil
      go_simp
      refine hK _ _ ?_
      clear hK K
      refine wpAny_ready (rs := [9]) (by kernel_rfl) (by simp) ?_
      refine AllReady.cons rfl (fun K hK => ?_) AllReady.nil
      refine step_append_byte (w0 := w) (by rfl) _ _ (by rfl) (H.out.1.alloc _) k H.out.2.2.2 (by rfl) wr.heap.size 1 z (by rfl) (cell_new _ _ _) (by omega) (by simp; omega) (H.out.2.1.alloc hsz _) ?_
      intro g cap1 w1 hown1 hb1
      try go_simp
      refine hK _ _ ?_
      clear hK K
      refine wpAny_take (i := 10) (v := ?_) rfl (by kernel_rfl) (by kernel_rfl) (by kernel_rfl) (fun _ _ _ h => h) (Or.inl ⟨by kernel_rfl, ?_⟩) ?_
      rotate_left
      · (intro W; go_simp; try (with_reducible rfl))
      refine wpAny_done (by kernel_rfl) ?_ _
      have H2 := Lib.hid (And.intro hown1 hb1)
      clear hown1 hb1
      go_wp2_with fail
      go_roundw
      case rel => exact ⟨k + 1, _, cap1, by omega, by go_num, rfl, by rw [H.out.2.2.1]; exact H2.out.1, H2.out.2⟩
      case measure => simp [intOf]; omega
    · obtain rfl : k = S.size := by omega
      rw [List.take_of_length_le (by rw [HL.out.2.1]; exact Nat.le_refl _)] at hown
      have hcv := hown.conv
      rw [HL.out.2.1, show str L = R from by rw [H.out.2, HL.out.1]] at hcv
      have HB := Lib.hid hbw
      clear hown hbw
      go_wp2_with fail
      go_ret2
      exact ⟨rfl, HB.out⟩
end Go.Proofs.YtgoimggfpagojaaDoor
