/- lockboxref05.words, Ask, Block. -/
import Derived.Test.YtgoimggfpagojaaDoorQTurn
namespace Go.Proofs.YtgoimggfpagojaaDoor
open Go.RowKit

theorem w8_bit (b : UInt8) (i : Nat) (h : 8 ≤ i) : (w8 b).getLsbD i = false := by
  unfold w8
  rw [BitVec.getLsbD_ofNat]
  have : b.toNat.testBit i = false := Nat.testBit_lt_two_pow (Nat.lt_of_lt_of_le b.toNat_lt (Nat.pow_le_pow_right (by decide) h))
  rw [this]; simp
theorem sum_or (a b c d : UInt8) : w8 a + w8 b <<< 8 + w8 c <<< 16 + w8 d <<< 24 = w8 a ||| w8 b <<< 8 ||| w8 c <<< 16 ||| w8 d <<< 24 := by
  have h1 : w8 a + w8 b <<< 8 = w8 a ||| w8 b <<< 8 := by
    refine BitVec.add_eq_or_of_and_eq_zero _ _ ?_
    apply BitVec.eq_of_getLsbD_eq
    intro i hi
    simp only [BitVec.getLsbD_and, BitVec.getLsbD_shiftLeft, BitVec.getLsbD_zero]
    by_cases h : i < 8
    · simp [h]
    · rw [w8_bit a i (by omega)]; simp
  have h2 : (w8 a ||| w8 b <<< 8) + w8 c <<< 16 = (w8 a ||| w8 b <<< 8) ||| w8 c <<< 16 := by
    refine BitVec.add_eq_or_of_and_eq_zero _ _ ?_
    apply BitVec.eq_of_getLsbD_eq
    intro i hi
    simp only [BitVec.getLsbD_and, BitVec.getLsbD_or, BitVec.getLsbD_shiftLeft, BitVec.getLsbD_zero]
    by_cases h : i < 16
    · simp [h]
    · rw [w8_bit a i (by omega), w8_bit b (i - 8) (by omega)]; simp
  have h3 : ((w8 a ||| w8 b <<< 8) ||| w8 c <<< 16) + w8 d <<< 24 = ((w8 a ||| w8 b <<< 8) ||| w8 c <<< 16) ||| w8 d <<< 24 := by
    refine BitVec.add_eq_or_of_and_eq_zero _ _ ?_
    apply BitVec.eq_of_getLsbD_eq
    intro i hi
    simp only [BitVec.getLsbD_and, BitVec.getLsbD_or, BitVec.getLsbD_shiftLeft, BitVec.getLsbD_zero]
    by_cases h : i < 24
    · simp [h]
    · rw [w8_bit a i (by omega), w8_bit b (i - 8) (by omega), w8_bit c (i - 16) (by omega)]; simp
  rw [h1, h2, h3]
theorem V_mulL8 (x : BitVec 32) : IntKind.u32.wrap ((256 : Int) * V x) = V (x <<< 8) := by rw [Int.mul_comm]; exact V_shl x 8
theorem V_mulL16 (x : BitVec 32) : IntKind.u32.wrap ((65536 : Int) * V x) = V (x <<< 16) := by rw [Int.mul_comm]; exact V_shl x 16
theorem V_mulL24 (x : BitVec 32) : IntKind.u32.wrap ((16777216 : Int) * V x) = V (x <<< 24) := by rw [Int.mul_comm]; exact V_shl x 24
theorem V_mulM8 (x : BitVec 32) : ((256 : Int) * V x) % (4294967296 : Int) = V (x <<< 8) := by rw [Int.mul_comm]; exact V_shl' x 8
theorem V_mulM16 (x : BitVec 32) : ((65536 : Int) * V x) % (4294967296 : Int) = V (x <<< 16) := by rw [Int.mul_comm]; exact V_shl' x 16
theorem V_mulM24 (x : BitVec 32) : ((16777216 : Int) * V x) % (4294967296 : Int) = V (x <<< 24) := by rw [Int.mul_comm]; exact V_shl' x 24
attribute [local go_sem] V_add V_add' V_xor V_and V_or V_not V_not' V_byte V_byte' V_mulL8 V_mulL16 V_mulL24 V_mulM8 V_mulM16 V_mulM24

/-- The first k words of a text. -/
def wordsK (s : ByteArray) (k : Nat) : List (BitVec 32) := (List.range k).map (wordLE (byteOf s))
theorem wordsK_length (s : ByteArray) (k : Nat) : (wordsK s k).length = k := by simp [wordsK]
theorem wordsK_all (s : ByteArray) : wordsK s 16 = wordsTo s 16 := by
  unfold wordsK wordsTo
  apply List.map_congr_left
  intro j hj
  rw [if_pos (by simpa using hj)]
set_option maxRecDepth 100000 in
set_option maxHeartbeats 1000000 in
theorem rwords_any (s : ByteArray) (hs : s.size = 64) (w : World) :
    Calls Tryd.prog 137 #[.string s] w fun e w' => ∃ g cap, e = .returned (.slice (some ⟨g, 0, none⟩) 16 cap) ∧ OwnW w.heap.size w' (some ⟨g, 0, none⟩) cap (wordsTo s 16) ∧ Below w.heap.size w w' := by
  have hs' : (s.size : Int) = 64 := by omega
  go_enter Tryd.func137, Tryd.ntmps137
  go_wp2_with fail
  go_loopw [3, 4] (fun v c wr => ∃ (k m : Nat) (ad : Option Addr) (cap : Nat), k ≤ 16 ∧ m = 4 * k ∧ c = .int .i64 m ∧ v = .slice ad k cap ∧ OwnW w.heap.size wr ad cap (wordsK s k) ∧ Below w.heap.size w wr) (fun _ c _ => 64 - (intOf c).toNat)
  case atStart => exact ⟨0, 0, none, 0, by omega, rfl, rfl, rfl, OwnW.nil _ _, Below.refl _ _⟩
  case round =>
    obtain ⟨k, m, ad, cap, hk, hm, rfl, rfl, hown, hbw⟩ := hrel
    have hsz := hbw.size
    by_cases hlt : k < 16
    · obtain ⟨x, hx⟩ : ∃ x, x = wordLE (byteOf s) k := ⟨_, rfl⟩
      have m0 : m < s.size := by omega
      obtain ⟨n1, hn1⟩ : ∃ n, n = m + 1 := ⟨_, rfl⟩
      obtain ⟨n2, hn2⟩ : ∃ n, n = m + 2 := ⟨_, rfl⟩
      obtain ⟨n3, hn3⟩ : ∃ n, n = m + 3 := ⟨_, rfl⟩
      have m1 : n1 < s.size := by omega
      have m2 : n2 < s.size := by omega
      have m3 : n3 < s.size := by omega
      have hx2 : w8 (byteOf s m) + w8 (byteOf s n1) <<< 8 + w8 (byteOf s n2) <<< 16 + w8 (byteOf s n3) <<< 24 = x := by rw [sum_or, hx, hn1, hn2, hn3, hm]; rfl
      have e1 : IntKind.i64.wrap ((m : Int) + 1) = (n1 : Int) := by rw [IntWalk.i64_in _ (by omega)]; omega
      have e2 : IntKind.i64.wrap ((m : Int) + 2) = (n2 : Int) := by rw [IntWalk.i64_in _ (by omega)]; omega
      have e3 : IntKind.i64.wrap ((m : Int) + 3) = (n3 : Int) := by rw [IntWalk.i64_in _ (by omega)]; omega
      have j0 : (m : Int) < 64 := by omega
      have j1 : (n1 : Int) < 64 := by omega
      have j2 : (n2 : Int) < 64 := by omega
      have j3 : (n3 : Int) < 64 := by omega
      have y0 := byteOf_lt s m m0
      have y1 := byteOf_lt s n1 m1
      have y2 := byteOf_lt s n2 m2
      have y3 := byteOf_lt s n3 m3
      have hnext : wordsK s (k + 1) = wordsK s k ++ [x] := by unfold wordsK; rw [range_map_snoc, hx]
      generalize byteOf s m = b0 at *
      generalize byteOf s n1 = b1 at *
      generalize byteOf s n2 = b2 at *
      generalize byteOf s n3 = b3 at *
      have hm3 : (m : Int) + 3 < 64 := by omega
      have H := Lib.hid (And.intro hown (And.intro hbw (And.intro (wordsK_length s k) (And.intro hnext (show m + 4 = 4 * (k + 1) by omega)))))
      have hown' := hown.drew
      have hb' := hbw.drew
      have HO := Lib.hid (And.intro hown' hb')
      go_wp2_with fail
      clear hown hbw hnext hown' hb' hm hx hn1 hn2 hn3
      refine wp_region_any (by kernel_rfl) ?_
      change wpAny _ _ _ _ _ _ _ (World.drew _)
      refine wpAny_take (i := 0) (v := ?_) rfl (by kernel_rfl) (by kernel_rfl) (by kernel_rfl) (fun _ _ _ h => h) (Or.inl ⟨by kernel_rfl, ?_⟩) ?_
      rotate_left
      · (intro W; go_simp; try (with_reducible rfl))
      refine wpAny_take (i := 1) (v := ?_) rfl (by kernel_rfl) (by kernel_rfl) (by kernel_rfl) (fun _ _ _ h => h) (Or.inl ⟨by kernel_rfl, ?_⟩) ?_
      rotate_left
      · (intro W; go_simp; try (with_reducible rfl))
      refine wpAny_take (i := 2) (v := ?_) rfl (by kernel_rfl) (by kernel_rfl) (by kernel_rfl) (fun _ _ _ h => h) (Or.inl ⟨by kernel_rfl, ?_⟩) ?_
      rotate_left
      · (intro W; go_simp; try (with_reducible rfl))
      refine wpAny_take (i := 3) (v := ?_) rfl (by kernel_rfl) (by kernel_rfl) (by kernel_rfl) (fun _ _ _ h => h) (Or.inl ⟨by kernel_rfl, ?_⟩) ?_
      rotate_left
      · (intro W; go_simp; try (with_reducible rfl))
      refine wpAny_take (i := 4) (v := ?_) rfl (by kernel_rfl) (by kernel_rfl) (by kernel_rfl) (fun _ _ _ h => h) (Or.inl ⟨by kernel_rfl, ?_⟩) ?_
      rotate_left
      · (intro W; go_simp; try (with_reducible rfl))
      refine wpAny_take (i := 5) (v := ?_) rfl (by kernel_rfl) (by kernel_rfl) (by kernel_rfl) (fun _ _ _ h => h) (Or.inl ⟨by kernel_rfl, ?_⟩) ?_
      rotate_left
      · (intro W; go_simp; try (with_reducible rfl))
      refine wpAny_take (i := 6) (v := ?_) rfl (by kernel_rfl) (by kernel_rfl) (by kernel_rfl) (fun _ _ _ h => h) (Or.inl ⟨by kernel_rfl, ?_⟩) ?_
      rotate_left
      · (intro W; go_simp; try (with_reducible rfl))
      refine wpAny_take (i := 7) (v := ?_) rfl (by kernel_rfl) (by kernel_rfl) (by kernel_rfl) (fun _ _ _ h => h) (Or.inl ⟨by kernel_rfl, ?_⟩) ?_
      rotate_left
      · (intro W; go_simp; try (with_reducible rfl))
      refine wpAny_take (i := 8) (v := ?_) rfl (by kernel_rfl) (by kernel_rfl) (by kernel_rfl) (fun _ _ _ h => h) (Or.inl ⟨by kernel_rfl, ?_⟩) ?_
      rotate_left
      · (intro W; go_simp; try (with_reducible rfl))
      refine wpAny_take (i := 9) (v := ?_) rfl (by kernel_rfl) (by kernel_rfl) (by kernel_rfl) (fun _ _ _ h => h) (Or.inl ⟨by kernel_rfl, ?_⟩) ?_
      rotate_left
      · (intro W; go_simp; try (with_reducible rfl))
      refine wpAny_take (i := 10) (v := ?_) rfl (by kernel_rfl) (by kernel_rfl) (by kernel_rfl) (fun _ _ _ h => h) (Or.inl ⟨by kernel_rfl, ?_⟩) ?_
      rotate_left
      · (intro W; go_simp; try (with_reducible rfl))
      refine wpAny_take (i := 11) (v := ?_) rfl (by kernel_rfl) (by kernel_rfl) (by kernel_rfl) (fun _ _ _ h => h) (Or.inl ⟨by kernel_rfl, ?_⟩) ?_
      rotate_left
      · (intro W; go_simp; try (with_reducible rfl))
      refine wpAny_take (i := 12) (v := ?_) rfl (by kernel_rfl) (by kernel_rfl) (by kernel_rfl) (fun _ _ _ h => h) (Or.inl ⟨by kernel_rfl, ?_⟩) ?_
      rotate_left
      · (intro W; go_simp; try (with_reducible rfl))
      refine wpAny_take (i := 13) (v := ?_) rfl (by kernel_rfl) (by kernel_rfl) (by kernel_rfl) (fun _ _ _ h => h) (Or.inl ⟨by kernel_rfl, ?_⟩) ?_
      rotate_left
      · (intro W; go_simp; try (with_reducible rfl))
      refine wpAny_take (i := 14) (v := ?_) rfl (by kernel_rfl) (by kernel_rfl) (by kernel_rfl) (fun _ _ _ h => h) (Or.inl ⟨by kernel_rfl, ?_⟩) ?_
      rotate_left
      · (intro W; go_simp; try (with_reducible rfl))
      refine wpAny_take (i := 15) (v := ?_) rfl (by kernel_rfl) (by kernel_rfl) (by kernel_rfl) (fun _ _ _ h => h) (Or.inl ⟨by kernel_rfl, ?_⟩) ?_
      rotate_left
      · (intro W; go_simp; try (with_reducible rfl))
      refine wpAny_take (i := 16) (v := ?_) rfl (by kernel_rfl) (by kernel_rfl) (by kernel_rfl) (fun _ _ _ h => h) (Or.inl ⟨by kernel_rfl, ?_⟩) ?_
      rotate_left
      · (intro W; go_simp; try (with_reducible rfl))
      refine wpAny_take (i := 17) (v := ?_) rfl (by kernel_rfl) (by kernel_rfl) (by kernel_rfl) (fun _ _ _ h => h) (Or.inl ⟨by kernel_rfl, ?_⟩) ?_
      rotate_left
      · (intro W; go_simp; try (with_reducible rfl))
      refine wpAny_take (i := 18) (v := ?_) rfl (by kernel_rfl) (by kernel_rfl) (by kernel_rfl) (fun _ _ _ h => h) (Or.inl ⟨by kernel_rfl, ?_⟩) ?_
      rotate_left
      · (intro W; go_simp; try (with_reducible rfl))
      refine wpAny_take (i := 19) (v := ?_) rfl (by kernel_rfl) (by kernel_rfl) (by kernel_rfl) (fun _ _ _ h => h) (Or.inl ⟨by kernel_rfl, ?_⟩) ?_
      rotate_left
      · (intro W; go_simp; try (with_reducible rfl))
      refine wpAny_take (i := 20) (v := ?_) rfl (by kernel_rfl) (by kernel_rfl) (by kernel_rfl) (fun _ _ _ h => h) (Or.inl ⟨by kernel_rfl, ?_⟩) ?_
      rotate_left
      · (intro W; go_simp; try (with_reducible rfl))
      refine wpAny_take (i := 21) (v := ?_) rfl (by kernel_rfl) (by kernel_rfl) (by kernel_rfl) (fun _ _ _ h => h) (Or.inl ⟨by kernel_rfl, ?_⟩) ?_
      rotate_left
      · (intro W; go_simp; try (with_reducible rfl))
      refine wpAny_take (i := 22) (v := ?_) rfl (by kernel_rfl) (by kernel_rfl) (by kernel_rfl) (fun _ _ _ h => h) (Or.inl ⟨by kernel_rfl, ?_⟩) ?_
      rotate_left
      · (intro W; go_simp; try (with_reducible rfl))
      refine wpAny_take (i := 23) (v := ?_) rfl (by kernel_rfl) (by kernel_rfl) (by kernel_rfl) (fun _ _ _ h => h) (Or.inl ⟨by kernel_rfl, ?_⟩) ?_
      rotate_left
      · (intro W; go_simp; try (with_reducible rfl))
      refine wpAny_take (i := 24) (v := ?_) rfl (by kernel_rfl) (by kernel_rfl) (by kernel_rfl) (fun _ _ _ h => h) (Or.inl ⟨by kernel_rfl, ?_⟩) ?_
      rotate_left
      · (intro W; go_simp; try (with_reducible rfl))
      refine wpAny_take (i := 25) (v := ?_) rfl (by kernel_rfl) (by kernel_rfl) (by kernel_rfl) (fun _ _ _ h => h) (Or.inl ⟨by kernel_rfl, ?_⟩) ?_
      rotate_left
      · (intro W; go_simp; try (with_reducible rfl))
      refine wpAny_ready (rs := [26]) (by kernel_rfl) (by simp) ?_
      refine AllReady.cons rfl (fun K hK => ?_) AllReady.nil
      go_simp
      refine hK _ _ ?_
      clear hK K
      try rw [hx2]
      refine wpAny_ready (rs := [27]) (by kernel_rfl) (by simp) ?_
      refine AllReady.cons rfl (fun K hK => ?_) AllReady.nil
      refine step_append_word (w0 := w) (by rfl) _ _ (by rfl) (HO.out.1.alloc _) k H.out.2.2.1 (by rfl) wr.heap.size 1 x (by rfl) (cell_newW _ _ _) (by omega) (by simp; omega) (HO.out.2.alloc hsz _) ?_
      intro g cap1 w1 hown1 hb1
      try go_simp
      refine hK _ _ ?_
      clear hK K
      refine wpAny_take (i := 28) (v := ?_) rfl (by kernel_rfl) (by kernel_rfl) (by kernel_rfl) (fun _ _ _ h => h) (Or.inl ⟨by kernel_rfl, ?_⟩) ?_
      rotate_left
      · (intro W; go_simp; try (with_reducible rfl))
      refine wpAny_done (by kernel_rfl) ?_ _
      have H1 := Lib.hid (And.intro hown1 hb1)
      clear hown1 hb1
      go_wp2_with fail
      go_roundw
      case rel => exact ⟨k + 1, m + 4, _, cap1, by omega, H.out.2.2.2.2, by go_num, rfl, by rw [H.out.2.2.2.1]; exact H1.out.1, H1.out.2⟩
      case measure => simp [intOf]; omega
    · obtain rfl : k = 16 := by omega
      obtain ⟨g, rfl, hB, hlt2⟩ := hown.at (by rw [wordsK_length]; decide)
      rw [wordsK_all] at hown
      have H := Lib.hid (And.intro hown hbw)
      clear hown hbw
      go_wp2_with fail
      go_ret
      exact ⟨g, cap, rfl, H.out.1, H.out.2⟩
end Go.Proofs.YtgoimggfpagojaaDoor
