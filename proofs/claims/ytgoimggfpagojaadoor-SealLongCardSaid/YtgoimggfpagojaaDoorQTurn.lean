/- chacha.Block, Turn. -/
import Derived.Test.YtgoimggfpagojaaDoorQStream
namespace Go.Proofs.YtgoimggfpagojaaDoor
open Go.RowKit

theorem chkE_block (kl nl : Nat) (c : Int) : chkE kl nl c 64 = askE kl nl c := by
  unfold chkE
  by_cases h : askE kl nl c ≠ 0
  · rw [if_pos h]
  · rw [if_neg h, if_neg (by decide)]
    have h0 : askE kl nl c = 0 := by omega
    rw [h0, if_neg]
    unfold askE at h0
    split at h0
    · omega
    · split at h0 <;> omega
theorem strm_block (T : ByteArray) (c : Nat) : strm T c 64 = blockB (field T (BitVec.ofNat 32 c)) := by
  rw [← strm_of T c 64 1 (by omega)]
  show (([] : List UInt8) ++ blockB (field T (BitVec.ofNat 32 (c + 0)))).take 64 = _
  rw [List.nil_append, Nat.add_zero, List.take_of_length_le (by rw [blockB_length]; omega)]
/-- The answer of Block. -/
def blkS (key nonce : ByteArray) (c : Int) : ByteArray := if askE key.size nonce.size c ≠ 0 then ⟨#[]⟩ else str (blockB (field (textF key nonce) (BitVec.ofNat 32 c.toNat)))
theorem strmS_block (key nonce : ByteArray) (c : Int) : strmS key nonce c 64 = blkS key nonce c := by
  unfold strmS blkS
  rw [chkE_block, show (64 : Int).toNat = 64 from rfl, strm_block]
/-- The first k bytes exclusive or those of a stream. -/
def xorTo (t s : List UInt8) (k : Nat) : List UInt8 := (List.range t.length).map fun i => if i < k then t.getD i 0 ^^^ s.getD i 0 else t.getD i 0
theorem xorTo_length (t s : List UInt8) (k : Nat) : (xorTo t s k).length = t.length := by simp [xorTo]
theorem xorTo_get (t s : List UInt8) (k i : Nat) (hi : i < t.length) : (xorTo t s k).getD i 0 = if i < k then t.getD i 0 ^^^ s.getD i 0 else t.getD i 0 := by
  unfold xorTo; rw [List.getD_eq_getElem?_getD]; simp only [List.getElem?_map, List.getElem?_range hi, Option.map_some, Option.getD_some]
theorem xorTo_zero (t s : List UInt8) : xorTo t s 0 = t := by
  apply List.ext_getElem?
  intro i
  unfold xorTo
  by_cases hi : i < t.length
  · simp [hi]
  · simp [hi]
/-- All of them. -/
def xorL (t s : List UInt8) : List UInt8 := xorTo t s t.length
/-- The answer of Turn. -/
def trnS (key nonce : ByteArray) (c : Int) (text : ByteArray) : ByteArray := if chkE key.size nonce.size c text.size ≠ 0 then ⟨#[]⟩ else str (xorL text.data.toList (strm (textF key nonce) c.toNat text.size))
theorem qbyte_xor8 (x y : UInt8) : bits .xor .u8 (x.toNat : Int) (y.toNat : Int) = ((x ^^^ y).toNat : Int) := by
  rw [u8_xor_nat _ _ x.toNat_lt y.toNat_lt, UInt8.toNat_xor]
theorem str_byte (l : List UInt8) (i : Nat) (h : i < (str l).size) : (str l)[i] = l.getD i 0 := by
  rw [byteOf_lt]; rfl

set_option maxRecDepth 100000 in
set_option maxHeartbeats 1000000 in
theorem turn_any (key nonce : ByteArray) (c : Int) (text : ByteArray) (w : World) (hG : GlobQ w) :
    Calls Tryd.prog 67 #[.string key, .string nonce, .int .i64 c, .string text] w fun e w' => e = .returned (.tuple #[.string (trnS key nonce c text), .int .i64 (chkE key.size nonce.size c text.size)]) ∧ Below w.heap.size w w' := by
  have h := stream_any key nonce c text.size w hG
  by_cases he : chkE key.size nonce.size c text.size = 0
  · obtain ⟨-, -, -, -, -, h4, -⟩ := chkE_ok he
    obtain ⟨s, hs⟩ : ∃ s, s = strm (textF key nonce) c.toNat text.size := ⟨_, rfl⟩
    have hsl : s.length = text.size := by rw [hs, strm_length]
    have hS : strmS key nonce c text.size = str s := by unfold strmS; rw [if_neg (fun x => x he), hs, Int.toNat_natCast]
    have hT : trnS key nonce c text = str (xorL text.data.toList s) := by unfold trnS; rw [if_neg (fun x => x he), hs]
    rw [hT]
    rw [hS] at h
    rw [he] at h ⊢
    clear hS hT he
    obtain ⟨S, hS⟩ : ∃ S, S = str s := ⟨_, rfl⟩
    have hSs : S.size = text.size := by rw [hS, str_size, hsl]
    rw [← hS] at h
    have H := Lib.hid (And.intro h (And.intro hs (And.intro hsl hS)))
    clear h hs hsl hS hG
    have hN : text.size ≤ 65536 := by omega
    go_enter Tryd.func67, Tryd.ntmps67
    go_wp2_with fail
    refine H.out.1.mono ?_
    rintro e w1 ⟨rfl, hb1⟩
    obtain ⟨cap, w2, hcv, hrow, hb2, hz2⟩ := conv_bytes w1 text
    rw [← xorTo_zero text.data.toList s] at hrow
    have HI := Lib.hid (And.intro hrow (And.intro (below_call' hb1 hb2) hb1.size))
    clear hrow hb1 hb2 hz2
    go_wp2_with fail
    clear hcv
    generalize w1.heap.size = g at *
    go_loopw [13, 30] (fun _ i wr => ∃ k : Nat, k ≤ text.size ∧ i = .int .i64 k ∧ Row8 g wr g (xorTo text.data.toList s k) ∧ Below w.heap.size w wr) (fun _ i _ => text.size - (intOf i).toNat)
    case atStart => exact ⟨0, by omega, rfl, HI.out.1, HI.out.2.1⟩
    case round =>
      obtain ⟨k, hk, rfl, hR, hb⟩ := hrel
      have htl : text.data.toList.length = text.size := by simp
      by_cases hlt : k < text.size
      · have hkl : k < (xorTo text.data.toList s k).length := by rw [xorTo_length, htl]; exact hlt
        obtain ⟨hc, hf⟩ := hR.2.2 k hkl
        rw [xorTo_get _ _ _ _ (by rw [htl]; exact hlt), if_neg (by omega)] at hc
        obtain ⟨x, hx⟩ : ∃ x, x = text.data.toList.getD k 0 := ⟨_, rfl⟩
        rw [← hx] at hc
        have hlS : k < S.size := by omega
        obtain ⟨y, hy⟩ : ∃ y, y = S[k] := ⟨_, rfl⟩
        have hys : y = s.getD k 0 := by rw [hy, byteOf_lt]; rw [H.out.2.2.2]; rfl
        obtain ⟨z, hz⟩ : ∃ z, z = x ^^^ y := ⟨_, rfl⟩
        have hxz : bits .xor .u8 (x.toNat : Int) (y.toNat : Int) = (z.toNat : Int) := by rw [qbyte_xor8, hz]
        have hput := Row8.put (l' := xorTo text.data.toList s (k + 1)) (w := wr.drew) hR.drew k hkl z (by rw [xorTo_length, xorTo_length]) (by rw [xorTo_get _ _ _ _ (by rw [htl]; exact hlt), if_pos (by omega), hz, hx, hys]) (fun i hi hne => by
          rw [xorTo_length] at hi
          rw [xorTo_get _ _ _ _ hi, xorTo_get _ _ _ _ hi]
          by_cases h1 : i < k
          · rw [if_pos (by omega), if_pos h1]
          · rw [if_neg (by omega), if_neg h1])
        have hc2 : wr.drew.cell? ⟨g, k, none⟩ = some (.int .u8 (x.toNat : Int)) := hc
        have hf2 : wr.drew.frozen? ⟨g, k, none⟩ = false := hf
        have HK := Lib.hid (And.intro hput (hb.drew.setCell (p := ⟨g, k, none⟩) HI.out.2.2 (.int .u8 (z.toNat : Int))))
        have HY := Lib.hid hy
        clear hR hb hx hys hz hput hkl hy
        go_wp2_with fail
        refine wp_region_still_tail 9 (by kernel_rfl) (by kernel_rfl) ?_
        simp only [List.take_succ_cons, List.take_zero, List.drop_succ_cons, List.drop_zero]
        repeat still_step
        try rw [← HY.out]
        try rw [hxz]
        refine wpStill_nil ?_
        change wpList _ _ _ _ _ wr.drew
        clear hc hf
        generalize wr.drew = w3 at *
        go_wp2_with fail
        go_roundw
        case rel => exact ⟨k + 1, by omega, by go_num, HK.out.1, HK.out.2⟩
        case measure => simp [intOf]; omega
      · obtain rfl : k = text.size := by omega
        have hcv := hR.conv text.size (by rw [xorTo_length, htl]) cap
        rw [show xorTo text.data.toList s text.size = xorL text.data.toList s from by rw [xorL, htl]] at hcv
        have HB := Lib.hid hb
        clear hR hb
        go_wp2_with fail
        go_ret2
        exact ⟨rfl, HB.out⟩
  · have hs : strmS key nonce c text.size = ⟨#[]⟩ := by unfold strmS; rw [if_pos he]
    have ht : trnS key nonce c text = ⟨#[]⟩ := by unfold trnS; rw [if_pos he]
    have hb := ne_zero_bne he
    rw [hs] at h
    rw [ht]
    generalize chkE key.size nonce.size c text.size = E at *
    have H := Lib.hid h
    clear h hs ht he
    go_enter Tryd.func67, Tryd.ntmps67
    go_wp2_with fail
    refine H.out.mono ?_
    rintro e w1 ⟨rfl, hb1⟩
    have HB := Lib.hid hb1
    clear hb1
    go_wp2_with fail
    go_ret2
    exact ⟨rfl, HB.out⟩
end Go.Proofs.YtgoimggfpagojaaDoor
