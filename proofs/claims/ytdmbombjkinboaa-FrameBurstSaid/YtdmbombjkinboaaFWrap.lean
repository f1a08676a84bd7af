/- frame.sum, Wrap, Long; the reference's Wrap. -/
import Derived.Test.YtdmbombjkinboaaZRef
import Derived.Test.YtdmbombjkinboaaBytesB
import Derived.Test.YtdmbombjkinboaaFMath
namespace Go.Proofs.Ytdmbombjkinboaa
open Go.RowKit
open Fr

attribute [local go_sem] V_shr V_div256 V_div65536 V_div16777216
theorem conv_row (cs : Array Value) (l : List UInt8) (hcs : cs = (bcells l).toArray) (n : Nat) (hn : l.length = n) (W : World) :
    (convert 47 9 (.slice (some ⟨W.heap.size, 0, none⟩) n n)).run Try.prog (W.alloc (.cells cs 5)) = .ok (.string (str l)) (W.alloc (.cells cs 5)) := by
  subst hcs hn
  rw [← strOfNums_nums]
  refine run_convert_bytes_arg (P := Try.prog) _ 47 5 Try.underlying47 Try.underlying5 W.heap.size 0 l.length l.length (nums l) (by simp [nums]) (fun j hj => ?_) 9 Try.underlying9
  rw [Nat.zero_add, cell_of_row _ _ _ _ _ _ (heap_alloc_new _ _)]
  simp [bcells, nums, List.getD_eq_getElem?_getD, hj]
theorem conv_3 (a b c : UInt8) (W : World) : (convert 47 9 (.slice (some ⟨W.heap.size, 0, none⟩) 3 3)).run Try.prog (W.alloc (.cells #[.int .u8 (a.toNat : Int), .int .u8 (b.toNat : Int), .int .u8 (c.toNat : Int)] 5)) = .ok (.string (str [a, b, c])) (W.alloc (.cells #[.int .u8 (a.toNat : Int), .int .u8 (b.toNat : Int), .int .u8 (c.toNat : Int)] 5)) :=
  conv_row _ [a, b, c] rfl 3 rfl W
theorem conv_4 (a b c d : UInt8) (W : World) : (convert 47 9 (.slice (some ⟨W.heap.size, 0, none⟩) 4 4)).run Try.prog (W.alloc (.cells #[.int .u8 (a.toNat : Int), .int .u8 (b.toNat : Int), .int .u8 (c.toNat : Int), .int .u8 (d.toNat : Int)] 5)) = .ok (.string (str [a, b, c, d])) (W.alloc (.cells #[.int .u8 (a.toNat : Int), .int .u8 (b.toNat : Int), .int .u8 (c.toNat : Int), .int .u8 (d.toNat : Int)] 5)) :=
  conv_row _ [a, b, c, d] rfl 4 rfl W
theorem conv_e5 (b c d : UInt8) (W : World) : (convert 47 9 (.slice (some ⟨W.heap.size, 0, none⟩) 4 4)).run Try.prog (W.alloc (.cells #[.int .u8 229, .int .u8 (b.toNat : Int), .int .u8 (c.toNat : Int), .int .u8 (d.toNat : Int)] 5)) = .ok (.string (str [229, b, c, d])) (W.alloc (.cells #[.int .u8 229, .int .u8 (b.toNat : Int), .int .u8 (c.toNat : Int), .int .u8 (d.toNat : Int)] 5)) :=
  conv_row _ [229, b, c, d] rfl 4 rfl W
theorem low_V (x : BitVec 32) : IntKind.u8.wrap (V x) = ((UInt8.ofNat x.toNat).toNat : Int) := by
  rw [ofNat_toNat]; unfold V; rw [IntKind.wrap_u8']; omega
theorem low_n (n : Nat) : IntKind.u8.wrap (n : Int) = ((UInt8.ofNat n).toNat : Int) := by
  rw [ofNat_toNat, IntKind.wrap_u8']; omega
theorem le4_eq (x : BitVec 32) : le4 x = [UInt8.ofNat x.toNat, UInt8.ofNat (x >>> 8).toNat, UInt8.ofNat (x >>> 16).toNat, UInt8.ofNat (x >>> 24).toNat] := by
  unfold le4
  simp only [BitVec.toNat_ushiftRight, Nat.shiftRight_eq_div_pow, Nat.reducePow]
set_option maxHeartbeats 1000000 in
theorem fsum_any (a b : ByteArray) (ha : a.size ≤ 100000) (hb : b.size ≤ 100000) (w : World) :
    Calls Try.prog 20 #[.string a, .string b] w fun e w' => e = .returned (.string (str (sum4 a.data.toList b.data.toList))) ∧ Below w.heap.size w w' := by
  obtain ⟨x, hx⟩ : ∃ x, x = Zc.sum (a.data.toList ++ b.data.toList) := ⟨_, rfl⟩
  have hm : Zc.more (Zc.sum a.data.toList) b.data.toList = x := by rw [hx, Zc.sum, Zc.more_more]; rfl
  have h4 : sum4 a.data.toList b.data.toList = [UInt8.ofNat x.toNat, UInt8.ofNat (x >>> 8).toNat, UInt8.ofNat (x >>> 16).toNat, UInt8.ofNat (x >>> 24).toNat] := by rw [← le4_eq, hx]; rfl
  have l0 := low_V x
  have l1 := low_V (x >>> 8)
  have l2 := low_V (x >>> 16)
  have l3 := low_V (x >>> 24)
  rw [h4]
  clear h4 hx
  have HM := Lib.hid hm
  clear hm
  generalize UInt8.ofNat x.toNat = c0 at *
  generalize UInt8.ofNat (x >>> 8).toNat = c1 at *
  generalize UInt8.ofNat (x >>> 16).toNat = c2 at *
  generalize UInt8.ofNat (x >>> 24).toNat = c3 at *
  go_enter Try.func20, Try.ntmps20
  go_wp2_with fail
  refine (sum_any a (by unfold maxLen; omega) _).mono ?_
  rintro e w1 ⟨rfl, h1⟩
  go_wp2_with fail
  refine (more_any _ b (by unfold maxLen; omega) _).mono ?_
  rintro e w2 ⟨rfl, h2⟩
  rw [HM.out]
  have hconv := conv_4 c0 c1 c2 c3
  go_wp2_with fail
  go_ret
  exact ⟨rfl, (below_call h1 h2).trans ((Below.refl _ w2).alloc (by have := h1.size; have := h2.size; omega) _)⟩

/-- Wrap's answer. -/
def wrapE (b : ByteArray) : Int := if b.size = 0 then 1 else if 32768 < b.size then 2 else 0
def wrapS (b : ByteArray) : ByteArray := if wrapE b = 0 then str (frm b.data.toList) else ⟨#[]⟩
theorem may_size {b : ByteArray} : may b.data.toList ↔ 1 ≤ b.size ∧ b.size ≤ 32768 := by unfold may; simp
theorem wrapE_ok {b : ByteArray} (h : may b.data.toList) : wrapE b = 0 := by
  have := may_size.1 h
  unfold wrapE; rw [if_neg (by omega), if_neg (by omega)]
theorem wrapE_may {b : ByteArray} (h : wrapE b = 0) : may b.data.toList := by
  rw [may_size]
  unfold wrapE at h
  by_cases h1 : b.size = 0
  · rw [if_pos h1] at h; cases h
  · rw [if_neg h1] at h
    by_cases h2 : 32768 < b.size
    · rw [if_pos h2] at h; cases h
    · omega
theorem wrapS_ok {b : ByteArray} (h : may b.data.toList) : wrapS b = str (frm b.data.toList) := by unfold wrapS; rw [if_pos (wrapE_ok h)]
theorem wrapS_no {b : ByteArray} (h : wrapE b ≠ 0) : wrapS b = ⟨#[]⟩ := by unfold wrapS; rw [if_neg h]
theorem str_cat (l k : List UInt8) : str l ++ str k = str (l ++ k) := by
  apply Go.WideShapes.bytes_inj
  rw [ByteArray.data_append]
  simp [str]
theorem str_cat' (l : List UInt8) (k : ByteArray) : str l ++ k = str (l ++ k.data.toList) := str_cat l k.data.toList
theorem str_cut (l : List UInt8) (m n : Nat) : (str l).extract m n = str ((l.take n).drop m) := by
  apply Go.WideShapes.bytes_inj
  rw [ByteArray.data_extract]
  simp [str]
  rw [List.drop_take]
theorem frm_parts (b : ByteArray) : str (frm b.data.toList) = (str (229 :: len3 b.size) ++ str (sum4 (len3 b.size) b.data.toList)) ++ b := by
  rw [str_cat, str_cat']
  unfold frm
  simp
theorem empty_size (b : ByteArray) : b.toList.isEmpty = decide (b.size = 0) := by
  rw [toList_data]
  have e : b.data.toList.length = b.size := by simp
  cases h : b.data.toList with
  | nil => rw [h] at e; simp at e; simp [← e]
  | cons a l => rw [h, List.length_cons] at e; rw [decide_eq_false (by omega)]; rfl
theorem size_empty {b : ByteArray} (h : b.toList.isEmpty = true) : b.size = 0 := by rw [empty_size] at h; simpa using h
theorem size_full {b : ByteArray} (h : ¬ b.toList.isEmpty = true) : ¬ b.size = 0 := by rw [empty_size] at h; simpa using h
set_option maxHeartbeats 1000000 in
theorem wrap_any (b : ByteArray) (hb : b.size ≤ 1000000) (w : World) :
    Calls Try.prog 10 #[.string b] w fun e w' => e = .returned (.tuple #[.string (wrapS b), .int .i64 (wrapE b)]) ∧ Below w.heap.size w w' := by
  by_cases h0 : (b.size : Int) = 0
  · have he : wrapE b = 1 := by unfold wrapE; rw [if_pos (by omega)]
    have hs : wrapS b = ⟨#[]⟩ := wrapS_no (by rw [he]; decide)
    rw [he, hs]
    clear he hs
    go_enter Try.func10, Try.ntmps10
    go_wp2_with fail
    go_ret2
    exact ⟨rfl, Below.refl _ _⟩
  by_cases h1 : (32768 : Int) < b.size
  · have he : wrapE b = 2 := by unfold wrapE; rw [if_neg (by omega), if_pos (by omega)]
    have hs : wrapS b = ⟨#[]⟩ := wrapS_no (by rw [he]; decide)
    rw [he, hs]
    clear he hs
    go_enter Try.func10, Try.ntmps10
    go_wp2_with fail
    go_ret2
    exact ⟨rfl, Below.refl _ _⟩
  have hm : may b.data.toList := may_size.2 (by omega)
  rw [wrapE_ok hm, wrapS_ok hm, frm_parts]
  clear hm
  have l0 : (b.size : Int) / 65536 = ((UInt8.ofNat (b.size / 65536)).toNat : Int) := by rw [ofNat_toNat]; omega
  have l1 : (b.size : Int) / 256 = ((UInt8.ofNat (b.size / 256)).toNat : Int) := by rw [ofNat_toNat]; omega
  have l2 := low_n b.size
  obtain ⟨c0, hc0⟩ : ∃ c, c = UInt8.ofNat (b.size / 65536) := ⟨_, rfl⟩
  obtain ⟨c1, hc1⟩ : ∃ c, c = UInt8.ofNat (b.size / 256) := ⟨_, rfl⟩
  obtain ⟨c2, hc2⟩ : ∃ c, c = UInt8.ofNat b.size := ⟨_, rfl⟩
  have hl3 : len3 b.size = [c0, c1, c2] := by rw [hc0, hc1, hc2]; rfl
  rw [← hc0] at l0
  rw [← hc1] at l1
  rw [← hc2] at l2
  rw [hl3]
  clear hc0 hc1 hc2 hl3
  obtain ⟨R, hR⟩ : ∃ R, R = str [229, c0, c1, c2] ++ str (sum4 [c0, c1, c2] b.data.toList) ++ b := ⟨_, rfl⟩
  rw [← hR]
  have HR := Lib.hid hR
  clear hR
  have hconv := conv_e5 c0 c1 c2
  have hcut : (str [229, c0, c1, c2]).extract 1 4 = str [c0, c1, c2] := str_cut _ _ _
  have hs1 : (str [229, c0, c1, c2]).size = 4 := rfl
  go_enter Try.func10, Try.ntmps10
  go_wp2_with fail
  refine (fsum_any (str [c0, c1, c2]) b (by rw [str_size]; show 3 ≤ 100000; decide) (by omega) _).mono ?_
  rintro e w1 ⟨rfl, hb1⟩
  rw [str_data]
  have hs2 : (str (sum4 [c0, c1, c2] b.data.toList)).size = 4 := rfl
  generalize str (sum4 [c0, c1, c2] b.data.toList) = S4 at *
  generalize str [229, c0, c1, c2] = H4 at *
  go_wp2_with fail
  go_ret2
  exact ⟨by rw [HR.out]; rfl, ((Below.refl _ w).alloc (Nat.le_refl _) _).trans (hb1.mono (by simp))⟩
theorem long_any (b : ByteArray) (hb : b.size ≤ 1000000) (w : World) :
    Calls Try.prog 12 #[.string b] w fun e w' => e = .returned (.int .i64 ((wrapS b).size : Int)) ∧ w = w' := by
  by_cases h0 : b.toList.isEmpty = true
  · have he : wrapE b = 1 := by unfold wrapE; rw [if_pos (size_empty h0)]
    have hs : wrapS b = ⟨#[]⟩ := wrapS_no (by rw [he]; decide)
    rw [hs, show ((⟨#[]⟩ : ByteArray).size : Int) = 0 from rfl]
    clear he hs
    go_enter Try.func12, Try.ntmps12
    go_wp2_with fail
    go_ret
    exact ⟨rfl, rfl⟩
  have h0' : b.toList.isEmpty = false := by simpa using h0
  by_cases h1 : (32768 : Int) < b.size
  · have he : wrapE b = 2 := by unfold wrapE; rw [if_neg (size_full h0), if_pos (by omega)]
    have hs : wrapS b = ⟨#[]⟩ := wrapS_no (by rw [he]; decide)
    rw [hs, show ((⟨#[]⟩ : ByteArray).size : Int) = 0 from rfl]
    clear he hs
    go_enter Try.func12, Try.ntmps12
    go_wp2_with fail
    go_ret
    exact ⟨rfl, rfl⟩
  have hm : may b.data.toList := may_size.2 (by have := size_full h0; omega)
  have hn : ((wrapS b).size : Int) = 8 + b.size := by rw [wrapS_ok hm, str_size, frm_length]; simp
  rw [hn]
  clear hn hm
  go_enter Try.func12, Try.ntmps12
  go_wp2_with fail
  go_ret
  exact ⟨rfl, rfl⟩
set_option maxHeartbeats 1000000 in
theorem rwrap_any (b : ByteArray) (hb : b.size ≤ 1000000) (w : World) :
    Calls Try.prog 11 #[.string b] w fun e w' => e = .returned (.tuple #[.string (wrapS b), .int .i64 (wrapE b)]) ∧ Below w.heap.size w w' := by
  by_cases h0 : b.toList.isEmpty = true
  · have he : wrapE b = 1 := by unfold wrapE; rw [if_pos (size_empty h0)]
    have hs : wrapS b = ⟨#[]⟩ := wrapS_no (by rw [he]; decide)
    rw [he, hs]
    clear he hs
    go_enter Try.func11, Try.ntmps11
    go_wp2_with fail
    go_ret2
    exact ⟨rfl, Below.refl _ _⟩
  have h0' : b.toList.isEmpty = false := by simpa using h0
  by_cases h1 : (32768 : Int) < b.size
  · have he : wrapE b = 2 := by unfold wrapE; rw [if_neg (size_full h0), if_pos (by omega)]
    have hs : wrapS b = ⟨#[]⟩ := wrapS_no (by rw [he]; decide)
    rw [he, hs]
    clear he hs
    go_enter Try.func11, Try.ntmps11
    go_wp2_with fail
    go_ret2
    exact ⟨rfl, Below.refl _ _⟩
  have hm : may b.data.toList := may_size.2 (by have := size_full h0; omega)
  rw [wrapE_ok hm, wrapS_ok hm, frm_parts]
  clear hm
  have l0 : (b.size : Int) / 65536 = ((UInt8.ofNat (b.size / 65536)).toNat : Int) := by rw [ofNat_toNat]; omega
  have l1 : (b.size : Int) / 256 = ((UInt8.ofNat (b.size / 256)).toNat : Int) := by rw [ofNat_toNat]; omega
  have l2 : (b.size : Int).tmod 256 = ((UInt8.ofNat b.size).toNat : Int) := by rw [ofNat_toNat, Int.tmod_eq_emod_of_nonneg (by omega)]; omega
  obtain ⟨c0, hc0⟩ : ∃ c, c = UInt8.ofNat (b.size / 65536) := ⟨_, rfl⟩
  obtain ⟨c1, hc1⟩ : ∃ c, c = UInt8.ofNat (b.size / 256) := ⟨_, rfl⟩
  obtain ⟨c2, hc2⟩ : ∃ c, c = UInt8.ofNat b.size := ⟨_, rfl⟩
  have hl3 : len3 b.size = [c0, c1, c2] := by rw [hc0, hc1, hc2]; rfl
  rw [← hc0] at l0
  rw [← hc1] at l1
  rw [← hc2] at l2
  have l3 : ((c1.toNat : Int)).tmod 256 = c1.toNat := by have := c1.toNat_lt; rw [Int.tmod_eq_emod_of_nonneg (by omega)]; omega
  have l4 : (c2.toNat : Int) % 256 = c2.toNat := by have := c2.toNat_lt; omega
  rw [hl3]
  clear hc0 hc1 hc2 hl3
  have hconv := conv_3 c0 c1 c2
  obtain ⟨x, hx⟩ : ∃ x, x = Zc.sum ([c0, c1, c2] ++ b.data.toList) := ⟨_, rfl⟩
  have h4 : sum4 [c0, c1, c2] b.data.toList = [UInt8.ofNat x.toNat, UInt8.ofNat (x >>> 8).toNat, UInt8.ofNat (x >>> 16).toNat, UInt8.ofNat (x >>> 24).toNat] := by rw [← le4_eq, hx]; rfl
  have hsum : Zc.sum (str [c0, c1, c2] ++ b).data.toList = x := by rw [str_cat', str_data, hx]
  have m0 := low_V x
  have m1 := low_V (x >>> 8)
  have m2 := low_V (x >>> 16)
  have m3 := low_V (x >>> 24)
  rw [h4]
  clear h4 hx
  generalize UInt8.ofNat x.toNat = d0 at *
  generalize UInt8.ofNat (x >>> 8).toNat = d1 at *
  generalize UInt8.ofNat (x >>> 16).toNat = d2 at *
  generalize UInt8.ofNat (x >>> 24).toNat = d3 at *
  obtain ⟨R, hR⟩ : ∃ R, R = str [229, c0, c1, c2] ++ str [d0, d1, d2, d3] ++ b := ⟨_, rfl⟩
  rw [← hR]
  have hcat : (⟨#[229]⟩ : ByteArray) ++ str [c0, c1, c2] = str [229, c0, c1, c2] := by
    rw [show (⟨#[229]⟩ : ByteArray) = str [229] from rfl, str_cat]; rfl
  have HR := Lib.hid (And.intro hR hsum)
  clear hR hsum
  have hs1 : (str [c0, c1, c2]).size = 3 := rfl
  have hs2 : (str [229, c0, c1, c2]).size = 4 := rfl
  have hs3 : (str [d0, d1, d2, d3]).size = 4 := rfl
  have hs4 : (⟨#[229]⟩ : ByteArray).size = 1 := rfl
  have hsz : (str [c0, c1, c2] ++ b).size ≤ maxLen := by rw [ByteArray.size_append, hs1]; unfold maxLen; omega
  have HZ := Lib.hid hsz
  clear hsz
  go_enter Try.func11, Try.ntmps11
  go_wp2_with fail
  refine (rsum_any _ HZ.out _).mono ?_
  rintro e w1 ⟨rfl, hw1⟩
  have hb1 : Below w.heap.size w w1 := hw1 ▸ (Below.refl _ w).alloc (Nat.le_refl _) _
  clear hw1
  have HB := Lib.hid hb1
  clear hb1
  rw [HR.out.2]
  have hconv4 := conv_4 d0 d1 d2 d3
  go_wp2_with fail
  go_ret2
  exact ⟨by rw [HR.out.1]; rfl, HB.out.alloc HB.out.size _⟩
end Go.Proofs.Ytdmbombjkinboaa
