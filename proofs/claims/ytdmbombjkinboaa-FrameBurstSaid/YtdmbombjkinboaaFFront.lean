/- frame.Front: the body at the front, and what stands behind it. -/
import Derived.Test.YtdmbombjkinboaaFFirst
import Derived.Test.YtdmbombjkinboaaClone
namespace Go.Proofs.Ytdmbombjkinboaa
open Go.RowKit
open Fr

/-- Front's answer. -/
def frB (s : ByteArray) : ByteArray := if (fst s.data.toList).2 = 0 then s.extract 8 (fst s.data.toList).1 else ⟨#[]⟩
def frR (s : ByteArray) : ByteArray := if (fst s.data.toList).2 = 0 then s.extract (fst s.data.toList).1 s.size else ⟨#[]⟩
def frE (s : ByteArray) : Int := ((fst s.data.toList).2 : Int)
set_option maxHeartbeats 1000000 in
theorem front_any (s : ByteArray) (hs : s.size ≤ 200000) (w : World) :
    Calls Try.prog 13 #[.string s] w fun e w' => e = .returned (.tuple #[.string (frB s), .string (frR s), .int .i64 (frE s)]) ∧ Below w.heap.size w w' := by
  obtain ⟨n, hn⟩ : ∃ n, n = (fst s.data.toList).1 := ⟨_, rfl⟩
  obtain ⟨m, hm⟩ : ∃ m, m = (fst s.data.toList).2 := ⟨_, rfl⟩
  have hX := first_any s hs
  unfold frB frR frE
  rw [← hn, ← hm]
  rw [← hn, ← hm] at hX
  by_cases h : m = 0
  · have h1 : fst s.data.toList = (n, 0) := by rw [hn, ← h, hm]
    have h2 := fst_ok h1
    have hns : (n : Int) ≤ s.size := by have := h2.2.2.2.1; simp at this; omega
    have hn8 : (8 : Int) ≤ n := by omega
    clear h1 h2 hn hm
    subst h
    rw [if_pos rfl, if_pos rfl]
    obtain ⟨B, hB⟩ : ∃ B, s.extract 8 n = B := ⟨_, rfl⟩
    obtain ⟨R, hR⟩ : ∃ R, s.extract n s.size = R := ⟨_, rfl⟩
    have sB : B.size ≤ 281474976710656 := by rw [← hB, ByteArray.size_extract]; omega
    have sR : R.size ≤ 281474976710656 := by rw [← hR, ByteArray.size_extract]; omega
    rw [hB, hR]
    go_enter Try.func13, Try.ntmps13
    go_wp2_with fail
    refine (hX _).mono ?_
    rintro e w1 ⟨rfl, h1⟩
    have H1 := Lib.hid h1
    clear h1 hX
    go_wp2_with fail
    go_region_with (go_at_call 23; refine (clone_any _ _ (by assumption)).mono ?_; rintro e w4 ⟨rfl, hb4⟩; first | (have HB5 := Lib.hid (below_call HB4.out hb4); clear hb4) | (have HB4 := Lib.hid (below_call H1.out.drew hb4); clear hb4))
    all_goals go_wp2_with fail
    all_goals go_ret3
    all_goals exact ⟨by kernel_rfl, HB5.out⟩
  · rw [if_neg h, if_neg h]
    have h' : ((m : Int) != 0) = true := by simp; omega
    clear hn hm h
    go_enter Try.func13, Try.ntmps13
    go_wp2_with fail
    refine (hX _).mono ?_
    rintro e w1 ⟨rfl, h1⟩
    go_wp2_with fail
    go_ret3
    exact ⟨rfl, h1⟩
end Go.Proofs.Ytdmbombjkinboaa
