/- awake: the page's examples hold. -/
import Derived.Test.YtlfefgfpachehaaDoorSum
import Derived.Test.YtlfefgfpachehaaDoorKnown
namespace Go.Proofs.YtlfefgfpachehaaDoor
open Go.RowKit

set_option maxRecDepth 100000 in
set_option maxHeartbeats 400000 in
theorem awake_any (w : World) (hG : Glob w) : Calls Tryd.prog 9 #[] w fun e w' => e = .returned (.bool true) ∧ Below w.heap.size w w' := by
  go_enter Tryd.func9, Tryd.ntmps9
  go_wp2_with fail
  refine (dsum_any ⟨#[]⟩ (by decide) _ hG).mono ?_
  rintro e w1 ⟨rfl, hb1⟩
  have e1 : str (sha (⟨#[]⟩ : ByteArray).data.toList) = ⟨#[227, 176, 196, 66, 152, 252, 28, 20, 154, 251, 244, 200, 153, 111, 185, 36, 39, 174, 65, 228, 100, 155, 147, 76, 164, 149, 153, 27, 120, 82, 184, 85]⟩ := congrArg str sha_none
  rw [e1]
  clear e1
  go_wp2_with fail
  refine (dsum_any ⟨#[97, 98, 99]⟩ (by decide) _ (hG.below hb1)).mono ?_
  rintro e w2 ⟨rfl, hb2⟩
  have e2 : str (sha (⟨#[97, 98, 99]⟩ : ByteArray).data.toList) = ⟨#[186, 120, 22, 191, 143, 1, 207, 234, 65, 65, 64, 222, 93, 174, 34, 35, 176, 3, 97, 163, 150, 23, 122, 156, 180, 16, 255, 97, 242, 0, 21, 173]⟩ := congrArg str sha_abc
  rw [e2]
  clear e2
  have hx : (⟨#[227, 176, 196, 66, 152, 252, 28, 20, 154, 251, 244, 200, 153, 111, 185, 36, 39, 174, 65, 228, 100, 155, 147, 76, 164, 149, 153, 27, 120, 82, 184, 85]⟩ : ByteArray).extract 0 4 = ⟨#[227, 176, 196, 66]⟩ := rfl
  have h55 : blocksI 55 = 1 := by decide
  have h56 : blocksI 56 = 2 := by decide
  go_wp2_with (go_at_call 20; refine (blocks_any _ (by decide) _).mono ?_; rintro e w' ⟨rfl, rfl⟩)
  go_ret
  exact ⟨rfl, hb1.trans (hb2.mono hb1.size)⟩

set_option maxRecDepth 100000 in
set_option maxHeartbeats 400000 in
theorem blocks_law (n : Int) (hlo : -9223372036854775808 ≤ n) (hhi : n ≤ 9223372036854775807) (w : World) (hG : Glob w) :
    Calls Tryd.prog 7 #[.int .i64 n] w fun e w' => e = .returned (.bool true) ∧ Below w.heap.size w w' := by
  by_cases hbig : 1099511627776 < n
  · go_enter Tryd.func7, Tryd.ntmps7
    go_wp2_with fail
    refine (awake_any _ hG).mono ?_
    rintro e w1 ⟨rfl, hb1⟩
    go_wp2_with fail
    go_ret
    exact ⟨rfl, hb1⟩
  · by_cases hneg : n < 0
    · have hz := blocksI_neg hneg
      go_enter Tryd.func7, Tryd.ntmps7
      go_wp2_with fail
      refine (blocks_any _ hhi _).mono ?_
      rintro e w0 ⟨rfl, rfl⟩
      go_wp2_with fail
      refine (awake_any _ hG).mono ?_
      rintro e w1 ⟨rfl, hb1⟩
      go_wp2_with fail
      go_ret
      exact ⟨rfl, hb1⟩
    · obtain ⟨k, hk⟩ : ∃ k, k = blocksI n := ⟨_, rfl⟩
      have k1 : n + 9 ≤ 64 * k := by rw [hk, blocksI, if_neg hneg]; split <;> omega
      have k2 : 64 * (k - 1) < n + 9 := by rw [hk, blocksI, if_neg hneg]; split <;> omega
      have HK := Lib.hid hk
      clear hk
      go_enter Tryd.func7, Tryd.ntmps7
      go_wp2_with fail
      refine (blocks_any _ hhi _).mono ?_
      rintro e w0 ⟨rfl, rfl⟩
      rw [← HK.out]
      go_wp2_with fail
      refine (awake_any _ hG).mono ?_
      rintro e w1 ⟨rfl, hb1⟩
      go_wp2_with fail
      go_ret
      exact ⟨rfl, hb1⟩
end Go.Proofs.YtlfefgfpachehaaDoor
