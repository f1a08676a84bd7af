/- lockboxlaw04.awake. -/
import Derived.Test.YtnpdmkgefaobeaaDoorMKey
namespace Go.Proofs.YtnpdmkgefaobeaaDoor
open Go.RowKit

theorem below_call {A B C : World} (h : Below A.heap.size A B) (k : Below B.heap.size B C) : Below A.heap.size A C := h.trans (k.mono h.size)
def foxL : List UInt8 := [84, 104, 101, 32, 113, 117, 105, 99, 107, 32, 98, 114, 111, 119, 110, 32, 102, 111, 120, 32, 106, 117, 109, 112, 115, 32, 111, 118, 101, 114, 32, 116, 104, 101, 32, 108, 97, 122, 121, 32, 100, 111, 103]
theorem fox4 : (code [107, 101, 121] foxL).take 4 = [247, 188, 131, 244] := by decide +kernel
set_option maxRecDepth 100000 in
set_option maxHeartbeats 1000000 in
theorem awake_any (w : World) (hG : Glob w) : Calls Tryd.prog 10 #[] w fun e w' => e = .returned (.bool true) ∧ Below w.heap.size w w' := by
  obtain ⟨S, hS⟩ : ∃ S, S = str (code [107, 101, 121] foxL) := ⟨_, rfl⟩
  have hSs : S.size = 32 := by rw [hS, str_size, code_length]
  have hS4 : S.extract 0 4 = ⟨#[247, 188, 131, 244]⟩ := by rw [hS, str_extract, fox4]; rfl
  have HS := Lib.hid hS
  obtain ⟨K, hK⟩ : ∃ K, K = str (keyL [97] [98] 1) := ⟨_, rfl⟩
  have hKs : K.size = 32 := by rw [hK, str_size, keyL, expand_length]
  have HK := Lib.hid (And.intro hK hKs)
  have HS2 := Lib.hid (And.intro hSs hS4)
  clear hS hK hKs hSs hS4
  have hc := mcode1 ⟨#[107, 101, 121]⟩ ⟨foxL.toArray⟩ (by decide) (by decide) w w hG (Below.refl _ _)
  rw [show str (code (ByteArray.mk #[107, 101, 121]).data.toList (ByteArray.mk foxL.toArray).data.toList) = S from HS.out.symm] at hc
  have hk := fun W (hb : Below w.heap.size w W) => key_any ⟨#[97]⟩ ⟨#[98]⟩ (by decide) (by decide) 1 W (hG.below hb)
  rw [show str (keyL (ByteArray.mk #[97]).data.toList (ByteArray.mk #[98]).data.toList ((1 : Int) % 18446744073709551616).toNat) = K from HK.out.1.symm] at hk
  have H := Lib.hid hk
  clear hk
  go_enter Tryd.func10, Tryd.ntmps10
  go_wp2_with fail
  refine hc.mono ?_
  rintro e w1 ⟨rfl, h1⟩
  clear hc
  have hSs := HS2.out.1
  have hS4 := HS2.out.2
  have hKs := HK.out.2
  go_wp2_with fail
  refine (H.out _ h1).mono ?_
  rintro e w2 ⟨rfl, h2⟩
  go_wp2_with fail
  go_ret
  exact ⟨rfl, below_trans' h1 h2 h1.size⟩
end Go.Proofs.YtnpdmkgefaobeaaDoor
