/- mac.Texts. -/
import Derived.Test.YtgoimggfpagojaaDoorClone
import Derived.Test.YtgoimggfpagojaaDoorMAwake
namespace Go.Proofs.YtgoimggfpagojaaDoor
open Go.RowKit

def innerT (key t : ByteArray) : ByteArray := str (padX key.data.toList 54) ++ t
def outerT (key t : ByteArray) : ByteArray := str (padX key.data.toList 92) ++ str (sha (innerT key t).data.toList)
/-- The texts that are summed for a code. -/
def textsOf (key t : ByteArray) : List ByteArray := if 64 < key.size then [key, innerT key t, outerT key t] else [innerT key t, outerT key t]
theorem textsOf_le (key t : ByteArray) : (textsOf key t).length ≤ 3 := by unfold textsOf; split <;> simp
attribute [local go_sem ↓] ldB_hide
attribute [local go_sem] ldB_eq

set_option maxRecDepth 100000 in
set_option maxHeartbeats 1000000 in
theorem mtexts_any (key t : ByteArray) (hs : key.size ≤ 300) (ht : t.size ≤ 4000) (w : World) (hG : Glob w) :
    Calls Tryd.prog 40 #[.string key, .string t] w fun e w' => ∃ a cap, e = .returned (.slice a (textsOf key t).length cap) ∧ TextsAt w' a (textsOf key t) ∧ Below w.heap.size w w' := by
  have hz44 := z44
  obtain ⟨R, hR⟩ : ∃ R, R = blk key.data.toList := ⟨_, rfl⟩
  have hRl : R.length = 64 := by rw [hR, blk_length]
  have hRs : (bArr R).size = 64 := by rw [bArr_size, hRl]
  have hp1 : padX key.data.toList 54 = R.map (· ^^^ 54) := by rw [padX, hR]
  have hp2 : padX key.data.toList 92 = R.map (· ^^^ 92) := by rw [padX, hR]
  obtain ⟨s1, hs1⟩ : ∃ s, s = str (R.map (· ^^^ 54)) := ⟨_, rfl⟩
  obtain ⟨s2, hs2⟩ : ∃ s, s = str (R.map (· ^^^ 92)) := ⟨_, rfl⟩
  have hl1 : s1.size = 64 := by rw [hs1, str_size, List.length_map, hRl]
  have hl2 : s2.size = 64 := by rw [hs2, str_size, List.length_map, hRl]
  obtain ⟨D, hD⟩ : ∃ D, D = str (sha (s1 ++ t).data.toList) := ⟨_, rfl⟩
  have hDs : D.size = 32 := by rw [hD, str_size, sha_length]
  have hi : innerT key t = s1 ++ t := by rw [innerT, hp1, hs1]
  have ho : outerT key t = s2 ++ D := by rw [outerT, hi, hp2, hs2, hD]
  have hsum := fun W (hG : Glob W) => dsum_any (s1 ++ t) (by rw [ByteArray.size_append]; omega) W hG
  rw [← hD] at hsum
  have b1 : (s1.size : Int) ≤ 64 := by omega
  have b2 : (t.size : Int) ≤ 4000 := by omega
  have b3 : (s2.size : Int) ≤ 64 := by omega
  have b4 : (D.size : Int) ≤ 32 := by omega
  have HS := Lib.hid hsum
  clear hsum
  have HR := Lib.hid (And.intro hRl (And.intro hRs (And.intro hR (And.intro (bArr_oneCell R) (And.intro zero64_size (And.intro hs1 hs2))))))
  have HT := Lib.hid (And.intro hi ho)
  clear hRl hRs hR hp1 hp2 hs1 hs2 hl1 hl2 hD hDs hi ho
  go_enter Tryd.func40, Tryd.ntmps40
  go_wp2_with fail
  refine (blockOf_any key (by omega) _ hG).mono ?_
  rintro e w1 ⟨rfl, hb1⟩
  rw [← HR.out.2.2.1]
  have hG1 := hG.below hb1
  have hN : (w1.alloc (.cells zero64 84)).heap[w1.heap.size]? = some (.cells zero64 84 (0, 0)) := heap_alloc_new _ _
  have hr2 : ((w1.alloc (.cells zero64 84)).setRow w1.heap.size (bArr R)).heap[w1.heap.size]? = some (.cells (bArr R) 84 (0, 0)) := setRow_heap _ _ _ _ _ _ hN
  have hB2 : Below w.heap.size w ((w1.alloc (.cells zero64 84)).setRow w1.heap.size (bArr R)) := below_setRow (hb1.alloc hb1.size _) _ _ hb1.size
  have ro : rowOf ((w1.alloc (.cells zero64 84)).setRow w1.heap.size (bArr R)) w1.heap.size = bArr R := rowOf_eq hr2
  have rs := HR.out.2.1
  have HA := Lib.hid (And.intro hN (And.intro hr2 hB2))
  clear hb1 hG1 hN hr2 hB2
  go_wp2_with (first
    | (refine wpList_store_row rfl 84 _ _ rfl w1.heap.size rfl 84 zero64 (bArr R) rfl HA.out.1 (by rw [HR.out.2.1]; kernel_rfl) (by rw [HR.out.2.1, HR.out.2.2.2.2.1]) HR.out.2.2.2.1 ?_))
  obtain ⟨-, hr2, hB2⟩ := HA.out
  clear HA
  generalize World.setRow _ _ _ = W2 at *
  clear ro rs
  refine (turned_any R HR.out.1 54 _).mono ?_
  rintro e w3 ⟨rfl, hb3⟩
  rw [← HR.out.2.2.2.2.2.1]
  have hr3 : w3.heap[w1.heap.size]? = some (.cells (bArr R) 84 (0, 0)) := (hb3.block _ (Array.getElem?_eq_some_iff.1 hr2).1).trans hr2
  have hB3 := below_call hB2 hb3
  have ro : rowOf w3 w1.heap.size = bArr R := rowOf_eq hr3
  have rs := HR.out.2.1
  have H3 := Lib.hid hB3
  clear hr2 hB2 hb3 hr3 hB3
  go_wp2_with fail
  refine (turned_any R HR.out.1 92 _).mono ?_
  rintro e w4 ⟨rfl, hb4⟩
  rw [← HR.out.2.2.2.2.2.2]
  have H4 := Lib.hid (below_call H3.out hb4)
  clear hb4 ro rs
  go_wp2_with fail
  refine (HS.out _ (hG.below H4.out)).mono ?_
  rintro e w5 ⟨rfl, hb5⟩
  have H5 := Lib.hid (below_call H4.out hb5)
  clear hb5
  by_cases hbig : (64 : Int) < key.size
  · go_wp2_with fail
    refine (clone_any key _ (by omega)).mono ?_
    rintro e w6 ⟨rfl, hb6⟩
    have H6 := Lib.hid (below_call H5.out hb6)
    clear hb6
    go_wp2_with fail
    go_ret
    have e1 : textsOf key t = [key, s1 ++ t, s2 ++ D] := by rw [textsOf, if_pos (by omega), HT.out.1, HT.out.2]
    rw [e1]
    exact ⟨_, _, rfl, texts_new _ _ _ rfl, H6.out.alloc H6.out.size _⟩
  · go_wp2_with fail
    go_ret
    have e1 : textsOf key t = [s1 ++ t, s2 ++ D] := by rw [textsOf, if_neg (by omega), HT.out.1, HT.out.2]
    rw [e1]
    exact ⟨_, _, rfl, texts_new _ _ _ rfl, H5.out.alloc H5.out.size _⟩
end Go.Proofs.YtgoimggfpagojaaDoor
