/- The reference's Encode. -/
import Derived.Test.YtlfefgfpachehaaCRefWrite
import Derived.Test.YtlfefgfpachehaaCRefCheck
import Derived.Test.YtlfefgfpachehaaCEnc
namespace Go.Proofs.Ytlfefgfpachehaa
open Go.RowKit
open Cn

set_option maxRecDepth 100000 in
set_option maxHeartbeats 400000 in
theorem rencode_any (S : Nat → Prop) (x : It) (w : World) (hin : x.In w S) (hlen : may x.pure 6 = true → (Cn.bytes x.pure).length ≤ 1000000) :
    Calls Try.prog 12 #[x.val] w fun e w' => e = .returned (.tuple #[.string (encS x.pure), .int .i64 (encE x.pure)]) ∧ Below w.heap.size w w' := by
  have hchk := fun w' (hb : Below w.heap.size w w') => rcheck_any S x.sz x (Nat.le_refl _) 6 w' (by decide) (It.In.kept (keptS_any hb) x hin)
  have hwr := fun w' (hb : Below w.heap.size w w') (hm : may x.pure 6 = true) => rwrite_any x.sz x (Nat.le_refl _) S 6 w' (It.In.kept (keptS_any hb) x hin) hm (hlen hm)
  obtain ⟨p, hp⟩ : ∃ p, p = x.pure := ⟨_, rfl⟩
  rw [← hp] at hchk hwr hlen ⊢
  clear hp
  obtain ⟨m, hm⟩ : ∃ m, m = may p 6 := ⟨_, rfl⟩
  rw [← hm] at hchk hwr
  have hsz : (⟨(Cn.bytes p).toArray⟩ : ByteArray).size = (Cn.bytes p).length := size_toArray _
  have H := Lib.hid (And.intro hchk (And.intro hwr hm))
  clear hchk hwr hm hin
  obtain ⟨k, n, s, a, cap, l⟩ := x
  simp only [It.val, It.cells, It.k, It.n, It.s, It.a, It.cap, It.l] at H ⊢
  go_enter Try.func12, Try.ntmps12
  go_wp2_with fail
  have hb1 : Below w.heap.size w (w.alloc (.cells #[.int .i64 k, .int .i64 n, .string s, .slice a l.length cap] 34)) := (Below.refl _ _).alloc (Nat.le_refl _) _
  refine (H.out.1 _ hb1).mono ?_
  rintro e w2 ⟨rfl, hb2⟩
  have hcell : ∀ i, w2.cell? ⟨w.heap.size, i, none⟩ = (#[Value.int .i64 k, .int .i64 n, .string s, .slice a l.length cap] : Array Value)[i]? := fun i => by
    rw [hb2.cell (p := ⟨w.heap.size, i, none⟩) (by simp), Lib.cell_of_heap (heap_alloc_new _ _)]
  have q0 := hcell 0
  have q1 := hcell 1
  have q2 := hcell 2
  have q3 := hcell 3
  simp at q0 q1 q2 q3
  have HB := Lib.hid (hb1.trans (hb2.mono hb1.size))
  clear hcell hb2 hb1
  cases m with
  | false =>
    go_wp2_with fail
    go_ret2
    refine ⟨?_, HB.out⟩
    rw [encS, encE, ← H.out.2.2]
    rfl
  | true =>
    go_wp2_with fail
    refine (H.out.2.1 _ HB.out trivial).mono ?_
    rintro e w3 ⟨rfl, hb3⟩
    have HB3 := Lib.hid (HB.out.trans (hb3.mono HB.out.size))
    clear hb3
    by_cases hlong : 65536 < (Cn.bytes p).length
    · have hli : (65536 : Int) < (⟨(Cn.bytes p).toArray⟩ : ByteArray).size := by omega
      have hr : encS p = ⟨#[]⟩ := by rw [encS, if_neg (fun h => absurd h.2 (by omega))]
      have hr2 : encE p = 2 := by rw [encE, ← H.out.2.2, if_pos rfl, if_neg (by omega)]
      have HE := Lib.hid (And.intro hr hr2)
      clear hr hr2 hsz
      generalize (⟨(Cn.bytes p).toArray⟩ : ByteArray) = u at *
      go_wp2_with fail
      go_ret2
      refine ⟨?_, HB3.out⟩
      rw [HE.out.1, HE.out.2]
      rfl
    · have hli : ((⟨(Cn.bytes p).toArray⟩ : ByteArray).size : Int) ≤ 65536 := by omega
      have hr : encS p = ⟨(Cn.bytes p).toArray⟩ := by rw [encS, ← H.out.2.2, if_pos ⟨rfl, by omega⟩]
      have hr2 : encE p = 0 := by rw [encE, ← H.out.2.2, if_pos rfl, if_pos (by omega)]
      have HE := Lib.hid (And.intro hr hr2)
      clear hr hr2 hsz
      generalize (⟨(Cn.bytes p).toArray⟩ : ByteArray) = u at *
      go_wp2_with fail
      go_ret2
      refine ⟨?_, HB3.out⟩
      rw [HE.out.1, HE.out.2]
      rfl
end Go.Proofs.Ytlfefgfpachehaa
