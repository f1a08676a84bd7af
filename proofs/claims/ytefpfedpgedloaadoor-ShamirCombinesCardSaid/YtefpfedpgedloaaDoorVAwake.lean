/- lockboxlaw09.awake, few. -/
import Derived.Test.YtefpfedpgedloaaDoorVCombine
import Derived.Test.YtefpfedpgedloaaDoorVSplit2
namespace Go.Proofs.YtefpfedpgedloaaDoor
open Go.RowKit
open Gf

def exL : List Shr := splt ⟨#[65]⟩ ⟨#[1]⟩ 2 3
theorem ex_out : outc exL 0 = (⟨#[65]⟩, 0) := by
  have h1 : (outc exL 0).1 = ⟨#[65]⟩ := by decide +kernel
  have h2 : (outc exL 0).2 = 0 := by decide +kernel
  rw [← h1, ← h2]
theorem ex_y0 : exL[0]? = some ⟨1, 2, ⟨#[64]⟩⟩ := by
  have h : shY ⟨#[65]⟩ ⟨#[1]⟩ 1 (bx 1) = ⟨#[64]⟩ := by decide +kernel
  rw [← h]; rfl
theorem ex_y1 : exL[1]? = some ⟨2, 2, ⟨#[67]⟩⟩ := by
  have h : shY ⟨#[65]⟩ ⟨#[1]⟩ 1 (bx 2) = ⟨#[67]⟩ := by decide +kernel
  rw [← h]; rfl
theorem ex_y2 : exL[2]? = some ⟨3, 2, ⟨#[66]⟩⟩ := by
  have h : shY ⟨#[65]⟩ ⟨#[1]⟩ 1 (bx 3) = ⟨#[66]⟩ := by decide +kernel
  rw [← h]; rfl
set_option maxRecDepth 100000 in
set_option maxHeartbeats 1000000 in
theorem awake_any (w : World) : Calls Tryd.prog 8 #[] w fun e w' => e = .returned (.bool true) ∧ Below w.heap.size w w' := by
  have h1 := split_good ⟨#[65]⟩ ⟨#[1]⟩ 2 3 (by decide +kernel) w
  have H1 := Lib.hid h1
  clear h1
  go_enter Tryd.func8, Tryd.ntmps8
  go_wp2_with fail
  refine H1.out.mono ?_
  rintro e w1 ⟨a, cp, rfl, ho, hb⟩
  have hlen : (splt ⟨#[65]⟩ ⟨#[1]⟩ 2 3).length = 3 := splt_length _ _ _ _
  obtain ⟨g, rfl, hB, hg, hcp, -⟩ := Own.addr ho (by rw [hlen]; decide)
  have hc := combine_any ho.at (by rw [hlen]; decide) (fun s hs => by
    have := (splt_alk (s := ⟨#[65]⟩) (d := ⟨#[1]⟩) (need := 2) (n := 3) (by decide +kernel)).size s hs
    rw [this]; decide) cp
  rw [show outc (splt ⟨#[65]⟩ ⟨#[1]⟩ 2 3) 0 = (⟨#[65]⟩, 0) from ex_out, hlen] at hc
  have HC := Lib.hid (And.intro hc (And.intro hb (And.intro ho hg)))
  clear hc hb ho hg hlen hB hcp
  go_wp2_with fail
  refine HC.out.1.mono ?_
  rintro e w2 ⟨rfl, hb2⟩
  have ho2 := HC.out.2.2.1.below hb2
  obtain ⟨-, -, y0, -⟩ := ho2.cells ex_y0
  obtain ⟨-, -, y1, -⟩ := ho2.cells ex_y1
  obtain ⟨-, -, y2, -⟩ := ho2.cells ex_y2
  simp only [Nat.zero_mul, Nat.one_mul, Nat.zero_add] at y0 y1 y2
  have HB := Lib.hid (HC.out.2.1.trans (hb2.mono HC.out.2.1.size))
  clear ho2 hb2
  go_wp2_with fail
  go_ret
  exact ⟨rfl, HB.out⟩
set_option maxRecDepth 100000 in
set_option maxHeartbeats 1000000 in
theorem few_any {w : World} {a0 : Option Addr} {l : List Shr} (hT : SharesAt w a0 l) (hl : l.length ≤ maxLen) (cap : Nat) :
    Calls Tryd.prog 13 #[.slice a0 l.length cap] w fun e w' => ∃ t, e = .returned (.bool t) ∧ (t = true → l.length ≤ 12 ∧ ∀ s ∈ l, s.y.size ≤ 70) ∧ Below w.heap.size w w' := by
  unfold maxLen at hl
  by_cases h12 : l.length ≤ 12
  · obtain ⟨n, hN⟩ : ∃ n, n = l.length := ⟨_, rfl⟩
    have H := Lib.hid (And.intro hT hN)
    rw [← hN] at h12 ⊢
    have h12i : (n : Int) ≤ 12 := by omega
    clear hT hN hl
    go_enter Tryd.func13, Tryd.ntmps13
    go_wp2_with fail
    go_loopw [3] (fun i wr => ∃ k : Nat, k ≤ n ∧ i = .int .i64 (k : Int) ∧ Below w.heap.size w wr ∧ ∀ j s, j < k → l[j]? = some s → s.y.size ≤ 70) (fun i _ => n - (intOf i).toNat)
    case atStart => exact ⟨0, by omega, rfl, Below.refl _ _, fun j s hj => absurd hj (by omega)⟩
    case round =>
      obtain ⟨k, hk, rfl, hb, hd⟩ := hrel
      by_cases hlt : k < n
      · obtain ⟨s, hs⟩ : ∃ s, l[k]? = some s := ⟨_, List.getElem?_eq_getElem (by have := H.out.2; omega)⟩
        obtain ⟨tb, off, rfl, htb, c0, c1, c2⟩ := (H.out.1.below hb) k s hs
        have HB := Lib.hid (And.intro hb (And.intro hd hs))
        clear hb hd hs
        by_cases h70 : (70 : Int) < s.y.size
        · go_wp2_with fail
          go_ret
          exact ⟨_, rfl, fun e => by simp at e, HB.out.1⟩
        · go_wp2_with fail
          go_roundw
          case rel => exact ⟨k + 1, by omega, by go_num, HB.out.1, fun j t hj ht => by
            by_cases e : j = k
            · subst e; rw [HB.out.2.2] at ht; injection ht with ht; subst ht; omega
            · exact HB.out.2.1 j t (by omega) ht⟩
          case measure => simp [intOf]; omega
      · obtain rfl : k = n := by omega
        have HB := Lib.hid (And.intro hb hd)
        clear hb hd
        go_wp2_with fail
        go_ret
        refine ⟨_, rfl, fun _ => ⟨h12, fun s hs => ?_⟩, HB.out.1⟩
        obtain ⟨j, hj, rfl⟩ := List.mem_iff_getElem.1 hs
        exact HB.out.2 j _ (by have := H.out.2; omega) (List.getElem?_eq_getElem hj)
  · have h12i : (12 : Int) < l.length := by omega
    go_enter Tryd.func13, Tryd.ntmps13
    go_wp2_with fail
    go_ret
    exact ⟨_, rfl, fun e => by simp at e, Below.refl _ _⟩
end Go.Proofs.YtefpfedpgedloaaDoor
