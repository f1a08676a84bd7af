/- lockboxlaw12.few: whether the acts are few, and their texts short. -/
import Derived.Test.YtdmbombjkinboaaGreatYDeed
namespace Go.Proofs.YtdmbombjkinboaaGreat
open Go.RowKit

theorem ActsAt.cellsAt {w : World} {a0 : Option Addr} {l : List Deed} (h : ActsAt w a0 l) {j : Nat} {a : Deed} (hj : l[j]? = some a) : ∃ b off, a0 = some ⟨b, off, none⟩ ∧ b < w.heap.size ∧
    w.cell? ⟨b, off + j * 7, none⟩ = some (.int .i64 a.kind) ∧ w.cell? ⟨b, off + j * 7 + 1, none⟩ = some (.int .i64 a.x) ∧ w.cell? ⟨b, off + j * 7 + 2, none⟩ = some (.int .i64 a.n) ∧ w.cell? ⟨b, off + j * 7 + 3, none⟩ = some (.string a.s) ∧
    w.cell? ⟨b, off + j * 7 + 4, none⟩ = some (.int .i64 a.after) ∧ w.cell? ⟨b, off + j * 7 + 5, none⟩ = some (.int .i64 a.keep) ∧ w.cell? ⟨b, off + j * 7 + 6, none⟩ = some (.int .i64 a.torn) := by
  obtain ⟨-, b, off, e, hb, hc⟩ := h j a hj
  exact ⟨b, off, e, hb, hc 0 (by omega), hc 1 (by omega), hc 2 (by omega), hc 3 (by omega), hc 4 (by omega), hc 5 (by omega), hc 6 (by omega)⟩
set_option maxRecDepth 100000 in
set_option maxHeartbeats 2000000 in
theorem few12_any {w : World} {a0 : Option Addr} {l : List Deed} (h : ActsAt w a0 l) (hl : l.length ≤ maxLen) (cap : Nat) :
    Calls Tryz.prog 8 #[.slice a0 l.length cap] w fun e w' => ∃ t, e = .returned (.bool t) ∧ (t = true → l.length ≤ 60) ∧ Below w.heap.size w w' := by
  unfold maxLen at hl
  by_cases h80 : l.length ≤ 60
  · obtain ⟨n, hN⟩ : ∃ n, n = l.length := ⟨_, rfl⟩
    have H := Lib.hid (And.intro h hN)
    rw [← hN] at h80 ⊢
    have h80i : (n : Int) ≤ 60 := by omega
    clear h hN
    go_enter Tryz.func8, Tryz.ntmps8
    go_wp2_with fail
    go_loopw [3] (fun i wr => ∃ k : Nat, k ≤ n ∧ i = .int .i64 k ∧ Below w.heap.size w wr) (fun i _ => n - (intOf i).toNat)
    case atStart => exact ⟨0, by omega, rfl, Below.refl _ _⟩
    case round =>
      obtain ⟨k, hk, rfl, hb⟩ := hrel
      by_cases hlt : k < n
      · obtain ⟨a, ha⟩ : ∃ a, l[k]? = some a := ⟨_, List.getElem?_eq_getElem (by have := H.out.2; omega)⟩
        obtain ⟨g, off, rfl, hg, c0, c1, c2, c3, c4, c5, c6⟩ := (H.out.1.below hb).cellsAt ha
        have HB := Lib.hid hb
        clear hb
        by_cases h3 : (1000 : Int) < a.s.size
        · go_wp2_with fail
          go_ret
          exact ⟨_, rfl, fun e => by simp at e, HB.out⟩
        · go_wp2_with fail
          go_roundw
          case rel => exact ⟨k + 1, by omega, by go_num, HB.out⟩
          case measure => simp [intOf]; omega
      · obtain rfl : k = n := by omega
        have HB := Lib.hid hb
        clear hb
        go_wp2_with fail
        go_ret
        exact ⟨_, rfl, fun _ => by omega, HB.out⟩
  · have h80i : (60 : Int) < l.length := by omega
    go_enter Tryz.func8, Tryz.ntmps8
    go_wp2_with fail
    go_ret
    exact ⟨_, rfl, fun e => by simp at e, Below.refl _ _⟩
end Go.Proofs.YtdmbombjkinboaaGreat
