/- lockboxref09.Check, Alike: may shares be, and are they of one secret? -/
import Derived.Test.YtefpfedpgedloaaGreatDoorMV2
namespace Go.Proofs.YtefpfedpgedloaaGreatDoor
open Go.RowKit
open Gf

set_option maxRecDepth 100000 in
set_option maxHeartbeats 1000000 in
theorem rcheck_any (s : Shr) (w : World) :
    Calls Tryz.prog 21 #[.agg #[.int .i64 s.x, .int .i64 s.need, .string s.y]] w fun e w' => e = .returned (.bool (okS s)) ∧ Below w.heap.size w w' := by
  have hb0 : Below w.heap.size w (w.alloc (.cells #[.int .i64 s.x, .int .i64 s.need, .string s.y] 36)) := (Below.refl _ _).alloc (Nat.le_refl _) _
  have hg := heap_alloc_new w (.cells #[.int .i64 s.x, .int .i64 s.need, .string s.y] 36)
  have c0 : (w.alloc (.cells #[.int .i64 s.x, .int .i64 s.need, .string s.y] 36)).cell? ⟨w.heap.size, 0, none⟩ = some (.int .i64 s.x) := by rw [cell_of_row _ _ _ _ _ _ hg]; rfl
  have c1 : (w.alloc (.cells #[.int .i64 s.x, .int .i64 s.need, .string s.y] 36)).cell? ⟨w.heap.size, 1, none⟩ = some (.int .i64 s.need) := by rw [cell_of_row _ _ _ _ _ _ hg]; rfl
  have c2 : (w.alloc (.cells #[.int .i64 s.x, .int .i64 s.need, .string s.y] 36)).cell? ⟨w.heap.size, 2, none⟩ = some (.string s.y) := by rw [cell_of_row _ _ _ _ _ _ hg]; rfl
  obtain ⟨R, hR⟩ : ∃ R, R = okS s := ⟨_, rfl⟩
  rw [← hR]
  have H := Lib.hid hb0
  clear hb0 hg
  by_cases h1 : 1 ≤ s.x
  rotate_left
  · obtain rfl : R = false := by rw [hR, ← Bool.not_eq_true, okS_iff]; omega
    clear hR
    have k1 : decide (1 ≤ s.x) = false := decide_eq_false h1
    go_enter Tryz.func21, Tryz.ntmps21
    go_wp2_with fail
    go_ret
    exact ⟨rfl, H.out⟩
  by_cases h2 : s.x ≤ 255
  rotate_left
  · obtain rfl : R = false := by rw [hR, ← Bool.not_eq_true, okS_iff]; omega
    clear hR
    have k1 : decide (1 ≤ s.x) = true := decide_eq_true h1
    have k2 : decide (s.x ≤ 255) = false := decide_eq_false h2
    go_enter Tryz.func21, Tryz.ntmps21
    go_wp2_with fail
    go_ret
    exact ⟨rfl, H.out⟩
  by_cases h3 : 1 ≤ s.need
  rotate_left
  · obtain rfl : R = false := by rw [hR, ← Bool.not_eq_true, okS_iff]; omega
    clear hR
    have k1 : decide (1 ≤ s.x) = true := decide_eq_true h1
    have k2 : decide (s.x ≤ 255) = true := decide_eq_true h2
    have k3 : decide (1 ≤ s.need) = false := decide_eq_false h3
    go_enter Tryz.func21, Tryz.ntmps21
    go_wp2_with fail
    go_ret
    exact ⟨rfl, H.out⟩
  by_cases h4 : s.need ≤ 255
  rotate_left
  · obtain rfl : R = false := by rw [hR, ← Bool.not_eq_true, okS_iff]; omega
    clear hR
    have k1 : decide (1 ≤ s.x) = true := decide_eq_true h1
    have k2 : decide (s.x ≤ 255) = true := decide_eq_true h2
    have k3 : decide (1 ≤ s.need) = true := decide_eq_true h3
    have k4 : decide (s.need ≤ 255) = false := decide_eq_false h4
    go_enter Tryz.func21, Tryz.ntmps21
    go_wp2_with fail
    go_ret
    exact ⟨rfl, H.out⟩
  by_cases h5 : (1 : Int) ≤ s.y.size
  rotate_left
  · obtain rfl : R = false := by rw [hR, ← Bool.not_eq_true, okS_iff]; omega
    clear hR
    have k1 : decide (1 ≤ s.x) = true := decide_eq_true h1
    have k2 : decide (s.x ≤ 255) = true := decide_eq_true h2
    have k3 : decide (1 ≤ s.need) = true := decide_eq_true h3
    have k4 : decide (s.need ≤ 255) = true := decide_eq_true h4
    have k5 : decide ((1 : Int) ≤ s.y.size) = false := decide_eq_false h5
    go_enter Tryz.func21, Tryz.ntmps21
    go_wp2_with fail
    go_ret
    exact ⟨rfl, H.out⟩
  by_cases h6 : (s.y.size : Int) ≤ 64
  rotate_left
  · obtain rfl : R = false := by rw [hR, ← Bool.not_eq_true, okS_iff]; omega
    clear hR
    have k1 : decide (1 ≤ s.x) = true := decide_eq_true h1
    have k2 : decide (s.x ≤ 255) = true := decide_eq_true h2
    have k3 : decide (1 ≤ s.need) = true := decide_eq_true h3
    have k4 : decide (s.need ≤ 255) = true := decide_eq_true h4
    have k5 : decide ((1 : Int) ≤ s.y.size) = true := decide_eq_true h5
    have k6 : decide ((s.y.size : Int) ≤ 64) = false := decide_eq_false h6
    go_enter Tryz.func21, Tryz.ntmps21
    go_wp2_with fail
    go_ret
    exact ⟨rfl, H.out⟩
  obtain rfl : R = true := by rw [hR, okS_iff]; omega
  clear hR
  have k1 : decide (1 ≤ s.x) = true := decide_eq_true h1
  have k2 : decide (s.x ≤ 255) = true := decide_eq_true h2
  have k3 : decide (1 ≤ s.need) = true := decide_eq_true h3
  have k4 : decide (s.need ≤ 255) = true := decide_eq_true h4
  have k5 : decide ((1 : Int) ≤ s.y.size) = true := decide_eq_true h5
  have k6 : decide ((s.y.size : Int) ≤ 64) = true := decide_eq_true h6
  go_enter Tryz.func21, Tryz.ntmps21
  go_wp2_with fail
  go_ret
  exact ⟨rfl, H.out⟩
/-- What the region reads. -/
def RaS (tb o k : Nat) (s s0 : Shr) (W : World) : Prop :=
  (W.cell? ⟨tb, o + k * 3, none⟩ = some (.int .i64 s.x) ∧ W.cell? ⟨tb, o + k * 3 + 1, none⟩ = some (.int .i64 s.need) ∧ W.cell? ⟨tb, o + k * 3 + 2, none⟩ = some (.string s.y)) ∧
    W.cell? ⟨tb, o + 1, none⟩ = some (.int .i64 s0.need) ∧ W.cell? ⟨tb, o + 2, none⟩ = some (.string s0.y)
set_option maxRecDepth 100000 in
set_option maxHeartbeats 1000000 in
theorem ralike_any {w : World} {a0 : Option Addr} {l : List Shr} (hT : SharesAt w a0 l) (hn : l.length ≤ 1000000) (cap : Nat) :
    Calls Tryz.prog 8 #[.slice a0 l.length cap] w fun e w' => e = .returned (.bool (alk l)) ∧ Below w.heap.size w w' := by
  obtain ⟨n, hN⟩ : ∃ n, n = l.length := ⟨_, rfl⟩
  obtain ⟨R, hR⟩ : ∃ R, R = alk l := ⟨_, rfl⟩
  rw [← hN] at hn ⊢
  rw [← hR]
  have H0 := Lib.hid (And.intro hT (And.intro hN hR))
  clear hT hN hR
  go_enter Tryz.func8, Tryz.ntmps8
  go_wp2_with fail
  go_loopw [3, 4] (fun i _ wr => ∃ k : Nat, k ≤ n ∧ i = .int .i64 (k : Int) ∧ AlkT (need0 l) (len0 l) l k ∧ Below w.heap.size w wr) (fun i _ _ => n - (intOf i).toNat)
  case atStart => exact ⟨0, by omega, rfl, AlkT.zero _ _ _, Below.refl _ _⟩
  case round =>
    obtain ⟨k, hk, rfl, hA, hb⟩ := hrel
    by_cases hlt : k < n
    · obtain ⟨s, hsk⟩ : ∃ s, l[k]? = some s := ⟨_, List.getElem?_eq_getElem (by have := H0.out.2.1; omega)⟩
      obtain ⟨s0, hs0⟩ : ∃ s0, l[0]? = some s0 := ⟨_, List.getElem?_eq_getElem (by have := H0.out.2.1; omega)⟩
      obtain ⟨tb, off, rfl, htb, c0, c1, c2⟩ := (H0.out.1.below hb) k s hsk
      obtain ⟨tb', off', e', -, -, d1, d2⟩ := (H0.out.1.below hb) 0 s0 hs0
      injection e' with e'
      injection e' with e1 e2 _
      subst e1 e2
      rw [Nat.zero_mul, Nat.add_zero] at d1 d2
      obtain ⟨hn0, hl0⟩ := head_need hs0
      have hF : ∀ W, Below wr.heap.size wr W → RaS tb off k s s0 W := fun W hW =>
        ⟨⟨(hW.cell (p := ⟨tb, off + k * 3, none⟩) htb).trans c0, (hW.cell (p := ⟨tb, off + k * 3 + 1, none⟩) htb).trans c1, (hW.cell (p := ⟨tb, off + k * 3 + 2, none⟩) htb).trans c2⟩, (hW.cell (p := ⟨tb, off + 1, none⟩) htb).trans d1, (hW.cell (p := ⟨tb, off + 2, none⟩) htb).trans d2⟩
      have hck := fun (W : World) => rcheck_any s W
      obtain ⟨ck, hckv⟩ : ∃ ck, ck = okS s := ⟨_, rfl⟩
      rw [← hckv] at hck
      have HK := Lib.hid (And.intro hF (And.intro hck (And.intro hckv (And.intro hsk (And.intro hA (And.intro hb (And.intro hn0 hl0)))))))
      have hn1 : 0 < n := by omega
      clear d1 d2 hF hck hA hb hn0 hl0 hckv c0 c1 c2 hs0
      cases ck with
      | false =>
        obtain rfl : R = false := by rw [H0.out.2.2]; exact alk_bad HK.out.2.2.2.1 (fun e => by have h1 := HK.out.2.2.1; rw [e.1] at h1; cases h1)
        go_upto_region 4 with fail
        have C := HK.out.1 wr.drew (Below.refl _ _).drew
        have hwd : Below wr.heap.size wr wr.drew := (Below.refl _ _).drew
        refine wp_region_held (S := RaS tb off k s s0) (by kernel_rfl) ?_
        change wpAnyH _ _ _ _ _ _ _ _ (World.drew _)
        generalize World.drew _ = wh at *
        refine wpAnyH_take (i := 0) (v := ?_) rfl (by kernel_rfl) (by kernel_rfl) (by kernel_rfl) (fun _ _ _ h => h) (Or.inl ⟨by kernel_rfl, ?_⟩) C ?_
        rotate_left
        · (intro W hS; obtain ⟨⟨g0, g1, g2⟩, g3, g4⟩ := hS; go_simp; try (with_reducible rfl))
        refine wpAnyH_take (i := 1) (v := ?_) rfl (by kernel_rfl) (by kernel_rfl) (by kernel_rfl) (fun _ _ _ h => h) (Or.inl ⟨by kernel_rfl, ?_⟩) C ?_
        rotate_left
        · (intro W hS; obtain ⟨⟨g0, g1, g2⟩, g3, g4⟩ := hS; go_simp; try (with_reducible rfl))
        refine wpAnyH_take (i := 2) (v := ?_) rfl (by kernel_rfl) (by kernel_rfl) (by kernel_rfl) (fun _ _ _ h => h) (Or.inl ⟨by kernel_rfl, ?_⟩) C ?_
        rotate_left
        · (intro W hS; obtain ⟨⟨g0, g1, g2⟩, g3, g4⟩ := hS; go_simp; try (with_reducible rfl))
        refine wpAnyH_take (i := 3) (v := ?_) rfl (by kernel_rfl) (by kernel_rfl) (by kernel_rfl) (fun _ _ _ h => h) (Or.inl ⟨by kernel_rfl, ?_⟩) C ?_
        rotate_left
        · (intro W hS; obtain ⟨⟨g0, g1, g2⟩, g3, g4⟩ := hS; go_simp; try (with_reducible rfl))
        refine wpAnyH_ready (rs := [4]) (by kernel_rfl) (by simp) ?_
        refine AllReadyH.cons rfl (fun K hK => ?_) AllReadyH.nil
        go_simp
        refine (HK.out.2.1 wh).mono ?_
        rintro e w6 ⟨rfl, hb6⟩
        have hwd6 := hwd.trans (hb6.mono hwd.size)
        have C := HK.out.1 w6 hwd6
        refine hK.out _ _ C (fun _ => ?_)
        clear hK K hb6 hwd
        refine wpAnyH_take (i := 5) (v := ?_) rfl (by kernel_rfl) (by kernel_rfl) (by kernel_rfl) (fun _ _ _ h => h) (Or.inl ⟨by kernel_rfl, ?_⟩) C ?_
        rotate_left
        · (intro W hS; obtain ⟨⟨g0, g1, g2⟩, g3, g4⟩ := hS; go_simp; try (with_reducible rfl))
        refine wpAnyH_take (i := 6) (v := ?_) rfl (by kernel_rfl) (by kernel_rfl) (by kernel_rfl) (fun _ _ _ h => h) (Or.inl ⟨by kernel_rfl, ?_⟩) C ?_
        rotate_left
        · (intro W hS; obtain ⟨⟨g0, g1, g2⟩, g3, g4⟩ := hS; go_simp; try (with_reducible rfl))
        refine wpAnyH_take (i := 7) (v := undef) rfl (by kernel_rfl) (by kernel_rfl) (by kernel_rfl) (fun _ _ _ h => h) (Or.inr ⟨by kernel_rfl, rfl⟩) C ?_
        refine wpAnyH_take (i := 8) (v := undef) rfl (by kernel_rfl) (by kernel_rfl) (by kernel_rfl) (fun _ _ _ h => h) (Or.inr ⟨by kernel_rfl, rfl⟩) C ?_
        refine wpAnyH_take (i := 9) (v := undef) rfl (by kernel_rfl) (by kernel_rfl) (by kernel_rfl) (fun _ _ _ h => h) (Or.inr ⟨by kernel_rfl, rfl⟩) C ?_
        refine wpAnyH_take (i := 10) (v := undef) rfl (by kernel_rfl) (by kernel_rfl) (by kernel_rfl) (fun _ _ _ h => h) (Or.inr ⟨by kernel_rfl, rfl⟩) C ?_
        refine wpAnyH_take (i := 11) (v := undef) rfl (by kernel_rfl) (by kernel_rfl) (by kernel_rfl) (fun _ _ _ h => h) (Or.inr ⟨by kernel_rfl, rfl⟩) C ?_
        refine wpAnyH_take (i := 12) (v := undef) rfl (by kernel_rfl) (by kernel_rfl) (by kernel_rfl) (fun _ _ _ h => h) (Or.inr ⟨by kernel_rfl, rfl⟩) C ?_
        refine wpAnyH_take (i := 13) (v := undef) rfl (by kernel_rfl) (by kernel_rfl) (by kernel_rfl) (fun _ _ _ h => h) (Or.inr ⟨by kernel_rfl, rfl⟩) C ?_
        refine wpAnyH_take (i := 14) (v := undef) rfl (by kernel_rfl) (by kernel_rfl) (by kernel_rfl) (fun _ _ _ h => h) (Or.inr ⟨by kernel_rfl, rfl⟩) C ?_
        refine wpAnyH_take (i := 15) (v := undef) rfl (by kernel_rfl) (by kernel_rfl) (by kernel_rfl) (fun _ _ _ h => h) (Or.inr ⟨by kernel_rfl, rfl⟩) C ?_
        refine wpAnyH_take (i := 16) (v := undef) rfl (by kernel_rfl) (by kernel_rfl) (by kernel_rfl) (fun _ _ _ h => h) (Or.inr ⟨by kernel_rfl, rfl⟩) C ?_
        refine wpAnyH_take (i := 17) (v := ?_) rfl (by kernel_rfl) (by kernel_rfl) (by kernel_rfl) (fun _ _ _ h => h) (Or.inl ⟨by kernel_rfl, ?_⟩) C ?_
        rotate_left
        · (intro W hS; obtain ⟨⟨g0, g1, g2⟩, g3, g4⟩ := hS; go_simp; try (with_reducible rfl))
        refine wpAnyH_take (i := 18) (v := ?_) rfl (by kernel_rfl) (by kernel_rfl) (by kernel_rfl) (fun _ _ _ h => h) (Or.inl ⟨by kernel_rfl, ?_⟩) C ?_
        rotate_left
        · (intro W hS; obtain ⟨⟨g0, g1, g2⟩, g3, g4⟩ := hS; go_simp; try (with_reducible rfl))
        refine wpAnyH_take (i := 19) (v := undef) rfl (by kernel_rfl) (by kernel_rfl) (by kernel_rfl) (fun _ _ _ h => h) (Or.inr ⟨by kernel_rfl, rfl⟩) C ?_
        refine wpAnyH_take (i := 20) (v := undef) rfl (by kernel_rfl) (by kernel_rfl) (by kernel_rfl) (fun _ _ _ h => h) (Or.inr ⟨by kernel_rfl, rfl⟩) C ?_
        refine wpAnyH_take (i := 21) (v := undef) rfl (by kernel_rfl) (by kernel_rfl) (by kernel_rfl) (fun _ _ _ h => h) (Or.inr ⟨by kernel_rfl, rfl⟩) C ?_
        refine wpAnyH_take (i := 22) (v := undef) rfl (by kernel_rfl) (by kernel_rfl) (by kernel_rfl) (fun _ _ _ h => h) (Or.inr ⟨by kernel_rfl, rfl⟩) C ?_
        refine wpAnyH_take (i := 23) (v := undef) rfl (by kernel_rfl) (by kernel_rfl) (by kernel_rfl) (fun _ _ _ h => h) (Or.inr ⟨by kernel_rfl, rfl⟩) C ?_
        refine wpAnyH_take (i := 24) (v := undef) rfl (by kernel_rfl) (by kernel_rfl) (by kernel_rfl) (fun _ _ _ h => h) (Or.inr ⟨by kernel_rfl, rfl⟩) C ?_
        refine wpAnyH_take (i := 25) (v := undef) rfl (by kernel_rfl) (by kernel_rfl) (by kernel_rfl) (fun _ _ _ h => h) (Or.inr ⟨by kernel_rfl, rfl⟩) C ?_
        refine wpAnyH_take (i := 26) (v := undef) rfl (by kernel_rfl) (by kernel_rfl) (by kernel_rfl) (fun _ _ _ h => h) (Or.inr ⟨by kernel_rfl, rfl⟩) C ?_
        refine wpAnyH_take (i := 27) (v := undef) rfl (by kernel_rfl) (by kernel_rfl) (by kernel_rfl) (fun _ _ _ h => h) (Or.inr ⟨by kernel_rfl, rfl⟩) C ?_
        refine wpAnyH_take (i := 28) (v := undef) rfl (by kernel_rfl) (by kernel_rfl) (by kernel_rfl) (fun _ _ _ h => h) (Or.inr ⟨by kernel_rfl, rfl⟩) C ?_
        refine wpAnyH_take (i := 29) (v := undef) rfl (by kernel_rfl) (by kernel_rfl) (by kernel_rfl) (fun _ _ _ h => h) (Or.inr ⟨by kernel_rfl, rfl⟩) C ?_
        refine wpAnyH_take (i := 30) (v := undef) rfl (by kernel_rfl) (by kernel_rfl) (by kernel_rfl) (fun _ _ _ h => h) (Or.inr ⟨by kernel_rfl, rfl⟩) C ?_
        refine wpAnyH_take (i := 31) (v := ?_) rfl (by kernel_rfl) (by kernel_rfl) (by kernel_rfl) (fun _ _ _ h => h) (Or.inl ⟨by kernel_rfl, ?_⟩) C ?_
        rotate_left
        · (intro W hS; obtain ⟨⟨g0, g1, g2⟩, g3, g4⟩ := hS; go_simp; try (with_reducible rfl))
        refine wpAnyH_done (by kernel_rfl) ?_ _
        go_simp
        have H6 := Lib.hid hwd6
        clear hwd6 C
        go_wp2_with fail
        go_ret
        exact ⟨rfl, HK.out.2.2.2.2.2.1.trans (H6.out.mono HK.out.2.2.2.2.2.1.size)⟩
      | true =>
        by_cases hnd : s.need = s0.need
        rotate_left
        · have n1 : (s.need != s0.need) = true := by simpa using hnd
          obtain rfl : R = false := by rw [H0.out.2.2]; exact alk_bad HK.out.2.2.2.1 (fun e => hnd (by rw [e.2.1, HK.out.2.2.2.2.2.2.1]))
          go_upto_region 4 with fail
          have C := HK.out.1 wr.drew (Below.refl _ _).drew
          have hwd : Below wr.heap.size wr wr.drew := (Below.refl _ _).drew
          refine wp_region_held (S := RaS tb off k s s0) (by kernel_rfl) ?_
          change wpAnyH _ _ _ _ _ _ _ _ (World.drew _)
          generalize World.drew _ = wh at *
          refine wpAnyH_take (i := 0) (v := ?_) rfl (by kernel_rfl) (by kernel_rfl) (by kernel_rfl) (fun _ _ _ h => h) (Or.inl ⟨by kernel_rfl, ?_⟩) C ?_
          rotate_left
          · (intro W hS; obtain ⟨⟨g0, g1, g2⟩, g3, g4⟩ := hS; go_simp; try (with_reducible rfl))
          refine wpAnyH_take (i := 1) (v := ?_) rfl (by kernel_rfl) (by kernel_rfl) (by kernel_rfl) (fun _ _ _ h => h) (Or.inl ⟨by kernel_rfl, ?_⟩) C ?_
          rotate_left
          · (intro W hS; obtain ⟨⟨g0, g1, g2⟩, g3, g4⟩ := hS; go_simp; try (with_reducible rfl))
          refine wpAnyH_take (i := 2) (v := ?_) rfl (by kernel_rfl) (by kernel_rfl) (by kernel_rfl) (fun _ _ _ h => h) (Or.inl ⟨by kernel_rfl, ?_⟩) C ?_
          rotate_left
          · (intro W hS; obtain ⟨⟨g0, g1, g2⟩, g3, g4⟩ := hS; go_simp; try (with_reducible rfl))
          refine wpAnyH_take (i := 3) (v := ?_) rfl (by kernel_rfl) (by kernel_rfl) (by kernel_rfl) (fun _ _ _ h => h) (Or.inl ⟨by kernel_rfl, ?_⟩) C ?_
          rotate_left
          · (intro W hS; obtain ⟨⟨g0, g1, g2⟩, g3, g4⟩ := hS; go_simp; try (with_reducible rfl))
          refine wpAnyH_ready (rs := [4]) (by kernel_rfl) (by simp) ?_
          refine AllReadyH.cons rfl (fun K hK => ?_) AllReadyH.nil
          go_simp
          refine (HK.out.2.1 wh).mono ?_
          rintro e w6 ⟨rfl, hb6⟩
          have hwd6 := hwd.trans (hb6.mono hwd.size)
          have C := HK.out.1 w6 hwd6
          refine hK.out _ _ C (fun _ => ?_)
          clear hK K hb6 hwd
          refine wpAnyH_take (i := 5) (v := ?_) rfl (by kernel_rfl) (by kernel_rfl) (by kernel_rfl) (fun _ _ _ h => h) (Or.inl ⟨by kernel_rfl, ?_⟩) C ?_
          rotate_left
          · (intro W hS; obtain ⟨⟨g0, g1, g2⟩, g3, g4⟩ := hS; go_simp; try (with_reducible rfl))
          refine wpAnyH_take (i := 6) (v := ?_) rfl (by kernel_rfl) (by kernel_rfl) (by kernel_rfl) (fun _ _ _ h => h) (Or.inl ⟨by kernel_rfl, ?_⟩) C ?_
          rotate_left
          · (intro W hS; obtain ⟨⟨g0, g1, g2⟩, g3, g4⟩ := hS; go_simp; try (with_reducible rfl))
          refine wpAnyH_take (i := 7) (v := ?_) rfl (by kernel_rfl) (by kernel_rfl) (by kernel_rfl) (fun _ _ _ h => h) (Or.inl ⟨by kernel_rfl, ?_⟩) C ?_
          rotate_left
          · (intro W hS; obtain ⟨⟨g0, g1, g2⟩, g3, g4⟩ := hS; go_simp; try (with_reducible rfl))
          refine wpAnyH_take (i := 8) (v := ?_) rfl (by kernel_rfl) (by kernel_rfl) (by kernel_rfl) (fun _ _ _ h => h) (Or.inl ⟨by kernel_rfl, ?_⟩) C ?_
          rotate_left
          · (intro W hS; obtain ⟨⟨g0, g1, g2⟩, g3, g4⟩ := hS; go_simp; try (with_reducible rfl))
          refine wpAnyH_take (i := 9) (v := ?_) rfl (by kernel_rfl) (by kernel_rfl) (by kernel_rfl) (fun _ _ _ h => h) (Or.inl ⟨by kernel_rfl, ?_⟩) C ?_
          rotate_left
          · (intro W hS; obtain ⟨⟨g0, g1, g2⟩, g3, g4⟩ := hS; go_simp; try (with_reducible rfl))
          refine wpAnyH_take (i := 10) (v := ?_) rfl (by kernel_rfl) (by kernel_rfl) (by kernel_rfl) (fun _ _ _ h => h) (Or.inl ⟨by kernel_rfl, ?_⟩) C ?_
          rotate_left
          · (intro W hS; obtain ⟨⟨g0, g1, g2⟩, g3, g4⟩ := hS; go_simp; try (with_reducible rfl))
          refine wpAnyH_take (i := 11) (v := ?_) rfl (by kernel_rfl) (by kernel_rfl) (by kernel_rfl) (fun _ _ _ h => h) (Or.inl ⟨by kernel_rfl, ?_⟩) C ?_
          rotate_left
          · (intro W hS; obtain ⟨⟨g0, g1, g2⟩, g3, g4⟩ := hS; go_simp; try (with_reducible rfl))
          refine wpAnyH_take (i := 12) (v := ?_) rfl (by kernel_rfl) (by kernel_rfl) (by kernel_rfl) (fun _ _ _ h => h) (Or.inl ⟨by kernel_rfl, ?_⟩) C ?_
          rotate_left
          · (intro W hS; obtain ⟨⟨g0, g1, g2⟩, g3, g4⟩ := hS; go_simp; try (with_reducible rfl))
          refine wpAnyH_take (i := 13) (v := ?_) rfl (by kernel_rfl) (by kernel_rfl) (by kernel_rfl) (fun _ _ _ h => h) (Or.inl ⟨by kernel_rfl, ?_⟩) C ?_
          rotate_left
          · (intro W hS; obtain ⟨⟨g0, g1, g2⟩, g3, g4⟩ := hS; go_simp; try (with_reducible rfl))
          refine wpAnyH_take (i := 14) (v := ?_) rfl (by kernel_rfl) (by kernel_rfl) (by kernel_rfl) (fun _ _ _ h => h) (Or.inl ⟨by kernel_rfl, ?_⟩) C ?_
          rotate_left
          · (intro W hS; obtain ⟨⟨g0, g1, g2⟩, g3, g4⟩ := hS; go_simp; try (with_reducible rfl))
          refine wpAnyH_take (i := 15) (v := ?_) rfl (by kernel_rfl) (by kernel_rfl) (by kernel_rfl) (fun _ _ _ h => h) (Or.inl ⟨by kernel_rfl, ?_⟩) C ?_
          rotate_left
          · (intro W hS; obtain ⟨⟨g0, g1, g2⟩, g3, g4⟩ := hS; go_simp; try (with_reducible rfl))
          refine wpAnyH_take (i := 16) (v := ?_) rfl (by kernel_rfl) (by kernel_rfl) (by kernel_rfl) (fun _ _ _ h => h) (Or.inl ⟨by kernel_rfl, ?_⟩) C ?_
          rotate_left
          · (intro W hS; obtain ⟨⟨g0, g1, g2⟩, g3, g4⟩ := hS; go_simp; try (with_reducible rfl))
          refine wpAnyH_take (i := 17) (v := ?_) rfl (by kernel_rfl) (by kernel_rfl) (by kernel_rfl) (fun _ _ _ h => h) (Or.inl ⟨by kernel_rfl, ?_⟩) C ?_
          rotate_left
          · (intro W hS; obtain ⟨⟨g0, g1, g2⟩, g3, g4⟩ := hS; go_simp; try (with_reducible rfl))
          refine wpAnyH_take (i := 18) (v := ?_) rfl (by kernel_rfl) (by kernel_rfl) (by kernel_rfl) (fun _ _ _ h => h) (Or.inl ⟨by kernel_rfl, ?_⟩) C ?_
          rotate_left
          · (intro W hS; obtain ⟨⟨g0, g1, g2⟩, g3, g4⟩ := hS; go_simp; try (with_reducible rfl))
          refine wpAnyH_take (i := 19) (v := undef) rfl (by kernel_rfl) (by kernel_rfl) (by kernel_rfl) (fun _ _ _ h => h) (Or.inr ⟨by kernel_rfl, rfl⟩) C ?_
          refine wpAnyH_take (i := 20) (v := undef) rfl (by kernel_rfl) (by kernel_rfl) (by kernel_rfl) (fun _ _ _ h => h) (Or.inr ⟨by kernel_rfl, rfl⟩) C ?_
          refine wpAnyH_take (i := 21) (v := undef) rfl (by kernel_rfl) (by kernel_rfl) (by kernel_rfl) (fun _ _ _ h => h) (Or.inr ⟨by kernel_rfl, rfl⟩) C ?_
          refine wpAnyH_take (i := 22) (v := undef) rfl (by kernel_rfl) (by kernel_rfl) (by kernel_rfl) (fun _ _ _ h => h) (Or.inr ⟨by kernel_rfl, rfl⟩) C ?_
          refine wpAnyH_take (i := 23) (v := undef) rfl (by kernel_rfl) (by kernel_rfl) (by kernel_rfl) (fun _ _ _ h => h) (Or.inr ⟨by kernel_rfl, rfl⟩) C ?_
          refine wpAnyH_take (i := 24) (v := undef) rfl (by kernel_rfl) (by kernel_rfl) (by kernel_rfl) (fun _ _ _ h => h) (Or.inr ⟨by kernel_rfl, rfl⟩) C ?_
          refine wpAnyH_take (i := 25) (v := undef) rfl (by kernel_rfl) (by kernel_rfl) (by kernel_rfl) (fun _ _ _ h => h) (Or.inr ⟨by kernel_rfl, rfl⟩) C ?_
          refine wpAnyH_take (i := 26) (v := undef) rfl (by kernel_rfl) (by kernel_rfl) (by kernel_rfl) (fun _ _ _ h => h) (Or.inr ⟨by kernel_rfl, rfl⟩) C ?_
          refine wpAnyH_take (i := 27) (v := undef) rfl (by kernel_rfl) (by kernel_rfl) (by kernel_rfl) (fun _ _ _ h => h) (Or.inr ⟨by kernel_rfl, rfl⟩) C ?_
          refine wpAnyH_take (i := 28) (v := undef) rfl (by kernel_rfl) (by kernel_rfl) (by kernel_rfl) (fun _ _ _ h => h) (Or.inr ⟨by kernel_rfl, rfl⟩) C ?_
          refine wpAnyH_take (i := 29) (v := undef) rfl (by kernel_rfl) (by kernel_rfl) (by kernel_rfl) (fun _ _ _ h => h) (Or.inr ⟨by kernel_rfl, rfl⟩) C ?_
          refine wpAnyH_take (i := 30) (v := undef) rfl (by kernel_rfl) (by kernel_rfl) (by kernel_rfl) (fun _ _ _ h => h) (Or.inr ⟨by kernel_rfl, rfl⟩) C ?_
          refine wpAnyH_take (i := 31) (v := ?_) rfl (by kernel_rfl) (by kernel_rfl) (by kernel_rfl) (fun _ _ _ h => h) (Or.inl ⟨by kernel_rfl, ?_⟩) C ?_
          rotate_left
          · (intro W hS; obtain ⟨⟨g0, g1, g2⟩, g3, g4⟩ := hS; go_simp; try (with_reducible rfl))
          refine wpAnyH_done (by kernel_rfl) ?_ _
          go_simp
          have H6 := Lib.hid hwd6
          clear hwd6 C
          go_wp2_with fail
          go_ret
          exact ⟨rfl, HK.out.2.2.2.2.2.1.trans (H6.out.mono HK.out.2.2.2.2.2.1.size)⟩
        have n1 : (s.need != s0.need) = false := by simpa using hnd
        have HN := Lib.hid hnd
        clear hnd
        by_cases hsz : s.y.size = s0.y.size
        rotate_left
        · have n2 : ((s.y.size : Int) != (s0.y.size : Int)) = true := by simp; omega
          obtain rfl : R = false := by rw [H0.out.2.2]; exact alk_bad HK.out.2.2.2.1 (fun e => hsz (by rw [e.2.2.1, HK.out.2.2.2.2.2.2.2]))
          go_upto_region 4 with fail
          have C := HK.out.1 wr.drew (Below.refl _ _).drew
          have hwd : Below wr.heap.size wr wr.drew := (Below.refl _ _).drew
          refine wp_region_held (S := RaS tb off k s s0) (by kernel_rfl) ?_
          change wpAnyH _ _ _ _ _ _ _ _ (World.drew _)
          generalize World.drew _ = wh at *
          refine wpAnyH_take (i := 0) (v := ?_) rfl (by kernel_rfl) (by kernel_rfl) (by kernel_rfl) (fun _ _ _ h => h) (Or.inl ⟨by kernel_rfl, ?_⟩) C ?_
          rotate_left
          · (intro W hS; obtain ⟨⟨g0, g1, g2⟩, g3, g4⟩ := hS; go_simp; try (with_reducible rfl))
          refine wpAnyH_take (i := 1) (v := ?_) rfl (by kernel_rfl) (by kernel_rfl) (by kernel_rfl) (fun _ _ _ h => h) (Or.inl ⟨by kernel_rfl, ?_⟩) C ?_
          rotate_left
          · (intro W hS; obtain ⟨⟨g0, g1, g2⟩, g3, g4⟩ := hS; go_simp; try (with_reducible rfl))
          refine wpAnyH_take (i := 2) (v := ?_) rfl (by kernel_rfl) (by kernel_rfl) (by kernel_rfl) (fun _ _ _ h => h) (Or.inl ⟨by kernel_rfl, ?_⟩) C ?_
          rotate_left
          · (intro W hS; obtain ⟨⟨g0, g1, g2⟩, g3, g4⟩ := hS; go_simp; try (with_reducible rfl))
          refine wpAnyH_take (i := 3) (v := ?_) rfl (by kernel_rfl) (by kernel_rfl) (by kernel_rfl) (fun _ _ _ h => h) (Or.inl ⟨by kernel_rfl, ?_⟩) C ?_
          rotate_left
          · (intro W hS; obtain ⟨⟨g0, g1, g2⟩, g3, g4⟩ := hS; go_simp; try (with_reducible rfl))
          refine wpAnyH_ready (rs := [4]) (by kernel_rfl) (by simp) ?_
          refine AllReadyH.cons rfl (fun K hK => ?_) AllReadyH.nil
          go_simp
          refine (HK.out.2.1 wh).mono ?_
          rintro e w6 ⟨rfl, hb6⟩
          have hwd6 := hwd.trans (hb6.mono hwd.size)
          have C := HK.out.1 w6 hwd6
          refine hK.out _ _ C (fun _ => ?_)
          clear hK K hb6 hwd
          refine wpAnyH_take (i := 5) (v := ?_) rfl (by kernel_rfl) (by kernel_rfl) (by kernel_rfl) (fun _ _ _ h => h) (Or.inl ⟨by kernel_rfl, ?_⟩) C ?_
          rotate_left
          · (intro W hS; obtain ⟨⟨g0, g1, g2⟩, g3, g4⟩ := hS; go_simp; try (with_reducible rfl))
          refine wpAnyH_take (i := 6) (v := ?_) rfl (by kernel_rfl) (by kernel_rfl) (by kernel_rfl) (fun _ _ _ h => h) (Or.inl ⟨by kernel_rfl, ?_⟩) C ?_
          rotate_left
          · (intro W hS; obtain ⟨⟨g0, g1, g2⟩, g3, g4⟩ := hS; go_simp; try (with_reducible rfl))
          refine wpAnyH_take (i := 7) (v := ?_) rfl (by kernel_rfl) (by kernel_rfl) (by kernel_rfl) (fun _ _ _ h => h) (Or.inl ⟨by kernel_rfl, ?_⟩) C ?_
          rotate_left
          · (intro W hS; obtain ⟨⟨g0, g1, g2⟩, g3, g4⟩ := hS; go_simp; try (with_reducible rfl))
          refine wpAnyH_take (i := 8) (v := ?_) rfl (by kernel_rfl) (by kernel_rfl) (by kernel_rfl) (fun _ _ _ h => h) (Or.inl ⟨by kernel_rfl, ?_⟩) C ?_
          rotate_left
          · (intro W hS; obtain ⟨⟨g0, g1, g2⟩, g3, g4⟩ := hS; go_simp; try (with_reducible rfl))
          refine wpAnyH_take (i := 9) (v := ?_) rfl (by kernel_rfl) (by kernel_rfl) (by kernel_rfl) (fun _ _ _ h => h) (Or.inl ⟨by kernel_rfl, ?_⟩) C ?_
          rotate_left
          · (intro W hS; obtain ⟨⟨g0, g1, g2⟩, g3, g4⟩ := hS; go_simp; try (with_reducible rfl))
          refine wpAnyH_take (i := 10) (v := ?_) rfl (by kernel_rfl) (by kernel_rfl) (by kernel_rfl) (fun _ _ _ h => h) (Or.inl ⟨by kernel_rfl, ?_⟩) C ?_
          rotate_left
          · (intro W hS; obtain ⟨⟨g0, g1, g2⟩, g3, g4⟩ := hS; go_simp; try (with_reducible rfl))
          refine wpAnyH_take (i := 11) (v := ?_) rfl (by kernel_rfl) (by kernel_rfl) (by kernel_rfl) (fun _ _ _ h => h) (Or.inl ⟨by kernel_rfl, ?_⟩) C ?_
          rotate_left
          · (intro W hS; obtain ⟨⟨g0, g1, g2⟩, g3, g4⟩ := hS; go_simp; try (with_reducible rfl))
          refine wpAnyH_take (i := 12) (v := ?_) rfl (by kernel_rfl) (by kernel_rfl) (by kernel_rfl) (fun _ _ _ h => h) (Or.inl ⟨by kernel_rfl, ?_⟩) C ?_
          rotate_left
          · (intro W hS; obtain ⟨⟨g0, g1, g2⟩, g3, g4⟩ := hS; go_simp; try (with_reducible rfl))
          refine wpAnyH_take (i := 13) (v := ?_) rfl (by kernel_rfl) (by kernel_rfl) (by kernel_rfl) (fun _ _ _ h => h) (Or.inl ⟨by kernel_rfl, ?_⟩) C ?_
          rotate_left
          · (intro W hS; obtain ⟨⟨g0, g1, g2⟩, g3, g4⟩ := hS; go_simp; try (with_reducible rfl))
          refine wpAnyH_take (i := 14) (v := ?_) rfl (by kernel_rfl) (by kernel_rfl) (by kernel_rfl) (fun _ _ _ h => h) (Or.inl ⟨by kernel_rfl, ?_⟩) C ?_
          rotate_left
          · (intro W hS; obtain ⟨⟨g0, g1, g2⟩, g3, g4⟩ := hS; go_simp; try (with_reducible rfl))
          refine wpAnyH_take (i := 15) (v := ?_) rfl (by kernel_rfl) (by kernel_rfl) (by kernel_rfl) (fun _ _ _ h => h) (Or.inl ⟨by kernel_rfl, ?_⟩) C ?_
          rotate_left
          · (intro W hS; obtain ⟨⟨g0, g1, g2⟩, g3, g4⟩ := hS; go_simp; try (with_reducible rfl))
          refine wpAnyH_take (i := 16) (v := ?_) rfl (by kernel_rfl) (by kernel_rfl) (by kernel_rfl) (fun _ _ _ h => h) (Or.inl ⟨by kernel_rfl, ?_⟩) C ?_
          rotate_left
          · (intro W hS; obtain ⟨⟨g0, g1, g2⟩, g3, g4⟩ := hS; go_simp; try (with_reducible rfl))
          refine wpAnyH_take (i := 17) (v := ?_) rfl (by kernel_rfl) (by kernel_rfl) (by kernel_rfl) (fun _ _ _ h => h) (Or.inl ⟨by kernel_rfl, ?_⟩) C ?_
          rotate_left
          · (intro W hS; obtain ⟨⟨g0, g1, g2⟩, g3, g4⟩ := hS; go_simp; try (with_reducible rfl))
          refine wpAnyH_take (i := 18) (v := ?_) rfl (by kernel_rfl) (by kernel_rfl) (by kernel_rfl) (fun _ _ _ h => h) (Or.inl ⟨by kernel_rfl, ?_⟩) C ?_
          rotate_left
          · (intro W hS; obtain ⟨⟨g0, g1, g2⟩, g3, g4⟩ := hS; go_simp; try (with_reducible rfl))
          refine wpAnyH_take (i := 19) (v := ?_) rfl (by kernel_rfl) (by kernel_rfl) (by kernel_rfl) (fun _ _ _ h => h) (Or.inl ⟨by kernel_rfl, ?_⟩) C ?_
          rotate_left
          · (intro W hS; obtain ⟨⟨g0, g1, g2⟩, g3, g4⟩ := hS; go_simp; try (with_reducible rfl))
          refine wpAnyH_take (i := 20) (v := ?_) rfl (by kernel_rfl) (by kernel_rfl) (by kernel_rfl) (fun _ _ _ h => h) (Or.inl ⟨by kernel_rfl, ?_⟩) C ?_
          rotate_left
          · (intro W hS; obtain ⟨⟨g0, g1, g2⟩, g3, g4⟩ := hS; go_simp; try (with_reducible rfl))
          refine wpAnyH_take (i := 21) (v := ?_) rfl (by kernel_rfl) (by kernel_rfl) (by kernel_rfl) (fun _ _ _ h => h) (Or.inl ⟨by kernel_rfl, ?_⟩) C ?_
          rotate_left
          · (intro W hS; obtain ⟨⟨g0, g1, g2⟩, g3, g4⟩ := hS; go_simp; try (with_reducible rfl))
          refine wpAnyH_take (i := 22) (v := ?_) rfl (by kernel_rfl) (by kernel_rfl) (by kernel_rfl) (fun _ _ _ h => h) (Or.inl ⟨by kernel_rfl, ?_⟩) C ?_
          rotate_left
          · (intro W hS; obtain ⟨⟨g0, g1, g2⟩, g3, g4⟩ := hS; go_simp; try (with_reducible rfl))
          refine wpAnyH_take (i := 23) (v := ?_) rfl (by kernel_rfl) (by kernel_rfl) (by kernel_rfl) (fun _ _ _ h => h) (Or.inl ⟨by kernel_rfl, ?_⟩) C ?_
          rotate_left
          · (intro W hS; obtain ⟨⟨g0, g1, g2⟩, g3, g4⟩ := hS; go_simp; try (with_reducible rfl))
          refine wpAnyH_take (i := 24) (v := ?_) rfl (by kernel_rfl) (by kernel_rfl) (by kernel_rfl) (fun _ _ _ h => h) (Or.inl ⟨by kernel_rfl, ?_⟩) C ?_
          rotate_left
          · (intro W hS; obtain ⟨⟨g0, g1, g2⟩, g3, g4⟩ := hS; go_simp; try (with_reducible rfl))
          refine wpAnyH_take (i := 25) (v := ?_) rfl (by kernel_rfl) (by kernel_rfl) (by kernel_rfl) (fun _ _ _ h => h) (Or.inl ⟨by kernel_rfl, ?_⟩) C ?_
          rotate_left
          · (intro W hS; obtain ⟨⟨g0, g1, g2⟩, g3, g4⟩ := hS; go_simp; try (with_reducible rfl))
          refine wpAnyH_take (i := 26) (v := ?_) rfl (by kernel_rfl) (by kernel_rfl) (by kernel_rfl) (fun _ _ _ h => h) (Or.inl ⟨by kernel_rfl, ?_⟩) C ?_
          rotate_left
          · (intro W hS; obtain ⟨⟨g0, g1, g2⟩, g3, g4⟩ := hS; go_simp; try (with_reducible rfl))
          refine wpAnyH_take (i := 27) (v := ?_) rfl (by kernel_rfl) (by kernel_rfl) (by kernel_rfl) (fun _ _ _ h => h) (Or.inl ⟨by kernel_rfl, ?_⟩) C ?_
          rotate_left
          · (intro W hS; obtain ⟨⟨g0, g1, g2⟩, g3, g4⟩ := hS; go_simp; try (with_reducible rfl))
          refine wpAnyH_take (i := 28) (v := ?_) rfl (by kernel_rfl) (by kernel_rfl) (by kernel_rfl) (fun _ _ _ h => h) (Or.inl ⟨by kernel_rfl, ?_⟩) C ?_
          rotate_left
          · (intro W hS; obtain ⟨⟨g0, g1, g2⟩, g3, g4⟩ := hS; go_simp; try (with_reducible rfl))
          refine wpAnyH_take (i := 29) (v := ?_) rfl (by kernel_rfl) (by kernel_rfl) (by kernel_rfl) (fun _ _ _ h => h) (Or.inl ⟨by kernel_rfl, ?_⟩) C ?_
          rotate_left
          · (intro W hS; obtain ⟨⟨g0, g1, g2⟩, g3, g4⟩ := hS; go_simp; try (with_reducible rfl))
          refine wpAnyH_take (i := 30) (v := ?_) rfl (by kernel_rfl) (by kernel_rfl) (by kernel_rfl) (fun _ _ _ h => h) (Or.inl ⟨by kernel_rfl, ?_⟩) C ?_
          rotate_left
          · (intro W hS; obtain ⟨⟨g0, g1, g2⟩, g3, g4⟩ := hS; go_simp; try (with_reducible rfl))
          refine wpAnyH_take (i := 31) (v := ?_) rfl (by kernel_rfl) (by kernel_rfl) (by kernel_rfl) (fun _ _ _ h => h) (Or.inl ⟨by kernel_rfl, ?_⟩) C ?_
          rotate_left
          · (intro W hS; obtain ⟨⟨g0, g1, g2⟩, g3, g4⟩ := hS; go_simp; try (with_reducible rfl))
          refine wpAnyH_done (by kernel_rfl) ?_ _
          go_simp
          have H6 := Lib.hid hwd6
          clear hwd6 C
          go_wp2_with fail
          go_ret
          exact ⟨rfl, HK.out.2.2.2.2.2.1.trans (H6.out.mono HK.out.2.2.2.2.2.1.size)⟩
        have n2 : ((s.y.size : Int) != (s0.y.size : Int)) = false := by simp; omega
        have HN := Lib.hid (And.intro HN.out hsz)
        clear hsz
        go_upto_region 4 with fail
        have C := HK.out.1 wr.drew (Below.refl _ _).drew
        have hwd : Below wr.heap.size wr wr.drew := (Below.refl _ _).drew
        refine wp_region_held (S := RaS tb off k s s0) (by kernel_rfl) ?_
        change wpAnyH _ _ _ _ _ _ _ _ (World.drew _)
        generalize World.drew _ = wh at *
        refine wpAnyH_take (i := 0) (v := ?_) rfl (by kernel_rfl) (by kernel_rfl) (by kernel_rfl) (fun _ _ _ h => h) (Or.inl ⟨by kernel_rfl, ?_⟩) C ?_
        rotate_left
        · (intro W hS; obtain ⟨⟨g0, g1, g2⟩, g3, g4⟩ := hS; go_simp; try (with_reducible rfl))
        refine wpAnyH_take (i := 1) (v := ?_) rfl (by kernel_rfl) (by kernel_rfl) (by kernel_rfl) (fun _ _ _ h => h) (Or.inl ⟨by kernel_rfl, ?_⟩) C ?_
        rotate_left
        · (intro W hS; obtain ⟨⟨g0, g1, g2⟩, g3, g4⟩ := hS; go_simp; try (with_reducible rfl))
        refine wpAnyH_take (i := 2) (v := ?_) rfl (by kernel_rfl) (by kernel_rfl) (by kernel_rfl) (fun _ _ _ h => h) (Or.inl ⟨by kernel_rfl, ?_⟩) C ?_
        rotate_left
        · (intro W hS; obtain ⟨⟨g0, g1, g2⟩, g3, g4⟩ := hS; go_simp; try (with_reducible rfl))
        refine wpAnyH_take (i := 3) (v := ?_) rfl (by kernel_rfl) (by kernel_rfl) (by kernel_rfl) (fun _ _ _ h => h) (Or.inl ⟨by kernel_rfl, ?_⟩) C ?_
        rotate_left
        · (intro W hS; obtain ⟨⟨g0, g1, g2⟩, g3, g4⟩ := hS; go_simp; try (with_reducible rfl))
        refine wpAnyH_ready (rs := [4]) (by kernel_rfl) (by simp) ?_
        refine AllReadyH.cons rfl (fun K hK => ?_) AllReadyH.nil
        go_simp
        refine (HK.out.2.1 wh).mono ?_
        rintro e w6 ⟨rfl, hb6⟩
        have hwd6 := hwd.trans (hb6.mono hwd.size)
        have C := HK.out.1 w6 hwd6
        refine hK.out _ _ C (fun _ => ?_)
        clear hK K hb6 hwd
        refine wpAnyH_take (i := 5) (v := ?_) rfl (by kernel_rfl) (by kernel_rfl) (by kernel_rfl) (fun _ _ _ h => h) (Or.inl ⟨by kernel_rfl, ?_⟩) C ?_
        rotate_left
        · (intro W hS; obtain ⟨⟨g0, g1, g2⟩, g3, g4⟩ := hS; go_simp; try (with_reducible rfl))
        refine wpAnyH_take (i := 6) (v := ?_) rfl (by kernel_rfl) (by kernel_rfl) (by kernel_rfl) (fun _ _ _ h => h) (Or.inl ⟨by kernel_rfl, ?_⟩) C ?_
        rotate_left
        · (intro W hS; obtain ⟨⟨g0, g1, g2⟩, g3, g4⟩ := hS; go_simp; try (with_reducible rfl))
        refine wpAnyH_take (i := 7) (v := ?_) rfl (by kernel_rfl) (by kernel_rfl) (by kernel_rfl) (fun _ _ _ h => h) (Or.inl ⟨by kernel_rfl, ?_⟩) C ?_
        rotate_left
        · (intro W hS; obtain ⟨⟨g0, g1, g2⟩, g3, g4⟩ := hS; go_simp; try (with_reducible rfl))
        refine wpAnyH_take (i := 8) (v := ?_) rfl (by kernel_rfl) (by kernel_rfl) (by kernel_rfl) (fun _ _ _ h => h) (Or.inl ⟨by kernel_rfl, ?_⟩) C ?_
        rotate_left
        · (intro W hS; obtain ⟨⟨g0, g1, g2⟩, g3, g4⟩ := hS; go_simp; try (with_reducible rfl))
        refine wpAnyH_take (i := 9) (v := ?_) rfl (by kernel_rfl) (by kernel_rfl) (by kernel_rfl) (fun _ _ _ h => h) (Or.inl ⟨by kernel_rfl, ?_⟩) C ?_
        rotate_left
        · (intro W hS; obtain ⟨⟨g0, g1, g2⟩, g3, g4⟩ := hS; go_simp; try (with_reducible rfl))
        refine wpAnyH_take (i := 10) (v := ?_) rfl (by kernel_rfl) (by kernel_rfl) (by kernel_rfl) (fun _ _ _ h => h) (Or.inl ⟨by kernel_rfl, ?_⟩) C ?_
        rotate_left
        · (intro W hS; obtain ⟨⟨g0, g1, g2⟩, g3, g4⟩ := hS; go_simp; try (with_reducible rfl))
        refine wpAnyH_take (i := 11) (v := ?_) rfl (by kernel_rfl) (by kernel_rfl) (by kernel_rfl) (fun _ _ _ h => h) (Or.inl ⟨by kernel_rfl, ?_⟩) C ?_
        rotate_left
        · (intro W hS; obtain ⟨⟨g0, g1, g2⟩, g3, g4⟩ := hS; go_simp; try (with_reducible rfl))
        refine wpAnyH_take (i := 12) (v := ?_) rfl (by kernel_rfl) (by kernel_rfl) (by kernel_rfl) (fun _ _ _ h => h) (Or.inl ⟨by kernel_rfl, ?_⟩) C ?_
        rotate_left
        · (intro W hS; obtain ⟨⟨g0, g1, g2⟩, g3, g4⟩ := hS; go_simp; try (with_reducible rfl))
        refine wpAnyH_take (i := 13) (v := ?_) rfl (by kernel_rfl) (by kernel_rfl) (by kernel_rfl) (fun _ _ _ h => h) (Or.inl ⟨by kernel_rfl, ?_⟩) C ?_
        rotate_left
        · (intro W hS; obtain ⟨⟨g0, g1, g2⟩, g3, g4⟩ := hS; go_simp; try (with_reducible rfl))
        refine wpAnyH_take (i := 14) (v := ?_) rfl (by kernel_rfl) (by kernel_rfl) (by kernel_rfl) (fun _ _ _ h => h) (Or.inl ⟨by kernel_rfl, ?_⟩) C ?_
        rotate_left
        · (intro W hS; obtain ⟨⟨g0, g1, g2⟩, g3, g4⟩ := hS; go_simp; try (with_reducible rfl))
        refine wpAnyH_take (i := 15) (v := ?_) rfl (by kernel_rfl) (by kernel_rfl) (by kernel_rfl) (fun _ _ _ h => h) (Or.inl ⟨by kernel_rfl, ?_⟩) C ?_
        rotate_left
        · (intro W hS; obtain ⟨⟨g0, g1, g2⟩, g3, g4⟩ := hS; go_simp; try (with_reducible rfl))
        refine wpAnyH_take (i := 16) (v := ?_) rfl (by kernel_rfl) (by kernel_rfl) (by kernel_rfl) (fun _ _ _ h => h) (Or.inl ⟨by kernel_rfl, ?_⟩) C ?_
        rotate_left
        · (intro W hS; obtain ⟨⟨g0, g1, g2⟩, g3, g4⟩ := hS; go_simp; try (with_reducible rfl))
        refine wpAnyH_take (i := 17) (v := ?_) rfl (by kernel_rfl) (by kernel_rfl) (by kernel_rfl) (fun _ _ _ h => h) (Or.inl ⟨by kernel_rfl, ?_⟩) C ?_
        rotate_left
        · (intro W hS; obtain ⟨⟨g0, g1, g2⟩, g3, g4⟩ := hS; go_simp; try (with_reducible rfl))
        refine wpAnyH_take (i := 18) (v := ?_) rfl (by kernel_rfl) (by kernel_rfl) (by kernel_rfl) (fun _ _ _ h => h) (Or.inl ⟨by kernel_rfl, ?_⟩) C ?_
        rotate_left
        · (intro W hS; obtain ⟨⟨g0, g1, g2⟩, g3, g4⟩ := hS; go_simp; try (with_reducible rfl))
        refine wpAnyH_take (i := 19) (v := ?_) rfl (by kernel_rfl) (by kernel_rfl) (by kernel_rfl) (fun _ _ _ h => h) (Or.inl ⟨by kernel_rfl, ?_⟩) C ?_
        rotate_left
        · (intro W hS; obtain ⟨⟨g0, g1, g2⟩, g3, g4⟩ := hS; go_simp; try (with_reducible rfl))
        refine wpAnyH_take (i := 20) (v := ?_) rfl (by kernel_rfl) (by kernel_rfl) (by kernel_rfl) (fun _ _ _ h => h) (Or.inl ⟨by kernel_rfl, ?_⟩) C ?_
        rotate_left
        · (intro W hS; obtain ⟨⟨g0, g1, g2⟩, g3, g4⟩ := hS; go_simp; try (with_reducible rfl))
        refine wpAnyH_take (i := 21) (v := ?_) rfl (by kernel_rfl) (by kernel_rfl) (by kernel_rfl) (fun _ _ _ h => h) (Or.inl ⟨by kernel_rfl, ?_⟩) C ?_
        rotate_left
        · (intro W hS; obtain ⟨⟨g0, g1, g2⟩, g3, g4⟩ := hS; go_simp; try (with_reducible rfl))
        refine wpAnyH_take (i := 22) (v := ?_) rfl (by kernel_rfl) (by kernel_rfl) (by kernel_rfl) (fun _ _ _ h => h) (Or.inl ⟨by kernel_rfl, ?_⟩) C ?_
        rotate_left
        · (intro W hS; obtain ⟨⟨g0, g1, g2⟩, g3, g4⟩ := hS; go_simp; try (with_reducible rfl))
        refine wpAnyH_take (i := 23) (v := ?_) rfl (by kernel_rfl) (by kernel_rfl) (by kernel_rfl) (fun _ _ _ h => h) (Or.inl ⟨by kernel_rfl, ?_⟩) C ?_
        rotate_left
        · (intro W hS; obtain ⟨⟨g0, g1, g2⟩, g3, g4⟩ := hS; go_simp; try (with_reducible rfl))
        refine wpAnyH_take (i := 24) (v := ?_) rfl (by kernel_rfl) (by kernel_rfl) (by kernel_rfl) (fun _ _ _ h => h) (Or.inl ⟨by kernel_rfl, ?_⟩) C ?_
        rotate_left
        · (intro W hS; obtain ⟨⟨g0, g1, g2⟩, g3, g4⟩ := hS; go_simp; try (with_reducible rfl))
        refine wpAnyH_take (i := 25) (v := ?_) rfl (by kernel_rfl) (by kernel_rfl) (by kernel_rfl) (fun _ _ _ h => h) (Or.inl ⟨by kernel_rfl, ?_⟩) C ?_
        rotate_left
        · (intro W hS; obtain ⟨⟨g0, g1, g2⟩, g3, g4⟩ := hS; go_simp; try (with_reducible rfl))
        refine wpAnyH_take (i := 26) (v := ?_) rfl (by kernel_rfl) (by kernel_rfl) (by kernel_rfl) (fun _ _ _ h => h) (Or.inl ⟨by kernel_rfl, ?_⟩) C ?_
        rotate_left
        · (intro W hS; obtain ⟨⟨g0, g1, g2⟩, g3, g4⟩ := hS; go_simp; try (with_reducible rfl))
        refine wpAnyH_take (i := 27) (v := ?_) rfl (by kernel_rfl) (by kernel_rfl) (by kernel_rfl) (fun _ _ _ h => h) (Or.inl ⟨by kernel_rfl, ?_⟩) C ?_
        rotate_left
        · (intro W hS; obtain ⟨⟨g0, g1, g2⟩, g3, g4⟩ := hS; go_simp; try (with_reducible rfl))
        refine wpAnyH_take (i := 28) (v := ?_) rfl (by kernel_rfl) (by kernel_rfl) (by kernel_rfl) (fun _ _ _ h => h) (Or.inl ⟨by kernel_rfl, ?_⟩) C ?_
        rotate_left
        · (intro W hS; obtain ⟨⟨g0, g1, g2⟩, g3, g4⟩ := hS; go_simp; try (with_reducible rfl))
        refine wpAnyH_take (i := 29) (v := ?_) rfl (by kernel_rfl) (by kernel_rfl) (by kernel_rfl) (fun _ _ _ h => h) (Or.inl ⟨by kernel_rfl, ?_⟩) C ?_
        rotate_left
        · (intro W hS; obtain ⟨⟨g0, g1, g2⟩, g3, g4⟩ := hS; go_simp; try (with_reducible rfl))
        refine wpAnyH_take (i := 30) (v := ?_) rfl (by kernel_rfl) (by kernel_rfl) (by kernel_rfl) (fun _ _ _ h => h) (Or.inl ⟨by kernel_rfl, ?_⟩) C ?_
        rotate_left
        · (intro W hS; obtain ⟨⟨g0, g1, g2⟩, g3, g4⟩ := hS; go_simp; try (with_reducible rfl))
        refine wpAnyH_take (i := 31) (v := ?_) rfl (by kernel_rfl) (by kernel_rfl) (by kernel_rfl) (fun _ _ _ h => h) (Or.inl ⟨by kernel_rfl, ?_⟩) C ?_
        rotate_left
        · (intro W hS; obtain ⟨⟨g0, g1, g2⟩, g3, g4⟩ := hS; go_simp; try (with_reducible rfl))
        refine wpAnyH_done (by kernel_rfl) ?_ _
        go_simp
        have H6 := Lib.hid hwd6
        clear hwd6 C
        have hwb := HK.out.2.2.2.2.2.1.trans (H6.out.mono HK.out.2.2.2.2.2.1.size)
        have HW := Lib.hid hwb
        clear hwb n1 n2
        go_wp2_with fail
        go_loopw [4] (fun j wv => ∃ q : Nat, q ≤ k ∧ j = .int .i64 (q : Int) ∧ (∀ t ∈ l.take q, t.x ≠ s.x) ∧ Below w.heap.size w wv) (fun j _ => k - (intOf j).toNat)
        case atStart => exact ⟨0, by omega, rfl, fun t ht => by simp at ht, HW.out⟩
        case round =>
          obtain ⟨q, hq, rfl, hd, hv⟩ := hrel
          by_cases hqk : q < k
          · obtain ⟨t, htq⟩ : ∃ t, l[q]? = some t := ⟨_, List.getElem?_eq_getElem (by have := H0.out.2.1; omega)⟩
            obtain ⟨tb1, off1, e1, -, p0, -, -⟩ := (H0.out.1.below hv) q t htq
            injection e1 with e1
            injection e1 with e1 e2 _
            subst e1 e2
            obtain ⟨tb1, off1, e1, -, q0, -, -⟩ := (H0.out.1.below hv) k s HK.out.2.2.2.1
            injection e1 with e1
            injection e1 with e1 e2 _
            subst e1 e2
            have HV := Lib.hid (And.intro hd (And.intro hv htq))
            clear hd hv htq
            by_cases hx : t.x = s.x
            · have hxb : (t.x == s.x) = true := by rw [hx]; simp
              obtain rfl : R = false := by
                rw [H0.out.2.2]
                refine alk_bad HK.out.2.2.2.1 (fun e => e.2.2.2 ?_)
                rw [← hx]
                refine List.mem_map.2 ⟨t, List.mem_of_getElem? (i := q) ?_, rfl⟩
                rw [List.getElem?_take, if_pos hqk]; exact HV.out.2.2
              go_wp2_with fail
              go_quiet (fail)
              go_wp2_with fail
              go_ret
              exact ⟨rfl, HV.out.2.1.trans ⟨rfl, rfl, rfl, Nat.le_refl _, fun _ _ => rfl⟩⟩
            · have hxb : (t.x == s.x) = false := by rw [beq_eq_false_iff_ne]; exact hx
              have HX := Lib.hid hx
              clear hx
              go_wp2_with fail
              go_quiet (fail)
              go_wp2_with fail
              go_roundw
              case rel => exact ⟨q + 1, by omega, by go_num, fun u hu => by
                rw [take_snocS HV.out.2.2, List.mem_append, List.mem_singleton] at hu
                rcases hu with hu | rfl
                · exact HV.out.1 u hu
                · exact HX.out, HV.out.2.1.trans ⟨rfl, rfl, rfl, Nat.le_refl _, fun _ _ => rfl⟩⟩
              case measure => simp [intOf]; omega
          · obtain rfl : q = k := by omega
            have hstep := HK.out.2.2.2.2.1.step HK.out.2.2.2.1 HK.out.2.2.1.symm (HN.out.1.trans HK.out.2.2.2.2.2.2.1.symm) (HN.out.2.trans HK.out.2.2.2.2.2.2.2.symm) (fun hm => by
              obtain ⟨t, ht, e⟩ := List.mem_map.1 hm
              exact hd t ht e)
            have HP := Lib.hid (And.intro hstep hv)
            clear hstep hd hv
            go_wp2_with fail
            go_roundw
            case rel => exact ⟨q + 1, by omega, by go_num, HP.out.1, HP.out.2⟩
            case measure => simp [intOf]; omega
    · obtain rfl : k = n := by omega
      obtain rfl : R = true := by
        rw [H0.out.2.2]
        rw [H0.out.2.1] at hA
        exact hA.whole
      have HB := Lib.hid hb
      clear hA hb
      go_wp2_with fail
      go_ret
      exact ⟨rfl, HB.out⟩
end Go.Proofs.YtefpfedpgedloaaGreatDoor
