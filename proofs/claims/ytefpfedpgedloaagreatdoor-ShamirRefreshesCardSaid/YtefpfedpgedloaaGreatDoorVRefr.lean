/- shamir.Refresh. -/
import Derived.Test.YtefpfedpgedloaaGreatDoorVSumY
namespace Go.Proofs.YtefpfedpgedloaaGreatDoor
open Go.RowKit
open Gf

/-- What the region of Split reads. -/
def RfS (tb o : Nat) (need : Int) (y : ByteArray) (W : World) : Prop := W.cell? ⟨tb, o + 1, none⟩ = some (.int .i64 need) ∧ W.cell? ⟨tb, o + 2, none⟩ = some (.string y)
/-- What the region of sum reads. -/
def SmS (gb : Nat) (y : ByteArray) (W : World) : Prop := W.cell? ⟨gb, 2, none⟩ = some (.string y)
set_option maxRecDepth 100000 in
set_option maxHeartbeats 2000000 in
theorem refresh_any {w : World} {a0 : Option Addr} {l : List Shr} (hT : SharesAt w a0 l) (hl : l.length ≤ 1000) (hs : ∀ s ∈ l, s.y.size ≤ maxLen) (cap : Nat) (d : ByteArray) :
    Calls Tryz.prog 7 #[.slice a0 l.length cap, .string d] w fun e w' => Below w.heap.size w w' ∧
      ((RGood l d ∧ ∃ a cp, e = .returned (.tuple #[.slice a l.length cp, .int .i64 0]) ∧ OwnS 32 w.heap.size w' a cp (rfr (need0 l) (len0 l) d l)) ∨ (¬ RGood l d ∧ e = .returned (.tuple #[.slice none 0 0, .int .i64 1]))) := by
  obtain ⟨n, hN⟩ : ∃ n, n = l.length := ⟨_, rfl⟩
  have hal := alike_any hT (by omega) hs cap
  rw [← hN] at hl hal ⊢
  cases hA : alk l with
  | false =>
    rw [hA] at hal
    have hbad : ¬ RGood l d := fun h => by rw [h.alk] at hA; cases hA
    have H := Lib.hid (And.intro hal hbad)
    clear hal hA hN hT hs hbad
    go_enter Tryz.func7, Tryz.ntmps7
    go_wp2_with fail
    refine H.out.1.mono ?_
    rintro e w1 ⟨rfl, hb⟩
    have HB := Lib.hid hb
    clear hb
    go_wp2_with fail
    go_ret2
    exact ⟨HB.out, .inr ⟨H.out.2, rfl⟩⟩
  | true =>
    rw [hA] at hal
    by_cases h0 : l = []
    · have h0n : n = 0 := by rw [hN, h0]; rfl
      subst h0n
      have hbad : ¬ RGood l d := fun h => h.ne h0
      have H := Lib.hid (And.intro hal hbad)
      clear hal hA hN h0 hT hs hbad
      go_enter Tryz.func7, Tryz.ntmps7
      go_wp2_with fail
      refine H.out.1.mono ?_
      rintro e w1 ⟨rfl, hb⟩
      have HB := Lib.hid hb
      clear hb
      go_wp2_with fail
      go_ret2
      exact ⟨HB.out, .inr ⟨H.out.2, rfl⟩⟩
    · have hn1 : 1 ≤ n := by
        have := List.length_pos_iff.2 h0
        omega
      obtain ⟨s0, hs0⟩ : ∃ s, l[0]? = some s := ⟨_, List.getElem?_eq_getElem (by omega)⟩
      obtain ⟨hnd, hln⟩ := head_need hs0
      have hAk := alk_iff.1 hA
      have hok := okS_iff.1 (hAk.ok s0 (List.mem_of_getElem? hs0))
      obtain ⟨tb, off, rfl, htb, -, d1, d2⟩ := hT 0 s0 hs0
      rw [Nat.zero_mul, Nat.add_zero] at d1 d2
      obtain ⟨m, hm⟩ : ∃ m, m = len0 l := ⟨_, rfl⟩
      obtain ⟨need, hne⟩ : ∃ need, need = need0 l := ⟨_, rfl⟩
      have hm1 : 1 ≤ m := by omega
      have hm2 : m ≤ 64 := by omega
      rw [← hnd, ← hne] at d1
      have hys : s0.y.size = m := by omega
      obtain ⟨y0, hy0⟩ : ∃ y0, y0 = s0.y := ⟨_, rfl⟩
      rw [← hy0] at d2 hys
      have hysi : (y0.size : Int) = (m : Int) := by omega
      have hn0 : 0 < n := by omega
      have hn1i : ((n : Int) == 0) = false := by rw [beq_eq_false_iff_ne]; omega
      have hF : ∀ W, Below w.heap.size w W → RfS tb off need y0 W := fun W hW => ⟨(hW.cell (p := ⟨tb, off + 1, none⟩) htb).trans d1, (hW.cell (p := ⟨tb, off + 2, none⟩) htb).trans d2⟩
      have hz := fun W => zeros_any m hm2 W
      obtain ⟨Z, hZ⟩ : ∃ Z, Z = zS m := ⟨_, rfl⟩
      simp only [← hZ] at hz
      have hgi : RGood l d ↔ (mayP Z d need n = true ∧ ∀ (k : Nat) s, l[k]? = some s → s.x = (k : Int) + 1) := by
        constructor
        · intro h; have h1 := h.may; rw [← hm, ← hne, ← hN, ← hZ] at h1; exact ⟨h1, h.xs⟩
        · intro h; exact ⟨hA, h0, h.2, by rw [← hm, ← hne, ← hN, ← hZ]; exact h.1⟩
      have hZs : Z.size = m := by rw [hZ, zS_size]
      have H := Lib.hid (And.intro hal (And.intro hF (And.intro hz (And.intro hgi (And.intro hT (And.intro hN (And.intro hAk (And.intro hZ (And.intro hm (And.intro hne hZs))))))))))
      clear hal hA hT hN hAk hs hnd hln hok hs0 h0 d1 d2 htb hm hne hy0 hys hF hz hgi hZ hZs
      cases hmp : mayP Z d need n with
      | false =>
        go_enter Tryz.func7, Tryz.ntmps7
        go_wp2_with fail
        refine H.out.1.mono ?_
        rintro e w1 ⟨rfl, hb⟩
        have C := H.out.2.1 w1.drew hb.drew
        have HB := Lib.hid hb
        clear hb
        go_wp2_with fail
        refine wp_region_held (S := RfS tb off need y0) (by kernel_rfl) ?_
        change wpAnyH _ _ _ _ _ _ _ _ (World.drew _)
        have hbd : Below w.heap.size w w1.drew := HB.out.drew
        generalize World.drew _ = wh at *
        refine wpAnyH_take (i := 0) (v := ?_) rfl (by kernel_rfl) (by kernel_rfl) (by kernel_rfl) (fun _ _ _ h => h) (Or.inl ⟨by kernel_rfl, ?_⟩) C ?_
        rotate_left
        · (intro W hS; obtain ⟨g1, g2⟩ := hS; go_simp; try (with_reducible rfl))
        refine wpAnyH_take (i := 1) (v := ?_) rfl (by kernel_rfl) (by kernel_rfl) (by kernel_rfl) (fun _ _ _ h => h) (Or.inl ⟨by kernel_rfl, ?_⟩) C ?_
        rotate_left
        · (intro W hS; obtain ⟨g1, g2⟩ := hS; go_simp; try (with_reducible rfl))
        refine wpAnyH_take (i := 2) (v := ?_) rfl (by kernel_rfl) (by kernel_rfl) (by kernel_rfl) (fun _ _ _ h => h) (Or.inl ⟨by kernel_rfl, ?_⟩) C ?_
        rotate_left
        · (intro W hS; obtain ⟨g1, g2⟩ := hS; go_simp; try (with_reducible rfl))
        refine wpAnyH_take (i := 3) (v := ?_) rfl (by kernel_rfl) (by kernel_rfl) (by kernel_rfl) (fun _ _ _ h => h) (Or.inl ⟨by kernel_rfl, ?_⟩) C ?_
        rotate_left
        · (intro W hS; obtain ⟨g1, g2⟩ := hS; go_simp; try (with_reducible rfl))
        refine wpAnyH_take (i := 4) (v := ?_) rfl (by kernel_rfl) (by kernel_rfl) (by kernel_rfl) (fun _ _ _ h => h) (Or.inl ⟨by kernel_rfl, ?_⟩) C ?_
        rotate_left
        · (intro W hS; obtain ⟨g1, g2⟩ := hS; go_simp; try (with_reducible rfl))
        refine wpAnyH_take (i := 6) (v := ?_) rfl (by kernel_rfl) (by kernel_rfl) (by kernel_rfl) (fun _ _ _ h => h) (Or.inl ⟨by kernel_rfl, ?_⟩) C ?_
        rotate_left
        · (intro W hS; obtain ⟨g1, g2⟩ := hS; go_simp; try (with_reducible rfl))
        refine wpAnyH_take (i := 7) (v := ?_) rfl (by kernel_rfl) (by kernel_rfl) (by kernel_rfl) (fun _ _ _ h => h) (Or.inl ⟨by kernel_rfl, ?_⟩) C ?_
        rotate_left
        · (intro W hS; obtain ⟨g1, g2⟩ := hS; go_simp; try (with_reducible rfl))
        refine wpAnyH_take (i := 8) (v := ?_) rfl (by kernel_rfl) (by kernel_rfl) (by kernel_rfl) (fun _ _ _ h => h) (Or.inl ⟨by kernel_rfl, ?_⟩) C ?_
        rotate_left
        · (intro W hS; obtain ⟨g1, g2⟩ := hS; go_simp; try (with_reducible rfl))
        refine wpAnyH_take (i := 9) (v := ?_) rfl (by kernel_rfl) (by kernel_rfl) (by kernel_rfl) (fun _ _ _ h => h) (Or.inl ⟨by kernel_rfl, ?_⟩) C ?_
        rotate_left
        · (intro W hS; obtain ⟨g1, g2⟩ := hS; go_simp; try (with_reducible rfl))
        refine wpAnyH_take (i := 10) (v := ?_) rfl (by kernel_rfl) (by kernel_rfl) (by kernel_rfl) (fun _ _ _ h => h) (Or.inl ⟨by kernel_rfl, ?_⟩) C ?_
        rotate_left
        · (intro W hS; obtain ⟨g1, g2⟩ := hS; go_simp; try (with_reducible rfl))
        refine wpAnyH_take (i := 11) (v := ?_) rfl (by kernel_rfl) (by kernel_rfl) (by kernel_rfl) (fun _ _ _ h => h) (Or.inl ⟨by kernel_rfl, ?_⟩) C ?_
        rotate_left
        · (intro W hS; obtain ⟨g1, g2⟩ := hS; go_simp; try (with_reducible rfl))
        refine wpAnyH_take (i := 12) (v := ?_) rfl (by kernel_rfl) (by kernel_rfl) (by kernel_rfl) (fun _ _ _ h => h) (Or.inl ⟨by kernel_rfl, ?_⟩) C ?_
        rotate_left
        · (intro W hS; obtain ⟨g1, g2⟩ := hS; go_simp; try (with_reducible rfl))
        refine wpAnyH_ready (rs := [5]) (by kernel_rfl) (by simp) ?_
        refine AllReadyH.cons rfl (fun K hK => ?_) AllReadyH.nil
        go_simp
        refine (H.out.2.2.1 wh).mono ?_
        rintro e w3 ⟨rfl, hb3⟩
        have hb3 := hbd.trans (hb3.mono hbd.size)
        have C := H.out.2.1 w3 hb3
        refine hK.out _ _ C (fun _ => ?_)
        clear hK K hbd
        refine wpAnyH_ready (rs := [13]) (by kernel_rfl) (by simp) ?_
        refine AllReadyH.cons rfl (fun K hK => ?_) AllReadyH.nil
        go_simp
        refine (split_bad Z d need n (by rw [H.out.2.2.2.2.2.2.2.2.2.2]; unfold maxLen; omega) hmp w3).mono ?_
        rintro e w4 ⟨rfl, rfl⟩
        refine hK.out _ _ C (fun _ => ?_)
        clear hK K
        refine wpAnyH_take (i := 14) (v := ?_) rfl (by kernel_rfl) (by kernel_rfl) (by kernel_rfl) (fun _ _ _ h => h) (Or.inl ⟨by kernel_rfl, ?_⟩) C ?_
        rotate_left
        · (intro W hS; clear hS; go_simp; try (with_reducible rfl))
        refine wpAnyH_take (i := 15) (v := ?_) rfl (by kernel_rfl) (by kernel_rfl) (by kernel_rfl) (fun _ _ _ h => h) (Or.inl ⟨by kernel_rfl, ?_⟩) C ?_
        rotate_left
        · (intro W hS; clear hS; go_simp; try (with_reducible rfl))
        refine wpAnyH_take (i := 16) (v := ?_) rfl (by kernel_rfl) (by kernel_rfl) (by kernel_rfl) (fun _ _ _ h => h) (Or.inl ⟨by kernel_rfl, ?_⟩) C ?_
        rotate_left
        · (intro W hS; clear hS; go_simp; try (with_reducible rfl))
        refine wpAnyH_take (i := 17) (v := ?_) rfl (by kernel_rfl) (by kernel_rfl) (by kernel_rfl) (fun _ _ _ h => h) (Or.inl ⟨by kernel_rfl, ?_⟩) C ?_
        rotate_left
        · (intro W hS; clear hS; go_simp; try (with_reducible rfl))
        refine wpAnyH_take (i := 18) (v := ?_) rfl (by kernel_rfl) (by kernel_rfl) (by kernel_rfl) (fun _ _ _ h => h) (Or.inl ⟨by kernel_rfl, ?_⟩) C ?_
        rotate_left
        · (intro W hS; clear hS; go_simp; try (with_reducible rfl))
        refine wpAnyH_done (by kernel_rfl) ?_ _
        go_simp
        have H4 := Lib.hid hb3
        clear hb3 C
        go_wp2_with fail
        go_ret2
        exact ⟨H4.out, .inr ⟨fun h => Bool.noConfusion ((H.out.2.2.2.1.1 h).1.symm.trans hmp), rfl⟩⟩
      | true =>
        have hpm := mayP_iff.1 hmp
        go_enter Tryz.func7, Tryz.ntmps7
        go_wp2_with fail
        refine H.out.1.mono ?_
        rintro e w1 ⟨rfl, hb⟩
        have C := H.out.2.1 w1.drew hb.drew
        have HB := Lib.hid hb
        clear hb
        go_wp2_with fail
        refine wp_region_held (S := RfS tb off need y0) (by kernel_rfl) ?_
        change wpAnyH _ _ _ _ _ _ _ _ (World.drew _)
        have hbd : Below w.heap.size w w1.drew := HB.out.drew
        generalize World.drew _ = wh at *
        refine wpAnyH_take (i := 0) (v := ?_) rfl (by kernel_rfl) (by kernel_rfl) (by kernel_rfl) (fun _ _ _ h => h) (Or.inl ⟨by kernel_rfl, ?_⟩) C ?_
        rotate_left
        · (intro W hS; obtain ⟨g1, g2⟩ := hS; go_simp; try (with_reducible rfl))
        refine wpAnyH_take (i := 1) (v := ?_) rfl (by kernel_rfl) (by kernel_rfl) (by kernel_rfl) (fun _ _ _ h => h) (Or.inl ⟨by kernel_rfl, ?_⟩) C ?_
        rotate_left
        · (intro W hS; obtain ⟨g1, g2⟩ := hS; go_simp; try (with_reducible rfl))
        refine wpAnyH_take (i := 2) (v := ?_) rfl (by kernel_rfl) (by kernel_rfl) (by kernel_rfl) (fun _ _ _ h => h) (Or.inl ⟨by kernel_rfl, ?_⟩) C ?_
        rotate_left
        · (intro W hS; obtain ⟨g1, g2⟩ := hS; go_simp; try (with_reducible rfl))
        refine wpAnyH_take (i := 3) (v := ?_) rfl (by kernel_rfl) (by kernel_rfl) (by kernel_rfl) (fun _ _ _ h => h) (Or.inl ⟨by kernel_rfl, ?_⟩) C ?_
        rotate_left
        · (intro W hS; obtain ⟨g1, g2⟩ := hS; go_simp; try (with_reducible rfl))
        refine wpAnyH_take (i := 4) (v := ?_) rfl (by kernel_rfl) (by kernel_rfl) (by kernel_rfl) (fun _ _ _ h => h) (Or.inl ⟨by kernel_rfl, ?_⟩) C ?_
        rotate_left
        · (intro W hS; obtain ⟨g1, g2⟩ := hS; go_simp; try (with_reducible rfl))
        refine wpAnyH_take (i := 6) (v := ?_) rfl (by kernel_rfl) (by kernel_rfl) (by kernel_rfl) (fun _ _ _ h => h) (Or.inl ⟨by kernel_rfl, ?_⟩) C ?_
        rotate_left
        · (intro W hS; obtain ⟨g1, g2⟩ := hS; go_simp; try (with_reducible rfl))
        refine wpAnyH_take (i := 7) (v := ?_) rfl (by kernel_rfl) (by kernel_rfl) (by kernel_rfl) (fun _ _ _ h => h) (Or.inl ⟨by kernel_rfl, ?_⟩) C ?_
        rotate_left
        · (intro W hS; obtain ⟨g1, g2⟩ := hS; go_simp; try (with_reducible rfl))
        refine wpAnyH_take (i := 8) (v := ?_) rfl (by kernel_rfl) (by kernel_rfl) (by kernel_rfl) (fun _ _ _ h => h) (Or.inl ⟨by kernel_rfl, ?_⟩) C ?_
        rotate_left
        · (intro W hS; obtain ⟨g1, g2⟩ := hS; go_simp; try (with_reducible rfl))
        refine wpAnyH_take (i := 9) (v := ?_) rfl (by kernel_rfl) (by kernel_rfl) (by kernel_rfl) (fun _ _ _ h => h) (Or.inl ⟨by kernel_rfl, ?_⟩) C ?_
        rotate_left
        · (intro W hS; obtain ⟨g1, g2⟩ := hS; go_simp; try (with_reducible rfl))
        refine wpAnyH_take (i := 10) (v := ?_) rfl (by kernel_rfl) (by kernel_rfl) (by kernel_rfl) (fun _ _ _ h => h) (Or.inl ⟨by kernel_rfl, ?_⟩) C ?_
        rotate_left
        · (intro W hS; obtain ⟨g1, g2⟩ := hS; go_simp; try (with_reducible rfl))
        refine wpAnyH_take (i := 11) (v := ?_) rfl (by kernel_rfl) (by kernel_rfl) (by kernel_rfl) (fun _ _ _ h => h) (Or.inl ⟨by kernel_rfl, ?_⟩) C ?_
        rotate_left
        · (intro W hS; obtain ⟨g1, g2⟩ := hS; go_simp; try (with_reducible rfl))
        refine wpAnyH_take (i := 12) (v := ?_) rfl (by kernel_rfl) (by kernel_rfl) (by kernel_rfl) (fun _ _ _ h => h) (Or.inl ⟨by kernel_rfl, ?_⟩) C ?_
        rotate_left
        · (intro W hS; obtain ⟨g1, g2⟩ := hS; go_simp; try (with_reducible rfl))
        refine wpAnyH_ready (rs := [5]) (by kernel_rfl) (by simp) ?_
        refine AllReadyH.cons rfl (fun K hK => ?_) AllReadyH.nil
        go_simp
        refine (H.out.2.2.1 wh).mono ?_
        rintro e w3 ⟨rfl, hb3⟩
        have hb3 := hbd.trans (hb3.mono hbd.size)
        have C := H.out.2.1 w3 hb3
        refine hK.out _ _ C (fun _ => ?_)
        clear hK K hbd
        refine wpAnyH_ready (rs := [13]) (by kernel_rfl) (by simp) ?_
        refine AllReadyH.cons rfl (fun K hK => ?_) AllReadyH.nil
        go_simp
        refine (split_good Z d need n hmp w3).mono ?_
        rintro e w4 ⟨a4, cp4, rfl, ho4, hb4⟩
        have hb4 := hb3.trans (hb4.mono hb3.size)
        have C := H.out.2.1 w4 hb4
        refine hK.out _ _ C (fun _ => ?_)
        clear hK K
        refine wpAnyH_take (i := 14) (v := ?_) rfl (by kernel_rfl) (by kernel_rfl) (by kernel_rfl) (fun _ _ _ h => h) (Or.inl ⟨by kernel_rfl, ?_⟩) C ?_
        rotate_left
        · (intro W hS; clear hS; go_simp; try (with_reducible rfl))
        refine wpAnyH_take (i := 15) (v := ?_) rfl (by kernel_rfl) (by kernel_rfl) (by kernel_rfl) (fun _ _ _ h => h) (Or.inl ⟨by kernel_rfl, ?_⟩) C ?_
        rotate_left
        · (intro W hS; clear hS; go_simp; try (with_reducible rfl))
        refine wpAnyH_take (i := 16) (v := ?_) rfl (by kernel_rfl) (by kernel_rfl) (by kernel_rfl) (fun _ _ _ h => h) (Or.inl ⟨by kernel_rfl, ?_⟩) C ?_
        rotate_left
        · (intro W hS; clear hS; go_simp; try (with_reducible rfl))
        refine wpAnyH_take (i := 17) (v := ?_) rfl (by kernel_rfl) (by kernel_rfl) (by kernel_rfl) (fun _ _ _ h => h) (Or.inl ⟨by kernel_rfl, ?_⟩) C ?_
        rotate_left
        · (intro W hS; clear hS; go_simp; try (with_reducible rfl))
        refine wpAnyH_take (i := 18) (v := ?_) rfl (by kernel_rfl) (by kernel_rfl) (by kernel_rfl) (fun _ _ _ h => h) (Or.inl ⟨by kernel_rfl, ?_⟩) C ?_
        rotate_left
        · (intro W hS; clear hS; go_simp; try (with_reducible rfl))
        refine wpAnyH_done (by kernel_rfl) ?_ _
        go_simp
        obtain ⟨g, rfl, hgB, hgl, hgc, hgf⟩ := ho4.addr (by rw [splt_length]; omega)
        rw [splt_length] at hgc
        have hlA : (rfr need m d l).length = n := by rw [rfr_length]; exact H.out.2.2.2.2.2.1.symm
        have hlB : (splt Z d need n).length = n := splt_length _ _ _ _
        have hho : OwnS 32 w.heap.size w4 (some ⟨g, 0, none⟩) cp4 (half (rfr need m d l) (splt Z d need n) 0) := by rw [half_zero]; exact Own.mono ho4 hb3.size
        have hgw : w.heap.size ≤ g := Nat.le_trans hb3.size hgB
        have H4 := Lib.hid (And.intro hho (And.intro hb4 (And.intro hlA hlB)))
        clear hho hb4 hlA hlB hb3 C ho4 hgB hgf hgl
        go_wp2_with fail
        go_loopw [8, 9, 40] (fun _ _ i wr => ∃ k : Nat, k ≤ n ∧ i = .int .i64 (k : Int) ∧ OwnS 32 w.heap.size wr (some ⟨g, 0, none⟩) cp4 (half (rfr need m d l) (splt Z d need n) k) ∧ Below w.heap.size w wr ∧ ∀ (j : Nat) s, j < k → l[j]? = some s → s.x = (j : Int) + 1) (fun _ _ i _ => n - (intOf i).toNat)
        case atStart => exact ⟨0, by omega, rfl, H4.out.1, H4.out.2.1, fun j s hj => absurd hj (by omega)⟩
        case round =>
          obtain ⟨k, hk, rfl, ho, hb, hx⟩ := hrel
          by_cases hlt : k < n
          · obtain ⟨s, hsk⟩ : ∃ s, l[k]? = some s := ⟨_, List.getElem?_eq_getElem (by have := H.out.2.2.2.2.2.1; omega)⟩
            obtain ⟨tb', off', e', -, c0, c1, c2⟩ := (H.out.2.2.2.2.1.below hb) k s hsk
            injection e' with e'
            injection e' with e1 e2 _
            subst e1 e2
            have hget : (half (rfr need m d l) (splt Z d need n) k)[k]? = some ⟨(k : Int) + 1, need, shY Z d (need.toNat - 1) (bx ((k : Int) + 1))⟩ := by rw [half_get H4.out.2.2.1 H4.out.2.2.2 hlt, splt_get hlt]
            obtain ⟨wb, hwb⟩ : ∃ wb, wb = wr.alloc (.cells #[.int .i64 s.x, .int .i64 s.need, .string s.y] 32) := ⟨_, rfl⟩
            have hbw : Below wr.heap.size wr wb := by rw [hwb]; exact (Below.refl _ _).alloc (Nat.le_refl _) _
            have hbox : wb.heap[wr.heap.size]? = some (.cells #[.int .i64 s.x, .int .i64 s.need, .string s.y] 32 (0, 0)) := by rw [hwb]; exact heap_alloc_new _ _
            have hzb : wr.heap.size < wb.heap.size := by rw [hwb]; simp
            have hob := ho.below hbw
            obtain ⟨r0, -, r2, rf⟩ := hob.cells hget
            obtain ⟨z0, z1, z2⟩ := share_cell hbox
            have rf2 := rf (k * 3 + 2)
            obtain ⟨zy, hzy⟩ : ∃ zy, zy = shY Z d (need.toNat - 1) (bx ((k : Int) + 1)) := ⟨_, rfl⟩
            rw [← hzy] at r2 hget
            have hzs : zy.size = m := by rw [hzy, shY_size]; exact H.out.2.2.2.2.2.2.2.2.2.2
            have hsy : s.y.size = zy.size := by rw [hzs, H.out.2.2.2.2.2.2.1.size s (List.mem_of_getElem? hsk)]; exact H.out.2.2.2.2.2.2.2.2.1.symm
            have HR := Lib.hid ho
            have HK := Lib.hid (And.intro hob (And.intro (hb.trans (hbw.mono hb.size)) (And.intro hx (And.intro hsk (And.intro hget (And.intro hzy (And.intro hzs (And.intro hsy hzb))))))))
            have hkc : k < cp4 := by omega
            clear ho hb hx hsk hget hbw hzy hzs hsy hob hbox rf
            by_cases hxk : s.x = (k : Int) + 1
            · have hxb : (s.x != (k : Int) + 1) = false := by rw [hxk]; simp
              have HX := Lib.hid hxk
              clear hxk
              go_upto_region 9 with fail
              rw [← hwb]
              clear hwb c0 c1 c2
              go_wp2_with fail
              go_quiet (fail)
              go_wp2_with fail
              have hwd : Below wb.heap.size wb (World.drew (World.drewN wb nq)) := ⟨rfl, rfl, rfl, Nat.le_refl _, fun _ _ => rfl⟩
              have C : SmS wr.heap.size s.y (World.drew (World.drewN wb nq)) := z2
              have q2 : (World.drew (World.drewN wb nq)).cell? ⟨g, k * 3 + 2, none⟩ = some (.string zy) := r2
              have HZ := Lib.hid (And.intro z2 (And.intro r2 rf2))
              clear z0 z1 z2 r0 r2 rf2
              refine wp_region_held (S := SmS wr.heap.size s.y) (by kernel_rfl) ?_
              change wpAnyH _ _ _ _ _ _ _ _ (World.drew _)
              generalize World.drew _ = wh at *
              refine wpAnyH_take (i := 0) (v := ?_) rfl (by kernel_rfl) (by kernel_rfl) (by kernel_rfl) (fun _ _ _ h => h) (Or.inl ⟨by kernel_rfl, ?_⟩) C ?_
              rotate_left
              · (intro W hS; have g1 : W.cell? ⟨wr.heap.size, 2, none⟩ = some (.string s.y) := hS; clear hS; go_simp; try (with_reducible rfl))
              refine wpAnyH_take (i := 1) (v := ?_) rfl (by kernel_rfl) (by kernel_rfl) (by kernel_rfl) (fun _ _ _ h => h) (Or.inl ⟨by kernel_rfl, ?_⟩) C ?_
              rotate_left
              · (intro W hS; have g1 : W.cell? ⟨wr.heap.size, 2, none⟩ = some (.string s.y) := hS; clear hS; go_simp; try (with_reducible rfl))
              refine wpAnyH_take (i := 2) (v := ?_) rfl (by kernel_rfl) (by kernel_rfl) (by kernel_rfl) (fun _ _ _ h => h) (Or.inl ⟨by kernel_rfl, ?_⟩) C ?_
              rotate_left
              · (intro W hS; have g1 : W.cell? ⟨wr.heap.size, 2, none⟩ = some (.string s.y) := hS; clear hS; go_simp; try (with_reducible rfl))
              refine wpAnyH_take (i := 3) (v := ?_) rfl (by kernel_rfl) (by kernel_rfl) (by kernel_rfl) (fun _ _ _ h => h) (Or.inl ⟨by kernel_rfl, ?_⟩) C ?_
              rotate_left
              · (intro W hS; have g1 : W.cell? ⟨wr.heap.size, 2, none⟩ = some (.string s.y) := hS; clear hS; go_simp; try (with_reducible rfl))
              refine wpAnyH_take (i := 4) (v := ?_) rfl (by kernel_rfl) (by kernel_rfl) (by kernel_rfl) (fun _ _ _ h => h) (Or.inl ⟨by kernel_rfl, ?_⟩) C ?_
              rotate_left
              · (intro W hS; have g1 : W.cell? ⟨wr.heap.size, 2, none⟩ = some (.string s.y) := hS; clear hS; go_simp; try (with_reducible rfl))
              refine wpAnyH_take (i := 5) (v := ?_) rfl (by kernel_rfl) (by kernel_rfl) (by kernel_rfl) (fun _ _ _ h => h) (Or.inl ⟨by kernel_rfl, ?_⟩) C ?_
              rotate_left
              · (intro W hS; have g1 : W.cell? ⟨wr.heap.size, 2, none⟩ = some (.string s.y) := hS; clear hS; go_simp; try (with_reducible rfl))
              refine wpAnyH_take (i := 7) (v := ?_) rfl (by kernel_rfl) (by kernel_rfl) (by kernel_rfl) (fun _ _ _ h => h) (Or.inl ⟨by kernel_rfl, ?_⟩) C ?_
              rotate_left
              · (intro W hS; have g1 : W.cell? ⟨wr.heap.size, 2, none⟩ = some (.string s.y) := hS; clear hS; go_simp; try (with_reducible rfl))
              refine wpAnyH_take (i := 8) (v := ?_) rfl (by kernel_rfl) (by kernel_rfl) (by kernel_rfl) (fun _ _ _ h => h) (Or.inl ⟨by kernel_rfl, ?_⟩) C ?_
              rotate_left
              · (intro W hS; have g1 : W.cell? ⟨wr.heap.size, 2, none⟩ = some (.string s.y) := hS; clear hS; go_simp; try (with_reducible rfl))
              refine wpAnyH_ready (rs := [6]) (by kernel_rfl) (by simp) ?_
              refine AllReadyH.cons rfl (fun K hK => ?_) AllReadyH.nil
              go_simp
              refine hK.out _ _ C (fun _ => ?_)
              clear hK K q2
              refine wpAnyH_ready (rs := [9]) (by kernel_rfl) (by simp) ?_
              refine AllReadyH.cons rfl (fun K hK => ?_) AllReadyH.nil
              go_simp
              refine (sum_any zy s.y HK.out.2.2.2.2.2.2.2.1 (by rw [HK.out.2.2.2.2.2.2.1]; omega) wh).mono ?_
              rintro e w6 ⟨rfl, hb6⟩
              have hwd6 := hwd.trans (hb6.mono hwd.size)
              have hzb := HK.out.2.2.2.2.2.2.2.2
              have C6 : SmS wr.heap.size s.y w6 := (hwd6.cell (p := ⟨wr.heap.size, 2, none⟩) hzb).trans HZ.out.1
              refine hK.out _ _ C6 (fun _ => ?_)
              clear hK K
              have ho6 := HK.out.1.below hwd6
              obtain ⟨g', eg, -, hgl, -, -⟩ := HK.out.1.addr (by rw [half_length H4.out.2.2.1 H4.out.2.2.2 (by omega)]; omega)
              injection eg with eg
              injection eg with eg _ _
              subst eg
              obtain ⟨g', eg, -, hgr, -, -⟩ := HR.out.addr (by rw [half_length H4.out.2.2.1 H4.out.2.2.2 (by omega)]; omega)
              injection eg with eg
              injection eg with eg _ _
              subst eg
              have p6 : w6.cell? ⟨g, k * 3 + 2, none⟩ = some (.string zy) := (hwd6.cell (p := ⟨g, k * 3 + 2, none⟩) hgl).trans HZ.out.2.1
              have f6 : w6.frozen? ⟨g, k * 3 + 2, none⟩ = false := (hwd6.frozen (p := ⟨g, k * 3 + 2, none⟩) hgl).trans HZ.out.2.2
              refine wpAnyH_take (i := 10) (v := ?_) rfl (by kernel_rfl) (by kernel_rfl) (by kernel_rfl) (fun _ _ _ h => h) (Or.inl ⟨by kernel_rfl, ?_⟩) C6 ?_
              rotate_left
              · (intro W hS; clear hS; go_simp; try (with_reducible rfl))
              refine wpAnyH_take (i := 11) (v := ?_) rfl (by kernel_rfl) (by kernel_rfl) (by kernel_rfl) (fun _ _ _ h => h) (Or.inl ⟨by kernel_rfl, ?_⟩) C6 ?_
              rotate_left
              · (intro W hS; clear hS; go_simp; try (with_reducible rfl))
              refine wpAnyH_ready (rs := [12]) (by kernel_rfl) (by simp) ?_
              refine AllReadyH.cons rfl (fun K hK => ?_) AllReadyH.nil
              go_simp
              have C7 : SmS wr.heap.size s.y (w6.setCell ⟨g, k * 3 + 2, none⟩ (.string (xorY zy s.y))) := by
                unfold SmS
                rw [World.cell?_setCell_other (h := by intro e2; injection e2 with e3 _ _; omega)]
                exact C6
              refine hK.out _ _ C7 (fun _ => ?_)
              clear hK K
              refine wpAnyH_done (by kernel_rfl) ?_ _
              go_simp
              have hput := OwnS.putY ho6 HK.out.2.2.2.2.1 (xorY zy s.y)
              rw [half_set (n := n) H4.out.2.2.1 H4.out.2.2.2 hlt (by
                unfold rfr
                rw [List.getElem?_map, HK.out.2.2.2.1]
                show some (rf need m d s) = _
                unfold rf
                rw [HX.out, HK.out.2.2.2.2.2.1, H.out.2.2.2.2.2.2.2.1])] at hput
              have hbp := below_put (HK.out.2.1.trans (hwd6.mono HK.out.2.1.size)) hgw (k * 3 + 2) (.string (xorY zy s.y))
              have HP := Lib.hid (And.intro hput hbp)
              clear hput hbp p6 f6 C6 C7 ho6 hwd6 hb6 hwd C
              go_wp2_with fail
              go_roundw
              case rel => exact ⟨k + 1, by omega, by go_num, HP.out.1, HP.out.2, fun j t hj ht => by
                by_cases e : j = k
                · subst e
                  rw [HK.out.2.2.2.1] at ht
                  injection ht with ht
                  subst ht
                  exact HX.out
                · exact HK.out.2.2.1 j t (by omega) ht⟩
              case measure => simp [intOf]; omega
            · have hxb : (s.x != (k : Int) + 1) = true := by rw [bne_iff_ne]; exact hxk
              have HX := Lib.hid (show ¬ RGood l d from fun h => hxk (h.xs k s HK.out.2.2.2.1))
              clear hxk
              go_upto_region 9 with fail
              rw [← hwb]
              clear hwb c0 c1 c2
              go_wp2_with fail
              go_quiet (fail)
              go_wp2_with fail
              go_ret2
              exact ⟨HK.out.2.1.trans ⟨rfl, rfl, rfl, Nat.le_refl _, fun _ _ => rfl⟩, .inr ⟨HX.out, rfl⟩⟩
          · obtain rfl : k = n := by omega
            rw [half_all H4.out.2.2.1 H4.out.2.2.2, H.out.2.2.2.2.2.2.2.2.2.1, H.out.2.2.2.2.2.2.2.2.1] at ho
            have HE := Lib.hid (And.intro ho (And.intro hb (H.out.2.2.2.1.2 ⟨hmp, fun j s hs => hx j s (by have := (List.getElem?_eq_some_iff.1 hs).1; have := H.out.2.2.2.2.2.1; omega) hs⟩)))
            clear ho hb hx
            go_wp2_with fail
            go_ret2
            exact ⟨HE.out.2.1, .inl ⟨HE.out.2.2, _, _, rfl, HE.out.1⟩⟩
end Go.Proofs.YtefpfedpgedloaaGreatDoor
