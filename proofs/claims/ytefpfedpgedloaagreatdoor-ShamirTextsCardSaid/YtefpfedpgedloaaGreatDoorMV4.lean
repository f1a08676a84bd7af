/- Merged by program: shamir.join: the polynomials on which all shares lie. | shamir.Combine, Recover. | lockboxlaw09.awake, few. -/
import Derived.Test.YtefpfedpgedloaaGreatDoorMV1
import Derived.Test.YtefpfedpgedloaaGreatDoorMV2
import Derived.Test.YtefpfedpgedloaaGreatDoorMV3
namespace Go.Proofs.YtefpfedpgedloaaGreatDoor
open Go.RowKit
open Gf

theorem share_cell {W : World} {g : Nat} {s : Shr} {t : TypeId} (h : W.heap[g]? = some (.cells #[.int .i64 s.x, .int .i64 s.need, .string s.y] t (0, 0))) :
    W.cell? ⟨g, 0, none⟩ = some (.int .i64 s.x) ∧ W.cell? ⟨g, 1, none⟩ = some (.int .i64 s.need) ∧ W.cell? ⟨g, 2, none⟩ = some (.string s.y) := by
  refine ⟨?_, ?_, ?_⟩ <;> (rw [cell_of_row _ _ _ _ _ _ h]; rfl)
set_option maxRecDepth 100000 in
set_option maxHeartbeats 2000000 in
theorem join_any {w : World} {a0 : Option Addr} {l : List Shr} (hT : SharesAt w a0 l) (hl : l.length ≤ 1000) (hs : ∀ s ∈ l, s.y.size ≤ maxLen) (cap : Nat) :
    Calls Tryz.prog 23 #[.slice a0 l.length cap] w fun e w' => JoinE l (fun a cp ps => OwnX w.heap.size w' a cp ps) e ∧ Below w.heap.size w w' := by
  obtain ⟨n, hN⟩ : ∃ n, n = l.length := ⟨_, rfl⟩
  have hal := alike_any hT (by omega) hs cap
  rw [← hN] at hl hal ⊢
  cases hA : alk l with
  | false =>
    rw [hA] at hal
    have H := Lib.hid (And.intro hal hA)
    clear hal hA hN hT hs
    go_enter Tryz.func23, Tryz.ntmps23
    go_wp2_with fail
    refine H.out.1.mono ?_
    rintro e w1 ⟨rfl, hb⟩
    have HB := Lib.hid hb
    clear hb
    go_wp2_with fail
    go_ret2
    exact ⟨.inl ⟨H.out.2, rfl⟩, HB.out⟩
  | true =>
    rw [hA] at hal
    by_cases h0 : l = []
    · have h0n : n = 0 := by rw [hN, h0]; rfl
      subst h0n
      have H := Lib.hid (And.intro hal (And.intro hA h0))
      clear hal hA hN h0 hT hs
      go_enter Tryz.func23, Tryz.ntmps23
      go_wp2_with fail
      refine H.out.1.mono ?_
      rintro e w1 ⟨rfl, hb⟩
      have HB := Lib.hid hb
      clear hb
      go_wp2_with fail
      go_ret2
      exact ⟨.inr (.inl ⟨H.out.2.1, .inl H.out.2.2, rfl⟩), HB.out⟩
    · have hn1 : 1 ≤ n := by
        have := List.length_pos_iff.2 h0
        omega
      obtain ⟨s0, hs0⟩ : ∃ s, l[0]? = some s := ⟨_, List.getElem?_eq_getElem (by omega)⟩
      obtain ⟨hnd, hln⟩ := head_need hs0
      have hAk := alk_iff.1 hA
      have hok := okS_iff.1 (hAk.ok s0 (List.mem_of_getElem? hs0))
      obtain ⟨tb, off, rfl, htb, -, d1, -⟩ := hT 0 s0 hs0
      rw [Nat.zero_mul, Nat.add_zero] at d1
      obtain ⟨N, hNN⟩ : ∃ N : Nat, s0.need = (N : Int) := ⟨s0.need.toNat, by omega⟩
      rw [hNN] at d1
      have hN1 : 1 ≤ N := by omega
      have hN2 : N ≤ 255 := by omega
      have hNi : (1 : Int) ≤ N := by omega
      have hni : (1 : Int) ≤ n := by omega
      have hneed : (need0 l).toNat = N := by rw [hnd, hNN, Int.toNat_natCast]
      have H := Lib.hid (And.intro hal (And.intro hA (And.intro hT (And.intro hN (And.intro hAk (And.intro hneed (And.intro hs (And.intro h0 (And.intro (hnd.trans hNN) (And.intro d1 (And.intro htb hok)))))))))))
      clear hal hA hT hN hAk hneed hs hnd hln hok hs0 h0 hNN d1 htb
      by_cases hsh : n < N
      · go_enter Tryz.func23, Tryz.ntmps23
        go_wp2_with fail
        refine H.out.1.mono ?_
        rintro e w1 ⟨rfl, hb⟩
        have d1 := (hb.cell (p := ⟨tb, off + 1, none⟩) H.out.2.2.2.2.2.2.2.2.2.2.1).trans H.out.2.2.2.2.2.2.2.2.2.1
        have HB := Lib.hid hb
        clear hb
        go_wp2_with fail
        go_ret2
        exact ⟨.inr (.inl ⟨H.out.2.1, .inr (by rw [H.out.2.2.2.2.2.2.2.2.1, ← H.out.2.2.2.1]; omega), rfl⟩), HB.out⟩
      · go_enter Tryz.func23, Tryz.ntmps23
        go_wp2_with fail
        refine H.out.1.mono ?_
        rintro e w1 ⟨rfl, hb⟩
        have d1 := (hb.cell (p := ⟨tb, off + 1, none⟩) H.out.2.2.2.2.2.2.2.2.2.2.1).trans H.out.2.2.2.2.2.2.2.2.2.1
        have hord := inorder_any (H.out.2.2.1.below hb) (by have := H.out.2.2.2.1; omega) (by have := H.out.2.2.2.1; omega) cap
        rw [← H.out.2.2.2.1] at hord
        have HB := Lib.hid (And.intro hb hord)
        clear hb hord
        go_wp2_with fail
        refine HB.out.2.mono ?_
        rintro e w2 ⟨a2, cp, d, rfl, hp, hS2, hb2, hcp, hcm⟩
        have hdA := H.out.2.2.2.2.1.perm hp
        have hdl : d.length = n := hp.length_eq.trans H.out.2.2.2.1.symm
        obtain ⟨t0, ht0⟩ : ∃ s, d[0]? = some s := ⟨_, List.getElem?_eq_getElem (by omega)⟩
        obtain ⟨tb2, off2, rfl, htb2, -, c1, -⟩ := hS2 0 t0 ht0
        rw [Nat.zero_mul, Nat.add_zero, hdA.need t0 (List.mem_of_getElem? ht0), H.out.2.2.2.2.2.2.2.2.1] at c1
        have hm64 := H.out.2.2.2.2.2.2.2.2.2.2.2.2.2.2
        obtain ⟨m, hm⟩ : ∃ m, m = len0 l := ⟨_, rfl⟩
        have hms : m ≤ 64 := by
          have h1 := okS_iff.1 (hdA.ok t0 (List.mem_of_getElem? ht0))
          have h2 := hdA.size t0 (List.mem_of_getElem? ht0)
          omega
        have hb12 := HB.out.1.trans (hb2.mono HB.out.1.size)
        have htl : (d.take N).length = N := by rw [List.length_take]; omega
        have hthr := through_shares (hS2.take N) (by omega) (by omega) m (fun s hs => by rw [hm]; exact hdA.size s (List.mem_of_mem_take hs)) hms cp
        rw [htl] at hthr
        have hNcp : N ≤ cp := by omega
        have hncp : n ≤ cp := by omega
        have hcmi : (cp : Int) ≤ 9223372036854775807 := by unfold maxLen at hcm; omega
        have HD := Lib.hid (And.intro hp (And.intro hS2 (And.intro hdA (And.intro hdl (And.intro hm (And.intro hb12 hthr))))))
        clear hp hS2 hdA hdl hm hb12 hthr ht0 hb2 hcp hcm htb2 htl hm64
        go_wp2_with fail
        refine HD.out.2.2.2.2.2.2.mono ?_
        rintro e w3 ⟨a3, cp3, rfl, hx3, hb3⟩
        have hx3' := hx3.at
        have H3 := Lib.hid (And.intro hx3 (And.intro hx3' hb3))
        clear hx3 hx3' hb3
        have hfr : fits (need0 l).toNat (len0 l) d = true ↔ ∀ s ∈ d.drop N, vals (polys m (d.take N)) (bx s.x) = s.y := by
          rw [H.out.2.2.2.2.2.1, ← HD.out.2.2.2.2.1]
          have hA := HD.out.2.2.1
          rw [← HD.out.2.2.2.2.1] at hA
          exact fits_rest hA (by have := HD.out.2.2.2.1; omega) hN2
        have hgood : ∀ W, Below w3.heap.size w3 W → (∀ s ∈ d.drop N, vals (polys m (d.take N)) (bx s.x) = s.y) → JoinE l (fun a cp ps => OwnX w.heap.size W a cp ps) (.returned (.tuple #[.slice a3 m cp3, .int .i64 0])) := fun W hW hall =>
          .inr (.inr ⟨H.out.2.1, H.out.2.2.2.2.2.2.2.1, by rw [H.out.2.2.2.2.2.2.2.2.1, ← H.out.2.2.2.1]; omega, d, HD.out.1, .inr ⟨hfr.2 hall, a3, cp3, by rw [← HD.out.2.2.2.2.1], by
            rw [H.out.2.2.2.2.2.1, ← HD.out.2.2.2.2.1]
            exact Own.mono (H3.out.1.below hW) HD.out.2.2.2.2.2.1.size⟩⟩)
        have hwB : ∀ W, Below w3.heap.size w3 W → Below w.heap.size w W := fun W hW => by
          have h1 := HD.out.2.2.2.2.2.1
          have h2 := h1.trans (H3.out.2.2.mono h1.size)
          exact h2.trans (hW.mono h2.size)
        have HG := Lib.hid (And.intro hfr (And.intro hgood hwB))
        clear hfr hgood hwB
        by_cases hc0 : cp = N
        · have hnN : n = N := by omega
          subst hnN
          subst hc0
          clear hsh hNcp hncp
          go_wp2_with fail
          go_loopw [7, 37] (fun _ i wr => i = .int .i64 0 ∧ Below w3.heap.size w3 wr) (fun _ _ _ => 0)
          case atStart => exact ⟨rfl, Below.refl _ _⟩
          case round =>
            obtain ⟨rfl, hb⟩ := hrel
            have HB4 := Lib.hid hb
            clear hb
            go_wp2_with fail
            go_ret2
            exact ⟨HG.out.2.1 _ HB4.out (fun s hs => by rw [List.drop_of_length_le (by have := HD.out.2.2.2.1; omega)] at hs; simp at hs), HG.out.2.2 _ HB4.out⟩
        · have hc1 : ¬ (cp - N = 0) := by omega
          have hnN : N ≤ n := by omega
          have hv := fun (W : World) (hW : Below w3.heap.size w3 W) (x : Int) => values_any (H3.out.2.1.below hW) (by rw [polys_length]; omega) (fun p hp => Nat.le_trans (polys_small HD.out.2.2.1 (by have := HD.out.2.2.2.1; omega) hN2 p (by rw [← HD.out.2.2.2.2.1]; exact hp)) (by unfold maxLen; omega)) cp3 x
          rw [polys_length] at hv
          have HV := Lib.hid hv
          clear hv
          go_wp2_with fail
          go_loopw [7, 37] (fun _ i wr => ∃ k : Nat, k ≤ n - N ∧ i = .int .i64 (k : Int) ∧ Below w3.heap.size w3 wr ∧ ∀ j, j < k → ∀ s, (d.drop N)[j]? = some s → vals (polys m (d.take N)) (bx s.x) = s.y) (fun _ i _ => n - N - (intOf i).toNat)
          case atStart => exact ⟨0, by omega, rfl, Below.refl _ _, fun j hj => absurd hj (by omega)⟩
          case round =>
            obtain ⟨k, hk, rfl, hb, hdone⟩ := hrel
            by_cases hlt : k < n - N
            · obtain ⟨s, hsk⟩ : ∃ s, (d.drop N)[k]? = some s := ⟨_, List.getElem?_eq_getElem (by rw [List.length_drop]; have := HD.out.2.2.2.1; omega)⟩
              obtain ⟨tb', off', e', -, c0, c1, c2⟩ := ((HD.out.2.1.below (H3.out.2.2.trans (hb.mono H3.out.2.2.size))).drop N) k s hsk
              injection e' with e'
              injection e' with e1 e2 _
              subst e1 e2
              have hbb : Below wr.heap.size wr (wr.alloc (.cells #[.int .i64 s.x, .int .i64 s.need, .string s.y] 32)) := (Below.refl _ _).alloc (Nat.le_refl _) _
              have hbox := heap_alloc_new wr (.cells #[.int .i64 s.x, .int .i64 s.need, .string s.y] 32)
              have hz := Nat.lt_succ_self wr.heap.size
              have hzb : wr.heap.size < (wr.alloc (.cells #[.int .i64 s.x, .int .i64 s.need, .string s.y] 32)).heap.size := by simp
              obtain ⟨wb, hwb⟩ : ∃ wb, wb = wr.alloc (.cells #[.int .i64 s.x, .int .i64 s.need, .string s.y] 32) := ⟨_, rfl⟩
              rw [← hwb] at hbb hbox hzb
              have hbw := hb.trans (hbb.mono hb.size)
              obtain ⟨V, hVV⟩ : ∃ V, V = vals (polys m (d.take N)) (bx s.x) := ⟨_, rfl⟩
              have hvs := fun (W : World) (hW : Below w3.heap.size w3 W) => HV.out W hW s.x
              simp only [← hVV] at hvs
              have HR := Lib.hid (And.intro hbw (And.intro hbox (And.intro hzb (And.intro hsk (And.intro hdone (And.intro hVV hvs))))))
              clear hvs hVV hb hdone hbb hbox hzb hbw hsk hz
              go_upto_region 11 with fail
              rw [← hwb]
              clear hwb c0 c1 c2
              have C : wb.drew.heap[wr.heap.size]? = some (.cells #[.int .i64 s.x, .int .i64 s.need, .string s.y] 32 (0, 0)) := HR.out.2.1
              have hwd : Below wb.heap.size wb wb.drew := (Below.refl _ _).drew
              by_cases hve : V = s.y
              · have hne : (!(V.toList == s.y.toList)) = false := by rw [hve]; simp
                have HVE := Lib.hid hve
                clear hve
                refine wp_region_held (S := fun W => W.heap[wr.heap.size]? = some (.cells #[.int .i64 s.x, .int .i64 s.need, .string s.y] 32 (0, 0))) (by kernel_rfl) ?_
                change wpAnyH _ _ _ _ _ _ _ _ (World.drew _)
                generalize World.drew _ = wh at *
                refine wpAnyH_take (i := 0) (v := ?_) rfl (by kernel_rfl) (by kernel_rfl) (by kernel_rfl) (fun _ _ _ h => h) (Or.inl ⟨by kernel_rfl, ?_⟩) C ?_
                rotate_left
                · (intro W hS; clear hS; go_simp; try (with_reducible rfl))
                refine wpAnyH_take (i := 1) (v := ?_) rfl (by kernel_rfl) (by kernel_rfl) (by kernel_rfl) (fun _ _ _ h => h) (Or.inl ⟨by kernel_rfl, ?_⟩) C ?_
                rotate_left
                · (intro W hS; clear hS; go_simp; try (with_reducible rfl))
                refine wpAnyH_take (i := 2) (v := ?_) rfl (by kernel_rfl) (by kernel_rfl) (by kernel_rfl) (fun _ _ _ h => h) (Or.inl ⟨by kernel_rfl, ?_⟩) C ?_
                rotate_left
                · (intro W hS; obtain ⟨z0, z1, z2⟩ := share_cell hS; clear hS; go_simp; try (with_reducible rfl))
                refine wpAnyH_take (i := 4) (v := ?_) rfl (by kernel_rfl) (by kernel_rfl) (by kernel_rfl) (fun _ _ _ h => h) (Or.inl ⟨by kernel_rfl, ?_⟩) C ?_
                rotate_left
                · (intro W hS; clear hS; go_simp; try (with_reducible rfl))
                refine wpAnyH_take (i := 5) (v := ?_) rfl (by kernel_rfl) (by kernel_rfl) (by kernel_rfl) (fun _ _ _ h => h) (Or.inl ⟨by kernel_rfl, ?_⟩) C ?_
                rotate_left
                · (intro W hS; obtain ⟨z0, z1, z2⟩ := share_cell hS; clear hS; go_simp; try (with_reducible rfl))
                refine wpAnyH_ready (rs := [3]) (by kernel_rfl) (by simp) ?_
                refine AllReadyH.cons rfl (fun K hK => ?_) AllReadyH.nil
                go_simp
                refine (HR.out.2.2.2.2.2.2 wh (HR.out.1.trans (hwd.mono HR.out.1.size))).mono ?_
                rintro e w6 ⟨rfl, hb6⟩
                have hwd6 := hwd.trans (hb6.mono hwd.size)
                have C6 : w6.heap[wr.heap.size]? = some (.cells #[.int .i64 s.x, .int .i64 s.need, .string s.y] 32 (0, 0)) := (hwd6.block _ HR.out.2.2.1).trans HR.out.2.1
                refine hK.out _ _ C6 (fun _ => ?_)
                clear hK K
                refine wpAnyH_take (i := 6) (v := ?_) rfl (by kernel_rfl) (by kernel_rfl) (by kernel_rfl) (fun _ _ _ h => h) (Or.inl ⟨by kernel_rfl, ?_⟩) C6 ?_
                rotate_left
                · (intro W hS; clear hS; go_simp; try (with_reducible rfl))
                refine wpAnyH_done (by kernel_rfl) ?_ _
                go_simp
                have H6 := Lib.hid (And.intro (HR.out.1.trans (hwd6.mono HR.out.1.size)) trivial)
                clear hwd6 C6 hb6 hwd C
                go_wp2_with fail
                go_roundw
                case rel => exact ⟨k + 1, by omega, by go_num, H6.out.1, fun j hj t ht => by
                  by_cases e : j = k
                  · subst e; rw [HR.out.2.2.2.1] at ht; injection ht with ht; subst ht; rw [← HR.out.2.2.2.2.2.1]; exact HVE.out
                  · exact HR.out.2.2.2.2.1 j (by omega) t ht⟩
                case measure => simp [intOf]; omega
              · have hne : (!(V.toList == s.y.toList)) = true := by
                  simp only [Bool.not_eq_true', beq_eq_false_iff_ne]
                  intro e
                  exact hve (str_ext (by rw [← toList_data, ← toList_data]; exact e))
                have HVE := Lib.hid hve
                clear hve
                refine wp_region_held (S := fun W => W.heap[wr.heap.size]? = some (.cells #[.int .i64 s.x, .int .i64 s.need, .string s.y] 32 (0, 0))) (by kernel_rfl) ?_
                change wpAnyH _ _ _ _ _ _ _ _ (World.drew _)
                generalize World.drew _ = wh at *
                refine wpAnyH_take (i := 0) (v := ?_) rfl (by kernel_rfl) (by kernel_rfl) (by kernel_rfl) (fun _ _ _ h => h) (Or.inl ⟨by kernel_rfl, ?_⟩) C ?_
                rotate_left
                · (intro W hS; clear hS; go_simp; try (with_reducible rfl))
                refine wpAnyH_take (i := 1) (v := ?_) rfl (by kernel_rfl) (by kernel_rfl) (by kernel_rfl) (fun _ _ _ h => h) (Or.inl ⟨by kernel_rfl, ?_⟩) C ?_
                rotate_left
                · (intro W hS; clear hS; go_simp; try (with_reducible rfl))
                refine wpAnyH_take (i := 2) (v := ?_) rfl (by kernel_rfl) (by kernel_rfl) (by kernel_rfl) (fun _ _ _ h => h) (Or.inl ⟨by kernel_rfl, ?_⟩) C ?_
                rotate_left
                · (intro W hS; obtain ⟨z0, z1, z2⟩ := share_cell hS; clear hS; go_simp; try (with_reducible rfl))
                refine wpAnyH_take (i := 4) (v := ?_) rfl (by kernel_rfl) (by kernel_rfl) (by kernel_rfl) (fun _ _ _ h => h) (Or.inl ⟨by kernel_rfl, ?_⟩) C ?_
                rotate_left
                · (intro W hS; clear hS; go_simp; try (with_reducible rfl))
                refine wpAnyH_take (i := 5) (v := ?_) rfl (by kernel_rfl) (by kernel_rfl) (by kernel_rfl) (fun _ _ _ h => h) (Or.inl ⟨by kernel_rfl, ?_⟩) C ?_
                rotate_left
                · (intro W hS; obtain ⟨z0, z1, z2⟩ := share_cell hS; clear hS; go_simp; try (with_reducible rfl))
                refine wpAnyH_ready (rs := [3]) (by kernel_rfl) (by simp) ?_
                refine AllReadyH.cons rfl (fun K hK => ?_) AllReadyH.nil
                go_simp
                refine (HR.out.2.2.2.2.2.2 wh (HR.out.1.trans (hwd.mono HR.out.1.size))).mono ?_
                rintro e w6 ⟨rfl, hb6⟩
                have hwd6 := hwd.trans (hb6.mono hwd.size)
                have C6 : w6.heap[wr.heap.size]? = some (.cells #[.int .i64 s.x, .int .i64 s.need, .string s.y] 32 (0, 0)) := (hwd6.block _ HR.out.2.2.1).trans HR.out.2.1
                refine hK.out _ _ C6 (fun _ => ?_)
                clear hK K
                refine wpAnyH_take (i := 6) (v := ?_) rfl (by kernel_rfl) (by kernel_rfl) (by kernel_rfl) (fun _ _ _ h => h) (Or.inl ⟨by kernel_rfl, ?_⟩) C6 ?_
                rotate_left
                · (intro W hS; clear hS; go_simp; try (with_reducible rfl))
                refine wpAnyH_done (by kernel_rfl) ?_ _
                go_simp
                have H6 := Lib.hid (And.intro (HR.out.1.trans (hwd6.mono HR.out.1.size)) trivial)
                clear hwd6 C6 hb6 hwd C
                go_wp2_with fail
                go_ret2
                refine ⟨.inr (.inr ⟨H.out.2.1, H.out.2.2.2.2.2.2.2.1, by rw [H.out.2.2.2.2.2.2.2.2.1, ← H.out.2.2.2.1]; omega, d, HD.out.1, .inl ⟨?_, rfl⟩⟩), HG.out.2.2 _ H6.out.1⟩
                rw [← Bool.not_eq_true]
                intro e
                exact HVE.out (HR.out.2.2.2.2.2.1.trans (HG.out.1.1 e s (List.mem_of_getElem? HR.out.2.2.2.1)))
            · obtain rfl : k = n - N := by omega
              have HB4 := Lib.hid (And.intro hb hdone)
              clear hb hdone
              go_wp2_with fail
              go_ret2
              refine ⟨HG.out.2.1 _ HB4.out.1 (fun s hs => ?_), HG.out.2.2 _ HB4.out.1⟩
              obtain ⟨j, hj, rfl⟩ := List.mem_iff_getElem.1 hs
              exact HB4.out.2 j (by rw [List.length_drop] at hj; have := HD.out.2.2.2.1; omega) _ (List.getElem?_eq_getElem hj)
end Go.Proofs.YtefpfedpgedloaaGreatDoor
namespace Go.Proofs.YtefpfedpgedloaaGreatDoor
open Go.RowKit
open Gf

theorem outc_join {l d : List Shr} (hA : alk l = true) (h0 : l ≠ []) (hn : need0 l ≤ l.length) (p : d.Perm l) (x : UInt8) :
    outc l x = if fits (need0 l).toNat (len0 l) d = true then (vals (polys (len0 l) (d.take (need0 l).toNat)) x, 0) else (⟨#[]⟩, 12) := by
  rw [← outc_perm p hA x]
  have hd := (alk_iff.1 hA).perm p
  have hd0 : d ≠ [] := fun e => h0 (by subst e; exact List.perm_nil.1 p.symm)
  unfold outc
  rw [hd.alk, if_neg (show ¬ (true = false) by decide), hd.need0 hd0, hd.len0 hd0, if_neg (show ¬ (d = [] ∨ (d.length : Int) < need0 l) from fun k => k.elim hd0 (fun k => by rw [p.length_eq] at k; omega))]
theorem outc_bad {l : List Shr} (hA : alk l = false) (x : UInt8) : outc l x = (⟨#[]⟩, 1) := by unfold outc; rw [hA, if_pos rfl]
theorem outc_short {l : List Shr} (hA : alk l = true) (h : l = [] ∨ (l.length : Int) < need0 l) (x : UInt8) : outc l x = (⟨#[]⟩, 4) := by
  unfold outc; rw [hA, if_neg (show ¬ (true = false) by decide), if_pos h]
/-- What join says, in one of two ways: an error, or the polynomials. -/
theorem join_cases {l : List Shr} {own : Option Addr → Nat → List ByteArray → Prop} {e : Ending} (h : JoinE l own e) :
    (∃ c : Int, c ≠ 0 ∧ e = .returned (.tuple #[.slice none 0 0, .int .i64 c]) ∧ ∀ x, outc l x = (⟨#[]⟩, c)) ∨
    (∃ (a : Option Addr) (cp : Nat) (ps : List ByteArray), e = .returned (.tuple #[.slice a ps.length cp, .int .i64 0]) ∧ own a cp ps ∧ ps.length ≤ 64 ∧ (∀ p ∈ ps, p.size ≤ 255) ∧ (∀ x, outc l x = (vals ps x, 0)) ∧ l ≠ [] ∧ 1 ≤ need0 l ∧ need0 l ≤ 255 ∧ Alk (need0 l) (len0 l) l) := by
  rcases h with ⟨hA, rfl⟩ | ⟨hA, hs, rfl⟩ | ⟨hA, h0, hn, d, hp, ⟨hf, rfl⟩ | ⟨hf, a, cp, rfl, ho⟩⟩
  · exact .inl ⟨1, by decide, rfl, fun x => outc_bad hA x⟩
  · exact .inl ⟨4, by decide, rfl, fun x => outc_short hA hs x⟩
  · exact .inl ⟨12, by decide, rfl, fun x => by rw [outc_join hA h0 hn hp x, hf]; rfl⟩
  · have hl := alk_iff.1 hA
    have hd := hl.perm hp
    obtain ⟨s, hsm⟩ := List.exists_mem_of_ne_nil l h0
    have hok := okS_iff.1 (hl.ok s hsm)
    rw [hl.need s hsm, hl.size s hsm] at hok
    refine .inr ⟨a, cp, _, by rw [polys_length], ho, by rw [polys_length]; exact hok.2.2.2, polys_small hd (by rw [hp.length_eq]; omega) (by omega), fun x => by rw [outc_join hA h0 hn hp x, hf, if_pos rfl], h0, hok.2.1.1, hok.2.1.2, hl⟩
set_option maxRecDepth 100000 in
set_option maxHeartbeats 1000000 in
theorem combine_any {w : World} {a0 : Option Addr} {l : List Shr} (hT : SharesAt w a0 l) (hl : l.length ≤ 1000) (hs : ∀ s ∈ l, s.y.size ≤ maxLen) (cap : Nat) :
    Calls Tryz.prog 11 #[.slice a0 l.length cap] w fun e w' => e = .returned (.tuple #[.string (outc l 0).1, .int .i64 (outc l 0).2]) ∧ Below w.heap.size w w' := by
  have hj := join_any hT hl hs cap
  have hbx : bx 0 = 0 := rfl
  obtain ⟨R, hR⟩ : ∃ R, R = outc l 0 := ⟨_, rfl⟩
  rw [← hR]
  have H := Lib.hid (And.intro hj hR)
  clear hj hT hs hR
  go_enter Tryz.func11, Tryz.ntmps11
  go_wp2_with fail
  refine H.out.1.mono ?_
  rintro e w1 ⟨hJ, hb⟩
  rcases join_cases hJ with ⟨c, hc, rfl, ho⟩ | ⟨a, cp, ps, rfl, hx, hp1, hp2, ho, -, -, -, -⟩
  · have hcn : (c == 0) = false := by simpa using hc
    have hcn2 : (c != 0) = true := by simpa using hc
    have hRR : R = (⟨#[]⟩, c) := by rw [H.out.2]; exact ho 0
    have HB := Lib.hid (And.intro hb hRR)
    clear hb hRR ho hJ hc
    go_wp2_with fail
    go_ret2
    exact ⟨by rw [HB.out.2]; rfl, HB.out.1⟩
  · have hv := values_any hx.at (by omega) (fun p hp => Nat.le_trans (hp2 p hp) (by unfold maxLen; omega)) cp 0
    have hRR : R = (vals ps 0, 0) := by rw [H.out.2]; exact ho 0
    rw [hbx] at hv
    have HB := Lib.hid (And.intro hb (And.intro hRR hv))
    clear hb hRR hv ho hJ hx hp2
    go_wp2_with fail
    refine HB.out.2.2.mono ?_
    rintro e w2 ⟨rfl, hb2⟩
    have HB2 := Lib.hid hb2
    clear hb2
    go_wp2_with fail
    go_ret2
    exact ⟨by rw [HB.out.2.1]; rfl, HB.out.1.trans (HB2.out.mono HB.out.1.size)⟩
/-- What Recover says. -/
def rcv (l : List Shr) (x : Int) : Shr × Int :=
  if (outc l (bx x)).2 = 0 then (if 1 ≤ x ∧ x ≤ 255 then (⟨x, need0 l, (outc l (bx x)).1⟩, 0) else (zeroShr, 1)) else (zeroShr, (outc l (bx x)).2)
theorem zero_cells {W : World} {g : Nat} {t : TypeId} (h : W.heap[g]? = some (.cells #[.int .i64 0, .int .i64 0, .string ⟨#[]⟩] t (0, 0))) :
    W.cell? ⟨g, 0, none⟩ = some (.int .i64 0) ∧ W.cell? ⟨g, 1, none⟩ = some (.int .i64 0) ∧ W.cell? ⟨g, 2, none⟩ = some (.string ⟨#[]⟩) ∧ ∀ j, W.frozen? ⟨g, j, none⟩ = false := by
  refine ⟨?_, ?_, ?_, fun j => frozen_of_row _ _ _ _ _ h⟩ <;> (rw [cell_of_row _ _ _ _ _ _ h]; rfl)
theorem below_put3 {B : Nat} {w0 w : World} {g : Nat} (hb : Below B w0 w) (hg : B ≤ g) (a b c : Value) : Below B w0 (((w.setCell ⟨g, 0, none⟩ a).setCell ⟨g, 1, none⟩ b).setCell ⟨g, 2, none⟩ c) :=
  below_put (below_put (below_put hb hg 0 a) hg 1 b) hg 2 c
end Go.Proofs.YtefpfedpgedloaaGreatDoor
namespace Go.Proofs.YtefpfedpgedloaaGreatDoor
open Go.RowKit
open Gf

def exL : List Shr := splt ⟨#[65]⟩ ⟨#[1]⟩ 2 3
theorem ex_out : outc exL 0 = (⟨#[65]⟩, 0) := by
  have h1 : (outc exL 0).1 = ⟨#[65]⟩ := by decide +kernel
  have h2 : (outc exL 0).2 = 0 := by decide +kernel
  rw [← h1, ← h2]
theorem ex_y0 : exL[0]? = some ⟨1, 2, ⟨#[64]⟩⟩ := by
  have h : shY ⟨#[65]⟩ ⟨#[1]⟩ 1 (bx 1) = ⟨#[64]⟩ := by decide +kernel
  rw [← h]; rfl
theorem ex_y1 : exL[1]? = some ⟨2, 2, ⟨#[67]⟩⟩ := by
  have h : shY ⟨#[65]⟩ ⟨#[1]⟩ 1 (bx 2) = ⟨#[67]⟩ := by decide +kernel
  rw [← h]; rfl
theorem ex_y2 : exL[2]? = some ⟨3, 2, ⟨#[66]⟩⟩ := by
  have h : shY ⟨#[65]⟩ ⟨#[1]⟩ 1 (bx 3) = ⟨#[66]⟩ := by decide +kernel
  rw [← h]; rfl
set_option maxRecDepth 100000 in
set_option maxHeartbeats 1000000 in
theorem awake_any (w : World) : Calls Tryz.prog 6 #[] w fun e w' => e = .returned (.bool true) ∧ Below w.heap.size w w' := by
  have h1 := split_good ⟨#[65]⟩ ⟨#[1]⟩ 2 3 (by decide +kernel) w
  have H1 := Lib.hid h1
  clear h1
  go_enter Tryz.func6, Tryz.ntmps6
  go_wp2_with fail
  refine H1.out.mono ?_
  rintro e w1 ⟨a, cp, rfl, ho, hb⟩
  have hlen : (splt ⟨#[65]⟩ ⟨#[1]⟩ 2 3).length = 3 := splt_length _ _ _ _
  obtain ⟨g, rfl, hB, hg, hcp, -⟩ := Own.addr ho (by rw [hlen]; decide)
  have hc := combine_any ho.at (by rw [hlen]; decide) (fun s hs => by
    have := (splt_alk (s := ⟨#[65]⟩) (d := ⟨#[1]⟩) (need := 2) (n := 3) (by decide +kernel)).size s hs
    rw [this]; decide) cp
  rw [show outc (splt ⟨#[65]⟩ ⟨#[1]⟩ 2 3) 0 = (⟨#[65]⟩, 0) from ex_out, hlen] at hc
  have HC := Lib.hid (And.intro hc (And.intro hb (And.intro ho hg)))
  clear hc hb ho hg hlen hB hcp
  go_wp2_with fail
  refine HC.out.1.mono ?_
  rintro e w2 ⟨rfl, hb2⟩
  have ho2 := HC.out.2.2.1.below hb2
  obtain ⟨-, -, y0, -⟩ := ho2.cells ex_y0
  obtain ⟨-, -, y1, -⟩ := ho2.cells ex_y1
  obtain ⟨-, -, y2, -⟩ := ho2.cells ex_y2
  simp only [Nat.zero_mul, Nat.one_mul, Nat.zero_add] at y0 y1 y2
  have HB := Lib.hid (HC.out.2.1.trans (hb2.mono HC.out.2.1.size))
  clear ho2 hb2
  go_wp2_with fail
  go_ret
  exact ⟨rfl, HB.out⟩
set_option maxRecDepth 100000 in
set_option maxHeartbeats 1000000 in
theorem few_any {w : World} {a0 : Option Addr} {l : List Shr} (hT : SharesAt w a0 l) (hl : l.length ≤ maxLen) (cap : Nat) :
    Calls Tryz.prog 5 #[.slice a0 l.length cap] w fun e w' => ∃ t, e = .returned (.bool t) ∧ (t = true → l.length ≤ 12 ∧ ∀ s ∈ l, s.y.size ≤ 70) ∧ Below w.heap.size w w' := by
  unfold maxLen at hl
  by_cases h12 : l.length ≤ 12
  · obtain ⟨n, hN⟩ : ∃ n, n = l.length := ⟨_, rfl⟩
    have H := Lib.hid (And.intro hT hN)
    rw [← hN] at h12 ⊢
    have h12i : (n : Int) ≤ 12 := by omega
    clear hT hN hl
    go_enter Tryz.func5, Tryz.ntmps5
    go_wp2_with fail
    go_loopw [3] (fun i wr => ∃ k : Nat, k ≤ n ∧ i = .int .i64 (k : Int) ∧ Below w.heap.size w wr ∧ ∀ j s, j < k → l[j]? = some s → s.y.size ≤ 70) (fun i _ => n - (intOf i).toNat)
    case atStart => exact ⟨0, by omega, rfl, Below.refl _ _, fun j s hj => absurd hj (by omega)⟩
    case round =>
      obtain ⟨k, hk, rfl, hb, hd⟩ := hrel
      by_cases hlt : k < n
      · obtain ⟨s, hs⟩ : ∃ s, l[k]? = some s := ⟨_, List.getElem?_eq_getElem (by have := H.out.2; omega)⟩
        obtain ⟨tb, off, rfl, htb, c0, c1, c2⟩ := (H.out.1.below hb) k s hs
        have HB := Lib.hid (And.intro hb (And.intro hd hs))
        clear hb hd hs
        by_cases h70 : (70 : Int) < s.y.size
        · go_wp2_with fail
          go_ret
          exact ⟨_, rfl, fun e => by simp at e, HB.out.1⟩
        · go_wp2_with fail
          go_roundw
          case rel => exact ⟨k + 1, by omega, by go_num, HB.out.1, fun j t hj ht => by
            by_cases e : j = k
            · subst e; rw [HB.out.2.2] at ht; injection ht with ht; subst ht; omega
            · exact HB.out.2.1 j t (by omega) ht⟩
          case measure => simp [intOf]; omega
      · obtain rfl : k = n := by omega
        have HB := Lib.hid (And.intro hb hd)
        clear hb hd
        go_wp2_with fail
        go_ret
        refine ⟨_, rfl, fun _ => ⟨h12, fun s hs => ?_⟩, HB.out.1⟩
        obtain ⟨j, hj, rfl⟩ := List.mem_iff_getElem.1 hs
        exact HB.out.2 j _ (by have := H.out.2; omega) (List.getElem?_eq_getElem hj)
  · have h12i : (12 : Int) < l.length := by omega
    go_enter Tryz.func5, Tryz.ntmps5
    go_wp2_with fail
    go_ret
    exact ⟨_, rfl, fun e => by simp at e, Below.refl _ _⟩
end Go.Proofs.YtefpfedpgedloaaGreatDoor
