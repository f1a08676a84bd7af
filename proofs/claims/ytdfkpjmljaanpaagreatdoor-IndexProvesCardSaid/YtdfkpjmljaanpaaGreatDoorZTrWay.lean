/- TrWay, what is wanted of it. -/
import Derived.Test.YtdfkpjmljaanpaaGreatDoorZMT2
import Derived.Test.YtdfkpjmljaanpaaGreatDoorZMX3
namespace Go.Proofs.YtdfkpjmljaanpaaGreatDoor
open Go.RowKit
open Tr
theorem Tr.way_length : ∀ (n : Nat) (l : List ByteArray) (i : Nat), l.length = n → (way l i).length ≤ n := by
  intro n
  induction n using Nat.strongRecOn with
  | ind n ih =>
    intro l i hn
    by_cases h : 2 ≤ l.length
    · have p1 := hf_pos l.length
      have p2 := hf_lt h
      rw [way_two h]
      split
      · have := ih (hf l.length) (by omega) (l.take (hf l.length)) i (by rw [List.length_take]; omega)
        simp; omega
      · have := ih (l.length - hf l.length) (by omega) (l.drop (hf l.length)) (i - hf l.length) (by rw [List.length_drop])
        simp; omega
    · rw [way_one (by omega)]; exact Nat.zero_le _
set_option maxRecDepth 100000 in
set_option maxHeartbeats 1000000 in
theorem way_any : ∀ (N : Nat) (ss : List ByteArray), ss.length = N → N ≤ 1000000 → Digs ss → ∀ (i : Nat), i < N → ∀ (a0 : Option Addr) (cap : Nat) (w : World), Glob w → TextsAt w a0 ss → ss.length ≤ cap → cap ≤ maxLen →
    Calls Tryz.prog 133 #[.slice a0 ss.length cap, .int .i64 i] w fun e w' => ∃ a c, e = .returned (.slice a (way ss i).length c) ∧ OwnT w.heap.size w' a c (way ss i) ∧ Below w.heap.size w w' := by
  intro N
  induction N using Nat.strongRecOn with
  | ind N ih =>
    intro ss hN hN1 hD i hi a0 cap w hG hT hcap hmax
    unfold maxLen at hmax
    rcases len_cases ss with rfl | ⟨x, rfl⟩ | h2
    · simp at hN; omega
    · simp only [List.length_singleton]
      rw [way_one (by simp)]
      clear hT hD ih hN hcap
      go_enter Tryz.func133, Tryz.ntmps133
      go_wp2_with fail
      go_ret
      exact ⟨none, 0, rfl, OwnT.nil _ _, Below.refl _ _⟩
    · obtain ⟨b, off, rfl, hbl, -⟩ := hT 0 (by omega)
      obtain ⟨k, hk⟩ : ∃ k, k = hf ss.length := ⟨_, rfl⟩
      have k1 := hf_pos ss.length
      have k2 := hf_lt h2
      obtain ⟨n, hn⟩ : ∃ n, n = ss.length := ⟨_, rfl⟩
      have hh := fun W => half_any n (by omega) (by omega) W
      rw [show hf n = k by rw [hk, hn]] at hh
      rw [← hk] at k1 k2
      obtain ⟨p, hp⟩ : ∃ p, p = ss.take k := ⟨_, rfl⟩
      obtain ⟨q, hq⟩ : ∃ q, q = ss.drop k := ⟨_, rfl⟩
      have hpl : p.length = k := by rw [hp, List.length_take]; omega
      have hql : q.length = n - k := by rw [hq, List.length_drop]; omega
      have hDp : Digs p := by rw [hp]; exact hD.take k
      have hDq : Digs q := by rw [hq]; exact hD.drop k
      have tp := fun W (hTW : TextsAt W (some ⟨b, off, none⟩) ss) => (show TextsAt W (some ⟨b, off, none⟩) p by rw [hp]; exact hTW.take k)
      have tq := fun W (hTW : TextsAt W (some ⟨b, off, none⟩) ss) => (show TextsAt W (some ⟨b, off + k, none⟩) q by rw [hq]; exact hTW.drop k)
      by_cases hc : i < k
      · have hwy : way ss i = way p i ++ [root q] := by rw [way_two h2, ← hk, if_pos hc, ← hp, ← hq]
        have c1 := fun W (hGW : Glob W) (hTW : TextsAt W (some ⟨b, off, none⟩) ss) => ih k (by omega) p hpl (by omega) hDp i hc (some ⟨b, off, none⟩) cap W hGW (tp W hTW) (by omega) (by unfold maxLen; omega)
        have c2 := fun W (hGW : Glob W) (hTW : TextsAt W (some ⟨b, off, none⟩) ss) => root_any (n - k) q hql (by omega) hDq (some ⟨b, off + k, none⟩) (cap - k) W hGW (tq W hTW) (by omega) (by unfold maxLen; omega)
        rw [hpl] at c1
        rw [hql] at c2
        have hwl := Tr.way_length _ p i rfl
        obtain ⟨R2, hR2⟩ : ∃ R, R = root q := ⟨_, rfl⟩
        obtain ⟨Y, hY⟩ : ∃ Y, Y = way p i := ⟨_, rfl⟩
        rw [← hR2] at c2 hwy
        rw [← hY] at c1 hwy hwl
        obtain ⟨m, hm⟩ : ∃ m, m = n - k := ⟨_, rfl⟩
        obtain ⟨cq, hcq⟩ : ∃ c, c = cap - k := ⟨_, rfl⟩
        rw [← hm, ← hcq] at c2
        have f12 : (i : Int) < (k : Int) := by omega
        obtain ⟨y, hy⟩ : ∃ y, y = Y.length := ⟨_, rfl⟩
        have hy1 : y ≤ 1000000 := by omega
        rw [← hy] at c1
        rw [hwy, List.length_append, List.length_singleton, ← hy, ← hn]
        have f1 : (k : Int) ≤ (n : Int) := by omega
        have f2 : (n : Int) - (k : Int) = (m : Int) := by omega
        have f3 : (cap : Int) - (k : Int) = (cq : Int) := by omega
        have f4 : n - k = m := hm.symm
        have f5 : cap - k = cq := hcq.symm
        have f6 : ¬ (cap = k) := by omega
        have f7 : n ≤ cap := by omega
        have f8 : k ≤ n := by omega
        have f9 : k ≤ cap := by omega
        have f10 : 2 ≤ n := by omega
        have e0 : ((n : Int) == 0) = false := by simp; omega
        have e1 : ((n : Int) == 1) = false := by simp; omega
        have H := Lib.hid (And.intro hh (And.intro c1 (And.intro c2 (And.intro hT (And.intro hy hwl)))))
        clear hh c1 c2 hT ih hN hD hp hq hpl hql hR2 hY hwy hwl h2 hcap hk hn hm hcq k1 k2 hDp hDq tp tq hy
        go_enter Tryz.func133, Tryz.ntmps133
        go_wp2_with fail
        refine (H.out.1 _).mono ?_
        rintro e w1 ⟨rfl, rfl⟩
        have E0 := trivial
        have F0 := (Below.refl w1.heap.size w1).drew
        go_wp2_with fail
        refine wp_region_held (S := fun W => True) (by kernel_rfl) ?_
        change wpAnyH _ _ _ _ _ _ _ _ (World.drew _)
        generalize World.drew _ = v0 at *
        refine wpAnyH_take (i := 0) (v := ?_) rfl (by kernel_rfl) (by kernel_rfl) (by kernel_rfl) (fun _ _ _ h => h) (Or.inl ⟨by kernel_rfl, ?_⟩) E0 ?_
        rotate_left
        · (intro W hS; clear hS; go_simp; try (with_reducible rfl))
        refine wpAnyH_take (i := 1) (v := ?_) rfl (by kernel_rfl) (by kernel_rfl) (by kernel_rfl) (fun _ _ _ h => h) (Or.inl ⟨by kernel_rfl, ?_⟩) E0 ?_
        rotate_left
        · (intro W hS; clear hS; go_simp; try (with_reducible rfl))
        refine wpAnyH_take (i := 2) (v := ?_) rfl (by kernel_rfl) (by kernel_rfl) (by kernel_rfl) (fun _ _ _ h => h) (Or.inl ⟨by kernel_rfl, ?_⟩) E0 ?_
        rotate_left
        · (intro W hS; clear hS; go_simp; try (with_reducible rfl))
        refine wpAnyH_take (i := 3) (v := ?_) rfl (by kernel_rfl) (by kernel_rfl) (by kernel_rfl) (fun _ _ _ h => h) (Or.inl ⟨by kernel_rfl, ?_⟩) E0 ?_
        rotate_left
        · (intro W hS; clear hS; go_simp; try (with_reducible rfl))
        refine wpAnyH_take (i := 5) (v := ?_) rfl (by kernel_rfl) (by kernel_rfl) (by kernel_rfl) (fun _ _ _ h => h) (Or.inl ⟨by kernel_rfl, ?_⟩) E0 ?_
        rotate_left
        · (intro W hS; clear hS; go_simp; try (with_reducible rfl))
        refine wpAnyH_take (i := 6) (v := ?_) rfl (by kernel_rfl) (by kernel_rfl) (by kernel_rfl) (fun _ _ _ h => h) (Or.inl ⟨by kernel_rfl, ?_⟩) E0 ?_
        rotate_left
        · (intro W hS; clear hS; go_simp; try (with_reducible rfl))
        refine wpAnyH_take (i := 7) (v := ?_) rfl (by kernel_rfl) (by kernel_rfl) (by kernel_rfl) (fun _ _ _ h => h) (Or.inl ⟨by kernel_rfl, ?_⟩) E0 ?_
        rotate_left
        · (intro W hS; clear hS; go_simp; try (with_reducible rfl))
        refine wpAnyH_ready (rs := [4]) (by kernel_rfl) (by simp) ?_
        refine AllReadyH.cons rfl (fun K hK => ?_) AllReadyH.nil
        go_simp
        refine (H.out.2.1 v0 (hG.below F0) (H.out.2.2.2.1.below F0)).mono ?_
        rintro e v1 ⟨a1, c1, rfl, hO, hb⟩
        have hOO := OwnT.mono hO F0.size
        clear hO
        have F1 := F0.trans (hb.mono F0.size)
        have E1 : True := trivial
        refine hK.out _ _ E1 (fun _ => ?_)
        clear hK K hb
        refine wpAnyH_ready (rs := [8]) (by kernel_rfl) (by simp) ?_
        refine AllReadyH.cons rfl (fun K hK => ?_) AllReadyH.nil
        go_simp
        refine (H.out.2.2.1 v1 (hG.below F1) (H.out.2.2.2.1.below F1)).mono ?_
        rintro e v2 ⟨rfl, hb⟩
        have hO2 := OwnT.call hOO hb
        clear hOO
        have F2 := F1.trans (hb.mono F1.size)
        have E2 : True := trivial
        refine hK.out _ _ E2 (fun _ => ?_)
        clear hK K hb
        refine wpAnyH_ready (rs := [9]) (by kernel_rfl) (by simp) ?_
        refine AllReadyH.cons rfl (fun K hK => ?_) AllReadyH.nil
        go_simp
        have hn3 := texts_one v2 R2
        obtain ⟨v3, hv⟩ : ∃ v, v = v2.alloc (.cells #[.string R2] 9) := ⟨_, rfl⟩
        have hb : Below v2.heap.size v2 v3 := by rw [hv]; exact (Below.refl _ _).alloc (Nat.le_refl _) _
        rw [← hv] at hn3 ⊢
        clear hv
        have F3 := F2.trans (hb.mono F2.size)
        have E3 : True := trivial
        have hO3 := OwnT.call hO2 hb
        refine hK.out _ _ trivial (fun _ => ?_)
        clear hK K hb hO2
        refine wpAnyH_ready (rs := [10]) (by kernel_rfl) (by simp) ?_
        refine AllReadyH.cons rfl (fun K hK => ?_) AllReadyH.nil
        refine step_append_texts rfl (.tmp 19) (.tmp 24) rfl (hO3) _ (H.out.2.2.2.2.1.symm) rfl _ _ 1 ([R2]) rfl rfl (hn3) (by omega) F3.size F3 ?_
        intro ad4 cp4 v4 ho4 F4
        try go_simp
        refine hK.out _ _ trivial (fun _ => ?_)
        clear hK K hO3 hn3
        have E4 : True := trivial
        refine wpAnyH_take (i := 11) (v := ?_) rfl (by kernel_rfl) (by kernel_rfl) (by kernel_rfl) (fun _ _ _ h => h) (Or.inl ⟨by kernel_rfl, ?_⟩) E4 ?_
        rotate_left
        · (intro W hS; clear hS; go_simp; try (with_reducible rfl))
        refine wpAnyH_done (by kernel_rfl) ?_ _
        go_simp
        have HF := Lib.hid (And.intro F4 ho4)
        clear E0 F0 E1 F1 E2 F2 E3 F3 E4 F4 ho4
        go_wp2_with fail
        go_ret
        refine ⟨_, _, rfl, HF.out.2, HF.out.1⟩
      · have hwy : way ss i = way q (i - k) ++ [root p] := by rw [way_two h2, ← hk, if_neg hc, ← hp, ← hq]
        have c1 := fun W (hGW : Glob W) (hTW : TextsAt W (some ⟨b, off, none⟩) ss) => ih (n - k) (by omega) q hql (by omega) hDq (i - k) (by omega) (some ⟨b, off + k, none⟩) (cap - k) W hGW (tq W hTW) (by omega) (by unfold maxLen; omega)
        have c2 := fun W (hGW : Glob W) (hTW : TextsAt W (some ⟨b, off, none⟩) ss) => root_any k p hpl (by omega) hDp (some ⟨b, off, none⟩) cap W hGW (tp W hTW) (by omega) (by unfold maxLen; omega)
        rw [hql] at c1
        rw [hpl] at c2
        have hwl := Tr.way_length _ q (i - k) rfl
        obtain ⟨R2, hR2⟩ : ∃ R, R = root p := ⟨_, rfl⟩
        obtain ⟨Y, hY⟩ : ∃ Y, Y = way q (i - k) := ⟨_, rfl⟩
        rw [← hR2] at c2 hwy
        rw [← hY] at c1 hwy hwl
        obtain ⟨m, hm⟩ : ∃ m, m = n - k := ⟨_, rfl⟩
        obtain ⟨cq, hcq⟩ : ∃ c, c = cap - k := ⟨_, rfl⟩
        obtain ⟨ik, hik⟩ : ∃ x, x = i - k := ⟨_, rfl⟩
        rw [← hm, ← hcq, ← hik] at c1
        have f11 : (i : Int) - (k : Int) = (ik : Int) := by omega
        have f12 : ¬ ((i : Int) < (k : Int)) := by omega
        have f13 : IntKind.i64.wrap ((i : Int) - (k : Int)) = (ik : Int) := by rw [f11]; exact IntWalk.i64_in _ (by omega)
        obtain ⟨y, hy⟩ : ∃ y, y = Y.length := ⟨_, rfl⟩
        have hy1 : y ≤ 1000000 := by omega
        rw [← hy] at c1
        rw [hwy, List.length_append, List.length_singleton, ← hy, ← hn]
        have f1 : (k : Int) ≤ (n : Int) := by omega
        have f2 : (n : Int) - (k : Int) = (m : Int) := by omega
        have f3 : (cap : Int) - (k : Int) = (cq : Int) := by omega
        have f4 : n - k = m := hm.symm
        have f5 : cap - k = cq := hcq.symm
        have f6 : ¬ (cap = k) := by omega
        have f7 : n ≤ cap := by omega
        have f8 : k ≤ n := by omega
        have f9 : k ≤ cap := by omega
        have f10 : 2 ≤ n := by omega
        have e0 : ((n : Int) == 0) = false := by simp; omega
        have e1 : ((n : Int) == 1) = false := by simp; omega
        clear f11
        have H := Lib.hid (And.intro hh (And.intro c1 (And.intro c2 (And.intro hT (And.intro hy hwl)))))
        clear hh c1 c2 hT ih hN hD hp hq hpl hql hR2 hY hwy hwl h2 hcap hk hn hm hcq k1 k2 hDp hDq tp tq hy hik
        go_enter Tryz.func133, Tryz.ntmps133
        go_wp2_with fail
        refine (H.out.1 _).mono ?_
        rintro e w1 ⟨rfl, rfl⟩
        have E0 := trivial
        have F0 := (Below.refl w1.heap.size w1).drew
        go_wp2_with fail
        refine wp_region_held (S := fun W => True) (by kernel_rfl) ?_
        change wpAnyH _ _ _ _ _ _ _ _ (World.drew _)
        generalize World.drew _ = v0 at *
        refine wpAnyH_take (i := 0) (v := ?_) rfl (by kernel_rfl) (by kernel_rfl) (by kernel_rfl) (fun _ _ _ h => h) (Or.inl ⟨by kernel_rfl, ?_⟩) E0 ?_
        rotate_left
        · (intro W hS; clear hS; go_simp; try (with_reducible rfl))
        refine wpAnyH_take (i := 1) (v := ?_) rfl (by kernel_rfl) (by kernel_rfl) (by kernel_rfl) (fun _ _ _ h => h) (Or.inl ⟨by kernel_rfl, ?_⟩) E0 ?_
        rotate_left
        · (intro W hS; clear hS; go_simp; try (with_reducible rfl))
        refine wpAnyH_take (i := 2) (v := ?_) rfl (by kernel_rfl) (by kernel_rfl) (by kernel_rfl) (fun _ _ _ h => h) (Or.inl ⟨by kernel_rfl, ?_⟩) E0 ?_
        rotate_left
        · (intro W hS; clear hS; go_simp; try (with_reducible rfl))
        refine wpAnyH_take (i := 3) (v := ?_) rfl (by kernel_rfl) (by kernel_rfl) (by kernel_rfl) (fun _ _ _ h => h) (Or.inl ⟨by kernel_rfl, ?_⟩) E0 ?_
        rotate_left
        · (intro W hS; clear hS; go_simp; try (with_reducible rfl))
        refine wpAnyH_take (i := 4) (v := ?_) rfl (by kernel_rfl) (by kernel_rfl) (by kernel_rfl) (fun _ _ _ h => h) (Or.inl ⟨by kernel_rfl, ?_⟩) E0 ?_
        rotate_left
        · (intro W hS; clear hS; go_simp; try (with_reducible rfl))
        refine wpAnyH_take (i := 5) (v := ?_) rfl (by kernel_rfl) (by kernel_rfl) (by kernel_rfl) (fun _ _ _ h => h) (Or.inl ⟨by kernel_rfl, ?_⟩) E0 ?_
        rotate_left
        · (intro W hS; clear hS; go_simp; try (with_reducible rfl))
        refine wpAnyH_take (i := 7) (v := ?_) rfl (by kernel_rfl) (by kernel_rfl) (by kernel_rfl) (fun _ _ _ h => h) (Or.inl ⟨by kernel_rfl, ?_⟩) E0 ?_
        rotate_left
        · (intro W hS; clear hS; go_simp; try (with_reducible rfl))
        refine wpAnyH_take (i := 8) (v := ?_) rfl (by kernel_rfl) (by kernel_rfl) (by kernel_rfl) (fun _ _ _ h => h) (Or.inl ⟨by kernel_rfl, ?_⟩) E0 ?_
        rotate_left
        · (intro W hS; clear hS; go_simp; try (with_reducible rfl))
        refine wpAnyH_take (i := 9) (v := ?_) rfl (by kernel_rfl) (by kernel_rfl) (by kernel_rfl) (fun _ _ _ h => h) (Or.inl ⟨by kernel_rfl, ?_⟩) E0 ?_
        rotate_left
        · (intro W hS; clear hS; go_simp; try (with_reducible rfl))
        refine wpAnyH_ready (rs := [6]) (by kernel_rfl) (by simp) ?_
        refine AllReadyH.cons rfl (fun K hK => ?_) AllReadyH.nil
        go_simp
        refine (H.out.2.1 v0 (hG.below F0) (H.out.2.2.2.1.below F0)).mono ?_
        rintro e v1 ⟨a1, c1, rfl, hO, hb⟩
        have hOO := OwnT.mono hO F0.size
        clear hO
        have F1 := F0.trans (hb.mono F0.size)
        have E1 : True := trivial
        refine hK.out _ _ E1 (fun _ => ?_)
        clear hK K hb
        refine wpAnyH_ready (rs := [10]) (by kernel_rfl) (by simp) ?_
        refine AllReadyH.cons rfl (fun K hK => ?_) AllReadyH.nil
        go_simp
        refine (H.out.2.2.1 v1 (hG.below F1) (H.out.2.2.2.1.below F1)).mono ?_
        rintro e v2 ⟨rfl, hb⟩
        have hO2 := OwnT.call hOO hb
        clear hOO
        have F2 := F1.trans (hb.mono F1.size)
        have E2 : True := trivial
        refine hK.out _ _ E2 (fun _ => ?_)
        clear hK K hb
        refine wpAnyH_ready (rs := [11]) (by kernel_rfl) (by simp) ?_
        refine AllReadyH.cons rfl (fun K hK => ?_) AllReadyH.nil
        go_simp
        have hn3 := texts_one v2 R2
        obtain ⟨v3, hv⟩ : ∃ v, v = v2.alloc (.cells #[.string R2] 9) := ⟨_, rfl⟩
        have hb : Below v2.heap.size v2 v3 := by rw [hv]; exact (Below.refl _ _).alloc (Nat.le_refl _) _
        rw [← hv] at hn3 ⊢
        clear hv
        have F3 := F2.trans (hb.mono F2.size)
        have E3 : True := trivial
        have hO3 := OwnT.call hO2 hb
        refine hK.out _ _ trivial (fun _ => ?_)
        clear hK K hb hO2
        refine wpAnyH_ready (rs := [12]) (by kernel_rfl) (by simp) ?_
        refine AllReadyH.cons rfl (fun K hK => ?_) AllReadyH.nil
        refine step_append_texts rfl (.tmp 32) (.tmp 37) rfl (hO3) _ (H.out.2.2.2.2.1.symm) rfl _ _ 1 ([R2]) rfl rfl (hn3) (by omega) F3.size F3 ?_
        intro ad4 cp4 v4 ho4 F4
        try go_simp
        refine hK.out _ _ trivial (fun _ => ?_)
        clear hK K hO3 hn3
        have E4 : True := trivial
        refine wpAnyH_take (i := 13) (v := ?_) rfl (by kernel_rfl) (by kernel_rfl) (by kernel_rfl) (fun _ _ _ h => h) (Or.inl ⟨by kernel_rfl, ?_⟩) E4 ?_
        rotate_left
        · (intro W hS; clear hS; go_simp; try (with_reducible rfl))
        refine wpAnyH_done (by kernel_rfl) ?_ _
        go_simp
        have HF := Lib.hid (And.intro F4 ho4)
        clear E0 F0 E1 F1 E2 F2 E3 F3 E4 F4 ho4
        go_wp2_with fail
        go_ret
        refine ⟨_, _, rfl, HF.out.2, HF.out.1⟩
end Go.Proofs.YtdfkpjmljaanpaaGreatDoor
