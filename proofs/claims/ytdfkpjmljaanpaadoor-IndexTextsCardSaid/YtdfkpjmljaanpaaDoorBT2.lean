/- Merged by program: tree.way, Way; the reference's Way. | tree.Way; the reference's Way. | Index.Prove: a proof of a tag. | index.ProofTexts. | What index.ProofTexts makes is what the document asks, where every row leads. | The texts of an index's root and of a proof are short, and few. -/
import Derived.Test.YtdfkpjmljaanpaaDoorMT2
import Derived.Test.YtdfkpjmljaanpaaDoorMX3
import Derived.Test.YtdfkpjmljaanpaaDoorMX9
import Derived.Test.YtdfkpjmljaanpaaDoorMX5
import Derived.Test.YtdfkpjmljaanpaaDoorBT1
import Derived.Test.YtdfkpjmljaanpaaDoorMX1
namespace Go.Proofs.YtdfkpjmljaanpaaDoor
open Go.RowKit
open Tr
theorem Tr.way_length : ∀ (n : Nat) (l : List ByteArray) (i : Nat), l.length = n → (way l i).length ≤ n := by
  intro n
  induction n using Nat.strongRecOn with
  | ind n ih =>
    intro l i hn
    by_cases h : 2 ≤ l.length
    · have p1 := hf_pos l.length
      have p2 := hf_lt h
      rw [way_two h]
      split
      · have := ih (hf l.length) (by omega) (l.take (hf l.length)) i (by rw [List.length_take]; omega)
        simp; omega
      · have := ih (l.length - hf l.length) (by omega) (l.drop (hf l.length)) (i - hf l.length) (by rw [List.length_drop])
        simp; omega
    · rw [way_one (by omega)]; exact Nat.zero_le _
set_option maxRecDepth 100000 in
set_option maxHeartbeats 1000000 in
theorem way_any : ∀ (N : Nat) (ss : List ByteArray), ss.length = N → N ≤ 1000000 → Digs ss → ∀ (i : Nat), i < N → ∀ (a0 : Option Addr) (cap : Nat) (w : World), Glob w → TextsAt w a0 ss → ss.length ≤ cap → cap ≤ maxLen →
    Calls Tryd.prog 77 #[.slice a0 ss.length cap, .int .i64 i] w fun e w' => ∃ a c, e = .returned (.slice a (way ss i).length c) ∧ OwnT w.heap.size w' a c (way ss i) ∧ Below w.heap.size w w' := by
  intro N
  induction N using Nat.strongRecOn with
  | ind N ih =>
    intro ss hN hN1 hD i hi a0 cap w hG hT hcap hmax
    unfold maxLen at hmax
    rcases len_cases ss with rfl | ⟨x, rfl⟩ | h2
    · simp at hN; omega
    · simp only [List.length_singleton]
      rw [way_one (by simp)]
      clear hT hD ih hN hcap
      go_enter Tryd.func77, Tryd.ntmps77
      go_wp2_with fail
      go_ret
      exact ⟨none, 0, rfl, OwnT.nil _ _, Below.refl _ _⟩
    · obtain ⟨b, off, rfl, hbl, -⟩ := hT 0 (by omega)
      obtain ⟨k, hk⟩ : ∃ k, k = hf ss.length := ⟨_, rfl⟩
      have k1 := hf_pos ss.length
      have k2 := hf_lt h2
      obtain ⟨n, hn⟩ : ∃ n, n = ss.length := ⟨_, rfl⟩
      have hh := fun W => half_any n (by omega) (by omega) W
      rw [show hf n = k by rw [hk, hn]] at hh
      rw [← hk] at k1 k2
      obtain ⟨p, hp⟩ : ∃ p, p = ss.take k := ⟨_, rfl⟩
      obtain ⟨q, hq⟩ : ∃ q, q = ss.drop k := ⟨_, rfl⟩
      have hpl : p.length = k := by rw [hp, List.length_take]; omega
      have hql : q.length = n - k := by rw [hq, List.length_drop]; omega
      have hDp : Digs p := by rw [hp]; exact hD.take k
      have hDq : Digs q := by rw [hq]; exact hD.drop k
      have tp := fun W (hTW : TextsAt W (some ⟨b, off, none⟩) ss) => (show TextsAt W (some ⟨b, off, none⟩) p by rw [hp]; exact hTW.take k)
      have tq := fun W (hTW : TextsAt W (some ⟨b, off, none⟩) ss) => (show TextsAt W (some ⟨b, off + k, none⟩) q by rw [hq]; exact hTW.drop k)
      by_cases hc : i < k
      · have hwy : way ss i = way p i ++ [root q] := by rw [way_two h2, ← hk, if_pos hc, ← hp, ← hq]
        have c1 := fun W (hGW : Glob W) (hTW : TextsAt W (some ⟨b, off, none⟩) ss) => ih k (by omega) p hpl (by omega) hDp i hc (some ⟨b, off, none⟩) cap W hGW (tp W hTW) (by omega) (by unfold maxLen; omega)
        have c2 := fun W (hGW : Glob W) (hTW : TextsAt W (some ⟨b, off, none⟩) ss) => root_any (n - k) q hql (by omega) hDq (some ⟨b, off + k, none⟩) (cap - k) W hGW (tq W hTW) (by omega) (by unfold maxLen; omega)
        rw [hpl] at c1
        rw [hql] at c2
        have hwl := Tr.way_length _ p i rfl
        obtain ⟨R2, hR2⟩ : ∃ R, R = root q := ⟨_, rfl⟩
        obtain ⟨Y, hY⟩ : ∃ Y, Y = way p i := ⟨_, rfl⟩
        rw [← hR2] at c2 hwy
        rw [← hY] at c1 hwy hwl
        obtain ⟨m, hm⟩ : ∃ m, m = n - k := ⟨_, rfl⟩
        obtain ⟨cq, hcq⟩ : ∃ c, c = cap - k := ⟨_, rfl⟩
        rw [← hm, ← hcq] at c2
        have f12 : (i : Int) < (k : Int) := by omega
        obtain ⟨y, hy⟩ : ∃ y, y = Y.length := ⟨_, rfl⟩
        have hy1 : y ≤ 1000000 := by omega
        rw [← hy] at c1
        rw [hwy, List.length_append, List.length_singleton, ← hy, ← hn]
        have f1 : (k : Int) ≤ (n : Int) := by omega
        have f2 : (n : Int) - (k : Int) = (m : Int) := by omega
        have f3 : (cap : Int) - (k : Int) = (cq : Int) := by omega
        have f4 : n - k = m := hm.symm
        have f5 : cap - k = cq := hcq.symm
        have f6 : ¬ (cap = k) := by omega
        have f7 : n ≤ cap := by omega
        have f8 : k ≤ n := by omega
        have f9 : k ≤ cap := by omega
        have f10 : 2 ≤ n := by omega
        have e0 : ((n : Int) == 0) = false := by simp; omega
        have e1 : ((n : Int) == 1) = false := by simp; omega
        have H := Lib.hid (And.intro hh (And.intro c1 (And.intro c2 (And.intro hT (And.intro hy hwl)))))
        clear hh c1 c2 hT ih hN hD hp hq hpl hql hR2 hY hwy hwl h2 hcap hk hn hm hcq k1 k2 hDp hDq tp tq hy
        go_enter Tryd.func77, Tryd.ntmps77
        go_wp2_with fail
        refine (H.out.1 _).mono ?_
        rintro e w1 ⟨rfl, rfl⟩
        have E0 := trivial
        have F0 := (Below.refl w1.heap.size w1).drew
        go_wp2_with fail
        refine wp_region_held (S := fun W => True) (by kernel_rfl) ?_
        change wpAnyH _ _ _ _ _ _ _ _ (World.drew _)
        generalize World.drew _ = v0 at *
        refine wpAnyH_take (i := 0) (v := ?_) rfl (by kernel_rfl) (by kernel_rfl) (by kernel_rfl) (fun _ _ _ h => h) (Or.inl ⟨by kernel_rfl, ?_⟩) E0 ?_
        rotate_left
        · (intro W hS; clear hS; go_simp; try (with_reducible rfl))
        refine wpAnyH_take (i := 1) (v := ?_) rfl (by kernel_rfl) (by kernel_rfl) (by kernel_rfl) (fun _ _ _ h => h) (Or.inl ⟨by kernel_rfl, ?_⟩) E0 ?_
        rotate_left
        · (intro W hS; clear hS; go_simp; try (with_reducible rfl))
        refine wpAnyH_take (i := 2) (v := ?_) rfl (by kernel_rfl) (by kernel_rfl) (by kernel_rfl) (fun _ _ _ h => h) (Or.inl ⟨by kernel_rfl, ?_⟩) E0 ?_
        rotate_left
        · (intro W hS; clear hS; go_simp; try (with_reducible rfl))
        refine wpAnyH_take (i := 3) (v := ?_) rfl (by kernel_rfl) (by kernel_rfl) (by kernel_rfl) (fun _ _ _ h => h) (Or.inl ⟨by kernel_rfl, ?_⟩) E0 ?_
        rotate_left
        · (intro W hS; clear hS; go_simp; try (with_reducible rfl))
        refine wpAnyH_take (i := 5) (v := ?_) rfl (by kernel_rfl) (by kernel_rfl) (by kernel_rfl) (fun _ _ _ h => h) (Or.inl ⟨by kernel_rfl, ?_⟩) E0 ?_
        rotate_left
        · (intro W hS; clear hS; go_simp; try (with_reducible rfl))
        refine wpAnyH_take (i := 6) (v := ?_) rfl (by kernel_rfl) (by kernel_rfl) (by kernel_rfl) (fun _ _ _ h => h) (Or.inl ⟨by kernel_rfl, ?_⟩) E0 ?_
        rotate_left
        · (intro W hS; clear hS; go_simp; try (with_reducible rfl))
        refine wpAnyH_take (i := 7) (v := ?_) rfl (by kernel_rfl) (by kernel_rfl) (by kernel_rfl) (fun _ _ _ h => h) (Or.inl ⟨by kernel_rfl, ?_⟩) E0 ?_
        rotate_left
        · (intro W hS; clear hS; go_simp; try (with_reducible rfl))
        refine wpAnyH_ready (rs := [4]) (by kernel_rfl) (by simp) ?_
        refine AllReadyH.cons rfl (fun K hK => ?_) AllReadyH.nil
        go_simp
        refine (H.out.2.1 v0 (hG.below F0) (H.out.2.2.2.1.below F0)).mono ?_
        rintro e v1 ⟨a1, c1, rfl, hO, hb⟩
        have hOO := OwnT.mono hO F0.size
        clear hO
        have F1 := F0.trans (hb.mono F0.size)
        have E1 : True := trivial
        refine hK.out _ _ E1 (fun _ => ?_)
        clear hK K hb
        refine wpAnyH_ready (rs := [8]) (by kernel_rfl) (by simp) ?_
        refine AllReadyH.cons rfl (fun K hK => ?_) AllReadyH.nil
        go_simp
        refine (H.out.2.2.1 v1 (hG.below F1) (H.out.2.2.2.1.below F1)).mono ?_
        rintro e v2 ⟨rfl, hb⟩
        have hO2 := OwnT.call hOO hb
        clear hOO
        have F2 := F1.trans (hb.mono F1.size)
        have E2 : True := trivial
        refine hK.out _ _ E2 (fun _ => ?_)
        clear hK K hb
        refine wpAnyH_ready (rs := [9]) (by kernel_rfl) (by simp) ?_
        refine AllReadyH.cons rfl (fun K hK => ?_) AllReadyH.nil
        go_simp
        have hn3 := texts_one v2 R2
        obtain ⟨v3, hv⟩ : ∃ v, v = v2.alloc (.cells #[.string R2] 9) := ⟨_, rfl⟩
        have hb : Below v2.heap.size v2 v3 := by rw [hv]; exact (Below.refl _ _).alloc (Nat.le_refl _) _
        rw [← hv] at hn3 ⊢
        clear hv
        have F3 := F2.trans (hb.mono F2.size)
        have E3 : True := trivial
        have hO3 := OwnT.call hO2 hb
        refine hK.out _ _ trivial (fun _ => ?_)
        clear hK K hb hO2
        refine wpAnyH_ready (rs := [10]) (by kernel_rfl) (by simp) ?_
        refine AllReadyH.cons rfl (fun K hK => ?_) AllReadyH.nil
        refine step_append_texts rfl (.tmp 19) (.tmp 24) rfl (hO3) _ (H.out.2.2.2.2.1.symm) rfl _ _ 1 ([R2]) rfl rfl (hn3) (by omega) F3.size F3 ?_
        intro ad4 cp4 v4 ho4 F4
        try go_simp
        refine hK.out _ _ trivial (fun _ => ?_)
        clear hK K hO3 hn3
        have E4 : True := trivial
        refine wpAnyH_take (i := 11) (v := ?_) rfl (by kernel_rfl) (by kernel_rfl) (by kernel_rfl) (fun _ _ _ h => h) (Or.inl ⟨by kernel_rfl, ?_⟩) E4 ?_
        rotate_left
        · (intro W hS; clear hS; go_simp; try (with_reducible rfl))
        refine wpAnyH_done (by kernel_rfl) ?_ _
        go_simp
        have HF := Lib.hid (And.intro F4 ho4)
        clear E0 F0 E1 F1 E2 F2 E3 F3 E4 F4 ho4
        go_wp2_with fail
        go_ret
        refine ⟨_, _, rfl, HF.out.2, HF.out.1⟩
      · have hwy : way ss i = way q (i - k) ++ [root p] := by rw [way_two h2, ← hk, if_neg hc, ← hp, ← hq]
        have c1 := fun W (hGW : Glob W) (hTW : TextsAt W (some ⟨b, off, none⟩) ss) => ih (n - k) (by omega) q hql (by omega) hDq (i - k) (by omega) (some ⟨b, off + k, none⟩) (cap - k) W hGW (tq W hTW) (by omega) (by unfold maxLen; omega)
        have c2 := fun W (hGW : Glob W) (hTW : TextsAt W (some ⟨b, off, none⟩) ss) => root_any k p hpl (by omega) hDp (some ⟨b, off, none⟩) cap W hGW (tp W hTW) (by omega) (by unfold maxLen; omega)
        rw [hql] at c1
        rw [hpl] at c2
        have hwl := Tr.way_length _ q (i - k) rfl
        obtain ⟨R2, hR2⟩ : ∃ R, R = root p := ⟨_, rfl⟩
        obtain ⟨Y, hY⟩ : ∃ Y, Y = way q (i - k) := ⟨_, rfl⟩
        rw [← hR2] at c2 hwy
        rw [← hY] at c1 hwy hwl
        obtain ⟨m, hm⟩ : ∃ m, m = n - k := ⟨_, rfl⟩
        obtain ⟨cq, hcq⟩ : ∃ c, c = cap - k := ⟨_, rfl⟩
        obtain ⟨ik, hik⟩ : ∃ x, x = i - k := ⟨_, rfl⟩
        rw [← hm, ← hcq, ← hik] at c1
        have f11 : (i : Int) - (k : Int) = (ik : Int) := by omega
        have f12 : ¬ ((i : Int) < (k : Int)) := by omega
        have f13 : IntKind.i64.wrap ((i : Int) - (k : Int)) = (ik : Int) := by rw [f11]; exact IntWalk.i64_in _ (by omega)
        obtain ⟨y, hy⟩ : ∃ y, y = Y.length := ⟨_, rfl⟩
        have hy1 : y ≤ 1000000 := by omega
        rw [← hy] at c1
        rw [hwy, List.length_append, List.length_singleton, ← hy, ← hn]
        have f1 : (k : Int) ≤ (n : Int) := by omega
        have f2 : (n : Int) - (k : Int) = (m : Int) := by omega
        have f3 : (cap : Int) - (k : Int) = (cq : Int) := by omega
        have f4 : n - k = m := hm.symm
        have f5 : cap - k = cq := hcq.symm
        have f6 : ¬ (cap = k) := by omega
        have f7 : n ≤ cap := by omega
        have f8 : k ≤ n := by omega
        have f9 : k ≤ cap := by omega
        have f10 : 2 ≤ n := by omega
        have e0 : ((n : Int) == 0) = false := by simp; omega
        have e1 : ((n : Int) == 1) = false := by simp; omega
        clear f11
        have H := Lib.hid (And.intro hh (And.intro c1 (And.intro c2 (And.intro hT (And.intro hy hwl)))))
        clear hh c1 c2 hT ih hN hD hp hq hpl hql hR2 hY hwy hwl h2 hcap hk hn hm hcq k1 k2 hDp hDq tp tq hy hik
        go_enter Tryd.func77, Tryd.ntmps77
        go_wp2_with fail
        refine (H.out.1 _).mono ?_
        rintro e w1 ⟨rfl, rfl⟩
        have E0 := trivial
        have F0 := (Below.refl w1.heap.size w1).drew
        go_wp2_with fail
        refine wp_region_held (S := fun W => True) (by kernel_rfl) ?_
        change wpAnyH _ _ _ _ _ _ _ _ (World.drew _)
        generalize World.drew _ = v0 at *
        refine wpAnyH_take (i := 0) (v := ?_) rfl (by kernel_rfl) (by kernel_rfl) (by kernel_rfl) (fun _ _ _ h => h) (Or.inl ⟨by kernel_rfl, ?_⟩) E0 ?_
        rotate_left
        · (intro W hS; clear hS; go_simp; try (with_reducible rfl))
        refine wpAnyH_take (i := 1) (v := ?_) rfl (by kernel_rfl) (by kernel_rfl) (by kernel_rfl) (fun _ _ _ h => h) (Or.inl ⟨by kernel_rfl, ?_⟩) E0 ?_
        rotate_left
        · (intro W hS; clear hS; go_simp; try (with_reducible rfl))
        refine wpAnyH_take (i := 2) (v := ?_) rfl (by kernel_rfl) (by kernel_rfl) (by kernel_rfl) (fun _ _ _ h => h) (Or.inl ⟨by kernel_rfl, ?_⟩) E0 ?_
        rotate_left
        · (intro W hS; clear hS; go_simp; try (with_reducible rfl))
        refine wpAnyH_take (i := 3) (v := ?_) rfl (by kernel_rfl) (by kernel_rfl) (by kernel_rfl) (fun _ _ _ h => h) (Or.inl ⟨by kernel_rfl, ?_⟩) E0 ?_
        rotate_left
        · (intro W hS; clear hS; go_simp; try (with_reducible rfl))
        refine wpAnyH_take (i := 4) (v := ?_) rfl (by kernel_rfl) (by kernel_rfl) (by kernel_rfl) (fun _ _ _ h => h) (Or.inl ⟨by kernel_rfl, ?_⟩) E0 ?_
        rotate_left
        · (intro W hS; clear hS; go_simp; try (with_reducible rfl))
        refine wpAnyH_take (i := 5) (v := ?_) rfl (by kernel_rfl) (by kernel_rfl) (by kernel_rfl) (fun _ _ _ h => h) (Or.inl ⟨by kernel_rfl, ?_⟩) E0 ?_
        rotate_left
        · (intro W hS; clear hS; go_simp; try (with_reducible rfl))
        refine wpAnyH_take (i := 7) (v := ?_) rfl (by kernel_rfl) (by kernel_rfl) (by kernel_rfl) (fun _ _ _ h => h) (Or.inl ⟨by kernel_rfl, ?_⟩) E0 ?_
        rotate_left
        · (intro W hS; clear hS; go_simp; try (with_reducible rfl))
        refine wpAnyH_take (i := 8) (v := ?_) rfl (by kernel_rfl) (by kernel_rfl) (by kernel_rfl) (fun _ _ _ h => h) (Or.inl ⟨by kernel_rfl, ?_⟩) E0 ?_
        rotate_left
        · (intro W hS; clear hS; go_simp; try (with_reducible rfl))
        refine wpAnyH_take (i := 9) (v := ?_) rfl (by kernel_rfl) (by kernel_rfl) (by kernel_rfl) (fun _ _ _ h => h) (Or.inl ⟨by kernel_rfl, ?_⟩) E0 ?_
        rotate_left
        · (intro W hS; clear hS; go_simp; try (with_reducible rfl))
        refine wpAnyH_ready (rs := [6]) (by kernel_rfl) (by simp) ?_
        refine AllReadyH.cons rfl (fun K hK => ?_) AllReadyH.nil
        go_simp
        refine (H.out.2.1 v0 (hG.below F0) (H.out.2.2.2.1.below F0)).mono ?_
        rintro e v1 ⟨a1, c1, rfl, hO, hb⟩
        have hOO := OwnT.mono hO F0.size
        clear hO
        have F1 := F0.trans (hb.mono F0.size)
        have E1 : True := trivial
        refine hK.out _ _ E1 (fun _ => ?_)
        clear hK K hb
        refine wpAnyH_ready (rs := [10]) (by kernel_rfl) (by simp) ?_
        refine AllReadyH.cons rfl (fun K hK => ?_) AllReadyH.nil
        go_simp
        refine (H.out.2.2.1 v1 (hG.below F1) (H.out.2.2.2.1.below F1)).mono ?_
        rintro e v2 ⟨rfl, hb⟩
        have hO2 := OwnT.call hOO hb
        clear hOO
        have F2 := F1.trans (hb.mono F1.size)
        have E2 : True := trivial
        refine hK.out _ _ E2 (fun _ => ?_)
        clear hK K hb
        refine wpAnyH_ready (rs := [11]) (by kernel_rfl) (by simp) ?_
        refine AllReadyH.cons rfl (fun K hK => ?_) AllReadyH.nil
        go_simp
        have hn3 := texts_one v2 R2
        obtain ⟨v3, hv⟩ : ∃ v, v = v2.alloc (.cells #[.string R2] 9) := ⟨_, rfl⟩
        have hb : Below v2.heap.size v2 v3 := by rw [hv]; exact (Below.refl _ _).alloc (Nat.le_refl _) _
        rw [← hv] at hn3 ⊢
        clear hv
        have F3 := F2.trans (hb.mono F2.size)
        have E3 : True := trivial
        have hO3 := OwnT.call hO2 hb
        refine hK.out _ _ trivial (fun _ => ?_)
        clear hK K hb hO2
        refine wpAnyH_ready (rs := [12]) (by kernel_rfl) (by simp) ?_
        refine AllReadyH.cons rfl (fun K hK => ?_) AllReadyH.nil
        refine step_append_texts rfl (.tmp 32) (.tmp 37) rfl (hO3) _ (H.out.2.2.2.2.1.symm) rfl _ _ 1 ([R2]) rfl rfl (hn3) (by omega) F3.size F3 ?_
        intro ad4 cp4 v4 ho4 F4
        try go_simp
        refine hK.out _ _ trivial (fun _ => ?_)
        clear hK K hO3 hn3
        have E4 : True := trivial
        refine wpAnyH_take (i := 13) (v := ?_) rfl (by kernel_rfl) (by kernel_rfl) (by kernel_rfl) (fun _ _ _ h => h) (Or.inl ⟨by kernel_rfl, ?_⟩) E4 ?_
        rotate_left
        · (intro W hS; clear hS; go_simp; try (with_reducible rfl))
        refine wpAnyH_done (by kernel_rfl) ?_ _
        go_simp
        have HF := Lib.hid (And.intro F4 ho4)
        clear E0 F0 E1 F1 E2 F2 E3 F3 E4 F4 ho4
        go_wp2_with fail
        go_ret
        refine ⟨_, _, rfl, HF.out.2, HF.out.1⟩
end Go.Proofs.YtdfkpjmljaanpaaDoor
namespace Go.Proofs.YtdfkpjmljaanpaaDoor
open Go.RowKit
open Tr
/-- The way of any place, or nothing; the error. -/
def wayI (l : List ByteArray) (i : Int) : List ByteArray := if 0 ≤ i ∧ i < l.length then way l i.toNat else []
def wayE (l : List ByteArray) (i : Int) : Int := if 0 ≤ i ∧ i < l.length then 0 else 1
set_option maxRecDepth 100000 in
set_option maxHeartbeats 1000000 in
theorem bigWay_any (ss : List ByteArray) (hm : ss.length ≤ 4096) (hD : Digs ss) (i : Int) (a0 : Option Addr) (cap : Nat) (w : World) (hG : Glob w) (hT : TextsAt w a0 ss) (hcap : ss.length ≤ cap) (hmax : cap ≤ maxLen) :
    Calls Tryd.prog 52 #[.slice a0 ss.length cap, .int .i64 i] w fun e w' => ∃ a c, e = .returned (.tuple #[.slice a (wayI ss i).length c, .int .i64 (wayE ss i)]) ∧ OwnT w.heap.size w' a c (wayI ss i) ∧ Below w.heap.size w w' := by
  have hw := fun (h : 0 ≤ i ∧ i < ss.length) => way_any _ ss rfl (by omega) hD i.toNat (by omega) a0 cap w hG hT hcap hmax
  obtain ⟨n, hn⟩ : ∃ n, n = ss.length := ⟨_, rfl⟩
  have hi1 := fun (h : 0 ≤ i ∧ i < ss.length) => (show wayI ss i = way ss i.toNat ∧ wayE ss i = 0 from ⟨if_pos h, if_pos h⟩)
  have hi2 := fun (h : ¬ (0 ≤ i ∧ i < ss.length)) => (show wayI ss i = [] ∧ wayE ss i = 1 from ⟨if_neg h, if_neg h⟩)
  rw [← hn] at hm hw ⊢
  rw [← hn] at hi1 hi2
  have hm2 : ¬ ((4096 : Int) < (n : Int)) := by omega
  by_cases h0 : 0 ≤ i
  · by_cases h1 : i < n
    · obtain ⟨e1, e2⟩ := hi1 ⟨h0, h1⟩
      obtain ⟨j, hj⟩ : ∃ j : Nat, i = (j : Int) := ⟨i.toNat, by omega⟩
      subst hj
      have hw2 := hw ⟨h0, h1⟩
      rw [Int.toNat_natCast] at hw2 e1
      have h1' : ¬ ((n : Int) ≤ (j : Int)) := by omega
      rw [e1, e2]
      obtain ⟨Y, hY⟩ : ∃ Y, Y = way ss j := ⟨_, rfl⟩
      rw [← hY] at hw2 ⊢
      have H := Lib.hid hw2
      clear hw hw2 hi1 hi2 e1 e2 hY hn hT hD hm
      go_enter Tryd.func52, Tryd.ntmps52
      go_wp2_with fail
      refine H.out.mono ?_
      rintro e w1 ⟨a, c, rfl, hO, hb⟩
      have HB := Lib.hid (And.intro hO hb)
      clear hO hb
      go_wp2_with fail
      go_ret2
      exact ⟨a, c, rfl, HB.out.1, HB.out.2⟩
    · obtain ⟨e1, e2⟩ := hi2 (fun h => h1 h.2)
      have h1' : ((n : Int) ≤ i) := by omega
      rw [e1, e2]
      clear hw hi1 hi2 e1 e2 hn hT hD hm
      go_enter Tryd.func52, Tryd.ntmps52
      go_wp2_with fail
      go_ret2
      exact ⟨none, 0, rfl, OwnT.nil _ _, Below.refl _ _⟩
  · obtain ⟨e1, e2⟩ := hi2 (fun h => h0 h.1)
    rw [e1, e2]
    clear hw hi1 hi2 e1 e2 hn hT hD hm
    go_enter Tryd.func52, Tryd.ntmps52
    go_wp2_with fail
    go_ret2
    exact ⟨none, 0, rfl, OwnT.nil _ _, Below.refl _ _⟩
end Go.Proofs.YtdfkpjmljaanpaaDoor
namespace Go.Proofs.YtdfkpjmljaanpaaDoor
open Go.RowKit
open Cn
theorem arproof_rec : RecT 62 48 5 64 (.agg #[.int .i64 0, .string ⟨#[]⟩, .int .i64 0, .int .i64 0, .slice none 0 0]) := ⟨Tryd.underlying48, by kernel_rfl, rfl, by decide⟩
/-- Texts of the call's own, that do not lie in these two blocks. -/
structure FarT (B gp : Nat) (row : Option Nat) (a : Option Addr) (cap : Nat) (l : List ByteArray) (W : World) : Prop where
  own : OwnT B W a cap l
  np : ∀ g, (Value.slice a l.length cap).ownBlock = some g → g ≠ gp
  nr : ∀ g, (Value.slice a l.length cap).ownBlock = some g → row ≠ some g
/-- The state: the proof under its box, its rows, their ways; the digests. -/
structure PvS (w : World) (v : Value) (n : Int) (gp : Nat) (rs : List ShW) (a : Option Addr) (ca : Nat) (d : Option Addr) (dc : Nat) (D : List ByteArray) (W : World) : Prop where
  lo : w.heap.size + 2 ≤ gp
  box : W.heap[w.heap.size]? = some (.cells #[v] 25 (0, 0))
  res : W.heap[w.heap.size + 1]? = some (.cells #[.int .i64 0, .slice none 0 0] 50 (0, 0))
  row : W.heap[gp]? = some (.cells #[.int .i64 n, .slice a rs.length ca] 50 (0, 0))
  own : OwnR 62 5 shCs (w.heap.size + 2) W a ca rs
  ap : ∀ g, (Value.slice a rs.length ca).ownBlock = some g → g ≠ gp
  ways : ∀ r ∈ rs, FarT (w.heap.size + 2) gp (Value.slice a rs.length ca).ownBlock r.2.1 r.2.2 r.1.way W
  dg : FarT (w.heap.size + 2) gp (Value.slice a rs.length ca).ownBlock d dc D W
  below : Below w.heap.size w W
section
variable {w : World} {v : Value} {n : Int} {gp : Nat} {rs : List ShW} {a : Option Addr} {ca : Nat} {d : Option Addr} {dc : Nat} {D : List ByteArray} {W : World}
theorem FarT.call {B : Nat} {row : Option Nat} {l : List ByteArray} {W' : World} (h : FarT B gp row a ca l W) (hb : Below W.heap.size W W') : FarT B gp row a ca l W' := ⟨OwnT.call h.own hb, h.np, h.nr⟩
theorem PvS.call {W' : World} (h : PvS w v n gp rs a ca d dc D W) (hb : Below W.heap.size W W') : PvS w v n gp rs a ca d dc D W' :=
  ⟨h.lo, (hb.block _ (lt_of_heap h.box)).trans h.box, (hb.block _ (lt_of_heap h.res)).trans h.res, (hb.block _ (lt_of_heap h.row)).trans h.row, h.own.call hb, h.ap, fun r hr => (h.ways r hr).call hb, h.dg.call hb, h.below.trans (hb.mono h.below.size)⟩
theorem PvS.size (h : PvS w v n gp rs a ca d dc D W) : gp < W.heap.size := lt_of_heap h.row
theorem PvS.xcell (h : PvS w v n gp rs a ca d dc D W) : W.cell? ⟨w.heap.size, 0, none⟩ = some v := by rw [cell_of_row _ _ _ _ _ _ h.box]; rfl
theorem PvS.rcell (h : PvS w v n gp rs a ca d dc D W) : W.cell? ⟨w.heap.size + 1, 0, none⟩ = some (.int .i64 0) ∧ W.cell? ⟨w.heap.size + 1, 1, none⟩ = some (.slice none 0 0) ∧ (∀ j, W.frozen? ⟨w.heap.size + 1, j, none⟩ = false) := by
  refine ⟨?_, ?_, fun j => frozen_of_row _ _ _ _ _ h.res⟩ <;> (rw [cell_of_row _ _ _ _ _ _ h.res]; rfl)
theorem PvS.pcell (h : PvS w v n gp rs a ca d dc D W) : W.cell? ⟨gp, 0, none⟩ = some (.int .i64 n) ∧ W.cell? ⟨gp, 1, none⟩ = some (.slice a rs.length ca) ∧ (∀ j, W.frozen? ⟨gp, j, none⟩ = false) := by
  refine ⟨?_, ?_, fun j => frozen_of_row _ _ _ _ _ h.row⟩ <;> (rw [cell_of_row _ _ _ _ _ _ h.row]; rfl)
theorem FarT.moved {B g1 : Nat} {row : Option Nat} {W1 : World} {b : Option Addr} {cb : Nat} {l : List ByteArray} (h : FarT B gp row b cb l W) (hg : W.grownBy W1 row) (hat : row = some g1 ∨ g1 = W.heap.size) (x : Value) : FarT B gp (some g1) b cb l (W1.setCell ⟨gp, 1, none⟩ x) := by
  refine ⟨?_, h.np, fun g hgg e => ?_⟩
  · have h1 := OwnT.beside h.own hg (fun g e => fun hb => h.nr g hb e)
    obtain ⟨k1, k2⟩ := h1
    refine ⟨k1, ?_⟩
    rcases k2 with k2 | ⟨q, c, cur, e, hB, hq, h3⟩
    · exact .inl k2
    · have hne : q ≠ gp := h.np q (by rw [e]; rfl)
      exact .inr ⟨q, c, cur, e, hB, (heap_setCell_other W1 ⟨gp, 1, none⟩ q x hne).trans hq, h3⟩
  · injection e with e
    subst e
    rcases hat with h1 | h1
    · exact h.nr _ hgg h1
    · have := (World.ownsRow.lt h.own _ hgg).2
      omega
/-- One row more. -/
theorem PvS.add (h : PvS w v n gp rs a ca d dc D W) {r : ShW} {W1 : World} {g1 c1 m : Nat} (hm : rs.length + 1 = m) (hr : FarT (w.heap.size + 2) gp (Value.slice a rs.length ca).ownBlock r.2.1 r.2.2 r.1.way W)
    (ho : OwnR 62 5 shCs (w.heap.size + 2) W1 (some ⟨g1, 0, none⟩) c1 (rs ++ [r])) (hg : W.grownBy W1 (Value.slice a rs.length ca).ownBlock) (hat : (Value.slice a rs.length ca).ownBlock = some g1 ∨ g1 = W.heap.size) :
    PvS w v n gp (rs ++ [r]) (some ⟨g1, 0, none⟩) c1 d dc D (W1.setCell ⟨gp, 1, none⟩ (.slice (some ⟨g1, 0, none⟩) m c1)) := by
  subst hm
  have hs := h.size
  have hlo := h.lo
  have hob : ∀ k, (Value.slice (some ⟨g1, 0, none⟩) k c1).ownBlock = some g1 := fun _ => rfl
  have hg1 : g1 ≠ gp := by
    rcases hat with h1 | h1
    · exact h.ap _ h1
    · omega
  have hnb : ∀ k, k < w.heap.size + 2 → some k ≠ (Value.slice a rs.length ca).ownBlock := fun k hk e => by have := (h.own.lt k e.symm).1; omega
  refine ⟨hlo, (heap_setCell_other _ _ _ _ (show w.heap.size ≠ gp by omega)).trans ((hg.block _ (by omega) (hnb _ (by omega))).trans h.box), (heap_setCell_other _ _ _ _ (show w.heap.size + 1 ≠ gp by omega)).trans ((hg.block _ (by omega) (hnb _ (by omega))).trans h.res), ?_, ho.otherNe (fun q hq => ?_) _, fun q hq => ?_, fun q hq => ?_, ?_, ?_⟩
  · rw [heap_setCell_same _ _ _ _ _ _ ((hg.block gp hs (fun e => h.ap gp e.symm rfl)).trans h.row), List.length_append]; rfl
  · rw [hob] at hq; injection hq with hq; rw [← hq]; exact hg1
  · rw [hob] at hq; injection hq with hq; rw [← hq]; exact hg1
  · rw [hob]
    rcases List.mem_append.1 hq with hq | hq
    · exact (h.ways q hq).moved hg hat _
    · rw [List.mem_singleton.1 hq]; exact hr.moved hg hat _
  · rw [hob]; exact h.dg.moved hg hat _
  · exact (h.below.grown hg h.below.size (fun k hk => by have := (h.own.lt k hk).1; omega)).setCell (p := ⟨gp, 1, none⟩) (show w.heap.size ≤ gp by omega) _
end
/-- What the region that appends a row reads. -/
structure CellS (x b o : Nat) (v : Value) (r : Rw) (W : World) : Prop where
  box : W.cell? ⟨x, 0, none⟩ = some v
  r0 : W.cell? ⟨b, o, none⟩ = some (.string r.tag)
  r1 : W.cell? ⟨b, o + 1, none⟩ = some (.int .i64 r.cnt)
  r2 : W.cell? ⟨b, o + 2, none⟩ = some (.int .i64 r.last)
  l1 : x < W.heap.size
  l2 : b < W.heap.size
theorem CellS.same {x b o : Nat} {v : Value} {r : Rw} {W W' : World} (h : CellS x b o v r W) (h1 : W'.heap[x]? = W.heap[x]?) (h2 : W'.heap[b]? = W.heap[b]?) (hs : W.heap.size ≤ W'.heap.size) : CellS x b o v r W' :=
  ⟨(World.cell?_of_block (a := ⟨x, 0, none⟩) h1).trans h.box, (World.cell?_of_block (a := ⟨b, o, none⟩) h2).trans h.r0, (World.cell?_of_block (a := ⟨b, o + 1, none⟩) h2).trans h.r1, (World.cell?_of_block (a := ⟨b, o + 2, none⟩) h2).trans h.r2, Nat.lt_of_lt_of_le h.l1 hs, Nat.lt_of_lt_of_le h.l2 hs⟩
theorem CellS.call {x b o : Nat} {v : Value} {r : Rw} {W W' : World} (h : CellS x b o v r W) (hb : Below W.heap.size W W') : CellS x b o v r W' := h.same (hb.block _ h.l1) (hb.block _ h.l2) hb.size
/-- What Prove makes: the proof's rows, with their ways. -/
def PvPost (R : List Rw) (t : ByteArray) (w : World) (e : Ending) (w' : World) : Prop :=
  ∃ a ca, e = .returned (.agg #[.int .i64 R.length, .slice a (Ix.prvI R t).length ca]) ∧ ShAt w' a (Ix.prvI R t) ∧ (Ix.prvI R t).length ≤ ca ∧ ca ≤ maxLen ∧ Below w.heap.size w w'
theorem ownT_other {B : Nat} {w : World} {a : Option Addr} {cap : Nat} {l : List ByteArray} (h : OwnT B w a cap l) {g o : Nat} (hg : g < B) (v : Value) : OwnT B (w.setCell ⟨g, o, none⟩ v) a cap l := by
  obtain ⟨h1, h2⟩ := h
  refine ⟨h1, ?_⟩
  rcases h2 with h2 | ⟨q, c, cur, e, hB, hq, h3⟩
  · exact .inl h2
  · exact .inr ⟨q, c, cur, e, hB, (heap_setCell_other w _ q v (fun e => by have e2 : q = g := e; omega)).trans hq, h3⟩
theorem PvS.ret {w : World} {v : Value} {n : Int} {gp : Nat} {rs : List ShW} {a : Option Addr} {ca : Nat} {d : Option Addr} {dc : Nat} {D : List ByteArray} {W : World} (h : PvS w v n gp rs a ca d dc D W) (x y : Value) : ShAt ((W.setCell ⟨w.heap.size + 1, 0, none⟩ x).setCell ⟨w.heap.size + 1, 1, none⟩ y) a (rs.map (·.1)) :=
  shAt_own ((h.own.other (Nat.lt_succ_self _) x).other (Nat.lt_succ_self _) y) (Below.refl _ _) fun r hr => ⟨(OwnT.capy (h.ways r hr).own).1, (OwnT.capy (h.ways r hr).own).2, OwnT.texts (ownT_other (ownT_other (h.ways r hr).own (Nat.lt_succ_self _) x) (Nat.lt_succ_self _) y)⟩
set_option maxRecDepth 100000 in
set_option maxHeartbeats 40000000 in
theorem prove18_any (R : List Rw) (hr : Ix.Rise R) (t : ByteArray) (a0 : Option Addr) (cap : Nat) (w : World) (hG : Glob w) (hT : RwAt w a0 R) (hm : R.length ≤ 4096) (hok : ∀ r ∈ R, Ix.rwOk r) :
    Calls Tryd.prog 24 #[.agg #[.slice a0 R.length cap], .string t] w (PvPost R t w) := by
  obtain ⟨w1, hw1⟩ : ∃ w1, w1 = (w.alloc (.cells #[.slice a0 R.length cap] 25)).alloc (.cells #[.int .i64 0, .slice none 0 0] 50) := ⟨_, rfl⟩
  have hz : (w.alloc (.cells #[.slice a0 R.length cap] 25)).heap.size = w.heap.size + 1 := World.size_alloc _ _
  have hb1 : Below w.heap.size w w1 := by rw [hw1]; exact ((Below.refl _ _).alloc (Nat.le_refl _) _).alloc (by rw [hz]; omega) _
  have hg1 : w1.heap[w.heap.size]? = some (.cells #[.slice a0 R.length cap] 25 (0, 0)) := by rw [hw1, heap_alloc_old _ _ (by rw [hz]; omega)]; exact heap_alloc_new _ _
  have hg2 : w1.heap[w.heap.size + 1]? = some (.cells #[.int .i64 0, .slice none 0 0] 50 (0, 0)) := by rw [hw1, ← hz]; exact heap_alloc_new _ _
  have c0 : w1.cell? ⟨w.heap.size, 0, none⟩ = some (.slice a0 R.length cap) := by rw [cell_of_row _ _ _ _ _ _ hg1]; rfl
  have hfi := ifind_any R hr t a0 cap w1 (hT.below hb1) (by omega)
  have hdg := fun (W : World) (hb : Below w.heap.size w W) => digests18_any R a0 cap W (hG.below hb) (hT.below hb) (by omega) hok
  have hwy := fun (W : World) (i : Nat) (a : Option Addr) (c : Nat) (hb : Below w.heap.size w W) (h : TextsAt W a (Ix.lvs R)) (h1 : (Ix.lvs R).length ≤ c) (h2 : c ≤ maxLen) => bigWay_any (Ix.lvs R) (by rw [Ix.lvs_length]; exact hm) (Ix.lvs_digs R) (i : Int) a c W (hG.below hb) h h1 h2
  have hpv := Ix.prv_from hr t
  have hkl := Ix.rk_le R t
  have hlv := Ix.lvs_length R
  obtain ⟨LV, hLV⟩ : ∃ LV, LV = Ix.lvs R := ⟨_, rfl⟩
  obtain ⟨n, hn⟩ : ∃ n, n = R.length := ⟨_, rfl⟩
  obtain ⟨K, hK⟩ : ∃ K, K = Ix.rk R t := ⟨_, rfl⟩
  obtain ⟨E, hE⟩ : ∃ E, E = Ix.isR R t := ⟨_, rfl⟩
  rw [← hLV] at hdg hwy hlv
  rw [hlv] at hwy
  rw [← hn] at hm hw1 hg1 c0 hfi hdg hwy hkl hlv
  rw [← hK] at hfi hkl
  rw [← hE] at hfi
  have hfr : Ix.pFrom R t = if E = true then K else K - 1 := by unfold Ix.pFrom; rw [hE, hK]
  have hto : Ix.pTo R t = min (K + 1) n := by unfold Ix.pTo; rw [hK, hn]
  have hKE : E = true → K < n := fun h => by
    rw [hE] at h
    obtain ⟨r, h1, -⟩ := Ix.isR_some hr h
    rw [hK, hn]
    exact (List.getElem?_eq_some_iff.1 h1).1
  unfold PvPost
  rw [hpv, Ix.pRows_length]
  obtain ⟨A, hA⟩ : ∃ A, A = Ix.pFrom R t := ⟨_, rfl⟩
  obtain ⟨Z, hZ⟩ : ∃ Z, Z = Ix.pTo R t := ⟨_, rfl⟩
  rw [← hA] at hfr
  rw [← hZ] at hto
  rw [← hA, ← hZ]
  rw [← hn]
  obtain ⟨m1, hm1⟩ : ∃ m1, m1 = Z - A := ⟨_, rfl⟩
  rw [← hm1]
  have HM1 := Lib.hid hm1
  have hZn : Z ≤ n := by omega
  have H := Lib.hid (And.intro hT (And.intro hb1 (And.intro hg1 (And.intro hg2 (And.intro hfi (And.intro hdg (And.intro hwy (And.intro hn (And.intro hok (And.intro hLV hlv))))))))))
  have hn' := Lib.hid hn
  clear hm1 hn hT hb1 hg1 hg2 hfi hdg hwy hpv hlv hK hE hLV hok hr hz hA hZ hG
  go_enter Tryd.func24, Tryd.ntmps24
  go_upto_region 1 with fail
  rw [← hw1]
  clear hw1
  go_wp2_with fail
  refine H.out.2.2.2.2.1.mono ?_
  rintro e w2 ⟨rfl, hb2⟩
  have H2 := Lib.hid (And.intro (bcall H.out.2.1 hb2 H.out.2.1.size) (And.intro ((hb2.block _ (lt_of_heap H.out.2.2.1)).trans H.out.2.2.1) ((hb2.block _ (lt_of_heap H.out.2.2.2.1)).trans H.out.2.2.2.1)))
  clear hb2 c0
  have c0 : w2.cell? ⟨w.heap.size, 0, none⟩ = some (.slice a0 n cap) := by rw [cell_of_row _ _ _ _ _ _ H2.out.2.1]; rfl
  have HF := Lib.hid (And.intro hfr (And.intro hto hKE))
  clear hfr hto hKE
  have hmn : min ((K : Int) + 1) (n : Int) = (Z : Int) := by rw [HF.out.2.1]; omega
  cases E with
  | true =>
    obtain rfl : A = K := by rw [HF.out.1, if_pos rfl]
    obtain ⟨w3, hw3⟩ : ∃ w3, w3 = w2.alloc (.cells #[.int .i64 n, .slice none 0 0] 50) := ⟨_, rfl⟩
    have hb3 : Below w2.heap.size w2 w3 := by rw [hw3]; exact (Below.refl _ _).alloc (Nat.le_refl _) _
    have hg3 : w3.heap[w2.heap.size]? = some (.cells #[.int .i64 n, .slice none 0 0] 50 (0, 0)) := by rw [hw3]; exact heap_alloc_new _ _
    have s2 : w.heap.size + 2 ≤ w2.heap.size := lt_of_heap H2.out.2.2
    have H3 := Lib.hid (And.intro (bcall H2.out.1 hb3 H2.out.1.size) (And.intro ((hb3.block _ (lt_of_heap H2.out.2.1)).trans H2.out.2.1) (And.intro ((hb3.block _ (lt_of_heap H2.out.2.2)).trans H2.out.2.2) hg3)))
    have c3 : w3.cell? ⟨w.heap.size, 0, none⟩ = some (.slice a0 n cap) := by rw [cell_of_row _ _ _ _ _ _ H3.out.2.1]; rfl
    have z3 : w2.heap.size < w3.heap.size := lt_of_heap hg3
    obtain ⟨gp, hgp⟩ : ∃ gp, gp = w2.heap.size := ⟨_, rfl⟩
    rw [← hgp] at H3 s2 z3
    clear hb3 hg3
    go_upto_region 6 with fail
    rw [← hw3, ← hgp]
    clear hw3 hgp c0
    go_wp2_with fail
    refine (H.out.2.2.2.2.2.1 _ H3.out.1).mono ?_
    rintro e w4 ⟨d, dc, rfl, hod, hb4⟩
    have hP4 : PvS w (.slice a0 n cap) n gp [] none 0 d dc LV w4 := by
      refine ⟨s2, (hb4.block _ (lt_of_heap H3.out.2.1)).trans H3.out.2.1, (hb4.block _ (lt_of_heap H3.out.2.2.1)).trans H3.out.2.2.1, (hb4.block _ (lt_of_heap H3.out.2.2.2)).trans H3.out.2.2.2, OwnR.nil _ _ _ _ _, (fun g hg => by cases hg), (fun r hr => by simp at hr), ⟨OwnT.mono hod (by omega), fun g hg => ?_, fun g hg e => by cases e⟩, bcall H3.out.1 hb4 H3.out.1.size⟩
      have := (World.ownsRow.lt hod g hg).1
      omega
    have hLn := H.out.2.2.2.2.2.2.2.2.2.2
    have HP4 := Lib.hid (And.intro hP4 hLn)
    clear hP4 hod hb4 c3 hLn s2 z3
    go_wp2_with fail
    go_loopw [10, 11, 12] (fun v10 _ _ wr => ∃ (k : Nat) (rs : List ShW) (a : Option Addr) (ca : Nat), k ≤ m1 ∧ v10 = .int .i64 ((A + k : Nat) : Int) ∧ rs.map (·.1) = Ix.pRows R A k ∧ PvS w (.slice a0 n cap) n gp rs a ca d dc LV wr) (fun v10 _ _ _ => Z - (intOf v10).toNat)
    case atStart => exact ⟨0, [], none, 0, by omega, rfl, rfl, HP4.out.1⟩
    case round =>
      obtain ⟨k, rs, a, ca, hk, rfl, hrs, hP⟩ := hrel
      have hrl : rs.length = k := by
        have h := congrArg List.length hrs
        rwa [List.length_map, Ix.pRows_length] at h
      obtain ⟨at0, hat0⟩ : ∃ at0, at0 = A + k := ⟨_, rfl⟩
      rw [← hat0]
      by_cases hlt : at0 < Z
      · have hln : at0 < R.length := by have := hn'.out; omega
        obtain ⟨r, hr⟩ : ∃ r, R[at0]? = some r := ⟨_, List.getElem?_eq_getElem hln⟩
        have hsh := Ix.pRows_succ R A k
        rw [← hat0, Ix.shI_at hln, (List.getElem?_eq_some_iff.1 hr).2] at hsh
        have hsz := (H.out.2.2.2.2.2.2.2.2.1 r (List.mem_of_getElem? hr)).1
        obtain ⟨b, o, rfl, hbl, q0, q1, q2⟩ := H.out.1 at0 r hr
        obtain ⟨W0, hW0⟩ : ∃ W0, W0 = Tr.way LV at0 := ⟨_, rfl⟩
        have hwI : wayI LV (at0 : Int) = W0 ∧ wayE LV (at0 : Int) = 0 := by
          have hb : 0 ≤ (at0 : Int) ∧ (at0 : Int) < LV.length := ⟨by omega, by have := HP4.out.2; omega⟩
          refine ⟨?_, if_pos hb⟩
          rw [hW0]
          exact (if_pos hb).trans (by rw [Int.toNat_natCast])
        rw [show Ix.lvs R = LV from H.out.2.2.2.2.2.2.2.2.2.1.symm, ← hW0] at hsh
        have hwy := H.out.2.2.2.2.2.2.1 wr at0 d dc hP.below (OwnT.texts hP.dg.own) (by have := (OwnT.capy hP.dg.own).1; have := HP4.out.2; omega) (OwnT.capy hP.dg.own).2
        rw [hwI.1, hwI.2] at hwy
        obtain ⟨nw, hnw⟩ : ∃ nw, nw = W0.length := ⟨_, rfl⟩
        rw [← hnw] at hwy
        have hCE : CellS w.heap.size b (o + at0 * 3) (.slice (some ⟨b, o, none⟩) n cap) r wr := by
          have hbw : b < wr.heap.size := Nat.lt_of_lt_of_le hbl hP.below.size
          exact ⟨hP.xcell, (hP.below.cell (p := ⟨b, _, none⟩) hbl).trans q0, (hP.below.cell (p := ⟨b, _, none⟩) hbl).trans q1, (hP.below.cell (p := ⟨b, _, none⟩) hbl).trans q2, lt_of_heap hP.box, hbw⟩
        have hatn : at0 < n := by omega
        have HR := Lib.hid (And.intro hP (And.intro hsh (And.intro hsz (And.intro hwy (And.intro hCE (And.intro hrs (And.intro hrl (And.intro hnw (And.intro hbl hat0)))))))))
        clear hP hsh hsz hwy hCE hrs hrl hnw hbl hat0 hr hln q0 q1 q2 hW0 hwI
        go_wp2_with fail
        refine HR.out.2.2.2.1.mono ?_
        rintro e w5 ⟨wa, wc0, rfl, hoW, hb5⟩
        have hP5 := HR.out.1.call hb5
        have hFW : FarT (w.heap.size + 2) gp (Value.slice a rs.length ca).ownBlock wa wc0 W0 w5 := by
          refine ⟨OwnT.mono hoW (by have := HR.out.1.size; have := HR.out.1.lo; omega), fun g hg => ?_, fun g hg e => ?_⟩
          · have := (World.ownsRow.lt hoW g hg).1; have := HR.out.1.size; omega
          · have := (World.ownsRow.lt hoW g hg).1; have := (HR.out.1.own.lt g e).2; omega
        have H5 := Lib.hid (And.intro hP5 (And.intro hFW (HR.out.2.2.2.2.1.call hb5)))
        clear hP5 hFW hoW hb5
        obtain ⟨wo, hwo⟩ : ∃ wo, wo = wr := ⟨_, rfl⟩
        subst hwo
        obtain ⟨rx, ru, rv⟩ := r
        go_upto_region 11 with fail
        go_wp2_with fail
        refine wp_region_held (S := fun W : World => CellS w.heap.size b (o + at0 * 3) (.slice (some ⟨b, o, none⟩) n cap) ⟨rx, ru, rv⟩ W) (by kernel_rfl) ?_
        change wpAnyH _ _ _ _ _ _ _ _ (World.drew _)
        generalize hv0 : World.drew _ = v0
        have E0 : CellS w.heap.size b (o + at0 * 3) (.slice (some ⟨b, o, none⟩) n cap) ⟨rx, ru, rv⟩ v0 := by rw [← hv0]; exact H5.out.2.2.call ((Below.refl _ _).drew)
        have F0 : Below w5.heap.size w5 v0 := by rw [← hv0]; exact ((Below.refl _ _).drew)
        have LL := (show PvS w (.slice (some ⟨b, o, none⟩) n cap) n gp rs a ca d dc LV v0 by rw [← hv0]; exact H5.out.1.call ((Below.refl _ _).drew))
        have FF := (show FarT (w.heap.size + 2) gp (Value.slice a rs.length ca).ownBlock wa wc0 W0 v0 by rw [← hv0]; exact H5.out.2.1.call ((Below.refl _ _).drew))
        clear hv0
        refine wpAnyH_take (i := 0) (v := ?_) rfl (by kernel_rfl) (by kernel_rfl) (by kernel_rfl) (fun _ _ _ h => h) (Or.inl ⟨by kernel_rfl, ?_⟩) E0 ?_
        rotate_left
        · (intro W hS; obtain ⟨k0, k1, k2, k3, -, -⟩ := hS; simp only at k1 k2 k3; go_simp; try (with_reducible rfl))
        refine wpAnyH_take (i := 2) (v := ?_) rfl (by kernel_rfl) (by kernel_rfl) (by kernel_rfl) (fun _ _ _ h => h) (Or.inl ⟨by kernel_rfl, ?_⟩) E0 ?_
        rotate_left
        · (intro W hS; obtain ⟨k0, k1, k2, k3, -, -⟩ := hS; simp only at k1 k2 k3; go_simp; try (with_reducible rfl))
        refine wpAnyH_take (i := 3) (v := ?_) rfl (by kernel_rfl) (by kernel_rfl) (by kernel_rfl) (fun _ _ _ h => h) (Or.inl ⟨by kernel_rfl, ?_⟩) E0 ?_
        rotate_left
        · (intro W hS; obtain ⟨k0, k1, k2, k3, -, -⟩ := hS; simp only at k1 k2 k3; go_simp; try (with_reducible rfl))
        refine wpAnyH_take (i := 4) (v := ?_) rfl (by kernel_rfl) (by kernel_rfl) (by kernel_rfl) (fun _ _ _ h => h) (Or.inl ⟨by kernel_rfl, ?_⟩) E0 ?_
        rotate_left
        · (intro W hS; obtain ⟨k0, k1, k2, k3, -, -⟩ := hS; simp only at k1 k2 k3; go_simp; try (with_reducible rfl))
        refine wpAnyH_take (i := 5) (v := ?_) rfl (by kernel_rfl) (by kernel_rfl) (by kernel_rfl) (fun _ _ _ h => h) (Or.inl ⟨by kernel_rfl, ?_⟩) E0 ?_
        rotate_left
        · (intro W hS; obtain ⟨k0, k1, k2, k3, -, -⟩ := hS; simp only at k1 k2 k3; go_simp; try (with_reducible rfl))
        refine wpAnyH_take (i := 6) (v := ?_) rfl (by kernel_rfl) (by kernel_rfl) (by kernel_rfl) (fun _ _ _ h => h) (Or.inl ⟨by kernel_rfl, ?_⟩) E0 ?_
        rotate_left
        · (intro W hS; obtain ⟨k0, k1, k2, k3, -, -⟩ := hS; simp only at k1 k2 k3; go_simp; try (with_reducible rfl))
        refine wpAnyH_take (i := 7) (v := ?_) rfl (by kernel_rfl) (by kernel_rfl) (by kernel_rfl) (fun _ _ _ h => h) (Or.inl ⟨by kernel_rfl, ?_⟩) E0 ?_
        rotate_left
        · (intro W hS; obtain ⟨k0, k1, k2, k3, -, -⟩ := hS; simp only at k1 k2 k3; go_simp; try (with_reducible rfl))
        refine wpAnyH_take (i := 9) (v := ?_) rfl (by kernel_rfl) (by kernel_rfl) (by kernel_rfl) (fun _ _ _ h => h) (Or.inl ⟨by kernel_rfl, ?_⟩) E0 ?_
        rotate_left
        · (intro W hS; obtain ⟨k0, k1, k2, k3, -, -⟩ := hS; simp only at k1 k2 k3; go_simp; try (with_reducible rfl))
        refine wpAnyH_ready (rs := [1, 8]) (by kernel_rfl) (by simp) ?_
        refine AllReadyH.cons (i := 1) rfl (fun K hK => ?_) (AllReadyH.cons (i := 8) rfl (fun K hK => ?_) AllReadyH.nil)
        · have qs := LL.pcell.2.1
          go_simp
          refine hK.out _ _ E0 (fun _ => ?_)
          clear hK K qs
          refine wpAnyH_ready (rs := [8]) (by kernel_rfl) (by simp) ?_
          refine AllReadyH.cons (i := 8) rfl (fun K hK => ?_) AllReadyH.nil
          go_simp
          refine (own18_any rx ru rv (by have := HR.out.2.2.1; omega) v0).mono ?_
          rintro e v1 ⟨rfl, hb⟩
          have F1 := F0.trans (hb.mono F0.size)
          have E1 : CellS w.heap.size b (o + at0 * 3) (.slice (some ⟨b, o, none⟩) n cap) ⟨rx, ru, rv⟩ v1 := E0.call hb
          have L0n := LL.call hb
          have FFn := FF.call hb
          clear LL FF
          have LL := L0n
          have FF := FFn
          clear L0n FFn
          refine hK.out _ _ E1 (fun _ => ?_)
          clear hK K hb
          refine wpAnyH_take (i := 10) (v := ?_) rfl (by kernel_rfl) (by kernel_rfl) (by kernel_rfl) (fun _ _ _ h => h) (Or.inl ⟨by kernel_rfl, ?_⟩) E1 ?_
          rotate_left
          · (intro W hS; obtain ⟨k0, k1, k2, k3, -, -⟩ := hS; simp only at k1 k2 k3; go_simp; try (with_reducible rfl))
          refine wpAnyH_ready (rs := [11]) (by kernel_rfl) (by simp) ?_
          refine AllReadyH.cons (i := 11) rfl (fun K hK => ?_) AllReadyH.nil
          obtain ⟨v2, hv⟩ : ∃ v, v = v1.alloc (.cells (shCs ((⟨(at0 : Int), ⟨rx, ru, rv⟩, W0⟩, wa, wc0) : ShW)) 62) := ⟨_, rfl⟩
          have hb : Below v1.heap.size v1 v2 := by rw [hv]; exact (Below.refl _ _).alloc (Nat.le_refl _) _
          have g1 : v2.heap[v1.heap.size]? = some (.cells (shCs ((⟨(at0 : Int), ⟨rx, ru, rv⟩, W0⟩, wa, wc0) : ShW)) 62 (0, 0)) := by rw [hv]; exact heap_alloc_new _ _
          have F2 := F1.trans (hb.mono F1.size)
          have E2 : CellS w.heap.size b (o + at0 * 3) (.slice (some ⟨b, o, none⟩) n cap) ⟨rx, ru, rv⟩ v2 := E1.call hb
          simp only [shCs] at hv; rw [← HR.out.2.2.2.2.2.2.2.1] at hv
          go_simp
          rw [← hv]
          clear hv
          have L1n := LL.call hb
          have FFn := FF.call hb
          clear LL FF
          have LL := L1n
          have FF := FFn
          clear L1n FFn
          refine hK.out _ _ E2 (fun _ => ?_)
          clear hK K hb
          refine wpAnyH_ready (rs := [12]) (by kernel_rfl) (by simp) ?_
          refine AllReadyH.cons (i := 12) rfl (fun K hK => ?_) AllReadyH.nil
          refine step_append_r rfl (.tmp 49) (.tmp 59) 48 rfl arproof_rec shCs_one shCs_size LL.own _ rfl (by kernel_rfl) _ 1 ((⟨(at0 : Int), ⟨rx, ru, rv⟩, W0⟩, wa, wc0) : ShW) (by kernel_rfl) g1 (by have := HR.out.2.2.2.2.2.2.1; have := HM1.out; omega) (by have := LL.size; have := LL.lo; omega) (Below.refl _ _) ?_
          intro q cq v3 ho hB hg hat
          have E2n : CellS w.heap.size b (o + at0 * 3) (.slice (some ⟨b, o, none⟩) n cap) ⟨rx, ru, rv⟩ v3 := E2.same (hg.block _ E2.l1 (fun e => by have := (LL.own.lt _ e.symm).1; omega)) (hg.block _ E2.l2 (fun e => by have := (LL.own.lt _ e.symm).1; have := HR.out.2.2.2.2.2.2.2.2.1; omega)) hg.size
          have hN := LL.add rfl FF ho hg hat
          have zg : v3.heap[gp]? = _ := (hg.block gp LL.size (fun e => LL.ap gp e.symm rfl)).trans LL.row
          have z0 : v3.cell? ⟨gp, 1, none⟩ = some (.slice a rs.length ca) := by rw [cell_of_row _ _ _ _ _ _ zg]; rfl
          have zf : v3.frozen? ⟨gp, 1, none⟩ = false := frozen_of_row _ _ _ _ _ zg
          have EZ : CellS w.heap.size b (o + at0 * 3) (.slice (some ⟨b, o, none⟩) n cap) ⟨rx, ru, rv⟩ (v3.setCell ⟨gp, 1, none⟩ (.slice (some ⟨q, 0, none⟩) (rs.length + 1) cq)) := E2n.same (heap_setCell_other _ _ _ _ (show w.heap.size ≠ gp by have := HR.out.1.lo; omega)) (heap_setCell_other _ _ _ _ (show b ≠ gp by have := HR.out.1.lo; have := HR.out.2.2.2.2.2.2.2.2.1; omega)) (by simp [World.setCell])
          have HN := Lib.hid hN
          clear hN zg ho hB hg hat LL FF
          refine hK.out _ _ E2n (fun _ => ?_)
          clear hK K
          refine wpAnyH_take (i := 13) (v := ?_) rfl (by kernel_rfl) (by kernel_rfl) (by kernel_rfl) (fun _ _ _ h => h) (Or.inl ⟨by kernel_rfl, ?_⟩) E2n ?_
          rotate_left
          · (intro W hS; obtain ⟨k0, k1, k2, k3, -, -⟩ := hS; simp only at k1 k2 k3; go_simp; try (with_reducible rfl))
          refine wpAnyH_ready (rs := [14]) (by kernel_rfl) (by simp) ?_
          refine AllReadyH.cons (i := 14) rfl (fun K hK => ?_) AllReadyH.nil
          go_simp
          refine hK.out _ _ EZ (fun _ => ?_)
          clear hK K z0 zf
          refine wpAnyH_done (by kernel_rfl) ?_ _
          go_simp
          clear EZ
          generalize World.setCell _ _ _ = wz at *
          go_wp2_with fail
          go_roundw
          case rel => exact ⟨k + 1, _, _, cq, by have := HR.out.2.2.2.2.2.2.2.2.2; have := HM1.out; omega, by have := HR.out.2.2.2.2.2.2.2.2.2; go_num, by rw [List.map_append, HR.out.2.2.2.2.2.1, HR.out.2.1]; rfl, HN.out⟩
          case measure => simp [intOf]; omega
        · go_simp
          refine (own18_any rx ru rv (by have := HR.out.2.2.1; omega) v0).mono ?_
          rintro e v1 ⟨rfl, hb⟩
          have F1 := F0.trans (hb.mono F0.size)
          have E1 : CellS w.heap.size b (o + at0 * 3) (.slice (some ⟨b, o, none⟩) n cap) ⟨rx, ru, rv⟩ v1 := E0.call hb
          have L0n := LL.call hb
          have FFn := FF.call hb
          clear LL FF
          have LL := L0n
          have FF := FFn
          clear L0n FFn
          refine hK.out _ _ E1 (fun _ => ?_)
          clear hK K hb
          refine wpAnyH_take (i := 10) (v := ?_) rfl (by kernel_rfl) (by kernel_rfl) (by kernel_rfl) (fun _ _ _ h => h) (Or.inl ⟨by kernel_rfl, ?_⟩) E1 ?_
          rotate_left
          · (intro W hS; obtain ⟨k0, k1, k2, k3, -, -⟩ := hS; simp only at k1 k2 k3; go_simp; try (with_reducible rfl))
          refine wpAnyH_ready (rs := [1, 11]) (by kernel_rfl) (by simp) ?_
          refine AllReadyH.cons (i := 1) rfl (fun K hK => ?_) (AllReadyH.cons (i := 11) rfl (fun K hK => ?_) AllReadyH.nil)
          · have qs := LL.pcell.2.1
            go_simp
            refine hK.out _ _ E1 (fun _ => ?_)
            clear hK K qs
            refine wpAnyH_ready (rs := [11]) (by kernel_rfl) (by simp) ?_
            refine AllReadyH.cons (i := 11) rfl (fun K hK => ?_) AllReadyH.nil
            obtain ⟨v2, hv⟩ : ∃ v, v = v1.alloc (.cells (shCs ((⟨(at0 : Int), ⟨rx, ru, rv⟩, W0⟩, wa, wc0) : ShW)) 62) := ⟨_, rfl⟩
            have hb : Below v1.heap.size v1 v2 := by rw [hv]; exact (Below.refl _ _).alloc (Nat.le_refl _) _
            have g1 : v2.heap[v1.heap.size]? = some (.cells (shCs ((⟨(at0 : Int), ⟨rx, ru, rv⟩, W0⟩, wa, wc0) : ShW)) 62 (0, 0)) := by rw [hv]; exact heap_alloc_new _ _
            have F2 := F1.trans (hb.mono F1.size)
            have E2 : CellS w.heap.size b (o + at0 * 3) (.slice (some ⟨b, o, none⟩) n cap) ⟨rx, ru, rv⟩ v2 := E1.call hb
            simp only [shCs] at hv; rw [← HR.out.2.2.2.2.2.2.2.1] at hv
            go_simp
            rw [← hv]
            clear hv
            have L1n := LL.call hb
            have FFn := FF.call hb
            clear LL FF
            have LL := L1n
            have FF := FFn
            clear L1n FFn
            refine hK.out _ _ E2 (fun _ => ?_)
            clear hK K hb
            refine wpAnyH_ready (rs := [12]) (by kernel_rfl) (by simp) ?_
            refine AllReadyH.cons (i := 12) rfl (fun K hK => ?_) AllReadyH.nil
            refine step_append_r rfl (.tmp 49) (.tmp 59) 48 rfl arproof_rec shCs_one shCs_size LL.own _ rfl (by kernel_rfl) _ 1 ((⟨(at0 : Int), ⟨rx, ru, rv⟩, W0⟩, wa, wc0) : ShW) (by kernel_rfl) g1 (by have := HR.out.2.2.2.2.2.2.1; have := HM1.out; omega) (by have := LL.size; have := LL.lo; omega) (Below.refl _ _) ?_
            intro q cq v3 ho hB hg hat
            have E2n : CellS w.heap.size b (o + at0 * 3) (.slice (some ⟨b, o, none⟩) n cap) ⟨rx, ru, rv⟩ v3 := E2.same (hg.block _ E2.l1 (fun e => by have := (LL.own.lt _ e.symm).1; omega)) (hg.block _ E2.l2 (fun e => by have := (LL.own.lt _ e.symm).1; have := HR.out.2.2.2.2.2.2.2.2.1; omega)) hg.size
            have hN := LL.add rfl FF ho hg hat
            have zg : v3.heap[gp]? = _ := (hg.block gp LL.size (fun e => LL.ap gp e.symm rfl)).trans LL.row
            have z0 : v3.cell? ⟨gp, 1, none⟩ = some (.slice a rs.length ca) := by rw [cell_of_row _ _ _ _ _ _ zg]; rfl
            have zf : v3.frozen? ⟨gp, 1, none⟩ = false := frozen_of_row _ _ _ _ _ zg
            have EZ : CellS w.heap.size b (o + at0 * 3) (.slice (some ⟨b, o, none⟩) n cap) ⟨rx, ru, rv⟩ (v3.setCell ⟨gp, 1, none⟩ (.slice (some ⟨q, 0, none⟩) (rs.length + 1) cq)) := E2n.same (heap_setCell_other _ _ _ _ (show w.heap.size ≠ gp by have := HR.out.1.lo; omega)) (heap_setCell_other _ _ _ _ (show b ≠ gp by have := HR.out.1.lo; have := HR.out.2.2.2.2.2.2.2.2.1; omega)) (by simp [World.setCell])
            have HN := Lib.hid hN
            clear hN zg ho hB hg hat LL FF
            refine hK.out _ _ E2n (fun _ => ?_)
            clear hK K
            refine wpAnyH_take (i := 13) (v := ?_) rfl (by kernel_rfl) (by kernel_rfl) (by kernel_rfl) (fun _ _ _ h => h) (Or.inl ⟨by kernel_rfl, ?_⟩) E2n ?_
            rotate_left
            · (intro W hS; obtain ⟨k0, k1, k2, k3, -, -⟩ := hS; simp only at k1 k2 k3; go_simp; try (with_reducible rfl))
            refine wpAnyH_ready (rs := [14]) (by kernel_rfl) (by simp) ?_
            refine AllReadyH.cons (i := 14) rfl (fun K hK => ?_) AllReadyH.nil
            go_simp
            refine hK.out _ _ EZ (fun _ => ?_)
            clear hK K z0 zf
            refine wpAnyH_done (by kernel_rfl) ?_ _
            go_simp
            clear EZ
            generalize World.setCell _ _ _ = wz at *
            go_wp2_with fail
            go_roundw
            case rel => exact ⟨k + 1, _, _, cq, by have := HR.out.2.2.2.2.2.2.2.2.2; have := HM1.out; omega, by have := HR.out.2.2.2.2.2.2.2.2.2; go_num, by rw [List.map_append, HR.out.2.2.2.2.2.1, HR.out.2.1]; rfl, HN.out⟩
            case measure => simp [intOf]; omega
          · obtain ⟨v2, hv⟩ : ∃ v, v = v1.alloc (.cells (shCs ((⟨(at0 : Int), ⟨rx, ru, rv⟩, W0⟩, wa, wc0) : ShW)) 62) := ⟨_, rfl⟩
            have hb : Below v1.heap.size v1 v2 := by rw [hv]; exact (Below.refl _ _).alloc (Nat.le_refl _) _
            have g1 : v2.heap[v1.heap.size]? = some (.cells (shCs ((⟨(at0 : Int), ⟨rx, ru, rv⟩, W0⟩, wa, wc0) : ShW)) 62 (0, 0)) := by rw [hv]; exact heap_alloc_new _ _
            have F2 := F1.trans (hb.mono F1.size)
            have E2 : CellS w.heap.size b (o + at0 * 3) (.slice (some ⟨b, o, none⟩) n cap) ⟨rx, ru, rv⟩ v2 := E1.call hb
            simp only [shCs] at hv; rw [← HR.out.2.2.2.2.2.2.2.1] at hv
            go_simp
            rw [← hv]
            clear hv
            have L1n := LL.call hb
            have FFn := FF.call hb
            clear LL FF
            have LL := L1n
            have FF := FFn
            clear L1n FFn
            refine hK.out _ _ E2 (fun _ => ?_)
            clear hK K hb
            refine wpAnyH_ready (rs := [1]) (by kernel_rfl) (by simp) ?_
            refine AllReadyH.cons (i := 1) rfl (fun K hK => ?_) AllReadyH.nil
            have qs := LL.pcell.2.1
            go_simp
            refine hK.out _ _ E2 (fun _ => ?_)
            clear hK K qs
            refine wpAnyH_ready (rs := [12]) (by kernel_rfl) (by simp) ?_
            refine AllReadyH.cons (i := 12) rfl (fun K hK => ?_) AllReadyH.nil
            refine step_append_r rfl (.tmp 49) (.tmp 59) 48 rfl arproof_rec shCs_one shCs_size LL.own _ rfl (by kernel_rfl) _ 1 ((⟨(at0 : Int), ⟨rx, ru, rv⟩, W0⟩, wa, wc0) : ShW) (by kernel_rfl) g1 (by have := HR.out.2.2.2.2.2.2.1; have := HM1.out; omega) (by have := LL.size; have := LL.lo; omega) (Below.refl _ _) ?_
            intro q cq v3 ho hB hg hat
            have E2n : CellS w.heap.size b (o + at0 * 3) (.slice (some ⟨b, o, none⟩) n cap) ⟨rx, ru, rv⟩ v3 := E2.same (hg.block _ E2.l1 (fun e => by have := (LL.own.lt _ e.symm).1; omega)) (hg.block _ E2.l2 (fun e => by have := (LL.own.lt _ e.symm).1; have := HR.out.2.2.2.2.2.2.2.2.1; omega)) hg.size
            have hN := LL.add rfl FF ho hg hat
            have zg : v3.heap[gp]? = _ := (hg.block gp LL.size (fun e => LL.ap gp e.symm rfl)).trans LL.row
            have z0 : v3.cell? ⟨gp, 1, none⟩ = some (.slice a rs.length ca) := by rw [cell_of_row _ _ _ _ _ _ zg]; rfl
            have zf : v3.frozen? ⟨gp, 1, none⟩ = false := frozen_of_row _ _ _ _ _ zg
            have EZ : CellS w.heap.size b (o + at0 * 3) (.slice (some ⟨b, o, none⟩) n cap) ⟨rx, ru, rv⟩ (v3.setCell ⟨gp, 1, none⟩ (.slice (some ⟨q, 0, none⟩) (rs.length + 1) cq)) := E2n.same (heap_setCell_other _ _ _ _ (show w.heap.size ≠ gp by have := HR.out.1.lo; omega)) (heap_setCell_other _ _ _ _ (show b ≠ gp by have := HR.out.1.lo; have := HR.out.2.2.2.2.2.2.2.2.1; omega)) (by simp [World.setCell])
            have HN := Lib.hid hN
            clear hN zg ho hB hg hat LL FF
            refine hK.out _ _ E2n (fun _ => ?_)
            clear hK K
            refine wpAnyH_take (i := 13) (v := ?_) rfl (by kernel_rfl) (by kernel_rfl) (by kernel_rfl) (fun _ _ _ h => h) (Or.inl ⟨by kernel_rfl, ?_⟩) E2n ?_
            rotate_left
            · (intro W hS; obtain ⟨k0, k1, k2, k3, -, -⟩ := hS; simp only at k1 k2 k3; go_simp; try (with_reducible rfl))
            refine wpAnyH_ready (rs := [14]) (by kernel_rfl) (by simp) ?_
            refine AllReadyH.cons (i := 14) rfl (fun K hK => ?_) AllReadyH.nil
            go_simp
            refine hK.out _ _ EZ (fun _ => ?_)
            clear hK K z0 zf
            refine wpAnyH_done (by kernel_rfl) ?_ _
            go_simp
            clear EZ
            generalize World.setCell _ _ _ = wz at *
            go_wp2_with fail
            go_roundw
            case rel => exact ⟨k + 1, _, _, cq, by have := HR.out.2.2.2.2.2.2.2.2.2; have := HM1.out; omega, by have := HR.out.2.2.2.2.2.2.2.2.2; go_num, by rw [List.map_append, HR.out.2.2.2.2.2.1, HR.out.2.1]; rfl, HN.out⟩
            case measure => simp [intOf]; omega
      · obtain rfl : k = m1 := by have := HM1.out; omega
        have hL := fun x y => hP.ret x y
        rw [hrs] at hL
        have hcp := hP.own.capy
        obtain ⟨p0, p1, -⟩ := hP.pcell
        obtain ⟨e0, e1, ef⟩ := hP.rcell
        have hne : ¬ gp = w.heap.size + 1 := by have := hP.lo; omega
        rw [hrl] at p1 hcp
        have HE := Lib.hid (And.intro hL (And.intro hP.below hcp))
        clear hL hP hcp hrs hrl hat0
        go_wp2_with fail
        refine bodyPost_ret (v := .agg #[.int .i64 n, .slice a k ca]) (by simp [results, Tryd.results24, go_sem, e0, e1]) rfl ?_
        refine ⟨a, ca, rfl, ?_, HE.out.2.2.1, HE.out.2.2.2, (HE.out.2.1.setCell (p := ⟨w.heap.size + 1, 0, none⟩) (show w.heap.size ≤ w.heap.size + 1 by omega) _).setCell (p := ⟨w.heap.size + 1, 1, none⟩) (show w.heap.size ≤ w.heap.size + 1 by omega) _⟩
        exact HE.out.1 _ _
  | false =>
    have hmx : max ((K : Int) - 1) 0 = (A : Int) := by rw [HF.out.1, if_neg (by decide)]; omega
    obtain ⟨w3, hw3⟩ : ∃ w3, w3 = w2.alloc (.cells #[.int .i64 n, .slice none 0 0] 50) := ⟨_, rfl⟩
    have hb3 : Below w2.heap.size w2 w3 := by rw [hw3]; exact (Below.refl _ _).alloc (Nat.le_refl _) _
    have hg3 : w3.heap[w2.heap.size]? = some (.cells #[.int .i64 n, .slice none 0 0] 50 (0, 0)) := by rw [hw3]; exact heap_alloc_new _ _
    have s2 : w.heap.size + 2 ≤ w2.heap.size := lt_of_heap H2.out.2.2
    have H3 := Lib.hid (And.intro (bcall H2.out.1 hb3 H2.out.1.size) (And.intro ((hb3.block _ (lt_of_heap H2.out.2.1)).trans H2.out.2.1) (And.intro ((hb3.block _ (lt_of_heap H2.out.2.2)).trans H2.out.2.2) hg3)))
    have c3 : w3.cell? ⟨w.heap.size, 0, none⟩ = some (.slice a0 n cap) := by rw [cell_of_row _ _ _ _ _ _ H3.out.2.1]; rfl
    have z3 : w2.heap.size < w3.heap.size := lt_of_heap hg3
    obtain ⟨gp, hgp⟩ : ∃ gp, gp = w2.heap.size := ⟨_, rfl⟩
    rw [← hgp] at H3 s2 z3
    clear hb3 hg3
    go_upto_region 6 with fail
    rw [← hw3, ← hgp]
    clear hw3 hgp c0
    go_wp2_with fail
    refine (H.out.2.2.2.2.2.1 _ H3.out.1).mono ?_
    rintro e w4 ⟨d, dc, rfl, hod, hb4⟩
    have hP4 : PvS w (.slice a0 n cap) n gp [] none 0 d dc LV w4 := by
      refine ⟨s2, (hb4.block _ (lt_of_heap H3.out.2.1)).trans H3.out.2.1, (hb4.block _ (lt_of_heap H3.out.2.2.1)).trans H3.out.2.2.1, (hb4.block _ (lt_of_heap H3.out.2.2.2)).trans H3.out.2.2.2, OwnR.nil _ _ _ _ _, (fun g hg => by cases hg), (fun r hr => by simp at hr), ⟨OwnT.mono hod (by omega), fun g hg => ?_, fun g hg e => by cases e⟩, bcall H3.out.1 hb4 H3.out.1.size⟩
      have := (World.ownsRow.lt hod g hg).1
      omega
    have hLn := H.out.2.2.2.2.2.2.2.2.2.2
    have HP4 := Lib.hid (And.intro hP4 hLn)
    clear hP4 hod hb4 c3 hLn s2 z3
    go_wp2_with fail
    go_loopw [10, 11, 12] (fun v10 _ _ wr => ∃ (k : Nat) (rs : List ShW) (a : Option Addr) (ca : Nat), k ≤ m1 ∧ v10 = .int .i64 ((A + k : Nat) : Int) ∧ rs.map (·.1) = Ix.pRows R A k ∧ PvS w (.slice a0 n cap) n gp rs a ca d dc LV wr) (fun v10 _ _ _ => Z - (intOf v10).toNat)
    case atStart => exact ⟨0, [], none, 0, by omega, rfl, rfl, HP4.out.1⟩
    case round =>
      obtain ⟨k, rs, a, ca, hk, rfl, hrs, hP⟩ := hrel
      have hrl : rs.length = k := by
        have h := congrArg List.length hrs
        rwa [List.length_map, Ix.pRows_length] at h
      obtain ⟨at0, hat0⟩ : ∃ at0, at0 = A + k := ⟨_, rfl⟩
      rw [← hat0]
      by_cases hlt : at0 < Z
      · have hln : at0 < R.length := by have := hn'.out; omega
        obtain ⟨r, hr⟩ : ∃ r, R[at0]? = some r := ⟨_, List.getElem?_eq_getElem hln⟩
        have hsh := Ix.pRows_succ R A k
        rw [← hat0, Ix.shI_at hln, (List.getElem?_eq_some_iff.1 hr).2] at hsh
        have hsz := (H.out.2.2.2.2.2.2.2.2.1 r (List.mem_of_getElem? hr)).1
        obtain ⟨b, o, rfl, hbl, q0, q1, q2⟩ := H.out.1 at0 r hr
        obtain ⟨W0, hW0⟩ : ∃ W0, W0 = Tr.way LV at0 := ⟨_, rfl⟩
        have hwI : wayI LV (at0 : Int) = W0 ∧ wayE LV (at0 : Int) = 0 := by
          have hb : 0 ≤ (at0 : Int) ∧ (at0 : Int) < LV.length := ⟨by omega, by have := HP4.out.2; omega⟩
          refine ⟨?_, if_pos hb⟩
          rw [hW0]
          exact (if_pos hb).trans (by rw [Int.toNat_natCast])
        rw [show Ix.lvs R = LV from H.out.2.2.2.2.2.2.2.2.2.1.symm, ← hW0] at hsh
        have hwy := H.out.2.2.2.2.2.2.1 wr at0 d dc hP.below (OwnT.texts hP.dg.own) (by have := (OwnT.capy hP.dg.own).1; have := HP4.out.2; omega) (OwnT.capy hP.dg.own).2
        rw [hwI.1, hwI.2] at hwy
        obtain ⟨nw, hnw⟩ : ∃ nw, nw = W0.length := ⟨_, rfl⟩
        rw [← hnw] at hwy
        have hCE : CellS w.heap.size b (o + at0 * 3) (.slice (some ⟨b, o, none⟩) n cap) r wr := by
          have hbw : b < wr.heap.size := Nat.lt_of_lt_of_le hbl hP.below.size
          exact ⟨hP.xcell, (hP.below.cell (p := ⟨b, _, none⟩) hbl).trans q0, (hP.below.cell (p := ⟨b, _, none⟩) hbl).trans q1, (hP.below.cell (p := ⟨b, _, none⟩) hbl).trans q2, lt_of_heap hP.box, hbw⟩
        have hatn : at0 < n := by omega
        have HR := Lib.hid (And.intro hP (And.intro hsh (And.intro hsz (And.intro hwy (And.intro hCE (And.intro hrs (And.intro hrl (And.intro hnw (And.intro hbl hat0)))))))))
        clear hP hsh hsz hwy hCE hrs hrl hnw hbl hat0 hr hln q0 q1 q2 hW0 hwI
        go_wp2_with fail
        refine HR.out.2.2.2.1.mono ?_
        rintro e w5 ⟨wa, wc0, rfl, hoW, hb5⟩
        have hP5 := HR.out.1.call hb5
        have hFW : FarT (w.heap.size + 2) gp (Value.slice a rs.length ca).ownBlock wa wc0 W0 w5 := by
          refine ⟨OwnT.mono hoW (by have := HR.out.1.size; have := HR.out.1.lo; omega), fun g hg => ?_, fun g hg e => ?_⟩
          · have := (World.ownsRow.lt hoW g hg).1; have := HR.out.1.size; omega
          · have := (World.ownsRow.lt hoW g hg).1; have := (HR.out.1.own.lt g e).2; omega
        have H5 := Lib.hid (And.intro hP5 (And.intro hFW (HR.out.2.2.2.2.1.call hb5)))
        clear hP5 hFW hoW hb5
        obtain ⟨wo, hwo⟩ : ∃ wo, wo = wr := ⟨_, rfl⟩
        subst hwo
        obtain ⟨rx, ru, rv⟩ := r
        go_upto_region 11 with fail
        go_wp2_with fail
        refine wp_region_held (S := fun W : World => CellS w.heap.size b (o + at0 * 3) (.slice (some ⟨b, o, none⟩) n cap) ⟨rx, ru, rv⟩ W) (by kernel_rfl) ?_
        change wpAnyH _ _ _ _ _ _ _ _ (World.drew _)
        generalize hv0 : World.drew _ = v0
        have E0 : CellS w.heap.size b (o + at0 * 3) (.slice (some ⟨b, o, none⟩) n cap) ⟨rx, ru, rv⟩ v0 := by rw [← hv0]; exact H5.out.2.2.call ((Below.refl _ _).drew)
        have F0 : Below w5.heap.size w5 v0 := by rw [← hv0]; exact ((Below.refl _ _).drew)
        have LL := (show PvS w (.slice (some ⟨b, o, none⟩) n cap) n gp rs a ca d dc LV v0 by rw [← hv0]; exact H5.out.1.call ((Below.refl _ _).drew))
        have FF := (show FarT (w.heap.size + 2) gp (Value.slice a rs.length ca).ownBlock wa wc0 W0 v0 by rw [← hv0]; exact H5.out.2.1.call ((Below.refl _ _).drew))
        clear hv0
        refine wpAnyH_take (i := 0) (v := ?_) rfl (by kernel_rfl) (by kernel_rfl) (by kernel_rfl) (fun _ _ _ h => h) (Or.inl ⟨by kernel_rfl, ?_⟩) E0 ?_
        rotate_left
        · (intro W hS; obtain ⟨k0, k1, k2, k3, -, -⟩ := hS; simp only at k1 k2 k3; go_simp; try (with_reducible rfl))
        refine wpAnyH_take (i := 2) (v := ?_) rfl (by kernel_rfl) (by kernel_rfl) (by kernel_rfl) (fun _ _ _ h => h) (Or.inl ⟨by kernel_rfl, ?_⟩) E0 ?_
        rotate_left
        · (intro W hS; obtain ⟨k0, k1, k2, k3, -, -⟩ := hS; simp only at k1 k2 k3; go_simp; try (with_reducible rfl))
        refine wpAnyH_take (i := 3) (v := ?_) rfl (by kernel_rfl) (by kernel_rfl) (by kernel_rfl) (fun _ _ _ h => h) (Or.inl ⟨by kernel_rfl, ?_⟩) E0 ?_
        rotate_left
        · (intro W hS; obtain ⟨k0, k1, k2, k3, -, -⟩ := hS; simp only at k1 k2 k3; go_simp; try (with_reducible rfl))
        refine wpAnyH_take (i := 4) (v := ?_) rfl (by kernel_rfl) (by kernel_rfl) (by kernel_rfl) (fun _ _ _ h => h) (Or.inl ⟨by kernel_rfl, ?_⟩) E0 ?_
        rotate_left
        · (intro W hS; obtain ⟨k0, k1, k2, k3, -, -⟩ := hS; simp only at k1 k2 k3; go_simp; try (with_reducible rfl))
        refine wpAnyH_take (i := 5) (v := ?_) rfl (by kernel_rfl) (by kernel_rfl) (by kernel_rfl) (fun _ _ _ h => h) (Or.inl ⟨by kernel_rfl, ?_⟩) E0 ?_
        rotate_left
        · (intro W hS; obtain ⟨k0, k1, k2, k3, -, -⟩ := hS; simp only at k1 k2 k3; go_simp; try (with_reducible rfl))
        refine wpAnyH_take (i := 6) (v := ?_) rfl (by kernel_rfl) (by kernel_rfl) (by kernel_rfl) (fun _ _ _ h => h) (Or.inl ⟨by kernel_rfl, ?_⟩) E0 ?_
        rotate_left
        · (intro W hS; obtain ⟨k0, k1, k2, k3, -, -⟩ := hS; simp only at k1 k2 k3; go_simp; try (with_reducible rfl))
        refine wpAnyH_take (i := 7) (v := ?_) rfl (by kernel_rfl) (by kernel_rfl) (by kernel_rfl) (fun _ _ _ h => h) (Or.inl ⟨by kernel_rfl, ?_⟩) E0 ?_
        rotate_left
        · (intro W hS; obtain ⟨k0, k1, k2, k3, -, -⟩ := hS; simp only at k1 k2 k3; go_simp; try (with_reducible rfl))
        refine wpAnyH_take (i := 9) (v := ?_) rfl (by kernel_rfl) (by kernel_rfl) (by kernel_rfl) (fun _ _ _ h => h) (Or.inl ⟨by kernel_rfl, ?_⟩) E0 ?_
        rotate_left
        · (intro W hS; obtain ⟨k0, k1, k2, k3, -, -⟩ := hS; simp only at k1 k2 k3; go_simp; try (with_reducible rfl))
        refine wpAnyH_ready (rs := [1, 8]) (by kernel_rfl) (by simp) ?_
        refine AllReadyH.cons (i := 1) rfl (fun K hK => ?_) (AllReadyH.cons (i := 8) rfl (fun K hK => ?_) AllReadyH.nil)
        · have qs := LL.pcell.2.1
          go_simp
          refine hK.out _ _ E0 (fun _ => ?_)
          clear hK K qs
          refine wpAnyH_ready (rs := [8]) (by kernel_rfl) (by simp) ?_
          refine AllReadyH.cons (i := 8) rfl (fun K hK => ?_) AllReadyH.nil
          go_simp
          refine (own18_any rx ru rv (by have := HR.out.2.2.1; omega) v0).mono ?_
          rintro e v1 ⟨rfl, hb⟩
          have F1 := F0.trans (hb.mono F0.size)
          have E1 : CellS w.heap.size b (o + at0 * 3) (.slice (some ⟨b, o, none⟩) n cap) ⟨rx, ru, rv⟩ v1 := E0.call hb
          have L0n := LL.call hb
          have FFn := FF.call hb
          clear LL FF
          have LL := L0n
          have FF := FFn
          clear L0n FFn
          refine hK.out _ _ E1 (fun _ => ?_)
          clear hK K hb
          refine wpAnyH_take (i := 10) (v := ?_) rfl (by kernel_rfl) (by kernel_rfl) (by kernel_rfl) (fun _ _ _ h => h) (Or.inl ⟨by kernel_rfl, ?_⟩) E1 ?_
          rotate_left
          · (intro W hS; obtain ⟨k0, k1, k2, k3, -, -⟩ := hS; simp only at k1 k2 k3; go_simp; try (with_reducible rfl))
          refine wpAnyH_ready (rs := [11]) (by kernel_rfl) (by simp) ?_
          refine AllReadyH.cons (i := 11) rfl (fun K hK => ?_) AllReadyH.nil
          obtain ⟨v2, hv⟩ : ∃ v, v = v1.alloc (.cells (shCs ((⟨(at0 : Int), ⟨rx, ru, rv⟩, W0⟩, wa, wc0) : ShW)) 62) := ⟨_, rfl⟩
          have hb : Below v1.heap.size v1 v2 := by rw [hv]; exact (Below.refl _ _).alloc (Nat.le_refl _) _
          have g1 : v2.heap[v1.heap.size]? = some (.cells (shCs ((⟨(at0 : Int), ⟨rx, ru, rv⟩, W0⟩, wa, wc0) : ShW)) 62 (0, 0)) := by rw [hv]; exact heap_alloc_new _ _
          have F2 := F1.trans (hb.mono F1.size)
          have E2 : CellS w.heap.size b (o + at0 * 3) (.slice (some ⟨b, o, none⟩) n cap) ⟨rx, ru, rv⟩ v2 := E1.call hb
          simp only [shCs] at hv; rw [← HR.out.2.2.2.2.2.2.2.1] at hv
          go_simp
          rw [← hv]
          clear hv
          have L1n := LL.call hb
          have FFn := FF.call hb
          clear LL FF
          have LL := L1n
          have FF := FFn
          clear L1n FFn
          refine hK.out _ _ E2 (fun _ => ?_)
          clear hK K hb
          refine wpAnyH_ready (rs := [12]) (by kernel_rfl) (by simp) ?_
          refine AllReadyH.cons (i := 12) rfl (fun K hK => ?_) AllReadyH.nil
          refine step_append_r rfl (.tmp 49) (.tmp 59) 48 rfl arproof_rec shCs_one shCs_size LL.own _ rfl (by kernel_rfl) _ 1 ((⟨(at0 : Int), ⟨rx, ru, rv⟩, W0⟩, wa, wc0) : ShW) (by kernel_rfl) g1 (by have := HR.out.2.2.2.2.2.2.1; have := HM1.out; omega) (by have := LL.size; have := LL.lo; omega) (Below.refl _ _) ?_
          intro q cq v3 ho hB hg hat
          have E2n : CellS w.heap.size b (o + at0 * 3) (.slice (some ⟨b, o, none⟩) n cap) ⟨rx, ru, rv⟩ v3 := E2.same (hg.block _ E2.l1 (fun e => by have := (LL.own.lt _ e.symm).1; omega)) (hg.block _ E2.l2 (fun e => by have := (LL.own.lt _ e.symm).1; have := HR.out.2.2.2.2.2.2.2.2.1; omega)) hg.size
          have hN := LL.add rfl FF ho hg hat
          have zg : v3.heap[gp]? = _ := (hg.block gp LL.size (fun e => LL.ap gp e.symm rfl)).trans LL.row
          have z0 : v3.cell? ⟨gp, 1, none⟩ = some (.slice a rs.length ca) := by rw [cell_of_row _ _ _ _ _ _ zg]; rfl
          have zf : v3.frozen? ⟨gp, 1, none⟩ = false := frozen_of_row _ _ _ _ _ zg
          have EZ : CellS w.heap.size b (o + at0 * 3) (.slice (some ⟨b, o, none⟩) n cap) ⟨rx, ru, rv⟩ (v3.setCell ⟨gp, 1, none⟩ (.slice (some ⟨q, 0, none⟩) (rs.length + 1) cq)) := E2n.same (heap_setCell_other _ _ _ _ (show w.heap.size ≠ gp by have := HR.out.1.lo; omega)) (heap_setCell_other _ _ _ _ (show b ≠ gp by have := HR.out.1.lo; have := HR.out.2.2.2.2.2.2.2.2.1; omega)) (by simp [World.setCell])
          have HN := Lib.hid hN
          clear hN zg ho hB hg hat LL FF
          refine hK.out _ _ E2n (fun _ => ?_)
          clear hK K
          refine wpAnyH_take (i := 13) (v := ?_) rfl (by kernel_rfl) (by kernel_rfl) (by kernel_rfl) (fun _ _ _ h => h) (Or.inl ⟨by kernel_rfl, ?_⟩) E2n ?_
          rotate_left
          · (intro W hS; obtain ⟨k0, k1, k2, k3, -, -⟩ := hS; simp only at k1 k2 k3; go_simp; try (with_reducible rfl))
          refine wpAnyH_ready (rs := [14]) (by kernel_rfl) (by simp) ?_
          refine AllReadyH.cons (i := 14) rfl (fun K hK => ?_) AllReadyH.nil
          go_simp
          refine hK.out _ _ EZ (fun _ => ?_)
          clear hK K z0 zf
          refine wpAnyH_done (by kernel_rfl) ?_ _
          go_simp
          clear EZ
          generalize World.setCell _ _ _ = wz at *
          go_wp2_with fail
          go_roundw
          case rel => exact ⟨k + 1, _, _, cq, by have := HR.out.2.2.2.2.2.2.2.2.2; have := HM1.out; omega, by have := HR.out.2.2.2.2.2.2.2.2.2; go_num, by rw [List.map_append, HR.out.2.2.2.2.2.1, HR.out.2.1]; rfl, HN.out⟩
          case measure => simp [intOf]; omega
        · go_simp
          refine (own18_any rx ru rv (by have := HR.out.2.2.1; omega) v0).mono ?_
          rintro e v1 ⟨rfl, hb⟩
          have F1 := F0.trans (hb.mono F0.size)
          have E1 : CellS w.heap.size b (o + at0 * 3) (.slice (some ⟨b, o, none⟩) n cap) ⟨rx, ru, rv⟩ v1 := E0.call hb
          have L0n := LL.call hb
          have FFn := FF.call hb
          clear LL FF
          have LL := L0n
          have FF := FFn
          clear L0n FFn
          refine hK.out _ _ E1 (fun _ => ?_)
          clear hK K hb
          refine wpAnyH_take (i := 10) (v := ?_) rfl (by kernel_rfl) (by kernel_rfl) (by kernel_rfl) (fun _ _ _ h => h) (Or.inl ⟨by kernel_rfl, ?_⟩) E1 ?_
          rotate_left
          · (intro W hS; obtain ⟨k0, k1, k2, k3, -, -⟩ := hS; simp only at k1 k2 k3; go_simp; try (with_reducible rfl))
          refine wpAnyH_ready (rs := [1, 11]) (by kernel_rfl) (by simp) ?_
          refine AllReadyH.cons (i := 1) rfl (fun K hK => ?_) (AllReadyH.cons (i := 11) rfl (fun K hK => ?_) AllReadyH.nil)
          · have qs := LL.pcell.2.1
            go_simp
            refine hK.out _ _ E1 (fun _ => ?_)
            clear hK K qs
            refine wpAnyH_ready (rs := [11]) (by kernel_rfl) (by simp) ?_
            refine AllReadyH.cons (i := 11) rfl (fun K hK => ?_) AllReadyH.nil
            obtain ⟨v2, hv⟩ : ∃ v, v = v1.alloc (.cells (shCs ((⟨(at0 : Int), ⟨rx, ru, rv⟩, W0⟩, wa, wc0) : ShW)) 62) := ⟨_, rfl⟩
            have hb : Below v1.heap.size v1 v2 := by rw [hv]; exact (Below.refl _ _).alloc (Nat.le_refl _) _
            have g1 : v2.heap[v1.heap.size]? = some (.cells (shCs ((⟨(at0 : Int), ⟨rx, ru, rv⟩, W0⟩, wa, wc0) : ShW)) 62 (0, 0)) := by rw [hv]; exact heap_alloc_new _ _
            have F2 := F1.trans (hb.mono F1.size)
            have E2 : CellS w.heap.size b (o + at0 * 3) (.slice (some ⟨b, o, none⟩) n cap) ⟨rx, ru, rv⟩ v2 := E1.call hb
            simp only [shCs] at hv; rw [← HR.out.2.2.2.2.2.2.2.1] at hv
            go_simp
            rw [← hv]
            clear hv
            have L1n := LL.call hb
            have FFn := FF.call hb
            clear LL FF
            have LL := L1n
            have FF := FFn
            clear L1n FFn
            refine hK.out _ _ E2 (fun _ => ?_)
            clear hK K hb
            refine wpAnyH_ready (rs := [12]) (by kernel_rfl) (by simp) ?_
            refine AllReadyH.cons (i := 12) rfl (fun K hK => ?_) AllReadyH.nil
            refine step_append_r rfl (.tmp 49) (.tmp 59) 48 rfl arproof_rec shCs_one shCs_size LL.own _ rfl (by kernel_rfl) _ 1 ((⟨(at0 : Int), ⟨rx, ru, rv⟩, W0⟩, wa, wc0) : ShW) (by kernel_rfl) g1 (by have := HR.out.2.2.2.2.2.2.1; have := HM1.out; omega) (by have := LL.size; have := LL.lo; omega) (Below.refl _ _) ?_
            intro q cq v3 ho hB hg hat
            have E2n : CellS w.heap.size b (o + at0 * 3) (.slice (some ⟨b, o, none⟩) n cap) ⟨rx, ru, rv⟩ v3 := E2.same (hg.block _ E2.l1 (fun e => by have := (LL.own.lt _ e.symm).1; omega)) (hg.block _ E2.l2 (fun e => by have := (LL.own.lt _ e.symm).1; have := HR.out.2.2.2.2.2.2.2.2.1; omega)) hg.size
            have hN := LL.add rfl FF ho hg hat
            have zg : v3.heap[gp]? = _ := (hg.block gp LL.size (fun e => LL.ap gp e.symm rfl)).trans LL.row
            have z0 : v3.cell? ⟨gp, 1, none⟩ = some (.slice a rs.length ca) := by rw [cell_of_row _ _ _ _ _ _ zg]; rfl
            have zf : v3.frozen? ⟨gp, 1, none⟩ = false := frozen_of_row _ _ _ _ _ zg
            have EZ : CellS w.heap.size b (o + at0 * 3) (.slice (some ⟨b, o, none⟩) n cap) ⟨rx, ru, rv⟩ (v3.setCell ⟨gp, 1, none⟩ (.slice (some ⟨q, 0, none⟩) (rs.length + 1) cq)) := E2n.same (heap_setCell_other _ _ _ _ (show w.heap.size ≠ gp by have := HR.out.1.lo; omega)) (heap_setCell_other _ _ _ _ (show b ≠ gp by have := HR.out.1.lo; have := HR.out.2.2.2.2.2.2.2.2.1; omega)) (by simp [World.setCell])
            have HN := Lib.hid hN
            clear hN zg ho hB hg hat LL FF
            refine hK.out _ _ E2n (fun _ => ?_)
            clear hK K
            refine wpAnyH_take (i := 13) (v := ?_) rfl (by kernel_rfl) (by kernel_rfl) (by kernel_rfl) (fun _ _ _ h => h) (Or.inl ⟨by kernel_rfl, ?_⟩) E2n ?_
            rotate_left
            · (intro W hS; obtain ⟨k0, k1, k2, k3, -, -⟩ := hS; simp only at k1 k2 k3; go_simp; try (with_reducible rfl))
            refine wpAnyH_ready (rs := [14]) (by kernel_rfl) (by simp) ?_
            refine AllReadyH.cons (i := 14) rfl (fun K hK => ?_) AllReadyH.nil
            go_simp
            refine hK.out _ _ EZ (fun _ => ?_)
            clear hK K z0 zf
            refine wpAnyH_done (by kernel_rfl) ?_ _
            go_simp
            clear EZ
            generalize World.setCell _ _ _ = wz at *
            go_wp2_with fail
            go_roundw
            case rel => exact ⟨k + 1, _, _, cq, by have := HR.out.2.2.2.2.2.2.2.2.2; have := HM1.out; omega, by have := HR.out.2.2.2.2.2.2.2.2.2; go_num, by rw [List.map_append, HR.out.2.2.2.2.2.1, HR.out.2.1]; rfl, HN.out⟩
            case measure => simp [intOf]; omega
          · obtain ⟨v2, hv⟩ : ∃ v, v = v1.alloc (.cells (shCs ((⟨(at0 : Int), ⟨rx, ru, rv⟩, W0⟩, wa, wc0) : ShW)) 62) := ⟨_, rfl⟩
            have hb : Below v1.heap.size v1 v2 := by rw [hv]; exact (Below.refl _ _).alloc (Nat.le_refl _) _
            have g1 : v2.heap[v1.heap.size]? = some (.cells (shCs ((⟨(at0 : Int), ⟨rx, ru, rv⟩, W0⟩, wa, wc0) : ShW)) 62 (0, 0)) := by rw [hv]; exact heap_alloc_new _ _
            have F2 := F1.trans (hb.mono F1.size)
            have E2 : CellS w.heap.size b (o + at0 * 3) (.slice (some ⟨b, o, none⟩) n cap) ⟨rx, ru, rv⟩ v2 := E1.call hb
            simp only [shCs] at hv; rw [← HR.out.2.2.2.2.2.2.2.1] at hv
            go_simp
            rw [← hv]
            clear hv
            have L1n := LL.call hb
            have FFn := FF.call hb
            clear LL FF
            have LL := L1n
            have FF := FFn
            clear L1n FFn
            refine hK.out _ _ E2 (fun _ => ?_)
            clear hK K hb
            refine wpAnyH_ready (rs := [1]) (by kernel_rfl) (by simp) ?_
            refine AllReadyH.cons (i := 1) rfl (fun K hK => ?_) AllReadyH.nil
            have qs := LL.pcell.2.1
            go_simp
            refine hK.out _ _ E2 (fun _ => ?_)
            clear hK K qs
            refine wpAnyH_ready (rs := [12]) (by kernel_rfl) (by simp) ?_
            refine AllReadyH.cons (i := 12) rfl (fun K hK => ?_) AllReadyH.nil
            refine step_append_r rfl (.tmp 49) (.tmp 59) 48 rfl arproof_rec shCs_one shCs_size LL.own _ rfl (by kernel_rfl) _ 1 ((⟨(at0 : Int), ⟨rx, ru, rv⟩, W0⟩, wa, wc0) : ShW) (by kernel_rfl) g1 (by have := HR.out.2.2.2.2.2.2.1; have := HM1.out; omega) (by have := LL.size; have := LL.lo; omega) (Below.refl _ _) ?_
            intro q cq v3 ho hB hg hat
            have E2n : CellS w.heap.size b (o + at0 * 3) (.slice (some ⟨b, o, none⟩) n cap) ⟨rx, ru, rv⟩ v3 := E2.same (hg.block _ E2.l1 (fun e => by have := (LL.own.lt _ e.symm).1; omega)) (hg.block _ E2.l2 (fun e => by have := (LL.own.lt _ e.symm).1; have := HR.out.2.2.2.2.2.2.2.2.1; omega)) hg.size
            have hN := LL.add rfl FF ho hg hat
            have zg : v3.heap[gp]? = _ := (hg.block gp LL.size (fun e => LL.ap gp e.symm rfl)).trans LL.row
            have z0 : v3.cell? ⟨gp, 1, none⟩ = some (.slice a rs.length ca) := by rw [cell_of_row _ _ _ _ _ _ zg]; rfl
            have zf : v3.frozen? ⟨gp, 1, none⟩ = false := frozen_of_row _ _ _ _ _ zg
            have EZ : CellS w.heap.size b (o + at0 * 3) (.slice (some ⟨b, o, none⟩) n cap) ⟨rx, ru, rv⟩ (v3.setCell ⟨gp, 1, none⟩ (.slice (some ⟨q, 0, none⟩) (rs.length + 1) cq)) := E2n.same (heap_setCell_other _ _ _ _ (show w.heap.size ≠ gp by have := HR.out.1.lo; omega)) (heap_setCell_other _ _ _ _ (show b ≠ gp by have := HR.out.1.lo; have := HR.out.2.2.2.2.2.2.2.2.1; omega)) (by simp [World.setCell])
            have HN := Lib.hid hN
            clear hN zg ho hB hg hat LL FF
            refine hK.out _ _ E2n (fun _ => ?_)
            clear hK K
            refine wpAnyH_take (i := 13) (v := ?_) rfl (by kernel_rfl) (by kernel_rfl) (by kernel_rfl) (fun _ _ _ h => h) (Or.inl ⟨by kernel_rfl, ?_⟩) E2n ?_
            rotate_left
            · (intro W hS; obtain ⟨k0, k1, k2, k3, -, -⟩ := hS; simp only at k1 k2 k3; go_simp; try (with_reducible rfl))
            refine wpAnyH_ready (rs := [14]) (by kernel_rfl) (by simp) ?_
            refine AllReadyH.cons (i := 14) rfl (fun K hK => ?_) AllReadyH.nil
            go_simp
            refine hK.out _ _ EZ (fun _ => ?_)
            clear hK K z0 zf
            refine wpAnyH_done (by kernel_rfl) ?_ _
            go_simp
            clear EZ
            generalize World.setCell _ _ _ = wz at *
            go_wp2_with fail
            go_roundw
            case rel => exact ⟨k + 1, _, _, cq, by have := HR.out.2.2.2.2.2.2.2.2.2; have := HM1.out; omega, by have := HR.out.2.2.2.2.2.2.2.2.2; go_num, by rw [List.map_append, HR.out.2.2.2.2.2.1, HR.out.2.1]; rfl, HN.out⟩
            case measure => simp [intOf]; omega
      · obtain rfl : k = m1 := by have := HM1.out; omega
        have hL := fun x y => hP.ret x y
        rw [hrs] at hL
        have hcp := hP.own.capy
        obtain ⟨p0, p1, -⟩ := hP.pcell
        obtain ⟨e0, e1, ef⟩ := hP.rcell
        have hne : ¬ gp = w.heap.size + 1 := by have := hP.lo; omega
        rw [hrl] at p1 hcp
        have HE := Lib.hid (And.intro hL (And.intro hP.below hcp))
        clear hL hP hcp hrs hrl hat0
        go_wp2_with fail
        refine bodyPost_ret (v := .agg #[.int .i64 n, .slice a k ca]) (by simp [results, Tryd.results24, go_sem, e0, e1]) rfl ?_
        refine ⟨a, ca, rfl, ?_, HE.out.2.2.1, HE.out.2.2.2, (HE.out.2.1.setCell (p := ⟨w.heap.size + 1, 0, none⟩) (show w.heap.size ≤ w.heap.size + 1 by omega) _).setCell (p := ⟨w.heap.size + 1, 1, none⟩) (show w.heap.size ≤ w.heap.size + 1 by omega) _⟩
        exact HE.out.1 _ _
end Go.Proofs.YtdfkpjmljaanpaaDoor
namespace Go.Proofs.YtdfkpjmljaanpaaDoor
open Go.RowKit
open Cn
def ptR (n : Int) (l : List Ix.Sh) : List ByteArray := if n = 0 ∧ l = [] then [Ix.rtT []] else l.flatMap (suI n)
theorem suI_len (n : Int) (s : Ix.Sh) : (suI n s).length ≤ s.way.length + 2 := by
  unfold suI
  cases hc : Ix.clI n s.pl (Tr.leaf (Ix.rwS s.row)) s.way with
  | none => exact Nat.zero_le _
  | some x =>
    obtain ⟨-, -, -, h4⟩ := clI_in hc (Tr.sumE_size _)
    simp only [List.length_cons, List.length_append, List.length_nil, h4]
    omega
theorem flat_len (n : Int) : ∀ l : List Ix.Sh, (∀ s ∈ l, s.way.length ≤ 100000) → (l.flatMap (suI n)).length ≤ l.length * 100002
  | [], _ => Nat.zero_le _
  | s :: l, h => by
    have h1 := suI_len n s
    have h2 := h s (List.mem_cons_self ..)
    have h3 := flat_len n l (fun x hx => h x (List.mem_cons_of_mem _ hx))
    rw [List.flatMap_cons, List.length_append, List.length_cons, Nat.succ_mul]
    omega
theorem cell5p {W : World} {g : Nat} {a b c d e : Value} {T : TypeId} (h : W.heap[g]? = some (.cells #[a, b, c, d, e] T (0, 0))) :
    W.cell? ⟨g, 0, none⟩ = some a ∧ W.cell? ⟨g, 1, none⟩ = some b ∧ W.cell? ⟨g, 2, none⟩ = some c ∧ W.cell? ⟨g, 3, none⟩ = some d ∧ W.cell? ⟨g, 4, none⟩ = some e := by
  refine ⟨?_, ?_, ?_, ?_, ?_⟩ <;> rw [cell_of_row _ _ _ _ _ _ h] <;> rfl
set_option maxRecDepth 100000 in
set_option maxHeartbeats 8000000 in
theorem ptexts_any (n : Int) (l : List Ix.Sh) (a0 : Option Addr) (cap : Nat) (w : World) (hG : Glob w) (hT : ShAt w a0 l) (hm : l.length ≤ 1000) (hok : ∀ s ∈ l, Ix.rwOk s.row ∧ s.way.length ≤ 100000) :
    Calls Tryd.prog 21 #[.agg #[.int .i64 n, .slice a0 l.length cap]] w fun e w' => ∃ a c, e = .returned (.slice a (ptR n l).length c) ∧ TextsAt w' a (ptR n l) ∧ Below w.heap.size w w' := by
  obtain ⟨w1, hw1⟩ : ∃ w1, w1 = w.alloc (.cells #[.int .i64 n, .slice a0 l.length cap] 50) := ⟨_, rfl⟩
  have hb1 : Below w.heap.size w w1 := by rw [hw1]; exact (Below.refl _ _).alloc (Nat.le_refl _) _
  have hz1 : w.heap.size < w1.heap.size := by rw [hw1, World.size_alloc]; exact Nat.lt_succ_self _
  have c0 : w1.cell? ⟨w.heap.size, 0, none⟩ = some (.int .i64 n) := by rw [hw1, cell_of_row _ _ _ _ _ _ (heap_alloc_new _ _)]; rfl
  have c1 : w1.cell? ⟨w.heap.size, 1, none⟩ = some (.slice a0 l.length cap) := by rw [hw1, cell_of_row _ _ _ _ _ _ (heap_alloc_new _ _)]; rfl
  have hrt := fun (W : World) (hb : Below w.heap.size w W) => rootTextX_any [] none 0 W (hG.below hb) (fun j r h => by simp at h) (by simp) (fun r h => by simp at h)
  simp only [List.length_nil] at hrt
  by_cases hA : n = 0 ∧ l = []
  · obtain ⟨rfl, rfl⟩ := hA
    unfold ptR
    rw [if_pos ⟨rfl, rfl⟩]
    obtain ⟨T, hTT⟩ : ∃ T, T = Ix.rtT [] := ⟨_, rfl⟩
    rw [← hTT] at hrt ⊢
    simp only [List.length_nil] at hw1 c1 ⊢
    have H := Lib.hid (And.intro hb1 hrt)
    clear hb1 hrt hz1 hG hT hm hok hTT
    go_enter Tryd.func21, Tryd.ntmps21
    go_upto_region 1 with fail
    rw [← hw1]
    clear hw1
    go_wp2_with fail
    refine (H.out.2 _ H.out.1).mono ?_
    rintro e w2 ⟨rfl, hb2⟩
    have hb2' := bcall H.out.1 hb2 H.out.1.size
    have H2 := Lib.hid (And.intro hb2' (hb2'.alloc hb2'.size (.cells #[.string T] 9)))
    clear hb2 hb2' c0 c1
    go_wp2_with fail
    go_ret
    exact ⟨_, _, rfl, texts_one w2 T, H2.out.2⟩
  · have hpt : ptR n l = l.flatMap (suI n) := if_neg hA
    rw [hpt]
    have hT1 := hT.below hb1
    have hsu := fun (s : Ix.Sh) (wa : Option Addr) (wc : Nat) (h1 : Ix.rwOk s.row ∧ s.way.length ≤ 100000) (h2 : s.way.length ≤ wc) (h3 : wc ≤ maxLen) (W : World) (hb : Below w.heap.size w W) (h4 : TextsAt W wa s.way) => isummed_any n s wa wc h1.1 h1.2 h2 h3 W (hG.below hb) h4
    obtain ⟨N, hN⟩ : ∃ N, N = l.length := ⟨_, rfl⟩
    rw [← hN] at hw1 c1 hm
    rw [← hN]
    have HA := Lib.hid hA
    have H := Lib.hid (And.intro hb1 (And.intro hT1 (And.intro hok (And.intro hsu (And.intro hN hz1)))))
    clear hb1 hT hT1 hok hsu hG hN hz1 hA hpt hrt
    have main : ∀ Z : Bool, Z = false → (if n = 0 then decide (N = 0) else false) = Z → True := fun _ _ _ => trivial
    clear main
    by_cases h0 : n = 0
    · have k0 : (n == 0) = true := by rw [h0]; rfl
      have k1 : ((N : Int) == 0) = false := by
        cases e : ((N : Int) == 0) with
        | false => rfl
        | true =>
          have h2 := eq_of_beq e
          exact absurd ⟨h0, List.eq_nil_of_length_eq_zero (by have := H.out.2.2.2.2.1; omega)⟩ HA.out
      clear h0
      go_enter Tryd.func21, Tryd.ntmps21
      go_upto_region 1 with fail
      rw [← hw1]
      clear hw1
      go_wp2_with fail
      clear k0 k1
      have HC0 := Lib.hid c0
      clear c0 c1
      go_loopw [3, 5, 21] (fun v _ c wr => ∃ (i : Nat) (a : Option Addr) (cp : Nat), i ≤ N ∧ v = .slice a ((l.take i).flatMap (suI n)).length cp ∧ c = .int .i64 i ∧ OwnT w1.heap.size wr a cp ((l.take i).flatMap (suI n)) ∧ Below w1.heap.size w1 wr) (fun _ _ c _ => N - (intOf c).toNat)
      case atStart => exact ⟨0, none, 0, by omega, rfl, rfl, OwnT.nil _ _, Below.refl _ _⟩
      case round =>
        obtain ⟨i, a, cp, hi, rfl, rfl, hO, hb⟩ := hrel
        obtain ⟨M, hM⟩ : ∃ M, M = ((l.take i).flatMap (suI n)).length := ⟨_, rfl⟩
        rw [← hM]
        by_cases hlt : i < N
        · obtain ⟨s, hs⟩ : ∃ s, l[i]? = some s := ⟨l[i]'(by have := H.out.2.2.2.2.1; omega), List.getElem?_eq_getElem (by have := H.out.2.2.2.2.1; omega)⟩
          obtain ⟨b, off, wa, wc, rfl, hbl, d0, d1, d2, d3, d4, h5, h6, h7⟩ := (H.out.2.1.below hb) i s hs
          have hnx : (l.take (i + 1)).flatMap (suI n) = (l.take i).flatMap (suI n) ++ suI n s := by
            rw [List.take_add_one, hs, List.flatMap_append]
            simp
          have hk := H.out.2.2.1 s (List.mem_of_getElem? hs)
          have hM1 : M ≤ i * 100002 := by
            have h1 := flat_len n (l.take i) (fun x hx => (H.out.2.2.1 x (List.mem_of_mem_take hx)).2)
            rw [List.length_take, ← hM] at h1
            exact Nat.le_trans h1 (Nat.mul_le_mul_right _ (Nat.min_le_left _ _))
          have hM2 := suI_len n s
          have hbw : Below w.heap.size w wr := H.out.1.trans (hb.mono H.out.1.size)
          obtain ⟨w3, hw3⟩ : ∃ w3, w3 = wr.alloc (.cells (shCs (s, wa, wc)) 62) := ⟨_, rfl⟩
          have hb3 : Below wr.heap.size wr w3 := by rw [hw3]; exact (Below.refl _ _).alloc (Nat.le_refl _) _
          have hg3 : w3.heap[wr.heap.size]? = some (.cells (shCs (s, wa, wc)) 62 (0, 0)) := by rw [hw3]; exact heap_alloc_new _ _
          have hsm := H.out.2.2.2.1 s wa wc hk h5 h6 w3 (bcall hbw hb3 hbw.size) (h7.below hb3)
          obtain ⟨S, hS⟩ : ∃ S, S = suI n s := ⟨_, rfl⟩
          rw [← hS] at hnx hM2 hsm
          have hSl : S.length ≤ 100002 := by have := hk.2; omega
          have hsc : shCs (s, wa, wc) = #[.int .i64 s.pl, .string s.row.tag, .int .i64 s.row.cnt, .int .i64 s.row.last, .slice wa s.way.length wc] := rfl
          rw [hsc] at hw3 hg3 hsm
          obtain ⟨x0, hx0⟩ : ∃ x, x = s.pl := ⟨_, rfl⟩
          obtain ⟨x1, hx1⟩ : ∃ x, x = s.row.tag := ⟨_, rfl⟩
          obtain ⟨x2, hx2⟩ : ∃ x, x = s.row.cnt := ⟨_, rfl⟩
          obtain ⟨x3, hx3⟩ : ∃ x, x = s.row.last := ⟨_, rfl⟩
          obtain ⟨x4, hx4⟩ : ∃ x, x = s.way.length := ⟨_, rfl⟩
          rw [← hx0, ← hx1, ← hx2, ← hx3, ← hx4] at hw3 hg3 hsm
          rw [← hx0] at d0
          rw [← hx1] at d1
          rw [← hx2] at d2
          rw [← hx3] at d3
          rw [← hx4] at d4
          obtain ⟨e0, e1, e2, e3, e4⟩ := cell5p hg3
          have q0 : w3.cell? ⟨w.heap.size, 0, none⟩ = some (.int .i64 n) := by
            rw [hb3.cell (p := ⟨w.heap.size, 0, none⟩) (Nat.lt_of_lt_of_le H.out.2.2.2.2.2 hb.size), hb.cell (p := ⟨w.heap.size, 0, none⟩) H.out.2.2.2.2.2]
            exact HC0.out
          have HC := Lib.hid (And.intro (hO.call hb3) (And.intro hnx (And.intro hM.symm (And.intro (hb.trans (hb3.mono hb.size)) (And.intro hsm hSl)))))
          have hMb : M ≤ 100002000 := by omega
          clear hO hb hnx hM hbw hb3 hg3 hsm hS hSl hM1 hM2 hsc hx0 hx1 hx2 hx3 hx4 hs hk hbl h5 h6 h7
          go_upto_region 7 with fail
          rw [← hw3]
          clear hw3 d0 d1 d2 d3 d4
          go_wp2_with fail
          refine HC.out.2.2.2.2.1.mono ?_
          rintro e w4 ⟨a4, c4, rfl, ho4, hb4⟩
          have H4 := Lib.hid (And.intro (OwnT.call HC.out.1 hb4) (And.intro ho4.texts (HC.out.2.2.2.1.trans (hb4.mono HC.out.2.2.2.1.size))))
          obtain ⟨sl, hsl⟩ : ∃ sl, sl = S.length := ⟨_, rfl⟩
          have hsb : sl ≤ 100002 := by rw [hsl]; exact HC.out.2.2.2.2.2
          have HS := Lib.hid hsl
          rw [← hsl]
          clear hb4 ho4 e0 e1 e2 e3 e4 q0 hsl
          go_wp2_with (at_builtin; (refine wpList_append_texts rfl (.tmp 25) (.tmp 29) rfl H4.out.1 _ HC.out.2.2.1 rfl _ _ sl S HS.out.symm rfl H4.out.2.1 (by omega) H4.out.2.2.size H4.out.2.2 ?_; intro ad cp w5 ho hb; have HD := Lib.hid (And.intro ho hb); clear ho hb))
          go_roundw
          case rel => exact ⟨i + 1, ad, cp, by omega, by rw [HC.out.2.1, List.length_append, HC.out.2.2.1, ← HS.out], by go_num, by rw [HC.out.2.1]; exact HD.out.1, HD.out.2⟩
          case measure => simp [intOf]; omega
        · obtain rfl : i = N := by omega
          have HF := Lib.hid (And.intro hO (And.intro hb hM))
          have hfull : (l.take i).flatMap (suI n) = l.flatMap (suI n) := by rw [List.take_of_length_le (by have := H.out.2.2.2.2.1; omega)]
          have HG := Lib.hid hfull
          clear hO hb hM hfull
          go_wp2_with fail
          go_ret
          refine ⟨a, cp, ?_, ?_, H.out.1.trans (HF.out.2.1.mono H.out.1.size)⟩
          · rw [← HG.out, ← HF.out.2.2]; rfl
          · have := HF.out.1.texts
            rwa [HG.out] at this
    · have k0 : (n == 0) = false := by
        cases e : (n == 0) with
        | false => rfl
        | true => exact absurd (eq_of_beq e) h0
      clear h0
      go_enter Tryd.func21, Tryd.ntmps21
      go_upto_region 1 with fail
      rw [← hw1]
      clear hw1
      go_wp2_with fail
      clear k0
      have HC0 := Lib.hid c0
      clear c0 c1
      go_loopw [3, 5, 21] (fun v _ c wr => ∃ (i : Nat) (a : Option Addr) (cp : Nat), i ≤ N ∧ v = .slice a ((l.take i).flatMap (suI n)).length cp ∧ c = .int .i64 i ∧ OwnT w1.heap.size wr a cp ((l.take i).flatMap (suI n)) ∧ Below w1.heap.size w1 wr) (fun _ _ c _ => N - (intOf c).toNat)
      case atStart => exact ⟨0, none, 0, by omega, rfl, rfl, OwnT.nil _ _, Below.refl _ _⟩
      case round =>
        obtain ⟨i, a, cp, hi, rfl, rfl, hO, hb⟩ := hrel
        obtain ⟨M, hM⟩ : ∃ M, M = ((l.take i).flatMap (suI n)).length := ⟨_, rfl⟩
        rw [← hM]
        by_cases hlt : i < N
        · obtain ⟨s, hs⟩ : ∃ s, l[i]? = some s := ⟨l[i]'(by have := H.out.2.2.2.2.1; omega), List.getElem?_eq_getElem (by have := H.out.2.2.2.2.1; omega)⟩
          obtain ⟨b, off, wa, wc, rfl, hbl, d0, d1, d2, d3, d4, h5, h6, h7⟩ := (H.out.2.1.below hb) i s hs
          have hnx : (l.take (i + 1)).flatMap (suI n) = (l.take i).flatMap (suI n) ++ suI n s := by
            rw [List.take_add_one, hs, List.flatMap_append]
            simp
          have hk := H.out.2.2.1 s (List.mem_of_getElem? hs)
          have hM1 : M ≤ i * 100002 := by
            have h1 := flat_len n (l.take i) (fun x hx => (H.out.2.2.1 x (List.mem_of_mem_take hx)).2)
            rw [List.length_take, ← hM] at h1
            exact Nat.le_trans h1 (Nat.mul_le_mul_right _ (Nat.min_le_left _ _))
          have hM2 := suI_len n s
          have hbw : Below w.heap.size w wr := H.out.1.trans (hb.mono H.out.1.size)
          obtain ⟨w3, hw3⟩ : ∃ w3, w3 = wr.alloc (.cells (shCs (s, wa, wc)) 62) := ⟨_, rfl⟩
          have hb3 : Below wr.heap.size wr w3 := by rw [hw3]; exact (Below.refl _ _).alloc (Nat.le_refl _) _
          have hg3 : w3.heap[wr.heap.size]? = some (.cells (shCs (s, wa, wc)) 62 (0, 0)) := by rw [hw3]; exact heap_alloc_new _ _
          have hsm := H.out.2.2.2.1 s wa wc hk h5 h6 w3 (bcall hbw hb3 hbw.size) (h7.below hb3)
          obtain ⟨S, hS⟩ : ∃ S, S = suI n s := ⟨_, rfl⟩
          rw [← hS] at hnx hM2 hsm
          have hSl : S.length ≤ 100002 := by have := hk.2; omega
          have hsc : shCs (s, wa, wc) = #[.int .i64 s.pl, .string s.row.tag, .int .i64 s.row.cnt, .int .i64 s.row.last, .slice wa s.way.length wc] := rfl
          rw [hsc] at hw3 hg3 hsm
          obtain ⟨x0, hx0⟩ : ∃ x, x = s.pl := ⟨_, rfl⟩
          obtain ⟨x1, hx1⟩ : ∃ x, x = s.row.tag := ⟨_, rfl⟩
          obtain ⟨x2, hx2⟩ : ∃ x, x = s.row.cnt := ⟨_, rfl⟩
          obtain ⟨x3, hx3⟩ : ∃ x, x = s.row.last := ⟨_, rfl⟩
          obtain ⟨x4, hx4⟩ : ∃ x, x = s.way.length := ⟨_, rfl⟩
          rw [← hx0, ← hx1, ← hx2, ← hx3, ← hx4] at hw3 hg3 hsm
          rw [← hx0] at d0
          rw [← hx1] at d1
          rw [← hx2] at d2
          rw [← hx3] at d3
          rw [← hx4] at d4
          obtain ⟨e0, e1, e2, e3, e4⟩ := cell5p hg3
          have q0 : w3.cell? ⟨w.heap.size, 0, none⟩ = some (.int .i64 n) := by
            rw [hb3.cell (p := ⟨w.heap.size, 0, none⟩) (Nat.lt_of_lt_of_le H.out.2.2.2.2.2 hb.size), hb.cell (p := ⟨w.heap.size, 0, none⟩) H.out.2.2.2.2.2]
            exact HC0.out
          have HC := Lib.hid (And.intro (hO.call hb3) (And.intro hnx (And.intro hM.symm (And.intro (hb.trans (hb3.mono hb.size)) (And.intro hsm hSl)))))
          have hMb : M ≤ 100002000 := by omega
          clear hO hb hnx hM hbw hb3 hg3 hsm hS hSl hM1 hM2 hsc hx0 hx1 hx2 hx3 hx4 hs hk hbl h5 h6 h7
          go_upto_region 7 with fail
          rw [← hw3]
          clear hw3 d0 d1 d2 d3 d4
          go_wp2_with fail
          refine HC.out.2.2.2.2.1.mono ?_
          rintro e w4 ⟨a4, c4, rfl, ho4, hb4⟩
          have H4 := Lib.hid (And.intro (OwnT.call HC.out.1 hb4) (And.intro ho4.texts (HC.out.2.2.2.1.trans (hb4.mono HC.out.2.2.2.1.size))))
          obtain ⟨sl, hsl⟩ : ∃ sl, sl = S.length := ⟨_, rfl⟩
          have hsb : sl ≤ 100002 := by rw [hsl]; exact HC.out.2.2.2.2.2
          have HS := Lib.hid hsl
          rw [← hsl]
          clear hb4 ho4 e0 e1 e2 e3 e4 q0 hsl
          go_wp2_with (at_builtin; (refine wpList_append_texts rfl (.tmp 25) (.tmp 29) rfl H4.out.1 _ HC.out.2.2.1 rfl _ _ sl S HS.out.symm rfl H4.out.2.1 (by omega) H4.out.2.2.size H4.out.2.2 ?_; intro ad cp w5 ho hb; have HD := Lib.hid (And.intro ho hb); clear ho hb))
          go_roundw
          case rel => exact ⟨i + 1, ad, cp, by omega, by rw [HC.out.2.1, List.length_append, HC.out.2.2.1, ← HS.out], by go_num, by rw [HC.out.2.1]; exact HD.out.1, HD.out.2⟩
          case measure => simp [intOf]; omega
        · obtain rfl : i = N := by omega
          have HF := Lib.hid (And.intro hO (And.intro hb hM))
          have hfull : (l.take i).flatMap (suI n) = l.flatMap (suI n) := by rw [List.take_of_length_le (by have := H.out.2.2.2.2.1; omega)]
          have HG := Lib.hid hfull
          clear hO hb hM hfull
          go_wp2_with fail
          go_ret
          refine ⟨a, cp, ?_, ?_, H.out.1.trans (HF.out.2.1.mono H.out.1.size)⟩
          · rw [← HG.out, ← HF.out.2.2]; rfl
          · have := HF.out.1.texts
            rwa [HG.out] at this
end Go.Proofs.YtdfkpjmljaanpaaDoor
namespace Go.Proofs.YtdfkpjmljaanpaaDoor
open Go.RowKit
open Cn
theorem suI_ptS {n : Int} {s : Ix.Sh} (h : Ix.clI n s.pl (Tr.leaf (Ix.rwS s.row)) s.way ≠ none) : suI n s = Ix.ptS n s := by
  unfold suI Ix.ptS
  cases hc : Ix.clI n s.pl (Tr.leaf (Ix.rwS s.row)) s.way with
  | none => exact absurd hc h
  | some x => rfl
theorem flat_su (n : Int) : ∀ l : List Ix.Sh, (∀ s ∈ l, Ix.clI n s.pl (Tr.leaf (Ix.rwS s.row)) s.way ≠ none) → l.flatMap (suI n) = l.flatMap (Ix.ptS n)
  | [], _ => rfl
  | s :: l, h => by
    rw [List.flatMap_cons, List.flatMap_cons, suI_ptS (h s (List.mem_cons_self ..)), flat_su n l (fun x hx => h x (List.mem_cons_of_mem _ hx))]
theorem ptR_ptI (n : Int) (l : List Ix.Sh) (h : ∀ s ∈ l, Ix.clI n s.pl (Tr.leaf (Ix.rwS s.row)) s.way ≠ none) : ptR n l = Ix.ptI n l := by
  have hm : l.flatMap (suI n) = l.flatMap (Ix.ptS n) := by
    exact flat_su n l h
  unfold ptR Ix.ptI
  by_cases hl : l = []
  · subst hl
    by_cases hn : n = 0
    · subst hn; rfl
    · rw [if_neg (fun h => hn h.1), if_pos rfl, if_neg hn]; rfl
  · rw [if_neg (fun h => hl h.2), if_neg hl, hm]
open Tr Ix in
theorem cl_way {rs : List Rw} (hl : rs.length ≤ 4096) {i : Nat} {r : Rw} (h : rs[i]? = some r) : Ix.clI rs.length i (Tr.leaf (Ix.rwS r)) (Tr.way (Ix.lvs rs) i) ≠ none := by
  obtain ⟨hi, rfl⟩ := List.getElem?_eq_some_iff.1 h
  have hw : digB (way (lvs rs) i) = true := digB_iff.2 (way_32 _ _ i rfl (lvs_digs rs))
  obtain ⟨T, lf, hc, -⟩ := climb_way (rs.length - 1) (lvs rs) i (by rw [lvs_length]; omega) (by omega)
  rw [lvs_getD hi] at hc
  unfold clI
  rw [if_pos ⟨by omega, by omega, by omega, by omega, hw⟩, Int.toNat_natCast, Int.toNat_natCast, hc]
  simp
theorem ptR_prv {rs : List Rw} (hl : rs.length ≤ 4096) (t : ByteArray) : ptR rs.length (Ix.prvI rs t) = Ix.ptI rs.length (Ix.prvI rs t) :=
  ptR_ptI _ _ fun s hs => by
    obtain ⟨i, r, hr, rfl⟩ := Ix.prv_mem hs
    exact cl_way hl hr
/-- Of what a proof shows: its rows are an index's, its ways are short. -/
theorem prv_ok {rs : List Rw} (hok : ∀ r ∈ rs, Ix.rwOk r) {t : ByteArray} {s : Ix.Sh} (hs : s ∈ Ix.prvI rs t) : Ix.rwOk s.row := by
  obtain ⟨i, r, hr, rfl⟩ := Ix.prv_mem hs
  exact hok r (List.mem_of_getElem? hr)
end Go.Proofs.YtdfkpjmljaanpaaDoor
namespace Go.Proofs.YtdfkpjmljaanpaaDoor
open Go.RowKit
open Cn
theorem topS_small {n : Int} {t : ByteArray} (h1 : n ≤ 4096) (ht : t.size = 32) : (Ix.topS n t).size ≤ 300 := by
  unfold Ix.topS
  rw [str_size]
  exact Ix.topT_len (by omega) (by omega)
end Go.Proofs.YtdfkpjmljaanpaaDoor
