/- tree.bridge, Bridge; the reference's. -/
import Derived.Test.YtdjhlgodecnidaaDoorTrWay2
namespace Go.Proofs.YtdjhlgodecnidaaDoor
open Go.RowKit
open Tr

theorem own_one {B : Nat} (W : World) (x : ByteArray) (hb : B ≤ W.heap.size) : OwnT B (W.alloc (.cells #[.string x] 9)) (some ⟨W.heap.size, 0, none⟩) 1 [x] :=
  World.ownsRow_lit (e := 9) (size := 1) W #[.string x] 1 hb (by unfold maxLen; decide) rfl
theorem Tr.bridge_length : ∀ (n : Nat) (l : List ByteArray) (m : Nat) (known : Bool), l.length = n → 1 ≤ m → m ≤ n → (bridge l m known).length ≤ n := by
  intro n
  induction n using Nat.strongRecOn with
  | ind n ih =>
    intro l m known hn h1 h2
    by_cases hm : m = l.length
    · subst hm
      rw [bridge_all (by omega)]
      split
      · exact Nat.zero_le _
      · simp; omega
    · have hlt : m < l.length := by omega
      have p1 := hf_pos l.length
      have p2 := hf_lt (n := l.length) (by omega)
      rw [bridge_two h1 hlt]
      split
      · have := ih (hf l.length) (by omega) (l.take (hf l.length)) m known (by rw [List.length_take]; omega) h1 (by omega)
        simp; omega
      · have := ih (l.length - hf l.length) (by omega) (l.drop (hf l.length)) (m - hf l.length) false (by rw [List.length_drop]) (by omega) (by omega)
        simp; omega
set_option maxRecDepth 100000 in
set_option maxHeartbeats 2000000 in
theorem rbridge_any : ∀ (N : Nat) (ss : List ByteArray), ss.length = N → N ≤ 4096 → Digs ss → ∀ (j : Nat) (known : Bool), 1 ≤ j → j ≤ N → ∀ (a0 : Option Addr) (cap : Nat) (w : World), TextsAt w a0 ss → ss.length ≤ cap → cap ≤ maxLen →
    Calls Tryd.prog 65 #[.slice a0 ss.length cap, .int .i64 j, .bool known] w fun e w' => ∃ a c, e = .returned (.slice a (bridge ss j known).length c) ∧ OwnT w.heap.size w' a c (bridge ss j known) ∧ Below w.heap.size w w' := by
  intro N
  induction N using Nat.strongRecOn with
  | ind N ih =>
    intro ss hN hN1 hD j known hj1 hj2 a0 cap w hT hcap hmax
    have hmax0 := hmax
    unfold maxLen at hmax
    by_cases hall : j = ss.length
    · rw [hall, bridge_all (by omega)]
      have hrt := rroot_any _ ss rfl (by omega) hD a0 cap w hT hcap hmax0
      obtain ⟨R, hR⟩ : ∃ R, R = root ss := ⟨_, rfl⟩
      rw [← hR] at hrt ⊢
      obtain ⟨n, hn⟩ : ∃ n, n = ss.length := ⟨_, rfl⟩
      rw [← hn] at hrt ⊢
      have H := Lib.hid hrt
      clear hrt hT hD ih hN hcap hn hR hall
      cases known with
      | true =>
        rw [if_pos rfl]
        go_enter Tryd.func65, Tryd.ntmps65
        go_wp2_with fail
        go_ret
        exact ⟨none, 0, rfl, OwnT.nil _ _, Below.refl _ _⟩
      | false =>
        rw [if_neg (by decide)]
        go_enter Tryd.func65, Tryd.ntmps65
        go_wp2_with fail
        refine H.out.mono ?_
        rintro e w1 ⟨rfl, hb⟩
        go_wp2_with fail
        go_ret
        exact ⟨_, _, rfl, own_one w1 R hb.size, hb.alloc hb.size _⟩
    · have h2 : 2 ≤ ss.length := by omega
      obtain ⟨b, off, rfl, hbl, -⟩ := hT 0 (by omega)
      obtain ⟨k, hk⟩ : ∃ k, k = hf ss.length := ⟨_, rfl⟩
      have k1 := hf_pos ss.length
      have k2 := hf_lt h2
      obtain ⟨n, hn⟩ : ∃ n, n = ss.length := ⟨_, rfl⟩
      have hh := fun W => split_any n (by omega) (by omega) W
      rw [show hf n = k by rw [hk, hn]] at hh
      rw [← hk] at k1 k2
      obtain ⟨p, hp⟩ : ∃ p, p = ss.take k := ⟨_, rfl⟩
      obtain ⟨q, hq⟩ : ∃ q, q = ss.drop k := ⟨_, rfl⟩
      have hpl : p.length = k := by rw [hp, List.length_take]; omega
      have hql : q.length = n - k := by rw [hq, List.length_drop]; omega
      have hDp : Digs p := by rw [hp]; exact hD.take k
      have hDq : Digs q := by rw [hq]; exact hD.drop k
      have tp := fun W (hTW : TextsAt W (some ⟨b, off, none⟩) ss) => (show TextsAt W (some ⟨b, off, none⟩) p by rw [hp]; exact hTW.take k)
      have tq := fun W (hTW : TextsAt W (some ⟨b, off, none⟩) ss) => (show TextsAt W (some ⟨b, off + k, none⟩) q by rw [hq]; exact hTW.drop k)
      by_cases hc : j ≤ k
      · have hwy : bridge ss j known = bridge p j known ++ [root q] := by rw [bridge_two hj1 (by omega), ← hk, if_pos hc, ← hp, ← hq]
        have c1 := fun W (hTW : TextsAt W (some ⟨b, off, none⟩) ss) => ih k (by omega) p hpl (by omega) hDp j known hj1 hc (some ⟨b, off, none⟩) cap W (tp W hTW) (by omega) (by unfold maxLen; omega)
        have c2 := fun W (hTW : TextsAt W (some ⟨b, off, none⟩) ss) => rroot_any (n - k) q hql (by omega) hDq (some ⟨b, off + k, none⟩) (cap - k) W (tq W hTW) (by omega) (by unfold maxLen; omega)
        rw [hpl] at c1
        rw [hql] at c2
        have hwl := Tr.bridge_length _ p j known hpl hj1 hc
        obtain ⟨R2, hR2⟩ : ∃ R, R = root q := ⟨_, rfl⟩
        obtain ⟨Y, hY⟩ : ∃ Y, Y = bridge p j known := ⟨_, rfl⟩
        rw [← hR2] at c2 hwy
        rw [← hY] at c1 hwy hwl
        obtain ⟨m, hm⟩ : ∃ m, m = n - k := ⟨_, rfl⟩
        obtain ⟨cq, hcq⟩ : ∃ c, c = cap - k := ⟨_, rfl⟩
        rw [← hm, ← hcq] at c2
        have f12 : ((j : Int) ≤ (k : Int)) := by omega
        have f14 : ((j : Int) == (n : Int)) = false := by simp; omega
        obtain ⟨y, hy⟩ : ∃ y, y = Y.length := ⟨_, rfl⟩
        have hy1 : y ≤ 1000000 := by omega
        rw [← hy] at c1
        rw [hwy, List.length_append, List.length_singleton, ← hy, ← hn]
        have f1 : (k : Int) ≤ (n : Int) := by omega
        have f2 : (n : Int) - (k : Int) = (m : Int) := by omega
        have f3 : (cap : Int) - (k : Int) = (cq : Int) := by omega
        have f4 : n - k = m := hm.symm
        have f5 : cap - k = cq := hcq.symm
        have f6 : ¬ (cap = k) := by omega
        have f7 : n ≤ cap := by omega
        have f8 : k ≤ n := by omega
        have f9 : k ≤ cap := by omega
        have f10 : 2 ≤ n := by omega
        have e0 : ((n : Int) == 0) = false := by simp; omega
        have e1 : ((n : Int) == 1) = false := by simp; omega
        have H := Lib.hid (And.intro hh (And.intro c1 (And.intro c2 (And.intro hT (And.intro hy hwl)))))
        clear hh c1 c2 hT ih hN hD hp hq hpl hql hR2 hY hwy hwl h2 hcap hk hn hm hcq k1 k2 hDp hDq tp tq hy hmax0 hall
        go_enter Tryd.func65, Tryd.ntmps65
        go_wp2_with fail
        refine (H.out.1 _).mono ?_
        rintro e w1 ⟨rfl, rfl⟩
        go_wp2_with fail
        refine (H.out.2.1 _ H.out.2.2.2.1).mono ?_
        rintro e w2 ⟨a1, c1, rfl, hO, hb⟩
        have HA := Lib.hid (And.intro hO hb)
        clear hO hb
        go_wp2_with fail
        refine (H.out.2.2.1 _ (H.out.2.2.2.1.below HA.out.2)).mono ?_
        rintro e w3 ⟨rfl, hb⟩
        have HC := Lib.hid (And.intro (OwnT.alloc (OwnT.call HA.out.1 hb) (.cells #[.string R2] 9)) ((HA.out.2.trans (hb.mono HA.out.2.size)).alloc (HA.out.2.trans (hb.mono HA.out.2.size)).size (.cells #[.string R2] 9)))
        clear hb
        go_wp2_with (at_builtin; (refine wpList_append_texts rfl (.tmp 30) (.tmp 35) rfl HC.out.1 _ H.out.2.2.2.2.1.symm rfl _ _ 1 [R2] rfl rfl (texts_one w3 R2) (by omega) HC.out.2.size HC.out.2 ?_; intro ad cp w4 ho hb; have HD := Lib.hid (And.intro ho hb); clear ho hb))
        go_ret
        exact ⟨_, _, rfl, HD.out.1, HD.out.2⟩
      · have hwy : bridge ss j known = bridge q (j - k) false ++ [root p] := by rw [bridge_two hj1 (by omega), ← hk, if_neg hc, ← hp, ← hq]
        have c1 := fun W (hTW : TextsAt W (some ⟨b, off, none⟩) ss) => ih (n - k) (by omega) q hql (by omega) hDq (j - k) false (by omega) (by omega) (some ⟨b, off + k, none⟩) (cap - k) W (tq W hTW) (by omega) (by unfold maxLen; omega)
        have c2 := fun W (hTW : TextsAt W (some ⟨b, off, none⟩) ss) => rroot_any k p hpl (by omega) hDp (some ⟨b, off, none⟩) cap W (tp W hTW) (by omega) (by unfold maxLen; omega)
        rw [hql] at c1
        rw [hpl] at c2
        have hwl := Tr.bridge_length _ q (j - k) false hql (by omega) (by omega)
        obtain ⟨R2, hR2⟩ : ∃ R, R = root p := ⟨_, rfl⟩
        obtain ⟨Y, hY⟩ : ∃ Y, Y = bridge q (j - k) false := ⟨_, rfl⟩
        rw [← hR2] at c2 hwy
        rw [← hY] at c1 hwy hwl
        obtain ⟨m, hm⟩ : ∃ m, m = n - k := ⟨_, rfl⟩
        obtain ⟨cq, hcq⟩ : ∃ c, c = cap - k := ⟨_, rfl⟩
        obtain ⟨ik, hik⟩ : ∃ x, x = j - k := ⟨_, rfl⟩
        rw [← hm, ← hcq, ← hik] at c1
        have f11 : (j : Int) - (k : Int) = (ik : Int) := by omega
        have f13 : IntKind.i64.wrap ((j : Int) - (k : Int)) = (ik : Int) := by rw [f11]; exact IntWalk.i64_in _ (by omega)
        have f12 : ¬ ((j : Int) ≤ (k : Int)) := by omega
        have f14 : ((j : Int) == (n : Int)) = false := by simp; omega
        obtain ⟨y, hy⟩ : ∃ y, y = Y.length := ⟨_, rfl⟩
        have hy1 : y ≤ 1000000 := by omega
        rw [← hy] at c1
        rw [hwy, List.length_append, List.length_singleton, ← hy, ← hn]
        have f1 : (k : Int) ≤ (n : Int) := by omega
        have f2 : (n : Int) - (k : Int) = (m : Int) := by omega
        have f3 : (cap : Int) - (k : Int) = (cq : Int) := by omega
        have f4 : n - k = m := hm.symm
        have f5 : cap - k = cq := hcq.symm
        have f6 : ¬ (cap = k) := by omega
        have f7 : n ≤ cap := by omega
        have f8 : k ≤ n := by omega
        have f9 : k ≤ cap := by omega
        have f10 : 2 ≤ n := by omega
        have e0 : ((n : Int) == 0) = false := by simp; omega
        have e1 : ((n : Int) == 1) = false := by simp; omega
        clear f11
        have H := Lib.hid (And.intro hh (And.intro c1 (And.intro c2 (And.intro hT (And.intro hy hwl)))))
        clear hh c1 c2 hT ih hN hD hp hq hpl hql hR2 hY hwy hwl h2 hcap hk hn hm hcq k1 k2 hDp hDq tp tq hy hmax0 hall hik
        go_enter Tryd.func65, Tryd.ntmps65
        go_wp2_with fail
        refine (H.out.1 _).mono ?_
        rintro e w1 ⟨rfl, rfl⟩
        go_wp2_with fail
        refine (H.out.2.1 _ H.out.2.2.2.1).mono ?_
        rintro e w2 ⟨a1, c1, rfl, hO, hb⟩
        have HA := Lib.hid (And.intro hO hb)
        clear hO hb
        go_wp2_with fail
        refine (H.out.2.2.1 _ (H.out.2.2.2.1.below HA.out.2)).mono ?_
        rintro e w3 ⟨rfl, hb⟩
        have HC := Lib.hid (And.intro (OwnT.alloc (OwnT.call HA.out.1 hb) (.cells #[.string R2] 9)) ((HA.out.2.trans (hb.mono HA.out.2.size)).alloc (HA.out.2.trans (hb.mono HA.out.2.size)).size (.cells #[.string R2] 9)))
        clear hb
        go_wp2_with (at_builtin; (refine wpList_append_texts rfl (.tmp 45) (.tmp 50) rfl HC.out.1 _ H.out.2.2.2.2.1.symm rfl _ _ 1 [R2] rfl rfl (texts_one w3 R2) (by omega) HC.out.2.size HC.out.2 ?_; intro ad cp w4 ho hb; have HD := Lib.hid (And.intro ho hb); clear ho hb))
        go_ret
        exact ⟨_, _, rfl, HD.out.1, HD.out.2⟩
set_option maxRecDepth 100000 in
set_option maxHeartbeats 2000000 in
theorem bridge_any : ∀ (N : Nat) (ss : List ByteArray), ss.length = N → N ≤ 4096 → Digs ss → ∀ (j : Nat) (known : Bool), 1 ≤ j → j ≤ N → ∀ (a0 : Option Addr) (cap : Nat) (w : World), Glob w → TextsAt w a0 ss → ss.length ≤ cap → cap ≤ maxLen →
    Calls Tryd.prog 64 #[.slice a0 ss.length cap, .int .i64 j, .bool known] w fun e w' => ∃ a c, e = .returned (.slice a (bridge ss j known).length c) ∧ OwnT w.heap.size w' a c (bridge ss j known) ∧ Below w.heap.size w w' := by
  intro N
  induction N using Nat.strongRecOn with
  | ind N ih =>
    intro ss hN hN1 hD j known hj1 hj2 a0 cap w hG hT hcap hmax
    have hmax0 := hmax
    unfold maxLen at hmax
    by_cases hall : j = ss.length
    · rw [hall, bridge_all (by omega)]
      have hrt := root_any _ ss rfl (by omega) hD a0 cap w hG hT hcap hmax0
      obtain ⟨R, hR⟩ : ∃ R, R = root ss := ⟨_, rfl⟩
      rw [← hR] at hrt ⊢
      obtain ⟨n, hn⟩ : ∃ n, n = ss.length := ⟨_, rfl⟩
      rw [← hn] at hrt ⊢
      have H := Lib.hid hrt
      clear hrt hT hD ih hN hcap hn hR hall
      cases known with
      | true =>
        rw [if_pos rfl]
        go_enter Tryd.func64, Tryd.ntmps64
        go_wp2_with fail
        go_ret
        exact ⟨none, 0, rfl, OwnT.nil _ _, Below.refl _ _⟩
      | false =>
        rw [if_neg (by decide)]
        go_enter Tryd.func64, Tryd.ntmps64
        go_wp2_with fail
        refine H.out.mono ?_
        rintro e w1 ⟨rfl, hb⟩
        go_wp2_with fail
        go_ret
        exact ⟨_, _, rfl, own_one w1 R hb.size, hb.alloc hb.size _⟩
    · have h2 : 2 ≤ ss.length := by omega
      obtain ⟨b, off, rfl, hbl, -⟩ := hT 0 (by omega)
      obtain ⟨k, hk⟩ : ∃ k, k = hf ss.length := ⟨_, rfl⟩
      have k1 := hf_pos ss.length
      have k2 := hf_lt h2
      obtain ⟨n, hn⟩ : ∃ n, n = ss.length := ⟨_, rfl⟩
      have hh := fun W => half_any n (by omega) (by omega) W
      rw [show hf n = k by rw [hk, hn]] at hh
      rw [← hk] at k1 k2
      obtain ⟨p, hp⟩ : ∃ p, p = ss.take k := ⟨_, rfl⟩
      obtain ⟨q, hq⟩ : ∃ q, q = ss.drop k := ⟨_, rfl⟩
      have hpl : p.length = k := by rw [hp, List.length_take]; omega
      have hql : q.length = n - k := by rw [hq, List.length_drop]; omega
      have hDp : Digs p := by rw [hp]; exact hD.take k
      have hDq : Digs q := by rw [hq]; exact hD.drop k
      have tp := fun W (hTW : TextsAt W (some ⟨b, off, none⟩) ss) => (show TextsAt W (some ⟨b, off, none⟩) p by rw [hp]; exact hTW.take k)
      have tq := fun W (hTW : TextsAt W (some ⟨b, off, none⟩) ss) => (show TextsAt W (some ⟨b, off + k, none⟩) q by rw [hq]; exact hTW.drop k)
      by_cases hc : j ≤ k
      · have hwy : bridge ss j known = bridge p j known ++ [root q] := by rw [bridge_two hj1 (by omega), ← hk, if_pos hc, ← hp, ← hq]
        have c1 := fun W (hGW : Glob W) (hTW : TextsAt W (some ⟨b, off, none⟩) ss) => ih k (by omega) p hpl (by omega) hDp j known hj1 hc (some ⟨b, off, none⟩) cap W hGW (tp W hTW) (by omega) (by unfold maxLen; omega)
        have c2 := fun W (hGW : Glob W) (hTW : TextsAt W (some ⟨b, off, none⟩) ss) => root_any (n - k) q hql (by omega) hDq (some ⟨b, off + k, none⟩) (cap - k) W hGW (tq W hTW) (by omega) (by unfold maxLen; omega)
        rw [hpl] at c1
        rw [hql] at c2
        have hwl := Tr.bridge_length _ p j known hpl hj1 hc
        obtain ⟨R2, hR2⟩ : ∃ R, R = root q := ⟨_, rfl⟩
        obtain ⟨Y, hY⟩ : ∃ Y, Y = bridge p j known := ⟨_, rfl⟩
        rw [← hR2] at c2 hwy
        rw [← hY] at c1 hwy hwl
        obtain ⟨m, hm⟩ : ∃ m, m = n - k := ⟨_, rfl⟩
        obtain ⟨cq, hcq⟩ : ∃ c, c = cap - k := ⟨_, rfl⟩
        rw [← hm, ← hcq] at c2
        have f12 : ((j : Int) ≤ (k : Int)) := by omega
        have f14 : ((j : Int) == (n : Int)) = false := by simp; omega
        obtain ⟨y, hy⟩ : ∃ y, y = Y.length := ⟨_, rfl⟩
        have hy1 : y ≤ 1000000 := by omega
        rw [← hy] at c1
        rw [hwy, List.length_append, List.length_singleton, ← hy, ← hn]
        have f1 : (k : Int) ≤ (n : Int) := by omega
        have f2 : (n : Int) - (k : Int) = (m : Int) := by omega
        have f3 : (cap : Int) - (k : Int) = (cq : Int) := by omega
        have f4 : n - k = m := hm.symm
        have f5 : cap - k = cq := hcq.symm
        have f6 : ¬ (cap = k) := by omega
        have f7 : n ≤ cap := by omega
        have f8 : k ≤ n := by omega
        have f9 : k ≤ cap := by omega
        have f10 : 2 ≤ n := by omega
        have e0 : ((n : Int) == 0) = false := by simp; omega
        have e1 : ((n : Int) == 1) = false := by simp; omega
        have H := Lib.hid (And.intro hh (And.intro c1 (And.intro c2 (And.intro hT (And.intro hy hwl)))))
        clear hh c1 c2 hT ih hN hD hp hq hpl hql hR2 hY hwy hwl h2 hcap hk hn hm hcq k1 k2 hDp hDq tp tq hy hmax0 hall
        go_enter Tryd.func64, Tryd.ntmps64
        go_wp2_with fail
        refine (H.out.1 _).mono ?_
        rintro e w1 ⟨rfl, rfl⟩
        have E0 := trivial
        have F0 := (Below.refl w1.heap.size w1).drew
        go_wp2_with fail
        refine wp_region_held (S := fun W => True) (by kernel_rfl) ?_
        change wpAnyH _ _ _ _ _ _ _ _ (World.drew _)
        generalize World.drew _ = v0 at *
        refine wpAnyH_take (i := 0) (v := ?_) rfl (by kernel_rfl) (by kernel_rfl) (by kernel_rfl) (fun _ _ _ h => h) (Or.inl ⟨by kernel_rfl, ?_⟩) E0 ?_
        rotate_left
        · (intro W hS; clear hS; go_simp; try (with_reducible rfl))
        refine wpAnyH_take (i := 1) (v := ?_) rfl (by kernel_rfl) (by kernel_rfl) (by kernel_rfl) (fun _ _ _ h => h) (Or.inl ⟨by kernel_rfl, ?_⟩) E0 ?_
        rotate_left
        · (intro W hS; clear hS; go_simp; try (with_reducible rfl))
        refine wpAnyH_take (i := 2) (v := ?_) rfl (by kernel_rfl) (by kernel_rfl) (by kernel_rfl) (fun _ _ _ h => h) (Or.inl ⟨by kernel_rfl, ?_⟩) E0 ?_
        rotate_left
        · (intro W hS; clear hS; go_simp; try (with_reducible rfl))
        refine wpAnyH_take (i := 3) (v := ?_) rfl (by kernel_rfl) (by kernel_rfl) (by kernel_rfl) (fun _ _ _ h => h) (Or.inl ⟨by kernel_rfl, ?_⟩) E0 ?_
        rotate_left
        · (intro W hS; clear hS; go_simp; try (with_reducible rfl))
        refine wpAnyH_take (i := 4) (v := ?_) rfl (by kernel_rfl) (by kernel_rfl) (by kernel_rfl) (fun _ _ _ h => h) (Or.inl ⟨by kernel_rfl, ?_⟩) E0 ?_
        rotate_left
        · (intro W hS; clear hS; go_simp; try (with_reducible rfl))
        refine wpAnyH_take (i := 6) (v := ?_) rfl (by kernel_rfl) (by kernel_rfl) (by kernel_rfl) (fun _ _ _ h => h) (Or.inl ⟨by kernel_rfl, ?_⟩) E0 ?_
        rotate_left
        · (intro W hS; clear hS; go_simp; try (with_reducible rfl))
        refine wpAnyH_take (i := 7) (v := ?_) rfl (by kernel_rfl) (by kernel_rfl) (by kernel_rfl) (fun _ _ _ h => h) (Or.inl ⟨by kernel_rfl, ?_⟩) E0 ?_
        rotate_left
        · (intro W hS; clear hS; go_simp; try (with_reducible rfl))
        refine wpAnyH_take (i := 8) (v := ?_) rfl (by kernel_rfl) (by kernel_rfl) (by kernel_rfl) (fun _ _ _ h => h) (Or.inl ⟨by kernel_rfl, ?_⟩) E0 ?_
        rotate_left
        · (intro W hS; clear hS; go_simp; try (with_reducible rfl))
        refine wpAnyH_ready (rs := [5]) (by kernel_rfl) (by simp) ?_
        refine AllReadyH.cons rfl (fun K hK => ?_) AllReadyH.nil
        go_simp
        refine (H.out.2.1 v0 (hG.below F0) (H.out.2.2.2.1.below F0)).mono ?_
        rintro e v1 ⟨a1, c1, rfl, hO, hb⟩
        have hOO := OwnT.mono hO F0.size
        clear hO
        have F1 := F0.trans (hb.mono F0.size)
        have E1 : True := trivial
        refine hK.out _ _ E1 (fun _ => ?_)
        clear hK K hb
        refine wpAnyH_ready (rs := [9]) (by kernel_rfl) (by simp) ?_
        refine AllReadyH.cons rfl (fun K hK => ?_) AllReadyH.nil
        go_simp
        refine (H.out.2.2.1 v1 (hG.below F1) (H.out.2.2.2.1.below F1)).mono ?_
        rintro e v2 ⟨rfl, hb⟩
        have hO2 := OwnT.call hOO hb
        clear hOO
        have F2 := F1.trans (hb.mono F1.size)
        have E2 : True := trivial
        refine hK.out _ _ E2 (fun _ => ?_)
        clear hK K hb
        refine wpAnyH_ready (rs := [10]) (by kernel_rfl) (by simp) ?_
        refine AllReadyH.cons rfl (fun K hK => ?_) AllReadyH.nil
        go_simp
        have hn3 := texts_one v2 R2
        obtain ⟨v3, hv⟩ : ∃ v, v = v2.alloc (.cells #[.string R2] 9) := ⟨_, rfl⟩
        have hb : Below v2.heap.size v2 v3 := by rw [hv]; exact (Below.refl _ _).alloc (Nat.le_refl _) _
        rw [← hv] at hn3 ⊢
        clear hv
        have F3 := F2.trans (hb.mono F2.size)
        have E3 : True := trivial
        have hO3 := OwnT.call hO2 hb
        refine hK.out _ _ trivial (fun _ => ?_)
        clear hK K hb hO2
        refine wpAnyH_ready (rs := [11]) (by kernel_rfl) (by simp) ?_
        refine AllReadyH.cons rfl (fun K hK => ?_) AllReadyH.nil
        refine step_append_texts rfl (.tmp 35) (.tmp 40) rfl (hO3) _ (H.out.2.2.2.2.1.symm) rfl _ _ 1 ([R2]) rfl rfl (hn3) (by omega) F3.size F3 ?_
        intro ad4 cp4 v4 ho4 F4
        try go_simp
        refine hK.out _ _ trivial (fun _ => ?_)
        clear hK K hO3 hn3
        have E4 : True := trivial
        refine wpAnyH_take (i := 12) (v := ?_) rfl (by kernel_rfl) (by kernel_rfl) (by kernel_rfl) (fun _ _ _ h => h) (Or.inl ⟨by kernel_rfl, ?_⟩) E4 ?_
        rotate_left
        · (intro W hS; clear hS; go_simp; try (with_reducible rfl))
        refine wpAnyH_done (by kernel_rfl) ?_ _
        go_simp
        have HF := Lib.hid (And.intro F4 ho4)
        clear E0 F0 E1 F1 E2 F2 E3 F3 E4 F4 ho4
        go_wp2_with fail
        go_ret
        refine ⟨_, _, rfl, HF.out.2, HF.out.1⟩
      · have hwy : bridge ss j known = bridge q (j - k) false ++ [root p] := by rw [bridge_two hj1 (by omega), ← hk, if_neg hc, ← hp, ← hq]
        have c1 := fun W (hGW : Glob W) (hTW : TextsAt W (some ⟨b, off, none⟩) ss) => ih (n - k) (by omega) q hql (by omega) hDq (j - k) false (by omega) (by omega) (some ⟨b, off + k, none⟩) (cap - k) W hGW (tq W hTW) (by omega) (by unfold maxLen; omega)
        have c2 := fun W (hGW : Glob W) (hTW : TextsAt W (some ⟨b, off, none⟩) ss) => root_any k p hpl (by omega) hDp (some ⟨b, off, none⟩) cap W hGW (tp W hTW) (by omega) (by unfold maxLen; omega)
        rw [hql] at c1
        rw [hpl] at c2
        have hwl := Tr.bridge_length _ q (j - k) false hql (by omega) (by omega)
        obtain ⟨R2, hR2⟩ : ∃ R, R = root p := ⟨_, rfl⟩
        obtain ⟨Y, hY⟩ : ∃ Y, Y = bridge q (j - k) false := ⟨_, rfl⟩
        rw [← hR2] at c2 hwy
        rw [← hY] at c1 hwy hwl
        obtain ⟨m, hm⟩ : ∃ m, m = n - k := ⟨_, rfl⟩
        obtain ⟨cq, hcq⟩ : ∃ c, c = cap - k := ⟨_, rfl⟩
        obtain ⟨ik, hik⟩ : ∃ x, x = j - k := ⟨_, rfl⟩
        rw [← hm, ← hcq, ← hik] at c1
        have f11 : (j : Int) - (k : Int) = (ik : Int) := by omega
        have f13 : IntKind.i64.wrap ((j : Int) - (k : Int)) = (ik : Int) := by rw [f11]; exact IntWalk.i64_in _ (by omega)
        have f12 : ¬ ((j : Int) ≤ (k : Int)) := by omega
        have f14 : ((j : Int) == (n : Int)) = false := by simp; omega
        obtain ⟨y, hy⟩ : ∃ y, y = Y.length := ⟨_, rfl⟩
        have hy1 : y ≤ 1000000 := by omega
        rw [← hy] at c1
        rw [hwy, List.length_append, List.length_singleton, ← hy, ← hn]
        have f1 : (k : Int) ≤ (n : Int) := by omega
        have f2 : (n : Int) - (k : Int) = (m : Int) := by omega
        have f3 : (cap : Int) - (k : Int) = (cq : Int) := by omega
        have f4 : n - k = m := hm.symm
        have f5 : cap - k = cq := hcq.symm
        have f6 : ¬ (cap = k) := by omega
        have f7 : n ≤ cap := by omega
        have f8 : k ≤ n := by omega
        have f9 : k ≤ cap := by omega
        have f10 : 2 ≤ n := by omega
        have e0 : ((n : Int) == 0) = false := by simp; omega
        have e1 : ((n : Int) == 1) = false := by simp; omega
        clear f11
        have H := Lib.hid (And.intro hh (And.intro c1 (And.intro c2 (And.intro hT (And.intro hy hwl)))))
        clear hh c1 c2 hT ih hN hD hp hq hpl hql hR2 hY hwy hwl h2 hcap hk hn hm hcq k1 k2 hDp hDq tp tq hy hmax0 hall hik
        go_enter Tryd.func64, Tryd.ntmps64
        go_wp2_with fail
        refine (H.out.1 _).mono ?_
        rintro e w1 ⟨rfl, rfl⟩
        have E0 := trivial
        have F0 := (Below.refl w1.heap.size w1).drew
        go_wp2_with fail
        refine wp_region_held (S := fun W => True) (by kernel_rfl) ?_
        change wpAnyH _ _ _ _ _ _ _ _ (World.drew _)
        generalize World.drew _ = v0 at *
        refine wpAnyH_take (i := 0) (v := ?_) rfl (by kernel_rfl) (by kernel_rfl) (by kernel_rfl) (fun _ _ _ h => h) (Or.inl ⟨by kernel_rfl, ?_⟩) E0 ?_
        rotate_left
        · (intro W hS; clear hS; go_simp; try (with_reducible rfl))
        refine wpAnyH_take (i := 1) (v := ?_) rfl (by kernel_rfl) (by kernel_rfl) (by kernel_rfl) (fun _ _ _ h => h) (Or.inl ⟨by kernel_rfl, ?_⟩) E0 ?_
        rotate_left
        · (intro W hS; clear hS; go_simp; try (with_reducible rfl))
        refine wpAnyH_take (i := 2) (v := ?_) rfl (by kernel_rfl) (by kernel_rfl) (by kernel_rfl) (fun _ _ _ h => h) (Or.inl ⟨by kernel_rfl, ?_⟩) E0 ?_
        rotate_left
        · (intro W hS; clear hS; go_simp; try (with_reducible rfl))
        refine wpAnyH_take (i := 3) (v := ?_) rfl (by kernel_rfl) (by kernel_rfl) (by kernel_rfl) (fun _ _ _ h => h) (Or.inl ⟨by kernel_rfl, ?_⟩) E0 ?_
        rotate_left
        · (intro W hS; clear hS; go_simp; try (with_reducible rfl))
        refine wpAnyH_take (i := 4) (v := ?_) rfl (by kernel_rfl) (by kernel_rfl) (by kernel_rfl) (fun _ _ _ h => h) (Or.inl ⟨by kernel_rfl, ?_⟩) E0 ?_
        rotate_left
        · (intro W hS; clear hS; go_simp; try (with_reducible rfl))
        refine wpAnyH_take (i := 5) (v := ?_) rfl (by kernel_rfl) (by kernel_rfl) (by kernel_rfl) (fun _ _ _ h => h) (Or.inl ⟨by kernel_rfl, ?_⟩) E0 ?_
        rotate_left
        · (intro W hS; clear hS; go_simp; try (with_reducible rfl))
        refine wpAnyH_take (i := 7) (v := ?_) rfl (by kernel_rfl) (by kernel_rfl) (by kernel_rfl) (fun _ _ _ h => h) (Or.inl ⟨by kernel_rfl, ?_⟩) E0 ?_
        rotate_left
        · (intro W hS; clear hS; go_simp; try (with_reducible rfl))
        refine wpAnyH_take (i := 8) (v := ?_) rfl (by kernel_rfl) (by kernel_rfl) (by kernel_rfl) (fun _ _ _ h => h) (Or.inl ⟨by kernel_rfl, ?_⟩) E0 ?_
        rotate_left
        · (intro W hS; clear hS; go_simp; try (with_reducible rfl))
        refine wpAnyH_take (i := 9) (v := ?_) rfl (by kernel_rfl) (by kernel_rfl) (by kernel_rfl) (fun _ _ _ h => h) (Or.inl ⟨by kernel_rfl, ?_⟩) E0 ?_
        rotate_left
        · (intro W hS; clear hS; go_simp; try (with_reducible rfl))
        refine wpAnyH_ready (rs := [6]) (by kernel_rfl) (by simp) ?_
        refine AllReadyH.cons rfl (fun K hK => ?_) AllReadyH.nil
        go_simp
        refine (H.out.2.1 v0 (hG.below F0) (H.out.2.2.2.1.below F0)).mono ?_
        rintro e v1 ⟨a1, c1, rfl, hO, hb⟩
        have hOO := OwnT.mono hO F0.size
        clear hO
        have F1 := F0.trans (hb.mono F0.size)
        have E1 : True := trivial
        refine hK.out _ _ E1 (fun _ => ?_)
        clear hK K hb
        refine wpAnyH_ready (rs := [10]) (by kernel_rfl) (by simp) ?_
        refine AllReadyH.cons rfl (fun K hK => ?_) AllReadyH.nil
        go_simp
        refine (H.out.2.2.1 v1 (hG.below F1) (H.out.2.2.2.1.below F1)).mono ?_
        rintro e v2 ⟨rfl, hb⟩
        have hO2 := OwnT.call hOO hb
        clear hOO
        have F2 := F1.trans (hb.mono F1.size)
        have E2 : True := trivial
        refine hK.out _ _ E2 (fun _ => ?_)
        clear hK K hb
        refine wpAnyH_ready (rs := [11]) (by kernel_rfl) (by simp) ?_
        refine AllReadyH.cons rfl (fun K hK => ?_) AllReadyH.nil
        go_simp
        have hn3 := texts_one v2 R2
        obtain ⟨v3, hv⟩ : ∃ v, v = v2.alloc (.cells #[.string R2] 9) := ⟨_, rfl⟩
        have hb : Below v2.heap.size v2 v3 := by rw [hv]; exact (Below.refl _ _).alloc (Nat.le_refl _) _
        rw [← hv] at hn3 ⊢
        clear hv
        have F3 := F2.trans (hb.mono F2.size)
        have E3 : True := trivial
        have hO3 := OwnT.call hO2 hb
        refine hK.out _ _ trivial (fun _ => ?_)
        clear hK K hb hO2
        refine wpAnyH_ready (rs := [12]) (by kernel_rfl) (by simp) ?_
        refine AllReadyH.cons rfl (fun K hK => ?_) AllReadyH.nil
        refine step_append_texts rfl (.tmp 48) (.tmp 53) rfl (hO3) _ (H.out.2.2.2.2.1.symm) rfl _ _ 1 ([R2]) rfl rfl (hn3) (by omega) F3.size F3 ?_
        intro ad4 cp4 v4 ho4 F4
        try go_simp
        refine hK.out _ _ trivial (fun _ => ?_)
        clear hK K hO3 hn3
        have E4 : True := trivial
        refine wpAnyH_take (i := 13) (v := ?_) rfl (by kernel_rfl) (by kernel_rfl) (by kernel_rfl) (fun _ _ _ h => h) (Or.inl ⟨by kernel_rfl, ?_⟩) E4 ?_
        rotate_left
        · (intro W hS; clear hS; go_simp; try (with_reducible rfl))
        refine wpAnyH_done (by kernel_rfl) ?_ _
        go_simp
        have HF := Lib.hid (And.intro F4 ho4)
        clear E0 F0 E1 F1 E2 F2 E3 F3 E4 F4 ho4
        go_wp2_with fail
        go_ret
        refine ⟨_, _, rfl, HF.out.2, HF.out.1⟩
/-- The bridge from any number, or nothing; the error. -/
def brI (l : List ByteArray) (i : Int) : List ByteArray := if 1 ≤ i ∧ i ≤ l.length then bridge l i.toNat true else []
def brE (l : List ByteArray) (i : Int) : Int := if 0 ≤ i ∧ i ≤ l.length then 0 else 1
set_option maxRecDepth 100000 in
set_option maxHeartbeats 1000000 in
theorem rbigBridge_any (ss : List ByteArray) (hm : ss.length ≤ 4096) (hD : Digs ss) (i : Int) (a0 : Option Addr) (cap : Nat) (w : World) (hT : TextsAt w a0 ss) (hcap : ss.length ≤ cap) (hmax : cap ≤ maxLen) :
    Calls Tryd.prog 29 #[.slice a0 ss.length cap, .int .i64 i] w fun e w' => ∃ a c, e = .returned (.tuple #[.slice a (brI ss i).length c, .int .i64 (brE ss i)]) ∧ OwnT w.heap.size w' a c (brI ss i) ∧ Below w.heap.size w w' := by
  have hw := fun (h : 1 ≤ i ∧ i ≤ ss.length) => rbridge_any _ ss rfl hm hD i.toNat true (by omega) (by omega) a0 cap w hT hcap hmax
  obtain ⟨n, hn⟩ : ∃ n, n = ss.length := ⟨_, rfl⟩
  have hi1 := fun (h : 1 ≤ i ∧ i ≤ ss.length) => (show brI ss i = bridge ss i.toNat true ∧ brE ss i = 0 from ⟨if_pos h, if_pos ⟨by omega, h.2⟩⟩)
  have hi2 := fun (h : ¬ (1 ≤ i ∧ i ≤ ss.length)) => (show brI ss i = [] from if_neg h)
  have hi3 := fun (h : ¬ (0 ≤ i ∧ i ≤ ss.length)) => (show brE ss i = 1 from if_neg h)
  have hi4 := fun (h : (0 ≤ i ∧ i ≤ ss.length)) => (show brE ss i = 0 from if_pos h)
  rw [← hn] at hm hw ⊢
  rw [← hn] at hi1 hi2 hi3 hi4
  have hm2 : ¬ ((4096 : Int) < (n : Int)) := by omega
  rcases (show i < 0 ∨ i = 0 ∨ (n : Int) < i ∨ (1 ≤ i ∧ i ≤ n) by omega) with h | h | h | h
  · rw [hi2 (by omega), hi3 (by omega)]
    clear hw hi1 hi2 hi3 hi4 hn hT hD hm
    go_enter Tryd.func29, Tryd.ntmps29
    go_wp2_with fail
    go_ret2
    exact ⟨none, 0, rfl, OwnT.nil _ _, Below.refl _ _⟩
  · rw [hi2 (by omega), hi4 (by omega)]
    subst h
    clear hw hi1 hi2 hi3 hi4 hn hT hD hm
    go_enter Tryd.func29, Tryd.ntmps29
    go_wp2_with fail
    go_ret2
    exact ⟨none, 0, rfl, OwnT.nil _ _, Below.refl _ _⟩
  · rw [hi2 (by omega), hi3 (by omega)]
    have h0 : ¬ (i < 0) := by omega
    clear hw hi1 hi2 hi3 hi4 hn hT hD hm
    go_enter Tryd.func29, Tryd.ntmps29
    go_wp2_with fail
    go_ret2
    exact ⟨none, 0, rfl, OwnT.nil _ _, Below.refl _ _⟩
  · obtain ⟨e1, e2⟩ := hi1 h
    obtain ⟨j, hj⟩ : ∃ j : Nat, i = (j : Int) := ⟨i.toNat, by omega⟩
    subst hj
    have hw2 := hw h
    rw [Int.toNat_natCast] at hw2 e1
    have h1' : ¬ ((n : Int) < (j : Int)) := by omega
    have h2' : ((j : Int) == 0) = false := by simp; omega
    rw [e1, e2]
    obtain ⟨Y, hY⟩ : ∃ Y, Y = bridge ss j true := ⟨_, rfl⟩
    rw [← hY] at hw2 ⊢
    have H := Lib.hid hw2
    clear hw hw2 hi1 hi2 hi3 hi4 e1 e2 hY hn hT hD hm h
    go_enter Tryd.func29, Tryd.ntmps29
    go_wp2_with fail
    refine H.out.mono ?_
    rintro e w1 ⟨a, c, rfl, hO, hb⟩
    have HB := Lib.hid (And.intro hO hb)
    clear hO hb
    go_wp2_with fail
    go_ret2
    exact ⟨a, c, rfl, HB.out.1, HB.out.2⟩
set_option maxRecDepth 100000 in
set_option maxHeartbeats 1000000 in
theorem bigBridge_any (ss : List ByteArray) (hm : ss.length ≤ 4096) (hD : Digs ss) (i : Int) (a0 : Option Addr) (cap : Nat) (w : World) (hG : Glob w) (hT : TextsAt w a0 ss) (hcap : ss.length ≤ cap) (hmax : cap ≤ maxLen) :
    Calls Tryd.prog 28 #[.slice a0 ss.length cap, .int .i64 i] w fun e w' => ∃ a c, e = .returned (.tuple #[.slice a (brI ss i).length c, .int .i64 (brE ss i)]) ∧ OwnT w.heap.size w' a c (brI ss i) ∧ Below w.heap.size w w' := by
  have hw := fun (h : 1 ≤ i ∧ i ≤ ss.length) => bridge_any _ ss rfl hm hD i.toNat true (by omega) (by omega) a0 cap w hG hT hcap hmax
  obtain ⟨n, hn⟩ : ∃ n, n = ss.length := ⟨_, rfl⟩
  have hi1 := fun (h : 1 ≤ i ∧ i ≤ ss.length) => (show brI ss i = bridge ss i.toNat true ∧ brE ss i = 0 from ⟨if_pos h, if_pos ⟨by omega, h.2⟩⟩)
  have hi2 := fun (h : ¬ (1 ≤ i ∧ i ≤ ss.length)) => (show brI ss i = [] from if_neg h)
  have hi3 := fun (h : ¬ (0 ≤ i ∧ i ≤ ss.length)) => (show brE ss i = 1 from if_neg h)
  have hi4 := fun (h : (0 ≤ i ∧ i ≤ ss.length)) => (show brE ss i = 0 from if_pos h)
  rw [← hn] at hm hw ⊢
  rw [← hn] at hi1 hi2 hi3 hi4
  have hm2 : ¬ ((4096 : Int) < (n : Int)) := by omega
  rcases (show i < 0 ∨ i = 0 ∨ (n : Int) < i ∨ (1 ≤ i ∧ i ≤ n) by omega) with h | h | h | h
  · rw [hi2 (by omega), hi3 (by omega)]
    clear hw hi1 hi2 hi3 hi4 hn hT hD hm
    go_enter Tryd.func28, Tryd.ntmps28
    go_wp2_with fail
    go_ret2
    exact ⟨none, 0, rfl, OwnT.nil _ _, Below.refl _ _⟩
  · rw [hi2 (by omega), hi4 (by omega)]
    subst h
    clear hw hi1 hi2 hi3 hi4 hn hT hD hm
    go_enter Tryd.func28, Tryd.ntmps28
    go_wp2_with fail
    go_ret2
    exact ⟨none, 0, rfl, OwnT.nil _ _, Below.refl _ _⟩
  · rw [hi2 (by omega), hi3 (by omega)]
    have h0 : ¬ (i < 0) := by omega
    clear hw hi1 hi2 hi3 hi4 hn hT hD hm
    go_enter Tryd.func28, Tryd.ntmps28
    go_wp2_with fail
    go_ret2
    exact ⟨none, 0, rfl, OwnT.nil _ _, Below.refl _ _⟩
  · obtain ⟨e1, e2⟩ := hi1 h
    obtain ⟨j, hj⟩ : ∃ j : Nat, i = (j : Int) := ⟨i.toNat, by omega⟩
    subst hj
    have hw2 := hw h
    rw [Int.toNat_natCast] at hw2 e1
    have h1' : ¬ ((n : Int) < (j : Int)) := by omega
    have h2' : ((j : Int) == 0) = false := by simp; omega
    rw [e1, e2]
    obtain ⟨Y, hY⟩ : ∃ Y, Y = bridge ss j true := ⟨_, rfl⟩
    rw [← hY] at hw2 ⊢
    have H := Lib.hid hw2
    clear hw hw2 hi1 hi2 hi3 hi4 e1 e2 hY hn hT hD hm h
    go_enter Tryd.func28, Tryd.ntmps28
    go_wp2_with fail
    refine H.out.mono ?_
    rintro e w1 ⟨a, c, rfl, hO, hb⟩
    have HB := Lib.hid (And.intro hO hb)
    clear hO hb
    go_wp2_with fail
    go_ret2
    exact ⟨a, c, rfl, HB.out.1, HB.out.2⟩
end Go.Proofs.YtdjhlgodecnidaaDoor
