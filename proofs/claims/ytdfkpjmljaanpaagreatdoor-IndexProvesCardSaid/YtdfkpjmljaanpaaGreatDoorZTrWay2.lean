/- TrWay2, what is wanted of it. -/
import Derived.Test.YtdfkpjmljaanpaaGreatDoorZTrWay
namespace Go.Proofs.YtdfkpjmljaanpaaGreatDoor
open Go.RowKit
open Tr
/-- The way of any place, or nothing; the error. -/
def wayI (l : List ByteArray) (i : Int) : List ByteArray := if 0 ≤ i ∧ i < l.length then way l i.toNat else []
def wayE (l : List ByteArray) (i : Int) : Int := if 0 ≤ i ∧ i < l.length then 0 else 1
set_option maxRecDepth 100000 in
set_option maxHeartbeats 1000000 in
theorem bigWay_any (ss : List ByteArray) (hm : ss.length ≤ 4096) (hD : Digs ss) (i : Int) (a0 : Option Addr) (cap : Nat) (w : World) (hG : Glob w) (hT : TextsAt w a0 ss) (hcap : ss.length ≤ cap) (hmax : cap ≤ maxLen) :
    Calls Tryz.prog 64 #[.slice a0 ss.length cap, .int .i64 i] w fun e w' => ∃ a c, e = .returned (.tuple #[.slice a (wayI ss i).length c, .int .i64 (wayE ss i)]) ∧ OwnT w.heap.size w' a c (wayI ss i) ∧ Below w.heap.size w w' := by
  have hw := fun (h : 0 ≤ i ∧ i < ss.length) => way_any _ ss rfl (by omega) hD i.toNat (by omega) a0 cap w hG hT hcap hmax
  obtain ⟨n, hn⟩ : ∃ n, n = ss.length := ⟨_, rfl⟩
  have hi1 := fun (h : 0 ≤ i ∧ i < ss.length) => (show wayI ss i = way ss i.toNat ∧ wayE ss i = 0 from ⟨if_pos h, if_pos h⟩)
  have hi2 := fun (h : ¬ (0 ≤ i ∧ i < ss.length)) => (show wayI ss i = [] ∧ wayE ss i = 1 from ⟨if_neg h, if_neg h⟩)
  rw [← hn] at hm hw ⊢
  rw [← hn] at hi1 hi2
  have hm2 : ¬ ((4096 : Int) < (n : Int)) := by omega
  by_cases h0 : 0 ≤ i
  · by_cases h1 : i < n
    · obtain ⟨e1, e2⟩ := hi1 ⟨h0, h1⟩
      obtain ⟨j, hj⟩ : ∃ j : Nat, i = (j : Int) := ⟨i.toNat, by omega⟩
      subst hj
      have hw2 := hw ⟨h0, h1⟩
      rw [Int.toNat_natCast] at hw2 e1
      have h1' : ¬ ((n : Int) ≤ (j : Int)) := by omega
      rw [e1, e2]
      obtain ⟨Y, hY⟩ : ∃ Y, Y = way ss j := ⟨_, rfl⟩
      rw [← hY] at hw2 ⊢
      have H := Lib.hid hw2
      clear hw hw2 hi1 hi2 e1 e2 hY hn hT hD hm
      go_enter Tryz.func64, Tryz.ntmps64
      go_wp2_with fail
      refine H.out.mono ?_
      rintro e w1 ⟨a, c, rfl, hO, hb⟩
      have HB := Lib.hid (And.intro hO hb)
      clear hO hb
      go_wp2_with fail
      go_ret2
      exact ⟨a, c, rfl, HB.out.1, HB.out.2⟩
    · obtain ⟨e1, e2⟩ := hi2 (fun h => h1 h.2)
      have h1' : ((n : Int) ≤ i) := by omega
      rw [e1, e2]
      clear hw hi1 hi2 e1 e2 hn hT hD hm
      go_enter Tryz.func64, Tryz.ntmps64
      go_wp2_with fail
      go_ret2
      exact ⟨none, 0, rfl, OwnT.nil _ _, Below.refl _ _⟩
  · obtain ⟨e1, e2⟩ := hi2 (fun h => h0 h.1)
    rw [e1, e2]
    clear hw hi1 hi2 e1 e2 hn hT hD hm
    go_enter Tryz.func64, Tryz.ntmps64
    go_wp2_with fail
    go_ret2
    exact ⟨none, 0, rfl, OwnT.nil _ _, Below.refl _ _⟩
set_option maxRecDepth 100000 in
set_option maxHeartbeats 1000000 in
theorem rway_any : ∀ (N : Nat) (ss : List ByteArray), ss.length = N → N ≤ 4096 → Digs ss → ∀ (i : Nat), i < N → ∀ (a0 : Option Addr) (cap : Nat) (w : World), TextsAt w a0 ss → ss.length ≤ cap → cap ≤ maxLen →
    Calls Tryz.prog 68 #[.slice a0 ss.length cap, .int .i64 i] w fun e w' => ∃ a c, e = .returned (.tuple #[.slice a (way ss i).length c, .int .i64 0]) ∧ OwnT w.heap.size w' a c (way ss i) ∧ Below w.heap.size w w' := by
  intro N
  induction N using Nat.strongRecOn with
  | ind N ih =>
    intro ss hN hN1 hD i hi a0 cap w hT hcap hmax
    unfold maxLen at hmax
    rcases len_cases ss with rfl | ⟨x, rfl⟩ | h2
    · simp at hN; omega
    · simp only [List.length_singleton]
      rw [way_one (by simp)]
      simp at hN
      have hi0 : ¬ ((1 : Int) ≤ (i : Int)) := by omega
      clear hT hD ih hN hcap
      go_enter Tryz.func68, Tryz.ntmps68
      go_wp2_with fail
      go_ret2
      exact ⟨none, 0, rfl, OwnT.nil _ _, Below.refl _ _⟩
    · obtain ⟨b, off, rfl, hbl, -⟩ := hT 0 (by omega)
      obtain ⟨k, hk⟩ : ∃ k, k = hf ss.length := ⟨_, rfl⟩
      have k1 := hf_pos ss.length
      have k2 := hf_lt h2
      obtain ⟨n, hn⟩ : ∃ n, n = ss.length := ⟨_, rfl⟩
      have hh := fun W => split_any n (by omega) (by omega) W
      rw [show hf n = k by rw [hk, hn]] at hh
      rw [← hk] at k1 k2
      obtain ⟨p, hp⟩ : ∃ p, p = ss.take k := ⟨_, rfl⟩
      obtain ⟨q, hq⟩ : ∃ q, q = ss.drop k := ⟨_, rfl⟩
      have hpl : p.length = k := by rw [hp, List.length_take]; omega
      have hql : q.length = n - k := by rw [hq, List.length_drop]; omega
      have hDp : Digs p := by rw [hp]; exact hD.take k
      have hDq : Digs q := by rw [hq]; exact hD.drop k
      have tp := fun W (hTW : TextsAt W (some ⟨b, off, none⟩) ss) => (show TextsAt W (some ⟨b, off, none⟩) p by rw [hp]; exact hTW.take k)
      have tq := fun W (hTW : TextsAt W (some ⟨b, off, none⟩) ss) => (show TextsAt W (some ⟨b, off + k, none⟩) q by rw [hq]; exact hTW.drop k)
      by_cases hc : i < k
      · have hwy : way ss i = way p i ++ [root q] := by rw [way_two h2, ← hk, if_pos hc, ← hp, ← hq]
        have c1 := fun W (hTW : TextsAt W (some ⟨b, off, none⟩) ss) => ih k (by omega) p hpl (by omega) hDp i hc (some ⟨b, off, none⟩) cap W (tp W hTW) (by omega) (by unfold maxLen; omega)
        have c2 := fun W (hTW : TextsAt W (some ⟨b, off, none⟩) ss) => rroot_any (n - k) q hql (by omega) hDq (some ⟨b, off + k, none⟩) (cap - k) W (tq W hTW) (by omega) (by unfold maxLen; omega)
        rw [hpl] at c1
        rw [hql] at c2
        have hwl := Tr.way_length _ p i rfl
        obtain ⟨R2, hR2⟩ : ∃ R, R = root q := ⟨_, rfl⟩
        obtain ⟨Y, hY⟩ : ∃ Y, Y = way p i := ⟨_, rfl⟩
        rw [← hR2] at c2 hwy
        rw [← hY] at c1 hwy hwl
        obtain ⟨m, hm⟩ : ∃ m, m = n - k := ⟨_, rfl⟩
        obtain ⟨cq, hcq⟩ : ∃ c, c = cap - k := ⟨_, rfl⟩
        rw [← hm, ← hcq] at c2
        have f12 : ((i : Int) < (k : Int)) := by omega
        have f14 : ¬ ((n : Int) ≤ (i : Int)) := by omega
        have f15 : ¬ ((4096 : Int) < (n : Int)) := by omega
        obtain ⟨y, hy⟩ : ∃ y, y = Y.length := ⟨_, rfl⟩
        have hy1 : y ≤ 1000000 := by omega
        rw [← hy] at c1
        rw [hwy, List.length_append, List.length_singleton, ← hy, ← hn]
        have f1 : (k : Int) ≤ (n : Int) := by omega
        have f2 : (n : Int) - (k : Int) = (m : Int) := by omega
        have f3 : (cap : Int) - (k : Int) = (cq : Int) := by omega
        have f4 : n - k = m := hm.symm
        have f5 : cap - k = cq := hcq.symm
        have f6 : ¬ (cap = k) := by omega
        have f7 : n ≤ cap := by omega
        have f8 : k ≤ n := by omega
        have f9 : k ≤ cap := by omega
        have f10 : 2 ≤ n := by omega
        have e0 : ((n : Int) == 0) = false := by simp; omega
        have e1 : ((n : Int) == 1) = false := by simp; omega
        have H := Lib.hid (And.intro hh (And.intro c1 (And.intro c2 (And.intro hT (And.intro hy hwl)))))
        clear hh c1 c2 hT ih hN hD hp hq hpl hql hR2 hY hwy hwl h2 hcap hk hn hm hcq k1 k2 hDp hDq tp tq hy
        go_enter Tryz.func68, Tryz.ntmps68
        go_wp2_with fail
        refine (H.out.1 _).mono ?_
        rintro e w1 ⟨rfl, rfl⟩
        go_wp2_with fail
        refine (H.out.2.1 _ H.out.2.2.2.1).mono ?_
        rintro e w2 ⟨a1, c1, rfl, hO, hb⟩
        have HA := Lib.hid (And.intro hO hb)
        clear hO hb
        go_wp2_with fail
        refine (H.out.2.2.1 _ (H.out.2.2.2.1.below HA.out.2)).mono ?_
        rintro e w3 ⟨rfl, hb⟩
        have HC := Lib.hid (And.intro (OwnT.alloc (OwnT.call HA.out.1 hb) (.cells #[.string R2] 9)) ((HA.out.2.trans (hb.mono HA.out.2.size)).alloc (HA.out.2.trans (hb.mono HA.out.2.size)).size (.cells #[.string R2] 9)))
        clear hb
        go_wp2_with (at_builtin; (refine wpList_append_texts rfl (.tmp 39) (.tmp 44) rfl HC.out.1 _ H.out.2.2.2.2.1.symm rfl _ _ 1 [R2] rfl rfl (texts_one w3 R2) (by omega) HC.out.2.size HC.out.2 ?_; intro ad cp w4 ho hb; have HD := Lib.hid (And.intro ho hb); clear ho hb))
        go_ret2
        exact ⟨_, _, rfl, HD.out.1, HD.out.2⟩
      · have hwy : way ss i = way q (i - k) ++ [root p] := by rw [way_two h2, ← hk, if_neg hc, ← hp, ← hq]
        have c1 := fun W (hTW : TextsAt W (some ⟨b, off, none⟩) ss) => ih (n - k) (by omega) q hql (by omega) hDq (i - k) (by omega) (some ⟨b, off + k, none⟩) (cap - k) W (tq W hTW) (by omega) (by unfold maxLen; omega)
        have c2 := fun W (hTW : TextsAt W (some ⟨b, off, none⟩) ss) => rroot_any k p hpl (by omega) hDp (some ⟨b, off, none⟩) cap W (tp W hTW) (by omega) (by unfold maxLen; omega)
        rw [hql] at c1
        rw [hpl] at c2
        have hwl := Tr.way_length _ q (i - k) rfl
        obtain ⟨R2, hR2⟩ : ∃ R, R = root p := ⟨_, rfl⟩
        obtain ⟨Y, hY⟩ : ∃ Y, Y = way q (i - k) := ⟨_, rfl⟩
        rw [← hR2] at c2 hwy
        rw [← hY] at c1 hwy hwl
        obtain ⟨m, hm⟩ : ∃ m, m = n - k := ⟨_, rfl⟩
        obtain ⟨cq, hcq⟩ : ∃ c, c = cap - k := ⟨_, rfl⟩
        obtain ⟨ik, hik⟩ : ∃ x, x = i - k := ⟨_, rfl⟩
        rw [← hm, ← hcq, ← hik] at c1
        have f11 : (i : Int) - (k : Int) = (ik : Int) := by omega
        have f13 : IntKind.i64.wrap ((i : Int) - (k : Int)) = (ik : Int) := by rw [f11]; exact IntWalk.i64_in _ (by omega)
        have f12 : ¬ ((i : Int) < (k : Int)) := by omega
        have f14 : ¬ ((n : Int) ≤ (i : Int)) := by omega
        have f15 : ¬ ((4096 : Int) < (n : Int)) := by omega
        obtain ⟨y, hy⟩ : ∃ y, y = Y.length := ⟨_, rfl⟩
        have hy1 : y ≤ 1000000 := by omega
        rw [← hy] at c1
        rw [hwy, List.length_append, List.length_singleton, ← hy, ← hn]
        have f1 : (k : Int) ≤ (n : Int) := by omega
        have f2 : (n : Int) - (k : Int) = (m : Int) := by omega
        have f3 : (cap : Int) - (k : Int) = (cq : Int) := by omega
        have f4 : n - k = m := hm.symm
        have f5 : cap - k = cq := hcq.symm
        have f6 : ¬ (cap = k) := by omega
        have f7 : n ≤ cap := by omega
        have f8 : k ≤ n := by omega
        have f9 : k ≤ cap := by omega
        have f10 : 2 ≤ n := by omega
        have e0 : ((n : Int) == 0) = false := by simp; omega
        have e1 : ((n : Int) == 1) = false := by simp; omega
        clear f11
        have H := Lib.hid (And.intro hh (And.intro c1 (And.intro c2 (And.intro hT (And.intro hy hwl)))))
        clear hh c1 c2 hT ih hN hD hp hq hpl hql hR2 hY hwy hwl h2 hcap hk hn hm hcq k1 k2 hDp hDq tp tq hy hik
        go_enter Tryz.func68, Tryz.ntmps68
        go_wp2_with fail
        refine (H.out.1 _).mono ?_
        rintro e w1 ⟨rfl, rfl⟩
        go_wp2_with fail
        refine (H.out.2.1 _ H.out.2.2.2.1).mono ?_
        rintro e w2 ⟨a1, c1, rfl, hO, hb⟩
        have HA := Lib.hid (And.intro hO hb)
        clear hO hb
        go_wp2_with fail
        refine (H.out.2.2.1 _ (H.out.2.2.2.1.below HA.out.2)).mono ?_
        rintro e w3 ⟨rfl, hb⟩
        have HC := Lib.hid (And.intro (OwnT.alloc (OwnT.call HA.out.1 hb) (.cells #[.string R2] 9)) ((HA.out.2.trans (hb.mono HA.out.2.size)).alloc (HA.out.2.trans (hb.mono HA.out.2.size)).size (.cells #[.string R2] 9)))
        clear hb
        go_wp2_with (at_builtin; (refine wpList_append_texts rfl (.tmp 57) (.tmp 62) rfl HC.out.1 _ H.out.2.2.2.2.1.symm rfl _ _ 1 [R2] rfl rfl (texts_one w3 R2) (by omega) HC.out.2.size HC.out.2 ?_; intro ad cp w4 ho hb; have HD := Lib.hid (And.intro ho hb); clear ho hb))
        go_ret2
        exact ⟨_, _, rfl, HD.out.1, HD.out.2⟩
set_option maxRecDepth 100000 in
set_option maxHeartbeats 1000000 in
theorem rbigWay_any (ss : List ByteArray) (hm : ss.length ≤ 4096) (hD : Digs ss) (i : Int) (a0 : Option Addr) (cap : Nat) (w : World) (hT : TextsAt w a0 ss) (hcap : ss.length ≤ cap) (hmax : cap ≤ maxLen) :
    Calls Tryz.prog 68 #[.slice a0 ss.length cap, .int .i64 i] w fun e w' => ∃ a c, e = .returned (.tuple #[.slice a (wayI ss i).length c, .int .i64 (wayE ss i)]) ∧ OwnT w.heap.size w' a c (wayI ss i) ∧ Below w.heap.size w w' := by
  by_cases h : 0 ≤ i ∧ i < ss.length
  · have := rway_any _ ss rfl hm hD i.toNat (by omega) a0 cap w hT hcap hmax
    rw [Int.toNat_of_nonneg h.1] at this
    rw [show wayI ss i = way ss i.toNat from if_pos h, show wayE ss i = 0 from if_pos h]
    exact this
  · rw [show wayI ss i = [] from if_neg h, show wayE ss i = 1 from if_neg h]
    obtain ⟨n, hn⟩ : ∃ n, n = ss.length := ⟨_, rfl⟩
    rw [← hn] at hm h ⊢
    have hm2 : ¬ ((4096 : Int) < (n : Int)) := by omega
    clear hT hD hn hcap
    by_cases h0 : 0 ≤ i
    · have h1 : (n : Int) ≤ i := by omega
      clear h
      go_enter Tryz.func68, Tryz.ntmps68
      go_wp2_with fail
      go_ret2
      exact ⟨none, 0, rfl, OwnT.nil _ _, Below.refl _ _⟩
    · clear h
      go_enter Tryz.func68, Tryz.ntmps68
      go_wp2_with fail
      go_ret2
      exact ⟨none, 0, rfl, OwnT.nil _ _, Below.refl _ _⟩
end Go.Proofs.YtdfkpjmljaanpaaGreatDoor
