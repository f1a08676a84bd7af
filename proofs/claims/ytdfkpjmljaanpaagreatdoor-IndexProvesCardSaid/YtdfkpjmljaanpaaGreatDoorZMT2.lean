/- MT2, what is wanted of it. -/
import Derived.Test.YtdfkpjmljaanpaaGreatDoorZMT1
import Derived.Test.YtdfkpjmljaanpaaGreatDoorZBitsLen
import Derived.Test.YtdfkpjmljaanpaaGreatDoorZMH3
import Derived.Lib.BitFns
import Derived.IntWalk
import Derived.Test.YtdfkpjmljaanpaaGreatDoorZMX3
import Derived.Test.YtdfkpjmljaanpaaGreatDoorZClone
import Derived.Test.YtdfkpjmljaanpaaGreatDoorZMB
import Derived.Deep.RegionHeld
import Derived.Deep.DeepMust
namespace Go.Proofs.YtdfkpjmljaanpaaGreatDoor
open Go.RowKit
open Go.RowKit (wrap64)
open Tr
theorem leafT_size (s : ByteArray) : (leafT s).size = 1 + s.size := by unfold leafT; rw [ByteArray.size_append]; rfl
theorem nodeT_size (a b : ByteArray) : (nodeT a b).size = 1 + a.size + b.size := by unfold nodeT; rw [ByteArray.size_append, ByteArray.size_append]; rfl
set_option maxRecDepth 100000 in
theorem leafText_any (s : ByteArray) (hs : s.size ≤ 100000) (w : World) : Calls Tryz.prog 99 #[.string s] w fun e w' => e = .returned (.string (leafT s)) ∧ w' = w := by
  have h1 : (ByteArray.mk #[0]).size = 1 := rfl
  have h2 : (s.size : Int) ≤ 100000 := by omega
  go_enter Tryz.func99, Tryz.ntmps99
  go_wp2_with fail
  go_ret
  exact ⟨rfl, rfl⟩
set_option maxRecDepth 100000 in
theorem nodeText_any (a b : ByteArray) (ha : a.size ≤ 100000) (hb : b.size ≤ 100000) (w : World) : Calls Tryz.prog 161 #[.string a, .string b] w fun e w' => e = .returned (.string (nodeT a b)) ∧ w' = w := by
  have h1 : (ByteArray.mk #[1]).size = 1 := rfl
  have h2 : (a.size : Int) ≤ 100000 := by omega
  have h3 : (b.size : Int) ≤ 100000 := by omega
  go_enter Tryz.func161, Tryz.ntmps161
  go_wp2_with fail
  go_ret
  exact ⟨rfl, rfl⟩
set_option maxRecDepth 100000 in
theorem leaf_any (s : ByteArray) (hs : s.size ≤ 100000) (w : World) (hG : Glob w) : Calls Tryz.prog 78 #[.string s] w fun e w' => e = .returned (.string (leaf s)) ∧ Below w.heap.size w w' := by
  go_enter Tryz.func78, Tryz.ntmps78
  go_wp2_with fail
  refine (leafText_any s hs _).mono ?_
  rintro e w1 ⟨rfl, rfl⟩
  go_wp2_with fail
  refine (dsum_any (leafT s) (by rw [leafT_size]; omega) _ hG).mono ?_
  rintro e w2 ⟨rfl, hb⟩
  go_wp2_with fail
  go_ret
  exact ⟨rfl, hb⟩
set_option maxRecDepth 100000 in
theorem node_any (a b : ByteArray) (ha : a.size ≤ 100000) (hb : b.size ≤ 100000) (w : World) (hG : Glob w) : Calls Tryz.prog 97 #[.string a, .string b] w fun e w' => e = .returned (.string (node a b)) ∧ Below w.heap.size w w' := by
  go_enter Tryz.func97, Tryz.ntmps97
  go_wp2_with fail
  refine (nodeText_any a b ha hb _).mono ?_
  rintro e w1 ⟨rfl, rfl⟩
  go_wp2_with fail
  refine (dsum_any (nodeT a b) (by rw [nodeT_size]; omega) _ hG).mono ?_
  rintro e w2 ⟨rfl, hb⟩
  go_wp2_with fail
  go_ret
  exact ⟨rfl, hb⟩
set_option maxRecDepth 100000 in
theorem rleaf_any (s : ByteArray) (hs : s.size ≤ 100000) (w : World) : Calls Tryz.prog 98 #[.string s] w fun e w' => e = .returned (.string (leaf s)) ∧ Below w.heap.size w w' := by
  have h1 : (ByteArray.mk #[0]).size = 1 := rfl
  have h2 : (s.size : Int) ≤ 100000 := by omega
  go_enter Tryz.func98, Tryz.ntmps98
  go_wp2_with fail
  refine (rsumref_any (leafT s) (by rw [leafT_size]; omega) _).mono ?_
  rintro e w2 ⟨rfl, hb⟩
  go_wp2_with fail
  go_ret
  exact ⟨rfl, hb⟩
set_option maxRecDepth 100000 in
theorem rnode_any (a b : ByteArray) (ha : a.size ≤ 100000) (hb : b.size ≤ 100000) (w : World) : Calls Tryz.prog 190 #[.string a, .string b] w fun e w' => e = .returned (.string (node a b)) ∧ Below w.heap.size w w' := by
  have h1 : (ByteArray.mk #[1]).size = 1 := rfl
  have h2 : (a.size : Int) ≤ 100000 := by omega
  have h3 : (b.size : Int) ≤ 100000 := by omega
  go_enter Tryz.func190, Tryz.ntmps190
  go_wp2_with fail
  refine (rsumref_any (nodeT a b) (by rw [nodeT_size]; omega) _).mono ?_
  rintro e w2 ⟨rfl, hb⟩
  go_wp2_with fail
  go_ret
  exact ⟨rfl, hb⟩
theorem bitLen_log2 : ∀ (n x : Nat), x ≤ n → x < 2 ^ 64 → 1 ≤ x → Lib.bitLen x = Nat.log2 x + 1 := by
  intro n
  induction n with
  | zero => intro x h1 h2 h3; omega
  | succ n ih =>
    intro x h1 h2 h3
    by_cases hx : x = 1
    · subst hx; decide
    · rw [Lib.bitLen_half x (by omega) h2, ih (x / 2) (by omega) (by omega) (by omega), Nat.log2_def x, if_pos (by omega)]
      omega
set_option maxRecDepth 100000 in
theorem half_any (n : Nat) (h2 : 2 ≤ n) (hn : n ≤ 1000000) (w : World) : Calls Tryz.prog 96 #[.int .i64 n] w fun e w' => e = .returned (.int .i64 (hf n)) ∧ w' = w := by
  obtain ⟨L, hL⟩ : ∃ L, L = Nat.log2 (n - 1) := ⟨_, rfl⟩
  have hbl : Lib.bitLen (n - 1) = L + 1 := by rw [hL]; exact bitLen_log2 _ _ (Nat.le_refl _) (by omega) (by omega)
  have hL20 : L < 20 := by rw [hL]; exact (Nat.log2_lt (by omega)).2 (by omega)
  have hln := Tryz.bits_Len ((n - 1 : Nat) : Int) w (by omega) (by omega)
  rw [Int.toNat_natCast, hbl] at hln
  obtain ⟨p, hp⟩ : ∃ p : Nat, p = n - 1 := ⟨_, rfl⟩
  rw [← hp] at hln
  have e1 : IntKind.i64.wrap ((n : Int) - 1) = (p : Int) := by rw [show (n : Int) - 1 = ((p : Nat) : Int) by omega]; exact IntWalk.i64_in _ (by omega)
  have e2 : IntKind.u64.wrap (p : Int) = (p : Int) := IntWalk.u64_in _ (by omega)
  have e3 : IntKind.i64.wrap (((L + 1 : Nat) : Int) - 1) = (L : Int) := by rw [show ((L + 1 : Nat) : Int) - 1 = (L : Int) by omega]; exact IntWalk.i64_in _ (by omega)
  have H := Lib.hid (And.intro hln hL)
  clear hln hbl hp h2 hn
  go_enter Tryz.func96, Tryz.ntmps96
  go_wp2_with fail
  refine H.out.1.mono ?_
  rintro e w1 ⟨rfl, rfl⟩
  go_wp2_with fail
  have hw : wrap64 ((2 : Int) ^ (n - 1).log2) = ((hf n : Nat) : Int) := by
    have e : ((2 : Int) ^ (n - 1).log2) = ((hf n : Nat) : Int) := by unfold hf; rw [Int.natCast_pow]; rfl
    have hlt : hf n ≤ 2 ^ 20 := by unfold hf; exact Nat.pow_le_pow_right (by decide) (by rw [← H.out.2]; omega)
    rw [e]
    unfold wrap64
    omega
  go_ret
  exact ⟨by rw [← hw]; rfl, rfl⟩
end Go.Proofs.YtdfkpjmljaanpaaGreatDoor
namespace Go.Proofs.YtdfkpjmljaanpaaGreatDoor
open Go.RowKit
open Tr
set_option maxRecDepth 100000 in
set_option maxHeartbeats 400000 in
theorem rdigests_any (ss : List ByteArray) (a0 : Option Addr) (cap : Nat) (w : World) (hT : TextsAt w a0 ss) (hm : ss.length ≤ 100000) (hs : ∀ j, j < ss.length → (ss.getD j ByteArray.empty).size ≤ 100000) :
    Calls Tryz.prog 40 #[.slice a0 ss.length cap] w fun e w' => ∃ a c, e = .returned (.slice a ss.length c) ∧ OwnT w.heap.size w' a c (ss.map leaf) ∧ Below w.heap.size w w' := by
  obtain ⟨n, hn⟩ : ∃ n, n = ss.length := ⟨_, rfl⟩
  have HT := Lib.hid (And.intro hT (And.intro hn hs))
  rw [← hn] at hm ⊢
  clear hT hn hs
  go_enter Tryz.func40, Tryz.ntmps40
  go_wp2_with fail
  go_loopw [3, 4] (fun v c wr => ∃ (i : Nat) (a : Option Addr) (cp : Nat), i ≤ n ∧ v = .slice a i cp ∧ c = .int .i64 i ∧ OwnT w.heap.size wr a cp ((ss.take i).map leaf) ∧ Below w.heap.size w wr) (fun _ c _ => n - (intOf c).toNat)
  case atStart => exact ⟨0, none, 0, by omega, rfl, rfl, OwnT.nil _ _, Below.refl _ _⟩
  case round =>
    obtain ⟨i, a, cp, hi, rfl, rfl, hO, hb⟩ := hrel
    by_cases hlt : i < n
    · obtain ⟨b, off, rfl, _, hc⟩ := (HT.out.1.below hb) i (by have := HT.out.2.1; omega)
      obtain ⟨x, hx⟩ : ∃ x, x = ss.getD i ByteArray.empty := ⟨_, rfl⟩
      have hx2 := HT.out.2.2 i (by have := HT.out.2.1; omega)
      rw [← hx] at hc hx2
      have hnx : (ss.take (i + 1)).map leaf = (ss.take i).map leaf ++ [leaf x] := by
        rw [take_succ_getD (by have := HT.out.2.1; omega), ← hx, List.map_append]; rfl
      have hln : ((ss.take i).map leaf).length = i := by rw [List.length_map, List.length_take]; have := HT.out.2.1; omega
      obtain ⟨D, hD⟩ : ∃ D, D = leaf x := ⟨_, rfl⟩
      have hrl := fun W => rleaf_any x hx2 W
      rw [← hD] at hrl hnx
      have H := Lib.hid (And.intro hO (And.intro hb (And.intro hnx (And.intro hln hrl))))
      clear hO hb hnx hln hrl hx hD
      go_wp2_with fail
      refine (H.out.2.2.2.2 _).mono ?_
      rintro e w3 ⟨rfl, hb3⟩
      have F3 := H.out.2.1.trans (hb3.mono H.out.2.1.size)
      have HC := Lib.hid (And.intro (OwnT.alloc (OwnT.call H.out.1 hb3) (.cells #[.string D] 9)) (F3.alloc F3.size (.cells #[.string D] 9)))
      clear hb3 F3 hc
      go_wp2_with (at_builtin; (refine wpList_append_texts rfl (.tmp 11) (.tmp 17) rfl HC.out.1 _ H.out.2.2.2.1 rfl _ _ 1 [D] rfl rfl (texts_one w3 D) (by omega) HC.out.2.size HC.out.2 ?_; intro ad cp w4 ho hb; have HD := Lib.hid (And.intro ho hb); clear ho hb))
      go_roundw
      case rel => exact ⟨i + 1, ad, cp, by omega, rfl, by go_num, by rw [H.out.2.2.1]; exact HD.out.1, HD.out.2⟩
      case measure => simp [intOf]; omega
    · obtain rfl : i = n := by omega
      have H := Lib.hid (And.intro hO hb)
      clear hO hb
      go_wp2_with fail
      go_ret
      refine ⟨a, cp, rfl, ?_, H.out.2⟩
      have := H.out.1
      rwa [List.take_of_length_le (by have := HT.out.2.1; omega)] at this
end Go.Proofs.YtdfkpjmljaanpaaGreatDoor
namespace Go.Proofs.YtdfkpjmljaanpaaGreatDoor
open Go.RowKit
open Go.RowKit (wrap64)
open Tr
theorem TextsAt.take {w : World} {a0 : Option Addr} {ss : List ByteArray} (h : TextsAt w a0 ss) (k : Nat) : TextsAt w a0 (ss.take k) := fun j hj => by
  rw [List.length_take] at hj
  obtain ⟨b, off, e, hb, hc⟩ := h j (by omega)
  refine ⟨b, off, e, hb, ?_⟩
  rw [hc, List.getD_eq_getElem?_getD, List.getD_eq_getElem?_getD, List.getElem?_take, if_pos (by omega)]
theorem TextsAt.drop {w : World} {b off : Nat} {ss : List ByteArray} (h : TextsAt w (some ⟨b, off, none⟩) ss) (k : Nat) : TextsAt w (some ⟨b, off + k, none⟩) (ss.drop k) := fun j hj => by
  rw [List.length_drop] at hj
  obtain ⟨b', off', e, hb, hc⟩ := h (k + j) (by omega)
  injection e with e
  injection e with e1 e2
  subst e1 e2
  refine ⟨b, off + k, rfl, hb, ?_⟩
  rw [Nat.add_assoc, hc, List.getD_eq_getElem?_getD, List.getD_eq_getElem?_getD, List.getElem?_drop]
theorem Tr.Digs.take {l : List ByteArray} (h : Digs l) (k : Nat) : Digs (l.take k) := fun x hx => h x (List.mem_of_mem_take hx)
theorem Tr.Digs.drop {l : List ByteArray} (h : Digs l) (k : Nat) : Digs (l.drop k) := fun x hx => h x (List.mem_of_mem_drop hx)
theorem root_size : ∀ {l : List ByteArray}, Digs l → (root l).size = 32
  | [], _ => sumE_size _
  | [x], h => h x (by simp)
  | a :: b :: r, _ => by rw [root_two (by simp)]; exact sumE_size _
set_option maxRecDepth 100000 in
set_option maxHeartbeats 400000 in
theorem split_any (n : Nat) (h2 : 2 ≤ n) (hn : n ≤ 1000000) (w : World) : Calls Tryz.prog 135 #[.int .i64 n] w fun e w' => e = .returned (.int .i64 (hf n)) ∧ w' = w := by
  go_enter Tryz.func135, Tryz.ntmps135
  go_wp2_with fail
  go_loopw [3] (fun v wr => ∃ (k j : Nat), k = 2 ^ j ∧ v = .int .i64 k ∧ k < n ∧ wr = w) (fun v _ => n - (intOf v).toNat)
  case atStart => exact ⟨1, 0, rfl, rfl, by omega, rfl⟩
  case round =>
    obtain ⟨k, j, hk, rfl, hlt, rfl⟩ := hrel
    have hkj := Lib.hid hk
    have hp : 1 ≤ k := by rw [hk]; exact Nat.two_pow_pos j
    clear hk
    have e1 : IntKind.i64.wrap (2 * (k : Int)) = ((2 * k : Nat) : Int) := by rw [show 2 * (k : Int) = ((2 * k : Nat) : Int) by omega]; exact IntWalk.i64_in _ (by omega)
    obtain ⟨q, hq⟩ : ∃ q, q = 2 * k := ⟨_, rfl⟩
    rw [← hq] at e1
    have HQ := Lib.hid hq
    clear hq
    by_cases hc : q < n
    · have hq2 : ((q : Int) < (n : Int)) := by omega
      go_wp2_with fail
      go_roundw
      case rel => exact ⟨q, j + 1, by rw [HQ.out, hkj.out, Nat.pow_succ, Nat.mul_comm], rfl, hc, by trivial⟩
      case measure => simp [intOf]; have := HQ.out; omega
    · have hq2 : ¬ ((q : Int) < (n : Int)) := by omega
      go_wp2_with fail
      go_ret
      exact ⟨by rw [hf_unique hkj.out hlt (by have := HQ.out; omega)]; rfl, rfl⟩
set_option maxRecDepth 100000 in
set_option maxHeartbeats 1000000 in
theorem rroot_any : ∀ (N : Nat) (ss : List ByteArray), ss.length = N → N ≤ 1000000 → Digs ss → ∀ (a0 : Option Addr) (cap : Nat) (w : World), TextsAt w a0 ss → ss.length ≤ cap → cap ≤ maxLen →
    Calls Tryz.prog 136 #[.slice a0 ss.length cap] w fun e w' => e = .returned (.string (root ss)) ∧ Below w.heap.size w w' := by
  intro N
  induction N using Nat.strongRecOn with
  | ind N ih =>
    intro ss hN hN1 hD a0 cap w hT hcap hmax
    unfold maxLen at hmax
    rcases len_cases ss with rfl | ⟨x, rfl⟩ | h2
    · go_enter Tryz.func136, Tryz.ntmps136
      go_wp2_with fail
      refine (rsumref_any ⟨#[]⟩ (by decide) _).mono ?_
      rintro e w1 ⟨rfl, hb⟩
      go_wp2_with fail
      go_ret
      exact ⟨rfl, hb⟩
    · obtain ⟨b, off, rfl, hbl, hc⟩ := hT 0 (by simp)
      have hx : x.size = 32 := hD x (by simp)
      rw [show ([x] : List ByteArray).getD 0 ByteArray.empty = x from rfl, Nat.add_zero] at hc
      simp only [List.length_singleton] at hcap ⊢
      rw [root_one]
      clear hT hD ih hN
      go_enter Tryz.func136, Tryz.ntmps136
      go_wp2_with fail
      go_ret
      exact ⟨rfl, Below.refl _ _⟩
    · obtain ⟨b, off, rfl, hbl, -⟩ := hT 0 (by omega)
      obtain ⟨k, hk⟩ : ∃ k, k = hf ss.length := ⟨_, rfl⟩
      have k1 := hf_pos ss.length
      have k2 := hf_lt h2
      obtain ⟨n, hn⟩ : ∃ n, n = ss.length := ⟨_, rfl⟩
      have hh := fun W => split_any n (by omega) (by omega) W
      rw [show hf n = k by rw [hk, hn]] at hh
      rw [← hk] at k1 k2
      obtain ⟨p, hp⟩ : ∃ p, p = ss.take k := ⟨_, rfl⟩
      obtain ⟨q, hq⟩ : ∃ q, q = ss.drop k := ⟨_, rfl⟩
      have hpl : p.length = k := by rw [hp, List.length_take]; omega
      have hql : q.length = n - k := by rw [hq, List.length_drop]; omega
      have c1 := fun W (hTW : TextsAt W (some ⟨b, off, none⟩) ss) => ih k (by omega) p hpl (by omega) (by rw [hp]; exact hD.take k) (some ⟨b, off, none⟩) cap W (by rw [hp]; exact hTW.take k) (by omega) (by unfold maxLen; omega)
      have c2 := fun W (hTW : TextsAt W (some ⟨b, off, none⟩) ss) => ih (n - k) (by omega) q hql (by omega) (by rw [hq]; exact hD.drop k) (some ⟨b, off + k, none⟩) (cap - k) W (by rw [hq]; exact hTW.drop k) (by omega) (by unfold maxLen; omega)
      have hrt : root ss = node (root p) (root q) := by rw [root_two h2, ← hk, ← hp, ← hq]
      have z1 : (root p).size = 32 := root_size (by rw [hp]; exact hD.take k)
      have z2 : (root q).size = 32 := root_size (by rw [hq]; exact hD.drop k)
      rw [hpl] at c1
      rw [hql] at c2
      obtain ⟨R1, hR1⟩ : ∃ R, R = root p := ⟨_, rfl⟩
      obtain ⟨R2, hR2⟩ : ∃ R, R = root q := ⟨_, rfl⟩
      rw [← hR1] at c1 z1 hrt
      rw [← hR2] at c2 z2 hrt
      obtain ⟨m, hm⟩ : ∃ m, m = n - k := ⟨_, rfl⟩
      obtain ⟨cq, hcq⟩ : ∃ c, c = cap - k := ⟨_, rfl⟩
      rw [← hm, ← hcq] at c2
      rw [hrt, ← hn]
      have f1 : (k : Int) ≤ (n : Int) := by omega
      have f2 : (n : Int) - (k : Int) = (m : Int) := by omega
      have f3 : (cap : Int) - (k : Int) = (cq : Int) := by omega
      have f4 : n - k = m := hm.symm
      have f5 : cap - k = cq := hcq.symm
      have f6 : ¬ (cap = k) := by omega
      have f7 : n ≤ cap := by omega
      have f8 : k ≤ n := by omega
      have f9 : k ≤ cap := by omega
      have f10 : 2 ≤ n := by omega
      have H := Lib.hid (And.intro hh (And.intro c1 (And.intro c2 (And.intro z1 (And.intro z2 hT)))))
      clear hh c1 c2 z1 z2 hT ih hN hD hp hq hpl hql hR1 hR2 hrt h2 hcap hk hn hm hcq k1 k2
      have e0 : ((n : Int) == 0) = false := by simp; omega
      have e1 : ((n : Int) == 1) = false := by simp; omega
      go_enter Tryz.func136, Tryz.ntmps136
      go_wp2_with fail
      refine (H.out.1 _).mono ?_
      rintro e w1 ⟨rfl, rfl⟩
      have E0 := trivial
      have F0 := (Below.refl w1.heap.size w1).drew
      go_wp2_with fail
      refine wp_region_held (S := fun W => True) (by kernel_rfl) ?_
      change wpAnyH _ _ _ _ _ _ _ _ (World.drew _)
      generalize World.drew _ = v0 at *
      refine wpAnyH_take (i := 0) (v := ?_) rfl (by kernel_rfl) (by kernel_rfl) (by kernel_rfl) (fun _ _ _ h => h) (Or.inl ⟨by kernel_rfl, ?_⟩) E0 ?_
      rotate_left
      · (intro W hS; clear hS; go_simp; try (with_reducible rfl))
      refine wpAnyH_take (i := 1) (v := ?_) rfl (by kernel_rfl) (by kernel_rfl) (by kernel_rfl) (fun _ _ _ h => h) (Or.inl ⟨by kernel_rfl, ?_⟩) E0 ?_
      rotate_left
      · (intro W hS; clear hS; go_simp; try (with_reducible rfl))
      refine wpAnyH_take (i := 2) (v := ?_) rfl (by kernel_rfl) (by kernel_rfl) (by kernel_rfl) (fun _ _ _ h => h) (Or.inl ⟨by kernel_rfl, ?_⟩) E0 ?_
      rotate_left
      · (intro W hS; clear hS; go_simp; try (with_reducible rfl))
      refine wpAnyH_take (i := 4) (v := ?_) rfl (by kernel_rfl) (by kernel_rfl) (by kernel_rfl) (fun _ _ _ h => h) (Or.inl ⟨by kernel_rfl, ?_⟩) E0 ?_
      rotate_left
      · (intro W hS; clear hS; go_simp; try (with_reducible rfl))
      refine wpAnyH_take (i := 5) (v := ?_) rfl (by kernel_rfl) (by kernel_rfl) (by kernel_rfl) (fun _ _ _ h => h) (Or.inl ⟨by kernel_rfl, ?_⟩) E0 ?_
      rotate_left
      · (intro W hS; clear hS; go_simp; try (with_reducible rfl))
      refine wpAnyH_take (i := 6) (v := ?_) rfl (by kernel_rfl) (by kernel_rfl) (by kernel_rfl) (fun _ _ _ h => h) (Or.inl ⟨by kernel_rfl, ?_⟩) E0 ?_
      rotate_left
      · (intro W hS; clear hS; go_simp; try (with_reducible rfl))
      refine wpAnyH_ready (rs := [3]) (by kernel_rfl) (by simp) ?_
      refine AllReadyH.cons rfl (fun K hK => ?_) AllReadyH.nil
      go_simp
      refine (H.out.2.1 v0 (H.out.2.2.2.2.2.below F0)).mono ?_
      rintro e v1 ⟨rfl, hb⟩
      have F1 := F0.trans (hb.mono F0.size)
      have E1 : True := trivial
      refine hK.out _ _ E1 (fun _ => ?_)
      clear hK K hb
      refine wpAnyH_ready (rs := [7]) (by kernel_rfl) (by simp) ?_
      refine AllReadyH.cons rfl (fun K hK => ?_) AllReadyH.nil
      go_simp
      refine (H.out.2.2.1 v1 (H.out.2.2.2.2.2.below F1)).mono ?_
      rintro e v2 ⟨rfl, hb⟩
      have F2 := F1.trans (hb.mono F1.size)
      have E2 : True := trivial
      refine hK.out _ _ E2 (fun _ => ?_)
      clear hK K hb
      refine wpAnyH_ready (rs := [8]) (by kernel_rfl) (by simp) ?_
      refine AllReadyH.cons rfl (fun K hK => ?_) AllReadyH.nil
      go_simp
      refine (rnode_any R1 R2 (by rw [H.out.2.2.2.1]; decide) (by rw [H.out.2.2.2.2.1]; decide) v2).mono ?_
      rintro e v3 ⟨rfl, hb⟩
      have F3 := F2.trans (hb.mono F2.size)
      have E3 : True := trivial
      refine hK.out _ _ E3 (fun _ => ?_)
      clear hK K hb
      refine wpAnyH_take (i := 9) (v := ?_) rfl (by kernel_rfl) (by kernel_rfl) (by kernel_rfl) (fun _ _ _ h => h) (Or.inl ⟨by kernel_rfl, ?_⟩) E3 ?_
      rotate_left
      · (intro W hS; clear hS; go_simp; try (with_reducible rfl))
      refine wpAnyH_done (by kernel_rfl) ?_ _
      go_simp
      have HF := Lib.hid F3
      clear E0 F0 E1 F1 E2 F2 E3 F3
      go_wp2_with fail
      go_ret
      exact ⟨rfl, HF.out⟩
set_option maxRecDepth 100000 in
set_option maxHeartbeats 1000000 in
theorem root_any : ∀ (N : Nat) (ss : List ByteArray), ss.length = N → N ≤ 1000000 → Digs ss → ∀ (a0 : Option Addr) (cap : Nat) (w : World), Glob w → TextsAt w a0 ss → ss.length ≤ cap → cap ≤ maxLen →
    Calls Tryz.prog 39 #[.slice a0 ss.length cap] w fun e w' => e = .returned (.string (root ss)) ∧ Below w.heap.size w w' := by
  intro N
  induction N using Nat.strongRecOn with
  | ind N ih =>
    intro ss hN hN1 hD a0 cap w hG hT hcap hmax
    unfold maxLen at hmax
    rcases len_cases ss with rfl | ⟨x, rfl⟩ | h2
    · go_enter Tryz.func39, Tryz.ntmps39
      go_wp2_with fail
      refine (dsum_any ⟨#[]⟩ (by decide) _ hG).mono ?_
      rintro e w1 ⟨rfl, hb⟩
      go_wp2_with fail
      go_ret
      exact ⟨rfl, hb⟩
    · obtain ⟨b, off, rfl, hbl, hc⟩ := hT 0 (by simp)
      have hx : x.size = 32 := hD x (by simp)
      rw [show ([x] : List ByteArray).getD 0 ByteArray.empty = x from rfl, Nat.add_zero] at hc
      simp only [List.length_singleton] at hcap ⊢
      rw [root_one]
      clear hT hD ih hN
      go_enter Tryz.func39, Tryz.ntmps39
      go_wp2_with fail
      refine (clone_any x _ (by omega)).mono ?_
      rintro e w1 ⟨rfl, hb⟩
      go_wp2_with fail
      go_ret
      exact ⟨rfl, hb⟩
    · obtain ⟨b, off, rfl, hbl, -⟩ := hT 0 (by omega)
      obtain ⟨k, hk⟩ : ∃ k, k = hf ss.length := ⟨_, rfl⟩
      have k1 := hf_pos ss.length
      have k2 := hf_lt h2
      obtain ⟨n, hn⟩ : ∃ n, n = ss.length := ⟨_, rfl⟩
      have hh := fun W => half_any n (by omega) (by omega) W
      rw [show hf n = k by rw [hk, hn]] at hh
      rw [← hk] at k1 k2
      obtain ⟨p, hp⟩ : ∃ p, p = ss.take k := ⟨_, rfl⟩
      obtain ⟨q, hq⟩ : ∃ q, q = ss.drop k := ⟨_, rfl⟩
      have hpl : p.length = k := by rw [hp, List.length_take]; omega
      have hql : q.length = n - k := by rw [hq, List.length_drop]; omega
      have c1 := fun W (hGW : Glob W) (hTW : TextsAt W (some ⟨b, off, none⟩) ss) => ih k (by omega) p hpl (by omega) (by rw [hp]; exact hD.take k) (some ⟨b, off, none⟩) cap W hGW (by rw [hp]; exact hTW.take k) (by omega) (by unfold maxLen; omega)
      have c2 := fun W (hGW : Glob W) (hTW : TextsAt W (some ⟨b, off, none⟩) ss) => ih (n - k) (by omega) q hql (by omega) (by rw [hq]; exact hD.drop k) (some ⟨b, off + k, none⟩) (cap - k) W hGW (by rw [hq]; exact hTW.drop k) (by omega) (by unfold maxLen; omega)
      have hrt : root ss = node (root p) (root q) := by rw [root_two h2, ← hk, ← hp, ← hq]
      have z1 : (root p).size = 32 := root_size (by rw [hp]; exact hD.take k)
      have z2 : (root q).size = 32 := root_size (by rw [hq]; exact hD.drop k)
      rw [hpl] at c1
      rw [hql] at c2
      obtain ⟨R1, hR1⟩ : ∃ R, R = root p := ⟨_, rfl⟩
      obtain ⟨R2, hR2⟩ : ∃ R, R = root q := ⟨_, rfl⟩
      rw [← hR1] at c1 z1 hrt
      rw [← hR2] at c2 z2 hrt
      obtain ⟨m, hm⟩ : ∃ m, m = n - k := ⟨_, rfl⟩
      obtain ⟨cq, hcq⟩ : ∃ c, c = cap - k := ⟨_, rfl⟩
      rw [← hm, ← hcq] at c2
      rw [hrt, ← hn]
      have f1 : (k : Int) ≤ (n : Int) := by omega
      have f2 : (n : Int) - (k : Int) = (m : Int) := by omega
      have f3 : (cap : Int) - (k : Int) = (cq : Int) := by omega
      have f4 : n - k = m := hm.symm
      have f5 : cap - k = cq := hcq.symm
      have f6 : ¬ (cap = k) := by omega
      have f7 : n ≤ cap := by omega
      have f8 : k ≤ n := by omega
      have f9 : k ≤ cap := by omega
      have f10 : 2 ≤ n := by omega
      have H := Lib.hid (And.intro hh (And.intro c1 (And.intro c2 (And.intro z1 (And.intro z2 hT)))))
      clear hh c1 c2 z1 z2 hT ih hN hD hp hq hpl hql hR1 hR2 hrt h2 hcap hk hn hm hcq k1 k2
      have e0 : ((n : Int) == 0) = false := by simp; omega
      have e1 : ((n : Int) == 1) = false := by simp; omega
      go_enter Tryz.func39, Tryz.ntmps39
      go_wp2_with fail
      refine (H.out.1 _).mono ?_
      rintro e w1 ⟨rfl, rfl⟩
      have E0 := trivial
      have F0 := (Below.refl w1.heap.size w1).drew
      go_wp2_with fail
      refine wp_region_held (S := fun W => True) (by kernel_rfl) ?_
      change wpAnyH _ _ _ _ _ _ _ _ (World.drew _)
      generalize World.drew _ = v0 at *
      refine wpAnyH_take (i := 0) (v := ?_) rfl (by kernel_rfl) (by kernel_rfl) (by kernel_rfl) (fun _ _ _ h => h) (Or.inl ⟨by kernel_rfl, ?_⟩) E0 ?_
      rotate_left
      · (intro W hS; clear hS; go_simp; try (with_reducible rfl))
      refine wpAnyH_take (i := 1) (v := ?_) rfl (by kernel_rfl) (by kernel_rfl) (by kernel_rfl) (fun _ _ _ h => h) (Or.inl ⟨by kernel_rfl, ?_⟩) E0 ?_
      rotate_left
      · (intro W hS; clear hS; go_simp; try (with_reducible rfl))
      refine wpAnyH_take (i := 2) (v := ?_) rfl (by kernel_rfl) (by kernel_rfl) (by kernel_rfl) (fun _ _ _ h => h) (Or.inl ⟨by kernel_rfl, ?_⟩) E0 ?_
      rotate_left
      · (intro W hS; clear hS; go_simp; try (with_reducible rfl))
      refine wpAnyH_take (i := 4) (v := ?_) rfl (by kernel_rfl) (by kernel_rfl) (by kernel_rfl) (fun _ _ _ h => h) (Or.inl ⟨by kernel_rfl, ?_⟩) E0 ?_
      rotate_left
      · (intro W hS; clear hS; go_simp; try (with_reducible rfl))
      refine wpAnyH_take (i := 5) (v := ?_) rfl (by kernel_rfl) (by kernel_rfl) (by kernel_rfl) (fun _ _ _ h => h) (Or.inl ⟨by kernel_rfl, ?_⟩) E0 ?_
      rotate_left
      · (intro W hS; clear hS; go_simp; try (with_reducible rfl))
      refine wpAnyH_take (i := 6) (v := ?_) rfl (by kernel_rfl) (by kernel_rfl) (by kernel_rfl) (fun _ _ _ h => h) (Or.inl ⟨by kernel_rfl, ?_⟩) E0 ?_
      rotate_left
      · (intro W hS; clear hS; go_simp; try (with_reducible rfl))
      refine wpAnyH_ready (rs := [3]) (by kernel_rfl) (by simp) ?_
      refine AllReadyH.cons rfl (fun K hK => ?_) AllReadyH.nil
      go_simp
      refine (H.out.2.1 v0 (hG.below F0) (H.out.2.2.2.2.2.below F0)).mono ?_
      rintro e v1 ⟨rfl, hb⟩
      have F1 := F0.trans (hb.mono F0.size)
      have E1 : True := trivial
      refine hK.out _ _ E1 (fun _ => ?_)
      clear hK K hb
      refine wpAnyH_ready (rs := [7]) (by kernel_rfl) (by simp) ?_
      refine AllReadyH.cons rfl (fun K hK => ?_) AllReadyH.nil
      go_simp
      refine (H.out.2.2.1 v1 (hG.below F1) (H.out.2.2.2.2.2.below F1)).mono ?_
      rintro e v2 ⟨rfl, hb⟩
      have F2 := F1.trans (hb.mono F1.size)
      have E2 : True := trivial
      refine hK.out _ _ E2 (fun _ => ?_)
      clear hK K hb
      refine wpAnyH_ready (rs := [8]) (by kernel_rfl) (by simp) ?_
      refine AllReadyH.cons rfl (fun K hK => ?_) AllReadyH.nil
      go_simp
      refine (node_any R1 R2 (by rw [H.out.2.2.2.1]; decide) (by rw [H.out.2.2.2.2.1]; decide) v2 (hG.below F2)).mono ?_
      rintro e v3 ⟨rfl, hb⟩
      have F3 := F2.trans (hb.mono F2.size)
      have E3 : True := trivial
      refine hK.out _ _ E3 (fun _ => ?_)
      clear hK K hb
      refine wpAnyH_take (i := 9) (v := ?_) rfl (by kernel_rfl) (by kernel_rfl) (by kernel_rfl) (fun _ _ _ h => h) (Or.inl ⟨by kernel_rfl, ?_⟩) E3 ?_
      rotate_left
      · (intro W hS; clear hS; go_simp; try (with_reducible rfl))
      refine wpAnyH_done (by kernel_rfl) ?_ _
      go_simp
      have HF := Lib.hid F3
      clear E0 F0 E1 F1 E2 F2 E3 F3
      go_wp2_with fail
      go_ret
      exact ⟨rfl, HF.out⟩
end Go.Proofs.YtdfkpjmljaanpaaGreatDoor
