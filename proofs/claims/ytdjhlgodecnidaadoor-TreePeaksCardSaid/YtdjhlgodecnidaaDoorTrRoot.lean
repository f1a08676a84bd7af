/- lockboxref13.split; tree.Root and the reference's Root. -/
import Derived.Test.YtdjhlgodecnidaaDoorTrBase
import Derived.Test.YtdjhlgodecnidaaDoorClone
import Derived.Test.YtdjhlgodecnidaaDoorMB
import Derived.Deep.RegionHeld
import Derived.Deep.DeepMust
namespace Go.Proofs.YtdjhlgodecnidaaDoor
open Go.RowKit
open Go.RowKit (wrap64)
open Tr

theorem TextsAt.take {w : World} {a0 : Option Addr} {ss : List ByteArray} (h : TextsAt w a0 ss) (k : Nat) : TextsAt w a0 (ss.take k) := fun j hj => by
  rw [List.length_take] at hj
  obtain ⟨b, off, e, hb, hc⟩ := h j (by omega)
  refine ⟨b, off, e, hb, ?_⟩
  rw [hc, List.getD_eq_getElem?_getD, List.getD_eq_getElem?_getD, List.getElem?_take, if_pos (by omega)]
theorem TextsAt.drop {w : World} {b off : Nat} {ss : List ByteArray} (h : TextsAt w (some ⟨b, off, none⟩) ss) (k : Nat) : TextsAt w (some ⟨b, off + k, none⟩) (ss.drop k) := fun j hj => by
  rw [List.length_drop] at hj
  obtain ⟨b', off', e, hb, hc⟩ := h (k + j) (by omega)
  injection e with e
  injection e with e1 e2
  subst e1 e2
  refine ⟨b, off + k, rfl, hb, ?_⟩
  rw [Nat.add_assoc, hc, List.getD_eq_getElem?_getD, List.getD_eq_getElem?_getD, List.getElem?_drop]
theorem Tr.Digs.take {l : List ByteArray} (h : Digs l) (k : Nat) : Digs (l.take k) := fun x hx => h x (List.mem_of_mem_take hx)
theorem Tr.Digs.drop {l : List ByteArray} (h : Digs l) (k : Nat) : Digs (l.drop k) := fun x hx => h x (List.mem_of_mem_drop hx)
theorem root_size : ∀ {l : List ByteArray}, Digs l → (root l).size = 32
  | [], _ => sumE_size _
  | [x], h => h x (by simp)
  | a :: b :: r, _ => by rw [root_two (by simp)]; exact sumE_size _
set_option maxRecDepth 100000 in
set_option maxHeartbeats 400000 in
theorem split_any (n : Nat) (h2 : 2 ≤ n) (hn : n ≤ 1000000) (w : World) : Calls Tryd.prog 61 #[.int .i64 n] w fun e w' => e = .returned (.int .i64 (hf n)) ∧ w' = w := by
  go_enter Tryd.func61, Tryd.ntmps61
  go_wp2_with fail
  go_loopw [3] (fun v wr => ∃ (k j : Nat), k = 2 ^ j ∧ v = .int .i64 k ∧ k < n ∧ wr = w) (fun v _ => n - (intOf v).toNat)
  case atStart => exact ⟨1, 0, rfl, rfl, by omega, rfl⟩
  case round =>
    obtain ⟨k, j, hk, rfl, hlt, rfl⟩ := hrel
    have hkj := Lib.hid hk
    have hp : 1 ≤ k := by rw [hk]; exact Nat.two_pow_pos j
    clear hk
    have e1 : IntKind.i64.wrap (2 * (k : Int)) = ((2 * k : Nat) : Int) := by rw [show 2 * (k : Int) = ((2 * k : Nat) : Int) by omega]; exact IntWalk.i64_in _ (by omega)
    obtain ⟨q, hq⟩ : ∃ q, q = 2 * k := ⟨_, rfl⟩
    rw [← hq] at e1
    have HQ := Lib.hid hq
    clear hq
    by_cases hc : q < n
    · have hq2 : ((q : Int) < (n : Int)) := by omega
      go_wp2_with fail
      go_roundw
      case rel => exact ⟨q, j + 1, by rw [HQ.out, hkj.out, Nat.pow_succ, Nat.mul_comm], rfl, hc, by trivial⟩
      case measure => simp [intOf]; have := HQ.out; omega
    · have hq2 : ¬ ((q : Int) < (n : Int)) := by omega
      go_wp2_with fail
      go_ret
      exact ⟨by rw [hf_unique hkj.out hlt (by have := HQ.out; omega)]; rfl, rfl⟩
set_option maxRecDepth 100000 in
set_option maxHeartbeats 1000000 in
theorem rroot_any : ∀ (N : Nat) (ss : List ByteArray), ss.length = N → N ≤ 1000000 → Digs ss → ∀ (a0 : Option Addr) (cap : Nat) (w : World), TextsAt w a0 ss → ss.length ≤ cap → cap ≤ maxLen →
    Calls Tryd.prog 22 #[.slice a0 ss.length cap] w fun e w' => e = .returned (.string (root ss)) ∧ Below w.heap.size w w' := by
  intro N
  induction N using Nat.strongRecOn with
  | ind N ih =>
    intro ss hN hN1 hD a0 cap w hT hcap hmax
    unfold maxLen at hmax
    rcases len_cases ss with rfl | ⟨x, rfl⟩ | h2
    · go_enter Tryd.func22, Tryd.ntmps22
      go_wp2_with fail
      refine (rsumref_any ⟨#[]⟩ (by decide) _).mono ?_
      rintro e w1 ⟨rfl, hb⟩
      go_wp2_with fail
      go_ret
      exact ⟨rfl, hb⟩
    · obtain ⟨b, off, rfl, hbl, hc⟩ := hT 0 (by simp)
      have hx : x.size = 32 := hD x (by simp)
      rw [show ([x] : List ByteArray).getD 0 ByteArray.empty = x from rfl, Nat.add_zero] at hc
      simp only [List.length_singleton] at hcap ⊢
      rw [root_one]
      clear hT hD ih hN
      go_enter Tryd.func22, Tryd.ntmps22
      go_wp2_with fail
      go_ret
      exact ⟨rfl, Below.refl _ _⟩
    · obtain ⟨b, off, rfl, hbl, -⟩ := hT 0 (by omega)
      obtain ⟨k, hk⟩ : ∃ k, k = hf ss.length := ⟨_, rfl⟩
      have k1 := hf_pos ss.length
      have k2 := hf_lt h2
      obtain ⟨n, hn⟩ : ∃ n, n = ss.length := ⟨_, rfl⟩
      have hh := fun W => split_any n (by omega) (by omega) W
      rw [show hf n = k by rw [hk, hn]] at hh
      rw [← hk] at k1 k2
      obtain ⟨p, hp⟩ : ∃ p, p = ss.take k := ⟨_, rfl⟩
      obtain ⟨q, hq⟩ : ∃ q, q = ss.drop k := ⟨_, rfl⟩
      have hpl : p.length = k := by rw [hp, List.length_take]; omega
      have hql : q.length = n - k := by rw [hq, List.length_drop]; omega
      have c1 := fun W (hTW : TextsAt W (some ⟨b, off, none⟩) ss) => ih k (by omega) p hpl (by omega) (by rw [hp]; exact hD.take k) (some ⟨b, off, none⟩) cap W (by rw [hp]; exact hTW.take k) (by omega) (by unfold maxLen; omega)
      have c2 := fun W (hTW : TextsAt W (some ⟨b, off, none⟩) ss) => ih (n - k) (by omega) q hql (by omega) (by rw [hq]; exact hD.drop k) (some ⟨b, off + k, none⟩) (cap - k) W (by rw [hq]; exact hTW.drop k) (by omega) (by unfold maxLen; omega)
      have hrt : root ss = node (root p) (root q) := by rw [root_two h2, ← hk, ← hp, ← hq]
      have z1 : (root p).size = 32 := root_size (by rw [hp]; exact hD.take k)
      have z2 : (root q).size = 32 := root_size (by rw [hq]; exact hD.drop k)
      rw [hpl] at c1
      rw [hql] at c2
      obtain ⟨R1, hR1⟩ : ∃ R, R = root p := ⟨_, rfl⟩
      obtain ⟨R2, hR2⟩ : ∃ R, R = root q := ⟨_, rfl⟩
      rw [← hR1] at c1 z1 hrt
      rw [← hR2] at c2 z2 hrt
      obtain ⟨m, hm⟩ : ∃ m, m = n - k := ⟨_, rfl⟩
      obtain ⟨cq, hcq⟩ : ∃ c, c = cap - k := ⟨_, rfl⟩
      rw [← hm, ← hcq] at c2
      rw [hrt, ← hn]
      have f1 : (k : Int) ≤ (n : Int) := by omega
      have f2 : (n : Int) - (k : Int) = (m : Int) := by omega
      have f3 : (cap : Int) - (k : Int) = (cq : Int) := by omega
      have f4 : n - k = m := hm.symm
      have f5 : cap - k = cq := hcq.symm
      have f6 : ¬ (cap = k) := by omega
      have f7 : n ≤ cap := by omega
      have f8 : k ≤ n := by omega
      have f9 : k ≤ cap := by omega
      have f10 : 2 ≤ n := by omega
      have H := Lib.hid (And.intro hh (And.intro c1 (And.intro c2 (And.intro z1 (And.intro z2 hT)))))
      clear hh c1 c2 z1 z2 hT ih hN hD hp hq hpl hql hR1 hR2 hrt h2 hcap hk hn hm hcq k1 k2
      have e0 : ((n : Int) == 0) = false := by simp; omega
      have e1 : ((n : Int) == 1) = false := by simp; omega
      go_enter Tryd.func22, Tryd.ntmps22
      go_wp2_with fail
      refine (H.out.1 _).mono ?_
      rintro e w1 ⟨rfl, rfl⟩
      have E0 := trivial
      have F0 := (Below.refl w1.heap.size w1).drew
      go_wp2_with fail
      refine wp_region_held (S := fun W => True) (by kernel_rfl) ?_
      change wpAnyH _ _ _ _ _ _ _ _ (World.drew _)
      generalize World.drew _ = v0 at *
      refine wpAnyH_take (i := 0) (v := ?_) rfl (by kernel_rfl) (by kernel_rfl) (by kernel_rfl) (fun _ _ _ h => h) (Or.inl ⟨by kernel_rfl, ?_⟩) E0 ?_
      rotate_left
      · (intro W hS; clear hS; go_simp; try (with_reducible rfl))
      refine wpAnyH_take (i := 1) (v := ?_) rfl (by kernel_rfl) (by kernel_rfl) (by kernel_rfl) (fun _ _ _ h => h) (Or.inl ⟨by kernel_rfl, ?_⟩) E0 ?_
      rotate_left
      · (intro W hS; clear hS; go_simp; try (with_reducible rfl))
      refine wpAnyH_take (i := 2) (v := ?_) rfl (by kernel_rfl) (by kernel_rfl) (by kernel_rfl) (fun _ _ _ h => h) (Or.inl ⟨by kernel_rfl, ?_⟩) E0 ?_
      rotate_left
      · (intro W hS; clear hS; go_simp; try (with_reducible rfl))
      refine wpAnyH_take (i := 4) (v := ?_) rfl (by kernel_rfl) (by kernel_rfl) (by kernel_rfl) (fun _ _ _ h => h) (Or.inl ⟨by kernel_rfl, ?_⟩) E0 ?_
      rotate_left
      · (intro W hS; clear hS; go_simp; try (with_reducible rfl))
      refine wpAnyH_take (i := 5) (v := ?_) rfl (by kernel_rfl) (by kernel_rfl) (by kernel_rfl) (fun _ _ _ h => h) (Or.inl ⟨by kernel_rfl, ?_⟩) E0 ?_
      rotate_left
      · (intro W hS; clear hS; go_simp; try (with_reducible rfl))
      refine wpAnyH_take (i := 6) (v := ?_) rfl (by kernel_rfl) (by kernel_rfl) (by kernel_rfl) (fun _ _ _ h => h) (Or.inl ⟨by kernel_rfl, ?_⟩) E0 ?_
      rotate_left
      · (intro W hS; clear hS; go_simp; try (with_reducible rfl))
      refine wpAnyH_ready (rs := [3]) (by kernel_rfl) (by simp) ?_
      refine AllReadyH.cons rfl (fun K hK => ?_) AllReadyH.nil
      go_simp
      refine (H.out.2.1 v0 (H.out.2.2.2.2.2.below F0)).mono ?_
      rintro e v1 ⟨rfl, hb⟩
      have F1 := F0.trans (hb.mono F0.size)
      have E1 : True := trivial
      refine hK.out _ _ E1 (fun _ => ?_)
      clear hK K hb
      refine wpAnyH_ready (rs := [7]) (by kernel_rfl) (by simp) ?_
      refine AllReadyH.cons rfl (fun K hK => ?_) AllReadyH.nil
      go_simp
      refine (H.out.2.2.1 v1 (H.out.2.2.2.2.2.below F1)).mono ?_
      rintro e v2 ⟨rfl, hb⟩
      have F2 := F1.trans (hb.mono F1.size)
      have E2 : True := trivial
      refine hK.out _ _ E2 (fun _ => ?_)
      clear hK K hb
      refine wpAnyH_ready (rs := [8]) (by kernel_rfl) (by simp) ?_
      refine AllReadyH.cons rfl (fun K hK => ?_) AllReadyH.nil
      go_simp
      refine (rnode_any R1 R2 (by rw [H.out.2.2.2.1]; decide) (by rw [H.out.2.2.2.2.1]; decide) v2).mono ?_
      rintro e v3 ⟨rfl, hb⟩
      have F3 := F2.trans (hb.mono F2.size)
      have E3 : True := trivial
      refine hK.out _ _ E3 (fun _ => ?_)
      clear hK K hb
      refine wpAnyH_take (i := 9) (v := ?_) rfl (by kernel_rfl) (by kernel_rfl) (by kernel_rfl) (fun _ _ _ h => h) (Or.inl ⟨by kernel_rfl, ?_⟩) E3 ?_
      rotate_left
      · (intro W hS; clear hS; go_simp; try (with_reducible rfl))
      refine wpAnyH_done (by kernel_rfl) ?_ _
      go_simp
      have HF := Lib.hid F3
      clear E0 F0 E1 F1 E2 F2 E3 F3
      go_wp2_with fail
      go_ret
      exact ⟨rfl, HF.out⟩
set_option maxRecDepth 100000 in
set_option maxHeartbeats 1000000 in
theorem root_any : ∀ (N : Nat) (ss : List ByteArray), ss.length = N → N ≤ 1000000 → Digs ss → ∀ (a0 : Option Addr) (cap : Nat) (w : World), Glob w → TextsAt w a0 ss → ss.length ≤ cap → cap ≤ maxLen →
    Calls Tryd.prog 21 #[.slice a0 ss.length cap] w fun e w' => e = .returned (.string (root ss)) ∧ Below w.heap.size w w' := by
  intro N
  induction N using Nat.strongRecOn with
  | ind N ih =>
    intro ss hN hN1 hD a0 cap w hG hT hcap hmax
    unfold maxLen at hmax
    rcases len_cases ss with rfl | ⟨x, rfl⟩ | h2
    · go_enter Tryd.func21, Tryd.ntmps21
      go_wp2_with fail
      refine (dsum_any ⟨#[]⟩ (by decide) _ hG).mono ?_
      rintro e w1 ⟨rfl, hb⟩
      go_wp2_with fail
      go_ret
      exact ⟨rfl, hb⟩
    · obtain ⟨b, off, rfl, hbl, hc⟩ := hT 0 (by simp)
      have hx : x.size = 32 := hD x (by simp)
      rw [show ([x] : List ByteArray).getD 0 ByteArray.empty = x from rfl, Nat.add_zero] at hc
      simp only [List.length_singleton] at hcap ⊢
      rw [root_one]
      clear hT hD ih hN
      go_enter Tryd.func21, Tryd.ntmps21
      go_wp2_with fail
      refine (clone_any x _ (by omega)).mono ?_
      rintro e w1 ⟨rfl, hb⟩
      go_wp2_with fail
      go_ret
      exact ⟨rfl, hb⟩
    · obtain ⟨b, off, rfl, hbl, -⟩ := hT 0 (by omega)
      obtain ⟨k, hk⟩ : ∃ k, k = hf ss.length := ⟨_, rfl⟩
      have k1 := hf_pos ss.length
      have k2 := hf_lt h2
      obtain ⟨n, hn⟩ : ∃ n, n = ss.length := ⟨_, rfl⟩
      have hh := fun W => half_any n (by omega) (by omega) W
      rw [show hf n = k by rw [hk, hn]] at hh
      rw [← hk] at k1 k2
      obtain ⟨p, hp⟩ : ∃ p, p = ss.take k := ⟨_, rfl⟩
      obtain ⟨q, hq⟩ : ∃ q, q = ss.drop k := ⟨_, rfl⟩
      have hpl : p.length = k := by rw [hp, List.length_take]; omega
      have hql : q.length = n - k := by rw [hq, List.length_drop]; omega
      have c1 := fun W (hGW : Glob W) (hTW : TextsAt W (some ⟨b, off, none⟩) ss) => ih k (by omega) p hpl (by omega) (by rw [hp]; exact hD.take k) (some ⟨b, off, none⟩) cap W hGW (by rw [hp]; exact hTW.take k) (by omega) (by unfold maxLen; omega)
      have c2 := fun W (hGW : Glob W) (hTW : TextsAt W (some ⟨b, off, none⟩) ss) => ih (n - k) (by omega) q hql (by omega) (by rw [hq]; exact hD.drop k) (some ⟨b, off + k, none⟩) (cap - k) W hGW (by rw [hq]; exact hTW.drop k) (by omega) (by unfold maxLen; omega)
      have hrt : root ss = node (root p) (root q) := by rw [root_two h2, ← hk, ← hp, ← hq]
      have z1 : (root p).size = 32 := root_size (by rw [hp]; exact hD.take k)
      have z2 : (root q).size = 32 := root_size (by rw [hq]; exact hD.drop k)
      rw [hpl] at c1
      rw [hql] at c2
      obtain ⟨R1, hR1⟩ : ∃ R, R = root p := ⟨_, rfl⟩
      obtain ⟨R2, hR2⟩ : ∃ R, R = root q := ⟨_, rfl⟩
      rw [← hR1] at c1 z1 hrt
      rw [← hR2] at c2 z2 hrt
      obtain ⟨m, hm⟩ : ∃ m, m = n - k := ⟨_, rfl⟩
      obtain ⟨cq, hcq⟩ : ∃ c, c = cap - k := ⟨_, rfl⟩
      rw [← hm, ← hcq] at c2
      rw [hrt, ← hn]
      have f1 : (k : Int) ≤ (n : Int) := by omega
      have f2 : (n : Int) - (k : Int) = (m : Int) := by omega
      have f3 : (cap : Int) - (k : Int) = (cq : Int) := by omega
      have f4 : n - k = m := hm.symm
      have f5 : cap - k = cq := hcq.symm
      have f6 : ¬ (cap = k) := by omega
      have f7 : n ≤ cap := by omega
      have f8 : k ≤ n := by omega
      have f9 : k ≤ cap := by omega
      have f10 : 2 ≤ n := by omega
      have H := Lib.hid (And.intro hh (And.intro c1 (And.intro c2 (And.intro z1 (And.intro z2 hT)))))
      clear hh c1 c2 z1 z2 hT ih hN hD hp hq hpl hql hR1 hR2 hrt h2 hcap hk hn hm hcq k1 k2
      have e0 : ((n : Int) == 0) = false := by simp; omega
      have e1 : ((n : Int) == 1) = false := by simp; omega
      go_enter Tryd.func21, Tryd.ntmps21
      go_wp2_with fail
      refine (H.out.1 _).mono ?_
      rintro e w1 ⟨rfl, rfl⟩
      have E0 := trivial
      have F0 := (Below.refl w1.heap.size w1).drew
      go_wp2_with fail
      refine wp_region_held (S := fun W => True) (by kernel_rfl) ?_
      change wpAnyH _ _ _ _ _ _ _ _ (World.drew _)
      generalize World.drew _ = v0 at *
      refine wpAnyH_take (i := 0) (v := ?_) rfl (by kernel_rfl) (by kernel_rfl) (by kernel_rfl) (fun _ _ _ h => h) (Or.inl ⟨by kernel_rfl, ?_⟩) E0 ?_
      rotate_left
      · (intro W hS; clear hS; go_simp; try (with_reducible rfl))
      refine wpAnyH_take (i := 1) (v := ?_) rfl (by kernel_rfl) (by kernel_rfl) (by kernel_rfl) (fun _ _ _ h => h) (Or.inl ⟨by kernel_rfl, ?_⟩) E0 ?_
      rotate_left
      · (intro W hS; clear hS; go_simp; try (with_reducible rfl))
      refine wpAnyH_take (i := 2) (v := ?_) rfl (by kernel_rfl) (by kernel_rfl) (by kernel_rfl) (fun _ _ _ h => h) (Or.inl ⟨by kernel_rfl, ?_⟩) E0 ?_
      rotate_left
      · (intro W hS; clear hS; go_simp; try (with_reducible rfl))
      refine wpAnyH_take (i := 4) (v := ?_) rfl (by kernel_rfl) (by kernel_rfl) (by kernel_rfl) (fun _ _ _ h => h) (Or.inl ⟨by kernel_rfl, ?_⟩) E0 ?_
      rotate_left
      · (intro W hS; clear hS; go_simp; try (with_reducible rfl))
      refine wpAnyH_take (i := 5) (v := ?_) rfl (by kernel_rfl) (by kernel_rfl) (by kernel_rfl) (fun _ _ _ h => h) (Or.inl ⟨by kernel_rfl, ?_⟩) E0 ?_
      rotate_left
      · (intro W hS; clear hS; go_simp; try (with_reducible rfl))
      refine wpAnyH_take (i := 6) (v := ?_) rfl (by kernel_rfl) (by kernel_rfl) (by kernel_rfl) (fun _ _ _ h => h) (Or.inl ⟨by kernel_rfl, ?_⟩) E0 ?_
      rotate_left
      · (intro W hS; clear hS; go_simp; try (with_reducible rfl))
      refine wpAnyH_ready (rs := [3]) (by kernel_rfl) (by simp) ?_
      refine AllReadyH.cons rfl (fun K hK => ?_) AllReadyH.nil
      go_simp
      refine (H.out.2.1 v0 (hG.below F0) (H.out.2.2.2.2.2.below F0)).mono ?_
      rintro e v1 ⟨rfl, hb⟩
      have F1 := F0.trans (hb.mono F0.size)
      have E1 : True := trivial
      refine hK.out _ _ E1 (fun _ => ?_)
      clear hK K hb
      refine wpAnyH_ready (rs := [7]) (by kernel_rfl) (by simp) ?_
      refine AllReadyH.cons rfl (fun K hK => ?_) AllReadyH.nil
      go_simp
      refine (H.out.2.2.1 v1 (hG.below F1) (H.out.2.2.2.2.2.below F1)).mono ?_
      rintro e v2 ⟨rfl, hb⟩
      have F2 := F1.trans (hb.mono F1.size)
      have E2 : True := trivial
      refine hK.out _ _ E2 (fun _ => ?_)
      clear hK K hb
      refine wpAnyH_ready (rs := [8]) (by kernel_rfl) (by simp) ?_
      refine AllReadyH.cons rfl (fun K hK => ?_) AllReadyH.nil
      go_simp
      refine (node_any R1 R2 (by rw [H.out.2.2.2.1]; decide) (by rw [H.out.2.2.2.2.1]; decide) v2 (hG.below F2)).mono ?_
      rintro e v3 ⟨rfl, hb⟩
      have F3 := F2.trans (hb.mono F2.size)
      have E3 : True := trivial
      refine hK.out _ _ E3 (fun _ => ?_)
      clear hK K hb
      refine wpAnyH_take (i := 9) (v := ?_) rfl (by kernel_rfl) (by kernel_rfl) (by kernel_rfl) (fun _ _ _ h => h) (Or.inl ⟨by kernel_rfl, ?_⟩) E3 ?_
      rotate_left
      · (intro W hS; clear hS; go_simp; try (with_reducible rfl))
      refine wpAnyH_done (by kernel_rfl) ?_ _
      go_simp
      have HF := Lib.hid F3
      clear E0 F0 E1 F1 E2 F2 E3 F3
      go_wp2_with fail
      go_ret
      exact ⟨rfl, HF.out⟩
end Go.Proofs.YtdjhlgodecnidaaDoor
