/- tree.cross: where a bridge leads. -/
import Derived.Test.YtdjhlgodecnidaaDoorTrTz
import Derived.Deep.DeepCutAuto
namespace Go.Proofs.YtdjhlgodecnidaaDoor
open Go.RowKit
open Tr

/-- The part of cross behind its node: two climbs. -/
def StepE (w : World) (x : Option (ByteArray × List ByteArray)) (e : Ending) (w' : World) : Prop :=
  ∃ a c, e = .returned (.tuple #[.string (crE x).1, .slice a (crE x).2.1.length c, .int .i64 (crE x).2.2]) ∧ OwnT w.heap.size w' a c (crE x).2.1 ∧ Below w.heap.size w w'
theorem stepC_none {a l : Nat} {old d : ByteArray} {ws : List ByteArray} (h : climb a l d ws = none) : stepC a l old d ws = none := by
  unfold stepC; rw [h]
theorem stepC_some {a l : Nat} {old d : ByteArray} {ws : List ByteArray} {r : ByteArray} {T lf : List ByteArray} {r1 : ByteArray} {T1 l1 : List ByteArray} (h : climb a l d ws = some (r, T, lf)) (h1 : climb a a d lf = some (r1, T1, l1)) : stepC a l old d ws = if r1 = old then some (r, T1 ++ T) else none := by
  unfold stepC; rw [h]; simp only; rw [h1]
set_option maxRecDepth 100000 in
set_option maxHeartbeats 8000000 in
theorem cross_any (m n : Nat) (h0 : 1 ≤ m) (hlt : m < n) (hn : n ≤ 4096) (old : ByteArray) (hold : old.size ≤ 100000) (br : List ByteArray) (hbr : br.length ≤ 1000000) (hD : Digs br) (b0 : Option Addr) (cap : Nat) (hcap : br.length ≤ cap) (hmax : cap ≤ maxLen) (w : World) (hG : Glob w) (hZ : TabZ w) (hT : TextsAt w b0 br) :
    Calls Tryd.prog 70 #[.int .i64 m, .int .i64 n, .string old, .slice b0 br.length cap] w (StepE w (crossP (od m) ((n - 1) / 2 ^ lv m) old br)) := by
  have tz := tz_any m h0 (by omega) w hZ
  obtain ⟨e1, e2, e3⟩ := lv_spec h0 (by omega : m ≤ 4096)
  obtain ⟨j, hj⟩ : ∃ j, j = lv m := ⟨_, rfl⟩
  obtain ⟨q, hq⟩ : ∃ q, q = od m := ⟨_, rfl⟩
  rw [← hj, ← hq] at e1
  rw [← hq] at e2
  rw [← hj] at e3 tz
  rw [← hj, ← hq]
  have hp := Nat.two_pow_pos j
  obtain ⟨l, hl⟩ : ∃ l, l = (n - 1) / 2 ^ j := ⟨_, rfl⟩
  rw [← hl]
  obtain ⟨p, hpn⟩ : ∃ p, p = n - 1 := ⟨_, rfl⟩
  rw [← hpn] at hl
  have hql : q ≤ l := by rw [hl]; exact (Nat.le_div_iff_mul_le hp).2 (by omega)
  have hl2 : l ≤ 4096 := by rw [hl]; exact Nat.le_trans (Nat.div_le_self _ _) (by omega)
  have d1 : (m : Int) / 2 ^ j = (q : Int) := by
    have : m / 2 ^ j = q := by rw [e1]; exact Nat.mul_div_cancel _ hp
    rw [← this]; simp
  have d2 : (n : Int) - 1 = (p : Int) := by omega
  have d3 : (p : Int) / 2 ^ j = (l : Int) := by rw [hl]; simp
  obtain ⟨a, ha⟩ : ∃ a, a = q - 1 := ⟨_, rfl⟩
  have d4 : (q : Int) - 1 = (a : Int) := by omega
  have d5 : IntKind.u64.wrap (m : Int) = (m : Int) := by rw [IntKind.wrap_u64]; omega
  have j64 : (j : Int) ≤ 64 := by omega
  have j0 : (0 : Int) ≤ (j : Int) := by omega
  have jn : ¬ ((j : Int) < 0) := by omega
  have hal : a ≤ l := by omega
  have hp2 : p ≤ 4096 := by omega
  obtain ⟨N, hN⟩ : ∃ N, N = br.length := ⟨_, rfl⟩
  have HG := Lib.hid hG
  have HTZ := Lib.hid tz
  clear tz e1 hj hq hp hl hpn hG hZ e3 
  unfold crossP
  by_cases hq1 : q = 1
  · rw [if_pos hq1]
    have ha0 : a = 0 := by omega
    have da : ¬ ((0 : Int) < (a : Int)) := by omega
    rw [← ha0]
    have c1 := fun W (h : Below w.heap.size w W) => climb_any a l hal (by omega) old hold br hbr hD b0 cap hcap hmax W (HG.out.below h) (hT.below h)
    have hD2 := hD
    have hdz := hold
    have hwz := hbr
    rw [← hN] at c1 ⊢
    obtain ⟨SC, hSC⟩ : ∃ x, x = stepC a l old old br := ⟨_, rfl⟩
    rw [← hSC]
    have HSC := Lib.hid hSC
    clear hSC
    have H := Lib.hid (And.intro c1 (And.intro hD2 (And.intro hdz hwz)))
    clear c1 hD hD2 hdz hold hbr hwz hN hT hcap hmax ha ha0 hq1 e2 hql h0 hlt hn
    go_enter Tryd.func70, Tryd.ntmps70
    go_wp2_with fail
    refine HTZ.out.mono ?_
    rintro e w0 ⟨rfl, hw0⟩
    rw [hw0]
    clear hw0 w0
    go_wp2_with fail
    go_quiet (fail)
    go_wp2_with fail
    generalize hW0 : World.drewN _ _ = W0
    have HW0 := Lib.hid (show Below w.heap.size w W0 from by rw [← hW0]; exact below_drewN (Below.refl _ _) _)
    clear hW0
    refine (H.out.1 W0 HW0.out).mono ?_
    rintro e w1 ⟨hb, r, ta, tn, tc, la, ln, lc, rfl, hx⟩
    replace hb := HW0.out.trans (hb.mono HW0.out.size)
    obtain ⟨w2, hw2⟩ : ∃ w2, w2 = w1.alloc (.cells #[.string r, .slice ta tn tc, .slice la ln lc] 83) := ⟨_, rfl⟩
    have hb2 : Below w1.heap.size w1 w2 := by rw [hw2]; exact (Below.refl _ _).alloc (Nat.le_refl _) _
    have hg2 : w2.heap[w1.heap.size]? = some (.cells #[.string r, .slice ta tn tc, .slice la ln lc] 83 (0, 0)) := by rw [hw2]; exact heap_alloc_new _ _
    have B2 := hb.trans (hb2.mono hb.size)
    cases hG0 : climb a l old br with
    | none =>
      obtain rfl : SC = none := HSC.out.trans (stepC_none hG0)
      have HB := Lib.hid B2
      clear hb hx hb2 hg2 B2 hG0
      go_upto_region 9 with fail
      rw [← hw2]
      clear hw2
      go_wp2_with fail
      go_ret3
      exact ⟨none, 0, rfl, OwnT.nil _ _, HB.out⟩
    | some X =>
      obtain ⟨X1, XT, XL⟩ := X
      obtain ⟨rfl, rfl, rfl, hO, hP⟩ := hx _ hG0
      simp only at hO hP hg2 hw2 ⊢
      replace hO := OwnT.mono hO HW0.out.size
      replace hP := OwnT.mono hP HW0.out.size
      have hlen := climb_len _ _ _ _ _ hG0
      simp only at hlen
      have hXL : Digs XL := fun y hy => H.out.2.1 y (climb_left _ _ _ _ _ hG0 y hy)
      obtain ⟨z, hz⟩ := climb_first l a old br r XT XL hal hG0 old
      obtain ⟨z1, zT, zL⟩ := z
      have hlen2 := climb_len _ _ _ _ _ hz
      simp only at hlen2
      have HS2 := Lib.hid (HSC.out.trans (stepC_some hG0 hz))
      have hXTl : XT.length ≤ 1000000 := by have := H.out.2.2.2; omega
      have hzTl : zT.length ≤ 1000000 := by have := H.out.2.2.2; omega
      have c2 := fun W (h : Below w.heap.size w W) hTW => climb_any a a (Nat.le_refl _) (by omega) old H.out.2.2.1 XL (by have := H.out.2.2.2; omega) hXL la lc hP.capy.1 hP.capy.2 W (HG.out.below h) hTW
      rw [hz] at c2
      obtain ⟨tn, htn⟩ : ∃ t, t = XT.length := ⟨_, rfl⟩
      obtain ⟨ln, hln⟩ : ∃ t, t = XL.length := ⟨_, rfl⟩
      rw [← hln] at c2
      rw [← htn, ← hln] at hg2 hw2 ⊢
      obtain ⟨q0, q1, q2, qf⟩ := row3 hg2
      have HD := Lib.hid (And.intro B2 (And.intro (OwnT.call hO hb2) (And.intro (OwnT.call hP hb2).texts (And.intro c2 (And.intro htn hg2)))))
      have HL := Lib.hid (And.intro hXTl hzTl)
      clear hb hx hb2 hg2 B2 hO hP htn hln c2 hG0 hlen hXL hz hlen2 hXTl hzTl HSC
      go_upto_region 9 with fail
      rw [← hw2]
      clear hw2
      go_wp2_with fail
      refine (HD.out.2.2.2.1 _ HD.out.1 HD.out.2.2.1).mono ?_
      rintro e w3 ⟨hb, r1, ta1, tn1, tc1, la1, ln1, lc1, rfl, hx⟩
      obtain ⟨rfl, rfl, rfl, hO, -⟩ := hx _ rfl
      simp only at hO ⊢
      obtain ⟨tn1, htn1⟩ : ∃ t, t = zT.length := ⟨_, rfl⟩
      obtain ⟨ln1, hln1⟩ : ∃ t, t = zL.length := ⟨_, rfl⟩
      rw [← htn1, ← hln1]
      obtain ⟨w4, hw4⟩ : ∃ w4, w4 = w3.alloc (.cells #[.string r1, .slice ta1 tn1 tc1, .slice la1 ln1 lc1] 83) := ⟨_, rfl⟩
      have hb4 : Below w3.heap.size w3 w4 := by rw [hw4]; exact (Below.refl _ _).alloc (Nat.le_refl _) _
      have hg4 : w4.heap[w3.heap.size]? = some (.cells #[.string r1, .slice ta1 tn1 tc1, .slice la1 ln1 lc1] 83 (0, 0)) := by rw [hw4]; exact heap_alloc_new _ _
      have hb24 := hb.trans (hb4.mono hb.size)
      have hg24 : w4.heap[w1.heap.size]? = some (.cells #[.string r, .slice ta tn tc, .slice la ln lc] 83 (0, 0)) := (hb24.block _ (lt_obj HD.out.2.2.2.2.2)).trans HD.out.2.2.2.2.2
      have B4 := HD.out.1.trans (hb24.mono HD.out.1.size)
      have HK := Lib.hid (show ∀ k, (Value.slice ta1 zT.length tc1).ownBlock = some k → w1.heap.size < k ∧ k < w3.heap.size from fun k hk => by have h1 := World.ownsRow.lt hO k hk; have h2 := lt_obj HD.out.2.2.2.2.2; omega)
      have HE := Lib.hid (And.intro B4 (And.intro (OwnT.mono (OwnT.call hO hb4) HD.out.1.size) (And.intro (HD.out.2.1.call hb24).texts (And.intro htn1 (And.intro hg4 hg24)))))
      have hro : (r1.toList == old.toList) = decide (r1 = old) := twin_beq r1 old
      clear hb hx hb4 hb24 B4 hO htn1 hln1 q0 q1 q2 qf hg24
      obtain ⟨p0, p1, p2, pf⟩ := row3 hg4
      clear hg4
      have hSC2 := HS2.out
      clear HS2
      by_cases hzo : r1 = old
      rotate_left
      · rw [if_neg hzo] at hSC2
        subst hSC2
        rw [decide_eq_false hzo] at hro
        clear hzo
        go_upto_region 12 with fail
        rw [← hw4]
        clear hw4
        go_wp2_with fail
        go_ret3
        exact ⟨none, 0, rfl, OwnT.nil _ _, HE.out.1⟩
      · rw [if_pos hzo] at hSC2
        subst hSC2
        rw [decide_eq_true hzo] at hro
        have hE := hzo.symm
        clear hzo
        subst hE
        go_upto_region 12 with fail
        rw [← hw4]
        clear hw4
        go_upto_region 14 with fail
        clear p0 p1 p2 pf
        go_wp2_with fail
        refine wp_region_held (S := fun W => W.heap[w1.heap.size]? = some (.cells #[.string r, .slice ta tn tc, .slice la ln lc] 83 (0, 0)) ∧ W.heap[w3.heap.size]? = some (.cells #[.string old, .slice ta1 tn1 tc1, .slice la1 ln1 lc1] 83 (0, 0))) (by kernel_rfl) ?_
        change wpAnyH _ _ _ _ _ _ _ _ (World.drew _)
        generalize hv0 : World.drew _ = v0
        have E0 : v0.heap[w1.heap.size]? = some (.cells #[.string r, .slice ta tn tc, .slice la ln lc] 83 (0, 0)) ∧ v0.heap[w3.heap.size]? = some (.cells #[.string old, .slice ta1 tn1 tc1, .slice la1 ln1 lc1] 83 (0, 0)) := by rw [← hv0]; exact ⟨HE.out.2.2.2.2.2, HE.out.2.2.2.2.1⟩
        have F0 : Below w.heap.size w v0 := by rw [← hv0]; exact HE.out.1.drew
        have O0 : OwnT w.heap.size v0 ta1 tc1 zT := by rw [← hv0]; exact HE.out.2.1.drew
        have T0 : TextsAt v0 ta XT := by rw [← hv0]; exact HE.out.2.2.1
        clear hv0
        refine wpAnyH_take (i := 0) (v := ?_) rfl (by kernel_rfl) (by kernel_rfl) (by kernel_rfl) (fun _ _ _ h => h) (Or.inl ⟨by kernel_rfl, ?_⟩) E0 ?_
        rotate_left
        · (intro W hS; obtain ⟨q0, q1, q2, qf⟩ := row3 hS.1; obtain ⟨p0, p1, p2, pf⟩ := row3 hS.2; clear hS; go_simp; try (with_reducible rfl))
        refine wpAnyH_take (i := 1) (v := ?_) rfl (by kernel_rfl) (by kernel_rfl) (by kernel_rfl) (fun _ _ _ h => h) (Or.inl ⟨by kernel_rfl, ?_⟩) E0 ?_
        rotate_left
        · (intro W hS; obtain ⟨q0, q1, q2, qf⟩ := row3 hS.1; obtain ⟨p0, p1, p2, pf⟩ := row3 hS.2; clear hS; go_simp; try (with_reducible rfl))
        refine wpAnyH_take (i := 2) (v := ?_) rfl (by kernel_rfl) (by kernel_rfl) (by kernel_rfl) (fun _ _ _ h => h) (Or.inl ⟨by kernel_rfl, ?_⟩) E0 ?_
        rotate_left
        · (intro W hS; obtain ⟨q0, q1, q2, qf⟩ := row3 hS.1; obtain ⟨p0, p1, p2, pf⟩ := row3 hS.2; clear hS; go_simp; try (with_reducible rfl))
        refine wpAnyH_take (i := 3) (v := ?_) rfl (by kernel_rfl) (by kernel_rfl) (by kernel_rfl) (fun _ _ _ h => h) (Or.inl ⟨by kernel_rfl, ?_⟩) E0 ?_
        rotate_left
        · (intro W hS; obtain ⟨q0, q1, q2, qf⟩ := row3 hS.1; obtain ⟨p0, p1, p2, pf⟩ := row3 hS.2; clear hS; go_simp; try (with_reducible rfl))
        refine wpAnyH_take (i := 4) (v := ?_) rfl (by kernel_rfl) (by kernel_rfl) (by kernel_rfl) (fun _ _ _ h => h) (Or.inl ⟨by kernel_rfl, ?_⟩) E0 ?_
        rotate_left
        · (intro W hS; obtain ⟨q0, q1, q2, qf⟩ := row3 hS.1; obtain ⟨p0, p1, p2, pf⟩ := row3 hS.2; clear hS; go_simp; try (with_reducible rfl))
        refine wpAnyH_take (i := 5) (v := ?_) rfl (by kernel_rfl) (by kernel_rfl) (by kernel_rfl) (fun _ _ _ h => h) (Or.inl ⟨by kernel_rfl, ?_⟩) E0 ?_
        rotate_left
        · (intro W hS; obtain ⟨q0, q1, q2, qf⟩ := row3 hS.1; obtain ⟨p0, p1, p2, pf⟩ := row3 hS.2; clear hS; go_simp; try (with_reducible rfl))
        refine wpAnyH_ready (rs := [6]) (by kernel_rfl) (by simp) ?_
        refine AllReadyH.cons rfl (fun K hK => ?_) AllReadyH.nil
        refine step_append_texts3 rfl (.tmp 67) (.tmp 69) rfl O0 tn1 HE.out.2.2.2.1.symm (by kernel_rfl) ta tc tn XT HD.out.2.2.2.2.1.symm (by kernel_rfl) T0 (by have h1 := HL.out.1; have h2 := HL.out.2; have h3 := HE.out.2.2.2.1; have h4 := HD.out.2.2.2.2.1; omega) F0.size ?_
        intro ad cp v1 hA
        try go_simp
        have F1 := F0.grown hA.grown F0.size (fun k hk => (World.ownsRow.lt O0 k hk).1)
        refine hK.out _ _ ⟨(hA.grown.block _ (lt_obj E0.1) fun e => ?_).trans E0.1, (hA.grown.block _ (lt_obj E0.2) fun e => ?_).trans E0.2⟩ (fun _ => ?_)
        · have := (HK.out _ e.symm).1; omega
        · have := (HK.out _ e.symm).2; omega
        have HZ := Lib.hid (And.intro hA.own F1)
        have E1 : v1.heap[w1.heap.size]? = some (.cells #[.string r, .slice ta tn tc, .slice la ln lc] 83 (0, 0)) ∧ v1.heap[w3.heap.size]? = some (.cells #[.string old, .slice ta1 tn1 tc1, .slice la1 ln1 lc1] 83 (0, 0)) := ⟨(hA.grown.block _ (lt_obj E0.1) fun e => by have := (HK.out _ e.symm).1; omega).trans E0.1, (hA.grown.block _ (lt_obj E0.2) fun e => by have := (HK.out _ e.symm).2; omega).trans E0.2⟩
        clear hK K hA F1
        refine wpAnyH_take (i := 7) (v := ?_) rfl (by kernel_rfl) (by kernel_rfl) (by kernel_rfl) (fun _ _ _ h => h) (Or.inl ⟨by kernel_rfl, ?_⟩) E1 ?_
        rotate_left
        · (intro W hS; clear hS; go_simp; try (with_reducible rfl))
        refine wpAnyH_take (i := 8) (v := ?_) rfl (by kernel_rfl) (by kernel_rfl) (by kernel_rfl) (fun _ _ _ h => h) (Or.inl ⟨by kernel_rfl, ?_⟩) E1 ?_
        rotate_left
        · (intro W hS; clear hS; go_simp; try (with_reducible rfl))
        refine wpAnyH_take (i := 9) (v := ?_) rfl (by kernel_rfl) (by kernel_rfl) (by kernel_rfl) (fun _ _ _ h => h) (Or.inl ⟨by kernel_rfl, ?_⟩) E1 ?_
        rotate_left
        · (intro W hS; clear hS; go_simp; try (with_reducible rfl))
        refine wpAnyH_done (by kernel_rfl) ?_ _
        go_simp
        clear E0 E1 F0 O0 T0
        go_wp2_with fail
        go_ret3
        have e9 : tn1 + tn = (zT ++ XT).length := by rw [List.length_append, ← HE.out.2.2.2.1, ← HD.out.2.2.2.2.1]
        exact ⟨ad, cp, congrArg (fun k => Ending.returned (.tuple #[.string r, .slice ad k cp, .int .i64 0])) e9, HZ.out.1, HZ.out.2⟩
  · rw [if_neg hq1]
    have da : (0 : Int) < (a : Int) := by omega
    have da2 : 0 < a := by omega
    cases br with
    | nil =>
      have hN0 : N = 0 := by rw [hN]; rfl
      rw [← hN]
      have dN : ((N : Int) == 0) = true := by simp; omega
      clear hN hN0 hT hD hold hbr hcap hmax ha hq1 e2 hql h0 hlt hn
      go_enter Tryd.func70, Tryd.ntmps70
      go_wp2_with fail
      refine HTZ.out.mono ?_
      rintro e w0 ⟨rfl, hw0⟩
      rw [hw0]
      clear hw0 w0
      go_wp2_with fail
      go_quiet (fail)
      go_wp2_with fail
      go_ret3
      exact ⟨none, 0, rfl, OwnT.nil _ _, ⟨rfl, rfl, rfl, Nat.le_refl _, fun _ _ => rfl⟩⟩
    | cons x ws =>
      simp only
      rw [show q - 1 = a from ha.symm]
      have hx32 : x.size = 32 := hD x (by simp)
      have hws2 : Digs ws := fun y hy => hD y (List.mem_cons_of_mem _ hy)
      obtain ⟨b, off, rfl, hbl, hcx⟩ := hT 0 (by simp)
      rw [Nat.add_zero, show (x :: ws : List ByteArray).getD 0 ByteArray.empty = x from rfl] at hcx
      have hT2 : TextsAt w (some ⟨b, off + 1, none⟩) ws := by have := hT.drop 1; rwa [List.drop_one, List.tail_cons] at this
      have hm1 : N = ws.length + 1 := by rw [hN]; rfl
      obtain ⟨m2, hm2⟩ : ∃ y, y = ws.length := ⟨_, rfl⟩
      rw [← hm2] at hm1
      have hcapN : N ≤ cap := by rw [hN]; exact hcap
      have k7 : ((N : Int) == 0) = false := by simp; omega
      have k8 : (N : Int) - 1 = (m2 : Int) := by omega
      have k9 : N - 1 = m2 := by omega
      obtain ⟨c2, hc2⟩ : ∃ y, y = cap - 1 := ⟨_, rfl⟩
      have k10 : cap - 1 = c2 := hc2.symm
      have k12 : 1 ≤ N := by omega
      have k13 : N ≤ cap := hcapN
      have k14 : 0 < N := by omega
      have k15 : 1 ≤ cap := by omega
      have hmm : m2 ≤ c2 ∧ c2 ≤ maxLen := by omega
      have hN6 : m2 ≤ 1000000 := by have : (x :: ws).length = m2 + 1 := by rw [hm2]; rfl
                                    omega
      by_cases hcc : c2 = 0
      · subst hcc
        have hT0 : TextsAt w (some ⟨b, off, none⟩) ws := fun j hj => absurd hj (by omega)
        have c1 := fun W (h : Below w.heap.size w W) => climb_any a l hal (by omega) x (by omega) ws (by omega) hws2 (some ⟨b, off, none⟩) 0 (by omega) (Nat.zero_le _) W (HG.out.below h) (hT0.below h)
        rw [← hm2] at c1
        rw [← hN]
        obtain ⟨SC, hSC⟩ : ∃ y, y = stepC a l old x ws := ⟨_, rfl⟩
        rw [← hSC]
        have HSC := Lib.hid hSC
        clear hSC
        have H := Lib.hid (And.intro c1 (And.intro hws2 (And.intro (show x.size ≤ 100000 by omega) (show ws.length ≤ 1000000 by omega))))
        clear c1 hws2 hD hold hbr hN hT hT2 hcap hmax ha hq1 e2 hql h0 hlt hn hm1 hm2 hc2 hcapN hmm hN6 hx32
        go_enter Tryd.func70, Tryd.ntmps70
        go_wp2_with fail
        refine HTZ.out.mono ?_
        rintro e w0 ⟨rfl, hw0⟩
        rw [hw0]
        clear hw0 w0
        go_wp2_with fail
        go_quiet (fail)
        go_wp2_with fail
        go_quiet (fail)
        go_wp2_with fail
        generalize hW0 : World.drewN _ _ = W0
        have HW0 := Lib.hid (show Below w.heap.size w W0 from by rw [← hW0]; exact below_drewN (Below.refl _ _) _)
        clear hW0
        refine (H.out.1 W0 HW0.out).mono ?_
        rintro e w1 ⟨hb, r, ta, tn, tc, la, ln, lc, rfl, hx⟩
        replace hb := HW0.out.trans (hb.mono HW0.out.size)
        obtain ⟨w2, hw2⟩ : ∃ w2, w2 = w1.alloc (.cells #[.string r, .slice ta tn tc, .slice la ln lc] 83) := ⟨_, rfl⟩
        have hb2 : Below w1.heap.size w1 w2 := by rw [hw2]; exact (Below.refl _ _).alloc (Nat.le_refl _) _
        have hg2 : w2.heap[w1.heap.size]? = some (.cells #[.string r, .slice ta tn tc, .slice la ln lc] 83 (0, 0)) := by rw [hw2]; exact heap_alloc_new _ _
        have B2 := hb.trans (hb2.mono hb.size)
        cases hG0 : climb a l x ws with
        | none =>
          obtain rfl : SC = none := HSC.out.trans (stepC_none hG0)
          have HB := Lib.hid B2
          clear hb hx hb2 hg2 B2 hG0
          go_upto_region 9 with fail
          rw [← hw2]
          clear hw2
          go_wp2_with fail
          go_ret3
          exact ⟨none, 0, rfl, OwnT.nil _ _, HB.out⟩
        | some X =>
          obtain ⟨X1, XT, XL⟩ := X
          obtain ⟨rfl, rfl, rfl, hO, hP⟩ := hx _ hG0
          simp only at hO hP hg2 hw2 ⊢
          replace hO := OwnT.mono hO HW0.out.size
          replace hP := OwnT.mono hP HW0.out.size
          have hlen := climb_len _ _ _ _ _ hG0
          simp only at hlen
          have hXL : Digs XL := fun y hy => H.out.2.1 y (climb_left _ _ _ _ _ hG0 y hy)
          obtain ⟨z, hz⟩ := climb_first l a x ws r XT XL hal hG0 x
          obtain ⟨z1, zT, zL⟩ := z
          have hlen2 := climb_len _ _ _ _ _ hz
          simp only at hlen2
          have HS2 := Lib.hid (HSC.out.trans (stepC_some hG0 hz))
          have hXTl : XT.length ≤ 1000000 := by have := H.out.2.2.2; omega
          have hzTl : zT.length ≤ 1000000 := by have := H.out.2.2.2; omega
          have c2 := fun W (h : Below w.heap.size w W) hTW => climb_any a a (Nat.le_refl _) (by omega) x H.out.2.2.1 XL (by have := H.out.2.2.2; omega) hXL la lc hP.capy.1 hP.capy.2 W (HG.out.below h) hTW
          rw [hz] at c2
          obtain ⟨tn, htn⟩ : ∃ t, t = XT.length := ⟨_, rfl⟩
          obtain ⟨ln, hln⟩ : ∃ t, t = XL.length := ⟨_, rfl⟩
          rw [← hln] at c2
          rw [← htn, ← hln] at hg2 hw2 ⊢
          obtain ⟨q0, q1, q2, qf⟩ := row3 hg2
          have HD := Lib.hid (And.intro B2 (And.intro (OwnT.call hO hb2) (And.intro (OwnT.call hP hb2).texts (And.intro c2 (And.intro htn hg2)))))
          have HL := Lib.hid (And.intro hXTl hzTl)
          clear hb hx hb2 hg2 B2 hO hP htn hln c2 hG0 hlen hXL hz hlen2 hXTl hzTl HSC
          go_upto_region 9 with fail
          rw [← hw2]
          clear hw2
          go_wp2_with fail
          refine (HD.out.2.2.2.1 _ HD.out.1 HD.out.2.2.1).mono ?_
          rintro e w3 ⟨hb, r1, ta1, tn1, tc1, la1, ln1, lc1, rfl, hx⟩
          obtain ⟨rfl, rfl, rfl, hO, -⟩ := hx _ rfl
          simp only at hO ⊢
          obtain ⟨tn1, htn1⟩ : ∃ t, t = zT.length := ⟨_, rfl⟩
          obtain ⟨ln1, hln1⟩ : ∃ t, t = zL.length := ⟨_, rfl⟩
          rw [← htn1, ← hln1]
          obtain ⟨w4, hw4⟩ : ∃ w4, w4 = w3.alloc (.cells #[.string r1, .slice ta1 tn1 tc1, .slice la1 ln1 lc1] 83) := ⟨_, rfl⟩
          have hb4 : Below w3.heap.size w3 w4 := by rw [hw4]; exact (Below.refl _ _).alloc (Nat.le_refl _) _
          have hg4 : w4.heap[w3.heap.size]? = some (.cells #[.string r1, .slice ta1 tn1 tc1, .slice la1 ln1 lc1] 83 (0, 0)) := by rw [hw4]; exact heap_alloc_new _ _
          have hb24 := hb.trans (hb4.mono hb.size)
          have hg24 : w4.heap[w1.heap.size]? = some (.cells #[.string r, .slice ta tn tc, .slice la ln lc] 83 (0, 0)) := (hb24.block _ (lt_obj HD.out.2.2.2.2.2)).trans HD.out.2.2.2.2.2
          have B4 := HD.out.1.trans (hb24.mono HD.out.1.size)
          have HK := Lib.hid (show ∀ k, (Value.slice ta1 zT.length tc1).ownBlock = some k → w1.heap.size < k ∧ k < w3.heap.size from fun k hk => by have h1 := World.ownsRow.lt hO k hk; have h2 := lt_obj HD.out.2.2.2.2.2; omega)
          have HE := Lib.hid (And.intro B4 (And.intro (OwnT.mono (OwnT.call hO hb4) HD.out.1.size) (And.intro (HD.out.2.1.call hb24).texts (And.intro htn1 (And.intro hg4 hg24)))))
          have hro : (r1.toList == old.toList) = decide (r1 = old) := twin_beq r1 old
          clear hb hx hb4 hb24 B4 hO htn1 hln1 q0 q1 q2 qf hg24
          obtain ⟨p0, p1, p2, pf⟩ := row3 hg4
          clear hg4
          have hSC2 := HS2.out
          clear HS2
          by_cases hzo : r1 = old
          rotate_left
          · rw [if_neg hzo] at hSC2
            subst hSC2
            rw [decide_eq_false hzo] at hro
            clear hzo
            go_upto_region 12 with fail
            rw [← hw4]
            clear hw4
            go_wp2_with fail
            go_ret3
            exact ⟨none, 0, rfl, OwnT.nil _ _, HE.out.1⟩
          · rw [if_pos hzo] at hSC2
            subst hSC2
            rw [decide_eq_true hzo] at hro
            have hE := hzo.symm
            clear hzo
            subst hE
            go_upto_region 12 with fail
            rw [← hw4]
            clear hw4
            go_upto_region 14 with fail
            clear p0 p1 p2 pf
            go_wp2_with fail
            refine wp_region_held (S := fun W => W.heap[w1.heap.size]? = some (.cells #[.string r, .slice ta tn tc, .slice la ln lc] 83 (0, 0)) ∧ W.heap[w3.heap.size]? = some (.cells #[.string old, .slice ta1 tn1 tc1, .slice la1 ln1 lc1] 83 (0, 0))) (by kernel_rfl) ?_
            change wpAnyH _ _ _ _ _ _ _ _ (World.drew _)
            generalize hv0 : World.drew _ = v0
            have E0 : v0.heap[w1.heap.size]? = some (.cells #[.string r, .slice ta tn tc, .slice la ln lc] 83 (0, 0)) ∧ v0.heap[w3.heap.size]? = some (.cells #[.string old, .slice ta1 tn1 tc1, .slice la1 ln1 lc1] 83 (0, 0)) := by rw [← hv0]; exact ⟨HE.out.2.2.2.2.2, HE.out.2.2.2.2.1⟩
            have F0 : Below w.heap.size w v0 := by rw [← hv0]; exact HE.out.1.drew
            have O0 : OwnT w.heap.size v0 ta1 tc1 zT := by rw [← hv0]; exact HE.out.2.1.drew
            have T0 : TextsAt v0 ta XT := by rw [← hv0]; exact HE.out.2.2.1
            clear hv0
            refine wpAnyH_take (i := 0) (v := ?_) rfl (by kernel_rfl) (by kernel_rfl) (by kernel_rfl) (fun _ _ _ h => h) (Or.inl ⟨by kernel_rfl, ?_⟩) E0 ?_
            rotate_left
            · (intro W hS; obtain ⟨q0, q1, q2, qf⟩ := row3 hS.1; obtain ⟨p0, p1, p2, pf⟩ := row3 hS.2; clear hS; go_simp; try (with_reducible rfl))
            refine wpAnyH_take (i := 1) (v := ?_) rfl (by kernel_rfl) (by kernel_rfl) (by kernel_rfl) (fun _ _ _ h => h) (Or.inl ⟨by kernel_rfl, ?_⟩) E0 ?_
            rotate_left
            · (intro W hS; obtain ⟨q0, q1, q2, qf⟩ := row3 hS.1; obtain ⟨p0, p1, p2, pf⟩ := row3 hS.2; clear hS; go_simp; try (with_reducible rfl))
            refine wpAnyH_take (i := 2) (v := ?_) rfl (by kernel_rfl) (by kernel_rfl) (by kernel_rfl) (fun _ _ _ h => h) (Or.inl ⟨by kernel_rfl, ?_⟩) E0 ?_
            rotate_left
            · (intro W hS; obtain ⟨q0, q1, q2, qf⟩ := row3 hS.1; obtain ⟨p0, p1, p2, pf⟩ := row3 hS.2; clear hS; go_simp; try (with_reducible rfl))
            refine wpAnyH_take (i := 3) (v := ?_) rfl (by kernel_rfl) (by kernel_rfl) (by kernel_rfl) (fun _ _ _ h => h) (Or.inl ⟨by kernel_rfl, ?_⟩) E0 ?_
            rotate_left
            · (intro W hS; obtain ⟨q0, q1, q2, qf⟩ := row3 hS.1; obtain ⟨p0, p1, p2, pf⟩ := row3 hS.2; clear hS; go_simp; try (with_reducible rfl))
            refine wpAnyH_take (i := 4) (v := ?_) rfl (by kernel_rfl) (by kernel_rfl) (by kernel_rfl) (fun _ _ _ h => h) (Or.inl ⟨by kernel_rfl, ?_⟩) E0 ?_
            rotate_left
            · (intro W hS; obtain ⟨q0, q1, q2, qf⟩ := row3 hS.1; obtain ⟨p0, p1, p2, pf⟩ := row3 hS.2; clear hS; go_simp; try (with_reducible rfl))
            refine wpAnyH_take (i := 5) (v := ?_) rfl (by kernel_rfl) (by kernel_rfl) (by kernel_rfl) (fun _ _ _ h => h) (Or.inl ⟨by kernel_rfl, ?_⟩) E0 ?_
            rotate_left
            · (intro W hS; obtain ⟨q0, q1, q2, qf⟩ := row3 hS.1; obtain ⟨p0, p1, p2, pf⟩ := row3 hS.2; clear hS; go_simp; try (with_reducible rfl))
            refine wpAnyH_ready (rs := [6]) (by kernel_rfl) (by simp) ?_
            refine AllReadyH.cons rfl (fun K hK => ?_) AllReadyH.nil
            refine step_append_texts3 rfl (.tmp 67) (.tmp 69) rfl O0 tn1 HE.out.2.2.2.1.symm (by kernel_rfl) ta tc tn XT HD.out.2.2.2.2.1.symm (by kernel_rfl) T0 (by have h1 := HL.out.1; have h2 := HL.out.2; have h3 := HE.out.2.2.2.1; have h4 := HD.out.2.2.2.2.1; omega) F0.size ?_
            intro ad cp v1 hA
            try go_simp
            have F1 := F0.grown hA.grown F0.size (fun k hk => (World.ownsRow.lt O0 k hk).1)
            refine hK.out _ _ ⟨(hA.grown.block _ (lt_obj E0.1) fun e => ?_).trans E0.1, (hA.grown.block _ (lt_obj E0.2) fun e => ?_).trans E0.2⟩ (fun _ => ?_)
            · have := (HK.out _ e.symm).1; omega
            · have := (HK.out _ e.symm).2; omega
            have HZ := Lib.hid (And.intro hA.own F1)
            have E1 : v1.heap[w1.heap.size]? = some (.cells #[.string r, .slice ta tn tc, .slice la ln lc] 83 (0, 0)) ∧ v1.heap[w3.heap.size]? = some (.cells #[.string old, .slice ta1 tn1 tc1, .slice la1 ln1 lc1] 83 (0, 0)) := ⟨(hA.grown.block _ (lt_obj E0.1) fun e => by have := (HK.out _ e.symm).1; omega).trans E0.1, (hA.grown.block _ (lt_obj E0.2) fun e => by have := (HK.out _ e.symm).2; omega).trans E0.2⟩
            clear hK K hA F1
            refine wpAnyH_take (i := 7) (v := ?_) rfl (by kernel_rfl) (by kernel_rfl) (by kernel_rfl) (fun _ _ _ h => h) (Or.inl ⟨by kernel_rfl, ?_⟩) E1 ?_
            rotate_left
            · (intro W hS; clear hS; go_simp; try (with_reducible rfl))
            refine wpAnyH_take (i := 8) (v := ?_) rfl (by kernel_rfl) (by kernel_rfl) (by kernel_rfl) (fun _ _ _ h => h) (Or.inl ⟨by kernel_rfl, ?_⟩) E1 ?_
            rotate_left
            · (intro W hS; clear hS; go_simp; try (with_reducible rfl))
            refine wpAnyH_take (i := 9) (v := ?_) rfl (by kernel_rfl) (by kernel_rfl) (by kernel_rfl) (fun _ _ _ h => h) (Or.inl ⟨by kernel_rfl, ?_⟩) E1 ?_
            rotate_left
            · (intro W hS; clear hS; go_simp; try (with_reducible rfl))
            refine wpAnyH_done (by kernel_rfl) ?_ _
            go_simp
            clear E0 E1 F0 O0 T0
            go_wp2_with fail
            go_ret3
            have e9 : tn1 + tn = (zT ++ XT).length := by rw [List.length_append, ← HE.out.2.2.2.1, ← HD.out.2.2.2.2.1]
            exact ⟨ad, cp, congrArg (fun k => Ending.returned (.tuple #[.string r, .slice ad k cp, .int .i64 0])) e9, HZ.out.1, HZ.out.2⟩
      · have hc3 : ¬ (cap - 1 = 0) := by omega
        have c1 := fun W (h : Below w.heap.size w W) => climb_any a l hal (by omega) x (by omega) ws (by omega) hws2 (some ⟨b, off + 1, none⟩) c2 (by omega) hmm.2 W (HG.out.below h) (hT2.below h)
        rw [← hm2] at c1
        rw [← hN]
        obtain ⟨SC, hSC⟩ : ∃ y, y = stepC a l old x ws := ⟨_, rfl⟩
        rw [← hSC]
        have HSC := Lib.hid hSC
        clear hSC
        have H := Lib.hid (And.intro c1 (And.intro hws2 (And.intro (show x.size ≤ 100000 by omega) (show ws.length ≤ 1000000 by omega))))
        clear c1 hws2 hD hold hbr hN hT hT2 hcap hmax ha hq1 e2 hql h0 hlt hn hm1 hm2 hc2 hcapN hmm hN6 hx32
        go_enter Tryd.func70, Tryd.ntmps70
        go_wp2_with fail
        refine HTZ.out.mono ?_
        rintro e w0 ⟨rfl, hw0⟩
        rw [hw0]
        clear hw0 w0
        go_wp2_with fail
        go_quiet (fail)
        go_wp2_with fail
        go_quiet (fail)
        go_wp2_with fail
        generalize hW0 : World.drewN _ _ = W0
        have HW0 := Lib.hid (show Below w.heap.size w W0 from by rw [← hW0]; exact below_drewN (Below.refl _ _) _)
        clear hW0
        refine (H.out.1 W0 HW0.out).mono ?_
        rintro e w1 ⟨hb, r, ta, tn, tc, la, ln, lc, rfl, hx⟩
        replace hb := HW0.out.trans (hb.mono HW0.out.size)
        obtain ⟨w2, hw2⟩ : ∃ w2, w2 = w1.alloc (.cells #[.string r, .slice ta tn tc, .slice la ln lc] 83) := ⟨_, rfl⟩
        have hb2 : Below w1.heap.size w1 w2 := by rw [hw2]; exact (Below.refl _ _).alloc (Nat.le_refl _) _
        have hg2 : w2.heap[w1.heap.size]? = some (.cells #[.string r, .slice ta tn tc, .slice la ln lc] 83 (0, 0)) := by rw [hw2]; exact heap_alloc_new _ _
        have B2 := hb.trans (hb2.mono hb.size)
        cases hG0 : climb a l x ws with
        | none =>
          obtain rfl : SC = none := HSC.out.trans (stepC_none hG0)
          have HB := Lib.hid B2
          clear hb hx hb2 hg2 B2 hG0
          go_upto_region 9 with fail
          rw [← hw2]
          clear hw2
          go_wp2_with fail
          go_ret3
          exact ⟨none, 0, rfl, OwnT.nil _ _, HB.out⟩
        | some X =>
          obtain ⟨X1, XT, XL⟩ := X
          obtain ⟨rfl, rfl, rfl, hO, hP⟩ := hx _ hG0
          simp only at hO hP hg2 hw2 ⊢
          replace hO := OwnT.mono hO HW0.out.size
          replace hP := OwnT.mono hP HW0.out.size
          have hlen := climb_len _ _ _ _ _ hG0
          simp only at hlen
          have hXL : Digs XL := fun y hy => H.out.2.1 y (climb_left _ _ _ _ _ hG0 y hy)
          obtain ⟨z, hz⟩ := climb_first l a x ws r XT XL hal hG0 x
          obtain ⟨z1, zT, zL⟩ := z
          have hlen2 := climb_len _ _ _ _ _ hz
          simp only at hlen2
          have HS2 := Lib.hid (HSC.out.trans (stepC_some hG0 hz))
          have hXTl : XT.length ≤ 1000000 := by have := H.out.2.2.2; omega
          have hzTl : zT.length ≤ 1000000 := by have := H.out.2.2.2; omega
          have c2 := fun W (h : Below w.heap.size w W) hTW => climb_any a a (Nat.le_refl _) (by omega) x H.out.2.2.1 XL (by have := H.out.2.2.2; omega) hXL la lc hP.capy.1 hP.capy.2 W (HG.out.below h) hTW
          rw [hz] at c2
          obtain ⟨tn, htn⟩ : ∃ t, t = XT.length := ⟨_, rfl⟩
          obtain ⟨ln, hln⟩ : ∃ t, t = XL.length := ⟨_, rfl⟩
          rw [← hln] at c2
          rw [← htn, ← hln] at hg2 hw2 ⊢
          obtain ⟨q0, q1, q2, qf⟩ := row3 hg2
          have HD := Lib.hid (And.intro B2 (And.intro (OwnT.call hO hb2) (And.intro (OwnT.call hP hb2).texts (And.intro c2 (And.intro htn hg2)))))
          have HL := Lib.hid (And.intro hXTl hzTl)
          clear hb hx hb2 hg2 B2 hO hP htn hln c2 hG0 hlen hXL hz hlen2 hXTl hzTl HSC
          go_upto_region 9 with fail
          rw [← hw2]
          clear hw2
          go_wp2_with fail
          refine (HD.out.2.2.2.1 _ HD.out.1 HD.out.2.2.1).mono ?_
          rintro e w3 ⟨hb, r1, ta1, tn1, tc1, la1, ln1, lc1, rfl, hx⟩
          obtain ⟨rfl, rfl, rfl, hO, -⟩ := hx _ rfl
          simp only at hO ⊢
          obtain ⟨tn1, htn1⟩ : ∃ t, t = zT.length := ⟨_, rfl⟩
          obtain ⟨ln1, hln1⟩ : ∃ t, t = zL.length := ⟨_, rfl⟩
          rw [← htn1, ← hln1]
          obtain ⟨w4, hw4⟩ : ∃ w4, w4 = w3.alloc (.cells #[.string r1, .slice ta1 tn1 tc1, .slice la1 ln1 lc1] 83) := ⟨_, rfl⟩
          have hb4 : Below w3.heap.size w3 w4 := by rw [hw4]; exact (Below.refl _ _).alloc (Nat.le_refl _) _
          have hg4 : w4.heap[w3.heap.size]? = some (.cells #[.string r1, .slice ta1 tn1 tc1, .slice la1 ln1 lc1] 83 (0, 0)) := by rw [hw4]; exact heap_alloc_new _ _
          have hb24 := hb.trans (hb4.mono hb.size)
          have hg24 : w4.heap[w1.heap.size]? = some (.cells #[.string r, .slice ta tn tc, .slice la ln lc] 83 (0, 0)) := (hb24.block _ (lt_obj HD.out.2.2.2.2.2)).trans HD.out.2.2.2.2.2
          have B4 := HD.out.1.trans (hb24.mono HD.out.1.size)
          have HK := Lib.hid (show ∀ k, (Value.slice ta1 zT.length tc1).ownBlock = some k → w1.heap.size < k ∧ k < w3.heap.size from fun k hk => by have h1 := World.ownsRow.lt hO k hk; have h2 := lt_obj HD.out.2.2.2.2.2; omega)
          have HE := Lib.hid (And.intro B4 (And.intro (OwnT.mono (OwnT.call hO hb4) HD.out.1.size) (And.intro (HD.out.2.1.call hb24).texts (And.intro htn1 (And.intro hg4 hg24)))))
          have hro : (r1.toList == old.toList) = decide (r1 = old) := twin_beq r1 old
          clear hb hx hb4 hb24 B4 hO htn1 hln1 q0 q1 q2 qf hg24
          obtain ⟨p0, p1, p2, pf⟩ := row3 hg4
          clear hg4
          have hSC2 := HS2.out
          clear HS2
          by_cases hzo : r1 = old
          rotate_left
          · rw [if_neg hzo] at hSC2
            subst hSC2
            rw [decide_eq_false hzo] at hro
            clear hzo
            go_upto_region 12 with fail
            rw [← hw4]
            clear hw4
            go_wp2_with fail
            go_ret3
            exact ⟨none, 0, rfl, OwnT.nil _ _, HE.out.1⟩
          · rw [if_pos hzo] at hSC2
            subst hSC2
            rw [decide_eq_true hzo] at hro
            have hE := hzo.symm
            clear hzo
            subst hE
            go_upto_region 12 with fail
            rw [← hw4]
            clear hw4
            go_upto_region 14 with fail
            clear p0 p1 p2 pf
            go_wp2_with fail
            refine wp_region_held (S := fun W => W.heap[w1.heap.size]? = some (.cells #[.string r, .slice ta tn tc, .slice la ln lc] 83 (0, 0)) ∧ W.heap[w3.heap.size]? = some (.cells #[.string old, .slice ta1 tn1 tc1, .slice la1 ln1 lc1] 83 (0, 0))) (by kernel_rfl) ?_
            change wpAnyH _ _ _ _ _ _ _ _ (World.drew _)
            generalize hv0 : World.drew _ = v0
            have E0 : v0.heap[w1.heap.size]? = some (.cells #[.string r, .slice ta tn tc, .slice la ln lc] 83 (0, 0)) ∧ v0.heap[w3.heap.size]? = some (.cells #[.string old, .slice ta1 tn1 tc1, .slice la1 ln1 lc1] 83 (0, 0)) := by rw [← hv0]; exact ⟨HE.out.2.2.2.2.2, HE.out.2.2.2.2.1⟩
            have F0 : Below w.heap.size w v0 := by rw [← hv0]; exact HE.out.1.drew
            have O0 : OwnT w.heap.size v0 ta1 tc1 zT := by rw [← hv0]; exact HE.out.2.1.drew
            have T0 : TextsAt v0 ta XT := by rw [← hv0]; exact HE.out.2.2.1
            clear hv0
            refine wpAnyH_take (i := 0) (v := ?_) rfl (by kernel_rfl) (by kernel_rfl) (by kernel_rfl) (fun _ _ _ h => h) (Or.inl ⟨by kernel_rfl, ?_⟩) E0 ?_
            rotate_left
            · (intro W hS; obtain ⟨q0, q1, q2, qf⟩ := row3 hS.1; obtain ⟨p0, p1, p2, pf⟩ := row3 hS.2; clear hS; go_simp; try (with_reducible rfl))
            refine wpAnyH_take (i := 1) (v := ?_) rfl (by kernel_rfl) (by kernel_rfl) (by kernel_rfl) (fun _ _ _ h => h) (Or.inl ⟨by kernel_rfl, ?_⟩) E0 ?_
            rotate_left
            · (intro W hS; obtain ⟨q0, q1, q2, qf⟩ := row3 hS.1; obtain ⟨p0, p1, p2, pf⟩ := row3 hS.2; clear hS; go_simp; try (with_reducible rfl))
            refine wpAnyH_take (i := 2) (v := ?_) rfl (by kernel_rfl) (by kernel_rfl) (by kernel_rfl) (fun _ _ _ h => h) (Or.inl ⟨by kernel_rfl, ?_⟩) E0 ?_
            rotate_left
            · (intro W hS; obtain ⟨q0, q1, q2, qf⟩ := row3 hS.1; obtain ⟨p0, p1, p2, pf⟩ := row3 hS.2; clear hS; go_simp; try (with_reducible rfl))
            refine wpAnyH_take (i := 3) (v := ?_) rfl (by kernel_rfl) (by kernel_rfl) (by kernel_rfl) (fun _ _ _ h => h) (Or.inl ⟨by kernel_rfl, ?_⟩) E0 ?_
            rotate_left
            · (intro W hS; obtain ⟨q0, q1, q2, qf⟩ := row3 hS.1; obtain ⟨p0, p1, p2, pf⟩ := row3 hS.2; clear hS; go_simp; try (with_reducible rfl))
            refine wpAnyH_take (i := 4) (v := ?_) rfl (by kernel_rfl) (by kernel_rfl) (by kernel_rfl) (fun _ _ _ h => h) (Or.inl ⟨by kernel_rfl, ?_⟩) E0 ?_
            rotate_left
            · (intro W hS; obtain ⟨q0, q1, q2, qf⟩ := row3 hS.1; obtain ⟨p0, p1, p2, pf⟩ := row3 hS.2; clear hS; go_simp; try (with_reducible rfl))
            refine wpAnyH_take (i := 5) (v := ?_) rfl (by kernel_rfl) (by kernel_rfl) (by kernel_rfl) (fun _ _ _ h => h) (Or.inl ⟨by kernel_rfl, ?_⟩) E0 ?_
            rotate_left
            · (intro W hS; obtain ⟨q0, q1, q2, qf⟩ := row3 hS.1; obtain ⟨p0, p1, p2, pf⟩ := row3 hS.2; clear hS; go_simp; try (with_reducible rfl))
            refine wpAnyH_ready (rs := [6]) (by kernel_rfl) (by simp) ?_
            refine AllReadyH.cons rfl (fun K hK => ?_) AllReadyH.nil
            refine step_append_texts3 rfl (.tmp 67) (.tmp 69) rfl O0 tn1 HE.out.2.2.2.1.symm (by kernel_rfl) ta tc tn XT HD.out.2.2.2.2.1.symm (by kernel_rfl) T0 (by have h1 := HL.out.1; have h2 := HL.out.2; have h3 := HE.out.2.2.2.1; have h4 := HD.out.2.2.2.2.1; omega) F0.size ?_
            intro ad cp v1 hA
            try go_simp
            have F1 := F0.grown hA.grown F0.size (fun k hk => (World.ownsRow.lt O0 k hk).1)
            refine hK.out _ _ ⟨(hA.grown.block _ (lt_obj E0.1) fun e => ?_).trans E0.1, (hA.grown.block _ (lt_obj E0.2) fun e => ?_).trans E0.2⟩ (fun _ => ?_)
            · have := (HK.out _ e.symm).1; omega
            · have := (HK.out _ e.symm).2; omega
            have HZ := Lib.hid (And.intro hA.own F1)
            have E1 : v1.heap[w1.heap.size]? = some (.cells #[.string r, .slice ta tn tc, .slice la ln lc] 83 (0, 0)) ∧ v1.heap[w3.heap.size]? = some (.cells #[.string old, .slice ta1 tn1 tc1, .slice la1 ln1 lc1] 83 (0, 0)) := ⟨(hA.grown.block _ (lt_obj E0.1) fun e => by have := (HK.out _ e.symm).1; omega).trans E0.1, (hA.grown.block _ (lt_obj E0.2) fun e => by have := (HK.out _ e.symm).2; omega).trans E0.2⟩
            clear hK K hA F1
            refine wpAnyH_take (i := 7) (v := ?_) rfl (by kernel_rfl) (by kernel_rfl) (by kernel_rfl) (fun _ _ _ h => h) (Or.inl ⟨by kernel_rfl, ?_⟩) E1 ?_
            rotate_left
            · (intro W hS; clear hS; go_simp; try (with_reducible rfl))
            refine wpAnyH_take (i := 8) (v := ?_) rfl (by kernel_rfl) (by kernel_rfl) (by kernel_rfl) (fun _ _ _ h => h) (Or.inl ⟨by kernel_rfl, ?_⟩) E1 ?_
            rotate_left
            · (intro W hS; clear hS; go_simp; try (with_reducible rfl))
            refine wpAnyH_take (i := 9) (v := ?_) rfl (by kernel_rfl) (by kernel_rfl) (by kernel_rfl) (fun _ _ _ h => h) (Or.inl ⟨by kernel_rfl, ?_⟩) E1 ?_
            rotate_left
            · (intro W hS; clear hS; go_simp; try (with_reducible rfl))
            refine wpAnyH_done (by kernel_rfl) ?_ _
            go_simp
            clear E0 E1 F0 O0 T0
            go_wp2_with fail
            go_ret3
            have e9 : tn1 + tn = (zT ++ XT).length := by rw [List.length_append, ← HE.out.2.2.2.1, ← HD.out.2.2.2.2.1]
            exact ⟨ad, cp, congrArg (fun k => Ending.returned (.tuple #[.string r, .slice ad k cp, .int .i64 0])) e9, HZ.out.1, HZ.out.2⟩
end Go.Proofs.YtdjhlgodecnidaaDoor
