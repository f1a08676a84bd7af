/- TrCl, what is wanted of it. -/
import Derived.Test.YtdfkpjmljaanpaaGreatDoorZMT2
import Derived.Test.YtdfkpjmljaanpaaGreatDoorZTrJoin
import Derived.Deep.RegionHeld
import Derived.ScopeJumps
namespace Go.Proofs.YtdfkpjmljaanpaaGreatDoor
open Go.RowKit
open Go.RowKit (wrap64)
open Tr
/-- What climb answers. -/
def ClimbE (w : World) (G : Option (ByteArray × List ByteArray × List ByteArray)) (e : Ending) (w' : World) : Prop :=
  Below w.heap.size w w' ∧ ∃ r ta tn tc la ln lc, e = .returned (.tuple #[.agg #[.string r, .slice ta tn tc, .slice la ln lc], .bool G.isSome]) ∧
    ∀ x, G = some x → r = x.1 ∧ tn = x.2.1.length ∧ ln = x.2.2.length ∧ OwnT w.heap.size w' ta tc x.2.1 ∧ OwnT w.heap.size w' la lc x.2.2
/-- How the frame stands at the label. -/
def CJ (w : World) (d0 : ByteArray) (G : Option (ByteArray × List ByteArray × List ByteArray)) (act : Act) (W : World) : Prop :=
  ∃ (a l : Nat) (d : ByteArray) (ws T LF : List ByteArray) (b0 : Option Addr) (cap m : Nat) (u10 u11 u12 u13 u14 u15 u16 u17 u18 u19 u20 u21 u22 u23 u24 u25 u26 u27 u28 u29 u30 u31 u32 u33 u34 u35 u36 u37 u38 u39 u40 u41 u42 u43 u44 u45 u46 u47 u48 u49 u50 u51 u52 u53 u54 u55 u56 u57 u58 u59 u60 u61 u62 u63 u64 : Value),
    act = { tmps := List.toArray (.int .i64 (a : Int) :: .int .i64 (l : Int) :: .string d0 :: .slice b0 m cap :: undef :: undef :: undef :: undef :: .pointer (some ⟨w.heap.size, 0, none⟩) :: .bool false :: u10 :: u11 :: u12 :: u13 :: u14 :: u15 :: u16 :: u17 :: u18 :: u19 :: u20 :: u21 :: u22 :: u23 :: u24 :: u25 :: u26 :: u27 :: u28 :: u29 :: u30 :: u31 :: u32 :: u33 :: u34 :: u35 :: u36 :: u37 :: u38 :: u39 :: u40 :: u41 :: u42 :: u43 :: u44 :: u45 :: u46 :: u47 :: u48 :: u49 :: u50 :: u51 :: u52 :: u53 :: u54 :: u55 :: u56 :: u57 :: u58 :: u59 :: u60 :: u61 :: u62 :: u63 :: u64 :: []), defers := [] } ∧
    G = (climb a l d ws).map (fun x => (x.1, T ++ x.2.1, LF ++ x.2.2)) ∧ a ≤ l ∧ l ≤ 1000000 ∧ T.length + m ≤ 1000000 ∧ LF.length + m ≤ 1000000 ∧ d.size ≤ 100000 ∧ Digs ws ∧ m ≤ cap ∧ cap ≤ maxLen ∧ TextsAt w b0 ws ∧ CSt w d T LF W ∧ m = ws.length
theorem zero_st (w : World) : CSt w ⟨#[]⟩ [] [] (w.alloc (.cells #[.string ⟨#[]⟩, .slice none 0 0, .slice none 0 0] 290)) :=
  ⟨(Below.refl _ _).alloc (Nat.le_refl _) _, none, 0, none, 0, heap_alloc_new _ _, OwnT.nil _ _, OwnT.nil _ _, fun x hx => by cases hx⟩
theorem below_put3 {B : Nat} {w0 w : World} {g : Nat} (hb : Below B w0 w) (hg : B ≤ g) (a b c : Value) : Below B w0 (((w.setCell ⟨g, 0, none⟩ a).setCell ⟨g, 1, none⟩ b).setCell ⟨g, 2, none⟩ c) :=
  below_setCell' (below_setCell' (below_setCell' hb hg 0 a) hg 1 b) hg 2 c
theorem OwnT.put3 {B : Nat} {W : World} {a : Option Addr} {cap : Nat} {l : List ByteArray} (h : OwnT B W a cap l) {g : Nat} (hg : g < B) (x y z : Value) : OwnT B (((W.setCell ⟨g, 0, none⟩ x).setCell ⟨g, 1, none⟩ y).setCell ⟨g, 2, none⟩ z) a cap l :=
  ((h.put hg 0 x).put hg 1 y).put hg 2 z
set_option maxRecDepth 100000 in
set_option maxHeartbeats 6000000 in
theorem climb_any (a l : Nat) (hal : a ≤ l) (hl : l ≤ 1000000) (d : ByteArray) (hd : d.size ≤ 100000) (ws : List ByteArray) (hn : ws.length ≤ 1000000) (hws : Digs ws) (b0 : Option Addr) (cap : Nat) (hcap : ws.length ≤ cap) (hmax : cap ≤ maxLen) (w : World) (hG : Glob w) (hT : TextsAt w b0 ws) :
    Calls Tryz.prog 206 #[.int .i64 a, .int .i64 l, .string d, .slice b0 ws.length cap] w (ClimbE w (climb a l d ws)) := by
  obtain ⟨G, hG0⟩ : ∃ G, G = climb a l d ws := ⟨_, rfl⟩
  rw [← hG0]
  have hG00 : G = (climb a l d ws).map (fun x => (x.1, [] ++ x.2.1, [] ++ x.2.2)) := by
    rw [hG0]
    cases climb a l d ws with
    | none => rfl
    | some x => rfl
  clear hG0
  obtain ⟨T, hT0⟩ : ∃ T : List ByteArray, T = [] := ⟨_, rfl⟩
  obtain ⟨LF, hL0⟩ : ∃ T : List ByteArray, T = [] := ⟨_, rfl⟩
  have hG0 : G = (climb a l d ws).map (fun x => (x.1, T ++ x.2.1, LF ++ x.2.2)) := by rw [hT0, hL0]; exact hG00
  obtain ⟨m, hm⟩ : ∃ m, m = ws.length := ⟨_, rfl⟩
  rw [← hm] at hcap hn ⊢
  have hTl : T.length + m ≤ 1000000 := by rw [hT0]; simpa using hn
  have hLl : LF.length + m ≤ 1000000 := by rw [hL0]; simpa using hn
  have HG := Lib.hid hG
  obtain ⟨w1, hw1⟩ : ∃ w1, w1 = w.alloc (.cells #[.string ⟨#[]⟩, .slice none 0 0, .slice none 0 0] 290) := ⟨_, rfl⟩
  have hS1 : CSt w ⟨#[]⟩ [] [] w1 := by rw [hw1]; exact zero_st w
  obtain ⟨ta, tc, la, lc, hg, -⟩ := hS1.has
  obtain ⟨q0, q1, q2, qf⟩ := jrow3 hg
  have hS2 : CSt w d T LF (w1.setCell ⟨w.heap.size, 0, none⟩ (.string d)) := by rw [hT0, hL0]; exact CSt.root hS1 d
  obtain ⟨d0, hd0⟩ : ∃ x, x = d := ⟨_, rfl⟩
  have HH := Lib.hid (And.intro hS2 (And.intro hG0 (And.intro hTl (And.intro hLl (And.intro hws hm)))))
  clear hm hG hG00 hT0 hL0 hn hg hS1 hS2 hG0 hTl hLl hws
  go_enter Tryz.func206, Tryz.ntmps206
  go_wp2_with fail
  rw [← hw1, ← hd0]
  clear hw1
  refine wp_scope_jumps 0 (CJ w d0 G) (fun a' _ => (intOf (a'.tmps.getD 1 undef)).toNat) rfl ?_ ?_
  · go_wp2_with fail
    clear q0 q1 q2 qf
    generalize hW : World.setCell _ _ _ = W
    have hS : CSt w d T LF W := by rw [← hW]; first | exact HH.out.1 | (rw [hd0]; exact HH.out.1)
    obtain ⟨hG0, hTl, hLl, hws, hm⟩ := HH.out.2
    clear hW HH hd0
    go_step3
    have hmax' := hmax
    unfold maxLen at hmax'
    obtain ⟨a2, ha2⟩ : ∃ x, x = a / 2 := ⟨_, rfl⟩
    obtain ⟨l2, hl2⟩ : ∃ x, x = l / 2 := ⟨_, rfl⟩
    have HW := Lib.hid (show wrap64 ((a : Int) / 2) = (a2 : Int) ∧ wrap64 ((l : Int) / 2) = (l2 : Int) from ⟨by rw [IntWalk.wrap64_in _ (by omega), ha2]; rfl, by rw [IntWalk.wrap64_in _ (by omega), hl2]; rfl⟩)
    by_cases h0 : l = 0
    · subst h0
      rw [climb_zero] at hG0
      obtain ⟨ta, tc, la, lc, hg, hO, hP, -⟩ := hS.has
      obtain ⟨q0, q1, q2, qf⟩ := jrow3 hg
      have HS := Lib.hid (And.intro hS.below (And.intro (hO.mono (Nat.le_succ _)) (hP.mono (Nat.le_succ _))))
      have HS2 := Lib.hid (And.intro hO hP)
      clear ha2 hl2 hg hO hP hS hT hws hd hTl hLl hcap hmax hmax' hal hl
      by_cases hz : ws = []
      · have hm0 : m = 0 := by rw [hm, hz]; rfl
        have hGs : G = some (d, T, LF) := by rw [hG0, if_pos hz]; simp
        clear hz hm hG0
        subst hm0
        have HGs := Lib.hid hGs
        clear hGs
        go_wp2_with fail
        refine bodyPost_ret (v := .tuple #[.agg #[.string d, .slice ta T.length tc, .slice la LF.length lc], .bool true]) (by simp [results, Tryz.results206, go_sem, q0, q1, q2]) rfl ?_
        refine ⟨below_put3 HS.out.1 (Nat.le_refl _) _ _ _, d, ta, T.length, tc, la, LF.length, lc, by rw [HGs.out]; rfl, fun x hx => ?_⟩
        rw [HGs.out] at hx
        injection hx with hx
        subst hx
        exact ⟨rfl, rfl, rfl, ((HS2.out.1).put3 (by omega) _ _ _).mono (Nat.le_succ _), ((HS2.out.2).put3 (by omega) _ _ _).mono (Nat.le_succ _)⟩
      · have hm0 : ((m : Int) == 0) = false := by have : m ≠ 0 := fun e => hz (List.length_eq_zero_iff.1 (hm.symm.trans e)); simp; omega
        have hGs : G = none := by rw [hG0, if_neg hz]; rfl
        clear hz hm hG0
        have HGs := Lib.hid hGs
        clear hGs
        go_wp2_with fail
        refine bodyPost_ret (v := .tuple #[.agg #[.string d, .slice ta T.length tc, .slice la LF.length lc], .bool false]) (by simp [results, Tryz.results206, go_sem, q0, q1, q2]) rfl ?_
        refine ⟨below_put3 HS.out.1 (Nat.le_refl _) _ _ _, d, ta, T.length, tc, la, LF.length, lc, by rw [HGs.out]; rfl, fun x hx => ?_⟩
        rw [HGs.out] at hx
        cases hx
    rw [climb_step _ _ h0, ← ha2, ← hl2] at hG0
    have k0 : ((l : Int) == 0) = false := by simp; omega
    have ha2l : a2 ≤ l2 := by rw [ha2, hl2]; omega
    have hl2l : l2 < l := by rw [hl2]; omega
    clear ha2 hl2 h0
    by_cases hB : a = l ∧ a % 2 = 0
    · rw [if_pos hB] at hG0
      have k1 : ((a : Int) == (l : Int)) = true := by simp; omega
      have k2 : (((a : Int) % 2) == 0) = true := by simp; omega
      have k3 : ((a : Int) % 2) = 0 := by omega
      have HA := Lib.hid (And.intro hG0 (And.intro ha2l (And.intro hl2l (And.intro hl (And.intro hTl (And.intro hLl (And.intro hd (And.intro hws (And.intro hcap (And.intro hmax (And.intro hT (And.intro hS hm))))))))))))
      clear hG0 ha2l hl2l hl hTl hLl hd hws hcap hmax hmax' hT hS hm hB hal
      go_wp2_with fail
      go_step3
      rw [HW.out.1, HW.out.2]
      refine ⟨rfl, ?_⟩
      exact ⟨a2, l2, d, ws, T, LF, b0, cap, m, _, _, _, _, _, _, _, _, _, _, _, _, _, _, _, _, _, _, _, _, _, _, _, _, _, _, _, _, _, _, _, _, _, _, _, _, _, _, _, _, _, _, _, _, _, _, _, _, _, _, _, _, _, _, _, rfl, HA.out.1, HA.out.2.1, by have h1 := HA.out.2.2.1; have h2 := HA.out.2.2.2.1; omega, HA.out.2.2.2.2.1, HA.out.2.2.2.2.2.1, HA.out.2.2.2.2.2.2.1, HA.out.2.2.2.2.2.2.2.1, HA.out.2.2.2.2.2.2.2.2.1, HA.out.2.2.2.2.2.2.2.2.2.1, HA.out.2.2.2.2.2.2.2.2.2.2.1, HA.out.2.2.2.2.2.2.2.2.2.2.2.1, HA.out.2.2.2.2.2.2.2.2.2.2.2.2⟩
    rw [if_neg hB] at hG0
    have k1 : (((a : Int) == (l : Int)) && ((a : Int) % 2 == 0)) = false := by
      cases h1 : ((a : Int) == (l : Int)) with
      | false => rfl
      | true =>
        cases h2 : ((a : Int) % 2 == 0) with
        | false => rfl
        | true => exact absurd ⟨by have := beq_iff_eq.1 h1; omega, by have := beq_iff_eq.1 h2; omega⟩ hB
    cases ws with
    | nil =>
      obtain ⟨ta, tc, la, lc, hg, hO, hP, -⟩ := hS.has
      obtain ⟨q0, q1, q2, qf⟩ := jrow3 hg
      have HS := Lib.hid (And.intro hS.below hG0)
      have hm0 : m = 0 := hm
      subst hm0
      clear hm hg hO hP hS hT hws hd hTl hLl hcap hmax hmax' hl hG0
      by_cases he : a = l
      · have k4 : ((a : Int) == (l : Int)) = true := by simp; omega
        have k5 : ((a : Int) % 2 == 0) = false := by simp; omega
        have k6 : (a : Int) % 2 = 1 := by omega
        clear he k1 hB hal
        go_wp2_with fail
        refine bodyPost_ret (v := .tuple #[.agg #[.string ⟨#[]⟩, .slice none 0 0, .slice none 0 0], .bool false]) (by simp [results, Tryz.results206, go_sem, q0, q1, q2]) rfl ?_
        have hGn : G = none := HS.out.2
        exact ⟨below_put3 HS.out.1 (Nat.le_refl _) _ _ _, _, _, _, _, _, _, _, by rw [hGn]; rfl, fun x hx => by rw [hGn] at hx; cases hx⟩
      · have k4 : ((a : Int) == (l : Int)) = false := by simp; omega
        clear he k1 hB hal
        go_wp2_with fail
        refine bodyPost_ret (v := .tuple #[.agg #[.string ⟨#[]⟩, .slice none 0 0, .slice none 0 0], .bool false]) (by simp [results, Tryz.results206, go_sem, q0, q1, q2]) rfl ?_
        have hGn : G = none := HS.out.2
        exact ⟨below_put3 HS.out.1 (Nat.le_refl _) _ _ _, _, _, _, _, _, _, _, by rw [hGn]; rfl, fun x hx => by rw [hGn] at hx; cases hx⟩
    | cons x ws =>
      simp only at hG0
      have hx32 : x.size = 32 := hws x (by simp)
      have hws2 : Digs ws := fun y hy => hws y (List.mem_cons_of_mem _ hy)
      obtain ⟨b, off, rfl, hbl, hcx⟩ := hT 0 (by simp)
      rw [Nat.add_zero, show (x :: ws : List ByteArray).getD 0 ByteArray.empty = x from rfl] at hcx
      have hT2 : TextsAt w (some ⟨b, off + 1, none⟩) ws := by have := hT.drop 1; rwa [List.drop_one, List.tail_cons] at this
      have hm1 : m = ws.length + 1 := by rw [hm]; rfl
      obtain ⟨m2, hm2⟩ : ∃ y, y = ws.length := ⟨_, rfl⟩
      rw [← hm2] at hm1
      have k7 : ((m : Int) == 0) = false := by simp; omega
      have k8 : (m : Int) - 1 = (m2 : Int) := by omega
      have k9 : m - 1 = m2 := by omega
      obtain ⟨c2, hc2⟩ : ∃ y, y = cap - 1 := ⟨_, rfl⟩
      have k10 : cap - 1 = c2 := hc2.symm
      have k11 : ¬ (cap = 1) ∨ cap = 1 := by omega
      have k12 : 1 ≤ m := by omega
      have k13 : m ≤ cap := hcap
      have k14 : 0 < m := by omega
      have k15 : 1 ≤ cap := by omega
      by_cases hev : a % 2 = 0
      · have k3 : (a : Int) % 2 = 0 := by omega
        have k5 : ((a : Int) % 2 == 0) = true := by simp; omega
        have k4 : ((a : Int) == (l : Int)) = false := by simp; omega
        rw [if_pos hev] at hG0
        have hG1 : G = (climb a2 l2 (node d x) ws).map (fun z => (z.1, (T ++ [nodeT d x]) ++ z.2.1, LF ++ z.2.2)) := by
          rw [hG0, Option.map_map]
          congr 1
          funext z
          simp
        have hTl1 : T.length ≤ 1000000 := by omega
        have hTl2 : (T ++ [nodeT d x]).length + m2 ≤ 1000000 := by rw [List.length_append, List.length_singleton]; omega
        have hLl2 : LF.length + m2 ≤ 1000000 := by omega
        have jn := fun W (h : CSt w d T LF W) => join_any h HG.out d x hd (by omega) hTl1
        obtain ⟨ta, tc, la, lc, hg, hO, hP, hdd⟩ := hS.has
        obtain ⟨q0, q1, q2, qf⟩ := jrow3 hg
        have hcW : W.cell? ⟨b, off, none⟩ = some (.string x) := (hS.below.cell (p := ⟨b, off, none⟩) hbl).trans hcx
        have hlW := hS.lt
        have HA := Lib.hid (And.intro hG1 (And.intro ha2l (And.intro hl2l (And.intro hl (And.intro hTl2 (And.intro hLl2 (And.intro hws2 (And.intro hT2 (And.intro hm2 (And.intro jn (And.intro hbl (And.intro hc2 (And.intro k13 hmax)))))))))))))
        have hnd : (node d x).size ≤ 100000 := by have := sumE_size (nodeT d x); unfold node; omega
        have E0 : W.drew.cell? ⟨b, off, none⟩ = some (.string x) := hcW
        have S0 : CSt w d T LF W.drew := ⟨hS.below.drew, ta, tc, la, lc, hg, hO, hP, hdd⟩
        have d0 : W.drew.cell? ⟨w.heap.size, 0, none⟩ = some (.string d) := q0
        clear hG0 hG1 ha2l hl2l hl hTl hLl hTl1 hTl2 hLl2 hd hws hws2 hcap hmax hmax' hT hT2 hS hm hm1 hm2 hal hB hev k1 jn hg hO hP hdd hbl hcx hc2 k15 
        clear q1 q2 qf q0 hcW k11
        go_wp2_with fail
        refine wp_region_held (S := fun W2 => W2.cell? ⟨b, off, none⟩ = some (.string x)) (by kernel_rfl) ?_
        change wpAnyH _ _ _ _ _ _ _ _ (World.drew _)
        generalize World.drew _ = v0 at *
        refine wpAnyH_take (i := 0) (v := ?_) rfl (by kernel_rfl) (by kernel_rfl) (by kernel_rfl) (fun _ _ _ h => h) (Or.inl ⟨by kernel_rfl, ?_⟩) E0 ?_
        rotate_left
        · (intro W2 hS; go_simp; try (with_reducible rfl))
        refine wpAnyH_take (i := 2) (v := ?_) rfl (by kernel_rfl) (by kernel_rfl) (by kernel_rfl) (fun _ _ _ h => h) (Or.inl ⟨by kernel_rfl, ?_⟩) E0 ?_
        rotate_left
        · (intro W2 hS; go_simp; try (with_reducible rfl))
        refine wpAnyH_take (i := 3) (v := ?_) rfl (by kernel_rfl) (by kernel_rfl) (by kernel_rfl) (fun _ _ _ h => h) (Or.inl ⟨by kernel_rfl, ?_⟩) E0 ?_
        rotate_left
        · (intro W2 hS; go_simp; try (with_reducible rfl))
        refine wpAnyH_take (i := 4) (v := ?_) rfl (by kernel_rfl) (by kernel_rfl) (by kernel_rfl) (fun _ _ _ h => h) (Or.inl ⟨by kernel_rfl, ?_⟩) E0 ?_
        rotate_left
        · (intro W2 hS; go_simp; try (with_reducible rfl))
        refine wpAnyH_ready (rs := [1]) (by kernel_rfl) (by simp) ?_
        refine AllReadyH.cons rfl (fun K hK => ?_) AllReadyH.nil
        go_simp
        refine hK.out _ _ E0 (fun _ => ?_)
        clear hK K d0
        refine wpAnyH_ready (rs := [5]) (by kernel_rfl) (by simp) ?_
        refine AllReadyH.cons rfl (fun K hK => ?_) AllReadyH.nil
        go_simp
        refine (HA.out.2.2.2.2.2.2.2.2.2.1 _ S0).mono ?_
        rintro e v1 ⟨rfl, S1⟩
        have E1 : v1.cell? ⟨b, off, none⟩ = some (.string x) := (S1.below.cell (p := ⟨b, off, none⟩) HA.out.2.2.2.2.2.2.2.2.2.2.1).trans ((S0.below.cell (p := ⟨b, off, none⟩) HA.out.2.2.2.2.2.2.2.2.2.2.1).symm.trans E0)
        refine hK.out _ _ E1 (fun _ => ?_)
        clear hK K E0 S0
        refine wpAnyH_done (by kernel_rfl) ?_ _
        go_simp
        have HS1 := Lib.hid S1
        clear E1 S1
        by_cases hc1 : cap = 1
        · go_wp2_with fail
          go_step3
          rw [HW.out.1, HW.out.2]
          refine ⟨rfl, ?_⟩
          exact ⟨a2, l2, (node d x), ws, (T ++ [nodeT d x]), LF, (some ⟨b, off, none⟩), 0, m2, _, _, _, _, _, _, _, _, _, _, _, _, _, _, _, _, _, _, _, _, _, _, _, _, _, _, _, _, _, _, _, _, _, _, _, _, _, _, _, _, _, _, _, _, _, _, _, _, _, _, _, _, _, _, _, rfl, HA.out.1, HA.out.2.1, by have h1 := HA.out.2.2.1; have h2 := HA.out.2.2.2.1; omega, HA.out.2.2.2.2.1, HA.out.2.2.2.2.2.1, hnd, HA.out.2.2.2.2.2.2.1, by have h1 := HA.out.2.2.2.2.2.2.2.2.2.2.2.1; have h2 := HA.out.2.2.2.2.2.2.2.2.2.2.2.2.1; omega, Nat.zero_le _, (show TextsAt w (some ⟨b, off, none⟩) ws from fun j hj => by exfalso; have h1 := HA.out.2.2.2.2.2.2.2.2.1; have h2 := HA.out.2.2.2.2.2.2.2.2.2.2.2.2.1; omega), HS1.out, HA.out.2.2.2.2.2.2.2.2.1⟩
        · go_wp2_with fail
          go_step3
          rw [HW.out.1, HW.out.2]
          refine ⟨rfl, ?_⟩
          exact ⟨a2, l2, (node d x), ws, (T ++ [nodeT d x]), LF, (some ⟨b, off + 1, none⟩), c2, m2, _, _, _, _, _, _, _, _, _, _, _, _, _, _, _, _, _, _, _, _, _, _, _, _, _, _, _, _, _, _, _, _, _, _, _, _, _, _, _, _, _, _, _, _, _, _, _, _, _, _, _, _, _, _, _, rfl, HA.out.1, HA.out.2.1, by have h1 := HA.out.2.2.1; have h2 := HA.out.2.2.2.1; omega, HA.out.2.2.2.2.1, HA.out.2.2.2.2.2.1, hnd, HA.out.2.2.2.2.2.2.1, by have h1 := HA.out.2.2.2.2.2.2.2.2.2.2.2.1; have h2 := HA.out.2.2.2.2.2.2.2.2.2.2.2.2.1; omega, by have h1 := HA.out.2.2.2.2.2.2.2.2.2.2.2.1; have h3 := HA.out.2.2.2.2.2.2.2.2.2.2.2.2.2; omega, HA.out.2.2.2.2.2.2.2.1, HS1.out, HA.out.2.2.2.2.2.2.2.2.1⟩
      · by_cases hee : a = l
        · have k3 : (a : Int) % 2 = 1 := by omega
          have k5 : ((a : Int) % 2 == 0) = false := by simp; omega
          rw [if_neg hev] at hG0
          have k4 : ((a : Int) == (l : Int)) = true := by simp; omega
          have hG1 : G = (climb a2 l2 (node x d) ws).map (fun z => (z.1, (T ++ [nodeT x d]) ++ z.2.1, (LF ++ [x]) ++ z.2.2)) := by
            rw [hG0, Option.map_map]
            congr 1
            funext z
            simp
          have hTl1 : T.length ≤ 1000000 := by omega
          have hTl2 : (T ++ [nodeT x d]).length + m2 ≤ 1000000 := by rw [List.length_append, List.length_singleton]; omega
          have hLl2 : (LF ++ [x]).length + m2 ≤ 1000000 := by rw [List.length_append, List.length_singleton]; omega
          have jn := fun W (h : CSt w d T LF W) => join_any h HG.out x d (by omega) hd hTl1
          obtain ⟨ta, tc, la, lc, hg, hO, hP, hdd⟩ := hS.has
          obtain ⟨q0, q1, q2, qf⟩ := jrow3 hg
          have hcW : W.cell? ⟨b, off, none⟩ = some (.string x) := (hS.below.cell (p := ⟨b, off, none⟩) hbl).trans hcx
          have hlW := hS.lt
          have HA := Lib.hid (And.intro hG1 (And.intro ha2l (And.intro hl2l (And.intro hl (And.intro hTl2 (And.intro hLl2 (And.intro hws2 (And.intro hT2 (And.intro hm2 (And.intro jn (And.intro hbl (And.intro hc2 (And.intro k13 hmax)))))))))))))
          have hnd : (node x d).size ≤ 100000 := by have := sumE_size (nodeT x d); unfold node; omega
          have E0 : W.drew.cell? ⟨b, off, none⟩ = some (.string x) := hcW
          have S0 : CSt w d T LF W.drew := ⟨hS.below.drew, ta, tc, la, lc, hg, hO, hP, hdd⟩
          have d0 : W.drew.cell? ⟨w.heap.size, 0, none⟩ = some (.string d) := q0
          clear hG0 hG1 ha2l hl2l hl hTl hLl hTl1 hTl2 hLl2 hd hws hws2 hcap hmax hmax' hT hT2 hS hm hm1 hm2 hal hB hev k1 jn hg hO hP hdd hbl hcx hc2 k15 hee
          clear q1 q2 qf q0 hcW k11
          go_wp2_with fail
          refine wp_region_held (S := fun W2 => W2.cell? ⟨b, off, none⟩ = some (.string x)) (by kernel_rfl) ?_
          change wpAnyH _ _ _ _ _ _ _ _ (World.drew _)
          generalize World.drew _ = v0 at *
          refine wpAnyH_take (i := 0) (v := ?_) rfl (by kernel_rfl) (by kernel_rfl) (by kernel_rfl) (fun _ _ _ h => h) (Or.inl ⟨by kernel_rfl, ?_⟩) E0 ?_
          rotate_left
          · (intro W2 hS; go_simp; try (with_reducible rfl))
          refine wpAnyH_take (i := 1) (v := ?_) rfl (by kernel_rfl) (by kernel_rfl) (by kernel_rfl) (fun _ _ _ h => h) (Or.inl ⟨by kernel_rfl, ?_⟩) E0 ?_
          rotate_left
          · (intro W2 hS; go_simp; try (with_reducible rfl))
          refine wpAnyH_take (i := 2) (v := ?_) rfl (by kernel_rfl) (by kernel_rfl) (by kernel_rfl) (fun _ _ _ h => h) (Or.inl ⟨by kernel_rfl, ?_⟩) E0 ?_
          rotate_left
          · (intro W2 hS; go_simp; try (with_reducible rfl))
          refine wpAnyH_take (i := 3) (v := ?_) rfl (by kernel_rfl) (by kernel_rfl) (by kernel_rfl) (fun _ _ _ h => h) (Or.inl ⟨by kernel_rfl, ?_⟩) E0 ?_
          rotate_left
          · (intro W2 hS; go_simp; try (with_reducible rfl))
          refine wpAnyH_ready (rs := [4]) (by kernel_rfl) (by simp) ?_
          refine AllReadyH.cons rfl (fun K hK => ?_) AllReadyH.nil
          go_simp
          refine hK.out _ _ E0 (fun _ => ?_)
          clear hK K d0
          refine wpAnyH_ready (rs := [5]) (by kernel_rfl) (by simp) ?_
          refine AllReadyH.cons rfl (fun K hK => ?_) AllReadyH.nil
          go_simp
          refine (HA.out.2.2.2.2.2.2.2.2.2.1 _ S0).mono ?_
          rintro e v1 ⟨rfl, S1⟩
          have E1 : v1.cell? ⟨b, off, none⟩ = some (.string x) := (S1.below.cell (p := ⟨b, off, none⟩) HA.out.2.2.2.2.2.2.2.2.2.2.1).trans ((S0.below.cell (p := ⟨b, off, none⟩) HA.out.2.2.2.2.2.2.2.2.2.2.1).symm.trans E0)
          refine hK.out _ _ E1 (fun _ => ?_)
          clear hK K E0 S0
          refine wpAnyH_done (by kernel_rfl) ?_ _
          go_simp
          obtain ⟨ta, tc, la, lc, hg, hO, hP, hdd⟩ := S1.has
          obtain ⟨q0, q1, q2, qf⟩ := jrow3 hg
          have E2 : v1.drew.cell? ⟨b, off, none⟩ = some (.string x) := E1
          obtain ⟨n, hn⟩ : ∃ n, n = LF.length := ⟨_, rfl⟩
          have hn1 : n ≤ 1000000 := by have h := HA.out.2.2.2.2.2.1; rw [List.length_append, List.length_singleton] at h; omega
          have p2 : v1.drew.cell? ⟨w.heap.size, 2, none⟩ = some (.slice la n lc) := by rw [hn]; exact q2
          have HB := Lib.hid (And.intro S1.below.drew (And.intro (show v1.drew.heap[w.heap.size]? = _ from hg) (And.intro (show OwnT (w.heap.size + 1) v1.drew ta tc _ from hO) (And.intro (show OwnT (w.heap.size + 1) v1.drew la lc LF from hP) (And.intro hdd (And.intro hn (show w.heap.size + 1 ≤ v1.drew.heap.size from S1.lt)))))))
          clear hg hO hP hdd q0 q1 q2 qf S1 E1 hn
          go_wp2_with fail
          refine wp_region_held (S := fun W2 => W2.cell? ⟨b, off, none⟩ = some (.string x)) (by kernel_rfl) ?_
          change wpAnyH _ _ _ _ _ _ _ _ (World.drew _)
          generalize World.drew _ = y0 at *
          refine wpAnyH_take (i := 0) (v := ?_) rfl (by kernel_rfl) (by kernel_rfl) (by kernel_rfl) (fun _ _ _ h => h) (Or.inl ⟨by kernel_rfl, ?_⟩) E2 ?_
          rotate_left
          · (intro W2 hS; go_simp; try (with_reducible rfl))
          refine wpAnyH_take (i := 2) (v := ?_) rfl (by kernel_rfl) (by kernel_rfl) (by kernel_rfl) (fun _ _ _ h => h) (Or.inl ⟨by kernel_rfl, ?_⟩) E2 ?_
          rotate_left
          · (intro W2 hS; go_simp; try (with_reducible rfl))
          refine wpAnyH_take (i := 3) (v := ?_) rfl (by kernel_rfl) (by kernel_rfl) (by kernel_rfl) (fun _ _ _ h => h) (Or.inl ⟨by kernel_rfl, ?_⟩) E2 ?_
          rotate_left
          · (intro W2 hS; go_simp; try (with_reducible rfl))
          refine wpAnyH_take (i := 4) (v := ?_) rfl (by kernel_rfl) (by kernel_rfl) (by kernel_rfl) (fun _ _ _ h => h) (Or.inl ⟨by kernel_rfl, ?_⟩) E2 ?_
          rotate_left
          · (intro W2 hS; go_simp; try (with_reducible rfl))
          refine wpAnyH_ready (rs := [1, 5]) (by kernel_rfl) (by simp) ?_
          refine AllReadyH.cons rfl (fun K hK => ?_) (AllReadyH.cons rfl (fun K hK => ?_) AllReadyH.nil)
          · go_simp
            refine hK.out _ _ E2 (fun _ => ?_)
            clear hK K
            refine wpAnyH_ready (rs := [5]) (by kernel_rfl) (by simp) ?_
            refine AllReadyH.cons rfl (fun K hK => ?_) AllReadyH.nil
            go_simp
            have hba : Below y0.heap.size y0 (y0.alloc (.cells #[.string x] 9)) := (Below.refl _ _).alloc (Nat.le_refl _) _
            have E3 : (y0.alloc (.cells #[.string x] 9)).cell? ⟨b, off, none⟩ = some (.string x) := (hba.cell (p := ⟨b, off, none⟩) (by have h1 := HA.out.2.2.2.2.2.2.2.2.2.2.1; have h2 := HB.out.2.2.2.2.2.2; show b < y0.heap.size; omega)).trans E2
            have hg3 := (hba.block _ (Array.getElem?_eq_some_iff.1 HB.out.2.1).1).trans HB.out.2.1
            have HC := Lib.hid (And.intro (HB.out.1.trans (hba.mono HB.out.1.size)) (And.intro hg3 (And.intro (OwnT.call HB.out.2.2.1 hba) (And.intro (OwnT.call HB.out.2.2.2.1 hba) (show w.heap.size + 1 ≤ (y0.alloc (.cells #[.string x] 9)).heap.size from by rw [World.size_alloc]; have h := HB.out.2.2.2.2.2.2; omega)))))
            have p3 : (y0.alloc (.cells #[.string x] 9)).cell? ⟨w.heap.size, 2, none⟩ = some (.slice la n lc) := (hba.cell (p := ⟨w.heap.size, 2, none⟩) (show w.heap.size < y0.heap.size from HB.out.2.2.2.2.2.2)).trans p2
            have htx := texts_one y0 x
            obtain ⟨y1, hy1⟩ : ∃ y1, y1 = y0.alloc (.cells #[.string x] 9) := ⟨_, rfl⟩
            rw [← hy1] at E3 HC p3 htx ⊢
            clear hba hg3 hy1
            refine hK.out _ _ E3 (fun _ => ?_)
            clear hK K
            refine wpAnyH_ready (rs := [6]) (by kernel_rfl) (by simp) ?_
            refine AllReadyH.cons rfl (fun K hK => ?_) AllReadyH.nil
            refine step_append_texts3 rfl (.tmp 19) (.tmp 23) rfl HC.out.2.2.2.1 _ HB.out.2.2.2.2.2.1.symm rfl _ _ 1 [x] rfl rfl htx (by omega) HC.out.2.2.2.2 ?_
            intro ad cp y2 hA
            obtain ⟨hg4, hS4⟩ := CSt.lefts HC.out.1 HC.out.2.1 HC.out.2.2.1 HC.out.2.2.2.1 HB.out.2.2.2.2.1 hA
            rw [show LF.length + [x].length = n + 1 by rw [← HB.out.2.2.2.2.2.1]; rfl] at hS4
            have hb4 := hA.grown
            have E4 : y2.cell? ⟨b, off, none⟩ = some (.string x) := (hb4.cell_far ⟨b, off, none⟩ (by have h1 := HA.out.2.2.2.2.2.2.2.2.2.2.1; have h2 := HC.out.2.2.2.2; show b < y1.heap.size; omega) (fun e => by have h1 := HA.out.2.2.2.2.2.2.2.2.2.2.1; have h2 := (World.ownsRow.lt HC.out.2.2.2.1 _ e.symm).1; simp only at h2; omega)).trans E3
            try go_simp
            refine hK.out _ _ E4 (fun _ => ?_)
            clear hK K
            obtain ⟨r0, r1, r2, rf⟩ := jrow3 hg4
            have E5 : (y2.setCell ⟨w.heap.size, 2, none⟩ (.slice ad (n + 1) cp)).cell? ⟨b, off, none⟩ = some (.string x) := ((below_setCell' (Below.refl w.heap.size y2) (Nat.le_refl _) 2 (.slice ad (n + 1) cp)).cell (p := ⟨b, off, none⟩) HA.out.2.2.2.2.2.2.2.2.2.2.1).trans E4
            refine wpAnyH_take (i := 7) (v := ?_) rfl (by kernel_rfl) (by kernel_rfl) (by kernel_rfl) (fun _ _ _ h => h) (Or.inl ⟨by kernel_rfl, ?_⟩) E4 ?_
            rotate_left
            · (intro W2 hS; go_simp; try (with_reducible rfl))
            refine wpAnyH_ready (rs := [8]) (by kernel_rfl) (by simp) ?_
            refine AllReadyH.cons rfl (fun K hK => ?_) AllReadyH.nil
            go_simp
            refine hK.out _ _ E5 (fun _ => ?_)
            clear hK K
            refine wpAnyH_done (by kernel_rfl) ?_ _
            go_simp
            have HS1 := Lib.hid hS4
            clear hS4 hg4 hA hb4 r0 r1 r2 rf E2 E3 E4 E5 p2 p3 htx
            generalize World.setCell _ _ _ = y3 at *
            by_cases hc1 : cap = 1
            · go_wp2_with fail
              go_step3
              rw [HW.out.1, HW.out.2]
              refine ⟨rfl, ?_⟩
              exact ⟨a2, l2, (node x d), ws, (T ++ [nodeT x d]), (LF ++ [x]), (some ⟨b, off, none⟩), 0, m2, _, _, _, _, _, _, _, _, _, _, _, _, _, _, _, _, _, _, _, _, _, _, _, _, _, _, _, _, _, _, _, _, _, _, _, _, _, _, _, _, _, _, _, _, _, _, _, _, _, _, _, _, _, _, _, rfl, HA.out.1, HA.out.2.1, by have h1 := HA.out.2.2.1; have h2 := HA.out.2.2.2.1; omega, HA.out.2.2.2.2.1, HA.out.2.2.2.2.2.1, hnd, HA.out.2.2.2.2.2.2.1, by have h1 := HA.out.2.2.2.2.2.2.2.2.2.2.2.1; have h2 := HA.out.2.2.2.2.2.2.2.2.2.2.2.2.1; omega, Nat.zero_le _, (show TextsAt w (some ⟨b, off, none⟩) ws from fun j hj => by exfalso; have h1 := HA.out.2.2.2.2.2.2.2.2.1; have h2 := HA.out.2.2.2.2.2.2.2.2.2.2.2.2.1; omega), HS1.out, HA.out.2.2.2.2.2.2.2.2.1⟩
            · go_wp2_with fail
              go_step3
              rw [HW.out.1, HW.out.2]
              refine ⟨rfl, ?_⟩
              exact ⟨a2, l2, (node x d), ws, (T ++ [nodeT x d]), (LF ++ [x]), (some ⟨b, off + 1, none⟩), c2, m2, _, _, _, _, _, _, _, _, _, _, _, _, _, _, _, _, _, _, _, _, _, _, _, _, _, _, _, _, _, _, _, _, _, _, _, _, _, _, _, _, _, _, _, _, _, _, _, _, _, _, _, _, _, _, _, rfl, HA.out.1, HA.out.2.1, by have h1 := HA.out.2.2.1; have h2 := HA.out.2.2.2.1; omega, HA.out.2.2.2.2.1, HA.out.2.2.2.2.2.1, hnd, HA.out.2.2.2.2.2.2.1, by have h1 := HA.out.2.2.2.2.2.2.2.2.2.2.2.1; have h2 := HA.out.2.2.2.2.2.2.2.2.2.2.2.2.1; omega, by have h1 := HA.out.2.2.2.2.2.2.2.2.2.2.2.1; have h3 := HA.out.2.2.2.2.2.2.2.2.2.2.2.2.2; omega, HA.out.2.2.2.2.2.2.2.1, HS1.out, HA.out.2.2.2.2.2.2.2.2.1⟩
          · go_simp
            have hba : Below y0.heap.size y0 (y0.alloc (.cells #[.string x] 9)) := (Below.refl _ _).alloc (Nat.le_refl _) _
            have E3 : (y0.alloc (.cells #[.string x] 9)).cell? ⟨b, off, none⟩ = some (.string x) := (hba.cell (p := ⟨b, off, none⟩) (by have h1 := HA.out.2.2.2.2.2.2.2.2.2.2.1; have h2 := HB.out.2.2.2.2.2.2; show b < y0.heap.size; omega)).trans E2
            have hg3 := (hba.block _ (Array.getElem?_eq_some_iff.1 HB.out.2.1).1).trans HB.out.2.1
            have HC := Lib.hid (And.intro (HB.out.1.trans (hba.mono HB.out.1.size)) (And.intro hg3 (And.intro (OwnT.call HB.out.2.2.1 hba) (And.intro (OwnT.call HB.out.2.2.2.1 hba) (show w.heap.size + 1 ≤ (y0.alloc (.cells #[.string x] 9)).heap.size from by rw [World.size_alloc]; have h := HB.out.2.2.2.2.2.2; omega)))))
            have p3 : (y0.alloc (.cells #[.string x] 9)).cell? ⟨w.heap.size, 2, none⟩ = some (.slice la n lc) := (hba.cell (p := ⟨w.heap.size, 2, none⟩) (show w.heap.size < y0.heap.size from HB.out.2.2.2.2.2.2)).trans p2
            have htx := texts_one y0 x
            obtain ⟨y1, hy1⟩ : ∃ y1, y1 = y0.alloc (.cells #[.string x] 9) := ⟨_, rfl⟩
            rw [← hy1] at E3 HC p3 htx ⊢
            clear hba hg3 hy1
            refine hK.out _ _ E3 (fun _ => ?_)
            clear hK K
            refine wpAnyH_ready (rs := [1]) (by kernel_rfl) (by simp) ?_
            refine AllReadyH.cons rfl (fun K hK => ?_) AllReadyH.nil
            go_simp
            refine hK.out _ _ E3 (fun _ => ?_)
            clear hK K
            refine wpAnyH_ready (rs := [6]) (by kernel_rfl) (by simp) ?_
            refine AllReadyH.cons rfl (fun K hK => ?_) AllReadyH.nil
            refine step_append_texts3 rfl (.tmp 19) (.tmp 23) rfl HC.out.2.2.2.1 _ HB.out.2.2.2.2.2.1.symm rfl _ _ 1 [x] rfl rfl htx (by omega) HC.out.2.2.2.2 ?_
            intro ad cp y2 hA
            obtain ⟨hg4, hS4⟩ := CSt.lefts HC.out.1 HC.out.2.1 HC.out.2.2.1 HC.out.2.2.2.1 HB.out.2.2.2.2.1 hA
            rw [show LF.length + [x].length = n + 1 by rw [← HB.out.2.2.2.2.2.1]; rfl] at hS4
            have hb4 := hA.grown
            have E4 : y2.cell? ⟨b, off, none⟩ = some (.string x) := (hb4.cell_far ⟨b, off, none⟩ (by have h1 := HA.out.2.2.2.2.2.2.2.2.2.2.1; have h2 := HC.out.2.2.2.2; show b < y1.heap.size; omega) (fun e => by have h1 := HA.out.2.2.2.2.2.2.2.2.2.2.1; have h2 := (World.ownsRow.lt HC.out.2.2.2.1 _ e.symm).1; simp only at h2; omega)).trans E3
            try go_simp
            refine hK.out _ _ E4 (fun _ => ?_)
            clear hK K
            obtain ⟨r0, r1, r2, rf⟩ := jrow3 hg4
            have E5 : (y2.setCell ⟨w.heap.size, 2, none⟩ (.slice ad (n + 1) cp)).cell? ⟨b, off, none⟩ = some (.string x) := ((below_setCell' (Below.refl w.heap.size y2) (Nat.le_refl _) 2 (.slice ad (n + 1) cp)).cell (p := ⟨b, off, none⟩) HA.out.2.2.2.2.2.2.2.2.2.2.1).trans E4
            refine wpAnyH_take (i := 7) (v := ?_) rfl (by kernel_rfl) (by kernel_rfl) (by kernel_rfl) (fun _ _ _ h => h) (Or.inl ⟨by kernel_rfl, ?_⟩) E4 ?_
            rotate_left
            · (intro W2 hS; go_simp; try (with_reducible rfl))
            refine wpAnyH_ready (rs := [8]) (by kernel_rfl) (by simp) ?_
            refine AllReadyH.cons rfl (fun K hK => ?_) AllReadyH.nil
            go_simp
            refine hK.out _ _ E5 (fun _ => ?_)
            clear hK K
            refine wpAnyH_done (by kernel_rfl) ?_ _
            go_simp
            have HS1 := Lib.hid hS4
            clear hS4 hg4 hA hb4 r0 r1 r2 rf E2 E3 E4 E5 p2 p3 htx
            generalize World.setCell _ _ _ = y3 at *
            by_cases hc1 : cap = 1
            · go_wp2_with fail
              go_step3
              rw [HW.out.1, HW.out.2]
              refine ⟨rfl, ?_⟩
              exact ⟨a2, l2, (node x d), ws, (T ++ [nodeT x d]), (LF ++ [x]), (some ⟨b, off, none⟩), 0, m2, _, _, _, _, _, _, _, _, _, _, _, _, _, _, _, _, _, _, _, _, _, _, _, _, _, _, _, _, _, _, _, _, _, _, _, _, _, _, _, _, _, _, _, _, _, _, _, _, _, _, _, _, _, _, _, rfl, HA.out.1, HA.out.2.1, by have h1 := HA.out.2.2.1; have h2 := HA.out.2.2.2.1; omega, HA.out.2.2.2.2.1, HA.out.2.2.2.2.2.1, hnd, HA.out.2.2.2.2.2.2.1, by have h1 := HA.out.2.2.2.2.2.2.2.2.2.2.2.1; have h2 := HA.out.2.2.2.2.2.2.2.2.2.2.2.2.1; omega, Nat.zero_le _, (show TextsAt w (some ⟨b, off, none⟩) ws from fun j hj => by exfalso; have h1 := HA.out.2.2.2.2.2.2.2.2.1; have h2 := HA.out.2.2.2.2.2.2.2.2.2.2.2.2.1; omega), HS1.out, HA.out.2.2.2.2.2.2.2.2.1⟩
            · go_wp2_with fail
              go_step3
              rw [HW.out.1, HW.out.2]
              refine ⟨rfl, ?_⟩
              exact ⟨a2, l2, (node x d), ws, (T ++ [nodeT x d]), (LF ++ [x]), (some ⟨b, off + 1, none⟩), c2, m2, _, _, _, _, _, _, _, _, _, _, _, _, _, _, _, _, _, _, _, _, _, _, _, _, _, _, _, _, _, _, _, _, _, _, _, _, _, _, _, _, _, _, _, _, _, _, _, _, _, _, _, _, _, _, _, rfl, HA.out.1, HA.out.2.1, by have h1 := HA.out.2.2.1; have h2 := HA.out.2.2.2.1; omega, HA.out.2.2.2.2.1, HA.out.2.2.2.2.2.1, hnd, HA.out.2.2.2.2.2.2.1, by have h1 := HA.out.2.2.2.2.2.2.2.2.2.2.2.1; have h2 := HA.out.2.2.2.2.2.2.2.2.2.2.2.2.1; omega, by have h1 := HA.out.2.2.2.2.2.2.2.2.2.2.2.1; have h3 := HA.out.2.2.2.2.2.2.2.2.2.2.2.2.2; omega, HA.out.2.2.2.2.2.2.2.1, HS1.out, HA.out.2.2.2.2.2.2.2.2.1⟩
        · have k3 : (a : Int) % 2 = 1 := by omega
          have k5 : ((a : Int) % 2 == 0) = false := by simp; omega
          rw [if_neg hev] at hG0
          have k4 : ((a : Int) == (l : Int)) = false := by simp; omega
          have hG1 : G = (climb a2 l2 (node x d) ws).map (fun z => (z.1, (T ++ [nodeT x d]) ++ z.2.1, (LF ++ [x]) ++ z.2.2)) := by
            rw [hG0, Option.map_map]
            congr 1
            funext z
            simp
          have hTl1 : T.length ≤ 1000000 := by omega
          have hTl2 : (T ++ [nodeT x d]).length + m2 ≤ 1000000 := by rw [List.length_append, List.length_singleton]; omega
          have hLl2 : (LF ++ [x]).length + m2 ≤ 1000000 := by rw [List.length_append, List.length_singleton]; omega
          have jn := fun W (h : CSt w d T LF W) => join_any h HG.out x d (by omega) hd hTl1
          obtain ⟨ta, tc, la, lc, hg, hO, hP, hdd⟩ := hS.has
          obtain ⟨q0, q1, q2, qf⟩ := jrow3 hg
          have hcW : W.cell? ⟨b, off, none⟩ = some (.string x) := (hS.below.cell (p := ⟨b, off, none⟩) hbl).trans hcx
          have hlW := hS.lt
          have HA := Lib.hid (And.intro hG1 (And.intro ha2l (And.intro hl2l (And.intro hl (And.intro hTl2 (And.intro hLl2 (And.intro hws2 (And.intro hT2 (And.intro hm2 (And.intro jn (And.intro hbl (And.intro hc2 (And.intro k13 hmax)))))))))))))
          have hnd : (node x d).size ≤ 100000 := by have := sumE_size (nodeT x d); unfold node; omega
          have E0 : W.drew.cell? ⟨b, off, none⟩ = some (.string x) := hcW
          have S0 : CSt w d T LF W.drew := ⟨hS.below.drew, ta, tc, la, lc, hg, hO, hP, hdd⟩
          have d0 : W.drew.cell? ⟨w.heap.size, 0, none⟩ = some (.string d) := q0
          clear hG0 hG1 ha2l hl2l hl hTl hLl hTl1 hTl2 hLl2 hd hws hws2 hcap hmax hmax' hT hT2 hS hm hm1 hm2 hal hB hev k1 jn hg hO hP hdd hbl hcx hc2 k15 hee
          clear q1 q2 qf q0 hcW k11
          go_wp2_with fail
          refine wp_region_held (S := fun W2 => W2.cell? ⟨b, off, none⟩ = some (.string x)) (by kernel_rfl) ?_
          change wpAnyH _ _ _ _ _ _ _ _ (World.drew _)
          generalize World.drew _ = v0 at *
          refine wpAnyH_take (i := 0) (v := ?_) rfl (by kernel_rfl) (by kernel_rfl) (by kernel_rfl) (fun _ _ _ h => h) (Or.inl ⟨by kernel_rfl, ?_⟩) E0 ?_
          rotate_left
          · (intro W2 hS; go_simp; try (with_reducible rfl))
          refine wpAnyH_take (i := 1) (v := ?_) rfl (by kernel_rfl) (by kernel_rfl) (by kernel_rfl) (fun _ _ _ h => h) (Or.inl ⟨by kernel_rfl, ?_⟩) E0 ?_
          rotate_left
          · (intro W2 hS; go_simp; try (with_reducible rfl))
          refine wpAnyH_take (i := 2) (v := ?_) rfl (by kernel_rfl) (by kernel_rfl) (by kernel_rfl) (fun _ _ _ h => h) (Or.inl ⟨by kernel_rfl, ?_⟩) E0 ?_
          rotate_left
          · (intro W2 hS; go_simp; try (with_reducible rfl))
          refine wpAnyH_take (i := 3) (v := ?_) rfl (by kernel_rfl) (by kernel_rfl) (by kernel_rfl) (fun _ _ _ h => h) (Or.inl ⟨by kernel_rfl, ?_⟩) E0 ?_
          rotate_left
          · (intro W2 hS; go_simp; try (with_reducible rfl))
          refine wpAnyH_ready (rs := [4]) (by kernel_rfl) (by simp) ?_
          refine AllReadyH.cons rfl (fun K hK => ?_) AllReadyH.nil
          go_simp
          refine hK.out _ _ E0 (fun _ => ?_)
          clear hK K d0
          refine wpAnyH_ready (rs := [5]) (by kernel_rfl) (by simp) ?_
          refine AllReadyH.cons rfl (fun K hK => ?_) AllReadyH.nil
          go_simp
          refine (HA.out.2.2.2.2.2.2.2.2.2.1 _ S0).mono ?_
          rintro e v1 ⟨rfl, S1⟩
          have E1 : v1.cell? ⟨b, off, none⟩ = some (.string x) := (S1.below.cell (p := ⟨b, off, none⟩) HA.out.2.2.2.2.2.2.2.2.2.2.1).trans ((S0.below.cell (p := ⟨b, off, none⟩) HA.out.2.2.2.2.2.2.2.2.2.2.1).symm.trans E0)
          refine hK.out _ _ E1 (fun _ => ?_)
          clear hK K E0 S0
          refine wpAnyH_done (by kernel_rfl) ?_ _
          go_simp
          obtain ⟨ta, tc, la, lc, hg, hO, hP, hdd⟩ := S1.has
          obtain ⟨q0, q1, q2, qf⟩ := jrow3 hg
          have E2 : v1.drew.cell? ⟨b, off, none⟩ = some (.string x) := E1
          obtain ⟨n, hn⟩ : ∃ n, n = LF.length := ⟨_, rfl⟩
          have hn1 : n ≤ 1000000 := by have h := HA.out.2.2.2.2.2.1; rw [List.length_append, List.length_singleton] at h; omega
          have p2 : v1.drew.cell? ⟨w.heap.size, 2, none⟩ = some (.slice la n lc) := by rw [hn]; exact q2
          have HB := Lib.hid (And.intro S1.below.drew (And.intro (show v1.drew.heap[w.heap.size]? = _ from hg) (And.intro (show OwnT (w.heap.size + 1) v1.drew ta tc _ from hO) (And.intro (show OwnT (w.heap.size + 1) v1.drew la lc LF from hP) (And.intro hdd (And.intro hn (show w.heap.size + 1 ≤ v1.drew.heap.size from S1.lt)))))))
          clear hg hO hP hdd q0 q1 q2 qf S1 E1 hn
          go_wp2_with fail
          refine wp_region_held (S := fun W2 => W2.cell? ⟨b, off, none⟩ = some (.string x)) (by kernel_rfl) ?_
          change wpAnyH _ _ _ _ _ _ _ _ (World.drew _)
          generalize World.drew _ = y0 at *
          refine wpAnyH_take (i := 0) (v := ?_) rfl (by kernel_rfl) (by kernel_rfl) (by kernel_rfl) (fun _ _ _ h => h) (Or.inl ⟨by kernel_rfl, ?_⟩) E2 ?_
          rotate_left
          · (intro W2 hS; go_simp; try (with_reducible rfl))
          refine wpAnyH_take (i := 2) (v := ?_) rfl (by kernel_rfl) (by kernel_rfl) (by kernel_rfl) (fun _ _ _ h => h) (Or.inl ⟨by kernel_rfl, ?_⟩) E2 ?_
          rotate_left
          · (intro W2 hS; go_simp; try (with_reducible rfl))
          refine wpAnyH_take (i := 3) (v := ?_) rfl (by kernel_rfl) (by kernel_rfl) (by kernel_rfl) (fun _ _ _ h => h) (Or.inl ⟨by kernel_rfl, ?_⟩) E2 ?_
          rotate_left
          · (intro W2 hS; go_simp; try (with_reducible rfl))
          refine wpAnyH_take (i := 4) (v := ?_) rfl (by kernel_rfl) (by kernel_rfl) (by kernel_rfl) (fun _ _ _ h => h) (Or.inl ⟨by kernel_rfl, ?_⟩) E2 ?_
          rotate_left
          · (intro W2 hS; go_simp; try (with_reducible rfl))
          refine wpAnyH_ready (rs := [1, 5]) (by kernel_rfl) (by simp) ?_
          refine AllReadyH.cons rfl (fun K hK => ?_) (AllReadyH.cons rfl (fun K hK => ?_) AllReadyH.nil)
          · go_simp
            refine hK.out _ _ E2 (fun _ => ?_)
            clear hK K
            refine wpAnyH_ready (rs := [5]) (by kernel_rfl) (by simp) ?_
            refine AllReadyH.cons rfl (fun K hK => ?_) AllReadyH.nil
            go_simp
            have hba : Below y0.heap.size y0 (y0.alloc (.cells #[.string x] 9)) := (Below.refl _ _).alloc (Nat.le_refl _) _
            have E3 : (y0.alloc (.cells #[.string x] 9)).cell? ⟨b, off, none⟩ = some (.string x) := (hba.cell (p := ⟨b, off, none⟩) (by have h1 := HA.out.2.2.2.2.2.2.2.2.2.2.1; have h2 := HB.out.2.2.2.2.2.2; show b < y0.heap.size; omega)).trans E2
            have hg3 := (hba.block _ (Array.getElem?_eq_some_iff.1 HB.out.2.1).1).trans HB.out.2.1
            have HC := Lib.hid (And.intro (HB.out.1.trans (hba.mono HB.out.1.size)) (And.intro hg3 (And.intro (OwnT.call HB.out.2.2.1 hba) (And.intro (OwnT.call HB.out.2.2.2.1 hba) (show w.heap.size + 1 ≤ (y0.alloc (.cells #[.string x] 9)).heap.size from by rw [World.size_alloc]; have h := HB.out.2.2.2.2.2.2; omega)))))
            have p3 : (y0.alloc (.cells #[.string x] 9)).cell? ⟨w.heap.size, 2, none⟩ = some (.slice la n lc) := (hba.cell (p := ⟨w.heap.size, 2, none⟩) (show w.heap.size < y0.heap.size from HB.out.2.2.2.2.2.2)).trans p2
            have htx := texts_one y0 x
            obtain ⟨y1, hy1⟩ : ∃ y1, y1 = y0.alloc (.cells #[.string x] 9) := ⟨_, rfl⟩
            rw [← hy1] at E3 HC p3 htx ⊢
            clear hba hg3 hy1
            refine hK.out _ _ E3 (fun _ => ?_)
            clear hK K
            refine wpAnyH_ready (rs := [6]) (by kernel_rfl) (by simp) ?_
            refine AllReadyH.cons rfl (fun K hK => ?_) AllReadyH.nil
            refine step_append_texts3 rfl (.tmp 19) (.tmp 23) rfl HC.out.2.2.2.1 _ HB.out.2.2.2.2.2.1.symm rfl _ _ 1 [x] rfl rfl htx (by omega) HC.out.2.2.2.2 ?_
            intro ad cp y2 hA
            obtain ⟨hg4, hS4⟩ := CSt.lefts HC.out.1 HC.out.2.1 HC.out.2.2.1 HC.out.2.2.2.1 HB.out.2.2.2.2.1 hA
            rw [show LF.length + [x].length = n + 1 by rw [← HB.out.2.2.2.2.2.1]; rfl] at hS4
            have hb4 := hA.grown
            have E4 : y2.cell? ⟨b, off, none⟩ = some (.string x) := (hb4.cell_far ⟨b, off, none⟩ (by have h1 := HA.out.2.2.2.2.2.2.2.2.2.2.1; have h2 := HC.out.2.2.2.2; show b < y1.heap.size; omega) (fun e => by have h1 := HA.out.2.2.2.2.2.2.2.2.2.2.1; have h2 := (World.ownsRow.lt HC.out.2.2.2.1 _ e.symm).1; simp only at h2; omega)).trans E3
            try go_simp
            refine hK.out _ _ E4 (fun _ => ?_)
            clear hK K
            obtain ⟨r0, r1, r2, rf⟩ := jrow3 hg4
            have E5 : (y2.setCell ⟨w.heap.size, 2, none⟩ (.slice ad (n + 1) cp)).cell? ⟨b, off, none⟩ = some (.string x) := ((below_setCell' (Below.refl w.heap.size y2) (Nat.le_refl _) 2 (.slice ad (n + 1) cp)).cell (p := ⟨b, off, none⟩) HA.out.2.2.2.2.2.2.2.2.2.2.1).trans E4
            refine wpAnyH_take (i := 7) (v := ?_) rfl (by kernel_rfl) (by kernel_rfl) (by kernel_rfl) (fun _ _ _ h => h) (Or.inl ⟨by kernel_rfl, ?_⟩) E4 ?_
            rotate_left
            · (intro W2 hS; go_simp; try (with_reducible rfl))
            refine wpAnyH_ready (rs := [8]) (by kernel_rfl) (by simp) ?_
            refine AllReadyH.cons rfl (fun K hK => ?_) AllReadyH.nil
            go_simp
            refine hK.out _ _ E5 (fun _ => ?_)
            clear hK K
            refine wpAnyH_done (by kernel_rfl) ?_ _
            go_simp
            have HS1 := Lib.hid hS4
            clear hS4 hg4 hA hb4 r0 r1 r2 rf E2 E3 E4 E5 p2 p3 htx
            generalize World.setCell _ _ _ = y3 at *
            by_cases hc1 : cap = 1
            · go_wp2_with fail
              go_step3
              rw [HW.out.1, HW.out.2]
              refine ⟨rfl, ?_⟩
              exact ⟨a2, l2, (node x d), ws, (T ++ [nodeT x d]), (LF ++ [x]), (some ⟨b, off, none⟩), 0, m2, _, _, _, _, _, _, _, _, _, _, _, _, _, _, _, _, _, _, _, _, _, _, _, _, _, _, _, _, _, _, _, _, _, _, _, _, _, _, _, _, _, _, _, _, _, _, _, _, _, _, _, _, _, _, _, rfl, HA.out.1, HA.out.2.1, by have h1 := HA.out.2.2.1; have h2 := HA.out.2.2.2.1; omega, HA.out.2.2.2.2.1, HA.out.2.2.2.2.2.1, hnd, HA.out.2.2.2.2.2.2.1, by have h1 := HA.out.2.2.2.2.2.2.2.2.2.2.2.1; have h2 := HA.out.2.2.2.2.2.2.2.2.2.2.2.2.1; omega, Nat.zero_le _, (show TextsAt w (some ⟨b, off, none⟩) ws from fun j hj => by exfalso; have h1 := HA.out.2.2.2.2.2.2.2.2.1; have h2 := HA.out.2.2.2.2.2.2.2.2.2.2.2.2.1; omega), HS1.out, HA.out.2.2.2.2.2.2.2.2.1⟩
            · go_wp2_with fail
              go_step3
              rw [HW.out.1, HW.out.2]
              refine ⟨rfl, ?_⟩
              exact ⟨a2, l2, (node x d), ws, (T ++ [nodeT x d]), (LF ++ [x]), (some ⟨b, off + 1, none⟩), c2, m2, _, _, _, _, _, _, _, _, _, _, _, _, _, _, _, _, _, _, _, _, _, _, _, _, _, _, _, _, _, _, _, _, _, _, _, _, _, _, _, _, _, _, _, _, _, _, _, _, _, _, _, _, _, _, _, rfl, HA.out.1, HA.out.2.1, by have h1 := HA.out.2.2.1; have h2 := HA.out.2.2.2.1; omega, HA.out.2.2.2.2.1, HA.out.2.2.2.2.2.1, hnd, HA.out.2.2.2.2.2.2.1, by have h1 := HA.out.2.2.2.2.2.2.2.2.2.2.2.1; have h2 := HA.out.2.2.2.2.2.2.2.2.2.2.2.2.1; omega, by have h1 := HA.out.2.2.2.2.2.2.2.2.2.2.2.1; have h3 := HA.out.2.2.2.2.2.2.2.2.2.2.2.2.2; omega, HA.out.2.2.2.2.2.2.2.1, HS1.out, HA.out.2.2.2.2.2.2.2.2.1⟩
          · go_simp
            have hba : Below y0.heap.size y0 (y0.alloc (.cells #[.string x] 9)) := (Below.refl _ _).alloc (Nat.le_refl _) _
            have E3 : (y0.alloc (.cells #[.string x] 9)).cell? ⟨b, off, none⟩ = some (.string x) := (hba.cell (p := ⟨b, off, none⟩) (by have h1 := HA.out.2.2.2.2.2.2.2.2.2.2.1; have h2 := HB.out.2.2.2.2.2.2; show b < y0.heap.size; omega)).trans E2
            have hg3 := (hba.block _ (Array.getElem?_eq_some_iff.1 HB.out.2.1).1).trans HB.out.2.1
            have HC := Lib.hid (And.intro (HB.out.1.trans (hba.mono HB.out.1.size)) (And.intro hg3 (And.intro (OwnT.call HB.out.2.2.1 hba) (And.intro (OwnT.call HB.out.2.2.2.1 hba) (show w.heap.size + 1 ≤ (y0.alloc (.cells #[.string x] 9)).heap.size from by rw [World.size_alloc]; have h := HB.out.2.2.2.2.2.2; omega)))))
            have p3 : (y0.alloc (.cells #[.string x] 9)).cell? ⟨w.heap.size, 2, none⟩ = some (.slice la n lc) := (hba.cell (p := ⟨w.heap.size, 2, none⟩) (show w.heap.size < y0.heap.size from HB.out.2.2.2.2.2.2)).trans p2
            have htx := texts_one y0 x
            obtain ⟨y1, hy1⟩ : ∃ y1, y1 = y0.alloc (.cells #[.string x] 9) := ⟨_, rfl⟩
            rw [← hy1] at E3 HC p3 htx ⊢
            clear hba hg3 hy1
            refine hK.out _ _ E3 (fun _ => ?_)
            clear hK K
            refine wpAnyH_ready (rs := [1]) (by kernel_rfl) (by simp) ?_
            refine AllReadyH.cons rfl (fun K hK => ?_) AllReadyH.nil
            go_simp
            refine hK.out _ _ E3 (fun _ => ?_)
            clear hK K
            refine wpAnyH_ready (rs := [6]) (by kernel_rfl) (by simp) ?_
            refine AllReadyH.cons rfl (fun K hK => ?_) AllReadyH.nil
            refine step_append_texts3 rfl (.tmp 19) (.tmp 23) rfl HC.out.2.2.2.1 _ HB.out.2.2.2.2.2.1.symm rfl _ _ 1 [x] rfl rfl htx (by omega) HC.out.2.2.2.2 ?_
            intro ad cp y2 hA
            obtain ⟨hg4, hS4⟩ := CSt.lefts HC.out.1 HC.out.2.1 HC.out.2.2.1 HC.out.2.2.2.1 HB.out.2.2.2.2.1 hA
            rw [show LF.length + [x].length = n + 1 by rw [← HB.out.2.2.2.2.2.1]; rfl] at hS4
            have hb4 := hA.grown
            have E4 : y2.cell? ⟨b, off, none⟩ = some (.string x) := (hb4.cell_far ⟨b, off, none⟩ (by have h1 := HA.out.2.2.2.2.2.2.2.2.2.2.1; have h2 := HC.out.2.2.2.2; show b < y1.heap.size; omega) (fun e => by have h1 := HA.out.2.2.2.2.2.2.2.2.2.2.1; have h2 := (World.ownsRow.lt HC.out.2.2.2.1 _ e.symm).1; simp only at h2; omega)).trans E3
            try go_simp
            refine hK.out _ _ E4 (fun _ => ?_)
            clear hK K
            obtain ⟨r0, r1, r2, rf⟩ := jrow3 hg4
            have E5 : (y2.setCell ⟨w.heap.size, 2, none⟩ (.slice ad (n + 1) cp)).cell? ⟨b, off, none⟩ = some (.string x) := ((below_setCell' (Below.refl w.heap.size y2) (Nat.le_refl _) 2 (.slice ad (n + 1) cp)).cell (p := ⟨b, off, none⟩) HA.out.2.2.2.2.2.2.2.2.2.2.1).trans E4
            refine wpAnyH_take (i := 7) (v := ?_) rfl (by kernel_rfl) (by kernel_rfl) (by kernel_rfl) (fun _ _ _ h => h) (Or.inl ⟨by kernel_rfl, ?_⟩) E4 ?_
            rotate_left
            · (intro W2 hS; go_simp; try (with_reducible rfl))
            refine wpAnyH_ready (rs := [8]) (by kernel_rfl) (by simp) ?_
            refine AllReadyH.cons rfl (fun K hK => ?_) AllReadyH.nil
            go_simp
            refine hK.out _ _ E5 (fun _ => ?_)
            clear hK K
            refine wpAnyH_done (by kernel_rfl) ?_ _
            go_simp
            have HS1 := Lib.hid hS4
            clear hS4 hg4 hA hb4 r0 r1 r2 rf E2 E3 E4 E5 p2 p3 htx
            generalize World.setCell _ _ _ = y3 at *
            by_cases hc1 : cap = 1
            · go_wp2_with fail
              go_step3
              rw [HW.out.1, HW.out.2]
              refine ⟨rfl, ?_⟩
              exact ⟨a2, l2, (node x d), ws, (T ++ [nodeT x d]), (LF ++ [x]), (some ⟨b, off, none⟩), 0, m2, _, _, _, _, _, _, _, _, _, _, _, _, _, _, _, _, _, _, _, _, _, _, _, _, _, _, _, _, _, _, _, _, _, _, _, _, _, _, _, _, _, _, _, _, _, _, _, _, _, _, _, _, _, _, _, rfl, HA.out.1, HA.out.2.1, by have h1 := HA.out.2.2.1; have h2 := HA.out.2.2.2.1; omega, HA.out.2.2.2.2.1, HA.out.2.2.2.2.2.1, hnd, HA.out.2.2.2.2.2.2.1, by have h1 := HA.out.2.2.2.2.2.2.2.2.2.2.2.1; have h2 := HA.out.2.2.2.2.2.2.2.2.2.2.2.2.1; omega, Nat.zero_le _, (show TextsAt w (some ⟨b, off, none⟩) ws from fun j hj => by exfalso; have h1 := HA.out.2.2.2.2.2.2.2.2.1; have h2 := HA.out.2.2.2.2.2.2.2.2.2.2.2.2.1; omega), HS1.out, HA.out.2.2.2.2.2.2.2.2.1⟩
            · go_wp2_with fail
              go_step3
              rw [HW.out.1, HW.out.2]
              refine ⟨rfl, ?_⟩
              exact ⟨a2, l2, (node x d), ws, (T ++ [nodeT x d]), (LF ++ [x]), (some ⟨b, off + 1, none⟩), c2, m2, _, _, _, _, _, _, _, _, _, _, _, _, _, _, _, _, _, _, _, _, _, _, _, _, _, _, _, _, _, _, _, _, _, _, _, _, _, _, _, _, _, _, _, _, _, _, _, _, _, _, _, _, _, _, _, rfl, HA.out.1, HA.out.2.1, by have h1 := HA.out.2.2.1; have h2 := HA.out.2.2.2.1; omega, HA.out.2.2.2.2.1, HA.out.2.2.2.2.2.1, hnd, HA.out.2.2.2.2.2.2.1, by have h1 := HA.out.2.2.2.2.2.2.2.2.2.2.2.1; have h2 := HA.out.2.2.2.2.2.2.2.2.2.2.2.2.1; omega, by have h1 := HA.out.2.2.2.2.2.2.2.2.2.2.2.1; have h3 := HA.out.2.2.2.2.2.2.2.2.2.2.2.2.2; omega, HA.out.2.2.2.2.2.2.2.1, HS1.out, HA.out.2.2.2.2.2.2.2.2.1⟩
  · clear HH hT hcap hmax hal hl hd hd0 q0 q1 q2 qf
    rintro act W' ⟨a, l, d, ws, T, LF, b0, cap, m, u10, u11, u12, u13, u14, u15, u16, u17, u18, u19, u20, u21, u22, u23, u24, u25, u26, u27, u28, u29, u30, u31, u32, u33, u34, u35, u36, u37, u38, u39, u40, u41, u42, u43, u44, u45, u46, u47, u48, u49, u50, u51, u52, u53, u54, u55, u56, u57, u58, u59, u60, u61, u62, u63, u64, rfl, hG0, hal, hl, hTl, hLl, hd, hws, hcap, hmax, hT, hS, hm⟩
    obtain ⟨W, hWW⟩ : ∃ W, W = W' := ⟨_, rfl⟩
    rw [← hWW] at hS ⊢
    clear hWW
    have hmax' := hmax
    unfold maxLen at hmax'
    obtain ⟨a2, ha2⟩ : ∃ x, x = a / 2 := ⟨_, rfl⟩
    obtain ⟨l2, hl2⟩ : ∃ x, x = l / 2 := ⟨_, rfl⟩
    have HW := Lib.hid (show wrap64 ((a : Int) / 2) = (a2 : Int) ∧ wrap64 ((l : Int) / 2) = (l2 : Int) from ⟨by rw [IntWalk.wrap64_in _ (by omega), ha2]; rfl, by rw [IntWalk.wrap64_in _ (by omega), hl2]; rfl⟩)
    by_cases h0 : l = 0
    · subst h0
      rw [climb_zero] at hG0
      obtain ⟨ta, tc, la, lc, hg, hO, hP, -⟩ := hS.has
      obtain ⟨q0, q1, q2, qf⟩ := jrow3 hg
      have HS := Lib.hid (And.intro hS.below (And.intro (hO.mono (Nat.le_succ _)) (hP.mono (Nat.le_succ _))))
      have HS2 := Lib.hid (And.intro hO hP)
      clear ha2 hl2 hg hO hP hS hT hws hd hTl hLl hcap hmax hmax' hal hl
      by_cases hz : ws = []
      · have hm0 : m = 0 := by rw [hm, hz]; rfl
        have hGs : G = some (d, T, LF) := by rw [hG0, if_pos hz]; simp
        clear hz hm hG0
        subst hm0
        have HGs := Lib.hid hGs
        clear hGs
        go_wp2_with fail
        refine bodyPost_ret (v := .tuple #[.agg #[.string d, .slice ta T.length tc, .slice la LF.length lc], .bool true]) (by simp [results, Tryz.results206, go_sem, q0, q1, q2]) rfl ?_
        refine ⟨below_put3 HS.out.1 (Nat.le_refl _) _ _ _, d, ta, T.length, tc, la, LF.length, lc, by rw [HGs.out]; rfl, fun x hx => ?_⟩
        rw [HGs.out] at hx
        injection hx with hx
        subst hx
        exact ⟨rfl, rfl, rfl, ((HS2.out.1).put3 (by omega) _ _ _).mono (Nat.le_succ _), ((HS2.out.2).put3 (by omega) _ _ _).mono (Nat.le_succ _)⟩
      · have hm0 : ((m : Int) == 0) = false := by have : m ≠ 0 := fun e => hz (List.length_eq_zero_iff.1 (hm.symm.trans e)); simp; omega
        have hGs : G = none := by rw [hG0, if_neg hz]; rfl
        clear hz hm hG0
        have HGs := Lib.hid hGs
        clear hGs
        go_wp2_with fail
        refine bodyPost_ret (v := .tuple #[.agg #[.string d, .slice ta T.length tc, .slice la LF.length lc], .bool false]) (by simp [results, Tryz.results206, go_sem, q0, q1, q2]) rfl ?_
        refine ⟨below_put3 HS.out.1 (Nat.le_refl _) _ _ _, d, ta, T.length, tc, la, LF.length, lc, by rw [HGs.out]; rfl, fun x hx => ?_⟩
        rw [HGs.out] at hx
        cases hx
    rw [climb_step _ _ h0, ← ha2, ← hl2] at hG0
    have k0 : ((l : Int) == 0) = false := by simp; omega
    have ha2l : a2 ≤ l2 := by rw [ha2, hl2]; omega
    have hl2l : l2 < l := by rw [hl2]; omega
    clear ha2 hl2 h0
    by_cases hB : a = l ∧ a % 2 = 0
    · rw [if_pos hB] at hG0
      have k1 : ((a : Int) == (l : Int)) = true := by simp; omega
      have k2 : (((a : Int) % 2) == 0) = true := by simp; omega
      have k3 : ((a : Int) % 2) = 0 := by omega
      have HA := Lib.hid (And.intro hG0 (And.intro ha2l (And.intro hl2l (And.intro hl (And.intro hTl (And.intro hLl (And.intro hd (And.intro hws (And.intro hcap (And.intro hmax (And.intro hT (And.intro hS hm))))))))))))
      clear hG0 ha2l hl2l hl hTl hLl hd hws hcap hmax hmax' hT hS hm hB hal
      go_wp2_with fail
      go_step3
      rw [HW.out.1, HW.out.2]
      refine ⟨rfl, ⟨a2, l2, d, ws, T, LF, b0, cap, m, _, _, _, _, _, _, _, _, _, _, _, _, _, _, _, _, _, _, _, _, _, _, _, _, _, _, _, _, _, _, _, _, _, _, _, _, _, _, _, _, _, _, _, _, _, _, _, _, _, _, _, _, _, _, _, rfl, HA.out.1, HA.out.2.1, by have h1 := HA.out.2.2.1; have h2 := HA.out.2.2.2.1; omega, HA.out.2.2.2.2.1, HA.out.2.2.2.2.2.1, HA.out.2.2.2.2.2.2.1, HA.out.2.2.2.2.2.2.2.1, HA.out.2.2.2.2.2.2.2.2.1, HA.out.2.2.2.2.2.2.2.2.2.1, HA.out.2.2.2.2.2.2.2.2.2.2.1, HA.out.2.2.2.2.2.2.2.2.2.2.2.1, HA.out.2.2.2.2.2.2.2.2.2.2.2.2⟩, ?_⟩
      simp [intOf]; have hz := HA.out.2.2.1; omega
    rw [if_neg hB] at hG0
    have k1 : (((a : Int) == (l : Int)) && ((a : Int) % 2 == 0)) = false := by
      cases h1 : ((a : Int) == (l : Int)) with
      | false => rfl
      | true =>
        cases h2 : ((a : Int) % 2 == 0) with
        | false => rfl
        | true => exact absurd ⟨by have := beq_iff_eq.1 h1; omega, by have := beq_iff_eq.1 h2; omega⟩ hB
    cases ws with
    | nil =>
      obtain ⟨ta, tc, la, lc, hg, hO, hP, -⟩ := hS.has
      obtain ⟨q0, q1, q2, qf⟩ := jrow3 hg
      have HS := Lib.hid (And.intro hS.below hG0)
      have hm0 : m = 0 := hm
      subst hm0
      clear hm hg hO hP hS hT hws hd hTl hLl hcap hmax hmax' hl hG0
      by_cases he : a = l
      · have k4 : ((a : Int) == (l : Int)) = true := by simp; omega
        have k5 : ((a : Int) % 2 == 0) = false := by simp; omega
        have k6 : (a : Int) % 2 = 1 := by omega
        clear he k1 hB hal
        go_wp2_with fail
        refine bodyPost_ret (v := .tuple #[.agg #[.string ⟨#[]⟩, .slice none 0 0, .slice none 0 0], .bool false]) (by simp [results, Tryz.results206, go_sem, q0, q1, q2]) rfl ?_
        have hGn : G = none := HS.out.2
        exact ⟨below_put3 HS.out.1 (Nat.le_refl _) _ _ _, _, _, _, _, _, _, _, by rw [hGn]; rfl, fun x hx => by rw [hGn] at hx; cases hx⟩
      · have k4 : ((a : Int) == (l : Int)) = false := by simp; omega
        clear he k1 hB hal
        go_wp2_with fail
        refine bodyPost_ret (v := .tuple #[.agg #[.string ⟨#[]⟩, .slice none 0 0, .slice none 0 0], .bool false]) (by simp [results, Tryz.results206, go_sem, q0, q1, q2]) rfl ?_
        have hGn : G = none := HS.out.2
        exact ⟨below_put3 HS.out.1 (Nat.le_refl _) _ _ _, _, _, _, _, _, _, _, by rw [hGn]; rfl, fun x hx => by rw [hGn] at hx; cases hx⟩
    | cons x ws =>
      simp only at hG0
      have hx32 : x.size = 32 := hws x (by simp)
      have hws2 : Digs ws := fun y hy => hws y (List.mem_cons_of_mem _ hy)
      obtain ⟨b, off, rfl, hbl, hcx⟩ := hT 0 (by simp)
      rw [Nat.add_zero, show (x :: ws : List ByteArray).getD 0 ByteArray.empty = x from rfl] at hcx
      have hT2 : TextsAt w (some ⟨b, off + 1, none⟩) ws := by have := hT.drop 1; rwa [List.drop_one, List.tail_cons] at this
      have hm1 : m = ws.length + 1 := by rw [hm]; rfl
      obtain ⟨m2, hm2⟩ : ∃ y, y = ws.length := ⟨_, rfl⟩
      rw [← hm2] at hm1
      have k7 : ((m : Int) == 0) = false := by simp; omega
      have k8 : (m : Int) - 1 = (m2 : Int) := by omega
      have k9 : m - 1 = m2 := by omega
      obtain ⟨c2, hc2⟩ : ∃ y, y = cap - 1 := ⟨_, rfl⟩
      have k10 : cap - 1 = c2 := hc2.symm
      have k11 : ¬ (cap = 1) ∨ cap = 1 := by omega
      have k12 : 1 ≤ m := by omega
      have k13 : m ≤ cap := hcap
      have k14 : 0 < m := by omega
      have k15 : 1 ≤ cap := by omega
      by_cases hev : a % 2 = 0
      · have k3 : (a : Int) % 2 = 0 := by omega
        have k5 : ((a : Int) % 2 == 0) = true := by simp; omega
        have k4 : ((a : Int) == (l : Int)) = false := by simp; omega
        rw [if_pos hev] at hG0
        have hG1 : G = (climb a2 l2 (node d x) ws).map (fun z => (z.1, (T ++ [nodeT d x]) ++ z.2.1, LF ++ z.2.2)) := by
          rw [hG0, Option.map_map]
          congr 1
          funext z
          simp
        have hTl1 : T.length ≤ 1000000 := by omega
        have hTl2 : (T ++ [nodeT d x]).length + m2 ≤ 1000000 := by rw [List.length_append, List.length_singleton]; omega
        have hLl2 : LF.length + m2 ≤ 1000000 := by omega
        have jn := fun W (h : CSt w d T LF W) => join_any h HG.out d x hd (by omega) hTl1
        obtain ⟨ta, tc, la, lc, hg, hO, hP, hdd⟩ := hS.has
        obtain ⟨q0, q1, q2, qf⟩ := jrow3 hg
        have hcW : W.cell? ⟨b, off, none⟩ = some (.string x) := (hS.below.cell (p := ⟨b, off, none⟩) hbl).trans hcx
        have hlW := hS.lt
        have HA := Lib.hid (And.intro hG1 (And.intro ha2l (And.intro hl2l (And.intro hl (And.intro hTl2 (And.intro hLl2 (And.intro hws2 (And.intro hT2 (And.intro hm2 (And.intro jn (And.intro hbl (And.intro hc2 (And.intro k13 hmax)))))))))))))
        have hnd : (node d x).size ≤ 100000 := by have := sumE_size (nodeT d x); unfold node; omega
        have E0 : W.drew.cell? ⟨b, off, none⟩ = some (.string x) := hcW
        have S0 : CSt w d T LF W.drew := ⟨hS.below.drew, ta, tc, la, lc, hg, hO, hP, hdd⟩
        have d0 : W.drew.cell? ⟨w.heap.size, 0, none⟩ = some (.string d) := q0
        clear hG0 hG1 ha2l hl2l hl hTl hLl hTl1 hTl2 hLl2 hd hws hws2 hcap hmax hmax' hT hT2 hS hm hm1 hm2 hal hB hev k1 jn hg hO hP hdd hbl hcx hc2 k15 
        clear q1 q2 qf q0 hcW k11
        go_wp2_with fail
        refine wp_region_held (S := fun W2 => W2.cell? ⟨b, off, none⟩ = some (.string x)) (by kernel_rfl) ?_
        change wpAnyH _ _ _ _ _ _ _ _ (World.drew _)
        generalize World.drew _ = v0 at *
        refine wpAnyH_take (i := 0) (v := ?_) rfl (by kernel_rfl) (by kernel_rfl) (by kernel_rfl) (fun _ _ _ h => h) (Or.inl ⟨by kernel_rfl, ?_⟩) E0 ?_
        rotate_left
        · (intro W2 hS; go_simp; try (with_reducible rfl))
        refine wpAnyH_take (i := 2) (v := ?_) rfl (by kernel_rfl) (by kernel_rfl) (by kernel_rfl) (fun _ _ _ h => h) (Or.inl ⟨by kernel_rfl, ?_⟩) E0 ?_
        rotate_left
        · (intro W2 hS; go_simp; try (with_reducible rfl))
        refine wpAnyH_take (i := 3) (v := ?_) rfl (by kernel_rfl) (by kernel_rfl) (by kernel_rfl) (fun _ _ _ h => h) (Or.inl ⟨by kernel_rfl, ?_⟩) E0 ?_
        rotate_left
        · (intro W2 hS; go_simp; try (with_reducible rfl))
        refine wpAnyH_take (i := 4) (v := ?_) rfl (by kernel_rfl) (by kernel_rfl) (by kernel_rfl) (fun _ _ _ h => h) (Or.inl ⟨by kernel_rfl, ?_⟩) E0 ?_
        rotate_left
        · (intro W2 hS; go_simp; try (with_reducible rfl))
        refine wpAnyH_ready (rs := [1]) (by kernel_rfl) (by simp) ?_
        refine AllReadyH.cons rfl (fun K hK => ?_) AllReadyH.nil
        go_simp
        refine hK.out _ _ E0 (fun _ => ?_)
        clear hK K d0
        refine wpAnyH_ready (rs := [5]) (by kernel_rfl) (by simp) ?_
        refine AllReadyH.cons rfl (fun K hK => ?_) AllReadyH.nil
        go_simp
        refine (HA.out.2.2.2.2.2.2.2.2.2.1 _ S0).mono ?_
        rintro e v1 ⟨rfl, S1⟩
        have E1 : v1.cell? ⟨b, off, none⟩ = some (.string x) := (S1.below.cell (p := ⟨b, off, none⟩) HA.out.2.2.2.2.2.2.2.2.2.2.1).trans ((S0.below.cell (p := ⟨b, off, none⟩) HA.out.2.2.2.2.2.2.2.2.2.2.1).symm.trans E0)
        refine hK.out _ _ E1 (fun _ => ?_)
        clear hK K E0 S0
        refine wpAnyH_done (by kernel_rfl) ?_ _
        go_simp
        have HS1 := Lib.hid S1
        clear E1 S1
        by_cases hc1 : cap = 1
        · go_wp2_with fail
          go_step3
          rw [HW.out.1, HW.out.2]
          refine ⟨rfl, ⟨a2, l2, (node d x), ws, (T ++ [nodeT d x]), LF, (some ⟨b, off, none⟩), 0, m2, _, _, _, _, _, _, _, _, _, _, _, _, _, _, _, _, _, _, _, _, _, _, _, _, _, _, _, _, _, _, _, _, _, _, _, _, _, _, _, _, _, _, _, _, _, _, _, _, _, _, _, _, _, _, _, rfl, HA.out.1, HA.out.2.1, by have h1 := HA.out.2.2.1; have h2 := HA.out.2.2.2.1; omega, HA.out.2.2.2.2.1, HA.out.2.2.2.2.2.1, hnd, HA.out.2.2.2.2.2.2.1, by have h1 := HA.out.2.2.2.2.2.2.2.2.2.2.2.1; have h2 := HA.out.2.2.2.2.2.2.2.2.2.2.2.2.1; omega, Nat.zero_le _, (show TextsAt w (some ⟨b, off, none⟩) ws from fun j hj => by exfalso; have h1 := HA.out.2.2.2.2.2.2.2.2.1; have h2 := HA.out.2.2.2.2.2.2.2.2.2.2.2.2.1; omega), HS1.out, HA.out.2.2.2.2.2.2.2.2.1⟩, ?_⟩
          simp [intOf]; have hz := HA.out.2.2.1; omega
        · go_wp2_with fail
          go_step3
          rw [HW.out.1, HW.out.2]
          refine ⟨rfl, ⟨a2, l2, (node d x), ws, (T ++ [nodeT d x]), LF, (some ⟨b, off + 1, none⟩), c2, m2, _, _, _, _, _, _, _, _, _, _, _, _, _, _, _, _, _, _, _, _, _, _, _, _, _, _, _, _, _, _, _, _, _, _, _, _, _, _, _, _, _, _, _, _, _, _, _, _, _, _, _, _, _, _, _, rfl, HA.out.1, HA.out.2.1, by have h1 := HA.out.2.2.1; have h2 := HA.out.2.2.2.1; omega, HA.out.2.2.2.2.1, HA.out.2.2.2.2.2.1, hnd, HA.out.2.2.2.2.2.2.1, by have h1 := HA.out.2.2.2.2.2.2.2.2.2.2.2.1; have h2 := HA.out.2.2.2.2.2.2.2.2.2.2.2.2.1; omega, by have h1 := HA.out.2.2.2.2.2.2.2.2.2.2.2.1; have h3 := HA.out.2.2.2.2.2.2.2.2.2.2.2.2.2; omega, HA.out.2.2.2.2.2.2.2.1, HS1.out, HA.out.2.2.2.2.2.2.2.2.1⟩, ?_⟩
          simp [intOf]; have hz := HA.out.2.2.1; omega
      · by_cases hee : a = l
        · have k3 : (a : Int) % 2 = 1 := by omega
          have k5 : ((a : Int) % 2 == 0) = false := by simp; omega
          rw [if_neg hev] at hG0
          have k4 : ((a : Int) == (l : Int)) = true := by simp; omega
          have hG1 : G = (climb a2 l2 (node x d) ws).map (fun z => (z.1, (T ++ [nodeT x d]) ++ z.2.1, (LF ++ [x]) ++ z.2.2)) := by
            rw [hG0, Option.map_map]
            congr 1
            funext z
            simp
          have hTl1 : T.length ≤ 1000000 := by omega
          have hTl2 : (T ++ [nodeT x d]).length + m2 ≤ 1000000 := by rw [List.length_append, List.length_singleton]; omega
          have hLl2 : (LF ++ [x]).length + m2 ≤ 1000000 := by rw [List.length_append, List.length_singleton]; omega
          have jn := fun W (h : CSt w d T LF W) => join_any h HG.out x d (by omega) hd hTl1
          obtain ⟨ta, tc, la, lc, hg, hO, hP, hdd⟩ := hS.has
          obtain ⟨q0, q1, q2, qf⟩ := jrow3 hg
          have hcW : W.cell? ⟨b, off, none⟩ = some (.string x) := (hS.below.cell (p := ⟨b, off, none⟩) hbl).trans hcx
          have hlW := hS.lt
          have HA := Lib.hid (And.intro hG1 (And.intro ha2l (And.intro hl2l (And.intro hl (And.intro hTl2 (And.intro hLl2 (And.intro hws2 (And.intro hT2 (And.intro hm2 (And.intro jn (And.intro hbl (And.intro hc2 (And.intro k13 hmax)))))))))))))
          have hnd : (node x d).size ≤ 100000 := by have := sumE_size (nodeT x d); unfold node; omega
          have E0 : W.drew.cell? ⟨b, off, none⟩ = some (.string x) := hcW
          have S0 : CSt w d T LF W.drew := ⟨hS.below.drew, ta, tc, la, lc, hg, hO, hP, hdd⟩
          have d0 : W.drew.cell? ⟨w.heap.size, 0, none⟩ = some (.string d) := q0
          clear hG0 hG1 ha2l hl2l hl hTl hLl hTl1 hTl2 hLl2 hd hws hws2 hcap hmax hmax' hT hT2 hS hm hm1 hm2 hal hB hev k1 jn hg hO hP hdd hbl hcx hc2 k15 hee
          clear q1 q2 qf q0 hcW k11
          go_wp2_with fail
          refine wp_region_held (S := fun W2 => W2.cell? ⟨b, off, none⟩ = some (.string x)) (by kernel_rfl) ?_
          change wpAnyH _ _ _ _ _ _ _ _ (World.drew _)
          generalize World.drew _ = v0 at *
          refine wpAnyH_take (i := 0) (v := ?_) rfl (by kernel_rfl) (by kernel_rfl) (by kernel_rfl) (fun _ _ _ h => h) (Or.inl ⟨by kernel_rfl, ?_⟩) E0 ?_
          rotate_left
          · (intro W2 hS; go_simp; try (with_reducible rfl))
          refine wpAnyH_take (i := 1) (v := ?_) rfl (by kernel_rfl) (by kernel_rfl) (by kernel_rfl) (fun _ _ _ h => h) (Or.inl ⟨by kernel_rfl, ?_⟩) E0 ?_
          rotate_left
          · (intro W2 hS; go_simp; try (with_reducible rfl))
          refine wpAnyH_take (i := 2) (v := ?_) rfl (by kernel_rfl) (by kernel_rfl) (by kernel_rfl) (fun _ _ _ h => h) (Or.inl ⟨by kernel_rfl, ?_⟩) E0 ?_
          rotate_left
          · (intro W2 hS; go_simp; try (with_reducible rfl))
          refine wpAnyH_take (i := 3) (v := ?_) rfl (by kernel_rfl) (by kernel_rfl) (by kernel_rfl) (fun _ _ _ h => h) (Or.inl ⟨by kernel_rfl, ?_⟩) E0 ?_
          rotate_left
          · (intro W2 hS; go_simp; try (with_reducible rfl))
          refine wpAnyH_ready (rs := [4]) (by kernel_rfl) (by simp) ?_
          refine AllReadyH.cons rfl (fun K hK => ?_) AllReadyH.nil
          go_simp
          refine hK.out _ _ E0 (fun _ => ?_)
          clear hK K d0
          refine wpAnyH_ready (rs := [5]) (by kernel_rfl) (by simp) ?_
          refine AllReadyH.cons rfl (fun K hK => ?_) AllReadyH.nil
          go_simp
          refine (HA.out.2.2.2.2.2.2.2.2.2.1 _ S0).mono ?_
          rintro e v1 ⟨rfl, S1⟩
          have E1 : v1.cell? ⟨b, off, none⟩ = some (.string x) := (S1.below.cell (p := ⟨b, off, none⟩) HA.out.2.2.2.2.2.2.2.2.2.2.1).trans ((S0.below.cell (p := ⟨b, off, none⟩) HA.out.2.2.2.2.2.2.2.2.2.2.1).symm.trans E0)
          refine hK.out _ _ E1 (fun _ => ?_)
          clear hK K E0 S0
          refine wpAnyH_done (by kernel_rfl) ?_ _
          go_simp
          obtain ⟨ta, tc, la, lc, hg, hO, hP, hdd⟩ := S1.has
          obtain ⟨q0, q1, q2, qf⟩ := jrow3 hg
          have E2 : v1.drew.cell? ⟨b, off, none⟩ = some (.string x) := E1
          obtain ⟨n, hn⟩ : ∃ n, n = LF.length := ⟨_, rfl⟩
          have hn1 : n ≤ 1000000 := by have h := HA.out.2.2.2.2.2.1; rw [List.length_append, List.length_singleton] at h; omega
          have p2 : v1.drew.cell? ⟨w.heap.size, 2, none⟩ = some (.slice la n lc) := by rw [hn]; exact q2
          have HB := Lib.hid (And.intro S1.below.drew (And.intro (show v1.drew.heap[w.heap.size]? = _ from hg) (And.intro (show OwnT (w.heap.size + 1) v1.drew ta tc _ from hO) (And.intro (show OwnT (w.heap.size + 1) v1.drew la lc LF from hP) (And.intro hdd (And.intro hn (show w.heap.size + 1 ≤ v1.drew.heap.size from S1.lt)))))))
          clear hg hO hP hdd q0 q1 q2 qf S1 E1 hn
          go_wp2_with fail
          refine wp_region_held (S := fun W2 => W2.cell? ⟨b, off, none⟩ = some (.string x)) (by kernel_rfl) ?_
          change wpAnyH _ _ _ _ _ _ _ _ (World.drew _)
          generalize World.drew _ = y0 at *
          refine wpAnyH_take (i := 0) (v := ?_) rfl (by kernel_rfl) (by kernel_rfl) (by kernel_rfl) (fun _ _ _ h => h) (Or.inl ⟨by kernel_rfl, ?_⟩) E2 ?_
          rotate_left
          · (intro W2 hS; go_simp; try (with_reducible rfl))
          refine wpAnyH_take (i := 2) (v := ?_) rfl (by kernel_rfl) (by kernel_rfl) (by kernel_rfl) (fun _ _ _ h => h) (Or.inl ⟨by kernel_rfl, ?_⟩) E2 ?_
          rotate_left
          · (intro W2 hS; go_simp; try (with_reducible rfl))
          refine wpAnyH_take (i := 3) (v := ?_) rfl (by kernel_rfl) (by kernel_rfl) (by kernel_rfl) (fun _ _ _ h => h) (Or.inl ⟨by kernel_rfl, ?_⟩) E2 ?_
          rotate_left
          · (intro W2 hS; go_simp; try (with_reducible rfl))
          refine wpAnyH_take (i := 4) (v := ?_) rfl (by kernel_rfl) (by kernel_rfl) (by kernel_rfl) (fun _ _ _ h => h) (Or.inl ⟨by kernel_rfl, ?_⟩) E2 ?_
          rotate_left
          · (intro W2 hS; go_simp; try (with_reducible rfl))
          refine wpAnyH_ready (rs := [1, 5]) (by kernel_rfl) (by simp) ?_
          refine AllReadyH.cons rfl (fun K hK => ?_) (AllReadyH.cons rfl (fun K hK => ?_) AllReadyH.nil)
          · go_simp
            refine hK.out _ _ E2 (fun _ => ?_)
            clear hK K
            refine wpAnyH_ready (rs := [5]) (by kernel_rfl) (by simp) ?_
            refine AllReadyH.cons rfl (fun K hK => ?_) AllReadyH.nil
            go_simp
            have hba : Below y0.heap.size y0 (y0.alloc (.cells #[.string x] 9)) := (Below.refl _ _).alloc (Nat.le_refl _) _
            have E3 : (y0.alloc (.cells #[.string x] 9)).cell? ⟨b, off, none⟩ = some (.string x) := (hba.cell (p := ⟨b, off, none⟩) (by have h1 := HA.out.2.2.2.2.2.2.2.2.2.2.1; have h2 := HB.out.2.2.2.2.2.2; show b < y0.heap.size; omega)).trans E2
            have hg3 := (hba.block _ (Array.getElem?_eq_some_iff.1 HB.out.2.1).1).trans HB.out.2.1
            have HC := Lib.hid (And.intro (HB.out.1.trans (hba.mono HB.out.1.size)) (And.intro hg3 (And.intro (OwnT.call HB.out.2.2.1 hba) (And.intro (OwnT.call HB.out.2.2.2.1 hba) (show w.heap.size + 1 ≤ (y0.alloc (.cells #[.string x] 9)).heap.size from by rw [World.size_alloc]; have h := HB.out.2.2.2.2.2.2; omega)))))
            have p3 : (y0.alloc (.cells #[.string x] 9)).cell? ⟨w.heap.size, 2, none⟩ = some (.slice la n lc) := (hba.cell (p := ⟨w.heap.size, 2, none⟩) (show w.heap.size < y0.heap.size from HB.out.2.2.2.2.2.2)).trans p2
            have htx := texts_one y0 x
            obtain ⟨y1, hy1⟩ : ∃ y1, y1 = y0.alloc (.cells #[.string x] 9) := ⟨_, rfl⟩
            rw [← hy1] at E3 HC p3 htx ⊢
            clear hba hg3 hy1
            refine hK.out _ _ E3 (fun _ => ?_)
            clear hK K
            refine wpAnyH_ready (rs := [6]) (by kernel_rfl) (by simp) ?_
            refine AllReadyH.cons rfl (fun K hK => ?_) AllReadyH.nil
            refine step_append_texts3 rfl (.tmp 19) (.tmp 23) rfl HC.out.2.2.2.1 _ HB.out.2.2.2.2.2.1.symm rfl _ _ 1 [x] rfl rfl htx (by omega) HC.out.2.2.2.2 ?_
            intro ad cp y2 hA
            obtain ⟨hg4, hS4⟩ := CSt.lefts HC.out.1 HC.out.2.1 HC.out.2.2.1 HC.out.2.2.2.1 HB.out.2.2.2.2.1 hA
            rw [show LF.length + [x].length = n + 1 by rw [← HB.out.2.2.2.2.2.1]; rfl] at hS4
            have hb4 := hA.grown
            have E4 : y2.cell? ⟨b, off, none⟩ = some (.string x) := (hb4.cell_far ⟨b, off, none⟩ (by have h1 := HA.out.2.2.2.2.2.2.2.2.2.2.1; have h2 := HC.out.2.2.2.2; show b < y1.heap.size; omega) (fun e => by have h1 := HA.out.2.2.2.2.2.2.2.2.2.2.1; have h2 := (World.ownsRow.lt HC.out.2.2.2.1 _ e.symm).1; simp only at h2; omega)).trans E3
            try go_simp
            refine hK.out _ _ E4 (fun _ => ?_)
            clear hK K
            obtain ⟨r0, r1, r2, rf⟩ := jrow3 hg4
            have E5 : (y2.setCell ⟨w.heap.size, 2, none⟩ (.slice ad (n + 1) cp)).cell? ⟨b, off, none⟩ = some (.string x) := ((below_setCell' (Below.refl w.heap.size y2) (Nat.le_refl _) 2 (.slice ad (n + 1) cp)).cell (p := ⟨b, off, none⟩) HA.out.2.2.2.2.2.2.2.2.2.2.1).trans E4
            refine wpAnyH_take (i := 7) (v := ?_) rfl (by kernel_rfl) (by kernel_rfl) (by kernel_rfl) (fun _ _ _ h => h) (Or.inl ⟨by kernel_rfl, ?_⟩) E4 ?_
            rotate_left
            · (intro W2 hS; go_simp; try (with_reducible rfl))
            refine wpAnyH_ready (rs := [8]) (by kernel_rfl) (by simp) ?_
            refine AllReadyH.cons rfl (fun K hK => ?_) AllReadyH.nil
            go_simp
            refine hK.out _ _ E5 (fun _ => ?_)
            clear hK K
            refine wpAnyH_done (by kernel_rfl) ?_ _
            go_simp
            have HS1 := Lib.hid hS4
            clear hS4 hg4 hA hb4 r0 r1 r2 rf E2 E3 E4 E5 p2 p3 htx
            generalize World.setCell _ _ _ = y3 at *
            by_cases hc1 : cap = 1
            · go_wp2_with fail
              go_step3
              rw [HW.out.1, HW.out.2]
              refine ⟨rfl, ⟨a2, l2, (node x d), ws, (T ++ [nodeT x d]), (LF ++ [x]), (some ⟨b, off, none⟩), 0, m2, _, _, _, _, _, _, _, _, _, _, _, _, _, _, _, _, _, _, _, _, _, _, _, _, _, _, _, _, _, _, _, _, _, _, _, _, _, _, _, _, _, _, _, _, _, _, _, _, _, _, _, _, _, _, _, rfl, HA.out.1, HA.out.2.1, by have h1 := HA.out.2.2.1; have h2 := HA.out.2.2.2.1; omega, HA.out.2.2.2.2.1, HA.out.2.2.2.2.2.1, hnd, HA.out.2.2.2.2.2.2.1, by have h1 := HA.out.2.2.2.2.2.2.2.2.2.2.2.1; have h2 := HA.out.2.2.2.2.2.2.2.2.2.2.2.2.1; omega, Nat.zero_le _, (show TextsAt w (some ⟨b, off, none⟩) ws from fun j hj => by exfalso; have h1 := HA.out.2.2.2.2.2.2.2.2.1; have h2 := HA.out.2.2.2.2.2.2.2.2.2.2.2.2.1; omega), HS1.out, HA.out.2.2.2.2.2.2.2.2.1⟩, ?_⟩
              simp [intOf]; have hz := HA.out.2.2.1; omega
            · go_wp2_with fail
              go_step3
              rw [HW.out.1, HW.out.2]
              refine ⟨rfl, ⟨a2, l2, (node x d), ws, (T ++ [nodeT x d]), (LF ++ [x]), (some ⟨b, off + 1, none⟩), c2, m2, _, _, _, _, _, _, _, _, _, _, _, _, _, _, _, _, _, _, _, _, _, _, _, _, _, _, _, _, _, _, _, _, _, _, _, _, _, _, _, _, _, _, _, _, _, _, _, _, _, _, _, _, _, _, _, rfl, HA.out.1, HA.out.2.1, by have h1 := HA.out.2.2.1; have h2 := HA.out.2.2.2.1; omega, HA.out.2.2.2.2.1, HA.out.2.2.2.2.2.1, hnd, HA.out.2.2.2.2.2.2.1, by have h1 := HA.out.2.2.2.2.2.2.2.2.2.2.2.1; have h2 := HA.out.2.2.2.2.2.2.2.2.2.2.2.2.1; omega, by have h1 := HA.out.2.2.2.2.2.2.2.2.2.2.2.1; have h3 := HA.out.2.2.2.2.2.2.2.2.2.2.2.2.2; omega, HA.out.2.2.2.2.2.2.2.1, HS1.out, HA.out.2.2.2.2.2.2.2.2.1⟩, ?_⟩
              simp [intOf]; have hz := HA.out.2.2.1; omega
          · go_simp
            have hba : Below y0.heap.size y0 (y0.alloc (.cells #[.string x] 9)) := (Below.refl _ _).alloc (Nat.le_refl _) _
            have E3 : (y0.alloc (.cells #[.string x] 9)).cell? ⟨b, off, none⟩ = some (.string x) := (hba.cell (p := ⟨b, off, none⟩) (by have h1 := HA.out.2.2.2.2.2.2.2.2.2.2.1; have h2 := HB.out.2.2.2.2.2.2; show b < y0.heap.size; omega)).trans E2
            have hg3 := (hba.block _ (Array.getElem?_eq_some_iff.1 HB.out.2.1).1).trans HB.out.2.1
            have HC := Lib.hid (And.intro (HB.out.1.trans (hba.mono HB.out.1.size)) (And.intro hg3 (And.intro (OwnT.call HB.out.2.2.1 hba) (And.intro (OwnT.call HB.out.2.2.2.1 hba) (show w.heap.size + 1 ≤ (y0.alloc (.cells #[.string x] 9)).heap.size from by rw [World.size_alloc]; have h := HB.out.2.2.2.2.2.2; omega)))))
            have p3 : (y0.alloc (.cells #[.string x] 9)).cell? ⟨w.heap.size, 2, none⟩ = some (.slice la n lc) := (hba.cell (p := ⟨w.heap.size, 2, none⟩) (show w.heap.size < y0.heap.size from HB.out.2.2.2.2.2.2)).trans p2
            have htx := texts_one y0 x
            obtain ⟨y1, hy1⟩ : ∃ y1, y1 = y0.alloc (.cells #[.string x] 9) := ⟨_, rfl⟩
            rw [← hy1] at E3 HC p3 htx ⊢
            clear hba hg3 hy1
            refine hK.out _ _ E3 (fun _ => ?_)
            clear hK K
            refine wpAnyH_ready (rs := [1]) (by kernel_rfl) (by simp) ?_
            refine AllReadyH.cons rfl (fun K hK => ?_) AllReadyH.nil
            go_simp
            refine hK.out _ _ E3 (fun _ => ?_)
            clear hK K
            refine wpAnyH_ready (rs := [6]) (by kernel_rfl) (by simp) ?_
            refine AllReadyH.cons rfl (fun K hK => ?_) AllReadyH.nil
            refine step_append_texts3 rfl (.tmp 19) (.tmp 23) rfl HC.out.2.2.2.1 _ HB.out.2.2.2.2.2.1.symm rfl _ _ 1 [x] rfl rfl htx (by omega) HC.out.2.2.2.2 ?_
            intro ad cp y2 hA
            obtain ⟨hg4, hS4⟩ := CSt.lefts HC.out.1 HC.out.2.1 HC.out.2.2.1 HC.out.2.2.2.1 HB.out.2.2.2.2.1 hA
            rw [show LF.length + [x].length = n + 1 by rw [← HB.out.2.2.2.2.2.1]; rfl] at hS4
            have hb4 := hA.grown
            have E4 : y2.cell? ⟨b, off, none⟩ = some (.string x) := (hb4.cell_far ⟨b, off, none⟩ (by have h1 := HA.out.2.2.2.2.2.2.2.2.2.2.1; have h2 := HC.out.2.2.2.2; show b < y1.heap.size; omega) (fun e => by have h1 := HA.out.2.2.2.2.2.2.2.2.2.2.1; have h2 := (World.ownsRow.lt HC.out.2.2.2.1 _ e.symm).1; simp only at h2; omega)).trans E3
            try go_simp
            refine hK.out _ _ E4 (fun _ => ?_)
            clear hK K
            obtain ⟨r0, r1, r2, rf⟩ := jrow3 hg4
            have E5 : (y2.setCell ⟨w.heap.size, 2, none⟩ (.slice ad (n + 1) cp)).cell? ⟨b, off, none⟩ = some (.string x) := ((below_setCell' (Below.refl w.heap.size y2) (Nat.le_refl _) 2 (.slice ad (n + 1) cp)).cell (p := ⟨b, off, none⟩) HA.out.2.2.2.2.2.2.2.2.2.2.1).trans E4
            refine wpAnyH_take (i := 7) (v := ?_) rfl (by kernel_rfl) (by kernel_rfl) (by kernel_rfl) (fun _ _ _ h => h) (Or.inl ⟨by kernel_rfl, ?_⟩) E4 ?_
            rotate_left
            · (intro W2 hS; go_simp; try (with_reducible rfl))
            refine wpAnyH_ready (rs := [8]) (by kernel_rfl) (by simp) ?_
            refine AllReadyH.cons rfl (fun K hK => ?_) AllReadyH.nil
            go_simp
            refine hK.out _ _ E5 (fun _ => ?_)
            clear hK K
            refine wpAnyH_done (by kernel_rfl) ?_ _
            go_simp
            have HS1 := Lib.hid hS4
            clear hS4 hg4 hA hb4 r0 r1 r2 rf E2 E3 E4 E5 p2 p3 htx
            generalize World.setCell _ _ _ = y3 at *
            by_cases hc1 : cap = 1
            · go_wp2_with fail
              go_step3
              rw [HW.out.1, HW.out.2]
              refine ⟨rfl, ⟨a2, l2, (node x d), ws, (T ++ [nodeT x d]), (LF ++ [x]), (some ⟨b, off, none⟩), 0, m2, _, _, _, _, _, _, _, _, _, _, _, _, _, _, _, _, _, _, _, _, _, _, _, _, _, _, _, _, _, _, _, _, _, _, _, _, _, _, _, _, _, _, _, _, _, _, _, _, _, _, _, _, _, _, _, rfl, HA.out.1, HA.out.2.1, by have h1 := HA.out.2.2.1; have h2 := HA.out.2.2.2.1; omega, HA.out.2.2.2.2.1, HA.out.2.2.2.2.2.1, hnd, HA.out.2.2.2.2.2.2.1, by have h1 := HA.out.2.2.2.2.2.2.2.2.2.2.2.1; have h2 := HA.out.2.2.2.2.2.2.2.2.2.2.2.2.1; omega, Nat.zero_le _, (show TextsAt w (some ⟨b, off, none⟩) ws from fun j hj => by exfalso; have h1 := HA.out.2.2.2.2.2.2.2.2.1; have h2 := HA.out.2.2.2.2.2.2.2.2.2.2.2.2.1; omega), HS1.out, HA.out.2.2.2.2.2.2.2.2.1⟩, ?_⟩
              simp [intOf]; have hz := HA.out.2.2.1; omega
            · go_wp2_with fail
              go_step3
              rw [HW.out.1, HW.out.2]
              refine ⟨rfl, ⟨a2, l2, (node x d), ws, (T ++ [nodeT x d]), (LF ++ [x]), (some ⟨b, off + 1, none⟩), c2, m2, _, _, _, _, _, _, _, _, _, _, _, _, _, _, _, _, _, _, _, _, _, _, _, _, _, _, _, _, _, _, _, _, _, _, _, _, _, _, _, _, _, _, _, _, _, _, _, _, _, _, _, _, _, _, _, rfl, HA.out.1, HA.out.2.1, by have h1 := HA.out.2.2.1; have h2 := HA.out.2.2.2.1; omega, HA.out.2.2.2.2.1, HA.out.2.2.2.2.2.1, hnd, HA.out.2.2.2.2.2.2.1, by have h1 := HA.out.2.2.2.2.2.2.2.2.2.2.2.1; have h2 := HA.out.2.2.2.2.2.2.2.2.2.2.2.2.1; omega, by have h1 := HA.out.2.2.2.2.2.2.2.2.2.2.2.1; have h3 := HA.out.2.2.2.2.2.2.2.2.2.2.2.2.2; omega, HA.out.2.2.2.2.2.2.2.1, HS1.out, HA.out.2.2.2.2.2.2.2.2.1⟩, ?_⟩
              simp [intOf]; have hz := HA.out.2.2.1; omega
        · have k3 : (a : Int) % 2 = 1 := by omega
          have k5 : ((a : Int) % 2 == 0) = false := by simp; omega
          rw [if_neg hev] at hG0
          have k4 : ((a : Int) == (l : Int)) = false := by simp; omega
          have hG1 : G = (climb a2 l2 (node x d) ws).map (fun z => (z.1, (T ++ [nodeT x d]) ++ z.2.1, (LF ++ [x]) ++ z.2.2)) := by
            rw [hG0, Option.map_map]
            congr 1
            funext z
            simp
          have hTl1 : T.length ≤ 1000000 := by omega
          have hTl2 : (T ++ [nodeT x d]).length + m2 ≤ 1000000 := by rw [List.length_append, List.length_singleton]; omega
          have hLl2 : (LF ++ [x]).length + m2 ≤ 1000000 := by rw [List.length_append, List.length_singleton]; omega
          have jn := fun W (h : CSt w d T LF W) => join_any h HG.out x d (by omega) hd hTl1
          obtain ⟨ta, tc, la, lc, hg, hO, hP, hdd⟩ := hS.has
          obtain ⟨q0, q1, q2, qf⟩ := jrow3 hg
          have hcW : W.cell? ⟨b, off, none⟩ = some (.string x) := (hS.below.cell (p := ⟨b, off, none⟩) hbl).trans hcx
          have hlW := hS.lt
          have HA := Lib.hid (And.intro hG1 (And.intro ha2l (And.intro hl2l (And.intro hl (And.intro hTl2 (And.intro hLl2 (And.intro hws2 (And.intro hT2 (And.intro hm2 (And.intro jn (And.intro hbl (And.intro hc2 (And.intro k13 hmax)))))))))))))
          have hnd : (node x d).size ≤ 100000 := by have := sumE_size (nodeT x d); unfold node; omega
          have E0 : W.drew.cell? ⟨b, off, none⟩ = some (.string x) := hcW
          have S0 : CSt w d T LF W.drew := ⟨hS.below.drew, ta, tc, la, lc, hg, hO, hP, hdd⟩
          have d0 : W.drew.cell? ⟨w.heap.size, 0, none⟩ = some (.string d) := q0
          clear hG0 hG1 ha2l hl2l hl hTl hLl hTl1 hTl2 hLl2 hd hws hws2 hcap hmax hmax' hT hT2 hS hm hm1 hm2 hal hB hev k1 jn hg hO hP hdd hbl hcx hc2 k15 hee
          clear q1 q2 qf q0 hcW k11
          go_wp2_with fail
          refine wp_region_held (S := fun W2 => W2.cell? ⟨b, off, none⟩ = some (.string x)) (by kernel_rfl) ?_
          change wpAnyH _ _ _ _ _ _ _ _ (World.drew _)
          generalize World.drew _ = v0 at *
          refine wpAnyH_take (i := 0) (v := ?_) rfl (by kernel_rfl) (by kernel_rfl) (by kernel_rfl) (fun _ _ _ h => h) (Or.inl ⟨by kernel_rfl, ?_⟩) E0 ?_
          rotate_left
          · (intro W2 hS; go_simp; try (with_reducible rfl))
          refine wpAnyH_take (i := 1) (v := ?_) rfl (by kernel_rfl) (by kernel_rfl) (by kernel_rfl) (fun _ _ _ h => h) (Or.inl ⟨by kernel_rfl, ?_⟩) E0 ?_
          rotate_left
          · (intro W2 hS; go_simp; try (with_reducible rfl))
          refine wpAnyH_take (i := 2) (v := ?_) rfl (by kernel_rfl) (by kernel_rfl) (by kernel_rfl) (fun _ _ _ h => h) (Or.inl ⟨by kernel_rfl, ?_⟩) E0 ?_
          rotate_left
          · (intro W2 hS; go_simp; try (with_reducible rfl))
          refine wpAnyH_take (i := 3) (v := ?_) rfl (by kernel_rfl) (by kernel_rfl) (by kernel_rfl) (fun _ _ _ h => h) (Or.inl ⟨by kernel_rfl, ?_⟩) E0 ?_
          rotate_left
          · (intro W2 hS; go_simp; try (with_reducible rfl))
          refine wpAnyH_ready (rs := [4]) (by kernel_rfl) (by simp) ?_
          refine AllReadyH.cons rfl (fun K hK => ?_) AllReadyH.nil
          go_simp
          refine hK.out _ _ E0 (fun _ => ?_)
          clear hK K d0
          refine wpAnyH_ready (rs := [5]) (by kernel_rfl) (by simp) ?_
          refine AllReadyH.cons rfl (fun K hK => ?_) AllReadyH.nil
          go_simp
          refine (HA.out.2.2.2.2.2.2.2.2.2.1 _ S0).mono ?_
          rintro e v1 ⟨rfl, S1⟩
          have E1 : v1.cell? ⟨b, off, none⟩ = some (.string x) := (S1.below.cell (p := ⟨b, off, none⟩) HA.out.2.2.2.2.2.2.2.2.2.2.1).trans ((S0.below.cell (p := ⟨b, off, none⟩) HA.out.2.2.2.2.2.2.2.2.2.2.1).symm.trans E0)
          refine hK.out _ _ E1 (fun _ => ?_)
          clear hK K E0 S0
          refine wpAnyH_done (by kernel_rfl) ?_ _
          go_simp
          obtain ⟨ta, tc, la, lc, hg, hO, hP, hdd⟩ := S1.has
          obtain ⟨q0, q1, q2, qf⟩ := jrow3 hg
          have E2 : v1.drew.cell? ⟨b, off, none⟩ = some (.string x) := E1
          obtain ⟨n, hn⟩ : ∃ n, n = LF.length := ⟨_, rfl⟩
          have hn1 : n ≤ 1000000 := by have h := HA.out.2.2.2.2.2.1; rw [List.length_append, List.length_singleton] at h; omega
          have p2 : v1.drew.cell? ⟨w.heap.size, 2, none⟩ = some (.slice la n lc) := by rw [hn]; exact q2
          have HB := Lib.hid (And.intro S1.below.drew (And.intro (show v1.drew.heap[w.heap.size]? = _ from hg) (And.intro (show OwnT (w.heap.size + 1) v1.drew ta tc _ from hO) (And.intro (show OwnT (w.heap.size + 1) v1.drew la lc LF from hP) (And.intro hdd (And.intro hn (show w.heap.size + 1 ≤ v1.drew.heap.size from S1.lt)))))))
          clear hg hO hP hdd q0 q1 q2 qf S1 E1 hn
          go_wp2_with fail
          refine wp_region_held (S := fun W2 => W2.cell? ⟨b, off, none⟩ = some (.string x)) (by kernel_rfl) ?_
          change wpAnyH _ _ _ _ _ _ _ _ (World.drew _)
          generalize World.drew _ = y0 at *
          refine wpAnyH_take (i := 0) (v := ?_) rfl (by kernel_rfl) (by kernel_rfl) (by kernel_rfl) (fun _ _ _ h => h) (Or.inl ⟨by kernel_rfl, ?_⟩) E2 ?_
          rotate_left
          · (intro W2 hS; go_simp; try (with_reducible rfl))
          refine wpAnyH_take (i := 2) (v := ?_) rfl (by kernel_rfl) (by kernel_rfl) (by kernel_rfl) (fun _ _ _ h => h) (Or.inl ⟨by kernel_rfl, ?_⟩) E2 ?_
          rotate_left
          · (intro W2 hS; go_simp; try (with_reducible rfl))
          refine wpAnyH_take (i := 3) (v := ?_) rfl (by kernel_rfl) (by kernel_rfl) (by kernel_rfl) (fun _ _ _ h => h) (Or.inl ⟨by kernel_rfl, ?_⟩) E2 ?_
          rotate_left
          · (intro W2 hS; go_simp; try (with_reducible rfl))
          refine wpAnyH_take (i := 4) (v := ?_) rfl (by kernel_rfl) (by kernel_rfl) (by kernel_rfl) (fun _ _ _ h => h) (Or.inl ⟨by kernel_rfl, ?_⟩) E2 ?_
          rotate_left
          · (intro W2 hS; go_simp; try (with_reducible rfl))
          refine wpAnyH_ready (rs := [1, 5]) (by kernel_rfl) (by simp) ?_
          refine AllReadyH.cons rfl (fun K hK => ?_) (AllReadyH.cons rfl (fun K hK => ?_) AllReadyH.nil)
          · go_simp
            refine hK.out _ _ E2 (fun _ => ?_)
            clear hK K
            refine wpAnyH_ready (rs := [5]) (by kernel_rfl) (by simp) ?_
            refine AllReadyH.cons rfl (fun K hK => ?_) AllReadyH.nil
            go_simp
            have hba : Below y0.heap.size y0 (y0.alloc (.cells #[.string x] 9)) := (Below.refl _ _).alloc (Nat.le_refl _) _
            have E3 : (y0.alloc (.cells #[.string x] 9)).cell? ⟨b, off, none⟩ = some (.string x) := (hba.cell (p := ⟨b, off, none⟩) (by have h1 := HA.out.2.2.2.2.2.2.2.2.2.2.1; have h2 := HB.out.2.2.2.2.2.2; show b < y0.heap.size; omega)).trans E2
            have hg3 := (hba.block _ (Array.getElem?_eq_some_iff.1 HB.out.2.1).1).trans HB.out.2.1
            have HC := Lib.hid (And.intro (HB.out.1.trans (hba.mono HB.out.1.size)) (And.intro hg3 (And.intro (OwnT.call HB.out.2.2.1 hba) (And.intro (OwnT.call HB.out.2.2.2.1 hba) (show w.heap.size + 1 ≤ (y0.alloc (.cells #[.string x] 9)).heap.size from by rw [World.size_alloc]; have h := HB.out.2.2.2.2.2.2; omega)))))
            have p3 : (y0.alloc (.cells #[.string x] 9)).cell? ⟨w.heap.size, 2, none⟩ = some (.slice la n lc) := (hba.cell (p := ⟨w.heap.size, 2, none⟩) (show w.heap.size < y0.heap.size from HB.out.2.2.2.2.2.2)).trans p2
            have htx := texts_one y0 x
            obtain ⟨y1, hy1⟩ : ∃ y1, y1 = y0.alloc (.cells #[.string x] 9) := ⟨_, rfl⟩
            rw [← hy1] at E3 HC p3 htx ⊢
            clear hba hg3 hy1
            refine hK.out _ _ E3 (fun _ => ?_)
            clear hK K
            refine wpAnyH_ready (rs := [6]) (by kernel_rfl) (by simp) ?_
            refine AllReadyH.cons rfl (fun K hK => ?_) AllReadyH.nil
            refine step_append_texts3 rfl (.tmp 19) (.tmp 23) rfl HC.out.2.2.2.1 _ HB.out.2.2.2.2.2.1.symm rfl _ _ 1 [x] rfl rfl htx (by omega) HC.out.2.2.2.2 ?_
            intro ad cp y2 hA
            obtain ⟨hg4, hS4⟩ := CSt.lefts HC.out.1 HC.out.2.1 HC.out.2.2.1 HC.out.2.2.2.1 HB.out.2.2.2.2.1 hA
            rw [show LF.length + [x].length = n + 1 by rw [← HB.out.2.2.2.2.2.1]; rfl] at hS4
            have hb4 := hA.grown
            have E4 : y2.cell? ⟨b, off, none⟩ = some (.string x) := (hb4.cell_far ⟨b, off, none⟩ (by have h1 := HA.out.2.2.2.2.2.2.2.2.2.2.1; have h2 := HC.out.2.2.2.2; show b < y1.heap.size; omega) (fun e => by have h1 := HA.out.2.2.2.2.2.2.2.2.2.2.1; have h2 := (World.ownsRow.lt HC.out.2.2.2.1 _ e.symm).1; simp only at h2; omega)).trans E3
            try go_simp
            refine hK.out _ _ E4 (fun _ => ?_)
            clear hK K
            obtain ⟨r0, r1, r2, rf⟩ := jrow3 hg4
            have E5 : (y2.setCell ⟨w.heap.size, 2, none⟩ (.slice ad (n + 1) cp)).cell? ⟨b, off, none⟩ = some (.string x) := ((below_setCell' (Below.refl w.heap.size y2) (Nat.le_refl _) 2 (.slice ad (n + 1) cp)).cell (p := ⟨b, off, none⟩) HA.out.2.2.2.2.2.2.2.2.2.2.1).trans E4
            refine wpAnyH_take (i := 7) (v := ?_) rfl (by kernel_rfl) (by kernel_rfl) (by kernel_rfl) (fun _ _ _ h => h) (Or.inl ⟨by kernel_rfl, ?_⟩) E4 ?_
            rotate_left
            · (intro W2 hS; go_simp; try (with_reducible rfl))
            refine wpAnyH_ready (rs := [8]) (by kernel_rfl) (by simp) ?_
            refine AllReadyH.cons rfl (fun K hK => ?_) AllReadyH.nil
            go_simp
            refine hK.out _ _ E5 (fun _ => ?_)
            clear hK K
            refine wpAnyH_done (by kernel_rfl) ?_ _
            go_simp
            have HS1 := Lib.hid hS4
            clear hS4 hg4 hA hb4 r0 r1 r2 rf E2 E3 E4 E5 p2 p3 htx
            generalize World.setCell _ _ _ = y3 at *
            by_cases hc1 : cap = 1
            · go_wp2_with fail
              go_step3
              rw [HW.out.1, HW.out.2]
              refine ⟨rfl, ⟨a2, l2, (node x d), ws, (T ++ [nodeT x d]), (LF ++ [x]), (some ⟨b, off, none⟩), 0, m2, _, _, _, _, _, _, _, _, _, _, _, _, _, _, _, _, _, _, _, _, _, _, _, _, _, _, _, _, _, _, _, _, _, _, _, _, _, _, _, _, _, _, _, _, _, _, _, _, _, _, _, _, _, _, _, rfl, HA.out.1, HA.out.2.1, by have h1 := HA.out.2.2.1; have h2 := HA.out.2.2.2.1; omega, HA.out.2.2.2.2.1, HA.out.2.2.2.2.2.1, hnd, HA.out.2.2.2.2.2.2.1, by have h1 := HA.out.2.2.2.2.2.2.2.2.2.2.2.1; have h2 := HA.out.2.2.2.2.2.2.2.2.2.2.2.2.1; omega, Nat.zero_le _, (show TextsAt w (some ⟨b, off, none⟩) ws from fun j hj => by exfalso; have h1 := HA.out.2.2.2.2.2.2.2.2.1; have h2 := HA.out.2.2.2.2.2.2.2.2.2.2.2.2.1; omega), HS1.out, HA.out.2.2.2.2.2.2.2.2.1⟩, ?_⟩
              simp [intOf]; have hz := HA.out.2.2.1; omega
            · go_wp2_with fail
              go_step3
              rw [HW.out.1, HW.out.2]
              refine ⟨rfl, ⟨a2, l2, (node x d), ws, (T ++ [nodeT x d]), (LF ++ [x]), (some ⟨b, off + 1, none⟩), c2, m2, _, _, _, _, _, _, _, _, _, _, _, _, _, _, _, _, _, _, _, _, _, _, _, _, _, _, _, _, _, _, _, _, _, _, _, _, _, _, _, _, _, _, _, _, _, _, _, _, _, _, _, _, _, _, _, rfl, HA.out.1, HA.out.2.1, by have h1 := HA.out.2.2.1; have h2 := HA.out.2.2.2.1; omega, HA.out.2.2.2.2.1, HA.out.2.2.2.2.2.1, hnd, HA.out.2.2.2.2.2.2.1, by have h1 := HA.out.2.2.2.2.2.2.2.2.2.2.2.1; have h2 := HA.out.2.2.2.2.2.2.2.2.2.2.2.2.1; omega, by have h1 := HA.out.2.2.2.2.2.2.2.2.2.2.2.1; have h3 := HA.out.2.2.2.2.2.2.2.2.2.2.2.2.2; omega, HA.out.2.2.2.2.2.2.2.1, HS1.out, HA.out.2.2.2.2.2.2.2.2.1⟩, ?_⟩
              simp [intOf]; have hz := HA.out.2.2.1; omega
          · go_simp
            have hba : Below y0.heap.size y0 (y0.alloc (.cells #[.string x] 9)) := (Below.refl _ _).alloc (Nat.le_refl _) _
            have E3 : (y0.alloc (.cells #[.string x] 9)).cell? ⟨b, off, none⟩ = some (.string x) := (hba.cell (p := ⟨b, off, none⟩) (by have h1 := HA.out.2.2.2.2.2.2.2.2.2.2.1; have h2 := HB.out.2.2.2.2.2.2; show b < y0.heap.size; omega)).trans E2
            have hg3 := (hba.block _ (Array.getElem?_eq_some_iff.1 HB.out.2.1).1).trans HB.out.2.1
            have HC := Lib.hid (And.intro (HB.out.1.trans (hba.mono HB.out.1.size)) (And.intro hg3 (And.intro (OwnT.call HB.out.2.2.1 hba) (And.intro (OwnT.call HB.out.2.2.2.1 hba) (show w.heap.size + 1 ≤ (y0.alloc (.cells #[.string x] 9)).heap.size from by rw [World.size_alloc]; have h := HB.out.2.2.2.2.2.2; omega)))))
            have p3 : (y0.alloc (.cells #[.string x] 9)).cell? ⟨w.heap.size, 2, none⟩ = some (.slice la n lc) := (hba.cell (p := ⟨w.heap.size, 2, none⟩) (show w.heap.size < y0.heap.size from HB.out.2.2.2.2.2.2)).trans p2
            have htx := texts_one y0 x
            obtain ⟨y1, hy1⟩ : ∃ y1, y1 = y0.alloc (.cells #[.string x] 9) := ⟨_, rfl⟩
            rw [← hy1] at E3 HC p3 htx ⊢
            clear hba hg3 hy1
            refine hK.out _ _ E3 (fun _ => ?_)
            clear hK K
            refine wpAnyH_ready (rs := [1]) (by kernel_rfl) (by simp) ?_
            refine AllReadyH.cons rfl (fun K hK => ?_) AllReadyH.nil
            go_simp
            refine hK.out _ _ E3 (fun _ => ?_)
            clear hK K
            refine wpAnyH_ready (rs := [6]) (by kernel_rfl) (by simp) ?_
            refine AllReadyH.cons rfl (fun K hK => ?_) AllReadyH.nil
            refine step_append_texts3 rfl (.tmp 19) (.tmp 23) rfl HC.out.2.2.2.1 _ HB.out.2.2.2.2.2.1.symm rfl _ _ 1 [x] rfl rfl htx (by omega) HC.out.2.2.2.2 ?_
            intro ad cp y2 hA
            obtain ⟨hg4, hS4⟩ := CSt.lefts HC.out.1 HC.out.2.1 HC.out.2.2.1 HC.out.2.2.2.1 HB.out.2.2.2.2.1 hA
            rw [show LF.length + [x].length = n + 1 by rw [← HB.out.2.2.2.2.2.1]; rfl] at hS4
            have hb4 := hA.grown
            have E4 : y2.cell? ⟨b, off, none⟩ = some (.string x) := (hb4.cell_far ⟨b, off, none⟩ (by have h1 := HA.out.2.2.2.2.2.2.2.2.2.2.1; have h2 := HC.out.2.2.2.2; show b < y1.heap.size; omega) (fun e => by have h1 := HA.out.2.2.2.2.2.2.2.2.2.2.1; have h2 := (World.ownsRow.lt HC.out.2.2.2.1 _ e.symm).1; simp only at h2; omega)).trans E3
            try go_simp
            refine hK.out _ _ E4 (fun _ => ?_)
            clear hK K
            obtain ⟨r0, r1, r2, rf⟩ := jrow3 hg4
            have E5 : (y2.setCell ⟨w.heap.size, 2, none⟩ (.slice ad (n + 1) cp)).cell? ⟨b, off, none⟩ = some (.string x) := ((below_setCell' (Below.refl w.heap.size y2) (Nat.le_refl _) 2 (.slice ad (n + 1) cp)).cell (p := ⟨b, off, none⟩) HA.out.2.2.2.2.2.2.2.2.2.2.1).trans E4
            refine wpAnyH_take (i := 7) (v := ?_) rfl (by kernel_rfl) (by kernel_rfl) (by kernel_rfl) (fun _ _ _ h => h) (Or.inl ⟨by kernel_rfl, ?_⟩) E4 ?_
            rotate_left
            · (intro W2 hS; go_simp; try (with_reducible rfl))
            refine wpAnyH_ready (rs := [8]) (by kernel_rfl) (by simp) ?_
            refine AllReadyH.cons rfl (fun K hK => ?_) AllReadyH.nil
            go_simp
            refine hK.out _ _ E5 (fun _ => ?_)
            clear hK K
            refine wpAnyH_done (by kernel_rfl) ?_ _
            go_simp
            have HS1 := Lib.hid hS4
            clear hS4 hg4 hA hb4 r0 r1 r2 rf E2 E3 E4 E5 p2 p3 htx
            generalize World.setCell _ _ _ = y3 at *
            by_cases hc1 : cap = 1
            · go_wp2_with fail
              go_step3
              rw [HW.out.1, HW.out.2]
              refine ⟨rfl, ⟨a2, l2, (node x d), ws, (T ++ [nodeT x d]), (LF ++ [x]), (some ⟨b, off, none⟩), 0, m2, _, _, _, _, _, _, _, _, _, _, _, _, _, _, _, _, _, _, _, _, _, _, _, _, _, _, _, _, _, _, _, _, _, _, _, _, _, _, _, _, _, _, _, _, _, _, _, _, _, _, _, _, _, _, _, rfl, HA.out.1, HA.out.2.1, by have h1 := HA.out.2.2.1; have h2 := HA.out.2.2.2.1; omega, HA.out.2.2.2.2.1, HA.out.2.2.2.2.2.1, hnd, HA.out.2.2.2.2.2.2.1, by have h1 := HA.out.2.2.2.2.2.2.2.2.2.2.2.1; have h2 := HA.out.2.2.2.2.2.2.2.2.2.2.2.2.1; omega, Nat.zero_le _, (show TextsAt w (some ⟨b, off, none⟩) ws from fun j hj => by exfalso; have h1 := HA.out.2.2.2.2.2.2.2.2.1; have h2 := HA.out.2.2.2.2.2.2.2.2.2.2.2.2.1; omega), HS1.out, HA.out.2.2.2.2.2.2.2.2.1⟩, ?_⟩
              simp [intOf]; have hz := HA.out.2.2.1; omega
            · go_wp2_with fail
              go_step3
              rw [HW.out.1, HW.out.2]
              refine ⟨rfl, ⟨a2, l2, (node x d), ws, (T ++ [nodeT x d]), (LF ++ [x]), (some ⟨b, off + 1, none⟩), c2, m2, _, _, _, _, _, _, _, _, _, _, _, _, _, _, _, _, _, _, _, _, _, _, _, _, _, _, _, _, _, _, _, _, _, _, _, _, _, _, _, _, _, _, _, _, _, _, _, _, _, _, _, _, _, _, _, rfl, HA.out.1, HA.out.2.1, by have h1 := HA.out.2.2.1; have h2 := HA.out.2.2.2.1; omega, HA.out.2.2.2.2.1, HA.out.2.2.2.2.2.1, hnd, HA.out.2.2.2.2.2.2.1, by have h1 := HA.out.2.2.2.2.2.2.2.2.2.2.2.1; have h2 := HA.out.2.2.2.2.2.2.2.2.2.2.2.2.1; omega, by have h1 := HA.out.2.2.2.2.2.2.2.2.2.2.2.1; have h3 := HA.out.2.2.2.2.2.2.2.2.2.2.2.2.2; omega, HA.out.2.2.2.2.2.2.2.1, HS1.out, HA.out.2.2.2.2.2.2.2.2.1⟩, ?_⟩
              simp [intOf]; have hz := HA.out.2.2.1; omega
end Go.Proofs.YtdfkpjmljaanpaaGreatDoor
