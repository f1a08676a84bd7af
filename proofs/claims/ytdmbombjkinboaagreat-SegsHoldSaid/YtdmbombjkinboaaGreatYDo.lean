/- The law's own do. -/
import Derived.Test.YtdmbombjkinboaaGreatYShelf
import Derived.Test.YtdmbombjkinboaaGreatYDeed
import Derived.StillTailTactics
namespace Go.Proofs.YtdmbombjkinboaaGreat
open Go.RowKit
open Dk Sg Fr

/-- What do says. -/
def Done (B : Nat) (w0 : World) (b xb n N M : Nat) (D : Disk) (L : Nat) (e : Ending) (w' : World) : Prop :=
  e = .returned (.bool true) ∧ ∃ s' ρ' U' D' S' a' cap', Sh B w0 w' ρ' U' s' b xb D' S' a' cap' ∧ Live n (N + 3) D' S' ∧ Bud (M + 20) D' ∧ D'.room = D.room ∧ S'.recs.length ≤ L + 1
theorem box_act (w : World) (d : Deed) : (w.alloc (.cells d.cells 37)).heap[w.heap.size]? = some (.cells #[.int .i64 d.kind, .int .i64 d.x, .int .i64 d.n, .string d.s, .int .i64 d.after, .int .i64 d.keep, .int .i64 d.torn] 37 (0, 0)) := heap_alloc_new _ _
set_option maxRecDepth 100000 in
set_option maxHeartbeats 4000000 in
theorem do_append {B : Nat} {w0 w : World} {ρ : Nat → Nat} {U : Nat → Prop} {s b xb n N M : Nat} {D : Disk} {S : Stor} {a : Option Addr} {cap : Nat} (h : Sh B w0 w ρ U s b xb D S a cap) (hl : Live n N D S) (hb : Bud M D) (hN : N < 1099511620000) (hM : M ≤ 99990000) (hr : S.recs.length ≤ 900000) (d : Deed) (hd : d.Ok) (hk : d.kind = 0) :
    Calls Tryz.prog 11 #[.pointer (some ⟨xb, 0, none⟩), .agg d.cells] w (Done B w0 b xb n N M D S.recs.length) := by
  obtain ⟨dk, dx, dn, ds, da, dkp, dt⟩ := d
  simp only at hk
  subst hk
  have hfine := hl.fine h.at_.disk.ok (by omega)
  have hout := hl.append h.at_.disk.ok (by omega) ds
  obtain ⟨q, hq⟩ : ∃ q, q = (appendS D S ds).2.2.2 := ⟨_, rfl⟩
  obtain ⟨p, hp⟩ : ∃ p, p = (appendS D S ds).2.2.1 := ⟨_, rfl⟩
  have hba : Below w.heap.size w (w.alloc (.cells (⟨0, dx, dn, ds, da, dkp, dt⟩ : Deed).cells 37)) := (Below.refl _ _).alloc (Nat.le_refl _) _
  have hbx := box_act w ⟨0, dx, dn, ds, da, dkp, dt⟩
  have hsz1 : (w.alloc (.cells (⟨0, dx, dn, ds, da, dkp, dt⟩ : Deed).cells 37)).heap.size = w.heap.size + 1 := by simp
  have hρ0 : ρ w.heap.size = 0 ∧ ¬ U w.heap.size := ⟨h.at_.disk.raw.lab _ (Nat.le_refl _), fun u => by have := (h.at_.off _ u).2; omega⟩
  have H := Lib.hid (And.intro hout (And.intro hq (And.intro hp (And.intro hl (And.intro hb (And.intro hN (And.intro hM hr)))))))
  obtain ⟨hd0, hd1, hd2, hd3, hd4, hd5, hd6⟩ := hd
  unfold maxLen at hd3
  go_enter Tryz.func11, Tryz.ntmps11
  unfold Deed.cells at *
  go_upto_region 1 with fail
  generalize World.alloc w _ = w1 at *
  have hx1 := h.below hba
  have hap := fun W (hbW : Below w1.heap.size w1 W) => sappend_any (hx1.below hbW).at_ hb (by omega) hfine ds (by unfold maxLen; omega)
  rw [← hq, ← hp] at hap
  obtain ⟨g0, g1, g2, g3⟩ := shelf_cells hx1.head
  obtain ⟨c0, c3⟩ : w1.cell? ⟨w.heap.size, 0, none⟩ = some (.int .i64 0) ∧ w1.cell? ⟨w.heap.size, 3, none⟩ = some (.string ds) := by constructor <;> (rw [cell_of_row _ _ _ _ _ _ hbx]; rfl)
  have hxl := hx1.head.lt
  have H1 := Lib.hid (And.intro hx1 hbx)
  have HA := Lib.hid (And.intro hap (And.intro (show w.heap.size < w1.heap.size ∧ ρ w.heap.size = 0 ∧ ¬ U w.heap.size from ⟨by omega, hρ0⟩) hfine))
  clear hfine hout hq hp hl hb hN hM hr h hba hbx hsz1 hρ0 hd0 hd1 hd2 hd4 hd5 hd6 hx1 hap
  go_upto_region 3 with fail
  refine wp_region_held (S := fun W => W.cell? ⟨xb, 1, none⟩ = some (.pointer (some ⟨s, 0, none⟩)) ∧ W.cell? ⟨w.heap.size, 3, none⟩ = some (.string ds)) (by kernel_rfl) ?_
  change wpAnyH _ _ _ _ _ _ _ _ (World.drew _)
  have C : w1.drew.cell? ⟨xb, 1, none⟩ = some (.pointer (some ⟨s, 0, none⟩)) ∧ w1.drew.cell? ⟨w.heap.size, 3, none⟩ = some (.string ds) := ⟨g1, c3⟩
  have hbd : Below w1.heap.size w1 w1.drew := (Below.refl _ _).drew
  generalize World.drew w1 = wh at *
  refine wpAnyH_take (i := 0) (v := ?_) rfl (by kernel_rfl) (by kernel_rfl) (by kernel_rfl) (fun _ _ _ h => h) (Or.inl ⟨by kernel_rfl, ?_⟩) C ?_
  rotate_left
  · (intro W hS; clear hS; go_simp; try (with_reducible rfl))
  refine wpAnyH_take (i := 1) (v := ?_) rfl (by kernel_rfl) (by kernel_rfl) (by kernel_rfl) (fun _ _ _ h => h) (Or.inl ⟨by kernel_rfl, ?_⟩) C ?_
  rotate_left
  · (intro W hS; clear hS; go_simp; try (with_reducible rfl))
  refine wpAnyH_take (i := 2) (v := ?_) rfl (by kernel_rfl) (by kernel_rfl) (by kernel_rfl) (fun _ _ _ h => h) (Or.inl ⟨by kernel_rfl, ?_⟩) C ?_
  rotate_left
  · (intro W hS; clear hS; go_simp; try (with_reducible rfl))
  refine wpAnyH_take (i := 3) (v := .pointer (some ⟨s, 0, none⟩)) rfl (by kernel_rfl) (by kernel_rfl) (by kernel_rfl) (fun _ _ _ h => h) (Or.inl ⟨by kernel_rfl, ?_⟩) C ?_
  · (intro W hS; have h1 := hS.1; clear hS; go_simp; first | done | (with_reducible rfl) | simp)
  refine wpAnyH_take (i := 4) (v := ?_) rfl (by kernel_rfl) (by kernel_rfl) (by kernel_rfl) (fun _ _ _ h => h) (Or.inl ⟨by kernel_rfl, ?_⟩) C ?_
  rotate_left
  · (intro W hS; clear hS; go_simp; try (with_reducible rfl))
  refine wpAnyH_take (i := 5) (v := .string ds) rfl (by kernel_rfl) (by kernel_rfl) (by kernel_rfl) (fun _ _ _ h => h) (Or.inl ⟨by kernel_rfl, ?_⟩) C ?_
  · (intro W hS; have h1 := hS.2; clear hS; go_simp; first | done | (with_reducible rfl) | simp)
  refine wpAnyH_ready (rs := [6]) (by kernel_rfl) (by simp) ?_
  refine AllReadyH.cons rfl (fun K hK => ?_) AllReadyH.nil
  go_simp
  refine (HA.out.1 wh hbd).mono ?_
  rintro e w2 ⟨rfl, ρ2, U2, hs2, hm2⟩
  have hx2 := (H1.out.1.below hbd).move hs2 hm2
  have hbox2 := (hm2.same w.heap.size (Nat.lt_of_lt_of_le HA.out.2.1.1 hbd.size) HA.out.2.1.2.1 HA.out.2.1.2.2).trans ((hbd.block _ HA.out.2.1.1).trans H1.out.2)
  have C2 : w2.cell? ⟨xb, 1, none⟩ = some (.pointer (some ⟨s, 0, none⟩)) ∧ w2.cell? ⟨w.heap.size, 3, none⟩ = some (.string ds) := ⟨(shelf_cells hx2.head).2.1, by rw [cell_of_row _ _ _ _ _ _ hbox2]; rfl⟩
  have H2 := Lib.hid (And.intro hx2 (And.intro hbox2 (Nat.le_trans hbd.size hm2.size)))
  clear hs2 hm2 hx2 hbox2 hbd
  refine hK.out _ _ C2 (fun _ => ?_)
  clear hK K C
  refine wpAnyH_take (i := 7) (v := ?_) rfl (by kernel_rfl) (by kernel_rfl) (by kernel_rfl) (fun _ _ _ h => h) (Or.inl ⟨by kernel_rfl, ?_⟩) C2 ?_
  rotate_left
  · (intro W hS; clear hS; go_simp; try (with_reducible rfl))
  refine wpAnyH_take (i := 8) (v := ?_) rfl (by kernel_rfl) (by kernel_rfl) (by kernel_rfl) (fun _ _ _ h => h) (Or.inl ⟨by kernel_rfl, ?_⟩) C2 ?_
  rotate_left
  · (intro W hS; clear hS; go_simp; try (with_reducible rfl))
  refine wpAnyH_take (i := 9) (v := ?_) rfl (by kernel_rfl) (by kernel_rfl) (by kernel_rfl) (fun _ _ _ h => h) (Or.inl ⟨by kernel_rfl, ?_⟩) C2 ?_
  rotate_left
  · (intro W hS; clear hS; go_simp; try (with_reducible rfl))
  refine wpAnyH_take (i := 10) (v := ?_) rfl (by kernel_rfl) (by kernel_rfl) (by kernel_rfl) (fun _ _ _ h => h) (Or.inl ⟨by kernel_rfl, ?_⟩) C2 ?_
  rotate_left
  · (intro W hS; clear hS; go_simp; try (with_reducible rfl))
  refine wpAnyH_take (i := 11) (v := ?_) rfl (by kernel_rfl) (by kernel_rfl) (by kernel_rfl) (fun _ _ _ h => h) (Or.inl ⟨by kernel_rfl, ?_⟩) C2 ?_
  rotate_left
  · (intro W hS; clear hS; go_simp; try (with_reducible rfl))
  refine wpAnyH_done (by kernel_rfl) ?_ _
  go_simp
  have hx2 := H2.out.1
  obtain ⟨g0, g1, g2, g3⟩ := shelf_cells hx2.head
  have f2 := shelf_free hx2.head 2
  have c3 : w2.cell? ⟨w.heap.size, 3, none⟩ = some (.string ds) := C2.2
  have hxl := hx2.head.lt
  obtain ⟨L, hL⟩ : ∃ L, L = S.recs.length := ⟨_, rfl⟩
  rw [← hL] at g2
  have hL9 : L ≤ 900000 := by rw [hL]; exact H.out.2.2.2.2.2.2.2
  have HO := Lib.hid (And.intro (ownsRow_base (B' := 0) hx2.all (Nat.zero_le _)) (And.intro hL.symm (fun (e : (Value.slice a S.recs.length cap).ownBlock = some xb) => hx2.allx e rfl)))
  have HL := Lib.hid hL
  clear C2 hx2 hL
  rcases H.out.1 with ⟨z1, z2⟩ | ⟨z1, z2⟩ | ⟨z0, z1, ⟨z2, z3, z4⟩ | ⟨z2, z3⟩ | ⟨z2, z3, z4, z5, z6, z7⟩⟩
  · -- an empty record
    have hq1 : q = 1 := by rw [H.out.2.1, z2]
    have hst : (appendS D S ds).1 = D ∧ (appendS D S ds).2.1 = S := by rw [z2]; exact ⟨rfl, rfl⟩
    have hx2 := H2.out.1
    rw [hst.1, hst.2] at hx2
    have hem : ds.toList.isEmpty = true := by rw [empty_size]; exact decide_eq_true z1
    have hz : (ds.size : Int) ≤ 900 := by omega
    have hzd : decide ((900 : Int) < (ds.size : Int)) = false := decide_eq_false (by omega)
    have HX := Lib.hid hx2
    clear z1 z2 hst hx2 HO f2 g2
    subst hq1
    go_wp2_with fail
    go_ret
    exact ⟨rfl, s, ρ2, U2, D, S, a, cap, HX.out, H.out.2.2.2.1.mono (by omega), H.out.2.2.2.2.1.mono (by omega), rfl, by omega⟩
  · -- too long a record
    have hq1 : q = 2 := by rw [H.out.2.1, z2]
    have hst : (appendS D S ds).1 = D ∧ (appendS D S ds).2.1 = S := by rw [z2]; exact ⟨rfl, rfl⟩
    have hx2 := H2.out.1
    rw [hst.1, hst.2] at hx2
    have hem : ds.toList.isEmpty = false := by rw [empty_size]; exact decide_eq_false (by omega)
    have hz : (900 : Int) < (ds.size : Int) := by omega
    have HX := Lib.hid hx2
    clear z1 z2 hst hx2 HO f2 g2
    subst hq1
    go_wp2_with fail
    go_ret
    exact ⟨rfl, s, ρ2, U2, D, S, a, cap, HX.out, H.out.2.2.2.1.mono (by omega), H.out.2.2.2.2.1.mono (by omega), rfl, by omega⟩
  · -- a full disk
    have hq1 : q = 6 := by rw [H.out.2.1, z4]
    have hst : (appendS D S ds).1 = D ∧ (appendS D S ds).2.1 = S := by rw [z4]; exact ⟨rfl, rfl⟩
    have hx2 := H2.out.1
    rw [hst.1, hst.2] at hx2
    have hem : ds.toList.isEmpty = false := by rw [empty_size]; exact decide_eq_false (by omega)
    have hz : (ds.size : Int) ≤ 900 := by omega
    have hzd : decide ((900 : Int) < (ds.size : Int)) = false := decide_eq_false (by omega)
    have hlf := sat_left hx2.at_ (by have := HA.out.2.2.segs; omega)
    rw [z2] at hlf
    have HX := Lib.hid (And.intro hx2 hlf)
    clear z0 z1 z2 z3 z4 hst hx2 hlf HO f2 g2
    subst hq1
    go_wp2_with fail
    refine HX.out.2.mono ?_
    rintro e w3 ⟨rfl, hb3⟩
    have HB := Lib.hid hb3
    clear hb3
    go_wp2_with fail
    go_ret
    exact ⟨rfl, s, ρ2, U2, D, S, a, cap, HX.out.1.below HB.out, H.out.2.2.2.1.mono (by omega), H.out.2.2.2.2.1.mono (by omega), rfl, by omega⟩
  · -- a cut strikes
    have hq1 : q = 9 := by rw [H.out.2.1, z2]
    have HZ := Lib.hid z3
    clear z0 z1 z2 z3
    subst hq1
    go_upto_region 10 with fail
    go_region_law (refine step_append_rec rfl (.tmp 62) (.tmp 65) rfl (OwnT.call HO.out.1 ((Below.refl w2.heap.size w2).drew.alloc (Nat.le_refl _) _)) L HO.out.2.1 (by simp [Act.eval]) _ 1 ds (by simp [Act.eval]) (heap_alloc_new _ _) (by omega) ?_; intro g9 cap9 w9 ho9 hg9 hb9; have q9 : w9.cell? ⟨xb, 2, none⟩ = some (.slice a L cap) := (hg9.cell_far ⟨xb, 2, none⟩ (by simp; omega) (fun e => HO.out.2.2 e.symm)).trans ((((Below.refl w2.heap.size w2).drew.alloc (Nat.le_refl _) _).cell (p := ⟨xb, 2, none⟩) hxl).trans g2); have f9 : w9.frozen? ⟨xb, 2, none⟩ = false := (hg9.frozen_far ⟨xb, 2, none⟩ (by simp; omega) (fun e => HO.out.2.2 e.symm)).trans ((((Below.refl w2.heap.size w2).drew.alloc (Nat.le_refl _) _).frozen (p := ⟨xb, 2, none⟩) hxl).trans f2); have H9 := Lib.hid (And.intro ho9 (And.intro hg9 hb9)); clear ho9 hg9 hb9)
    all_goals
      have hx9 := Sx.app H2.out.1 ((Below.refl w2.heap.size w2).drew.alloc (Nat.le_refl _) _) H9.out.2.1 H9.out.1 H9.out.2.2
      rw [← HL.out] at hx9
      have hdn := down_any hx9.at_.disk
      rw [HZ.out.down] at hdn
      obtain ⟨g0', -, -, -⟩ := shelf_cells hx9.head
      have hst := stands_any hx9.left HZ.out.waits HZ.out.p (by rw [HZ.out.room]; exact H.out.2.2.2.1.room) (by have := H.out.2.2.2.2.2.1; omega) (bud_appendS H.out.2.2.2.2.1) (by have := H.out.2.2.2.2.2.2.1; omega) (by rw [List.length_append, List.length_singleton]; have := H.out.2.2.2.2.2.2.2; omega)
      have HS := Lib.hid (And.intro hdn hst)
      clear hx9 hdn hst g0 g1 g2 g3 f2 c3 hxl q9 f9 HO
      generalize w9.setCell _ _ = wA at *
      go_wp2_with fail
      refine HS.out.1.mono ?_
      rintro e wB ⟨rfl, rfl⟩
      go_wp2_with fail
      refine HS.out.2.mono ?_
      rintro e wC ⟨rfl, s', ρ', U', D', S', a', cap', y1, y2, y3, y4, y5⟩
      have HY := Lib.hid (And.intro y1 (And.intro y2 (And.intro y3 (And.intro y4 y5))))
      clear y1 y2 y3 y4 y5
      go_wp2_with fail
      go_ret
      refine ⟨rfl, s', ρ', U', D', S', a', cap', HY.out.1, HY.out.2.1.mono (by omega), HY.out.2.2.1.mono (by omega), HY.out.2.2.2.1.trans HZ.out.room, ?_⟩
      have := HY.out.2.2.2.2
      rwa [List.length_append, List.length_singleton] at this
  · -- a record more
    have hq1 : q = 0 := by rw [H.out.2.1, z2]
    have hpi : p = (L : Int) := by rw [H.out.2.2.1, z3, HL.out]
    have HZ := Lib.hid (And.intro z4 (And.intro z5 (And.intro z6 z7)))
    clear z0 z1 z2 z3 z4 z5 z6 z7
    subst hq1 hpi
    go_upto_region 6 with fail
    go_region_law (refine step_append_rec rfl (.tmp 28) (.tmp 31) rfl (OwnT.call HO.out.1 ((Below.refl w2.heap.size w2).drew.alloc (Nat.le_refl _) _)) L HO.out.2.1 (by simp [Act.eval]) _ 1 ds (by simp [Act.eval]) (heap_alloc_new _ _) (by omega) ?_; intro g9 cap9 w9 ho9 hg9 hb9; have q9 : w9.cell? ⟨xb, 2, none⟩ = some (.slice a L cap) := (hg9.cell_far ⟨xb, 2, none⟩ (by simp; omega) (fun e => HO.out.2.2 e.symm)).trans ((((Below.refl w2.heap.size w2).drew.alloc (Nat.le_refl _) _).cell (p := ⟨xb, 2, none⟩) hxl).trans g2); have f9 : w9.frozen? ⟨xb, 2, none⟩ = false := (hg9.frozen_far ⟨xb, 2, none⟩ (by simp; omega) (fun e => HO.out.2.2 e.symm)).trans ((((Below.refl w2.heap.size w2).drew.alloc (Nat.le_refl _) _).frozen (p := ⟨xb, 2, none⟩) hxl).trans f2); have H9 := Lib.hid (And.intro ho9 (And.intro hg9 hb9)); clear ho9 hg9 hb9)
    all_goals
      have hx9 := Sx.app H2.out.1 ((Below.refl w2.heap.size w2).drew.alloc (Nat.le_refl _) _) H9.out.2.1 H9.out.1 H9.out.2.2
      rw [← HL.out] at hx9
      have HX9 := Lib.hid hx9
      clear hx9 g0 g1 g2 g3 f2 c3 hxl q9 f9 HO
      generalize w9.setCell _ _ = wA at *
      obtain ⟨-, g1, g2, g3⟩ := shelf_cells HX9.out.head
      rw [show (S.recs ++ [ds]).length = L + 1 by rw [List.length_append, HL.out]; rfl] at g2
      have f3 := shelf_free HX9.out.head 3
      have hxl := HX9.out.head.lt
      have hsu := fun W (hb : Below wA.heap.size wA W) => sat_sure (HX9.out.below hb).at_
      obtain ⟨k2, hk2⟩ : ∃ k2, k2 = (appendS D S ds).2.1.sure := ⟨_, rfl⟩
      obtain ⟨k1, hk1⟩ : ∃ k1, k1 = S.sure := ⟨_, rfl⟩
      rw [← hk2] at hsu
      rw [← hk1] at g3
      have hmx : max (k1 : Int) (k2 : Int) = (k2 : Int) := by have := HZ.out.2.2.1; omega
      have HSU := Lib.hid (And.intro hsu (And.intro hk2 hk1))
      clear hsu hk2 hk1
      go_upto_region 7 with fail
      refine wp_region_held (S := fun W => W.cell? ⟨xb, 1, none⟩ = some (.pointer (some ⟨s, 0, none⟩))) (by kernel_rfl) ?_
      change wpAnyH _ _ _ _ _ _ _ _ (World.drew _)
      have C : wA.drew.cell? ⟨xb, 1, none⟩ = some (.pointer (some ⟨s, 0, none⟩)) := g1
      have hbd : Below wA.heap.size wA wA.drew := (Below.refl _ _).drew
      replace g3 : wA.drew.cell? ⟨xb, 3, none⟩ = some (.int .i64 (k1 : Int)) := g3
      replace f3 : wA.drew.frozen? ⟨xb, 3, none⟩ = false := f3
      have hx10 := HX9.out.below hbd
      have hsu := HSU.out.1 wA.drew hbd
      have HT := Lib.hid (And.intro hsu hx10)
      clear hsu hx10 hbd
      generalize World.drew wA = wh at *
      refine wpAnyH_take (i := 0) (v := ?_) rfl (by kernel_rfl) (by kernel_rfl) (by kernel_rfl) (fun _ _ _ h => h) (Or.inl ⟨by kernel_rfl, ?_⟩) C ?_
      rotate_left
      · (intro W hS; clear hS; go_simp; try (with_reducible rfl))
      refine wpAnyH_take (i := 1) (v := ?_) rfl (by kernel_rfl) (by kernel_rfl) (by kernel_rfl) (fun _ _ _ h => h) (Or.inl ⟨by kernel_rfl, ?_⟩) C ?_
      rotate_left
      · (intro W hS; clear hS; go_simp; try (with_reducible rfl))
      refine wpAnyH_take (i := 2) (v := ?_) rfl (by kernel_rfl) (by kernel_rfl) (by kernel_rfl) (fun _ _ _ h => h) (Or.inl ⟨by kernel_rfl, ?_⟩) C ?_
      rotate_left
      · (intro W hS; clear hS; go_simp; try (with_reducible rfl))
      refine wpAnyH_take (i := 3) (v := ?_) rfl (by kernel_rfl) (by kernel_rfl) (by kernel_rfl) (fun _ _ _ h => h) (Or.inl ⟨by kernel_rfl, ?_⟩) C ?_
      rotate_left
      · (intro W hS; clear hS; go_simp; try (with_reducible rfl))
      refine wpAnyH_take (i := 5) (v := ?_) rfl (by kernel_rfl) (by kernel_rfl) (by kernel_rfl) (fun _ _ _ h => h) (Or.inl ⟨by kernel_rfl, ?_⟩) C ?_
      rotate_left
      · (intro W hS; clear hS; go_simp; try (with_reducible rfl))
      refine wpAnyH_take (i := 6) (v := ?_) rfl (by kernel_rfl) (by kernel_rfl) (by kernel_rfl) (fun _ _ _ h => h) (Or.inl ⟨by kernel_rfl, ?_⟩) C ?_
      rotate_left
      · (intro W hS; clear hS; go_simp; try (with_reducible rfl))
      refine wpAnyH_take (i := 7) (v := ?_) rfl (by kernel_rfl) (by kernel_rfl) (by kernel_rfl) (fun _ _ _ h => h) (Or.inl ⟨by kernel_rfl, ?_⟩) C ?_
      rotate_left
      · (intro W hS; clear hS; go_simp; try (with_reducible rfl))
      refine wpAnyH_take (i := 8) (v := .pointer (some ⟨s, 0, none⟩)) rfl (by kernel_rfl) (by kernel_rfl) (by kernel_rfl) (fun _ _ _ h => h) (Or.inl ⟨by kernel_rfl, ?_⟩) C ?_
      · (intro W hS; have h1 := hS; clear hS; go_simp; first | done | (with_reducible rfl) | simp)
      refine wpAnyH_ready (rs := [4, 9]) (by kernel_rfl) (by simp) ?_
      refine AllReadyH.cons rfl (fun K hK => ?_) (AllReadyH.cons rfl (fun K hK => ?_) AllReadyH.nil)
      · skip
        go_simp
        refine hK.out _ _ C (fun _ => ?_)
        clear hK K
        refine wpAnyH_ready (rs := [9]) (by kernel_rfl) (by simp) ?_
        refine AllReadyH.cons rfl (fun K hK => ?_) AllReadyH.nil
        go_simp
        refine HT.out.1.mono ?_
        rintro e wC ⟨rfl, rfl⟩
        refine hK.out _ _ C (fun _ => ?_)
        clear hK K
        refine wpAnyH_take (i := 10) (v := .int .i64 (k2 : Int)) rfl (by kernel_rfl) (by kernel_rfl) (by kernel_rfl) (fun _ _ _ h => h) (Or.inl ⟨by kernel_rfl, ?_⟩) C ?_
        · (intro W hS; clear hS; go_simp; first | done | (with_reducible rfl) | exact hmx | (trace_state; sorry))
        refine wpAnyH_take (i := 11) (v := ?_) rfl (by kernel_rfl) (by kernel_rfl) (by kernel_rfl) (fun _ _ _ h => h) (Or.inl ⟨by kernel_rfl, ?_⟩) C ?_
        rotate_left
        · (intro W hS; clear hS; go_simp; try (with_reducible rfl))
        refine wpAnyH_take (i := 12) (v := ?_) rfl (by kernel_rfl) (by kernel_rfl) (by kernel_rfl) (fun _ _ _ h => h) (Or.inl ⟨by kernel_rfl, ?_⟩) C ?_
        rotate_left
        · (intro W hS; clear hS; go_simp; try (with_reducible rfl))
        refine wpAnyH_ready (rs := [13]) (by kernel_rfl) (by simp) ?_
        refine AllReadyH.cons rfl (fun K hK => ?_) AllReadyH.nil
        go_simp
        have C3 : (wh.setCell ⟨xb, 3, none⟩ (.int .i64 (k2 : Int))).cell? ⟨xb, 1, none⟩ = some (.pointer (some ⟨s, 0, none⟩)) := (shelf_cells (show ShelfAt (wh.setCell ⟨xb, 3, none⟩ (.int .i64 (k2 : Int))) xb b _ _ k2 from heap_setCell_same _ _ 3 _ _ _ HT.out.2.head)).2.1
        refine hK.out _ _ C3 (fun _ => ?_)
        clear hK K C
        refine wpAnyH_done (by kernel_rfl) ?_ _
        go_simp
        have hxk := HT.out.2.setk k2
        have g2k := (shelf_cells hxk.head).2.2.1
        rw [show (S.recs ++ [ds]).length = L + 1 by rw [List.length_append, ← HL.out]; rfl] at g2k
        have HK := Lib.hid hxk
        clear hxk g1 g2 g3 f3
        generalize wh.setCell _ _ = wD at *
        have hL1 : ((L + 1 : Nat) : Int) - 1 = (L : Int) := by omega
        go_wp2_with fail
        go_ret
        have hxk := HK.out
        rw [HSU.out.2.1, ← HZ.out.2.1] at hxk
        exact ⟨rfl, s, ρ2, U2, _, _, some ⟨g9, 0, none⟩, cap9, hxk, HZ.out.1.mono (by omega), (bud_appendS H.out.2.2.2.2.1).mono (by omega), HZ.out.2.2.2.room, by rw [HZ.out.2.1, List.length_append]; exact Nat.le_refl _⟩
      · skip
        go_simp
        refine HT.out.1.mono ?_
        rintro e wC ⟨rfl, rfl⟩
        refine hK.out _ _ C (fun _ => ?_)
        clear hK K
        refine wpAnyH_ready (rs := [4]) (by kernel_rfl) (by simp) ?_
        refine AllReadyH.cons rfl (fun K hK => ?_) AllReadyH.nil
        go_simp
        refine hK.out _ _ C (fun _ => ?_)
        clear hK K
        refine wpAnyH_take (i := 10) (v := .int .i64 (k2 : Int)) rfl (by kernel_rfl) (by kernel_rfl) (by kernel_rfl) (fun _ _ _ h => h) (Or.inl ⟨by kernel_rfl, ?_⟩) C ?_
        · (intro W hS; clear hS; go_simp; first | done | (with_reducible rfl) | exact hmx | (trace_state; sorry))
        refine wpAnyH_take (i := 11) (v := ?_) rfl (by kernel_rfl) (by kernel_rfl) (by kernel_rfl) (fun _ _ _ h => h) (Or.inl ⟨by kernel_rfl, ?_⟩) C ?_
        rotate_left
        · (intro W hS; clear hS; go_simp; try (with_reducible rfl))
        refine wpAnyH_take (i := 12) (v := ?_) rfl (by kernel_rfl) (by kernel_rfl) (by kernel_rfl) (fun _ _ _ h => h) (Or.inl ⟨by kernel_rfl, ?_⟩) C ?_
        rotate_left
        · (intro W hS; clear hS; go_simp; try (with_reducible rfl))
        refine wpAnyH_ready (rs := [13]) (by kernel_rfl) (by simp) ?_
        refine AllReadyH.cons rfl (fun K hK => ?_) AllReadyH.nil
        go_simp
        have C3 : (wh.setCell ⟨xb, 3, none⟩ (.int .i64 (k2 : Int))).cell? ⟨xb, 1, none⟩ = some (.pointer (some ⟨s, 0, none⟩)) := (shelf_cells (show ShelfAt (wh.setCell ⟨xb, 3, none⟩ (.int .i64 (k2 : Int))) xb b _ _ k2 from heap_setCell_same _ _ 3 _ _ _ HT.out.2.head)).2.1
        refine hK.out _ _ C3 (fun _ => ?_)
        clear hK K C
        refine wpAnyH_done (by kernel_rfl) ?_ _
        go_simp
        have hxk := HT.out.2.setk k2
        have g2k := (shelf_cells hxk.head).2.2.1
        rw [show (S.recs ++ [ds]).length = L + 1 by rw [List.length_append, ← HL.out]; rfl] at g2k
        have HK := Lib.hid hxk
        clear hxk g1 g2 g3 f3
        generalize wh.setCell _ _ = wD at *
        have hL1 : ((L + 1 : Nat) : Int) - 1 = (L : Int) := by omega
        go_wp2_with fail
        go_ret
        have hxk := HK.out
        rw [HSU.out.2.1, ← HZ.out.2.1] at hxk
        exact ⟨rfl, s, ρ2, U2, _, _, some ⟨g9, 0, none⟩, cap9, hxk, HZ.out.1.mono (by omega), (bud_appendS H.out.2.2.2.2.1).mono (by omega), HZ.out.2.2.2.room, by rw [HZ.out.2.1, List.length_append]; exact Nat.le_refl _⟩
end Go.Proofs.YtdmbombjkinboaaGreat
