/- head.Read and the reference's. -/
import Derived.Test.YtdjhlgodecnidaaDoorJSg
import Derived.Test.YtdjhlgodecnidaaDoorCRDe
import Derived.Test.YtdjhlgodecnidaaDoorCRefShape
namespace Go.Proofs.YtdjhlgodecnidaaDoor
open Go.RowKit
open Cn

theorem hd_set4 {W : World} {g : Nat} {t : TypeId} {h : Hd} (e : W.heap[g]? = some (.cells h.cs t (0, 0))) (a : Int) (b : ByteArray) (c : Int) (d : ByteArray) :
    ((((W.setCell ⟨g, 0, none⟩ (.int .i64 a)).setCell ⟨g, 1, none⟩ (.string b)).setCell ⟨g, 2, none⟩ (.int .i64 c)).setCell ⟨g, 3, none⟩ (.string d)).heap[g]? = some (.cells (Hd.cs ⟨a, b, c, d⟩) t (0, 0)) :=
  heap_setCell_same _ _ _ _ _ _ (heap_setCell_same _ _ _ _ _ _ (heap_setCell_same _ _ _ _ _ _ (heap_setCell_same _ _ _ _ _ _ e)))
/-- What the region that takes a head out of an item reads. -/
def RdH (gi b o cp : Nat) (Z : Hd) (W : World) : Prop :=
  W.cell? ⟨gi, 3, none⟩ = some (.slice (some ⟨b, o, none⟩) 4 cp) ∧ W.cell? ⟨b, o + 1, none⟩ = some (.int .i64 Z.n) ∧ W.cell? ⟨b, o + 6, none⟩ = some (.string Z.r) ∧ W.cell? ⟨b, o + 9, none⟩ = some (.int .i64 Z.t) ∧ W.cell? ⟨b, o + 14, none⟩ = some (.string Z.c)
theorem rdH_of {W : World} {S : Nat → Prop} {gi cp : Nat} {ya : Option Addr} {yl : List It} {yk yn : Int} {ys : ByteArray} (hin : Lies W S ya yl) (hbox : W.cell? ⟨gi, 3, none⟩ = some (.slice ya yl.length cp))
    (hP : shapeP (.mk yk yn ys (It.pureAll yl)) ndnd = true) : yl.length = 4 ∧ ∃ b o, ya = some ⟨b, o, none⟩ ∧ b < W.heap.size ∧ RdH gi b o cp (hdOf (.mk yk yn ys (It.pureAll yl))) W := by
  unfold shapeP ndnd at hP
  match yl, hin, hbox, hP with
  | [], _, _, hP => simp [It.pureAll, fitAll] at hP
  | [a], _, _, hP => simp [It.pureAll, fitAll] at hP
  | [a, b], _, _, hP => simp [It.pureAll, fitAll] at hP
  | [a, b, c], _, _, hP => simp [It.pureAll, fitAll] at hP
  | a :: b :: c :: d :: f :: e, _, _, hP => simp [It.pureAll, fitAll] at hP
  | [a, b, c, d], hin, hbox, _ =>
    refine ⟨rfl, ?_⟩
    obtain ⟨bb, oo, x0, rfl, hbl, -, e0, -, -, c1, -, -⟩ := hin.at (j := 0) (by simp)
    obtain ⟨b2, o2, x1, e, -, -, e1, -, -, -, d1, -⟩ := hin.at (j := 1) (by simp)
    injection e with e; injection e with ea eb; subst ea eb
    obtain ⟨b2, o2, x2, e, -, -, e2, -, -, f2, -, -⟩ := hin.at (j := 2) (by simp)
    injection e with e; injection e with ea eb; subst ea eb
    obtain ⟨b2, o2, x3, e, -, -, e3, -, -, -, g2, -⟩ := hin.at (j := 3) (by simp)
    injection e with e; injection e with ea eb; subst ea eb
    simp at e0 e1 e2 e3
    subst e0 e1 e2 e3
    obtain ⟨k0, n0, s0, a0, p0, l0⟩ := a
    obtain ⟨k1, n1, s1, a1, p1, l1⟩ := b
    obtain ⟨k2, n2, s2, a2, p2, l2⟩ := c
    obtain ⟨k3, n3, s3, a3, p3, l3⟩ := d
    exact ⟨bb, oo, rfl, hbl, hbox, c1, d1, f2, g2⟩
theorem RdH.keep {gi b o cp : Nat} {Z : Hd} {W W' : World} (h : RdH gi b o cp Z W) (hb : Below W.heap.size W W') (hg : gi < W.heap.size) (hbl : b < W.heap.size) : RdH gi b o cp Z W' :=
  ⟨(hb.cell (p := ⟨gi, 3, none⟩) hg).trans h.1, (hb.cell (p := ⟨b, o + 1, none⟩) hbl).trans h.2.1, (hb.cell (p := ⟨b, o + 6, none⟩) hbl).trans h.2.2.1, (hb.cell (p := ⟨b, o + 9, none⟩) hbl).trans h.2.2.2.1, (hb.cell (p := ⟨b, o + 14, none⟩) hbl).trans h.2.2.2.2⟩
set_option maxRecDepth 100000 in
set_option maxHeartbeats 2000000 in
theorem rhread_any (t : ByteArray) (ht : t.size ≤ maxLen) (w : World) : Calls Tryd.prog 52 #[.string t] w fun e w' => e = .returned (.tuple #[.agg (rdH t).1.cs, .int .i64 (rdH t).2]) ∧ Below w.heap.size w w' := by
  obtain ⟨w1, hw1⟩ : ∃ w1, w1 = w.alloc (.cells Hd.zero.cs 61) := ⟨_, rfl⟩
  have hb1 : Below w.heap.size w w1 := by rw [hw1]; exact (Below.refl _ _).alloc (Nat.le_refl _) _
  have hg1 : w1.heap[w.heap.size]? = some (.cells Hd.zero.cs 61 (0, 0)) := by rw [hw1]; exact heap_alloc_new _ _
  have hd := rdecode_any t ht w1
  obtain ⟨R, hR⟩ : ∃ R, R = rdecR t.data.toList := ⟨_, rfl⟩
  obtain ⟨V, hV⟩ : ∃ V, V = rdH t := ⟨_, rfl⟩
  have hVE : V = rdE R := by rw [hV, hR]; exact (rdH_ref t).symm
  have hmay : ∀ x, R = .ok x → may x 6 = true := fun x h => (decR_ok (decR_of (hR.symm.trans h))).2.1
  rw [← hR] at hd
  rw [← hV]
  have H := Lib.hid (And.intro hd (And.intro hb1 (And.intro hg1 (And.intro hVE hmay))))
  clear hd hb1 hg1 hVE hmay hR hV ht
  unfold Hd.zero Hd.cs at hw1
  simp only at hw1
  go_enter Tryd.func52, Tryd.ntmps52
  go_upto_region 1 with fail
  rw [← hw1]
  clear hw1
  go_wp2_with fail
  refine H.out.1.mono ?_
  rintro e w2 ⟨hb, hres⟩
  have hz1 := lt_of_heap H.out.2.2.1
  have hb2 := H.out.2.1.trans (hb.mono H.out.2.1.size)
  have hg2 := (hb.block _ hz1).trans H.out.2.2.1
  have hz2 := Nat.lt_of_lt_of_le hz1 hb.size
  cases R with
  | error x =>
    obtain ⟨hx, rfl⟩ := hres
    have hx0 : (x != 0) = true := by simpa using hx
    have hx1 : (x == 0) = false := by simpa using hx
    obtain ⟨w3, hw3⟩ : ∃ w3, w3 = w2.alloc (.cells #[.int .i64 0, .int .i64 0, .string ⟨#[]⟩, .slice none 0 0] 107) := ⟨_, rfl⟩
    have hb3 : Below w2.heap.size w2 w3 := by rw [hw3]; exact (Below.refl _ _).alloc (Nat.le_refl _) _
    obtain ⟨c0, c1, c2, c3, f⟩ := zero_cells4 ((hb3.block _ hz2).trans hg2)
    have HB := Lib.hid (hb2.trans (hb3.mono hb2.size))
    have HV := Lib.hid (show V = (Hd.zero, 3) from H.out.2.2.2.1)
    clear hb hb2 hg2 hz1 hz2 hb3 hx
    simp only [zeroIt]
    go_upto_region 2 with fail
    rw [← hw3]
    clear hw3
    go_wp2_with fail
    refine bodyPost_ret (v := .tuple #[.agg #[.int .i64 0, .string ⟨#[]⟩, .int .i64 0, .string ⟨#[]⟩], .int .i64 3]) (by simp [results, Tryd.results52, go_sem, c0, c1, c2, c3]) rfl ?_
    exact ⟨by rw [HV.out] <;> rfl, below_put4 HB.out (Nat.le_refl _) _ _ _ _⟩
  | ok x =>
    obtain ⟨it, hpi, rfl, hin⟩ := hres
    have hmx := H.out.2.2.2.2 x rfl
    obtain ⟨yk, yn, ys, ya, yc, yl⟩ := it
    obtain ⟨w3, hw3⟩ : ∃ w3, w3 = w2.alloc (.cells #[.int .i64 yk, .int .i64 yn, .string ys, .slice ya yl.length yc] 107) := ⟨_, rfl⟩
    have hb3 : Below w2.heap.size w2 w3 := by rw [hw3]; exact (Below.refl _ _).alloc (Nat.le_refl _) _
    have hg3 : w3.heap[w2.heap.size]? = some (.cells #[.int .i64 yk, .int .i64 yn, .string ys, .slice ya yl.length yc] 107 (0, 0)) := by rw [hw3]; exact heap_alloc_new _ _
    have hin3 : It.In w3 (w1.heap.size ≤ ·) (.mk yk yn ys ya yc yl) := It.In.kept (keptS_any hb3) _ hin
    have hsh := refshape_any _ _ ⟨#[110, 100, 110, 100]⟩ w3 hin3
    have hN : (ByteArray.mk #[110, 100, 110, 100]).data.toList = ndnd := rfl
    rw [hN, hpi] at hsh
    simp only [It.val, It.cells, It.k, It.n, It.s, It.a, It.cap, It.l] at hsh ⊢
    have hpx : Pt.mk yk yn ys (It.pureAll yl) = x := hpi
    have hg23 := (hb3.block _ hz2).trans hg2
    have B3 := hb2.trans (hb3.mono hb2.size)
    obtain ⟨i0, i1, i2, i3⟩ := it_cells hg3
    cases hP : shapeP x ndnd with
    | false =>
      rw [hP] at hsh
      have HV := Lib.hid (show V = (Hd.zero, 3) by rw [H.out.2.2.2.1]; unfold rdE; simp only; rw [hP, if_neg (fun e => Bool.noConfusion e.1)])
      have HS := Lib.hid (And.intro hsh (And.intro B3 hg23))
      clear hb hb2 hg2 hz1 hz2 hb3 hin hin3 hg3 hsh hN hpi hpx hg23 B3 hP hmx
      go_upto_region 2 with fail
      rw [← hw3]
      clear hw3
      go_wp2_with fail
      refine HS.out.1.mono ?_
      rintro e w4 ⟨rfl, hb⟩
      obtain ⟨c0, c1, c2, c3, f⟩ := zero_cells4 ((hb.block _ (lt_of_heap HS.out.2.2)).trans HS.out.2.2)
      have HB := Lib.hid (HS.out.2.1.trans (hb.mono HS.out.2.1.size))
      clear hb
      go_wp2_with fail
      refine bodyPost_ret (v := .tuple #[.agg #[.int .i64 0, .string ⟨#[]⟩, .int .i64 0, .string ⟨#[]⟩], .int .i64 3]) (by simp [results, Tryd.results52, go_sem, c0, c1, c2, c3]) rfl ?_
      exact ⟨by rw [HV.out] <;> rfl, below_put4 HB.out (Nat.le_refl _) _ _ _ _⟩
    | true =>
      rw [hP] at hsh
      obtain ⟨hl3, b, o, hya, hbl, hRB⟩ := rdH_of hin3.2.1 i3 (by rw [hpx]; exact hP)
      rw [hpx] at hRB
      have hsm := (shape_may hP hmx).2
      have hVo : V = if mayB (hdOf x) = true then (hdOf x, 0) else (Hd.zero, 3) := by
        rw [H.out.2.2.2.1]
        unfold rdE
        simp only
        cases hok : mayB (hdOf x) with
        | false => rw [if_neg (fun e => Bool.noConfusion e.2), if_neg (by decide)]
        | true => rw [if_pos ⟨hP, rfl⟩, if_pos rfl]
      obtain ⟨Z, hZ⟩ : ∃ Z, Z = hdOf x := ⟨_, rfl⟩
      rw [← hZ] at hRB hsm hVo
      have hbm : bodyB Z = mayB Z := by unfold mayB; rw [decide_eq_true hsm.2, Bool.and_true]
      subst hya
      rw [hl3] at hsh hw3 i3 ⊢
      have HS := Lib.hid (And.intro hsh (And.intro B3 (And.intro hg23 (And.intro hRB (And.intro hsm (And.intro hVo (And.intro hbl (And.intro (lt_of_heap hg3) hbm))))))))
      clear hb hb2 hg2 hz1 hz2 hb3 hin hin3 hg3 hsh hN hpi hpx hg23 B3 hP hmx hRB hsm hVo hZ hbl hl3 hbm
      go_upto_region 2 with fail
      rw [← hw3]
      clear hw3
      go_wp2_with fail
      refine HS.out.1.mono ?_
      rintro e w4 ⟨rfl, hb⟩
      have hbd : Below w3.heap.size w3 w4.drew := hb.drew
      have C : RdH w2.heap.size b o yc Z w4.drew := HS.out.2.2.2.1.keep hbd HS.out.2.2.2.2.2.2.2.1 HS.out.2.2.2.2.2.2.1
      clear i0 i1 i2 i3 hb
      go_wp2_with fail
      refine wp_region_held (S := RdH w2.heap.size b o yc Z) (by kernel_rfl) ?_
      change wpAnyH _ _ _ _ _ _ _ _ (World.drew _)
      generalize World.drew _ = wh at *
      refine wpAnyH_take (i := 0) (v := ?_) rfl (by kernel_rfl) (by kernel_rfl) (by kernel_rfl) (fun _ _ _ h => h) (Or.inl ⟨by kernel_rfl, ?_⟩) C ?_
      rotate_left
      · (intro W hS; obtain ⟨g0, g1, g2, g3, g4⟩ := hS; go_simp; try (with_reducible rfl))
      refine wpAnyH_take (i := 1) (v := ?_) rfl (by kernel_rfl) (by kernel_rfl) (by kernel_rfl) (fun _ _ _ h => h) (Or.inl ⟨by kernel_rfl, ?_⟩) C ?_
      rotate_left
      · (intro W hS; obtain ⟨g0, g1, g2, g3, g4⟩ := hS; go_simp; try (with_reducible rfl))
      refine wpAnyH_take (i := 2) (v := ?_) rfl (by kernel_rfl) (by kernel_rfl) (by kernel_rfl) (fun _ _ _ h => h) (Or.inl ⟨by kernel_rfl, ?_⟩) C ?_
      rotate_left
      · (intro W hS; obtain ⟨g0, g1, g2, g3, g4⟩ := hS; go_simp; try (with_reducible rfl))
      refine wpAnyH_take (i := 3) (v := ?_) rfl (by kernel_rfl) (by kernel_rfl) (by kernel_rfl) (fun _ _ _ h => h) (Or.inl ⟨by kernel_rfl, ?_⟩) C ?_
      rotate_left
      · (intro W hS; obtain ⟨g0, g1, g2, g3, g4⟩ := hS; go_simp; try (with_reducible rfl))
      refine wpAnyH_take (i := 4) (v := ?_) rfl (by kernel_rfl) (by kernel_rfl) (by kernel_rfl) (fun _ _ _ h => h) (Or.inl ⟨by kernel_rfl, ?_⟩) C ?_
      rotate_left
      · (intro W hS; obtain ⟨g0, g1, g2, g3, g4⟩ := hS; go_simp; try (with_reducible rfl))
      refine wpAnyH_take (i := 5) (v := ?_) rfl (by kernel_rfl) (by kernel_rfl) (by kernel_rfl) (fun _ _ _ h => h) (Or.inl ⟨by kernel_rfl, ?_⟩) C ?_
      rotate_left
      · (intro W hS; obtain ⟨g0, g1, g2, g3, g4⟩ := hS; go_simp; try (with_reducible rfl))
      refine wpAnyH_take (i := 6) (v := ?_) rfl (by kernel_rfl) (by kernel_rfl) (by kernel_rfl) (fun _ _ _ h => h) (Or.inl ⟨by kernel_rfl, ?_⟩) C ?_
      rotate_left
      · (intro W hS; obtain ⟨g0, g1, g2, g3, g4⟩ := hS; go_simp; try (with_reducible rfl))
      refine wpAnyH_take (i := 7) (v := ?_) rfl (by kernel_rfl) (by kernel_rfl) (by kernel_rfl) (fun _ _ _ h => h) (Or.inl ⟨by kernel_rfl, ?_⟩) C ?_
      rotate_left
      · (intro W hS; obtain ⟨g0, g1, g2, g3, g4⟩ := hS; go_simp; try (with_reducible rfl))
      refine wpAnyH_take (i := 8) (v := ?_) rfl (by kernel_rfl) (by kernel_rfl) (by kernel_rfl) (fun _ _ _ h => h) (Or.inl ⟨by kernel_rfl, ?_⟩) C ?_
      rotate_left
      · (intro W hS; obtain ⟨g0, g1, g2, g3, g4⟩ := hS; go_simp; try (with_reducible rfl))
      refine wpAnyH_take (i := 9) (v := ?_) rfl (by kernel_rfl) (by kernel_rfl) (by kernel_rfl) (fun _ _ _ h => h) (Or.inl ⟨by kernel_rfl, ?_⟩) C ?_
      rotate_left
      · (intro W hS; obtain ⟨g0, g1, g2, g3, g4⟩ := hS; go_simp; try (with_reducible rfl))
      refine wpAnyH_take (i := 10) (v := ?_) rfl (by kernel_rfl) (by kernel_rfl) (by kernel_rfl) (fun _ _ _ h => h) (Or.inl ⟨by kernel_rfl, ?_⟩) C ?_
      rotate_left
      · (intro W hS; obtain ⟨g0, g1, g2, g3, g4⟩ := hS; go_simp; try (with_reducible rfl))
      refine wpAnyH_take (i := 11) (v := ?_) rfl (by kernel_rfl) (by kernel_rfl) (by kernel_rfl) (fun _ _ _ h => h) (Or.inl ⟨by kernel_rfl, ?_⟩) C ?_
      rotate_left
      · (intro W hS; obtain ⟨g0, g1, g2, g3, g4⟩ := hS; go_simp; try (with_reducible rfl))
      refine wpAnyH_take (i := 12) (v := ?_) rfl (by kernel_rfl) (by kernel_rfl) (by kernel_rfl) (fun _ _ _ h => h) (Or.inl ⟨by kernel_rfl, ?_⟩) C ?_
      rotate_left
      · (intro W hS; obtain ⟨g0, g1, g2, g3, g4⟩ := hS; go_simp; try (with_reducible rfl))
      refine wpAnyH_take (i := 13) (v := ?_) rfl (by kernel_rfl) (by kernel_rfl) (by kernel_rfl) (fun _ _ _ h => h) (Or.inl ⟨by kernel_rfl, ?_⟩) C ?_
      rotate_left
      · (intro W hS; obtain ⟨g0, g1, g2, g3, g4⟩ := hS; go_simp; try (with_reducible rfl))
      refine wpAnyH_take (i := 14) (v := ?_) rfl (by kernel_rfl) (by kernel_rfl) (by kernel_rfl) (fun _ _ _ h => h) (Or.inl ⟨by kernel_rfl, ?_⟩) C ?_
      rotate_left
      · (intro W hS; obtain ⟨g0, g1, g2, g3, g4⟩ := hS; go_simp; try (with_reducible rfl))
      refine wpAnyH_take (i := 15) (v := ?_) rfl (by kernel_rfl) (by kernel_rfl) (by kernel_rfl) (fun _ _ _ h => h) (Or.inl ⟨by kernel_rfl, ?_⟩) C ?_
      rotate_left
      · (intro W hS; obtain ⟨g0, g1, g2, g3, g4⟩ := hS; go_simp; try (with_reducible rfl))
      refine wpAnyH_take (i := 16) (v := ?_) rfl (by kernel_rfl) (by kernel_rfl) (by kernel_rfl) (fun _ _ _ h => h) (Or.inl ⟨by kernel_rfl, ?_⟩) C ?_
      rotate_left
      · (intro W hS; obtain ⟨g0, g1, g2, g3, g4⟩ := hS; go_simp; try (with_reducible rfl))
      refine wpAnyH_take (i := 17) (v := ?_) rfl (by kernel_rfl) (by kernel_rfl) (by kernel_rfl) (fun _ _ _ h => h) (Or.inl ⟨by kernel_rfl, ?_⟩) C ?_
      rotate_left
      · (intro W hS; obtain ⟨g0, g1, g2, g3, g4⟩ := hS; go_simp; try (with_reducible rfl))
      refine wpAnyH_take (i := 18) (v := ?_) rfl (by kernel_rfl) (by kernel_rfl) (by kernel_rfl) (fun _ _ _ h => h) (Or.inl ⟨by kernel_rfl, ?_⟩) C ?_
      rotate_left
      · (intro W hS; obtain ⟨g0, g1, g2, g3, g4⟩ := hS; go_simp; try (with_reducible rfl))
      refine wpAnyH_take (i := 19) (v := ?_) rfl (by kernel_rfl) (by kernel_rfl) (by kernel_rfl) (fun _ _ _ h => h) (Or.inl ⟨by kernel_rfl, ?_⟩) C ?_
      rotate_left
      · (intro W hS; obtain ⟨g0, g1, g2, g3, g4⟩ := hS; go_simp; try (with_reducible rfl))
      refine wpAnyH_take (i := 20) (v := ?_) rfl (by kernel_rfl) (by kernel_rfl) (by kernel_rfl) (fun _ _ _ h => h) (Or.inl ⟨by kernel_rfl, ?_⟩) C ?_
      rotate_left
      · (intro W hS; clear hS; go_simp; try (with_reducible rfl))
      refine wpAnyH_ready (rs := [21]) (by kernel_rfl) (by simp) ?_
      refine AllReadyH.cons rfl (fun K hK => ?_) AllReadyH.nil
      go_simp
      obtain ⟨wb1, hwb⟩ : ∃ wb, wb = wh.alloc (.cells Hd.zero.cs 61) := ⟨_, rfl⟩
      have ha : Below wh.heap.size wh wb1 := by rw [hwb]; exact (Below.refl _ _).alloc (Nat.le_refl _) _
      have hz : wb1.heap[wh.heap.size]? = some (.cells Hd.zero.cs 61 (0, 0)) := by rw [hwb]; exact heap_alloc_new _ _
      unfold Hd.zero Hd.cs at hwb
      simp only at hwb
      rw [← hwb]
      clear hwb
      have b1 := hbd.trans (ha.mono hbd.size)
      have C1 : RdH w2.heap.size b o yc Z wb1 := HS.out.2.2.2.1.keep b1 HS.out.2.2.2.2.2.2.2.1 HS.out.2.2.2.2.2.2.1
      have hgz : w3.heap.size ≤ wh.heap.size := hbd.size
      generalize wh.heap.size = g6 at *
      refine hK.out _ _ C1 (fun _ => ?_)
      clear hK K ha
      obtain ⟨m0, m1, m2, m3, mf⟩ := zero_cells4 hz
      refine wpAnyH_ready (rs := [22]) (by kernel_rfl) (by simp) ?_
      refine AllReadyH.cons rfl (fun K hK => ?_) AllReadyH.nil
      go_simp
      have hg6 := hd_set4 hz Z.n Z.r Z.t Z.c
      have b36 := below_put4 b1 hgz (.int .i64 Z.n) (.string Z.r) (.int .i64 Z.t) (.string Z.c)
      generalize World.setCell _ _ _ = w6 at *
      have C6 : RdH w2.heap.size b o yc Z w6 := HS.out.2.2.2.1.keep b36 HS.out.2.2.2.2.2.2.2.1 HS.out.2.2.2.2.2.2.1
      refine hK.out _ _ C6 (fun _ => ?_)
      clear hK K
      refine wpAnyH_done (by kernel_rfl) ?_ _
      go_simp
      clear m0 m1 m2 m3 mf
      clear C6 hz hgz
      have hck : Calls Tryd.prog 77 #[.agg Z.cs] w6 fun e w' => e = .returned (.bool (mayB Z)) ∧ Below w6.heap.size w6 w' := by have h := rbody_any Z w6; rw [HS.out.2.2.2.2.2.2.2.2] at h; exact h
      have HF := Lib.hid (And.intro b36 (And.intro hg6 hck))
      obtain ⟨z0, z1, z2, z3⟩ := hd_cell hg6
      clear b36 hck hg6
      go_wp2_with fail
      refine HF.out.2.2.mono ?_
      rintro e w7 ⟨rfl, hb⟩
      have hg7 := (hb.block _ (lt_of_heap HF.out.2.1)).trans HF.out.2.1
      have b37 := HF.out.1.trans (hb.mono HF.out.1.size)
      have B7 := HS.out.2.1.trans (b37.mono HS.out.2.1.size)
      obtain ⟨c0, c1, c2, c3, f⟩ := zero_cells4 ((b37.block _ (lt_of_heap HS.out.2.2.1)).trans HS.out.2.2.1)
      clear z0 z1 z2 z3
      obtain ⟨z0, z1, z2, z3⟩ := hd_cell hg7
      have HB := Lib.hid B7
      cases hok : mayB Z with
      | false =>
        have HV := Lib.hid (show V = (Hd.zero, 3) by rw [HS.out.2.2.2.2.2.1, hok, if_neg (by decide)])
        clear hg7 b37 B7 hb hok
        go_wp2_with fail
        refine bodyPost_ret (v := .tuple #[.agg #[.int .i64 0, .string ⟨#[]⟩, .int .i64 0, .string ⟨#[]⟩], .int .i64 3]) (by simp [results, Tryd.results52, go_sem, c0, c1, c2, c3]) rfl ?_
        exact ⟨by rw [HV.out] <;> rfl, below_put4 HB.out (Nat.le_refl _) _ _ _ _⟩
      | true =>
        have HV := Lib.hid (show V = (Z, 0) by rw [HS.out.2.2.2.2.2.1, hok, if_pos rfl])
        clear hg7 b37 B7 hb hok
        go_wp2_with fail
        refine bodyPost_ret (v := .tuple #[.agg #[.int .i64 Z.n, .string Z.r, .int .i64 Z.t, .string Z.c], .int .i64 0]) (by simp [results, Tryd.results52, go_sem, c0, c1, c2, c3]) rfl ?_
        exact ⟨by rw [HV.out] <;> rfl, below_put4 HB.out (Nat.le_refl _) _ _ _ _⟩
set_option maxRecDepth 100000 in
set_option maxHeartbeats 2000000 in
theorem hread_any (t : ByteArray) (ht : t.size ≤ maxLen) (w : World) : Calls Tryd.prog 51 #[.string t] w fun e w' => e = .returned (.tuple #[.agg (rdH t).1.cs, .int .i64 (rdH t).2]) ∧ Below w.heap.size w w' := by
  obtain ⟨w1, hw1⟩ : ∃ w1, w1 = w.alloc (.cells Hd.zero.cs 57) := ⟨_, rfl⟩
  have hb1 : Below w.heap.size w w1 := by rw [hw1]; exact (Below.refl _ _).alloc (Nat.le_refl _) _
  have hg1 : w1.heap[w.heap.size]? = some (.cells Hd.zero.cs 57 (0, 0)) := by rw [hw1]; exact heap_alloc_new _ _
  have hd := decode_any t ht w1
  obtain ⟨R, hR⟩ : ∃ R, R = decR t.data.toList := ⟨_, rfl⟩
  obtain ⟨V, hV⟩ : ∃ V, V = rdH t := ⟨_, rfl⟩
  have hVE : V = rdE R := by rw [hV, hR]; exact rfl
  have hmay : ∀ x, R = .ok x → may x 6 = true := fun x h => (decR_ok (hR.symm.trans h)).2.1
  rw [← hR] at hd
  rw [← hV]
  have H := Lib.hid (And.intro hd (And.intro hb1 (And.intro hg1 (And.intro hVE hmay))))
  clear hd hb1 hg1 hVE hmay hR hV ht
  unfold Hd.zero Hd.cs at hw1
  simp only at hw1
  go_enter Tryd.func51, Tryd.ntmps51
  go_upto_region 1 with fail
  rw [← hw1]
  clear hw1
  go_wp2_with fail
  refine H.out.1.mono ?_
  rintro e w2 ⟨hb, hres⟩
  have hz1 := lt_of_heap H.out.2.2.1
  have hb2 := H.out.2.1.trans (hb.mono H.out.2.1.size)
  have hg2 := (hb.block _ hz1).trans H.out.2.2.1
  have hz2 := Nat.lt_of_lt_of_le hz1 hb.size
  cases R with
  | error x =>
    obtain ⟨hx, rfl⟩ := hres
    have hx0 : (x != 0) = true := by simpa using hx
    have hx1 : (x == 0) = false := by simpa using hx
    obtain ⟨w3, hw3⟩ : ∃ w3, w3 = w2.alloc (.cells #[.int .i64 0, .int .i64 0, .string ⟨#[]⟩, .slice none 0 0] 101) := ⟨_, rfl⟩
    have hb3 : Below w2.heap.size w2 w3 := by rw [hw3]; exact (Below.refl _ _).alloc (Nat.le_refl _) _
    obtain ⟨c0, c1, c2, c3, f⟩ := zero_cells4 ((hb3.block _ hz2).trans hg2)
    have HB := Lib.hid (hb2.trans (hb3.mono hb2.size))
    have HV := Lib.hid (show V = (Hd.zero, 3) from H.out.2.2.2.1)
    clear hb hb2 hg2 hz1 hz2 hb3 hx
    simp only [zeroIt]
    go_upto_region 2 with fail
    rw [← hw3]
    clear hw3
    go_wp2_with fail
    refine bodyPost_ret (v := .tuple #[.agg #[.int .i64 0, .string ⟨#[]⟩, .int .i64 0, .string ⟨#[]⟩], .int .i64 3]) (by simp [results, Tryd.results51, go_sem, c0, c1, c2, c3]) rfl ?_
    exact ⟨by rw [HV.out] <;> rfl, below_put4 HB.out (Nat.le_refl _) _ _ _ _⟩
  | ok x =>
    obtain ⟨it, hpi, rfl, hin⟩ := hres
    have hmx := H.out.2.2.2.2 x rfl
    obtain ⟨yk, yn, ys, ya, yc, yl⟩ := it
    obtain ⟨w3, hw3⟩ : ∃ w3, w3 = w2.alloc (.cells #[.int .i64 yk, .int .i64 yn, .string ys, .slice ya yl.length yc] 101) := ⟨_, rfl⟩
    have hb3 : Below w2.heap.size w2 w3 := by rw [hw3]; exact (Below.refl _ _).alloc (Nat.le_refl _) _
    have hg3 : w3.heap[w2.heap.size]? = some (.cells #[.int .i64 yk, .int .i64 yn, .string ys, .slice ya yl.length yc] 101 (0, 0)) := by rw [hw3]; exact heap_alloc_new _ _
    have hin3 : It.In w3 (w1.heap.size ≤ ·) (.mk yk yn ys ya yc yl) := It.In.kept (keptS_any hb3) _ hin
    have hsh := shape_any _ _ ⟨#[110, 100, 110, 100]⟩ w3 hin3
    have hN : (ByteArray.mk #[110, 100, 110, 100]).data.toList = ndnd := rfl
    rw [hN, hpi] at hsh
    simp only [It.val, It.cells, It.k, It.n, It.s, It.a, It.cap, It.l] at hsh ⊢
    have hpx : Pt.mk yk yn ys (It.pureAll yl) = x := hpi
    have hg23 := (hb3.block _ hz2).trans hg2
    have B3 := hb2.trans (hb3.mono hb2.size)
    obtain ⟨i0, i1, i2, i3⟩ := it_cells hg3
    cases hP : shapeP x ndnd with
    | false =>
      rw [hP] at hsh
      have HV := Lib.hid (show V = (Hd.zero, 3) by rw [H.out.2.2.2.1]; unfold rdE; simp only; rw [hP, if_neg (fun e => Bool.noConfusion e.1)])
      have HS := Lib.hid (And.intro hsh (And.intro B3 hg23))
      clear hb hb2 hg2 hz1 hz2 hb3 hin hin3 hg3 hsh hN hpi hpx hg23 B3 hP hmx
      go_upto_region 2 with fail
      rw [← hw3]
      clear hw3
      go_wp2_with fail
      refine HS.out.1.mono ?_
      rintro e w4 ⟨rfl, hb⟩
      obtain ⟨c0, c1, c2, c3, f⟩ := zero_cells4 ((hb.block _ (lt_of_heap HS.out.2.2)).trans HS.out.2.2)
      have HB := Lib.hid (HS.out.2.1.trans (hb.mono HS.out.2.1.size))
      clear hb
      go_wp2_with fail
      refine bodyPost_ret (v := .tuple #[.agg #[.int .i64 0, .string ⟨#[]⟩, .int .i64 0, .string ⟨#[]⟩], .int .i64 3]) (by simp [results, Tryd.results51, go_sem, c0, c1, c2, c3]) rfl ?_
      exact ⟨by rw [HV.out] <;> rfl, below_put4 HB.out (Nat.le_refl _) _ _ _ _⟩
    | true =>
      rw [hP] at hsh
      obtain ⟨hl3, b, o, hya, hbl, hRB⟩ := rdH_of hin3.2.1 i3 (by rw [hpx]; exact hP)
      rw [hpx] at hRB
      have hsm := (shape_may hP hmx).2
      have hVo : V = if mayB (hdOf x) = true then (hdOf x, 0) else (Hd.zero, 3) := by
        rw [H.out.2.2.2.1]
        unfold rdE
        simp only
        cases hok : mayB (hdOf x) with
        | false => rw [if_neg (fun e => Bool.noConfusion e.2), if_neg (by decide)]
        | true => rw [if_pos ⟨hP, rfl⟩, if_pos rfl]
      obtain ⟨Z, hZ⟩ : ∃ Z, Z = hdOf x := ⟨_, rfl⟩
      rw [← hZ] at hRB hsm hVo
      have hbm : bodyB Z = mayB Z := by unfold mayB; rw [decide_eq_true hsm.2, Bool.and_true]
      subst hya
      rw [hl3] at hsh hw3 i3 ⊢
      have HS := Lib.hid (And.intro hsh (And.intro B3 (And.intro hg23 (And.intro hRB (And.intro hsm (And.intro hVo (And.intro hbl (And.intro (lt_of_heap hg3) hbm))))))))
      clear hb hb2 hg2 hz1 hz2 hb3 hin hin3 hg3 hsh hN hpi hpx hg23 B3 hP hmx hRB hsm hVo hZ hbl hl3 hbm
      go_upto_region 2 with fail
      rw [← hw3]
      clear hw3
      go_wp2_with fail
      refine HS.out.1.mono ?_
      rintro e w4 ⟨rfl, hb⟩
      have hbd : Below w3.heap.size w3 w4.drew := hb.drew
      have C : RdH w2.heap.size b o yc Z w4.drew := HS.out.2.2.2.1.keep hbd HS.out.2.2.2.2.2.2.2.1 HS.out.2.2.2.2.2.2.1
      clear i0 i1 i2 i3 hb
      go_wp2_with fail
      refine wp_region_held (S := RdH w2.heap.size b o yc Z) (by kernel_rfl) ?_
      change wpAnyH _ _ _ _ _ _ _ _ (World.drew _)
      generalize World.drew _ = wh at *
      refine wpAnyH_take (i := 0) (v := ?_) rfl (by kernel_rfl) (by kernel_rfl) (by kernel_rfl) (fun _ _ _ h => h) (Or.inl ⟨by kernel_rfl, ?_⟩) C ?_
      rotate_left
      · (intro W hS; obtain ⟨g0, g1, g2, g3, g4⟩ := hS; go_simp; try (with_reducible rfl))
      refine wpAnyH_take (i := 1) (v := ?_) rfl (by kernel_rfl) (by kernel_rfl) (by kernel_rfl) (fun _ _ _ h => h) (Or.inl ⟨by kernel_rfl, ?_⟩) C ?_
      rotate_left
      · (intro W hS; obtain ⟨g0, g1, g2, g3, g4⟩ := hS; go_simp; try (with_reducible rfl))
      refine wpAnyH_take (i := 2) (v := ?_) rfl (by kernel_rfl) (by kernel_rfl) (by kernel_rfl) (fun _ _ _ h => h) (Or.inl ⟨by kernel_rfl, ?_⟩) C ?_
      rotate_left
      · (intro W hS; obtain ⟨g0, g1, g2, g3, g4⟩ := hS; go_simp; try (with_reducible rfl))
      refine wpAnyH_take (i := 3) (v := ?_) rfl (by kernel_rfl) (by kernel_rfl) (by kernel_rfl) (fun _ _ _ h => h) (Or.inl ⟨by kernel_rfl, ?_⟩) C ?_
      rotate_left
      · (intro W hS; obtain ⟨g0, g1, g2, g3, g4⟩ := hS; go_simp; try (with_reducible rfl))
      refine wpAnyH_take (i := 4) (v := ?_) rfl (by kernel_rfl) (by kernel_rfl) (by kernel_rfl) (fun _ _ _ h => h) (Or.inl ⟨by kernel_rfl, ?_⟩) C ?_
      rotate_left
      · (intro W hS; obtain ⟨g0, g1, g2, g3, g4⟩ := hS; go_simp; try (with_reducible rfl))
      refine wpAnyH_take (i := 5) (v := ?_) rfl (by kernel_rfl) (by kernel_rfl) (by kernel_rfl) (fun _ _ _ h => h) (Or.inl ⟨by kernel_rfl, ?_⟩) C ?_
      rotate_left
      · (intro W hS; obtain ⟨g0, g1, g2, g3, g4⟩ := hS; go_simp; try (with_reducible rfl))
      refine wpAnyH_take (i := 6) (v := ?_) rfl (by kernel_rfl) (by kernel_rfl) (by kernel_rfl) (fun _ _ _ h => h) (Or.inl ⟨by kernel_rfl, ?_⟩) C ?_
      rotate_left
      · (intro W hS; obtain ⟨g0, g1, g2, g3, g4⟩ := hS; go_simp; try (with_reducible rfl))
      refine wpAnyH_take (i := 7) (v := ?_) rfl (by kernel_rfl) (by kernel_rfl) (by kernel_rfl) (fun _ _ _ h => h) (Or.inl ⟨by kernel_rfl, ?_⟩) C ?_
      rotate_left
      · (intro W hS; obtain ⟨g0, g1, g2, g3, g4⟩ := hS; go_simp; try (with_reducible rfl))
      refine wpAnyH_take (i := 8) (v := ?_) rfl (by kernel_rfl) (by kernel_rfl) (by kernel_rfl) (fun _ _ _ h => h) (Or.inl ⟨by kernel_rfl, ?_⟩) C ?_
      rotate_left
      · (intro W hS; obtain ⟨g0, g1, g2, g3, g4⟩ := hS; go_simp; try (with_reducible rfl))
      refine wpAnyH_take (i := 9) (v := ?_) rfl (by kernel_rfl) (by kernel_rfl) (by kernel_rfl) (fun _ _ _ h => h) (Or.inl ⟨by kernel_rfl, ?_⟩) C ?_
      rotate_left
      · (intro W hS; obtain ⟨g0, g1, g2, g3, g4⟩ := hS; go_simp; try (with_reducible rfl))
      refine wpAnyH_take (i := 11) (v := ?_) rfl (by kernel_rfl) (by kernel_rfl) (by kernel_rfl) (fun _ _ _ h => h) (Or.inl ⟨by kernel_rfl, ?_⟩) C ?_
      rotate_left
      · (intro W hS; obtain ⟨g0, g1, g2, g3, g4⟩ := hS; go_simp; try (with_reducible rfl))
      refine wpAnyH_take (i := 12) (v := ?_) rfl (by kernel_rfl) (by kernel_rfl) (by kernel_rfl) (fun _ _ _ h => h) (Or.inl ⟨by kernel_rfl, ?_⟩) C ?_
      rotate_left
      · (intro W hS; obtain ⟨g0, g1, g2, g3, g4⟩ := hS; go_simp; try (with_reducible rfl))
      refine wpAnyH_take (i := 13) (v := ?_) rfl (by kernel_rfl) (by kernel_rfl) (by kernel_rfl) (fun _ _ _ h => h) (Or.inl ⟨by kernel_rfl, ?_⟩) C ?_
      rotate_left
      · (intro W hS; obtain ⟨g0, g1, g2, g3, g4⟩ := hS; go_simp; try (with_reducible rfl))
      refine wpAnyH_take (i := 14) (v := ?_) rfl (by kernel_rfl) (by kernel_rfl) (by kernel_rfl) (fun _ _ _ h => h) (Or.inl ⟨by kernel_rfl, ?_⟩) C ?_
      rotate_left
      · (intro W hS; obtain ⟨g0, g1, g2, g3, g4⟩ := hS; go_simp; try (with_reducible rfl))
      refine wpAnyH_take (i := 15) (v := ?_) rfl (by kernel_rfl) (by kernel_rfl) (by kernel_rfl) (fun _ _ _ h => h) (Or.inl ⟨by kernel_rfl, ?_⟩) C ?_
      rotate_left
      · (intro W hS; obtain ⟨g0, g1, g2, g3, g4⟩ := hS; go_simp; try (with_reducible rfl))
      refine wpAnyH_take (i := 16) (v := ?_) rfl (by kernel_rfl) (by kernel_rfl) (by kernel_rfl) (fun _ _ _ h => h) (Or.inl ⟨by kernel_rfl, ?_⟩) C ?_
      rotate_left
      · (intro W hS; obtain ⟨g0, g1, g2, g3, g4⟩ := hS; go_simp; try (with_reducible rfl))
      refine wpAnyH_take (i := 17) (v := ?_) rfl (by kernel_rfl) (by kernel_rfl) (by kernel_rfl) (fun _ _ _ h => h) (Or.inl ⟨by kernel_rfl, ?_⟩) C ?_
      rotate_left
      · (intro W hS; obtain ⟨g0, g1, g2, g3, g4⟩ := hS; go_simp; try (with_reducible rfl))
      refine wpAnyH_take (i := 18) (v := ?_) rfl (by kernel_rfl) (by kernel_rfl) (by kernel_rfl) (fun _ _ _ h => h) (Or.inl ⟨by kernel_rfl, ?_⟩) C ?_
      rotate_left
      · (intro W hS; obtain ⟨g0, g1, g2, g3, g4⟩ := hS; go_simp; try (with_reducible rfl))
      refine wpAnyH_take (i := 19) (v := ?_) rfl (by kernel_rfl) (by kernel_rfl) (by kernel_rfl) (fun _ _ _ h => h) (Or.inl ⟨by kernel_rfl, ?_⟩) C ?_
      rotate_left
      · (intro W hS; obtain ⟨g0, g1, g2, g3, g4⟩ := hS; go_simp; try (with_reducible rfl))
      refine wpAnyH_take (i := 20) (v := ?_) rfl (by kernel_rfl) (by kernel_rfl) (by kernel_rfl) (fun _ _ _ h => h) (Or.inl ⟨by kernel_rfl, ?_⟩) C ?_
      rotate_left
      · (intro W hS; obtain ⟨g0, g1, g2, g3, g4⟩ := hS; go_simp; try (with_reducible rfl))
      refine wpAnyH_ready (rs := [10, 23]) (by kernel_rfl) (by simp) ?_
      refine AllReadyH.cons rfl (fun K hK => ?_) (AllReadyH.cons rfl (fun K hK => ?_) AllReadyH.nil)
      · go_simp
        refine (clone_any Z.r wh (by have := HS.out.2.2.2.2.1.1; omega)).mono ?_
        rintro e wb1 ⟨rfl, hb5⟩
        have b1 := hbd.trans (hb5.mono hbd.size)
        have C1 : RdH w2.heap.size b o yc Z wb1 := HS.out.2.2.2.1.keep b1 HS.out.2.2.2.2.2.2.2.1 HS.out.2.2.2.2.2.2.1
        refine hK.out _ _ C1 (fun _ => ?_)
        clear hK K hb5
        refine wpAnyH_ready (rs := [21, 23]) (by kernel_rfl) (by simp) ?_
        refine AllReadyH.cons rfl (fun K hK => ?_) (AllReadyH.cons rfl (fun K hK => ?_) AllReadyH.nil)
        · go_simp
          refine (clone_any Z.c wb1 (by have := HS.out.2.2.2.2.1.2; omega)).mono ?_
          rintro e wb2 ⟨rfl, hb5⟩
          have b2 := b1.trans (hb5.mono b1.size)
          have C2 : RdH w2.heap.size b o yc Z wb2 := HS.out.2.2.2.1.keep b2 HS.out.2.2.2.2.2.2.2.1 HS.out.2.2.2.2.2.2.1
          refine hK.out _ _ C2 (fun _ => ?_)
          clear hK K hb5
          refine wpAnyH_take (i := 22) (v := ?_) rfl (by kernel_rfl) (by kernel_rfl) (by kernel_rfl) (fun _ _ _ h => h) (Or.inl ⟨by kernel_rfl, ?_⟩) C2 ?_
          rotate_left
          · (intro W hS; clear hS; go_simp; try (with_reducible rfl))
          refine wpAnyH_ready (rs := [23]) (by kernel_rfl) (by simp) ?_
          refine AllReadyH.cons rfl (fun K hK => ?_) AllReadyH.nil
          go_simp
          obtain ⟨wb3, hwb⟩ : ∃ wb, wb = wb2.alloc (.cells Hd.zero.cs 57) := ⟨_, rfl⟩
          have ha : Below wb2.heap.size wb2 wb3 := by rw [hwb]; exact (Below.refl _ _).alloc (Nat.le_refl _) _
          have hz : wb3.heap[wb2.heap.size]? = some (.cells Hd.zero.cs 57 (0, 0)) := by rw [hwb]; exact heap_alloc_new _ _
          unfold Hd.zero Hd.cs at hwb
          simp only at hwb
          rw [← hwb]
          clear hwb
          have b3 := b2.trans (ha.mono b2.size)
          have C3 : RdH w2.heap.size b o yc Z wb3 := HS.out.2.2.2.1.keep b3 HS.out.2.2.2.2.2.2.2.1 HS.out.2.2.2.2.2.2.1
          have hgz : w3.heap.size ≤ wb2.heap.size := b2.size
          generalize wb2.heap.size = g6 at *
          refine hK.out _ _ C3 (fun _ => ?_)
          clear hK K ha
          obtain ⟨m0, m1, m2, m3, mf⟩ := zero_cells4 hz
          refine wpAnyH_ready (rs := [24]) (by kernel_rfl) (by simp) ?_
          refine AllReadyH.cons rfl (fun K hK => ?_) AllReadyH.nil
          go_simp
          have hg6 := hd_set4 hz Z.n Z.r Z.t Z.c
          have b36 := below_put4 b3 hgz (.int .i64 Z.n) (.string Z.r) (.int .i64 Z.t) (.string Z.c)
          generalize World.setCell _ _ _ = w6 at *
          have C6 : RdH w2.heap.size b o yc Z w6 := HS.out.2.2.2.1.keep b36 HS.out.2.2.2.2.2.2.2.1 HS.out.2.2.2.2.2.2.1
          refine hK.out _ _ C6 (fun _ => ?_)
          clear hK K
          refine wpAnyH_done (by kernel_rfl) ?_ _
          go_simp
          clear m0 m1 m2 m3 mf
          clear C6 hz hgz
          have hck : Calls Tryd.prog 85 #[.agg Z.cs] w6 fun e w' => e = .returned (.bool (mayB Z)) ∧ Below w6.heap.size w6 w' := by have h := hmayBe_any Z w6; exact h
          have HF := Lib.hid (And.intro b36 (And.intro hg6 hck))
          obtain ⟨z0, z1, z2, z3⟩ := hd_cell hg6
          clear b36 hck hg6
          go_wp2_with fail
          refine HF.out.2.2.mono ?_
          rintro e w7 ⟨rfl, hb⟩
          have hg7 := (hb.block _ (lt_of_heap HF.out.2.1)).trans HF.out.2.1
          have b37 := HF.out.1.trans (hb.mono HF.out.1.size)
          have B7 := HS.out.2.1.trans (b37.mono HS.out.2.1.size)
          obtain ⟨c0, c1, c2, c3, f⟩ := zero_cells4 ((b37.block _ (lt_of_heap HS.out.2.2.1)).trans HS.out.2.2.1)
          clear z0 z1 z2 z3
          obtain ⟨z0, z1, z2, z3⟩ := hd_cell hg7
          have HB := Lib.hid B7
          cases hok : mayB Z with
          | false =>
            have HV := Lib.hid (show V = (Hd.zero, 3) by rw [HS.out.2.2.2.2.2.1, hok, if_neg (by decide)])
            clear hg7 b37 B7 hb hok
            go_wp2_with fail
            refine bodyPost_ret (v := .tuple #[.agg #[.int .i64 0, .string ⟨#[]⟩, .int .i64 0, .string ⟨#[]⟩], .int .i64 3]) (by simp [results, Tryd.results51, go_sem, c0, c1, c2, c3]) rfl ?_
            exact ⟨by rw [HV.out] <;> rfl, below_put4 HB.out (Nat.le_refl _) _ _ _ _⟩
          | true =>
            have HV := Lib.hid (show V = (Z, 0) by rw [HS.out.2.2.2.2.2.1, hok, if_pos rfl])
            clear hg7 b37 B7 hb hok
            go_wp2_with fail
            refine bodyPost_ret (v := .tuple #[.agg #[.int .i64 Z.n, .string Z.r, .int .i64 Z.t, .string Z.c], .int .i64 0]) (by simp [results, Tryd.results51, go_sem, c0, c1, c2, c3]) rfl ?_
            exact ⟨by rw [HV.out] <;> rfl, below_put4 HB.out (Nat.le_refl _) _ _ _ _⟩
        · go_simp
          obtain ⟨wb2, hwb⟩ : ∃ wb, wb = wb1.alloc (.cells Hd.zero.cs 57) := ⟨_, rfl⟩
          have ha : Below wb1.heap.size wb1 wb2 := by rw [hwb]; exact (Below.refl _ _).alloc (Nat.le_refl _) _
          have hz : wb2.heap[wb1.heap.size]? = some (.cells Hd.zero.cs 57 (0, 0)) := by rw [hwb]; exact heap_alloc_new _ _
          unfold Hd.zero Hd.cs at hwb
          simp only at hwb
          rw [← hwb]
          clear hwb
          have b2 := b1.trans (ha.mono b1.size)
          have C2 : RdH w2.heap.size b o yc Z wb2 := HS.out.2.2.2.1.keep b2 HS.out.2.2.2.2.2.2.2.1 HS.out.2.2.2.2.2.2.1
          have hgz : w3.heap.size ≤ wb1.heap.size := b1.size
          generalize wb1.heap.size = g6 at *
          refine hK.out _ _ C2 (fun _ => ?_)
          clear hK K ha
          refine wpAnyH_ready (rs := [21]) (by kernel_rfl) (by simp) ?_
          refine AllReadyH.cons rfl (fun K hK => ?_) AllReadyH.nil
          go_simp
          refine (clone_any Z.c wb2 (by have := HS.out.2.2.2.2.1.2; omega)).mono ?_
          rintro e wb3 ⟨rfl, hb5⟩
          have b3 := b2.trans (hb5.mono b2.size)
          have C3 : RdH w2.heap.size b o yc Z wb3 := HS.out.2.2.2.1.keep b3 HS.out.2.2.2.2.2.2.2.1 HS.out.2.2.2.2.2.2.1
          have hz := (hb5.block _ (lt_of_heap hz)).trans hz
          refine hK.out _ _ C3 (fun _ => ?_)
          clear hK K hb5
          refine wpAnyH_take (i := 22) (v := ?_) rfl (by kernel_rfl) (by kernel_rfl) (by kernel_rfl) (fun _ _ _ h => h) (Or.inl ⟨by kernel_rfl, ?_⟩) C3 ?_
          rotate_left
          · (intro W hS; clear hS; go_simp; try (with_reducible rfl))
          obtain ⟨m0, m1, m2, m3, mf⟩ := zero_cells4 hz
          refine wpAnyH_ready (rs := [24]) (by kernel_rfl) (by simp) ?_
          refine AllReadyH.cons rfl (fun K hK => ?_) AllReadyH.nil
          go_simp
          have hg6 := hd_set4 hz Z.n Z.r Z.t Z.c
          have b36 := below_put4 b3 hgz (.int .i64 Z.n) (.string Z.r) (.int .i64 Z.t) (.string Z.c)
          generalize World.setCell _ _ _ = w6 at *
          have C6 : RdH w2.heap.size b o yc Z w6 := HS.out.2.2.2.1.keep b36 HS.out.2.2.2.2.2.2.2.1 HS.out.2.2.2.2.2.2.1
          refine hK.out _ _ C6 (fun _ => ?_)
          clear hK K
          refine wpAnyH_done (by kernel_rfl) ?_ _
          go_simp
          clear m0 m1 m2 m3 mf
          clear C6 hz hgz
          have hck : Calls Tryd.prog 85 #[.agg Z.cs] w6 fun e w' => e = .returned (.bool (mayB Z)) ∧ Below w6.heap.size w6 w' := by have h := hmayBe_any Z w6; exact h
          have HF := Lib.hid (And.intro b36 (And.intro hg6 hck))
          obtain ⟨z0, z1, z2, z3⟩ := hd_cell hg6
          clear b36 hck hg6
          go_wp2_with fail
          refine HF.out.2.2.mono ?_
          rintro e w7 ⟨rfl, hb⟩
          have hg7 := (hb.block _ (lt_of_heap HF.out.2.1)).trans HF.out.2.1
          have b37 := HF.out.1.trans (hb.mono HF.out.1.size)
          have B7 := HS.out.2.1.trans (b37.mono HS.out.2.1.size)
          obtain ⟨c0, c1, c2, c3, f⟩ := zero_cells4 ((b37.block _ (lt_of_heap HS.out.2.2.1)).trans HS.out.2.2.1)
          clear z0 z1 z2 z3
          obtain ⟨z0, z1, z2, z3⟩ := hd_cell hg7
          have HB := Lib.hid B7
          cases hok : mayB Z with
          | false =>
            have HV := Lib.hid (show V = (Hd.zero, 3) by rw [HS.out.2.2.2.2.2.1, hok, if_neg (by decide)])
            clear hg7 b37 B7 hb hok
            go_wp2_with fail
            refine bodyPost_ret (v := .tuple #[.agg #[.int .i64 0, .string ⟨#[]⟩, .int .i64 0, .string ⟨#[]⟩], .int .i64 3]) (by simp [results, Tryd.results51, go_sem, c0, c1, c2, c3]) rfl ?_
            exact ⟨by rw [HV.out] <;> rfl, below_put4 HB.out (Nat.le_refl _) _ _ _ _⟩
          | true =>
            have HV := Lib.hid (show V = (Z, 0) by rw [HS.out.2.2.2.2.2.1, hok, if_pos rfl])
            clear hg7 b37 B7 hb hok
            go_wp2_with fail
            refine bodyPost_ret (v := .tuple #[.agg #[.int .i64 Z.n, .string Z.r, .int .i64 Z.t, .string Z.c], .int .i64 0]) (by simp [results, Tryd.results51, go_sem, c0, c1, c2, c3]) rfl ?_
            exact ⟨by rw [HV.out] <;> rfl, below_put4 HB.out (Nat.le_refl _) _ _ _ _⟩
      · go_simp
        obtain ⟨wb1, hwb⟩ : ∃ wb, wb = wh.alloc (.cells Hd.zero.cs 57) := ⟨_, rfl⟩
        have ha : Below wh.heap.size wh wb1 := by rw [hwb]; exact (Below.refl _ _).alloc (Nat.le_refl _) _
        have hz : wb1.heap[wh.heap.size]? = some (.cells Hd.zero.cs 57 (0, 0)) := by rw [hwb]; exact heap_alloc_new _ _
        unfold Hd.zero Hd.cs at hwb
        simp only at hwb
        rw [← hwb]
        clear hwb
        have b1 := hbd.trans (ha.mono hbd.size)
        have C1 : RdH w2.heap.size b o yc Z wb1 := HS.out.2.2.2.1.keep b1 HS.out.2.2.2.2.2.2.2.1 HS.out.2.2.2.2.2.2.1
        have hgz : w3.heap.size ≤ wh.heap.size := hbd.size
        generalize wh.heap.size = g6 at *
        refine hK.out _ _ C1 (fun _ => ?_)
        clear hK K ha
        refine wpAnyH_ready (rs := [10]) (by kernel_rfl) (by simp) ?_
        refine AllReadyH.cons rfl (fun K hK => ?_) AllReadyH.nil
        go_simp
        refine (clone_any Z.r wb1 (by have := HS.out.2.2.2.2.1.1; omega)).mono ?_
        rintro e wb2 ⟨rfl, hb5⟩
        have b2 := b1.trans (hb5.mono b1.size)
        have C2 : RdH w2.heap.size b o yc Z wb2 := HS.out.2.2.2.1.keep b2 HS.out.2.2.2.2.2.2.2.1 HS.out.2.2.2.2.2.2.1
        have hz := (hb5.block _ (lt_of_heap hz)).trans hz
        refine hK.out _ _ C2 (fun _ => ?_)
        clear hK K hb5
        refine wpAnyH_ready (rs := [21]) (by kernel_rfl) (by simp) ?_
        refine AllReadyH.cons rfl (fun K hK => ?_) AllReadyH.nil
        go_simp
        refine (clone_any Z.c wb2 (by have := HS.out.2.2.2.2.1.2; omega)).mono ?_
        rintro e wb3 ⟨rfl, hb5⟩
        have b3 := b2.trans (hb5.mono b2.size)
        have C3 : RdH w2.heap.size b o yc Z wb3 := HS.out.2.2.2.1.keep b3 HS.out.2.2.2.2.2.2.2.1 HS.out.2.2.2.2.2.2.1
        have hz := (hb5.block _ (lt_of_heap hz)).trans hz
        refine hK.out _ _ C3 (fun _ => ?_)
        clear hK K hb5
        refine wpAnyH_take (i := 22) (v := ?_) rfl (by kernel_rfl) (by kernel_rfl) (by kernel_rfl) (fun _ _ _ h => h) (Or.inl ⟨by kernel_rfl, ?_⟩) C3 ?_
        rotate_left
        · (intro W hS; clear hS; go_simp; try (with_reducible rfl))
        obtain ⟨m0, m1, m2, m3, mf⟩ := zero_cells4 hz
        refine wpAnyH_ready (rs := [24]) (by kernel_rfl) (by simp) ?_
        refine AllReadyH.cons rfl (fun K hK => ?_) AllReadyH.nil
        go_simp
        have hg6 := hd_set4 hz Z.n Z.r Z.t Z.c
        have b36 := below_put4 b3 hgz (.int .i64 Z.n) (.string Z.r) (.int .i64 Z.t) (.string Z.c)
        generalize World.setCell _ _ _ = w6 at *
        have C6 : RdH w2.heap.size b o yc Z w6 := HS.out.2.2.2.1.keep b36 HS.out.2.2.2.2.2.2.2.1 HS.out.2.2.2.2.2.2.1
        refine hK.out _ _ C6 (fun _ => ?_)
        clear hK K
        refine wpAnyH_done (by kernel_rfl) ?_ _
        go_simp
        clear m0 m1 m2 m3 mf
        clear C6 hz hgz
        have hck : Calls Tryd.prog 85 #[.agg Z.cs] w6 fun e w' => e = .returned (.bool (mayB Z)) ∧ Below w6.heap.size w6 w' := by have h := hmayBe_any Z w6; exact h
        have HF := Lib.hid (And.intro b36 (And.intro hg6 hck))
        obtain ⟨z0, z1, z2, z3⟩ := hd_cell hg6
        clear b36 hck hg6
        go_wp2_with fail
        refine HF.out.2.2.mono ?_
        rintro e w7 ⟨rfl, hb⟩
        have hg7 := (hb.block _ (lt_of_heap HF.out.2.1)).trans HF.out.2.1
        have b37 := HF.out.1.trans (hb.mono HF.out.1.size)
        have B7 := HS.out.2.1.trans (b37.mono HS.out.2.1.size)
        obtain ⟨c0, c1, c2, c3, f⟩ := zero_cells4 ((b37.block _ (lt_of_heap HS.out.2.2.1)).trans HS.out.2.2.1)
        clear z0 z1 z2 z3
        obtain ⟨z0, z1, z2, z3⟩ := hd_cell hg7
        have HB := Lib.hid B7
        cases hok : mayB Z with
        | false =>
          have HV := Lib.hid (show V = (Hd.zero, 3) by rw [HS.out.2.2.2.2.2.1, hok, if_neg (by decide)])
          clear hg7 b37 B7 hb hok
          go_wp2_with fail
          refine bodyPost_ret (v := .tuple #[.agg #[.int .i64 0, .string ⟨#[]⟩, .int .i64 0, .string ⟨#[]⟩], .int .i64 3]) (by simp [results, Tryd.results51, go_sem, c0, c1, c2, c3]) rfl ?_
          exact ⟨by rw [HV.out] <;> rfl, below_put4 HB.out (Nat.le_refl _) _ _ _ _⟩
        | true =>
          have HV := Lib.hid (show V = (Z, 0) by rw [HS.out.2.2.2.2.2.1, hok, if_pos rfl])
          clear hg7 b37 B7 hb hok
          go_wp2_with fail
          refine bodyPost_ret (v := .tuple #[.agg #[.int .i64 Z.n, .string Z.r, .int .i64 Z.t, .string Z.c], .int .i64 0]) (by simp [results, Tryd.results51, go_sem, c0, c1, c2, c3]) rfl ?_
          exact ⟨by rw [HV.out] <;> rfl, below_put4 HB.out (Nat.le_refl _) _ _ _ _⟩
end Go.Proofs.YtdjhlgodecnidaaDoor
