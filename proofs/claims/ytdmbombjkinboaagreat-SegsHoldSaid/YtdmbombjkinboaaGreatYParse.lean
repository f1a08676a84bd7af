/- lockboxref12.Parse at a list that a store wrote. -/
import Derived.Test.YtdmbombjkinboaaGreatYExt
import Derived.Test.YtdmbombjkinboaaGreatCRDe
namespace Go.Proofs.YtdmbombjkinboaaGreat
open Go.RowKit
open Dk Sg Fr

theorem rdecR_ent {n : Nat} {e : Ent} (h : EntOk n e) : Cn.rdecR (entB e) = .ok (entP e) := by
  have := (Cn.ritem_item (d := 6) (p := 0) (l := entB e) (x := entP e) (q := (entB e).length) (r := [])).2 (dec_ent h (EntOk.num62 h))
  unfold Cn.rdecR
  rw [this]
  rfl
/-- What a list of items that says a list is, kinds and all. -/
theorem ent_kinds {x : It} {e : Ent} (h : x.pure = entP e) : x.k = 3 ∧ x.n = 0 ∧ x.l.length = e.exts.length + 2 ∧
    (∃ z, x.l[0]? = some z ∧ z.k = 2 ∧ z.s = seqT) ∧ (∃ z, x.l[1]? = some z ∧ z.k = 1 ∧ z.n = (e.epoch : Int)) ∧ ∀ (j y : Nat), e.exts[j]? = some y → ∃ z, x.l[j + 2]? = some z ∧ z.k = 1 ∧ z.n = (y : Int) := by
  rw [It.pure_eq, It.pureAll_eq] at h
  unfold entP lstP at h
  injection h with h1 h2 h3 h4
  have hl : x.l.length = e.exts.length + 2 := by have := congrArg List.length h4; simpa using this
  have key : ∀ (j : Nat) (p : Cn.Pt), (txtP seqT :: numP e.epoch :: e.exts.map numP)[j]? = some p → ∃ z : It, x.l[j]? = some z ∧ z.pure = p := fun j p hp => by
    rw [← h4, List.getElem?_map] at hp
    cases hz : x.l[j]? with
    | none => rw [hz] at hp; cases hp
    | some z => rw [hz] at hp; injection hp with hp; exact ⟨z, rfl, hp⟩
  refine ⟨h1, h2, hl, ?_, ?_, ?_⟩
  · obtain ⟨z, hz, hp⟩ := key 0 _ rfl
    rw [It.pure_eq] at hp
    unfold txtP at hp
    injection hp with hk _ hs _
    exact ⟨z, hz, hk, hs⟩
  · obtain ⟨z, hz, hp⟩ := key 1 _ rfl
    rw [It.pure_eq] at hp
    unfold numP at hp
    injection hp with hk hs _ _
    exact ⟨z, hz, hk, hs⟩
  · intro j y hy
    obtain ⟨z, hz, hp⟩ := key (j + 2) (numP y) (by rw [List.getElem?_cons_succ, List.getElem?_cons_succ, List.getElem?_map, hy]; rfl)
    rw [It.pure_eq] at hp
    unfold numP at hp
    injection hp with hk hs _ _
    exact ⟨z, hz, hk, hs⟩
theorem box2 {w : World} {b : Nat} {t : TypeId} {x y : Value} (h : w.heap[b]? = some (.cells #[x, y] t (0, 0))) : w.cell? ⟨b, 0, none⟩ = some x ∧ w.cell? ⟨b, 1, none⟩ = some y ∧ ∀ j, w.frozen? ⟨b, j, none⟩ = false := by
  refine ⟨?_, ?_, fun j => frozen_of_row _ _ _ _ _ h⟩ <;> (rw [cell_of_row _ _ _ _ _ _ h]; rfl)
set_option maxRecDepth 100000 in
set_option maxHeartbeats 4000000 in
theorem rparse_any (e : Ent) (n : Nat) (h : EntOk n e) (w : World) :
    Calls Tryz.prog 36 #[.string (str (entB e)), .int .i64 (n : Int)] w fun r w' => ∃ a cap, r = .returned (.agg #[.int .i64 (e.epoch : Int), .slice a e.exts.length cap]) ∧ OwnN w.heap.size w' a cap e.exts ∧ Below w.heap.size w w' := by
  have hln := h.len (EntOk.num62 h)
  obtain ⟨w1, hw1⟩ : ∃ w1, w1 = w.alloc (.cells #[.int .i64 0, .slice none 0 0] 46) := ⟨_, rfl⟩
  have hdec := rdecode_any (str (entB e)) (by rw [str_size]; unfold maxLen; omega) w1
  rw [str_data, rdecR_ent h] at hdec
  have hb1 : Below w.heap.size w w1 := by rw [hw1]; exact (Below.refl _ _).alloc (Nat.le_refl _) _
  have hg1 : w1.heap[w.heap.size]? = some (.cells #[.int .i64 0, .slice none 0 0] 46 (0, 0)) := by rw [hw1]; exact heap_alloc_new _ _
  obtain ⟨M, hM⟩ : ∃ M, M = e.exts.length := ⟨_, rfl⟩
  obtain ⟨ep, hep⟩ : ∃ ep, ep = e.epoch := ⟨_, rfl⟩
  obtain ⟨body, hbody⟩ : ∃ body, body = str (entB e) := ⟨_, rfl⟩
  rw [← hbody] at hdec ⊢
  rw [← hM, ← hep]
  have hM62 : M ≤ 62 := by rw [hM]; exact EntOk.num62 h
  have hep1 : (ep : Int) ≤ 1099511627776 := by have := h.epoch; omega
  have hn64 : n ≤ 64 := h.num
  have H := Lib.hid (And.intro h (And.intro hdec (And.intro hM (And.intro hep (And.intro hb1 hg1)))))
  have HW := Lib.hid hw1
  clear h hdec hM hep hln hbody hb1 hg1 hw1
  go_enter Tryz.func36, Tryz.ntmps36
  go_upto_region 1 with fail
  rw [← HW.out]
  go_wp2_with fail
  refine H.out.2.1.mono ?_
  rintro r w2 ⟨hb2, it, hp, rfl, hin⟩
  obtain ⟨i1, i2, i3, i4, i5, i6⟩ := ent_kinds hp
  rw [← H.out.2.2.1] at i3
  rw [It.in_eq] at hin
  obtain ⟨xk, xn, xs, xa, xc, xl⟩ := it
  simp only [It.k, It.n, It.l, It.s, It.a] at i1 i2 i3 i4 i5 i6 hin
  subst i1 i2
  simp only [It.val, It.cells, It.k, It.n, It.s, It.a, It.cap, It.l]
  obtain ⟨N, hN⟩ : ∃ N, N = xl.length := ⟨_, rfl⟩
  rw [← hN] at i3 ⊢
  subst i3
  have hin2 := hin.2.1
  obtain ⟨xb, xo, rfl, hxb, hxS, hrow⟩ := hin2.2 (fun e => by rw [e] at hN; simp at hN)
  obtain ⟨z0, hz0, hz0k, hz0s⟩ := i4
  obtain ⟨z1, hz1, hz1k, hz1n⟩ := i5
  have d0 : w2.cell? ⟨xb, xo, none⟩ = some (.int .i64 2) := by
    have := (hrow 0 z0 hz0).1
    rw [show z0.k = 2 from hz0k] at this
    simpa using this
  have d1 : w2.cell? ⟨xb, xo + 2, none⟩ = some (.string ⟨#[115, 101, 113]⟩) := by
    have := (hrow 0 z0 hz0).2.2.1
    rw [show z0.s = seqT from hz0s] at this
    simpa [seqT] using this
  have d2 : w2.cell? ⟨xb, xo + 4, none⟩ = some (.int .i64 1) := by
    have := (hrow 1 z1 hz1).1
    rw [show z1.k = 1 from hz1k] at this
    simpa using this
  have d3 : w2.cell? ⟨xb, xo + 4 + 1, none⟩ = some (.int .i64 (ep : Int)) := by
    have := (hrow 1 z1 hz1).2.1
    rw [show z1.n = (e.epoch : Int) from hz1n, ← H.out.2.2.2.1] at this
    simpa using this
  have hxb5 : Below w2.heap.size w2 (w2.alloc (.cells #[.int .i64 3, .int .i64 0, .string xs, .slice (some ⟨xb, xo, none⟩) (M + 2) xc] 105)) := (Below.refl _ _).alloc (Nat.le_refl _) _
  have hg5 := heap_alloc_new w2 (.cells #[.int .i64 3, .int .i64 0, .string xs, .slice (some ⟨xb, xo, none⟩) (M + 2) xc] 105)
  have H2 := Lib.hid (And.intro hb2 (And.intro hrow (And.intro i6 (And.intro hxb (And.intro hN hxS)))))
  clear hb2 hrow i6 hN hin hin2 hz0 hz0k hz0s hz1 hz1k hz1n hp hxS
  go_upto_region 2 with fail
  generalize World.alloc w2 _ = w3 at *
  have hsz3 := hxb5.size
  have hg3 : w2.heap.size < w3.heap.size := (Array.getElem?_eq_some_iff.1 hg5).1
  obtain ⟨g5, hg5e⟩ : ∃ g5, g5 = w2.heap.size := ⟨_, rfl⟩
  rw [← hg5e] at hg5 ⊢
  obtain ⟨N, hN⟩ : ∃ N, N = M + 2 := ⟨_, rfl⟩
  rw [← hN] at hg5 ⊢
  replace d0 := (hxb5.cell (p := ⟨xb, xo, none⟩) H2.out.2.2.2.1).trans d0
  replace d1 := (hxb5.cell (p := ⟨xb, xo + 2, none⟩) H2.out.2.2.2.1).trans d1
  replace d2 := (hxb5.cell (p := ⟨xb, xo + 4, none⟩) H2.out.2.2.2.1).trans d2
  replace d3 := (hxb5.cell (p := ⟨xb, xo + 4 + 1, none⟩) H2.out.2.2.2.1).trans d3
  obtain ⟨e0, e3⟩ : w3.cell? ⟨g5, 0, none⟩ = some (.int .i64 3) ∧ w3.cell? ⟨g5, 3, none⟩ = some (.slice (some ⟨xb, xo, none⟩) N xc) := by
    constructor <;> (rw [cell_of_row _ _ _ _ _ _ hg5]; rfl)
  have hN2 : decide ((N : Int) < 2) = false := decide_eq_false (by omega)
  have hN2' : (2 : Int) ≤ (N : Int) := by omega
  have hN3 : N ≤ 64 := by omega
  have hepd : decide ((1099511627776 : Int) < (ep : Int)) = false := decide_eq_false (by omega)
  have hb3 : Below w.heap.size w w3 := H.out.2.2.2.2.1.trans ((H2.out.1.trans (hxb5.mono H2.out.1.size)).mono H.out.2.2.2.2.1.size)
  have H3 := Lib.hid (And.intro hb3 (And.intro hg5 (And.intro hg5e (And.intro hN (And.intro hxb5 hg3)))))
  clear hb3 hg5 hg5e hN hxb5 hg3 hsz3 hxb
  go_upto_region 5 with fail
  have hb4 : Below w3.heap.size w3 (w3.alloc (.cells #[.int .i64 (ep : Int), .slice none 0 0] 46)) := (Below.refl _ _).alloc (Nat.le_refl _) _
  have hg7 := heap_alloc_new w3 (.cells #[.int .i64 (ep : Int), .slice none 0 0] 46)
  generalize World.alloc w3 _ = w4 at *
  have H4 := Lib.hid (And.intro hb4 hg7)
  clear hb4 hg7 d0 d1 d2 d3 e0 e3
  go_wp2_with fail
  go_loopw [8, 9, 10] (fun iv _ _ wr => ∃ j : Nat, j ≤ M ∧ iv = .int .i64 ((2 + j : Nat) : Int) ∧ ∃ a cap, wr.heap[w3.heap.size]? = some (.cells #[.int .i64 (ep : Int), .slice a j cap] 46 (0, 0)) ∧ OwnN (w3.heap.size + 1) wr a cap (e.exts.take j) ∧ Below w3.heap.size w3 wr) (fun iv _ _ _ => M + 2 - (intOf iv).toNat)
  case atStart => exact ⟨0, by omega, rfl, none, 0, H4.out.2, OwnN.nil _ _, H4.out.1⟩
  case round =>
    obtain ⟨j, hj, rfl, a, cap, hg7, hon, hb⟩ := hrel
    have hg5 := (hb.block g5 (by have := H3.out.2.2.1; have := H3.out.2.2.2.2.2; omega)).trans H3.out.2.1
    have e3 : wr.cell? ⟨g5, 3, none⟩ = some (.slice (some ⟨xb, xo, none⟩) N xc) := by rw [cell_of_row _ _ _ _ _ _ hg5]; rfl
    obtain ⟨q0, q1, qf⟩ := box2 hg7
    have hszr := hb.size
    have hg7l : w3.heap.size < wr.heap.size := (Array.getElem?_eq_some_iff.1 hg7).1
    have HR := Lib.hid (And.intro hg5 (And.intro hg7 (And.intro hon hb)))
    clear hg5 hg7 hon hb
    by_cases hlt : j < M
    · obtain ⟨y, hy⟩ : ∃ y, e.exts[j]? = some y := ⟨_, List.getElem?_eq_getElem (by have := H.out.2.2.1; omega)⟩
      obtain ⟨z, hz, hzk, hzn⟩ := H2.out.2.2.1 j y hy
      obtain ⟨c0, c1, -, -⟩ := H2.out.2.1 (j + 2) z hz
      rw [show z.k = 1 from hzk] at c0
      rw [show z.n = (y : Int) from hzn] at c1
      have hxl : xb < w3.heap.size := Nat.lt_of_lt_of_le H2.out.2.2.2.1 H3.out.2.2.2.2.1.size
      replace c0 := (HR.out.2.2.2.cell (p := ⟨xb, xo + (j + 2) * 4, none⟩) hxl).trans ((H3.out.2.2.2.2.1.cell (p := ⟨xb, xo + (j + 2) * 4, none⟩) H2.out.2.2.2.1).trans c0)
      replace c1 := (HR.out.2.2.2.cell (p := ⟨xb, xo + (j + 2) * 4 + 1, none⟩) hxl).trans ((H3.out.2.2.2.2.1.cell (p := ⟨xb, xo + (j + 2) * 4 + 1, none⟩) H2.out.2.2.2.1).trans c1)
      have hye := H.out.1.exts y (List.mem_of_getElem? hy)
      have y3 : y < n := hye.2
      have y4 : 2 ≤ y := hye.1
      have y1 : decide ((y : Int) < 2) = false := decide_eq_false (by omega)
      have y2 : decide ((n : Int) ≤ (y : Int)) = false := decide_eq_false (by omega)
      have hjN : ((2 + j : Nat) : Int) < (N : Int) := by have := H3.out.2.2.2.1; omega
      obtain ⟨ii, hii⟩ : ∃ ii, ii = 2 + j := ⟨_, rfl⟩
      rw [show j + 2 = ii by omega] at c0 c1
      rw [← hii] at hjN ⊢
      have hiN : ii < N := by omega
      have HY := Lib.hid (And.intro hy (And.intro hye hii))
      clear hy hye hii hz hzk hzn
      go_wp2_with fail
      obtain ⟨W0, hW0⟩ : ∃ W0, W0 = wr := ⟨_, rfl⟩
      subst hW0
      have hjl : (e.exts.take j).length = j := by rw [List.length_take]; have := H.out.2.2.1; omega
      have HJL := Lib.hid hjl
      clear hjl
      go_loopw [10] (fun kv wi => ∃ k : Nat, k ≤ j ∧ kv = .int .i64 k ∧ wi = W0) (fun kv _ => j - (intOf kv).toNat)
      case atStart => exact ⟨0, by omega, rfl, rfl⟩
      case round =>
        obtain ⟨k, hk, rfl, rfl⟩ := hrel
        by_cases hkj : k < j
        · obtain ⟨v, hv⟩ : ∃ v, (e.exts.take j)[k]? = some v := ⟨_, List.getElem?_eq_getElem (by have := HJL.out; omega)⟩
          obtain ⟨gr, rfl, cr, hgr, -⟩ := HR.out.2.2.1.at hv
          have hvy : v ≠ y := fun ev => by
            rw [List.getElem?_take_of_lt hkj] at hv
            have h1 := List.getElem?_eq_some_iff.1 hv
            have h2 := List.getElem?_eq_some_iff.1 HY.out.1
            exact (List.pairwise_iff_getElem.1 H.out.1.dup) k j h1.1 h2.1 hkj (by rw [h1.2, h2.2, ev])
          have hvy' : ((v : Int) == (y : Int)) = false := by simp; omega
          clear hv hvy
          go_wp2_with fail
          go_roundw
          case rel => exact ⟨k + 1, by omega, by go_num, by first | rfl | trivial⟩
          case measure => simp [intOf]; omega
        · obtain rfl : k = j := by omega
          have hba : Below wr.heap.size wr (wr.alloc (.cells #[.int .i64 (y : Int)] 3)) := (Below.refl _ _).alloc (Nat.le_refl _) _
          have hlu := HY.out.2.2
          go_wp2_with (at_builtin; (refine wpList_append_num rfl (.tmp 114) (.tmp 116) rfl (OwnN.call HR.out.2.2.1 hba) k HJL.out rfl wr.heap.size 1 y rfl (heap_alloc_new wr _) (by omega) (by simp; omega) ?_; intro ga capa wa hoa hga hbb; have hgo : (Value.slice a (e.exts.take k).length cap).ownBlock ≠ some w3.heap.size := (fun ee => by have := (World.ownsRow.lt HR.out.2.2.1 _ ee).1; omega); have hg7a := (hga.block w3.heap.size (by simp; omega) (fun ee => hgo ee.symm)).trans ((hba.block w3.heap.size (by omega)).trans HR.out.2.1); obtain ⟨q0a, q1a, qfa⟩ := box2 hg7a; have HA := Lib.hid (And.intro hoa (And.intro hga (And.intro hbb (And.intro hg7a hgo)))); clear hoa hga hbb hg7a hgo))
          go_roundw
          case rel =>
            obtain ⟨a1, a2, a3, a4, a5⟩ := HA.out
            refine ⟨k + 1, by omega, by congr 1, some ⟨ga, 0, none⟩, capa, heap_setCell_same _ _ 1 _ _ _ a4, ?_, ?_⟩
            · rw [List.take_add_one, HY.out.1]
              refine own_keep a1 fun g hg => heap_setCell_other _ _ g _ (fun ee => ?_)
              have := (World.ownsRow.lt a1 g hg).1
              have ee : g = w3.heap.size := ee
              omega
            · have hb5 : Below w3.heap.size w3 wa := ⟨a2.os.trans (hba.os.trans HR.out.2.2.2.os), a2.tape.trans (hba.tape.trans HR.out.2.2.2.tape), a2.output.trans (hba.output.trans HR.out.2.2.2.output), Nat.le_trans HR.out.2.2.2.size (Nat.le_trans hba.size a2.size), fun g hg => (a2.block g (by have := hba.size; omega) (fun ee => by have := (World.ownsRow.lt HR.out.2.2.1 g ee.symm).1; omega)).trans ((hba.block g (by omega)).trans (HR.out.2.2.2.block g hg))⟩
              exact hb5.setCell (p := ⟨w3.heap.size, 1, none⟩) (Nat.le_refl _) _
          case measure => simp [intOf]; omega
    · obtain rfl : j = M := by omega
      have hjN : ((2 + j : Nat) : Int) = (N : Int) := by have := H3.out.2.2.2.1; omega
      rw [hjN]
      have hg4 := (HR.out.2.2.2.block w.heap.size (by have := H3.out.1.size; have := H.out.2.2.2.2.1.size; have := (Array.getElem?_eq_some_iff.1 H.out.2.2.2.2.2).1; have := H2.out.1.size; have := H3.out.2.2.2.2.1.size; omega)).trans ((H3.out.2.2.2.2.1.block w.heap.size (by have := (Array.getElem?_eq_some_iff.1 H.out.2.2.2.2.2).1; have := H2.out.1.size; omega)).trans ((H2.out.1.block w.heap.size (Array.getElem?_eq_some_iff.1 H.out.2.2.2.2.2).1).trans H.out.2.2.2.2.2))
      obtain ⟨r0, r1, rf⟩ := box2 hg4
      have hgl4 : w.heap.size < w3.heap.size := by have := (Array.getElem?_eq_some_iff.1 H.out.2.2.2.2.2).1; have := H2.out.1.size; have := H3.out.2.2.2.2.1.size; omega
      have HG := Lib.hid (And.intro hg4 hgl4)
      clear hg4
      go_wp2_with fail
      have hgE := heap_setCell_same _ _ 1 _ _ (.slice a j cap) (heap_setCell_same _ _ 0 _ _ (.int .i64 (ep : Int)) HG.out.1)
      have hoth : ∀ g, g ≠ w.heap.size → ((wr.setCell ⟨w.heap.size, 0, none⟩ (.int .i64 (ep : Int))).setCell ⟨w.heap.size, 1, none⟩ (.slice a j cap)).heap[g]? = wr.heap[g]? := fun g hg => (heap_setCell_other _ _ g _ hg).trans (heap_setCell_other _ _ g _ hg)
      have hbE : Below w.heap.size w ((wr.setCell ⟨w.heap.size, 0, none⟩ (.int .i64 (ep : Int))).setCell ⟨w.heap.size, 1, none⟩ (.slice a j cap)) := ((H3.out.1.trans (HR.out.2.2.2.mono H3.out.1.size)).setCell (p := ⟨w.heap.size, 0, none⟩) (Nat.le_refl _) _).setCell (p := ⟨w.heap.size, 1, none⟩) (Nat.le_refl _) _
      generalize ((wr.setCell ⟨w.heap.size, 0, none⟩ (.int .i64 (ep : Int))).setCell ⟨w.heap.size, 1, none⟩ (.slice a j cap)) = wE at *
      obtain ⟨v0, v1, -⟩ := box2 (show wE.heap[w.heap.size]? = some (.cells #[.int .i64 (ep : Int), .slice a j cap] 46 (0, 0)) from hgE)
      refine bodyPost_ret (v := .agg #[.int .i64 (ep : Int), .slice a j cap]) (by simp [results, Tryz.results36, go_sem, v0, v1]) rfl ?_
      refine ⟨a, cap, rfl, ?_, hbE⟩
      have hon := HR.out.2.2.1
      rw [H.out.2.2.1, List.take_length] at hon
      refine own_up (own_keep (ownsRow_base hon (Nat.zero_le _)) fun g hg => hoth g (fun ee => ?_)) fun g hg => ?_
      · have := (World.ownsRow.lt hon g hg).1; omega
      · have := (World.ownsRow.lt hon g hg).1; omega
end Go.Proofs.YtdmbombjkinboaaGreat
