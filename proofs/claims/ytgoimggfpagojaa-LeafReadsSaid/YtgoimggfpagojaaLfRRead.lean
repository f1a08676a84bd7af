/- lockboxref17.Read. -/
import Derived.Test.YtgoimggfpagojaaLfRText
import Derived.Test.YtgoimggfpagojaaCRDe
import Derived.Test.YtgoimggfpagojaaCRefShape
namespace Go.Proofs.Ytgoimggfpagojaa
open Go.RowKit
open Cn

/-- A tag that an item says, if it has the form. -/
def poOf (y : Pt) : Option Po := if shapeP y tnS = true then (match y with
  | .mk _ _ _ [.mk _ _ t _, .mk _ n _ _] => some ⟨t, n⟩
  | _ => none) else none
theorem poOf_poT (p : Po) : poOf (poT p) = some p := by
  unfold poOf
  rw [if_pos (shape_pot p)]
  rfl
theorem poOf_no {y : Pt} (h : shapeP y tnS = false) : poOf y = none := by
  unfold poOf
  rw [if_neg (by rw [h]; decide)]
def tnOf (l : List Pt) : List Po := l.filterMap poOf
theorem tnOf_map : ∀ l : List Po, tnOf (l.map poT) = l
  | [] => rfl
  | p :: l => by
    have ih := tnOf_map l
    unfold tnOf at ih ⊢
    rw [List.map_cons, List.filterMap_cons_some (poOf_poT p), ih]
theorem tnOf_snoc {l : List Pt} {y : Pt} : tnOf (l ++ [y]) = tnOf l ++ (poOf y).toList := by
  unfold tnOf
  rw [List.filterMap_append]
  cases h : poOf y <;> simp [h]
theorem tnOf_len (l : List Pt) : (tnOf l).length ≤ l.length := by unfold tnOf; exact List.length_filterMap_le _ _
/-- As it may be read, and written again. -/
theorem rdL_ref {s : ByteArray} {n k : Int} {t z : ByteArray} {ys : List Pt} (h : decR s.data.toList = .ok (lstT [numT n, numT k, txtT t, lstT ys, txtT z])) :
    rdL s = if (lfS ⟨n, k, t, tnOf ys, z⟩).toList == s.toList then (⟨n, k, t, tnOf ys, z⟩, 0) else (Lf.zero, 3) := by
  cases e : (lfS ⟨n, k, t, tnOf ys, z⟩).toList == s.toList with
  | true =>
    have hs : lfS ⟨n, k, t, tnOf ys, z⟩ = s := Wd.toList_eq (by simpa using e)
    rw [if_pos rfl]
    have hb : lfB ⟨n, k, t, tnOf ys, z⟩ = true := by
      cases hb : lfB ⟨n, k, t, tnOf ys, z⟩ with
      | true => rfl
      | false =>
        have h0 := lfS_empty.2 hb
        have h1 := (decR_ok h).1
        have h2 := bytes_pos (lstT [numT n, numT k, txtT t, lstT ys, txtT z])
        rw [hs] at h0
        rw [h1] at h2
        have h3 : s.data.toList.length = s.size := by simp
        omega
    rw [← hs]
    exact rdL_ok hb
  | false =>
    rw [if_neg (by decide)]
    refine rdL_bad ?_
    rintro ⟨l, hb, rfl⟩
    rw [lfS_dec hb] at h
    injection h with h
    have hl : l = ⟨n, k, t, tnOf ys, z⟩ := by
      unfold lfT lstT numT txtT at h
      injection h with _ _ _ h
      simp only [List.cons.injEq, Pt.mk.injEq, true_and, and_true] at h
      obtain ⟨h1, h2, h3, h4, h5⟩ := h
      obtain ⟨a, b, c, d, e⟩ := l
      simp only at h1 h2 h3 h4 h5
      rw [← h4, tnOf_map, h1, h2, h3, h5]
    rw [← hl] at e
    simp at e
/-- A leaf in the making, in a box that was laid ahead of all else. -/
structure LeS (w w3 : World) (g6 : Nat) (L : Lf) (ad : Option Addr) (cp : Nat) (W : World) : Prop where
  lo : w.heap.size ≤ g6
  lt : g6 < w3.heap.size
  row : W.heap[g6]? = some (.cells (lfCs L ad cp) 30 (0, 0))
  own : OwnR 54 2 poCs w3.heap.size W ad cp L.tags
  kept : ∀ k, k < w3.heap.size → k ≠ g6 → W.heap[k]? = w3.heap[k]?
  size : w3.heap.size ≤ W.heap.size
  below : Below w.heap.size w W
theorem LeS.call {w w3 : World} {g6 : Nat} {L : Lf} {ad : Option Addr} {cp : Nat} {W W' : World} (h : LeS w w3 g6 L ad cp W) (hb : Below W.heap.size W W') : LeS w w3 g6 L ad cp W' :=
  ⟨h.lo, h.lt, (hb.block _ (lt_of_heap h.row)).trans h.row, h.own.call hb, fun k hk hne => (hb.block k (Nat.lt_of_lt_of_le hk h.size)).trans (h.kept k hk hne), Nat.le_trans h.size hb.size, h.below.trans (hb.mono h.below.size)⟩
theorem LeS.drew {w w3 : World} {g6 : Nat} {L : Lf} {ad : Option Addr} {cp : Nat} {W : World} (h : LeS w w3 g6 L ad cp W) : LeS w w3 g6 L ad cp W.drew := h.call ((Below.refl _ _).drew)
theorem LeS.next {w w3 : World} {g6 : Nat} {L : Lf} {ad : Option Addr} {cp : Nat} {W W1 : World} (h : LeS w w3 g6 L ad cp W) {p : Po} {g1 cp1 : Nat} (ho : OwnR 54 2 poCs w3.heap.size W1 (some ⟨g1, 0, none⟩) cp1 (L.tags ++ [p]))
    (hb : Below w3.heap.size W W1) : LeS w w3 g6 ⟨L.n, L.k, L.d, L.tags ++ [p], L.x⟩ (some ⟨g1, 0, none⟩) cp1 (W1.setCell ⟨g6, 3, none⟩ (.slice (some ⟨g1, 0, none⟩) (L.tags.length + 1) cp1)) := by
  have hr := (hb.block g6 h.lt).trans h.row
  have hlo := h.lo
  have hlt := h.lt
  refine ⟨h.lo, h.lt, ?_, ho.other h.lt _, fun k hk hne => ?_, ?_, ?_⟩
  · rw [heap_setCell_same _ _ _ _ _ _ hr]
    simp [lfCs]
  · exact (heap_setCell_other _ _ _ _ hne).trans ((hb.block k hk).trans (h.kept k hk hne))
  · simpa using Nat.le_trans h.size hb.size
  · exact (h.below.trans (hb.mono (by omega))).setCell (p := ⟨g6, 3, none⟩) hlo _
theorem LeS.slice {w w3 : World} {g6 : Nat} {L : Lf} {ad : Option Addr} {cp : Nat} {W : World} (h : LeS w w3 g6 L ad cp W) : W.cell? ⟨g6, 3, none⟩ = some (.slice ad L.tags.length cp) := by rw [cell_of_row _ _ _ _ _ _ h.row]; rfl
theorem RdF.eqs {gi b o yc : Nat} {n k : Int} {t z : ByteArray} {a3 : Option Addr} {n3 c3 : Nat} {W W' : World} (h : RdF gi b o yc n k t z a3 n3 c3 W) (hg : W'.heap[gi]? = W.heap[gi]?) (hb : W'.heap[b]? = W.heap[b]?) : RdF gi b o yc n k t z a3 n3 c3 W' :=
  ⟨(World.cell?_of_block (a := ⟨gi, 3, none⟩) hg).trans h.1, (World.cell?_of_block (a := ⟨b, o + 1, none⟩) hb).trans h.2.1, (World.cell?_of_block (a := ⟨b, o + 5, none⟩) hb).trans h.2.2.1, (World.cell?_of_block (a := ⟨b, o + 10, none⟩) hb).trans h.2.2.2.1, (World.cell?_of_block (a := ⟨b, o + 15, none⟩) hb).trans h.2.2.2.2.1, (World.cell?_of_block (a := ⟨b, o + 18, none⟩) hb).trans h.2.2.2.2.2⟩
/-- What the region that takes a tag out of an item of a list reads. -/
def RdR (gi b o yc b2 o2 j n3 c3 b4 o4 c4 : Nat) (p : Po) (W : World) : Prop :=
  W.cell? ⟨gi, 3, none⟩ = some (.slice (some ⟨b, o, none⟩) 5 yc) ∧ W.cell? ⟨b, o + 15, none⟩ = some (.slice (some ⟨b2, o2, none⟩) n3 c3) ∧ W.cell? ⟨b2, o2 + j * 4 + 3, none⟩ = some (.slice (some ⟨b4, o4, none⟩) 2 c4) ∧ W.cell? ⟨b4, o4 + 2, none⟩ = some (.string p.tag) ∧ W.cell? ⟨b4, o4 + 5, none⟩ = some (.int .i64 p.prev)
theorem RdR.eqs {gi b o yc b2 o2 j n3 c3 b4 o4 c4 : Nat} {p : Po} {W W' : World} (h : RdR gi b o yc b2 o2 j n3 c3 b4 o4 c4 p W) (e1 : W'.heap[gi]? = W.heap[gi]?) (e2 : W'.heap[b]? = W.heap[b]?) (e3 : W'.heap[b2]? = W.heap[b2]?) (e4 : W'.heap[b4]? = W.heap[b4]?) : RdR gi b o yc b2 o2 j n3 c3 b4 o4 c4 p W' :=
  ⟨(World.cell?_of_block (a := ⟨gi, 3, none⟩) e1).trans h.1, (World.cell?_of_block (a := ⟨b, o + 15, none⟩) e2).trans h.2.1, (World.cell?_of_block (a := ⟨b2, o2 + j * 4 + 3, none⟩) e3).trans h.2.2.1, (World.cell?_of_block (a := ⟨b4, o4 + 2, none⟩) e4).trans h.2.2.2.1, (World.cell?_of_block (a := ⟨b4, o4 + 5, none⟩) e4).trans h.2.2.2.2⟩
/-- The blocks of what was decoded. -/
structure Far (w3 : World) (g6 gi b b2 b4 : Nat) : Prop where
  i : gi < w3.heap.size ∧ gi ≠ g6
  b : b < w3.heap.size ∧ b ≠ g6
  b2 : b2 < w3.heap.size ∧ b2 ≠ g6
  b4 : b4 < w3.heap.size ∧ b4 ≠ g6
theorem RdR.below {w3 : World} {g6 gi b o yc b2 o2 j n3 c3 b4 o4 c4 : Nat} {p : Po} {W W' : World} (h : RdR gi b o yc b2 o2 j n3 c3 b4 o4 c4 p W) (hf : Far w3 g6 gi b b2 b4) {B : Nat} (hB : w3.heap.size ≤ B) (hb : Below B W W') : RdR gi b o yc b2 o2 j n3 c3 b4 o4 c4 p W' :=
  h.eqs (hb.block _ (Nat.lt_of_lt_of_le hf.i.1 hB)) (hb.block _ (Nat.lt_of_lt_of_le hf.b.1 hB)) (hb.block _ (Nat.lt_of_lt_of_le hf.b2.1 hB)) (hb.block _ (Nat.lt_of_lt_of_le hf.b4.1 hB))
theorem RdR.put {w3 : World} {g6 gi b o yc b2 o2 j n3 c3 b4 o4 c4 : Nat} {p : Po} {W : World} (h : RdR gi b o yc b2 o2 j n3 c3 b4 o4 c4 p W) (hf : Far w3 g6 gi b b2 b4) (q : Nat) (v : Value) : RdR gi b o yc b2 o2 j n3 c3 b4 o4 c4 p (W.setCell ⟨g6, q, none⟩ v) :=
  h.eqs (heap_setCell_other _ _ _ _ hf.i.2) (heap_setCell_other _ _ _ _ hf.b.2) (heap_setCell_other _ _ _ _ hf.b2.2) (heap_setCell_other _ _ _ _ hf.b4.2)
set_option maxRecDepth 100000 in
set_option maxHeartbeats 8000000 in
theorem rread17_any (s : ByteArray) (hs : s.size ≤ 1000000000) (w : World) : Calls Try.prog 17 #[.string s] w (RdPost (rdL s) w) := by
  obtain ⟨w0, hw0⟩ : ∃ w0, w0 = w.alloc (.cells (lfCs Lf.zero none 0) 30) := ⟨_, rfl⟩
  obtain ⟨w1, hw1⟩ : ∃ w1, w1 = w0.alloc (.cells (lfCs Lf.zero none 0) 30) := ⟨_, rfl⟩
  have hb0 : Below w.heap.size w w0 := by rw [hw0]; exact (Below.refl _ _).alloc (Nat.le_refl _) _
  have hz0 : w0.heap.size = w.heap.size + 1 := by rw [hw0]; simp
  have hb01 : Below w0.heap.size w0 w1 := by rw [hw1]; exact (Below.refl _ _).alloc (Nat.le_refl _) _
  have hz1 : w1.heap.size = w.heap.size + 2 := by rw [hw1]; simp [hz0]
  have hg0 : w1.heap[w.heap.size]? = some (.cells (lfCs Lf.zero none 0) 30 (0, 0)) := by rw [hb01.block _ (by omega), hw0]; exact heap_alloc_new _ _
  have hg1 : w1.heap[w.heap.size + 1]? = some (.cells (lfCs Lf.zero none 0) 30 (0, 0)) := by rw [hw1, ← hz0]; exact heap_alloc_new _ _
  have hb1 : Below w.heap.size w w1 := hb0.trans (hb01.mono hb0.size)
  have hd := rdecode_any s (by unfold maxLen; omega) w1
  obtain ⟨R, hR⟩ : ∃ R, R = rdecR s.data.toList := ⟨_, rfl⟩
  obtain ⟨V, hV⟩ : ∃ V, V = rdL s := ⟨_, rfl⟩
  rw [← hR] at hd
  rw [← hV]
  have H := Lib.hid (And.intro hd (And.intro hb1 (And.intro hg0 (And.intro hV (And.intro hR (And.intro hg1 hz1))))))
  clear hd hb0 hb01 hb1 hg0 hg1 hR hV hz1
  unfold Lf.zero lfCs at hw0 hw1
  simp only [List.length_nil] at hw0 hw1
  go_enter Try.func17, Try.ntmps17
  go_upto_region 2 with fail
  rw [← hw0, ← hw1]
  clear hw0 hw1 hz0
  go_wp2_with fail
  refine H.out.1.mono ?_
  rintro e w2 ⟨hb, hres⟩
  have hz1 := lt_of_heap H.out.2.2.1
  have hz1b := lt_of_heap H.out.2.2.2.2.2.1
  have hb2 := H.out.2.1.trans (hb.mono H.out.2.1.size)
  have hg2 := (hb.block _ hz1).trans H.out.2.2.1
  have hg2b := (hb.block _ hz1b).trans H.out.2.2.2.2.2.1
  have hz2 := Nat.lt_of_lt_of_le hz1 hb.size
  have hz2b := Nat.lt_of_lt_of_le hz1b hb.size
  cases R with
  | error x =>
    obtain ⟨hx, rfl⟩ := hres
    have hx0 : (x != 0) = true := by simpa using hx
    have hx1 : (x == 0) = false := by simpa using hx
    obtain ⟨w3, hw3⟩ : ∃ w3, w3 = w2.alloc (.cells #[.int .i64 0, .int .i64 0, .string ⟨#[]⟩, .slice none 0 0] 65) := ⟨_, rfl⟩
    have hb3 : Below w2.heap.size w2 w3 := by rw [hw3]; exact (Below.refl _ _).alloc (Nat.le_refl _) _
    have hg3 := (hb3.block _ hz2).trans hg2
    obtain ⟨c0, c1, c2, c3, c4⟩ := lf_cell hg3
    have f := row5 hg3
    have HB := Lib.hid (hb2.trans (hb3.mono hb2.size))
    have hdr : ∃ e, decR s.data.toList = .error e := by
      cases hd : decR s.data.toList with
      | error e => exact ⟨e, rfl⟩
      | ok y => have := rdecR_of hd; rw [← H.out.2.2.2.2.1] at this; cases this
    obtain ⟨e', hde⟩ := hdr
    have HV := Lib.hid (H.out.2.2.2.1.trans (rdL_err hde))
    clear hb hb2 hg2 hg2b hz1 hz1b hz2 hz2b hb3 hx hg3 hde
    simp only [zeroIt]
    go_upto_region 3 with fail
    rw [← hw3]
    clear hw3
    go_wp2_with fail
    refine bodyPost_ret (v := .tuple #[.agg #[.int .i64 0, .int .i64 0, .string ⟨#[]⟩, .slice none 0 0, .string ⟨#[]⟩], .int .i64 3]) (by simp [results, Try.results17, go_sem, c0, c1, c2, c3, c4]) rfl ?_
    exact rdPost_zero HV.out (below_put5 HB.out (Nat.le_refl _) _ _ _ _ _)
  | ok x =>
    obtain ⟨it, hpi, rfl, hin⟩ := hres
    have hdx := decR_of H.out.2.2.2.2.1.symm
    have hmx := (decR_ok hdx).2.1
    obtain ⟨yk, yn, ys0, ya, yc, yl⟩ := it
    obtain ⟨w3, hw3⟩ : ∃ w3, w3 = w2.alloc (.cells #[.int .i64 yk, .int .i64 yn, .string ys0, .slice ya yl.length yc] 65) := ⟨_, rfl⟩
    have hb3 : Below w2.heap.size w2 w3 := by rw [hw3]; exact (Below.refl _ _).alloc (Nat.le_refl _) _
    have hg3 : w3.heap[w2.heap.size]? = some (.cells #[.int .i64 yk, .int .i64 yn, .string ys0, .slice ya yl.length yc] 65 (0, 0)) := by rw [hw3]; exact heap_alloc_new _ _
    have hin3 : It.In w3 (w1.heap.size ≤ ·) (.mk yk yn ys0 ya yc yl) := It.In.kept (keptS_any hb3) _ hin
    have hsh := refshape_any _ _ ⟨#[110, 110, 100, 108, 100]⟩ w3 hin3
    have hN : (ByteArray.mk #[110, 110, 100, 108, 100]).data.toList = nndld := rfl
    rw [hN, hpi] at hsh
    simp only [It.val, It.cells, It.k, It.n, It.s, It.a, It.cap, It.l] at hsh ⊢
    have hg23 := (hb3.block _ hz2).trans hg2
    have hg23b := (hb3.block _ hz2b).trans hg2b
    have B3 := hb2.trans (hb3.mono hb2.size)
    obtain ⟨i0, i1, i2, i3⟩ : w3.cell? ⟨w2.heap.size, 0, none⟩ = some (.int .i64 yk) ∧ w3.cell? ⟨w2.heap.size, 1, none⟩ = some (.int .i64 yn) ∧ w3.cell? ⟨w2.heap.size, 2, none⟩ = some (.string ys0) ∧ w3.cell? ⟨w2.heap.size, 3, none⟩ = some (.slice ya yl.length yc) := by refine ⟨?_, ?_, ?_, ?_⟩ <;> (rw [cell_of_row _ _ _ _ _ _ hg3]; rfl)
    cases hP : shapeP x nndld with
    | false =>
      rw [hP] at hsh
      have HV := Lib.hid (H.out.2.2.2.1.trans (rdL_shape hdx hP))
      have HS := Lib.hid (And.intro hsh (And.intro B3 hg23))
      clear hb hb2 hg2 hg2b hz1 hz1b hz2 hz2b hb3 hin hin3 hg3 hsh hN hpi hg23 hg23b B3 hP hmx hdx
      go_upto_region 3 with fail
      rw [← hw3]
      clear hw3
      go_wp2_with fail
      refine HS.out.1.mono ?_
      rintro e w4 ⟨rfl, hb⟩
      have hg4 := (hb.block _ (lt_of_heap HS.out.2.2)).trans HS.out.2.2
      obtain ⟨c0, c1, c2, c3, c4⟩ := lf_cell hg4
      have f := row5 hg4
      have HB := Lib.hid (HS.out.2.1.trans (hb.mono HS.out.2.1.size))
      clear hb hg4
      go_wp2_with fail
      refine bodyPost_ret (v := .tuple #[.agg #[.int .i64 0, .int .i64 0, .string ⟨#[]⟩, .slice none 0 0, .string ⟨#[]⟩], .int .i64 3]) (by simp [results, Try.results17, go_sem, c0, c1, c2, c3, c4]) rfl ?_
      exact rdPost_zero HV.out (below_put5 HB.out (Nat.le_refl _) _ _ _ _ _)
    | true =>
      rw [hP] at hsh
      obtain ⟨n, k, t, ys, z, hx, ht, hz, hyl, hym⟩ := shape5 hmx hP
      have hpl : It.pureAll yl = [numT n, numT k, txtT t, lstT ys, txtT z] := by
        have e : Pt.mk yk yn ys0 (It.pureAll yl) = lstT [numT n, numT k, txtT t, lstT ys, txtT z] := hpi.trans hx
        unfold lstT at e
        injection e
      obtain ⟨hl5, b, o, y3, hya, hbl, hyp, hyi, hRF⟩ := rdF_of hin3.2.1 hin3.2.2 hpl i3
      have hs9 : w1.heap.size ≤ b := by
        obtain ⟨b9, o9, e9, -, h9, -⟩ := hin3.2.1.row (by rw [← It.pureAll_length, hpl]; simp)
        rw [hya] at e9
        injection e9 with e9
        injection e9 with e9
        rw [e9]; exact h9
      subst hya
      rw [hl5] at hsh hw3 i3 ⊢
      have hdec : decR s.data.toList = .ok (lstT [numT n, numT k, txtT t, lstT ys, txtT z]) := by rw [hdx, hx]
      obtain ⟨y3k, y3n, y3s, a3, c3, l3⟩ := y3
      simp only [It.a, It.l, It.cap] at hyp hRF
      obtain ⟨n3, hn3⟩ : ∃ n3, n3 = l3.length := ⟨_, rfl⟩
      rw [← hn3] at hRF
      have hn3y : n3 = ys.length := by rw [hn3, ← hyp, It.pureAll_length]
      have hle3 : n3 ≤ 1024 := by omega
      have hb1w : w1.heap.size ≤ b := hs9
      have hz11 := H.out.2.2.2.2.2.2
      have hw12 : w1.heap.size ≤ w2.heap.size := hb.size
      have hRG : ∀ W, W.heap[w2.heap.size]? = w3.heap[w2.heap.size]? → W.heap[b]? = w3.heap[b]? → RdF w2.heap.size b o yc n k t z a3 n3 c3 W := fun W h1 h2 => hRF.eqs h1 h2
      have hgl := lt_of_heap hg3
      have HS := Lib.hid (And.intro hsh (And.intro B3 (And.intro hg23 (And.intro hRG (And.intro hbl (And.intro hgl (And.intro hdec (And.intro hyp (And.intro hyi (And.intro hn3 (And.intro hym (And.intro hg23b hn3y))))))))))))
      have hnb : ¬ b = w.heap.size + 1 := by omega
      have hni : ¬ w2.heap.size = w.heap.size + 1 := by omega
      have hnb2 : ¬ w.heap.size + 1 = b := by omega
      have hni2 : ¬ w.heap.size + 1 = w2.heap.size := by omega
      have hb2l : b < w3.heap.size := hbl
      clear hb hb2 hg2 hg2b hz1 hz1b hz2 hz2b hb3 hin hin3 hg3 hsh hN hpi hg23 hg23b B3 hP hmx hRF hl5 hdec hyp hyi hn3 hym hx hpl hyl ht hz hn3y hdx hs9 hRG
      go_upto_region 3 with fail
      rw [← hw3]
      clear hw3
      go_wp2_with fail
      refine HS.out.1.mono ?_
      rintro e w4 ⟨rfl, hb⟩
      clear i0 i1 i2 i3
      obtain ⟨g0, g1, g2, g3, g4, g5⟩ := HS.out.2.2.2.1 w4 (hb.block _ hgl) (hb.block _ hbl)
      have hl4 := (hb.block _ (lt_of_heap HS.out.2.2.2.2.2.2.2.2.2.2.2.1)).trans HS.out.2.2.2.2.2.2.2.2.2.2.2.1
      obtain ⟨z0, z1, z2, z3, z4⟩ := lf_cell hl4
      have zf := row5 hl4
      have HW := Lib.hid (And.intro hb hl4)
      clear hb hl4
      go_upto_region 9 with fail
      obtain ⟨w5, hw5⟩ : ∃ w5, w5 = (((w4.setCell ⟨w.heap.size + 1, 0, none⟩ (.int .i64 n)).setCell ⟨w.heap.size + 1, 1, none⟩ (.int .i64 k)).setCell ⟨w.heap.size + 1, 2, none⟩ (.string t)).setCell ⟨w.heap.size + 1, 4, none⟩ (.string z) := ⟨_, rfl⟩
      have hL5 : LeS w w3 (w.heap.size + 1) ⟨n, k, t, [], z⟩ none 0 w5 := by
        rw [hw5]
        have hlt := lt_of_heap HS.out.2.2.2.2.2.2.2.2.2.2.2.1
        refine ⟨by omega, hlt, ?_, OwnR.nil _ _ _ _ _, fun q hq hne => ?_, by simpa using HW.out.1.size, ?_⟩
        · rw [heap_setCell_same _ _ _ _ _ _ (heap_setCell_same _ _ _ _ _ _ (heap_setCell_same _ _ _ _ _ _ (heap_setCell_same _ _ _ _ _ _ HW.out.2)))]
          rfl
        · rw [heap_setCell_other _ _ _ _ hne, heap_setCell_other _ _ _ _ hne, heap_setCell_other _ _ _ _ hne, heap_setCell_other _ _ _ _ hne]
          exact HW.out.1.block q hq
        · exact lput1 (lput1 (lput1 (lput1 (HS.out.2.1.trans (HW.out.1.mono HS.out.2.1.size)) (by omega) 0 _) (by omega) 1 _) (by omega) 2 _) (by omega) 4 _
      have HL := Lib.hid hL5
      rw [← hw5]
      clear hw5 hL5 g0 g1 g2 g3 g4 g5 z0 z1 z2 z3 z4 zf
      go_wp2_with fail
      go_loopw [7] (fun i wr => ∃ (j : Nat) (ad : Option Addr) (cp : Nat), j ≤ n3 ∧ i = .int .i64 (j : Int) ∧ LeS w w3 (w.heap.size + 1) ⟨n, k, t, tnOf (ys.take j), z⟩ ad cp wr) (fun i _ => n3 - (intOf i).toNat)
      case atStart => exact ⟨0, none, 0, by omega, rfl, HL.out⟩
      case round =>
        obtain ⟨j, ad, cp, hj, rfl, hLd⟩ := hrel
        obtain ⟨g0, g1, g2, g3, g4, g5⟩ := HS.out.2.2.2.1 wr (hLd.kept _ hgl hni) (hLd.kept _ hbl hnb)
        have hrr := (hLd.kept _ (lt_of_heap HS.out.2.2.1) (by omega)).trans HS.out.2.2.1
        by_cases hlt : j < n3
        · have hkS : KeptS (w1.heap.size ≤ ·) (w1.heap.size ≤ ·) w3 wr := ⟨fun q hq hl => ⟨hq, hLd.kept q hl (by omega)⟩, hLd.size⟩
          have h33 := HS.out.2.2.2.2.2.2.2.2.1
          have hi3 := It.In.kept hkS _ h33
          rw [It.in_eq] at hi3 h33
          simp only [It.s, It.a, It.l] at hi3 h33
          have hjl : j < l3.length := by have := HS.out.2.2.2.2.2.2.2.2.2.1; omega
          obtain ⟨b2, o2, y, ha3, hb2, hS2, hyj, hyl, q0, q1, q2, q3⟩ := hi3.2.1.at hjl
          subst ha3
          have hb3 : b2 < w3.heap.size := by
            obtain ⟨b', o', e, hl, -⟩ := h33.2.1.row (by omega)
            injection e with e
            injection e with e1
            omega
          have hyi3 := It.inAll_mem h33.2.2 y hyl
          have hyi := It.inAll_mem hi3.2.2 y hyl
          have hyp : ys[j]? = some y.pure := by rw [← HS.out.2.2.2.2.2.2.2.1, It.pureAll_eq, List.getElem?_map, hyj]; rfl
          have hsn : ys.take (j + 1) = ys.take j ++ [y.pure] := by rw [List.take_add_one, hyp]; rfl
          have hmy : may y.pure 4 = true := mayAll_mem HS.out.2.2.2.2.2.2.2.2.2.2.1 _ (List.mem_of_getElem? hyp)
          have hsh := refshape_any _ _ ⟨#[116, 110]⟩ wr hyi
          rw [show (ByteArray.mk #[116, 110]).data.toList = tnS from rfl] at hsh
          obtain ⟨y4k, y4n, y4s, a4, c4, l4⟩ := y
          simp only [It.k, It.n, It.s, It.a, It.l, It.cap] at q0 q1 q2 q3
          simp only [It.val, It.cells, It.k, It.n, It.s, It.a, It.cap, It.l] at hsh
          obtain ⟨P, hP⟩ : ∃ P, P = It.pure (.mk y4k y4n y4s a4 c4 l4) := ⟨_, rfl⟩
          rw [← hP] at hsh hsn hmy hyp
          cases hPd : shapeP P tnS with
          | false =>
            rw [hPd] at hsh
            have hsame : tnOf (ys.take (j + 1)) = tnOf (ys.take j) := by rw [hsn, tnOf_snoc, poOf_no hPd]; simp
            have HM := Lib.hid (And.intro hsh (And.intro hLd hsame))
            clear hsh hLd hsame hrr hkS h33 hi3 hyi3 hyi hyp hsn hmy hP hPd hyj hyl
            go_wp2_with fail
            refine HM.out.1.mono ?_
            rintro e w6 ⟨rfl, hb⟩
            have HN := Lib.hid (HM.out.2.1.call hb)
            clear hb g0 g1 g2 g3 g4 g5 q0 q1 q2 q3
            go_wp2_with fail
            go_roundw
            case rel => exact ⟨j + 1, ad, cp, by omega, by go_num, by rw [HM.out.2.2]; exact HN.out⟩
            case measure => simp [intOf]; omega
          | true =>
            rw [hPd] at hsh
            obtain ⟨p, hp⟩ := shape2t (d := 3) hmy hPd
            have hpl4 : It.pureAll l4 = [txtT p.tag, numT p.prev] := by
              have e := hP.symm.trans hp
              unfold poT lstT at e
              rw [It.pure] at e
              injection e
            have hl4 : l4.length = 2 := by rw [← It.pureAll_length, hpl4]; rfl
            rw [It.in_eq] at hyi hyi3
            simp only [It.s, It.a, It.l] at hyi hyi3
            obtain ⟨b4, o4, ha4, hb4, hS4, hr4⟩ := hyi.2.1.row (by omega)
            have hb43 : b4 < w3.heap.size := by
              obtain ⟨b', o', e, hl, -⟩ := hyi3.2.1.row (by omega)
              rw [ha4] at e
              injection e with e
              injection e with e1
              omega
            subst ha4
            rw [hl4] at hsh q3
            have hfar : Far w3 (w.heap.size + 1) w2.heap.size b b2 b4 := ⟨⟨hgl, hni⟩, ⟨hbl, hnb⟩, ⟨hb3, by omega⟩, ⟨hb43, by omega⟩⟩
            have hQ : RdR w2.heap.size b o yc b2 o2 j n3 c3 b4 o4 c4 p wr := ⟨g0, g4, q3, row_txt (j := 0) hr4 (by rw [hpl4]; rfl), row_num (j := 1) hr4 (by rw [hpl4]; rfl)⟩
            have htk2 : tnOf (ys.take (j + 1)) = tnOf (ys.take j) ++ [p] := by rw [hsn, tnOf_snoc, hp, poOf_poT]; rfl
            have hlen : (tnOf (ys.take j)).length ≤ 1024 := Nat.le_trans (tnOf_len _) (by rw [List.length_take]; omega)
            have HM := Lib.hid (And.intro hsh (And.intro hLd (And.intro hQ (And.intro htk2 (And.intro hfar hlen)))))
            clear hsh hLd hrr hkS h33 hi3 hyi3 hyi hyp hsn hmy hP hPd hyj hyl hp hpl4 hl4 hr4 hb4 hS4 hb43 hQ htk2 hfar hlen
            go_wp2_with fail
            refine HM.out.1.mono ?_
            rintro e w6 ⟨rfl, hb⟩
            have HW6 := Lib.hid (And.intro (HM.out.2.1.call hb) (HM.out.2.2.1.below HM.out.2.2.2.2.1 HM.out.2.1.size hb))
            clear hb g0 g1 g2 g3 g4 g5 q0 q1 q2 q3
            obtain ⟨T, hT⟩ : ∃ T, T = (tnOf (ys.take j)).length := ⟨_, rfl⟩
            have HTl := Lib.hid hT
            clear hT
            go_wp2_with fail
            refine wp_region_held (S := RdR w2.heap.size b o yc b2 o2 j n3 c3 b4 o4 c4 p) (by kernel_rfl) ?_
            have E0 : RdR w2.heap.size b o yc b2 o2 j n3 c3 b4 o4 c4 p w6.drew := HW6.out.2
            have L0 := HW6.out.1.drew
            change wpAnyH _ _ _ _ _ _ _ _ (World.drew _)
            generalize World.drew _ = v0 at *
            refine wpAnyH_take (i := 0) (v := ?_) rfl (by kernel_rfl) (by kernel_rfl) (by kernel_rfl) (fun _ _ _ h => h) (Or.inl ⟨by kernel_rfl, ?_⟩) E0 ?_
            rotate_left
            · (intro W hS; obtain ⟨g0, g1, g2, g3, g4⟩ := hS; go_simp; try (with_reducible rfl))
            refine wpAnyH_take (i := 2) (v := ?_) rfl (by kernel_rfl) (by kernel_rfl) (by kernel_rfl) (fun _ _ _ h => h) (Or.inl ⟨by kernel_rfl, ?_⟩) E0 ?_
            rotate_left
            · (intro W hS; obtain ⟨g0, g1, g2, g3, g4⟩ := hS; go_simp; try (with_reducible rfl))
            refine wpAnyH_take (i := 3) (v := ?_) rfl (by kernel_rfl) (by kernel_rfl) (by kernel_rfl) (fun _ _ _ h => h) (Or.inl ⟨by kernel_rfl, ?_⟩) E0 ?_
            rotate_left
            · (intro W hS; obtain ⟨g0, g1, g2, g3, g4⟩ := hS; go_simp; try (with_reducible rfl))
            refine wpAnyH_take (i := 4) (v := ?_) rfl (by kernel_rfl) (by kernel_rfl) (by kernel_rfl) (fun _ _ _ h => h) (Or.inl ⟨by kernel_rfl, ?_⟩) E0 ?_
            rotate_left
            · (intro W hS; obtain ⟨g0, g1, g2, g3, g4⟩ := hS; go_simp; try (with_reducible rfl))
            refine wpAnyH_take (i := 5) (v := ?_) rfl (by kernel_rfl) (by kernel_rfl) (by kernel_rfl) (fun _ _ _ h => h) (Or.inl ⟨by kernel_rfl, ?_⟩) E0 ?_
            rotate_left
            · (intro W hS; obtain ⟨g0, g1, g2, g3, g4⟩ := hS; go_simp; try (with_reducible rfl))
            refine wpAnyH_take (i := 6) (v := ?_) rfl (by kernel_rfl) (by kernel_rfl) (by kernel_rfl) (fun _ _ _ h => h) (Or.inl ⟨by kernel_rfl, ?_⟩) E0 ?_
            rotate_left
            · (intro W hS; obtain ⟨g0, g1, g2, g3, g4⟩ := hS; go_simp; try (with_reducible rfl))
            refine wpAnyH_take (i := 7) (v := ?_) rfl (by kernel_rfl) (by kernel_rfl) (by kernel_rfl) (fun _ _ _ h => h) (Or.inl ⟨by kernel_rfl, ?_⟩) E0 ?_
            rotate_left
            · (intro W hS; obtain ⟨g0, g1, g2, g3, g4⟩ := hS; go_simp; try (with_reducible rfl))
            refine wpAnyH_take (i := 8) (v := ?_) rfl (by kernel_rfl) (by kernel_rfl) (by kernel_rfl) (fun _ _ _ h => h) (Or.inl ⟨by kernel_rfl, ?_⟩) E0 ?_
            rotate_left
            · (intro W hS; obtain ⟨g0, g1, g2, g3, g4⟩ := hS; go_simp; try (with_reducible rfl))
            refine wpAnyH_take (i := 9) (v := ?_) rfl (by kernel_rfl) (by kernel_rfl) (by kernel_rfl) (fun _ _ _ h => h) (Or.inl ⟨by kernel_rfl, ?_⟩) E0 ?_
            rotate_left
            · (intro W hS; obtain ⟨g0, g1, g2, g3, g4⟩ := hS; go_simp; try (with_reducible rfl))
            refine wpAnyH_take (i := 10) (v := ?_) rfl (by kernel_rfl) (by kernel_rfl) (by kernel_rfl) (fun _ _ _ h => h) (Or.inl ⟨by kernel_rfl, ?_⟩) E0 ?_
            rotate_left
            · (intro W hS; obtain ⟨g0, g1, g2, g3, g4⟩ := hS; go_simp; try (with_reducible rfl))
            refine wpAnyH_take (i := 11) (v := ?_) rfl (by kernel_rfl) (by kernel_rfl) (by kernel_rfl) (fun _ _ _ h => h) (Or.inl ⟨by kernel_rfl, ?_⟩) E0 ?_
            rotate_left
            · (intro W hS; obtain ⟨g0, g1, g2, g3, g4⟩ := hS; go_simp; try (with_reducible rfl))
            refine wpAnyH_take (i := 12) (v := ?_) rfl (by kernel_rfl) (by kernel_rfl) (by kernel_rfl) (fun _ _ _ h => h) (Or.inl ⟨by kernel_rfl, ?_⟩) E0 ?_
            rotate_left
            · (intro W hS; obtain ⟨g0, g1, g2, g3, g4⟩ := hS; go_simp; try (with_reducible rfl))
            refine wpAnyH_take (i := 13) (v := ?_) rfl (by kernel_rfl) (by kernel_rfl) (by kernel_rfl) (fun _ _ _ h => h) (Or.inl ⟨by kernel_rfl, ?_⟩) E0 ?_
            rotate_left
            · (intro W hS; obtain ⟨g0, g1, g2, g3, g4⟩ := hS; go_simp; try (with_reducible rfl))
            refine wpAnyH_take (i := 14) (v := ?_) rfl (by kernel_rfl) (by kernel_rfl) (by kernel_rfl) (fun _ _ _ h => h) (Or.inl ⟨by kernel_rfl, ?_⟩) E0 ?_
            rotate_left
            · (intro W hS; obtain ⟨g0, g1, g2, g3, g4⟩ := hS; go_simp; try (with_reducible rfl))
            refine wpAnyH_take (i := 15) (v := ?_) rfl (by kernel_rfl) (by kernel_rfl) (by kernel_rfl) (fun _ _ _ h => h) (Or.inl ⟨by kernel_rfl, ?_⟩) E0 ?_
            rotate_left
            · (intro W hS; obtain ⟨g0, g1, g2, g3, g4⟩ := hS; go_simp; try (with_reducible rfl))
            refine wpAnyH_take (i := 16) (v := ?_) rfl (by kernel_rfl) (by kernel_rfl) (by kernel_rfl) (fun _ _ _ h => h) (Or.inl ⟨by kernel_rfl, ?_⟩) E0 ?_
            rotate_left
            · (intro W hS; obtain ⟨g0, g1, g2, g3, g4⟩ := hS; go_simp; try (with_reducible rfl))
            refine wpAnyH_take (i := 17) (v := ?_) rfl (by kernel_rfl) (by kernel_rfl) (by kernel_rfl) (fun _ _ _ h => h) (Or.inl ⟨by kernel_rfl, ?_⟩) E0 ?_
            rotate_left
            · (intro W hS; obtain ⟨g0, g1, g2, g3, g4⟩ := hS; go_simp; try (with_reducible rfl))
            refine wpAnyH_take (i := 18) (v := ?_) rfl (by kernel_rfl) (by kernel_rfl) (by kernel_rfl) (fun _ _ _ h => h) (Or.inl ⟨by kernel_rfl, ?_⟩) E0 ?_
            rotate_left
            · (intro W hS; obtain ⟨g0, g1, g2, g3, g4⟩ := hS; go_simp; try (with_reducible rfl))
            refine wpAnyH_take (i := 19) (v := ?_) rfl (by kernel_rfl) (by kernel_rfl) (by kernel_rfl) (fun _ _ _ h => h) (Or.inl ⟨by kernel_rfl, ?_⟩) E0 ?_
            rotate_left
            · (intro W hS; obtain ⟨g0, g1, g2, g3, g4⟩ := hS; go_simp; try (with_reducible rfl))
            refine wpAnyH_take (i := 20) (v := ?_) rfl (by kernel_rfl) (by kernel_rfl) (by kernel_rfl) (fun _ _ _ h => h) (Or.inl ⟨by kernel_rfl, ?_⟩) E0 ?_
            rotate_left
            · (intro W hS; obtain ⟨g0, g1, g2, g3, g4⟩ := hS; go_simp; try (with_reducible rfl))
            refine wpAnyH_take (i := 21) (v := ?_) rfl (by kernel_rfl) (by kernel_rfl) (by kernel_rfl) (fun _ _ _ h => h) (Or.inl ⟨by kernel_rfl, ?_⟩) E0 ?_
            rotate_left
            · (intro W hS; obtain ⟨g0, g1, g2, g3, g4⟩ := hS; go_simp; try (with_reducible rfl))
            refine wpAnyH_take (i := 22) (v := ?_) rfl (by kernel_rfl) (by kernel_rfl) (by kernel_rfl) (fun _ _ _ h => h) (Or.inl ⟨by kernel_rfl, ?_⟩) E0 ?_
            rotate_left
            · (intro W hS; obtain ⟨g0, g1, g2, g3, g4⟩ := hS; go_simp; try (with_reducible rfl))
            refine wpAnyH_take (i := 23) (v := ?_) rfl (by kernel_rfl) (by kernel_rfl) (by kernel_rfl) (fun _ _ _ h => h) (Or.inl ⟨by kernel_rfl, ?_⟩) E0 ?_
            rotate_left
            · (intro W hS; obtain ⟨g0, g1, g2, g3, g4⟩ := hS; go_simp; try (with_reducible rfl))
            refine wpAnyH_take (i := 24) (v := ?_) rfl (by kernel_rfl) (by kernel_rfl) (by kernel_rfl) (fun _ _ _ h => h) (Or.inl ⟨by kernel_rfl, ?_⟩) E0 ?_
            rotate_left
            · (intro W hS; obtain ⟨g0, g1, g2, g3, g4⟩ := hS; go_simp; try (with_reducible rfl))
            refine wpAnyH_take (i := 25) (v := ?_) rfl (by kernel_rfl) (by kernel_rfl) (by kernel_rfl) (fun _ _ _ h => h) (Or.inl ⟨by kernel_rfl, ?_⟩) E0 ?_
            rotate_left
            · (intro W hS; obtain ⟨g0, g1, g2, g3, g4⟩ := hS; go_simp; try (with_reducible rfl))
            refine wpAnyH_take (i := 26) (v := ?_) rfl (by kernel_rfl) (by kernel_rfl) (by kernel_rfl) (fun _ _ _ h => h) (Or.inl ⟨by kernel_rfl, ?_⟩) E0 ?_
            rotate_left
            · (intro W hS; obtain ⟨g0, g1, g2, g3, g4⟩ := hS; go_simp; try (with_reducible rfl))
            refine wpAnyH_ready (rs := [1, 27]) (by kernel_rfl) (by simp) ?_
            refine AllReadyH.cons rfl (fun K hK => ?_) (AllReadyH.cons rfl (fun K hK => ?_) AllReadyH.nil)
            · have qs := L0.slice
              simp only [← HTl.out] at qs
              go_simp
              refine hK.out _ _ E0 (fun _ => ?_)
              clear hK K qs
              refine wpAnyH_ready (rs := [27]) (by kernel_rfl) (by simp) ?_
              refine AllReadyH.cons rfl (fun K hK => ?_) AllReadyH.nil
              obtain ⟨v1, hv⟩ : ∃ v, v = v0.alloc (.cells (poCs p) 54) := ⟨_, rfl⟩
              have hb : Below v0.heap.size v0 v1 := by rw [hv]; exact (Below.refl _ _).alloc (Nat.le_refl _) _
              have gp : v1.heap[v0.heap.size]? = some (.cells (poCs p) 54 (0, 0)) := by rw [hv]; exact heap_alloc_new _ _
              unfold poCs at hv
              go_simp
              rw [← hv]
              clear hv
              have L1 := L0.call hb
              have E1 : RdR w2.heap.size b o yc b2 o2 j n3 c3 b4 o4 c4 p v1 := E0.below HM.out.2.2.2.2.1 L0.size hb
              refine hK.out _ _ E1 (fun _ => ?_)
              clear hK K hb
              refine wpAnyH_ready (rs := [28]) (by kernel_rfl) (by simp) ?_
              refine AllReadyH.cons rfl (fun K hK => ?_) AllReadyH.nil
              refine step_append_r rfl (.tmp 65) (.tmp 91) 28 rfl rposting_rec poCs_one poCs_size L1.own _ (HTl.out.symm) (by kernel_rfl) _ 1 p (by kernel_rfl) gp (by have := HM.out.2.2.2.2.2; have := HTl.out; omega) L1.size (Below.refl _ _) ?_
              intro q cq vz ho hB hgr hat
              have hLk := L1
              have E2 : RdR w2.heap.size b o yc b2 o2 j n3 c3 b4 o4 c4 p vz := E1.below HM.out.2.2.2.2.1 (Nat.le_refl _) hB
              have hN := hLk.next ho hB
              have zr := (hB.block _ hLk.lt).trans hLk.row
              obtain ⟨z0, z1, z2, z3, z4⟩ := lf_cell zr
              have zf := row5 zr
              refine hK.out _ _ E2 (fun _ => ?_)
              clear hK K
              refine wpAnyH_take (i := 29) (v := ?_) rfl (by kernel_rfl) (by kernel_rfl) (by kernel_rfl) (fun _ _ _ h => h) (Or.inl ⟨by kernel_rfl, ?_⟩) E2 ?_
              rotate_left
              · (intro W hS; clear hS; go_simp; try (with_reducible rfl))
              refine wpAnyH_ready (rs := [30]) (by kernel_rfl) (by simp) ?_
              refine AllReadyH.cons rfl (fun K hK => ?_) AllReadyH.nil
              go_simp
              simp only [← HTl.out, ← HM.out.2.2.2.1] at hN
              have E3 : RdR w2.heap.size b o yc b2 o2 j n3 c3 b4 o4 c4 p (vz.setCell ⟨w.heap.size + 1, 3, none⟩ (.slice (some ⟨q, 0, none⟩) (T + 1) cq)) := E2.put HM.out.2.2.2.2.1 _ _
              refine hK.out _ _ E3 (fun _ => ?_)
              clear hK K z0 z1 z2 z3 z4 zf zr
              refine wpAnyH_done (by kernel_rfl) ?_ _
              go_simp
              have HN := Lib.hid hN
              clear hN hLk hgr hB ho gp E0 E1 E2 E3
              go_wp2_with fail
              go_roundw
              case rel => exact ⟨j + 1, _, cq, by omega, by go_num, HN.out⟩
              case measure => simp [intOf]; omega
            · obtain ⟨v1, hv⟩ : ∃ v, v = v0.alloc (.cells (poCs p) 54) := ⟨_, rfl⟩
              have hb : Below v0.heap.size v0 v1 := by rw [hv]; exact (Below.refl _ _).alloc (Nat.le_refl _) _
              have gp : v1.heap[v0.heap.size]? = some (.cells (poCs p) 54 (0, 0)) := by rw [hv]; exact heap_alloc_new _ _
              unfold poCs at hv
              go_simp
              rw [← hv]
              clear hv
              have L1 := L0.call hb
              have E1 : RdR w2.heap.size b o yc b2 o2 j n3 c3 b4 o4 c4 p v1 := E0.below HM.out.2.2.2.2.1 L0.size hb
              refine hK.out _ _ E1 (fun _ => ?_)
              clear hK K hb
              refine wpAnyH_ready (rs := [1]) (by kernel_rfl) (by simp) ?_
              refine AllReadyH.cons rfl (fun K hK => ?_) AllReadyH.nil
              have qs := L1.slice
              simp only [← HTl.out] at qs
              go_simp
              refine hK.out _ _ E1 (fun _ => ?_)
              clear hK K qs
              refine wpAnyH_ready (rs := [28]) (by kernel_rfl) (by simp) ?_
              refine AllReadyH.cons rfl (fun K hK => ?_) AllReadyH.nil
              refine step_append_r rfl (.tmp 65) (.tmp 91) 28 rfl rposting_rec poCs_one poCs_size L1.own _ (HTl.out.symm) (by kernel_rfl) _ 1 p (by kernel_rfl) gp (by have := HM.out.2.2.2.2.2; have := HTl.out; omega) L1.size (Below.refl _ _) ?_
              intro q cq vz ho hB hgr hat
              have hLk := L1
              have E2 : RdR w2.heap.size b o yc b2 o2 j n3 c3 b4 o4 c4 p vz := E1.below HM.out.2.2.2.2.1 (Nat.le_refl _) hB
              have hN := hLk.next ho hB
              have zr := (hB.block _ hLk.lt).trans hLk.row
              obtain ⟨z0, z1, z2, z3, z4⟩ := lf_cell zr
              have zf := row5 zr
              refine hK.out _ _ E2 (fun _ => ?_)
              clear hK K
              refine wpAnyH_take (i := 29) (v := ?_) rfl (by kernel_rfl) (by kernel_rfl) (by kernel_rfl) (fun _ _ _ h => h) (Or.inl ⟨by kernel_rfl, ?_⟩) E2 ?_
              rotate_left
              · (intro W hS; clear hS; go_simp; try (with_reducible rfl))
              refine wpAnyH_ready (rs := [30]) (by kernel_rfl) (by simp) ?_
              refine AllReadyH.cons rfl (fun K hK => ?_) AllReadyH.nil
              go_simp
              simp only [← HTl.out, ← HM.out.2.2.2.1] at hN
              have E3 : RdR w2.heap.size b o yc b2 o2 j n3 c3 b4 o4 c4 p (vz.setCell ⟨w.heap.size + 1, 3, none⟩ (.slice (some ⟨q, 0, none⟩) (T + 1) cq)) := E2.put HM.out.2.2.2.2.1 _ _
              refine hK.out _ _ E3 (fun _ => ?_)
              clear hK K z0 z1 z2 z3 z4 zf zr
              refine wpAnyH_done (by kernel_rfl) ?_ _
              go_simp
              have HN := Lib.hid hN
              clear hN hLk hgr hB ho gp E0 E1 E2 E3
              go_wp2_with fail
              go_roundw
              case rel => exact ⟨j + 1, _, cq, by omega, by go_num, HN.out⟩
              case measure => simp [intOf]; omega
        · obtain rfl : j = n3 := by omega
          have htk : tnOf (ys.take j) = tnOf ys := by rw [List.take_of_length_le (by have := HS.out.2.2.2.2.2.2.2.2.2.2.2.2; omega)]
          rw [htk] at hLd
          have hV := H.out.2.2.2.1.trans (rdL_ref HS.out.2.2.2.2.2.2.1)
          have hlt2 : (tnOf ys).length ≤ 1000000 := Nat.le_trans (tnOf_len ys) (by have := HS.out.2.2.2.2.2.2.2.2.2.2.2.2; omega)
          obtain ⟨TS, hTS⟩ : ∃ TS, TS = tnOf ys := ⟨_, rfl⟩
          rw [← hTS] at hLd hV hlt2
          have hck := rtextL_any ⟨n, k, t, TS, z⟩ ad cp hlt2 wr (poAt_own hLd.own)
          obtain ⟨X, hX⟩ : ∃ X, X = lfS ⟨n, k, t, TS, z⟩ := ⟨_, rfl⟩
          rw [← hX] at hV hck
          obtain ⟨e0, e1, e2, e3, e4⟩ := lf_cell hLd.row
          simp only at e0 e1 e2 e3 e4
          unfold lfCs at hck
          simp only at hck
          have HM := Lib.hid (And.intro hck (And.intro hLd (And.intro hrr hV)))
          clear hck hLd hrr htk hV hX hTS hlt2
          cases hc : (X.toList == s.toList) with
          | false =>
            have hV := HM.out.2.2.2
            rw [hc, if_neg (by decide)] at hV
            have HV := Lib.hid hV
            clear hV
            go_wp2_with fail
            refine HM.out.1.mono ?_
            rintro e w6 ⟨rfl, hb⟩
            have hg6 := (hb.block _ (lt_of_heap HM.out.2.2.1)).trans HM.out.2.2.1
            have HB := Lib.hid (HM.out.2.1.below.trans (hb.mono HM.out.2.1.below.size))
            clear e0 e1 e2 e3 e4 hb g0 g1 g2 g3 g4 g5
            obtain ⟨c0, c1, c2, c3', c4⟩ := lf_cell hg6
            have f := row5 hg6
            clear hg6
            go_wp2_with fail
            refine bodyPost_ret (v := .tuple #[.agg #[.int .i64 0, .int .i64 0, .string ⟨#[]⟩, .slice none 0 0, .string ⟨#[]⟩], .int .i64 3]) (by simp [results, Try.results17, go_sem, c0, c1, c2, c3', c4]) rfl ?_
            exact rdPost_zero HV.out (below_put5 HB.out (Nat.le_refl _) _ _ _ _ _)
          | true =>
            have hV := HM.out.2.2.2
            rw [hc, if_pos rfl] at hV
            have HV := Lib.hid hV
            clear hV
            go_wp2_with fail
            refine HM.out.1.mono ?_
            rintro e w6 ⟨rfl, hb⟩
            have hg6 := (hb.block _ (lt_of_heap HM.out.2.2.1)).trans HM.out.2.2.1
            have L6 := HM.out.2.1.call hb
            clear e0 e1 e2 e3 e4 hb g0 g1 g2 g3 g4 g5
            obtain ⟨c0, c1, c2, c3', c4⟩ := lf_cell hg6
            have f := row5 hg6
            obtain ⟨e0, e1, e2, e3, e4⟩ := lf_cell L6.row
            simp only at e0 e1 e2 e3 e4
            have hr3 : w.heap.size < w3.heap.size := lt_of_heap HS.out.2.2.1
            have HB := Lib.hid (And.intro L6 hr3)
            clear hg6 L6 hr3
            go_wp2_with fail
            refine bodyPost_ret (v := .tuple #[.agg #[.int .i64 n, .int .i64 k, .string t, .slice ad TS.length cp, .string z], .int .i64 0]) (by simp [results, Try.results17, go_sem, c0, c1, c2, c3', c4]) rfl ?_
            exact ⟨ad, cp, by rw [HV.out] <;> rfl, by rw [HV.out]; exact poAt_own (own_put5 HB.out.1.own HB.out.2 _ _ _ _ _), below_put5 HB.out.1.below (Nat.le_refl _) _ _ _ _ _⟩
end Go.Proofs.Ytgoimggfpagojaa
