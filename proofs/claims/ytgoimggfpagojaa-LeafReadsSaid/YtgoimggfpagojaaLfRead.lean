/- Leaves in the making; leaf.Read. -/
import Derived.Test.YtgoimggfpagojaaLfCk
import Derived.Test.YtgoimggfpagojaaLfRd
import Derived.Test.YtgoimggfpagojaaItR
import Derived.Test.YtgoimggfpagojaaMC5
import Derived.Test.YtgoimggfpagojaaClone
import Derived.Deep.RegionHeld
import Derived.Deep.DeepCutAuto
namespace Go.Proofs.Ytgoimggfpagojaa
open Go.RowKit
open Cn

def poCs (p : Po) : Array Value := #[.string p.tag, .int .i64 p.prev]
theorem poCs_size (p : Po) : (poCs p).size = 2 := rfl
theorem poCs_one (p : Po) : ∀ u ∈ (poCs p).toList, u.oneCell' = true := fun u hu => by
  simp only [poCs, List.mem_cons, List.not_mem_nil, or_false] at hu
  rcases hu with rfl | rfl <;> rfl
theorem posting_rec : RecT 50 22 2 24 (.agg #[.string ⟨#[]⟩, .int .i64 0]) := ⟨Try.underlying22, by kernel_rfl, rfl, by decide⟩
theorem rposting_rec : RecT 54 28 2 24 (.agg #[.string ⟨#[]⟩, .int .i64 0]) := ⟨Try.underlying28, by kernel_rfl, rfl, by decide⟩
theorem poAt_own {T : TypeId} {B : Nat} {w : World} {a : Option Addr} {cap : Nat} {l : List Po} (h : OwnR T 2 poCs B w a cap l) : PoAt w a l := fun j p hj => by
  obtain ⟨g, rfl, -, hl, hc⟩ := h.at poCs_size hj
  refine ⟨g, 0, rfl, hl, ?_, ?_⟩
  · have := hc 0 (by decide)
    rw [Nat.add_zero] at this
    rw [Nat.zero_add]; exact this
  · rw [Nat.zero_add]; exact hc 1 (by decide)
/-- A leaf in the making: its box, its tags. -/
structure LdS (T TP : TypeId) (w3 : World) (g6 : Nat) (L : Lf) (ad : Option Addr) (cp : Nat) (W : World) : Prop where
  lo : w3.heap.size ≤ g6
  row : W.heap[g6]? = some (.cells (lfCs L ad cp) T (0, 0))
  own : OwnR TP 2 poCs (g6 + 1) W ad cp L.tags
  below : Below w3.heap.size w3 W
theorem LdS.call {T TP : TypeId} {w3 : World} {g6 : Nat} {L : Lf} {ad : Option Addr} {cp : Nat} {W W' : World} (h : LdS T TP w3 g6 L ad cp W) (hb : Below W.heap.size W W') : LdS T TP w3 g6 L ad cp W' :=
  ⟨h.lo, (hb.block _ (lt_of_heap h.row)).trans h.row, h.own.call hb, h.below.trans (hb.mono h.below.size)⟩
theorem LdS.drew {T TP : TypeId} {w3 : World} {g6 : Nat} {L : Lf} {ad : Option Addr} {cp : Nat} {W : World} (h : LdS T TP w3 g6 L ad cp W) : LdS T TP w3 g6 L ad cp W.drew := h.call ((Below.refl _ _).drew)
/-- One tag more was appended, and the slice laid into the box. -/
theorem LdS.next {T TP : TypeId} {w3 : World} {g6 : Nat} {L : Lf} {ad : Option Addr} {cp : Nat} {W W1 : World} (h : LdS T TP w3 g6 L ad cp W) {p : Po} {g1 cp1 : Nat} (ho : OwnR TP 2 poCs (g6 + 1) W1 (some ⟨g1, 0, none⟩) cp1 (L.tags ++ [p]))
    (hb : Below (g6 + 1) W W1) : LdS T TP w3 g6 ⟨L.n, L.k, L.d, L.tags ++ [p], L.x⟩ (some ⟨g1, 0, none⟩) cp1 (W1.setCell ⟨g6, 3, none⟩ (.slice (some ⟨g1, 0, none⟩) (L.tags.length + 1) cp1)) := by
  have hr := (hb.block g6 (by omega)).trans h.row
  refine ⟨h.lo, ?_, ho.other (Nat.lt_succ_self _) _, ?_⟩
  · rw [heap_setCell_same _ _ _ _ _ _ hr]
    simp [lfCs]
  · have hlo := h.lo
    exact (h.below.trans (hb.mono (by omega))).setCell (p := ⟨g6, 3, none⟩) hlo _
theorem row5 {W : World} {g : Nat} {t : TypeId} {c : Array Value} (h : W.heap[g]? = some (.cells c t (0, 0))) : ∀ j, W.frozen? ⟨g, j, none⟩ = false := fun _ => frozen_of_row _ _ _ _ _ h
theorem lput1 {B : Nat} {w0 w : World} {g : Nat} (hb : Below B w0 w) (hg : B ≤ g) (o : Nat) (v : Value) : Below B w0 (w.setCell ⟨g, o, none⟩ v) := hb.setCell hg v
theorem below_put5 {B : Nat} {w0 w : World} {g : Nat} (hb : Below B w0 w) (hg : B ≤ g) (a b c d e : Value) : Below B w0 (((((w.setCell ⟨g, 0, none⟩ a).setCell ⟨g, 1, none⟩ b).setCell ⟨g, 2, none⟩ c).setCell ⟨g, 3, none⟩ d).setCell ⟨g, 4, none⟩ e) :=
  lput1 (lput1 (lput1 (lput1 (lput1 hb hg 0 a) hg 1 b) hg 2 c) hg 3 d) hg 4 e
theorem lf_set5 {W : World} {g : Nat} {t : TypeId} {c : Array Value} (e : W.heap[g]? = some (.cells c t (0, 0))) (hc : c.size = 5) (L : Lf) (ad : Option Addr) (cp : Nat) :
    (((((W.setCell ⟨g, 0, none⟩ (.int .i64 L.n)).setCell ⟨g, 1, none⟩ (.int .i64 L.k)).setCell ⟨g, 2, none⟩ (.string L.d)).setCell ⟨g, 3, none⟩ (.slice ad L.tags.length cp)).setCell ⟨g, 4, none⟩ (.string L.x)).heap[g]? = some (.cells (lfCs L ad cp) t (0, 0)) := by
  rw [heap_setCell_same _ _ _ _ _ _ (heap_setCell_same _ _ _ _ _ _ (heap_setCell_same _ _ _ _ _ _ (heap_setCell_same _ _ _ _ _ _ (heap_setCell_same _ _ _ _ _ _ e))))]
  obtain ⟨l⟩ := c
  match l, hc with
  | [_, _, _, _, _], _ => rfl
theorem own_put5 {T : TypeId} {B : Nat} {w : World} {a : Option Addr} {cap : Nat} {l : List Po} (h : OwnR T 2 poCs B w a cap l) {g : Nat} (hg : g < B) (v0 v1 v2 v3 v4 : Value) :
    OwnR T 2 poCs B (((((w.setCell ⟨g, 0, none⟩ v0).setCell ⟨g, 1, none⟩ v1).setCell ⟨g, 2, none⟩ v2).setCell ⟨g, 3, none⟩ v3).setCell ⟨g, 4, none⟩ v4) a cap l :=
  ((((h.other hg v0).other hg v1).other hg v2).other hg v3).other hg v4
/-- What reading a leaf makes. -/
def RdPost (V : Lf × Int) (w : World) (e : Ending) (w' : World) : Prop := ∃ a cap, e = .returned (.tuple #[.agg (lfCs V.1 a cap), .int .i64 V.2]) ∧ PoAt w' a V.1.tags ∧ Below w.heap.size w w'
theorem rdPost_zero {w w' : World} {V : Lf × Int} (hV : V = (Lf.zero, 3)) (hb : Below w.heap.size w w') : RdPost V w (.returned (.tuple #[.agg #[.int .i64 0, .int .i64 0, .string ⟨#[]⟩, .slice none 0 0, .string ⟨#[]⟩], .int .i64 3])) w' :=
  ⟨none, 0, by rw [hV]; rfl, by rw [hV]; exact PoAt.nil _ _, hb⟩
/-- What the region that takes a leaf out of an item reads. -/
def RdF (gi b o yc : Nat) (n k : Int) (t z : ByteArray) (a3 : Option Addr) (n3 c3 : Nat) (W : World) : Prop :=
  W.cell? ⟨gi, 3, none⟩ = some (.slice (some ⟨b, o, none⟩) 5 yc) ∧ W.cell? ⟨b, o + 1, none⟩ = some (.int .i64 n) ∧ W.cell? ⟨b, o + 5, none⟩ = some (.int .i64 k) ∧ W.cell? ⟨b, o + 10, none⟩ = some (.string t) ∧ W.cell? ⟨b, o + 15, none⟩ = some (.slice a3 n3 c3) ∧ W.cell? ⟨b, o + 18, none⟩ = some (.string z)
theorem RdF.keep {gi b o yc : Nat} {n k : Int} {t z : ByteArray} {a3 : Option Addr} {n3 c3 : Nat} {B : Nat} {W W' : World} (h : RdF gi b o yc n k t z a3 n3 c3 W) (hb : Below B W W') (hg : gi < B) (hbl : b < B) : RdF gi b o yc n k t z a3 n3 c3 W' :=
  ⟨(hb.cell (p := ⟨gi, 3, none⟩) hg).trans h.1, (hb.cell (p := ⟨b, o + 1, none⟩) hbl).trans h.2.1, (hb.cell (p := ⟨b, o + 5, none⟩) hbl).trans h.2.2.1, (hb.cell (p := ⟨b, o + 10, none⟩) hbl).trans h.2.2.2.1, (hb.cell (p := ⟨b, o + 15, none⟩) hbl).trans h.2.2.2.2.1, (hb.cell (p := ⟨b, o + 18, none⟩) hbl).trans h.2.2.2.2.2⟩
theorem rdF_of {W : World} {S : Nat → Prop} {gi yc : Nat} {ya : Option Addr} {yl : List It} {n k : Int} {t z : ByteArray} {ys : List Pt} (hl : Lies W S ya yl) (ha : It.InAll W S yl) (hp : It.pureAll yl = [numT n, numT k, txtT t, lstT ys, txtT z])
    (hbox : W.cell? ⟨gi, 3, none⟩ = some (.slice ya yl.length yc)) : yl.length = 5 ∧ ∃ b o, ∃ y : It, ya = some ⟨b, o, none⟩ ∧ b < W.heap.size ∧ It.pureAll y.l = ys ∧ y.In W S ∧ RdF gi b o yc n k t z y.a y.l.length y.cap W := by
  have h5 : yl.length = 5 := by rw [← It.pureAll_length, hp]; rfl
  obtain ⟨b, o, rfl, hb, -, hr⟩ := hl.row (by omega)
  obtain ⟨y, -, hy, hyp, hyc⟩ := row_lst (j := 3) hr (by rw [hp]; rfl)
  rw [h5] at hbox
  exact ⟨h5, b, o, y, rfl, hb, hyp, It.inAll_mem ha y hy, hbox, row_num (j := 0) hr (by rw [hp]; rfl), row_num (j := 1) hr (by rw [hp]; rfl), row_txt (j := 2) hr (by rw [hp]; rfl), hyc, row_txt (j := 4) hr (by rw [hp]; rfl)⟩
/-- What the region that takes a tag out of an item reads. -/
def RdQ (g8 b o yc : Nat) (p : Po) (W : World) : Prop :=
  W.cell? ⟨g8, 3, none⟩ = some (.slice (some ⟨b, o, none⟩) 2 yc) ∧ W.cell? ⟨b, o + 2, none⟩ = some (.string p.tag) ∧ W.cell? ⟨b, o + 5, none⟩ = some (.int .i64 p.prev) ∧ g8 < W.heap.size ∧ b < W.heap.size
theorem RdQ.keep {g8 b o yc : Nat} {p : Po} {W W' : World} (h : RdQ g8 b o yc p W) (hb : Below W.heap.size W W') : RdQ g8 b o yc p W' :=
  ⟨(hb.cell (p := ⟨g8, 3, none⟩) h.2.2.2.1).trans h.1, (hb.cell (p := ⟨b, o + 2, none⟩) h.2.2.2.2).trans h.2.1, (hb.cell (p := ⟨b, o + 5, none⟩) h.2.2.2.2).trans h.2.2.1, Nat.lt_of_lt_of_le h.2.2.2.1 hb.size, Nat.lt_of_lt_of_le h.2.2.2.2 hb.size⟩
theorem RdQ.same {g8 b o yc : Nat} {p : Po} {W W' : World} (h : RdQ g8 b o yc p W) (h1 : W'.heap[g8]? = W.heap[g8]?) (h2 : W'.heap[b]? = W.heap[b]?) (hs : W.heap.size ≤ W'.heap.size) : RdQ g8 b o yc p W' :=
  ⟨(World.cell?_of_block (a := ⟨g8, 3, none⟩) h1).trans h.1, (World.cell?_of_block (a := ⟨b, o + 2, none⟩) h2).trans h.2.1, (World.cell?_of_block (a := ⟨b, o + 5, none⟩) h2).trans h.2.2.1, Nat.lt_of_lt_of_le h.2.2.2.1 hs, Nat.lt_of_lt_of_le h.2.2.2.2 hs⟩
theorem LdS.slice {T TP : TypeId} {w3 : World} {g6 : Nat} {L : Lf} {ad : Option Addr} {cp : Nat} {W : World} (h : LdS T TP w3 g6 L ad cp W) : W.cell? ⟨g6, 3, none⟩ = some (.slice ad L.tags.length cp) := by rw [cell_of_row _ _ _ _ _ _ h.row]; rfl
set_option maxRecDepth 100000 in
set_option maxHeartbeats 8000000 in
theorem read17_any (s : ByteArray) (hs : s.size ≤ 1000000000) (w : World) : Calls Try.prog 16 #[.string s] w (RdPost (rdL s) w) := by
  obtain ⟨w1, hw1⟩ : ∃ w1, w1 = w.alloc (.cells (lfCs Lf.zero none 0) 24) := ⟨_, rfl⟩
  have hb1 : Below w.heap.size w w1 := by rw [hw1]; exact (Below.refl _ _).alloc (Nat.le_refl _) _
  have hg1 : w1.heap[w.heap.size]? = some (.cells (lfCs Lf.zero none 0) 24 (0, 0)) := by rw [hw1]; exact heap_alloc_new _ _
  have hd := decode_any s (by unfold maxLen; omega) w1
  obtain ⟨R, hR⟩ : ∃ R, R = decR s.data.toList := ⟨_, rfl⟩
  obtain ⟨V, hV⟩ : ∃ V, V = rdL s := ⟨_, rfl⟩
  rw [← hR] at hd
  rw [← hV]
  have H := Lib.hid (And.intro hd (And.intro hb1 (And.intro hg1 (And.intro hV hR))))
  clear hd hb1 hg1 hR hV hs
  unfold Lf.zero lfCs at hw1
  simp only [List.length_nil] at hw1
  go_enter Try.func16, Try.ntmps16
  go_upto_region 1 with fail
  rw [← hw1]
  clear hw1
  go_wp2_with fail
  refine H.out.1.mono ?_
  rintro e w2 ⟨hb, hres⟩
  have hz1 := lt_of_heap H.out.2.2.1
  have hb2 := H.out.2.1.trans (hb.mono H.out.2.1.size)
  have hg2 := (hb.block _ hz1).trans H.out.2.2.1
  have hz2 := Nat.lt_of_lt_of_le hz1 hb.size
  cases R with
  | error x =>
    obtain ⟨hx, rfl⟩ := hres
    have hx0 : (x != 0) = true := by simpa using hx
    have hx1 : (x == 0) = false := by simpa using hx
    obtain ⟨w3, hw3⟩ : ∃ w3, w3 = w2.alloc (.cells #[.int .i64 0, .int .i64 0, .string ⟨#[]⟩, .slice none 0 0] 57) := ⟨_, rfl⟩
    have hb3 : Below w2.heap.size w2 w3 := by rw [hw3]; exact (Below.refl _ _).alloc (Nat.le_refl _) _
    have hg3 := (hb3.block _ hz2).trans hg2
    obtain ⟨c0, c1, c2, c3, c4⟩ := lf_cell hg3
    have f := row5 hg3
    have HB := Lib.hid (hb2.trans (hb3.mono hb2.size))
    have HV := Lib.hid (H.out.2.2.2.1.trans (rdL_err H.out.2.2.2.2.symm))
    clear hb hb2 hg2 hz1 hz2 hb3 hx hg3
    simp only [zeroIt]
    go_upto_region 2 with fail
    rw [← hw3]
    clear hw3
    go_wp2_with fail
    refine bodyPost_ret (v := .tuple #[.agg #[.int .i64 0, .int .i64 0, .string ⟨#[]⟩, .slice none 0 0, .string ⟨#[]⟩], .int .i64 3]) (by simp [results, Try.results16, go_sem, c0, c1, c2, c3, c4]) rfl ?_
    exact rdPost_zero HV.out (below_put5 HB.out (Nat.le_refl _) _ _ _ _ _)
  | ok x =>
    obtain ⟨it, hpi, rfl, hin⟩ := hres
    have hmx := (decR_ok H.out.2.2.2.2.symm).2.1
    obtain ⟨yk, yn, ys0, ya, yc, yl⟩ := it
    obtain ⟨w3, hw3⟩ : ∃ w3, w3 = w2.alloc (.cells #[.int .i64 yk, .int .i64 yn, .string ys0, .slice ya yl.length yc] 57) := ⟨_, rfl⟩
    have hb3 : Below w2.heap.size w2 w3 := by rw [hw3]; exact (Below.refl _ _).alloc (Nat.le_refl _) _
    have hg3 : w3.heap[w2.heap.size]? = some (.cells #[.int .i64 yk, .int .i64 yn, .string ys0, .slice ya yl.length yc] 57 (0, 0)) := by rw [hw3]; exact heap_alloc_new _ _
    have hin3 : It.In w3 (w1.heap.size ≤ ·) (.mk yk yn ys0 ya yc yl) := It.In.kept (keptS_any hb3) _ hin
    have hsh := shape_any _ _ ⟨#[110, 110, 100, 108, 100]⟩ w3 hin3
    have hN : (ByteArray.mk #[110, 110, 100, 108, 100]).data.toList = nndld := rfl
    rw [hN, hpi] at hsh
    simp only [It.val, It.cells, It.k, It.n, It.s, It.a, It.cap, It.l] at hsh ⊢
    have hg23 := (hb3.block _ hz2).trans hg2
    have B3 := hb2.trans (hb3.mono hb2.size)
    obtain ⟨i0, i1, i2, i3⟩ : w3.cell? ⟨w2.heap.size, 0, none⟩ = some (.int .i64 yk) ∧ w3.cell? ⟨w2.heap.size, 1, none⟩ = some (.int .i64 yn) ∧ w3.cell? ⟨w2.heap.size, 2, none⟩ = some (.string ys0) ∧ w3.cell? ⟨w2.heap.size, 3, none⟩ = some (.slice ya yl.length yc) := by refine ⟨?_, ?_, ?_, ?_⟩ <;> (rw [cell_of_row _ _ _ _ _ _ hg3]; rfl)
    cases hP : shapeP x nndld with
    | false =>
      rw [hP] at hsh
      have HV := Lib.hid (H.out.2.2.2.1.trans (rdL_shape H.out.2.2.2.2.symm hP))
      have HS := Lib.hid (And.intro hsh (And.intro B3 hg23))
      clear hb hb2 hg2 hz1 hz2 hb3 hin hin3 hg3 hsh hN hpi hg23 B3 hP hmx
      go_upto_region 2 with fail
      rw [← hw3]
      clear hw3
      go_wp2_with fail
      refine HS.out.1.mono ?_
      rintro e w4 ⟨rfl, hb⟩
      have hg4 := (hb.block _ (lt_of_heap HS.out.2.2)).trans HS.out.2.2
      obtain ⟨c0, c1, c2, c3, c4⟩ := lf_cell hg4
      have f := row5 hg4
      have HB := Lib.hid (HS.out.2.1.trans (hb.mono HS.out.2.1.size))
      clear hb hg4
      go_wp2_with fail
      refine bodyPost_ret (v := .tuple #[.agg #[.int .i64 0, .int .i64 0, .string ⟨#[]⟩, .slice none 0 0, .string ⟨#[]⟩], .int .i64 3]) (by simp [results, Try.results16, go_sem, c0, c1, c2, c3, c4]) rfl ?_
      exact rdPost_zero HV.out (below_put5 HB.out (Nat.le_refl _) _ _ _ _ _)
    | true =>
      rw [hP] at hsh
      obtain ⟨n, k, t, ys, z, hx, ht, hz, hyl, hym⟩ := shape5 hmx hP
      have hpl : It.pureAll yl = [numT n, numT k, txtT t, lstT ys, txtT z] := by
        have e : Pt.mk yk yn ys0 (It.pureAll yl) = lstT [numT n, numT k, txtT t, lstT ys, txtT z] := hpi.trans hx
        unfold lstT at e
        injection e
      obtain ⟨hl5, b, o, y3, hya, hbl, hyp, hyi, hRF⟩ := rdF_of hin3.2.1 hin3.2.2 hpl i3
      subst hya
      rw [hl5] at hsh hw3 i3 ⊢
      have hdec : decR s.data.toList = .ok (lstT [numT n, numT k, txtT t, lstT ys, txtT z]) := by rw [← H.out.2.2.2.2, hx]
      obtain ⟨y3k, y3n, y3s, a3, c3, l3⟩ := y3
      simp only [It.a, It.l, It.cap] at hyp hRF
      obtain ⟨n3, hn3⟩ : ∃ n3, n3 = l3.length := ⟨_, rfl⟩
      rw [← hn3] at hRF
      have hn3y : n3 = ys.length := by rw [hn3, ← hyp, It.pureAll_length]
      have hle3 : n3 ≤ 1024 := by omega
      have HS := Lib.hid (And.intro hsh (And.intro B3 (And.intro hg23 (And.intro hRF (And.intro hbl (And.intro (lt_of_heap hg3) (And.intro hdec (And.intro hyp (And.intro hyi (And.intro hn3 (And.intro hym (And.intro ht (And.intro hz hn3y)))))))))))))
      clear hb hb2 hg2 hz1 hz2 hb3 hin hin3 hg3 hsh hN hpi hg23 B3 hP hmx hRF hbl hl5 hdec hyp hyi hn3 hym hx hpl hyl ht hz hn3y
      go_upto_region 2 with fail
      rw [← hw3]
      clear hw3
      go_wp2_with fail
      refine HS.out.1.mono ?_
      rintro e w4 ⟨rfl, hb⟩
      have hbd : Below w3.heap.size w3 w4.drew := hb.drew
      have C : RdF w2.heap.size b o yc n k t z a3 n3 c3 w4.drew := HS.out.2.2.2.1.keep hbd HS.out.2.2.2.2.2.1 HS.out.2.2.2.2.1
      clear i0 i1 i2 i3 hb
      go_upto_region 4 with fail
      go_cut [6] (fun p wc => ∃ g6 : Nat, p = .pointer (some ⟨g6, 0, none⟩) ∧ LdS 24 50 w3 g6 ⟨n, k, t, [], z⟩ none 0 wc)
      case first =>
        go_wp2_with fail
        refine wp_region_held (S := RdF w2.heap.size b o yc n k t z a3 n3 c3) (by kernel_rfl) ?_
        change wpAnyH _ _ _ _ _ _ _ _ (World.drew _)
        generalize World.drew _ = wh at *
        refine wpAnyH_take (i := 0) (v := ?_) rfl (by kernel_rfl) (by kernel_rfl) (by kernel_rfl) (fun _ _ _ h => h) (Or.inl ⟨by kernel_rfl, ?_⟩) C ?_
        rotate_left
        · (intro W hS; obtain ⟨g0, g1, g2, g3, g4, g5⟩ := hS; go_simp; try (with_reducible rfl))
        refine wpAnyH_take (i := 1) (v := ?_) rfl (by kernel_rfl) (by kernel_rfl) (by kernel_rfl) (fun _ _ _ h => h) (Or.inl ⟨by kernel_rfl, ?_⟩) C ?_
        rotate_left
        · (intro W hS; obtain ⟨g0, g1, g2, g3, g4, g5⟩ := hS; go_simp; try (with_reducible rfl))
        refine wpAnyH_take (i := 2) (v := ?_) rfl (by kernel_rfl) (by kernel_rfl) (by kernel_rfl) (fun _ _ _ h => h) (Or.inl ⟨by kernel_rfl, ?_⟩) C ?_
        rotate_left
        · (intro W hS; obtain ⟨g0, g1, g2, g3, g4, g5⟩ := hS; go_simp; try (with_reducible rfl))
        refine wpAnyH_take (i := 3) (v := ?_) rfl (by kernel_rfl) (by kernel_rfl) (by kernel_rfl) (fun _ _ _ h => h) (Or.inl ⟨by kernel_rfl, ?_⟩) C ?_
        rotate_left
        · (intro W hS; obtain ⟨g0, g1, g2, g3, g4, g5⟩ := hS; go_simp; try (with_reducible rfl))
        refine wpAnyH_take (i := 4) (v := ?_) rfl (by kernel_rfl) (by kernel_rfl) (by kernel_rfl) (fun _ _ _ h => h) (Or.inl ⟨by kernel_rfl, ?_⟩) C ?_
        rotate_left
        · (intro W hS; obtain ⟨g0, g1, g2, g3, g4, g5⟩ := hS; go_simp; try (with_reducible rfl))
        refine wpAnyH_take (i := 5) (v := ?_) rfl (by kernel_rfl) (by kernel_rfl) (by kernel_rfl) (fun _ _ _ h => h) (Or.inl ⟨by kernel_rfl, ?_⟩) C ?_
        rotate_left
        · (intro W hS; obtain ⟨g0, g1, g2, g3, g4, g5⟩ := hS; go_simp; try (with_reducible rfl))
        refine wpAnyH_take (i := 6) (v := ?_) rfl (by kernel_rfl) (by kernel_rfl) (by kernel_rfl) (fun _ _ _ h => h) (Or.inl ⟨by kernel_rfl, ?_⟩) C ?_
        rotate_left
        · (intro W hS; obtain ⟨g0, g1, g2, g3, g4, g5⟩ := hS; go_simp; try (with_reducible rfl))
        refine wpAnyH_take (i := 7) (v := ?_) rfl (by kernel_rfl) (by kernel_rfl) (by kernel_rfl) (fun _ _ _ h => h) (Or.inl ⟨by kernel_rfl, ?_⟩) C ?_
        rotate_left
        · (intro W hS; obtain ⟨g0, g1, g2, g3, g4, g5⟩ := hS; go_simp; try (with_reducible rfl))
        refine wpAnyH_take (i := 8) (v := ?_) rfl (by kernel_rfl) (by kernel_rfl) (by kernel_rfl) (fun _ _ _ h => h) (Or.inl ⟨by kernel_rfl, ?_⟩) C ?_
        rotate_left
        · (intro W hS; obtain ⟨g0, g1, g2, g3, g4, g5⟩ := hS; go_simp; try (with_reducible rfl))
        refine wpAnyH_take (i := 9) (v := ?_) rfl (by kernel_rfl) (by kernel_rfl) (by kernel_rfl) (fun _ _ _ h => h) (Or.inl ⟨by kernel_rfl, ?_⟩) C ?_
        rotate_left
        · (intro W hS; obtain ⟨g0, g1, g2, g3, g4, g5⟩ := hS; go_simp; try (with_reducible rfl))
        refine wpAnyH_take (i := 10) (v := ?_) rfl (by kernel_rfl) (by kernel_rfl) (by kernel_rfl) (fun _ _ _ h => h) (Or.inl ⟨by kernel_rfl, ?_⟩) C ?_
        rotate_left
        · (intro W hS; obtain ⟨g0, g1, g2, g3, g4, g5⟩ := hS; go_simp; try (with_reducible rfl))
        refine wpAnyH_take (i := 11) (v := ?_) rfl (by kernel_rfl) (by kernel_rfl) (by kernel_rfl) (fun _ _ _ h => h) (Or.inl ⟨by kernel_rfl, ?_⟩) C ?_
        rotate_left
        · (intro W hS; obtain ⟨g0, g1, g2, g3, g4, g5⟩ := hS; go_simp; try (with_reducible rfl))
        refine wpAnyH_take (i := 12) (v := ?_) rfl (by kernel_rfl) (by kernel_rfl) (by kernel_rfl) (fun _ _ _ h => h) (Or.inl ⟨by kernel_rfl, ?_⟩) C ?_
        rotate_left
        · (intro W hS; obtain ⟨g0, g1, g2, g3, g4, g5⟩ := hS; go_simp; try (with_reducible rfl))
        refine wpAnyH_take (i := 13) (v := ?_) rfl (by kernel_rfl) (by kernel_rfl) (by kernel_rfl) (fun _ _ _ h => h) (Or.inl ⟨by kernel_rfl, ?_⟩) C ?_
        rotate_left
        · (intro W hS; obtain ⟨g0, g1, g2, g3, g4, g5⟩ := hS; go_simp; try (with_reducible rfl))
        refine wpAnyH_take (i := 14) (v := ?_) rfl (by kernel_rfl) (by kernel_rfl) (by kernel_rfl) (fun _ _ _ h => h) (Or.inl ⟨by kernel_rfl, ?_⟩) C ?_
        rotate_left
        · (intro W hS; obtain ⟨g0, g1, g2, g3, g4, g5⟩ := hS; go_simp; try (with_reducible rfl))
        refine wpAnyH_take (i := 16) (v := ?_) rfl (by kernel_rfl) (by kernel_rfl) (by kernel_rfl) (fun _ _ _ h => h) (Or.inl ⟨by kernel_rfl, ?_⟩) C ?_
        rotate_left
        · (intro W hS; obtain ⟨g0, g1, g2, g3, g4, g5⟩ := hS; go_simp; try (with_reducible rfl))
        refine wpAnyH_take (i := 17) (v := ?_) rfl (by kernel_rfl) (by kernel_rfl) (by kernel_rfl) (fun _ _ _ h => h) (Or.inl ⟨by kernel_rfl, ?_⟩) C ?_
        rotate_left
        · (intro W hS; obtain ⟨g0, g1, g2, g3, g4, g5⟩ := hS; go_simp; try (with_reducible rfl))
        refine wpAnyH_take (i := 18) (v := ?_) rfl (by kernel_rfl) (by kernel_rfl) (by kernel_rfl) (fun _ _ _ h => h) (Or.inl ⟨by kernel_rfl, ?_⟩) C ?_
        rotate_left
        · (intro W hS; obtain ⟨g0, g1, g2, g3, g4, g5⟩ := hS; go_simp; try (with_reducible rfl))
        refine wpAnyH_take (i := 19) (v := ?_) rfl (by kernel_rfl) (by kernel_rfl) (by kernel_rfl) (fun _ _ _ h => h) (Or.inl ⟨by kernel_rfl, ?_⟩) C ?_
        rotate_left
        · (intro W hS; obtain ⟨g0, g1, g2, g3, g4, g5⟩ := hS; go_simp; try (with_reducible rfl))
        refine wpAnyH_take (i := 20) (v := ?_) rfl (by kernel_rfl) (by kernel_rfl) (by kernel_rfl) (fun _ _ _ h => h) (Or.inl ⟨by kernel_rfl, ?_⟩) C ?_
        rotate_left
        · (intro W hS; obtain ⟨g0, g1, g2, g3, g4, g5⟩ := hS; go_simp; try (with_reducible rfl))
        refine wpAnyH_ready (rs := [15, 23]) (by kernel_rfl) (by simp) ?_
        refine AllReadyH.cons rfl (fun K hK => ?_) (AllReadyH.cons rfl (fun K hK => ?_) AllReadyH.nil)
        · go_simp
          refine (clone_any t wh (by have := HS.out.2.2.2.2.2.2.2.2.2.2.2.1; have := HS.out.2.2.2.2.2.2.2.2.2.2.2.2.1; omega)).mono ?_
          rintro e wb1 ⟨rfl, hb5⟩
          have b1 := hbd.trans (hb5.mono hbd.size)
          have C1 : RdF w2.heap.size b o yc n k t z a3 n3 c3 wb1 := HS.out.2.2.2.1.keep b1 HS.out.2.2.2.2.2.1 HS.out.2.2.2.2.1
          refine hK.out _ _ C1 (fun _ => ?_)
          clear hK K
          refine wpAnyH_ready (rs := [21, 23]) (by kernel_rfl) (by simp) ?_
          refine AllReadyH.cons rfl (fun K hK => ?_) (AllReadyH.cons rfl (fun K hK => ?_) AllReadyH.nil)
          · go_simp
            refine (clone_any z wb1 (by have := HS.out.2.2.2.2.2.2.2.2.2.2.2.1; have := HS.out.2.2.2.2.2.2.2.2.2.2.2.2.1; omega)).mono ?_
            rintro e wb2 ⟨rfl, hb5⟩
            have b2 := b1.trans (hb5.mono b1.size)
            have C2 : RdF w2.heap.size b o yc n k t z a3 n3 c3 wb2 := HS.out.2.2.2.1.keep b2 HS.out.2.2.2.2.2.1 HS.out.2.2.2.2.1
            refine hK.out _ _ C2 (fun _ => ?_)
            clear hK K
            refine wpAnyH_take (i := 22) (v := ?_) rfl (by kernel_rfl) (by kernel_rfl) (by kernel_rfl) (fun _ _ _ h => h) (Or.inl ⟨by kernel_rfl, ?_⟩) C2 ?_
            rotate_left
            · (intro W hS; clear hS; go_simp; try (with_reducible rfl))
            refine wpAnyH_ready (rs := [23]) (by kernel_rfl) (by simp) ?_
            refine AllReadyH.cons rfl (fun K hK => ?_) AllReadyH.nil
            go_simp
            obtain ⟨wb3, hwb⟩ : ∃ wb, wb = wb2.alloc (.cells (lfCs Lf.zero none 0) 24) := ⟨_, rfl⟩
            have ha : Below wb2.heap.size wb2 wb3 := by rw [hwb]; exact (Below.refl _ _).alloc (Nat.le_refl _) _
            have hz : wb3.heap[wb2.heap.size]? = some (.cells (lfCs Lf.zero none 0) 24 (0, 0)) := by rw [hwb]; exact heap_alloc_new _ _
            unfold Lf.zero lfCs at hwb
            simp only [List.length_nil] at hwb
            rw [← hwb]
            clear hwb
            have b3 := b2.trans (ha.mono b2.size)
            have C3 : RdF w2.heap.size b o yc n k t z a3 n3 c3 wb3 := HS.out.2.2.2.1.keep b3 HS.out.2.2.2.2.2.1 HS.out.2.2.2.2.1
            have hgz : w3.heap.size ≤ wb2.heap.size := b2.size
            generalize wb2.heap.size = g6 at *
            refine hK.out _ _ C3 (fun _ => ?_)
            clear hK K
            obtain ⟨m0, m1, m2, m3, m4⟩ := lf_cell hz
            have mf := row5 hz
            refine wpAnyH_ready (rs := [24]) (by kernel_rfl) (by simp) ?_
            refine AllReadyH.cons rfl (fun K hK => ?_) AllReadyH.nil
            go_simp
            have hg6 := lf_set5 hz rfl ⟨n, k, t, [], z⟩ none 0
            have b36 := below_put5 b3 hgz (.int .i64 n) (.int .i64 k) (.string t) (.slice none 0 0) (.string z)
            simp only [List.length_nil] at hg6
            generalize World.setCell _ _ _ = w6 at *
            have C6 : RdF w2.heap.size b o yc n k t z a3 n3 c3 w6 := HS.out.2.2.2.1.keep b36 HS.out.2.2.2.2.2.1 HS.out.2.2.2.2.1
            refine hK.out _ _ C6 (fun _ => ?_)
            clear hK K
            refine wpAnyH_done (by kernel_rfl) ?_ _
            go_simp
            clear m0 m1 m2 m3 m4 mf
            go_wp2_with fail
            go_meet
            exact ⟨g6, rfl, hgz, hg6, OwnR.nil _ _ _ _ _, b36⟩
          · go_simp
            obtain ⟨wb2, hwb⟩ : ∃ wb, wb = wb1.alloc (.cells (lfCs Lf.zero none 0) 24) := ⟨_, rfl⟩
            have ha : Below wb1.heap.size wb1 wb2 := by rw [hwb]; exact (Below.refl _ _).alloc (Nat.le_refl _) _
            have hz : wb2.heap[wb1.heap.size]? = some (.cells (lfCs Lf.zero none 0) 24 (0, 0)) := by rw [hwb]; exact heap_alloc_new _ _
            unfold Lf.zero lfCs at hwb
            simp only [List.length_nil] at hwb
            rw [← hwb]
            clear hwb
            have b2 := b1.trans (ha.mono b1.size)
            have C2 : RdF w2.heap.size b o yc n k t z a3 n3 c3 wb2 := HS.out.2.2.2.1.keep b2 HS.out.2.2.2.2.2.1 HS.out.2.2.2.2.1
            have hgz : w3.heap.size ≤ wb1.heap.size := b1.size
            generalize wb1.heap.size = g6 at *
            refine hK.out _ _ C2 (fun _ => ?_)
            clear hK K
            refine wpAnyH_ready (rs := [21]) (by kernel_rfl) (by simp) ?_
            refine AllReadyH.cons rfl (fun K hK => ?_) AllReadyH.nil
            go_simp
            refine (clone_any z wb2 (by have := HS.out.2.2.2.2.2.2.2.2.2.2.2.1; have := HS.out.2.2.2.2.2.2.2.2.2.2.2.2.1; omega)).mono ?_
            rintro e wb3 ⟨rfl, hb5⟩
            have b3 := b2.trans (hb5.mono b2.size)
            have C3 : RdF w2.heap.size b o yc n k t z a3 n3 c3 wb3 := HS.out.2.2.2.1.keep b3 HS.out.2.2.2.2.2.1 HS.out.2.2.2.2.1
            have hz := (hb5.block _ (lt_of_heap hz)).trans hz
            refine hK.out _ _ C3 (fun _ => ?_)
            clear hK K
            refine wpAnyH_take (i := 22) (v := ?_) rfl (by kernel_rfl) (by kernel_rfl) (by kernel_rfl) (fun _ _ _ h => h) (Or.inl ⟨by kernel_rfl, ?_⟩) C3 ?_
            rotate_left
            · (intro W hS; clear hS; go_simp; try (with_reducible rfl))
            obtain ⟨m0, m1, m2, m3, m4⟩ := lf_cell hz
            have mf := row5 hz
            refine wpAnyH_ready (rs := [24]) (by kernel_rfl) (by simp) ?_
            refine AllReadyH.cons rfl (fun K hK => ?_) AllReadyH.nil
            go_simp
            have hg6 := lf_set5 hz rfl ⟨n, k, t, [], z⟩ none 0
            have b36 := below_put5 b3 hgz (.int .i64 n) (.int .i64 k) (.string t) (.slice none 0 0) (.string z)
            simp only [List.length_nil] at hg6
            generalize World.setCell _ _ _ = w6 at *
            have C6 : RdF w2.heap.size b o yc n k t z a3 n3 c3 w6 := HS.out.2.2.2.1.keep b36 HS.out.2.2.2.2.2.1 HS.out.2.2.2.2.1
            refine hK.out _ _ C6 (fun _ => ?_)
            clear hK K
            refine wpAnyH_done (by kernel_rfl) ?_ _
            go_simp
            clear m0 m1 m2 m3 m4 mf
            go_wp2_with fail
            go_meet
            exact ⟨g6, rfl, hgz, hg6, OwnR.nil _ _ _ _ _, b36⟩
        · go_simp
          obtain ⟨wb1, hwb⟩ : ∃ wb, wb = wh.alloc (.cells (lfCs Lf.zero none 0) 24) := ⟨_, rfl⟩
          have ha : Below wh.heap.size wh wb1 := by rw [hwb]; exact (Below.refl _ _).alloc (Nat.le_refl _) _
          have hz : wb1.heap[wh.heap.size]? = some (.cells (lfCs Lf.zero none 0) 24 (0, 0)) := by rw [hwb]; exact heap_alloc_new _ _
          unfold Lf.zero lfCs at hwb
          simp only [List.length_nil] at hwb
          rw [← hwb]
          clear hwb
          have b1 := hbd.trans (ha.mono hbd.size)
          have C1 : RdF w2.heap.size b o yc n k t z a3 n3 c3 wb1 := HS.out.2.2.2.1.keep b1 HS.out.2.2.2.2.2.1 HS.out.2.2.2.2.1
          have hgz : w3.heap.size ≤ wh.heap.size := hbd.size
          generalize wh.heap.size = g6 at *
          refine hK.out _ _ C1 (fun _ => ?_)
          clear hK K
          refine wpAnyH_ready (rs := [15]) (by kernel_rfl) (by simp) ?_
          refine AllReadyH.cons rfl (fun K hK => ?_) AllReadyH.nil
          go_simp
          refine (clone_any t wb1 (by have := HS.out.2.2.2.2.2.2.2.2.2.2.2.1; have := HS.out.2.2.2.2.2.2.2.2.2.2.2.2.1; omega)).mono ?_
          rintro e wb2 ⟨rfl, hb5⟩
          have b2 := b1.trans (hb5.mono b1.size)
          have C2 : RdF w2.heap.size b o yc n k t z a3 n3 c3 wb2 := HS.out.2.2.2.1.keep b2 HS.out.2.2.2.2.2.1 HS.out.2.2.2.2.1
          have hz := (hb5.block _ (lt_of_heap hz)).trans hz
          refine hK.out _ _ C2 (fun _ => ?_)
          clear hK K
          refine wpAnyH_ready (rs := [21]) (by kernel_rfl) (by simp) ?_
          refine AllReadyH.cons rfl (fun K hK => ?_) AllReadyH.nil
          go_simp
          refine (clone_any z wb2 (by have := HS.out.2.2.2.2.2.2.2.2.2.2.2.1; have := HS.out.2.2.2.2.2.2.2.2.2.2.2.2.1; omega)).mono ?_
          rintro e wb3 ⟨rfl, hb5⟩
          have b3 := b2.trans (hb5.mono b2.size)
          have C3 : RdF w2.heap.size b o yc n k t z a3 n3 c3 wb3 := HS.out.2.2.2.1.keep b3 HS.out.2.2.2.2.2.1 HS.out.2.2.2.2.1
          have hz := (hb5.block _ (lt_of_heap hz)).trans hz
          refine hK.out _ _ C3 (fun _ => ?_)
          clear hK K
          refine wpAnyH_take (i := 22) (v := ?_) rfl (by kernel_rfl) (by kernel_rfl) (by kernel_rfl) (fun _ _ _ h => h) (Or.inl ⟨by kernel_rfl, ?_⟩) C3 ?_
          rotate_left
          · (intro W hS; clear hS; go_simp; try (with_reducible rfl))
          obtain ⟨m0, m1, m2, m3, m4⟩ := lf_cell hz
          have mf := row5 hz
          refine wpAnyH_ready (rs := [24]) (by kernel_rfl) (by simp) ?_
          refine AllReadyH.cons rfl (fun K hK => ?_) AllReadyH.nil
          go_simp
          have hg6 := lf_set5 hz rfl ⟨n, k, t, [], z⟩ none 0
          have b36 := below_put5 b3 hgz (.int .i64 n) (.int .i64 k) (.string t) (.slice none 0 0) (.string z)
          simp only [List.length_nil] at hg6
          generalize World.setCell _ _ _ = w6 at *
          have C6 : RdF w2.heap.size b o yc n k t z a3 n3 c3 w6 := HS.out.2.2.2.1.keep b36 HS.out.2.2.2.2.2.1 HS.out.2.2.2.2.1
          refine hK.out _ _ C6 (fun _ => ?_)
          clear hK K
          refine wpAnyH_done (by kernel_rfl) ?_ _
          go_simp
          clear m0 m1 m2 m3 m4 mf
          go_wp2_with fail
          go_meet
          exact ⟨g6, rfl, hgz, hg6, OwnR.nil _ _ _ _ _, b36⟩
      case rest =>
        obtain ⟨g6, rfl, hL⟩ := hcut
        have C1 : RdF w2.heap.size b o yc n k t z a3 n3 c3 wc := HS.out.2.2.2.1.keep hL.below HS.out.2.2.2.2.2.1 HS.out.2.2.2.2.1
        obtain ⟨d0, d1, d2, d3, d4, d5⟩ := C1
        have HL := Lib.hid hL
        clear hL C hbd
        go_wp2_with fail
        clear d0 d1 d2 d3 d4 d5
        go_loopw [8, 51] (fun _ i wr => ∃ (j : Nat) (ps : List Po) (ad : Option Addr) (cp : Nat), j ≤ n3 ∧ i = .int .i64 (j : Int) ∧ ps.length = j ∧ ys.take j = ps.map poT ∧ LdS 24 50 w3 g6 ⟨n, k, t, ps, z⟩ ad cp wr) (fun _ i _ => n3 - (intOf i).toNat)
        case atStart => exact ⟨0, [], none, 0, by omega, rfl, rfl, rfl, HL.out⟩
        case round =>
          obtain ⟨j, ps, ad, cp, hj, rfl, hlen, htk, hLd⟩ := hrel
          have hbe := hLd.below
          have hrr := (hbe.block _ (lt_of_heap HS.out.2.2.1)).trans HS.out.2.2.1
          by_cases hlt : j < n3
          · have hi3 := It.In.kept (keptS_any hbe) _ HS.out.2.2.2.2.2.2.2.2.1
            rw [It.in_eq] at hi3
            simp only [It.s, It.a, It.l] at hi3
            have hjl : j < l3.length := by have := HS.out.2.2.2.2.2.2.2.2.2.1; omega
            obtain ⟨b2, o2, y, ha3, hb2, hS2, hyj, hyl, q0, q1, q2, q3⟩ := hi3.2.1.at hjl
            subst ha3
            have hyi := It.inAll_mem hi3.2.2 y hyl
            have hb3 : b2 < w3.heap.size := by
              have h3 := HS.out.2.2.2.2.2.2.2.2.1
              rw [It.in_eq] at h3
              simp only [It.s, It.a, It.l] at h3
              obtain ⟨b', o', e, hl, -⟩ := h3.2.1.row (by omega)
              injection e with e
              injection e with e1
              omega
            have hyp : ys[j]? = some y.pure := by rw [← HS.out.2.2.2.2.2.2.2.1, It.pureAll_eq, List.getElem?_map, hyj]; rfl
            have hsn : ys.take (j + 1) = ys.take j ++ [y.pure] := by rw [List.take_add_one, hyp]; rfl
            have hmy : may y.pure 4 = true := mayAll_mem HS.out.2.2.2.2.2.2.2.2.2.2.1 _ (List.mem_of_getElem? hyp)
            have hyb : ∀ b4 o4, y.a = some ⟨b4, o4, none⟩ → 0 < y.l.length → b4 < w3.heap.size := fun b4 o4 e hl => by
              have h3 := It.inAll_mem (by have h3 := HS.out.2.2.2.2.2.2.2.2.1; rw [It.in_eq] at h3; exact h3.2.2) y hyl
              rw [It.in_eq] at h3
              obtain ⟨b', o', e2, hl2, -⟩ := h3.2.1.row hl
              rw [e] at e2
              injection e2 with e2
              injection e2 with e2
              omega
            obtain ⟨y4k, y4n, y4s, a4, c4, l4⟩ := y
            simp only [It.k, It.n, It.s, It.a, It.l, It.cap] at q0 q1 q2 q3 hyb
            obtain ⟨w5, hw5⟩ : ∃ w5, w5 = wr.alloc (.cells #[.int .i64 y4k, .int .i64 y4n, .string y4s, .slice a4 l4.length c4] 57) := ⟨_, rfl⟩
            have hb5 : Below wr.heap.size wr w5 := by rw [hw5]; exact (Below.refl _ _).alloc (Nat.le_refl _) _
            have hg5 : w5.heap[wr.heap.size]? = some (.cells #[.int .i64 y4k, .int .i64 y4n, .string y4s, .slice a4 l4.length c4] 57 (0, 0)) := by rw [hw5]; exact heap_alloc_new _ _
            have hin5 := It.In.kept (keptS_any hb5) _ hyi
            have hsh := shape_any _ _ ⟨#[100, 110]⟩ w5 hin5
            rw [show (ByteArray.mk #[100, 110]).data.toList = dnS from rfl] at hsh
            simp only [It.val, It.cells, It.k, It.n, It.s, It.a, It.cap, It.l] at hsh
            obtain ⟨P, hP⟩ : ∃ P, P = It.pure (.mk y4k y4n y4s a4 c4 l4) := ⟨_, rfl⟩
            rw [← hP] at hsh hsn hmy hyp
            have hL5 := hLd.call hb5
            have hr5 := (hb5.block _ (lt_of_heap hrr)).trans hrr
            have hB5 := HS.out.2.1.trans (hL5.below.mono HS.out.2.1.size)
            obtain ⟨e0, e1, e2, e3⟩ : w5.cell? ⟨wr.heap.size, 0, none⟩ = some (.int .i64 y4k) ∧ w5.cell? ⟨wr.heap.size, 1, none⟩ = some (.int .i64 y4n) ∧ w5.cell? ⟨wr.heap.size, 2, none⟩ = some (.string y4s) ∧ w5.cell? ⟨wr.heap.size, 3, none⟩ = some (.slice a4 l4.length c4) := by refine ⟨?_, ?_, ?_, ?_⟩ <;> (rw [cell_of_row _ _ _ _ _ _ hg5]; rfl)
            cases hPd : shapeP P dnS with
            | false =>
              rw [hPd] at hsh
              have HV := Lib.hid (H.out.2.2.2.1.trans (rdL_tag HS.out.2.2.2.2.2.2.1 (List.mem_of_getElem? hyp) hPd))
              have HM := Lib.hid (And.intro hsh (And.intro hr5 hB5))
              have m1 : ¬ b2 = wr.heap.size := by omega
              have m2 : ¬ wr.heap.size = b2 := by omega
              clear hsh hr5 hB5 hL5 hin5 hg5 hb5 hyi hi3 hrr hbe hLd hyp hsn hmy hP hPd htk hlen hyb hyl hyj
              go_upto_region 8 with fail
              rw [← hw5]
              clear hw5
              go_wp2_with fail
              refine HM.out.1.mono ?_
              rintro e w6 ⟨rfl, hb⟩
              have hg6 := (hb.block _ (lt_of_heap HM.out.2.1)).trans HM.out.2.1
              obtain ⟨c0, c1, c2, c3, c4'⟩ := lf_cell hg6
              have f := row5 hg6
              have HB := Lib.hid (HM.out.2.2.trans (hb.mono HM.out.2.2.size))
              clear hb hg6
              go_wp2_with fail
              refine bodyPost_ret (v := .tuple #[.agg #[.int .i64 0, .int .i64 0, .string ⟨#[]⟩, .slice none 0 0, .string ⟨#[]⟩], .int .i64 3]) (by simp [results, Try.results16, go_sem, c0, c1, c2, c3, c4']) rfl ?_
              exact rdPost_zero HV.out (below_put5 HB.out (Nat.le_refl _) _ _ _ _ _)
            | true =>
              rw [hPd] at hsh
              obtain ⟨p, hp, hpt⟩ := shape2 (d := 3) hmy hPd
              have hpl4 : It.pureAll l4 = [txtT p.tag, numT p.prev] := by
                have e := hP.symm.trans hp
                unfold poT lstT at e
                rw [It.pure] at e
                injection e
              have hl4 : l4.length = 2 := by rw [← It.pureAll_length, hpl4]; rfl
              rw [It.in_eq] at hin5
              simp only [It.s, It.a, It.l] at hin5
              obtain ⟨b4, o4, ha4, hb4, -, hr4⟩ := hin5.2.1.row (by omega)
              subst ha4
              have hb43 := hyb b4 o4 rfl (by omega)
              rw [hl4] at hsh hw5 e3 q3
              have hQ : RdQ wr.heap.size b4 o4 c4 p w5 := ⟨e3, row_txt (j := 0) hr4 (by rw [hpl4]; rfl), row_num (j := 1) hr4 (by rw [hpl4]; rfl), lt_of_heap hg5, hb4⟩
              have htk2 : ys.take (j + 1) = (ps ++ [p]).map poT := by rw [hsn, htk, hp, List.map_append]; rfl
              have hown : ∀ q, (Value.slice ad ps.length cp).ownBlock = some q → q < wr.heap.size := fun q hq => (hLd.own.lt q hq).2
              have hg6w : g6 < wr.heap.size := lt_of_heap hLd.row
              have hnb : ¬ b2 = wr.heap.size := by omega
              have hnb2 : ¬ wr.heap.size = b2 := by omega
              have HM := Lib.hid (And.intro hsh (And.intro hL5 (And.intro hQ (And.intro htk2 (And.intro hlen (And.intro hpt (And.intro hown hb43)))))))
              clear hsh hr5 hB5 hL5 hin5 hg5 hb5 hyi hi3 hrr hbe hLd hyp hsn hmy hP hPd htk hlen hyb hyl hyj hQ htk2 hp hpt hpl4 hl4 hr4 hb4 hown hb43
              go_upto_region 8 with fail
              rw [← hw5]
              clear hw5 q0 q1 q2 q3
              go_wp2_with fail
              refine HM.out.1.mono ?_
              rintro e w6 ⟨rfl, hb⟩
              have L6 := HM.out.2.1.call hb
              have Q6 := HM.out.2.2.1.keep hb
              have HW := Lib.hid (And.intro L6 (And.intro Q6 hb))
              clear hb L6 Q6 e0 e1 e2 e3
              go_upto_region 10 with fail
              go_wp2_with fail
              refine wp_region_held (S := RdQ wr.heap.size b4 o4 c4 p) (by kernel_rfl) ?_
              have E0 : RdQ wr.heap.size b4 o4 c4 p w6.drew := HW.out.2.1.keep ((Below.refl _ _).drew)
              have L0 := HW.out.1.drew
              have F0 : Below w5.heap.size w5 w6.drew := HW.out.2.2.drew
              change wpAnyH _ _ _ _ _ _ _ _ (World.drew _)
              generalize World.drew _ = v0 at *
              refine wpAnyH_take (i := 0) (v := ?_) rfl (by kernel_rfl) (by kernel_rfl) (by kernel_rfl) (fun _ _ _ h => h) (Or.inl ⟨by kernel_rfl, ?_⟩) E0 ?_
              rotate_left
              · (intro W hS; obtain ⟨g0, g1, g2, g3, g4⟩ := hS; go_simp; try (with_reducible rfl))
              refine wpAnyH_take (i := 2) (v := ?_) rfl (by kernel_rfl) (by kernel_rfl) (by kernel_rfl) (fun _ _ _ h => h) (Or.inl ⟨by kernel_rfl, ?_⟩) E0 ?_
              rotate_left
              · (intro W hS; obtain ⟨g0, g1, g2, g3, g4⟩ := hS; go_simp; try (with_reducible rfl))
              refine wpAnyH_take (i := 3) (v := ?_) rfl (by kernel_rfl) (by kernel_rfl) (by kernel_rfl) (fun _ _ _ h => h) (Or.inl ⟨by kernel_rfl, ?_⟩) E0 ?_
              rotate_left
              · (intro W hS; obtain ⟨g0, g1, g2, g3, g4⟩ := hS; go_simp; try (with_reducible rfl))
              refine wpAnyH_take (i := 4) (v := ?_) rfl (by kernel_rfl) (by kernel_rfl) (by kernel_rfl) (fun _ _ _ h => h) (Or.inl ⟨by kernel_rfl, ?_⟩) E0 ?_
              rotate_left
              · (intro W hS; obtain ⟨g0, g1, g2, g3, g4⟩ := hS; go_simp; try (with_reducible rfl))
              refine wpAnyH_take (i := 5) (v := ?_) rfl (by kernel_rfl) (by kernel_rfl) (by kernel_rfl) (fun _ _ _ h => h) (Or.inl ⟨by kernel_rfl, ?_⟩) E0 ?_
              rotate_left
              · (intro W hS; obtain ⟨g0, g1, g2, g3, g4⟩ := hS; go_simp; try (with_reducible rfl))
              refine wpAnyH_take (i := 6) (v := ?_) rfl (by kernel_rfl) (by kernel_rfl) (by kernel_rfl) (fun _ _ _ h => h) (Or.inl ⟨by kernel_rfl, ?_⟩) E0 ?_
              rotate_left
              · (intro W hS; obtain ⟨g0, g1, g2, g3, g4⟩ := hS; go_simp; try (with_reducible rfl))
              refine wpAnyH_take (i := 8) (v := ?_) rfl (by kernel_rfl) (by kernel_rfl) (by kernel_rfl) (fun _ _ _ h => h) (Or.inl ⟨by kernel_rfl, ?_⟩) E0 ?_
              rotate_left
              · (intro W hS; obtain ⟨g0, g1, g2, g3, g4⟩ := hS; go_simp; try (with_reducible rfl))
              refine wpAnyH_take (i := 9) (v := ?_) rfl (by kernel_rfl) (by kernel_rfl) (by kernel_rfl) (fun _ _ _ h => h) (Or.inl ⟨by kernel_rfl, ?_⟩) E0 ?_
              rotate_left
              · (intro W hS; obtain ⟨g0, g1, g2, g3, g4⟩ := hS; go_simp; try (with_reducible rfl))
              refine wpAnyH_take (i := 10) (v := ?_) rfl (by kernel_rfl) (by kernel_rfl) (by kernel_rfl) (fun _ _ _ h => h) (Or.inl ⟨by kernel_rfl, ?_⟩) E0 ?_
              rotate_left
              · (intro W hS; obtain ⟨g0, g1, g2, g3, g4⟩ := hS; go_simp; try (with_reducible rfl))
              refine wpAnyH_take (i := 11) (v := ?_) rfl (by kernel_rfl) (by kernel_rfl) (by kernel_rfl) (fun _ _ _ h => h) (Or.inl ⟨by kernel_rfl, ?_⟩) E0 ?_
              rotate_left
              · (intro W hS; obtain ⟨g0, g1, g2, g3, g4⟩ := hS; go_simp; try (with_reducible rfl))
              refine wpAnyH_take (i := 12) (v := ?_) rfl (by kernel_rfl) (by kernel_rfl) (by kernel_rfl) (fun _ _ _ h => h) (Or.inl ⟨by kernel_rfl, ?_⟩) E0 ?_
              rotate_left
              · (intro W hS; obtain ⟨g0, g1, g2, g3, g4⟩ := hS; go_simp; try (with_reducible rfl))
              refine wpAnyH_ready (rs := [1, 7]) (by kernel_rfl) (by simp) ?_
              refine AllReadyH.cons rfl (fun K hK => ?_) (AllReadyH.cons rfl (fun K hK => ?_) AllReadyH.nil)
              · have qs := L0.slice
                rw [HM.out.2.2.2.2.1] at qs
                go_simp
                refine hK.out _ _ E0 (fun _ => ?_)
                clear hK K qs
                refine wpAnyH_ready (rs := [7]) (by kernel_rfl) (by simp) ?_
                refine AllReadyH.cons rfl (fun K hK => ?_) AllReadyH.nil
                go_simp
                refine (clone_any p.tag v0 (by have := HM.out.2.2.2.2.2.1; omega)).mono ?_
                rintro e v1 ⟨rfl, hb⟩
                have L1 := L0.call hb
                have E1 := E0.keep hb
                have F1 := F0.trans (hb.mono F0.size)
                refine hK.out _ _ E1 (fun _ => ?_)
                clear hK K hb
                refine wpAnyH_take (i := 13) (v := ?_) rfl (by kernel_rfl) (by kernel_rfl) (by kernel_rfl) (fun _ _ _ h => h) (Or.inl ⟨by kernel_rfl, ?_⟩) E1 ?_
                rotate_left
                · (intro W hS; clear hS; go_simp; try (with_reducible rfl))
                refine wpAnyH_ready (rs := [14]) (by kernel_rfl) (by simp) ?_
                refine AllReadyH.cons rfl (fun K hK => ?_) AllReadyH.nil
                obtain ⟨v2, hv⟩ : ∃ v, v = v1.alloc (.cells (poCs p) 50) := ⟨_, rfl⟩
                have hb : Below v1.heap.size v1 v2 := by rw [hv]; exact (Below.refl _ _).alloc (Nat.le_refl _) _
                have gp : v2.heap[v1.heap.size]? = some (.cells (poCs p) 50 (0, 0)) := by rw [hv]; exact heap_alloc_new _ _
                have gb : v1.heap.size < v2.heap.size := lt_of_heap gp
                unfold poCs at hv
                go_simp
                rw [← hv]
                clear hv
                have L2 := L1.call hb
                have E2 := E1.keep hb
                have F2 := F1.trans (hb.mono F1.size)
                refine hK.out _ _ E2 (fun _ => ?_)
                clear hK K hb
                refine wpAnyH_ready (rs := [15]) (by kernel_rfl) (by simp) ?_
                refine AllReadyH.cons rfl (fun K hK => ?_) AllReadyH.nil
                refine step_append_r rfl (.tmp 60) (.tmp 73) 22 rfl posting_rec poCs_one poCs_size L2.own _ (HM.out.2.2.2.2.1) (by kernel_rfl) _ 1 p (by kernel_rfl) gp (by omega) (lt_of_heap L2.row) (Below.refl _ _) ?_
                intro q cq vz ho hB hgr hat
                have hLk := L2
                have E3 : RdQ wr.heap.size b4 o4 c4 p vz := E2.same (hgr.block _ E2.2.2.2.1 (fun e => by have := HM.out.2.2.2.2.2.2.1 _ (by rw [HM.out.2.2.2.2.1]; exact e.symm); omega)) (hB.block _ (by have := HM.out.2.2.2.2.2.2.2; have := hLk.lo; omega)) hgr.size
                have hN := hLk.next ho hB
                have zr := (hB.block g6 (Nat.lt_succ_self _)).trans hLk.row
                obtain ⟨z0, z1, z2, z3, z4⟩ := lf_cell zr
                have zf := row5 zr
                refine hK.out _ _ E3 (fun _ => ?_)
                clear hK K
                refine wpAnyH_take (i := 16) (v := ?_) rfl (by kernel_rfl) (by kernel_rfl) (by kernel_rfl) (fun _ _ _ h => h) (Or.inl ⟨by kernel_rfl, ?_⟩) E3 ?_
                rotate_left
                · (intro W hS; clear hS; go_simp; try (with_reducible rfl))
                refine wpAnyH_ready (rs := [17]) (by kernel_rfl) (by simp) ?_
                refine AllReadyH.cons rfl (fun K hK => ?_) AllReadyH.nil
                go_simp
                simp only [HM.out.2.2.2.2.1] at hN
                have E4 : RdQ wr.heap.size b4 o4 c4 p (vz.setCell ⟨g6, 3, none⟩ (.slice (some ⟨q, 0, none⟩) (j + 1) cq)) := E3.same (heap_setCell_other _ _ _ _ (fun e => by have e2 : wr.heap.size = g6 := e; have := HM.out.2.2.2.2.2.2.2; have := lt_of_heap HM.out.2.1.row; have hg := hg6w; omega)) (heap_setCell_other _ _ _ _ (fun e => by have e2 : b4 = g6 := e; have := HM.out.2.2.2.2.2.2.2; have := hLk.lo; omega)) (by simp)
                refine hK.out _ _ E4 (fun _ => ?_)
                clear hK K z0 z1 z2 z3 z4 zf zr
                refine wpAnyH_done (by kernel_rfl) ?_ _
                go_simp
                have HN := Lib.hid (And.intro hN (show (ps ++ [p]).length = j + 1 by rw [List.length_append, HM.out.2.2.2.2.1]; rfl))
                clear hN hLk hgr hB ho gp E0 E1 E2 E3 E4
                go_wp2_with fail
                go_roundw
                case rel => exact ⟨j + 1, ps ++ [p], _, cq, by omega, by go_num, HN.out.2, HM.out.2.2.2.1, HN.out.1⟩
                case measure => simp [intOf]; omega
              · go_simp
                refine (clone_any p.tag v0 (by have := HM.out.2.2.2.2.2.1; omega)).mono ?_
                rintro e v1 ⟨rfl, hb⟩
                have L1 := L0.call hb
                have E1 := E0.keep hb
                have F1 := F0.trans (hb.mono F0.size)
                refine hK.out _ _ E1 (fun _ => ?_)
                clear hK K hb
                refine wpAnyH_take (i := 13) (v := ?_) rfl (by kernel_rfl) (by kernel_rfl) (by kernel_rfl) (fun _ _ _ h => h) (Or.inl ⟨by kernel_rfl, ?_⟩) E1 ?_
                rotate_left
                · (intro W hS; clear hS; go_simp; try (with_reducible rfl))
                refine wpAnyH_ready (rs := [1, 14]) (by kernel_rfl) (by simp) ?_
                refine AllReadyH.cons rfl (fun K hK => ?_) (AllReadyH.cons rfl (fun K hK => ?_) AllReadyH.nil)
                · have qs := L1.slice
                  rw [HM.out.2.2.2.2.1] at qs
                  go_simp
                  refine hK.out _ _ E1 (fun _ => ?_)
                  clear hK K qs
                  refine wpAnyH_ready (rs := [14]) (by kernel_rfl) (by simp) ?_
                  refine AllReadyH.cons rfl (fun K hK => ?_) AllReadyH.nil
                  obtain ⟨v2, hv⟩ : ∃ v, v = v1.alloc (.cells (poCs p) 50) := ⟨_, rfl⟩
                  have hb : Below v1.heap.size v1 v2 := by rw [hv]; exact (Below.refl _ _).alloc (Nat.le_refl _) _
                  have gp : v2.heap[v1.heap.size]? = some (.cells (poCs p) 50 (0, 0)) := by rw [hv]; exact heap_alloc_new _ _
                  have gb : v1.heap.size < v2.heap.size := lt_of_heap gp
                  unfold poCs at hv
                  go_simp
                  rw [← hv]
                  clear hv
                  have L2 := L1.call hb
                  have E2 := E1.keep hb
                  have F2 := F1.trans (hb.mono F1.size)
                  refine hK.out _ _ E2 (fun _ => ?_)
                  clear hK K hb
                  refine wpAnyH_ready (rs := [15]) (by kernel_rfl) (by simp) ?_
                  refine AllReadyH.cons rfl (fun K hK => ?_) AllReadyH.nil
                  refine step_append_r rfl (.tmp 60) (.tmp 73) 22 rfl posting_rec poCs_one poCs_size L2.own _ (HM.out.2.2.2.2.1) (by kernel_rfl) _ 1 p (by kernel_rfl) gp (by omega) (lt_of_heap L2.row) (Below.refl _ _) ?_
                  intro q cq vz ho hB hgr hat
                  have hLk := L2
                  have E3 : RdQ wr.heap.size b4 o4 c4 p vz := E2.same (hgr.block _ E2.2.2.2.1 (fun e => by have := HM.out.2.2.2.2.2.2.1 _ (by rw [HM.out.2.2.2.2.1]; exact e.symm); omega)) (hB.block _ (by have := HM.out.2.2.2.2.2.2.2; have := hLk.lo; omega)) hgr.size
                  have hN := hLk.next ho hB
                  have zr := (hB.block g6 (Nat.lt_succ_self _)).trans hLk.row
                  obtain ⟨z0, z1, z2, z3, z4⟩ := lf_cell zr
                  have zf := row5 zr
                  refine hK.out _ _ E3 (fun _ => ?_)
                  clear hK K
                  refine wpAnyH_take (i := 16) (v := ?_) rfl (by kernel_rfl) (by kernel_rfl) (by kernel_rfl) (fun _ _ _ h => h) (Or.inl ⟨by kernel_rfl, ?_⟩) E3 ?_
                  rotate_left
                  · (intro W hS; clear hS; go_simp; try (with_reducible rfl))
                  refine wpAnyH_ready (rs := [17]) (by kernel_rfl) (by simp) ?_
                  refine AllReadyH.cons rfl (fun K hK => ?_) AllReadyH.nil
                  go_simp
                  simp only [HM.out.2.2.2.2.1] at hN
                  have E4 : RdQ wr.heap.size b4 o4 c4 p (vz.setCell ⟨g6, 3, none⟩ (.slice (some ⟨q, 0, none⟩) (j + 1) cq)) := E3.same (heap_setCell_other _ _ _ _ (fun e => by have e2 : wr.heap.size = g6 := e; have := HM.out.2.2.2.2.2.2.2; have := lt_of_heap HM.out.2.1.row; have hg := hg6w; omega)) (heap_setCell_other _ _ _ _ (fun e => by have e2 : b4 = g6 := e; have := HM.out.2.2.2.2.2.2.2; have := hLk.lo; omega)) (by simp)
                  refine hK.out _ _ E4 (fun _ => ?_)
                  clear hK K z0 z1 z2 z3 z4 zf zr
                  refine wpAnyH_done (by kernel_rfl) ?_ _
                  go_simp
                  have HN := Lib.hid (And.intro hN (show (ps ++ [p]).length = j + 1 by rw [List.length_append, HM.out.2.2.2.2.1]; rfl))
                  clear hN hLk hgr hB ho gp E0 E1 E2 E3 E4
                  go_wp2_with fail
                  go_roundw
                  case rel => exact ⟨j + 1, ps ++ [p], _, cq, by omega, by go_num, HN.out.2, HM.out.2.2.2.1, HN.out.1⟩
                  case measure => simp [intOf]; omega
                · obtain ⟨v2, hv⟩ : ∃ v, v = v1.alloc (.cells (poCs p) 50) := ⟨_, rfl⟩
                  have hb : Below v1.heap.size v1 v2 := by rw [hv]; exact (Below.refl _ _).alloc (Nat.le_refl _) _
                  have gp : v2.heap[v1.heap.size]? = some (.cells (poCs p) 50 (0, 0)) := by rw [hv]; exact heap_alloc_new _ _
                  have gb : v1.heap.size < v2.heap.size := lt_of_heap gp
                  unfold poCs at hv
                  go_simp
                  rw [← hv]
                  clear hv
                  have L2 := L1.call hb
                  have E2 := E1.keep hb
                  have F2 := F1.trans (hb.mono F1.size)
                  refine hK.out _ _ E2 (fun _ => ?_)
                  clear hK K hb
                  refine wpAnyH_ready (rs := [1]) (by kernel_rfl) (by simp) ?_
                  refine AllReadyH.cons rfl (fun K hK => ?_) AllReadyH.nil
                  have qs := L2.slice
                  rw [HM.out.2.2.2.2.1] at qs
                  go_simp
                  refine hK.out _ _ E2 (fun _ => ?_)
                  clear hK K qs
                  refine wpAnyH_ready (rs := [15]) (by kernel_rfl) (by simp) ?_
                  refine AllReadyH.cons rfl (fun K hK => ?_) AllReadyH.nil
                  refine step_append_r rfl (.tmp 60) (.tmp 73) 22 rfl posting_rec poCs_one poCs_size L2.own _ (HM.out.2.2.2.2.1) (by kernel_rfl) _ 1 p (by kernel_rfl) gp (by omega) (lt_of_heap L2.row) (Below.refl _ _) ?_
                  intro q cq vz ho hB hgr hat
                  have hLk := L2
                  have E3 : RdQ wr.heap.size b4 o4 c4 p vz := E2.same (hgr.block _ E2.2.2.2.1 (fun e => by have := HM.out.2.2.2.2.2.2.1 _ (by rw [HM.out.2.2.2.2.1]; exact e.symm); omega)) (hB.block _ (by have := HM.out.2.2.2.2.2.2.2; have := hLk.lo; omega)) hgr.size
                  have hN := hLk.next ho hB
                  have zr := (hB.block g6 (Nat.lt_succ_self _)).trans hLk.row
                  obtain ⟨z0, z1, z2, z3, z4⟩ := lf_cell zr
                  have zf := row5 zr
                  refine hK.out _ _ E3 (fun _ => ?_)
                  clear hK K
                  refine wpAnyH_take (i := 16) (v := ?_) rfl (by kernel_rfl) (by kernel_rfl) (by kernel_rfl) (fun _ _ _ h => h) (Or.inl ⟨by kernel_rfl, ?_⟩) E3 ?_
                  rotate_left
                  · (intro W hS; clear hS; go_simp; try (with_reducible rfl))
                  refine wpAnyH_ready (rs := [17]) (by kernel_rfl) (by simp) ?_
                  refine AllReadyH.cons rfl (fun K hK => ?_) AllReadyH.nil
                  go_simp
                  simp only [HM.out.2.2.2.2.1] at hN
                  have E4 : RdQ wr.heap.size b4 o4 c4 p (vz.setCell ⟨g6, 3, none⟩ (.slice (some ⟨q, 0, none⟩) (j + 1) cq)) := E3.same (heap_setCell_other _ _ _ _ (fun e => by have e2 : wr.heap.size = g6 := e; have := HM.out.2.2.2.2.2.2.2; have := lt_of_heap HM.out.2.1.row; have hg := hg6w; omega)) (heap_setCell_other _ _ _ _ (fun e => by have e2 : b4 = g6 := e; have := HM.out.2.2.2.2.2.2.2; have := hLk.lo; omega)) (by simp)
                  refine hK.out _ _ E4 (fun _ => ?_)
                  clear hK K z0 z1 z2 z3 z4 zf zr
                  refine wpAnyH_done (by kernel_rfl) ?_ _
                  go_simp
                  have HN := Lib.hid (And.intro hN (show (ps ++ [p]).length = j + 1 by rw [List.length_append, HM.out.2.2.2.2.1]; rfl))
                  clear hN hLk hgr hB ho gp E0 E1 E2 E3 E4
                  go_wp2_with fail
                  go_roundw
                  case rel => exact ⟨j + 1, ps ++ [p], _, cq, by omega, by go_num, HN.out.2, HM.out.2.2.2.1, HN.out.1⟩
                  case measure => simp [intOf]; omega
          · obtain rfl : j = n3 := by omega
            have hys : ys = ps.map poT := by rw [← htk, List.take_of_length_le (by have := HS.out.2.2.2.2.2.2.2.2.2.2.2.2.2; omega)]
            have hdec : decR s.data.toList = .ok (lfT ⟨n, k, t, ps, z⟩) := by rw [HS.out.2.2.2.2.2.2.1, hys]; rfl
            have hV := H.out.2.2.2.1.trans (rdL_is hdec)
            have hck := check17_any ⟨n, k, t, ps, z⟩ ad cp (by show ps.length ≤ _; omega) wr (poAt_own hLd.own)
            obtain ⟨B, hB⟩ : ∃ B, B = lfB ⟨n, k, t, ps, z⟩ := ⟨_, rfl⟩
            rw [← hB] at hV hck
            obtain ⟨e0, e1, e2, e3, e4⟩ := lf_cell hLd.row
            simp only at e0 e1 e2 e3 e4
            unfold lfCs at hck
            simp only at hck
            have HM := Lib.hid (And.intro hck (And.intro hLd (And.intro hrr hV)))
            clear hck hLd hrr hbe htk hys hdec hV hB hlen
            go_wp2_with fail
            refine HM.out.1.mono ?_
            rintro e w6 ⟨rfl, hb⟩
            have L6 := HM.out.2.1.call hb
            have hg6 := (hb.block _ (lt_of_heap HM.out.2.2.1)).trans HM.out.2.2.1
            have hr6 : w.heap.size < g6 + 1 := by have := lt_of_heap HS.out.2.2.1; have := L6.lo; omega
            have hB6 := HS.out.2.1.trans (L6.below.mono HS.out.2.1.size)
            clear e0 e1 e2 e3 e4
            obtain ⟨c0, c1, c2, c3', c4⟩ := lf_cell hg6
            have f := row5 hg6
            obtain ⟨e0, e1, e2, e3, e4⟩ := lf_cell L6.row
            simp only at e0 e1 e2 e3 e4
            cases B with
            | false =>
              have HV := Lib.hid (show V = (Lf.zero, 3) by rw [HM.out.2.2.2, if_neg (by decide)])
              have HB := Lib.hid hB6
              clear hb L6 hg6 hr6 hB6
              go_wp2_with fail
              refine bodyPost_ret (v := .tuple #[.agg #[.int .i64 0, .int .i64 0, .string ⟨#[]⟩, .slice none 0 0, .string ⟨#[]⟩], .int .i64 3]) (by simp [results, Try.results16, go_sem, c0, c1, c2, c3', c4]) rfl ?_
              exact rdPost_zero HV.out (below_put5 HB.out (Nat.le_refl _) _ _ _ _ _)
            | true =>
              have HV := Lib.hid (show V = (⟨n, k, t, ps, z⟩, 0) by rw [HM.out.2.2.2, if_pos rfl])
              have HB := Lib.hid (And.intro hB6 (And.intro L6 hr6))
              have hne : ¬ g6 = w.heap.size := by have := lt_of_heap HS.out.2.2.1; have := L6.lo; omega
              have hne2 : ¬ w.heap.size = g6 := fun e => hne e.symm
              clear hb L6 hg6 hr6 hB6
              go_wp2_with fail
              refine bodyPost_ret (v := .tuple #[.agg #[.int .i64 n, .int .i64 k, .string t, .slice ad ps.length cp, .string z], .int .i64 0]) (by simp [results, Try.results16, go_sem, c0, c1, c2, c3', c4]) rfl ?_
              exact ⟨ad, cp, by rw [HV.out] <;> rfl, by rw [HV.out]; exact poAt_own (own_put5 HB.out.2.1.own HB.out.2.2 _ _ _ _ _), below_put5 HB.out.1 (Nat.le_refl _) _ _ _ _ _⟩
end Go.Proofs.Ytgoimggfpagojaa
