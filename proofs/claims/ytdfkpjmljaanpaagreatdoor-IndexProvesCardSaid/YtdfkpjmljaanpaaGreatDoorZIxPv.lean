/- IxPv, what is wanted of it. -/
import Derived.Test.YtdfkpjmljaanpaaGreatDoorZMX9
import Derived.Test.YtdfkpjmljaanpaaGreatDoorZMX5
import Derived.Test.YtdfkpjmljaanpaaGreatDoorZIxShow
import Derived.Test.YtdfkpjmljaanpaaGreatDoorZTrWay2
namespace Go.Proofs.YtdfkpjmljaanpaaGreatDoor
open Go.RowKit
open Cn
theorem arproof_rec : RecT 131 32 5 64 (.agg #[.int .i64 0, .string ⟨#[]⟩, .int .i64 0, .int .i64 0, .slice none 0 0]) := ⟨Tryz.underlying32, by kernel_rfl, rfl, by decide⟩
/-- Texts of the call's own, that do not lie in these two blocks. -/
structure FarT (B gp : Nat) (row : Option Nat) (a : Option Addr) (cap : Nat) (l : List ByteArray) (W : World) : Prop where
  own : OwnT B W a cap l
  np : ∀ g, (Value.slice a l.length cap).ownBlock = some g → g ≠ gp
  nr : ∀ g, (Value.slice a l.length cap).ownBlock = some g → row ≠ some g
/-- The state: the proof under its box, its rows, their ways; the digests. -/
structure PvS (w : World) (v : Value) (n : Int) (gp : Nat) (rs : List ShW) (a : Option Addr) (ca : Nat) (d : Option Addr) (dc : Nat) (D : List ByteArray) (W : World) : Prop where
  lo : w.heap.size + 2 ≤ gp
  box : W.heap[w.heap.size]? = some (.cells #[v] 25 (0, 0))
  res : W.heap[w.heap.size + 1]? = some (.cells #[.int .i64 0, .slice none 0 0] 34 (0, 0))
  row : W.heap[gp]? = some (.cells #[.int .i64 n, .slice a rs.length ca] 34 (0, 0))
  own : OwnR 131 5 shCs (w.heap.size + 2) W a ca rs
  ap : ∀ g, (Value.slice a rs.length ca).ownBlock = some g → g ≠ gp
  ways : ∀ r ∈ rs, FarT (w.heap.size + 2) gp (Value.slice a rs.length ca).ownBlock r.2.1 r.2.2 r.1.way W
  dg : FarT (w.heap.size + 2) gp (Value.slice a rs.length ca).ownBlock d dc D W
  below : Below w.heap.size w W
section
variable {w : World} {v : Value} {n : Int} {gp : Nat} {rs : List ShW} {a : Option Addr} {ca : Nat} {d : Option Addr} {dc : Nat} {D : List ByteArray} {W : World}
theorem FarT.call {B : Nat} {row : Option Nat} {l : List ByteArray} {W' : World} (h : FarT B gp row a ca l W) (hb : Below W.heap.size W W') : FarT B gp row a ca l W' := ⟨OwnT.call h.own hb, h.np, h.nr⟩
theorem PvS.call {W' : World} (h : PvS w v n gp rs a ca d dc D W) (hb : Below W.heap.size W W') : PvS w v n gp rs a ca d dc D W' :=
  ⟨h.lo, (hb.block _ (lt_of_heap h.box)).trans h.box, (hb.block _ (lt_of_heap h.res)).trans h.res, (hb.block _ (lt_of_heap h.row)).trans h.row, h.own.call hb, h.ap, fun r hr => (h.ways r hr).call hb, h.dg.call hb, h.below.trans (hb.mono h.below.size)⟩
theorem PvS.size (h : PvS w v n gp rs a ca d dc D W) : gp < W.heap.size := lt_of_heap h.row
theorem PvS.xcell (h : PvS w v n gp rs a ca d dc D W) : W.cell? ⟨w.heap.size, 0, none⟩ = some v := by rw [cell_of_row _ _ _ _ _ _ h.box]; rfl
theorem PvS.rcell (h : PvS w v n gp rs a ca d dc D W) : W.cell? ⟨w.heap.size + 1, 0, none⟩ = some (.int .i64 0) ∧ W.cell? ⟨w.heap.size + 1, 1, none⟩ = some (.slice none 0 0) ∧ (∀ j, W.frozen? ⟨w.heap.size + 1, j, none⟩ = false) := by
  refine ⟨?_, ?_, fun j => frozen_of_row _ _ _ _ _ h.res⟩ <;> (rw [cell_of_row _ _ _ _ _ _ h.res]; rfl)
theorem PvS.pcell (h : PvS w v n gp rs a ca d dc D W) : W.cell? ⟨gp, 0, none⟩ = some (.int .i64 n) ∧ W.cell? ⟨gp, 1, none⟩ = some (.slice a rs.length ca) ∧ (∀ j, W.frozen? ⟨gp, j, none⟩ = false) := by
  refine ⟨?_, ?_, fun j => frozen_of_row _ _ _ _ _ h.row⟩ <;> (rw [cell_of_row _ _ _ _ _ _ h.row]; rfl)
theorem FarT.moved {B g1 : Nat} {row : Option Nat} {W1 : World} {b : Option Addr} {cb : Nat} {l : List ByteArray} (h : FarT B gp row b cb l W) (hg : W.grownBy W1 row) (hat : row = some g1 ∨ g1 = W.heap.size) (x : Value) : FarT B gp (some g1) b cb l (W1.setCell ⟨gp, 1, none⟩ x) := by
  refine ⟨?_, h.np, fun g hgg e => ?_⟩
  · have h1 := OwnT.beside h.own hg (fun g e => fun hb => h.nr g hb e)
    obtain ⟨k1, k2⟩ := h1
    refine ⟨k1, ?_⟩
    rcases k2 with k2 | ⟨q, c, cur, e, hB, hq, h3⟩
    · exact .inl k2
    · have hne : q ≠ gp := h.np q (by rw [e]; rfl)
      exact .inr ⟨q, c, cur, e, hB, (heap_setCell_other W1 ⟨gp, 1, none⟩ q x hne).trans hq, h3⟩
  · injection e with e
    subst e
    rcases hat with h1 | h1
    · exact h.nr _ hgg h1
    · have := (World.ownsRow.lt h.own _ hgg).2
      omega
/-- One row more. -/
theorem PvS.add (h : PvS w v n gp rs a ca d dc D W) {r : ShW} {W1 : World} {g1 c1 m : Nat} (hm : rs.length + 1 = m) (hr : FarT (w.heap.size + 2) gp (Value.slice a rs.length ca).ownBlock r.2.1 r.2.2 r.1.way W)
    (ho : OwnR 131 5 shCs (w.heap.size + 2) W1 (some ⟨g1, 0, none⟩) c1 (rs ++ [r])) (hg : W.grownBy W1 (Value.slice a rs.length ca).ownBlock) (hat : (Value.slice a rs.length ca).ownBlock = some g1 ∨ g1 = W.heap.size) :
    PvS w v n gp (rs ++ [r]) (some ⟨g1, 0, none⟩) c1 d dc D (W1.setCell ⟨gp, 1, none⟩ (.slice (some ⟨g1, 0, none⟩) m c1)) := by
  subst hm
  have hs := h.size
  have hlo := h.lo
  have hob : ∀ k, (Value.slice (some ⟨g1, 0, none⟩) k c1).ownBlock = some g1 := fun _ => rfl
  have hg1 : g1 ≠ gp := by
    rcases hat with h1 | h1
    · exact h.ap _ h1
    · omega
  have hnb : ∀ k, k < w.heap.size + 2 → some k ≠ (Value.slice a rs.length ca).ownBlock := fun k hk e => by have := (h.own.lt k e.symm).1; omega
  refine ⟨hlo, (heap_setCell_other _ _ _ _ (show w.heap.size ≠ gp by omega)).trans ((hg.block _ (by omega) (hnb _ (by omega))).trans h.box), (heap_setCell_other _ _ _ _ (show w.heap.size + 1 ≠ gp by omega)).trans ((hg.block _ (by omega) (hnb _ (by omega))).trans h.res), ?_, ho.otherNe (fun q hq => ?_) _, fun q hq => ?_, fun q hq => ?_, ?_, ?_⟩
  · rw [heap_setCell_same _ _ _ _ _ _ ((hg.block gp hs (fun e => h.ap gp e.symm rfl)).trans h.row), List.length_append]; rfl
  · rw [hob] at hq; injection hq with hq; rw [← hq]; exact hg1
  · rw [hob] at hq; injection hq with hq; rw [← hq]; exact hg1
  · rw [hob]
    rcases List.mem_append.1 hq with hq | hq
    · exact (h.ways q hq).moved hg hat _
    · rw [List.mem_singleton.1 hq]; exact hr.moved hg hat _
  · rw [hob]; exact h.dg.moved hg hat _
  · exact (h.below.grown hg h.below.size (fun k hk => by have := (h.own.lt k hk).1; omega)).setCell (p := ⟨gp, 1, none⟩) (show w.heap.size ≤ gp by omega) _
end
/-- What the region that appends a row reads. -/
structure CellS (x b o : Nat) (v : Value) (r : Rw) (W : World) : Prop where
  box : W.cell? ⟨x, 0, none⟩ = some v
  r0 : W.cell? ⟨b, o, none⟩ = some (.string r.tag)
  r1 : W.cell? ⟨b, o + 1, none⟩ = some (.int .i64 r.cnt)
  r2 : W.cell? ⟨b, o + 2, none⟩ = some (.int .i64 r.last)
  l1 : x < W.heap.size
  l2 : b < W.heap.size
theorem CellS.same {x b o : Nat} {v : Value} {r : Rw} {W W' : World} (h : CellS x b o v r W) (h1 : W'.heap[x]? = W.heap[x]?) (h2 : W'.heap[b]? = W.heap[b]?) (hs : W.heap.size ≤ W'.heap.size) : CellS x b o v r W' :=
  ⟨(World.cell?_of_block (a := ⟨x, 0, none⟩) h1).trans h.box, (World.cell?_of_block (a := ⟨b, o, none⟩) h2).trans h.r0, (World.cell?_of_block (a := ⟨b, o + 1, none⟩) h2).trans h.r1, (World.cell?_of_block (a := ⟨b, o + 2, none⟩) h2).trans h.r2, Nat.lt_of_lt_of_le h.l1 hs, Nat.lt_of_lt_of_le h.l2 hs⟩
theorem CellS.call {x b o : Nat} {v : Value} {r : Rw} {W W' : World} (h : CellS x b o v r W) (hb : Below W.heap.size W W') : CellS x b o v r W' := h.same (hb.block _ h.l1) (hb.block _ h.l2) hb.size
/-- What Prove makes: the proof's rows, with their ways. -/
def PvPost (R : List Rw) (t : ByteArray) (w : World) (e : Ending) (w' : World) : Prop :=
  ∃ a ca, e = .returned (.agg #[.int .i64 R.length, .slice a (Ix.prvI R t).length ca]) ∧ ShAt w' a (Ix.prvI R t) ∧ (Ix.prvI R t).length ≤ ca ∧ ca ≤ maxLen ∧ Below w.heap.size w w'
theorem ownT_other {B : Nat} {w : World} {a : Option Addr} {cap : Nat} {l : List ByteArray} (h : OwnT B w a cap l) {g o : Nat} (hg : g < B) (v : Value) : OwnT B (w.setCell ⟨g, o, none⟩ v) a cap l := by
  obtain ⟨h1, h2⟩ := h
  refine ⟨h1, ?_⟩
  rcases h2 with h2 | ⟨q, c, cur, e, hB, hq, h3⟩
  · exact .inl h2
  · exact .inr ⟨q, c, cur, e, hB, (heap_setCell_other w _ q v (fun e => by have e2 : q = g := e; omega)).trans hq, h3⟩
theorem PvS.ret {w : World} {v : Value} {n : Int} {gp : Nat} {rs : List ShW} {a : Option Addr} {ca : Nat} {d : Option Addr} {dc : Nat} {D : List ByteArray} {W : World} (h : PvS w v n gp rs a ca d dc D W) (x y : Value) : ShAt ((W.setCell ⟨w.heap.size + 1, 0, none⟩ x).setCell ⟨w.heap.size + 1, 1, none⟩ y) a (rs.map (·.1)) :=
  shAt_own ((h.own.other (Nat.lt_succ_self _) x).other (Nat.lt_succ_self _) y) (Below.refl _ _) fun r hr => ⟨(OwnT.capy (h.ways r hr).own).1, (OwnT.capy (h.ways r hr).own).2, OwnT.texts (ownT_other (ownT_other (h.ways r hr).own (Nat.lt_succ_self _) x) (Nat.lt_succ_self _) y)⟩
set_option maxRecDepth 100000 in
set_option maxHeartbeats 40000000 in
theorem prove18_any (R : List Rw) (hr : Ix.Rise R) (t : ByteArray) (a0 : Option Addr) (cap : Nat) (w : World) (hG : Glob w) (hT : RwAt w a0 R) (hm : R.length ≤ 4096) (hok : ∀ r ∈ R, Ix.rwOk r) :
    Calls Tryz.prog 15 #[.agg #[.slice a0 R.length cap], .string t] w (PvPost R t w) := by
  obtain ⟨w1, hw1⟩ : ∃ w1, w1 = (w.alloc (.cells #[.slice a0 R.length cap] 25)).alloc (.cells #[.int .i64 0, .slice none 0 0] 34) := ⟨_, rfl⟩
  have hz : (w.alloc (.cells #[.slice a0 R.length cap] 25)).heap.size = w.heap.size + 1 := World.size_alloc _ _
  have hb1 : Below w.heap.size w w1 := by rw [hw1]; exact ((Below.refl _ _).alloc (Nat.le_refl _) _).alloc (by rw [hz]; omega) _
  have hg1 : w1.heap[w.heap.size]? = some (.cells #[.slice a0 R.length cap] 25 (0, 0)) := by rw [hw1, heap_alloc_old _ _ (by rw [hz]; omega)]; exact heap_alloc_new _ _
  have hg2 : w1.heap[w.heap.size + 1]? = some (.cells #[.int .i64 0, .slice none 0 0] 34 (0, 0)) := by rw [hw1, ← hz]; exact heap_alloc_new _ _
  have c0 : w1.cell? ⟨w.heap.size, 0, none⟩ = some (.slice a0 R.length cap) := by rw [cell_of_row _ _ _ _ _ _ hg1]; rfl
  have hfi := ifind_any R hr t a0 cap w1 (hT.below hb1) (by omega)
  have hdg := fun (W : World) (hb : Below w.heap.size w W) => digests18_any R a0 cap W (hG.below hb) (hT.below hb) (by omega) hok
  have hwy := fun (W : World) (i : Nat) (a : Option Addr) (c : Nat) (hb : Below w.heap.size w W) (h : TextsAt W a (Ix.lvs R)) (h1 : (Ix.lvs R).length ≤ c) (h2 : c ≤ maxLen) => bigWay_any (Ix.lvs R) (by rw [Ix.lvs_length]; exact hm) (Ix.lvs_digs R) (i : Int) a c W (hG.below hb) h h1 h2
  have hpv := Ix.prv_from hr t
  have hkl := Ix.rk_le R t
  have hlv := Ix.lvs_length R
  obtain ⟨LV, hLV⟩ : ∃ LV, LV = Ix.lvs R := ⟨_, rfl⟩
  obtain ⟨n, hn⟩ : ∃ n, n = R.length := ⟨_, rfl⟩
  obtain ⟨K, hK⟩ : ∃ K, K = Ix.rk R t := ⟨_, rfl⟩
  obtain ⟨E, hE⟩ : ∃ E, E = Ix.isR R t := ⟨_, rfl⟩
  rw [← hLV] at hdg hwy hlv
  rw [hlv] at hwy
  rw [← hn] at hm hw1 hg1 c0 hfi hdg hwy hkl hlv
  rw [← hK] at hfi hkl
  rw [← hE] at hfi
  have hfr : Ix.pFrom R t = if E = true then K else K - 1 := by unfold Ix.pFrom; rw [hE, hK]
  have hto : Ix.pTo R t = min (K + 1) n := by unfold Ix.pTo; rw [hK, hn]
  have hKE : E = true → K < n := fun h => by
    rw [hE] at h
    obtain ⟨r, h1, -⟩ := Ix.isR_some hr h
    rw [hK, hn]
    exact (List.getElem?_eq_some_iff.1 h1).1
  unfold PvPost
  rw [hpv, Ix.pRows_length]
  obtain ⟨A, hA⟩ : ∃ A, A = Ix.pFrom R t := ⟨_, rfl⟩
  obtain ⟨Z, hZ⟩ : ∃ Z, Z = Ix.pTo R t := ⟨_, rfl⟩
  rw [← hA] at hfr
  rw [← hZ] at hto
  rw [← hA, ← hZ]
  rw [← hn]
  obtain ⟨m1, hm1⟩ : ∃ m1, m1 = Z - A := ⟨_, rfl⟩
  rw [← hm1]
  have HM1 := Lib.hid hm1
  have hZn : Z ≤ n := by omega
  have H := Lib.hid (And.intro hT (And.intro hb1 (And.intro hg1 (And.intro hg2 (And.intro hfi (And.intro hdg (And.intro hwy (And.intro hn (And.intro hok (And.intro hLV hlv))))))))))
  have hn' := Lib.hid hn
  clear hm1 hn hT hb1 hg1 hg2 hfi hdg hwy hpv hlv hK hE hLV hok hr hz hA hZ hG
  go_enter Tryz.func15, Tryz.ntmps15
  go_upto_region 1 with fail
  rw [← hw1]
  clear hw1
  go_wp2_with fail
  refine H.out.2.2.2.2.1.mono ?_
  rintro e w2 ⟨rfl, hb2⟩
  have H2 := Lib.hid (And.intro (bcall H.out.2.1 hb2 H.out.2.1.size) (And.intro ((hb2.block _ (lt_of_heap H.out.2.2.1)).trans H.out.2.2.1) ((hb2.block _ (lt_of_heap H.out.2.2.2.1)).trans H.out.2.2.2.1)))
  clear hb2 c0
  have c0 : w2.cell? ⟨w.heap.size, 0, none⟩ = some (.slice a0 n cap) := by rw [cell_of_row _ _ _ _ _ _ H2.out.2.1]; rfl
  have HF := Lib.hid (And.intro hfr (And.intro hto hKE))
  clear hfr hto hKE
  have hmn : min ((K : Int) + 1) (n : Int) = (Z : Int) := by rw [HF.out.2.1]; omega
  cases E with
  | true =>
    obtain rfl : A = K := by rw [HF.out.1, if_pos rfl]
    obtain ⟨w3, hw3⟩ : ∃ w3, w3 = w2.alloc (.cells #[.int .i64 n, .slice none 0 0] 34) := ⟨_, rfl⟩
    have hb3 : Below w2.heap.size w2 w3 := by rw [hw3]; exact (Below.refl _ _).alloc (Nat.le_refl _) _
    have hg3 : w3.heap[w2.heap.size]? = some (.cells #[.int .i64 n, .slice none 0 0] 34 (0, 0)) := by rw [hw3]; exact heap_alloc_new _ _
    have s2 : w.heap.size + 2 ≤ w2.heap.size := lt_of_heap H2.out.2.2
    have H3 := Lib.hid (And.intro (bcall H2.out.1 hb3 H2.out.1.size) (And.intro ((hb3.block _ (lt_of_heap H2.out.2.1)).trans H2.out.2.1) (And.intro ((hb3.block _ (lt_of_heap H2.out.2.2)).trans H2.out.2.2) hg3)))
    have c3 : w3.cell? ⟨w.heap.size, 0, none⟩ = some (.slice a0 n cap) := by rw [cell_of_row _ _ _ _ _ _ H3.out.2.1]; rfl
    have z3 : w2.heap.size < w3.heap.size := lt_of_heap hg3
    obtain ⟨gp, hgp⟩ : ∃ gp, gp = w2.heap.size := ⟨_, rfl⟩
    rw [← hgp] at H3 s2 z3
    clear hb3 hg3
    go_upto_region 6 with fail
    rw [← hw3, ← hgp]
    clear hw3 hgp c0
    go_wp2_with fail
    refine (H.out.2.2.2.2.2.1 _ H3.out.1).mono ?_
    rintro e w4 ⟨d, dc, rfl, hod, hb4⟩
    have hP4 : PvS w (.slice a0 n cap) n gp [] none 0 d dc LV w4 := by
      refine ⟨s2, (hb4.block _ (lt_of_heap H3.out.2.1)).trans H3.out.2.1, (hb4.block _ (lt_of_heap H3.out.2.2.1)).trans H3.out.2.2.1, (hb4.block _ (lt_of_heap H3.out.2.2.2)).trans H3.out.2.2.2, OwnR.nil _ _ _ _ _, (fun g hg => by cases hg), (fun r hr => by simp at hr), ⟨OwnT.mono hod (by omega), fun g hg => ?_, fun g hg e => by cases e⟩, bcall H3.out.1 hb4 H3.out.1.size⟩
      have := (World.ownsRow.lt hod g hg).1
      omega
    have hLn := H.out.2.2.2.2.2.2.2.2.2.2
    have HP4 := Lib.hid (And.intro hP4 hLn)
    clear hP4 hod hb4 c3 hLn s2 z3
    go_wp2_with fail
    go_loopw [10, 11, 12] (fun v10 _ _ wr => ∃ (k : Nat) (rs : List ShW) (a : Option Addr) (ca : Nat), k ≤ m1 ∧ v10 = .int .i64 ((A + k : Nat) : Int) ∧ rs.map (·.1) = Ix.pRows R A k ∧ PvS w (.slice a0 n cap) n gp rs a ca d dc LV wr) (fun v10 _ _ _ => Z - (intOf v10).toNat)
    case atStart => exact ⟨0, [], none, 0, by omega, rfl, rfl, HP4.out.1⟩
    case round =>
      obtain ⟨k, rs, a, ca, hk, rfl, hrs, hP⟩ := hrel
      have hrl : rs.length = k := by
        have h := congrArg List.length hrs
        rwa [List.length_map, Ix.pRows_length] at h
      obtain ⟨at0, hat0⟩ : ∃ at0, at0 = A + k := ⟨_, rfl⟩
      rw [← hat0]
      by_cases hlt : at0 < Z
      · have hln : at0 < R.length := by have := hn'.out; omega
        obtain ⟨r, hr⟩ : ∃ r, R[at0]? = some r := ⟨_, List.getElem?_eq_getElem hln⟩
        have hsh := Ix.pRows_succ R A k
        rw [← hat0, Ix.shI_at hln, (List.getElem?_eq_some_iff.1 hr).2] at hsh
        have hsz := (H.out.2.2.2.2.2.2.2.2.1 r (List.mem_of_getElem? hr)).1
        obtain ⟨b, o, rfl, hbl, q0, q1, q2⟩ := H.out.1 at0 r hr
        obtain ⟨W0, hW0⟩ : ∃ W0, W0 = Tr.way LV at0 := ⟨_, rfl⟩
        have hwI : wayI LV (at0 : Int) = W0 ∧ wayE LV (at0 : Int) = 0 := by
          have hb : 0 ≤ (at0 : Int) ∧ (at0 : Int) < LV.length := ⟨by omega, by have := HP4.out.2; omega⟩
          refine ⟨?_, if_pos hb⟩
          rw [hW0]
          exact (if_pos hb).trans (by rw [Int.toNat_natCast])
        rw [show Ix.lvs R = LV from H.out.2.2.2.2.2.2.2.2.2.1.symm, ← hW0] at hsh
        have hwy := H.out.2.2.2.2.2.2.1 wr at0 d dc hP.below (OwnT.texts hP.dg.own) (by have := (OwnT.capy hP.dg.own).1; have := HP4.out.2; omega) (OwnT.capy hP.dg.own).2
        rw [hwI.1, hwI.2] at hwy
        obtain ⟨nw, hnw⟩ : ∃ nw, nw = W0.length := ⟨_, rfl⟩
        rw [← hnw] at hwy
        have hCE : CellS w.heap.size b (o + at0 * 3) (.slice (some ⟨b, o, none⟩) n cap) r wr := by
          have hbw : b < wr.heap.size := Nat.lt_of_lt_of_le hbl hP.below.size
          exact ⟨hP.xcell, (hP.below.cell (p := ⟨b, _, none⟩) hbl).trans q0, (hP.below.cell (p := ⟨b, _, none⟩) hbl).trans q1, (hP.below.cell (p := ⟨b, _, none⟩) hbl).trans q2, lt_of_heap hP.box, hbw⟩
        have hatn : at0 < n := by omega
        have HR := Lib.hid (And.intro hP (And.intro hsh (And.intro hsz (And.intro hwy (And.intro hCE (And.intro hrs (And.intro hrl (And.intro hnw (And.intro hbl hat0)))))))))
        clear hP hsh hsz hwy hCE hrs hrl hnw hbl hat0 hr hln q0 q1 q2 hW0 hwI
        go_wp2_with fail
        refine HR.out.2.2.2.1.mono ?_
        rintro e w5 ⟨wa, wc0, rfl, hoW, hb5⟩
        have hP5 := HR.out.1.call hb5
        have hFW : FarT (w.heap.size + 2) gp (Value.slice a rs.length ca).ownBlock wa wc0 W0 w5 := by
          refine ⟨OwnT.mono hoW (by have := HR.out.1.size; have := HR.out.1.lo; omega), fun g hg => ?_, fun g hg e => ?_⟩
          · have := (World.ownsRow.lt hoW g hg).1; have := HR.out.1.size; omega
          · have := (World.ownsRow.lt hoW g hg).1; have := (HR.out.1.own.lt g e).2; omega
        have H5 := Lib.hid (And.intro hP5 (And.intro hFW (HR.out.2.2.2.2.1.call hb5)))
        clear hP5 hFW hoW hb5
        obtain ⟨wo, hwo⟩ : ∃ wo, wo = wr := ⟨_, rfl⟩
        subst hwo
        obtain ⟨rx, ru, rv⟩ := r
        go_upto_region 11 with fail
        go_wp2_with fail
        refine wp_region_held (S := fun W : World => CellS w.heap.size b (o + at0 * 3) (.slice (some ⟨b, o, none⟩) n cap) ⟨rx, ru, rv⟩ W) (by kernel_rfl) ?_
        change wpAnyH _ _ _ _ _ _ _ _ (World.drew _)
        generalize hv0 : World.drew _ = v0
        have E0 : CellS w.heap.size b (o + at0 * 3) (.slice (some ⟨b, o, none⟩) n cap) ⟨rx, ru, rv⟩ v0 := by rw [← hv0]; exact H5.out.2.2.call ((Below.refl _ _).drew)
        have F0 : Below w5.heap.size w5 v0 := by rw [← hv0]; exact ((Below.refl _ _).drew)
        have LL := (show PvS w (.slice (some ⟨b, o, none⟩) n cap) n gp rs a ca d dc LV v0 by rw [← hv0]; exact H5.out.1.call ((Below.refl _ _).drew))
        have FF := (show FarT (w.heap.size + 2) gp (Value.slice a rs.length ca).ownBlock wa wc0 W0 v0 by rw [← hv0]; exact H5.out.2.1.call ((Below.refl _ _).drew))
        clear hv0
        refine wpAnyH_take (i := 0) (v := ?_) rfl (by kernel_rfl) (by kernel_rfl) (by kernel_rfl) (fun _ _ _ h => h) (Or.inl ⟨by kernel_rfl, ?_⟩) E0 ?_
        rotate_left
        · (intro W hS; obtain ⟨k0, k1, k2, k3, -, -⟩ := hS; simp only at k1 k2 k3; go_simp; try (with_reducible rfl))
        refine wpAnyH_take (i := 2) (v := ?_) rfl (by kernel_rfl) (by kernel_rfl) (by kernel_rfl) (fun _ _ _ h => h) (Or.inl ⟨by kernel_rfl, ?_⟩) E0 ?_
        rotate_left
        · (intro W hS; obtain ⟨k0, k1, k2, k3, -, -⟩ := hS; simp only at k1 k2 k3; go_simp; try (with_reducible rfl))
        refine wpAnyH_take (i := 3) (v := ?_) rfl (by kernel_rfl) (by kernel_rfl) (by kernel_rfl) (fun _ _ _ h => h) (Or.inl ⟨by kernel_rfl, ?_⟩) E0 ?_
        rotate_left
        · (intro W hS; obtain ⟨k0, k1, k2, k3, -, -⟩ := hS; simp only at k1 k2 k3; go_simp; try (with_reducible rfl))
        refine wpAnyH_take (i := 4) (v := ?_) rfl (by kernel_rfl) (by kernel_rfl) (by kernel_rfl) (fun _ _ _ h => h) (Or.inl ⟨by kernel_rfl, ?_⟩) E0 ?_
        rotate_left
        · (intro W hS; obtain ⟨k0, k1, k2, k3, -, -⟩ := hS; simp only at k1 k2 k3; go_simp; try (with_reducible rfl))
        refine wpAnyH_take (i := 5) (v := ?_) rfl (by kernel_rfl) (by kernel_rfl) (by kernel_rfl) (fun _ _ _ h => h) (Or.inl ⟨by kernel_rfl, ?_⟩) E0 ?_
        rotate_left
        · (intro W hS; obtain ⟨k0, k1, k2, k3, -, -⟩ := hS; simp only at k1 k2 k3; go_simp; try (with_reducible rfl))
        refine wpAnyH_take (i := 6) (v := ?_) rfl (by kernel_rfl) (by kernel_rfl) (by kernel_rfl) (fun _ _ _ h => h) (Or.inl ⟨by kernel_rfl, ?_⟩) E0 ?_
        rotate_left
        · (intro W hS; obtain ⟨k0, k1, k2, k3, -, -⟩ := hS; simp only at k1 k2 k3; go_simp; try (with_reducible rfl))
        refine wpAnyH_take (i := 7) (v := ?_) rfl (by kernel_rfl) (by kernel_rfl) (by kernel_rfl) (fun _ _ _ h => h) (Or.inl ⟨by kernel_rfl, ?_⟩) E0 ?_
        rotate_left
        · (intro W hS; obtain ⟨k0, k1, k2, k3, -, -⟩ := hS; simp only at k1 k2 k3; go_simp; try (with_reducible rfl))
        refine wpAnyH_take (i := 9) (v := ?_) rfl (by kernel_rfl) (by kernel_rfl) (by kernel_rfl) (fun _ _ _ h => h) (Or.inl ⟨by kernel_rfl, ?_⟩) E0 ?_
        rotate_left
        · (intro W hS; obtain ⟨k0, k1, k2, k3, -, -⟩ := hS; simp only at k1 k2 k3; go_simp; try (with_reducible rfl))
        refine wpAnyH_ready (rs := [1, 8]) (by kernel_rfl) (by simp) ?_
        refine AllReadyH.cons (i := 1) rfl (fun K hK => ?_) (AllReadyH.cons (i := 8) rfl (fun K hK => ?_) AllReadyH.nil)
        · have qs := LL.pcell.2.1
          go_simp
          refine hK.out _ _ E0 (fun _ => ?_)
          clear hK K qs
          refine wpAnyH_ready (rs := [8]) (by kernel_rfl) (by simp) ?_
          refine AllReadyH.cons (i := 8) rfl (fun K hK => ?_) AllReadyH.nil
          go_simp
          refine (own18_any rx ru rv (by have := HR.out.2.2.1; omega) v0).mono ?_
          rintro e v1 ⟨rfl, hb⟩
          have F1 := F0.trans (hb.mono F0.size)
          have E1 : CellS w.heap.size b (o + at0 * 3) (.slice (some ⟨b, o, none⟩) n cap) ⟨rx, ru, rv⟩ v1 := E0.call hb
          have L0n := LL.call hb
          have FFn := FF.call hb
          clear LL FF
          have LL := L0n
          have FF := FFn
          clear L0n FFn
          refine hK.out _ _ E1 (fun _ => ?_)
          clear hK K hb
          refine wpAnyH_take (i := 10) (v := ?_) rfl (by kernel_rfl) (by kernel_rfl) (by kernel_rfl) (fun _ _ _ h => h) (Or.inl ⟨by kernel_rfl, ?_⟩) E1 ?_
          rotate_left
          · (intro W hS; obtain ⟨k0, k1, k2, k3, -, -⟩ := hS; simp only at k1 k2 k3; go_simp; try (with_reducible rfl))
          refine wpAnyH_ready (rs := [11]) (by kernel_rfl) (by simp) ?_
          refine AllReadyH.cons (i := 11) rfl (fun K hK => ?_) AllReadyH.nil
          obtain ⟨v2, hv⟩ : ∃ v, v = v1.alloc (.cells (shCs ((⟨(at0 : Int), ⟨rx, ru, rv⟩, W0⟩, wa, wc0) : ShW)) 131) := ⟨_, rfl⟩
          have hb : Below v1.heap.size v1 v2 := by rw [hv]; exact (Below.refl _ _).alloc (Nat.le_refl _) _
          have g1 : v2.heap[v1.heap.size]? = some (.cells (shCs ((⟨(at0 : Int), ⟨rx, ru, rv⟩, W0⟩, wa, wc0) : ShW)) 131 (0, 0)) := by rw [hv]; exact heap_alloc_new _ _
          have F2 := F1.trans (hb.mono F1.size)
          have E2 : CellS w.heap.size b (o + at0 * 3) (.slice (some ⟨b, o, none⟩) n cap) ⟨rx, ru, rv⟩ v2 := E1.call hb
          simp only [shCs] at hv; rw [← HR.out.2.2.2.2.2.2.2.1] at hv
          go_simp
          rw [← hv]
          clear hv
          have L1n := LL.call hb
          have FFn := FF.call hb
          clear LL FF
          have LL := L1n
          have FF := FFn
          clear L1n FFn
          refine hK.out _ _ E2 (fun _ => ?_)
          clear hK K hb
          refine wpAnyH_ready (rs := [12]) (by kernel_rfl) (by simp) ?_
          refine AllReadyH.cons (i := 12) rfl (fun K hK => ?_) AllReadyH.nil
          refine step_append_r rfl (.tmp 49) (.tmp 59) 32 rfl arproof_rec shCs_one shCs_size LL.own _ rfl (by kernel_rfl) _ 1 ((⟨(at0 : Int), ⟨rx, ru, rv⟩, W0⟩, wa, wc0) : ShW) (by kernel_rfl) g1 (by have := HR.out.2.2.2.2.2.2.1; have := HM1.out; omega) (by have := LL.size; have := LL.lo; omega) (Below.refl _ _) ?_
          intro q cq v3 ho hB hg hat
          have E2n : CellS w.heap.size b (o + at0 * 3) (.slice (some ⟨b, o, none⟩) n cap) ⟨rx, ru, rv⟩ v3 := E2.same (hg.block _ E2.l1 (fun e => by have := (LL.own.lt _ e.symm).1; omega)) (hg.block _ E2.l2 (fun e => by have := (LL.own.lt _ e.symm).1; have := HR.out.2.2.2.2.2.2.2.2.1; omega)) hg.size
          have hN := LL.add rfl FF ho hg hat
          have zg : v3.heap[gp]? = _ := (hg.block gp LL.size (fun e => LL.ap gp e.symm rfl)).trans LL.row
          have z0 : v3.cell? ⟨gp, 1, none⟩ = some (.slice a rs.length ca) := by rw [cell_of_row _ _ _ _ _ _ zg]; rfl
          have zf : v3.frozen? ⟨gp, 1, none⟩ = false := frozen_of_row _ _ _ _ _ zg
          have EZ : CellS w.heap.size b (o + at0 * 3) (.slice (some ⟨b, o, none⟩) n cap) ⟨rx, ru, rv⟩ (v3.setCell ⟨gp, 1, none⟩ (.slice (some ⟨q, 0, none⟩) (rs.length + 1) cq)) := E2n.same (heap_setCell_other _ _ _ _ (show w.heap.size ≠ gp by have := HR.out.1.lo; omega)) (heap_setCell_other _ _ _ _ (show b ≠ gp by have := HR.out.1.lo; have := HR.out.2.2.2.2.2.2.2.2.1; omega)) (by simp [World.setCell])
          have HN := Lib.hid hN
          clear hN zg ho hB hg hat LL FF
          refine hK.out _ _ E2n (fun _ => ?_)
          clear hK K
          refine wpAnyH_take (i := 13) (v := ?_) rfl (by kernel_rfl) (by kernel_rfl) (by kernel_rfl) (fun _ _ _ h => h) (Or.inl ⟨by kernel_rfl, ?_⟩) E2n ?_
          rotate_left
          · (intro W hS; obtain ⟨k0, k1, k2, k3, -, -⟩ := hS; simp only at k1 k2 k3; go_simp; try (with_reducible rfl))
          refine wpAnyH_ready (rs := [14]) (by kernel_rfl) (by simp) ?_
          refine AllReadyH.cons (i := 14) rfl (fun K hK => ?_) AllReadyH.nil
          go_simp
          refine hK.out _ _ EZ (fun _ => ?_)
          clear hK K z0 zf
          refine wpAnyH_done (by kernel_rfl) ?_ _
          go_simp
          clear EZ
          generalize World.setCell _ _ _ = wz at *
          go_wp2_with fail
          go_roundw
          case rel => exact ⟨k + 1, _, _, cq, by have := HR.out.2.2.2.2.2.2.2.2.2; have := HM1.out; omega, by have := HR.out.2.2.2.2.2.2.2.2.2; go_num, by rw [List.map_append, HR.out.2.2.2.2.2.1, HR.out.2.1]; rfl, HN.out⟩
          case measure => simp [intOf]; omega
        · go_simp
          refine (own18_any rx ru rv (by have := HR.out.2.2.1; omega) v0).mono ?_
          rintro e v1 ⟨rfl, hb⟩
          have F1 := F0.trans (hb.mono F0.size)
          have E1 : CellS w.heap.size b (o + at0 * 3) (.slice (some ⟨b, o, none⟩) n cap) ⟨rx, ru, rv⟩ v1 := E0.call hb
          have L0n := LL.call hb
          have FFn := FF.call hb
          clear LL FF
          have LL := L0n
          have FF := FFn
          clear L0n FFn
          refine hK.out _ _ E1 (fun _ => ?_)
          clear hK K hb
          refine wpAnyH_take (i := 10) (v := ?_) rfl (by kernel_rfl) (by kernel_rfl) (by kernel_rfl) (fun _ _ _ h => h) (Or.inl ⟨by kernel_rfl, ?_⟩) E1 ?_
          rotate_left
          · (intro W hS; obtain ⟨k0, k1, k2, k3, -, -⟩ := hS; simp only at k1 k2 k3; go_simp; try (with_reducible rfl))
          refine wpAnyH_ready (rs := [1, 11]) (by kernel_rfl) (by simp) ?_
          refine AllReadyH.cons (i := 1) rfl (fun K hK => ?_) (AllReadyH.cons (i := 11) rfl (fun K hK => ?_) AllReadyH.nil)
          · have qs := LL.pcell.2.1
            go_simp
            refine hK.out _ _ E1 (fun _ => ?_)
            clear hK K qs
            refine wpAnyH_ready (rs := [11]) (by kernel_rfl) (by simp) ?_
            refine AllReadyH.cons (i := 11) rfl (fun K hK => ?_) AllReadyH.nil
            obtain ⟨v2, hv⟩ : ∃ v, v = v1.alloc (.cells (shCs ((⟨(at0 : Int), ⟨rx, ru, rv⟩, W0⟩, wa, wc0) : ShW)) 131) := ⟨_, rfl⟩
            have hb : Below v1.heap.size v1 v2 := by rw [hv]; exact (Below.refl _ _).alloc (Nat.le_refl _) _
            have g1 : v2.heap[v1.heap.size]? = some (.cells (shCs ((⟨(at0 : Int), ⟨rx, ru, rv⟩, W0⟩, wa, wc0) : ShW)) 131 (0, 0)) := by rw [hv]; exact heap_alloc_new _ _
            have F2 := F1.trans (hb.mono F1.size)
            have E2 : CellS w.heap.size b (o + at0 * 3) (.slice (some ⟨b, o, none⟩) n cap) ⟨rx, ru, rv⟩ v2 := E1.call hb
            simp only [shCs] at hv; rw [← HR.out.2.2.2.2.2.2.2.1] at hv
            go_simp
            rw [← hv]
            clear hv
            have L1n := LL.call hb
            have FFn := FF.call hb
            clear LL FF
            have LL := L1n
            have FF := FFn
            clear L1n FFn
            refine hK.out _ _ E2 (fun _ => ?_)
            clear hK K hb
            refine wpAnyH_ready (rs := [12]) (by kernel_rfl) (by simp) ?_
            refine AllReadyH.cons (i := 12) rfl (fun K hK => ?_) AllReadyH.nil
            refine step_append_r rfl (.tmp 49) (.tmp 59) 32 rfl arproof_rec shCs_one shCs_size LL.own _ rfl (by kernel_rfl) _ 1 ((⟨(at0 : Int), ⟨rx, ru, rv⟩, W0⟩, wa, wc0) : ShW) (by kernel_rfl) g1 (by have := HR.out.2.2.2.2.2.2.1; have := HM1.out; omega) (by have := LL.size; have := LL.lo; omega) (Below.refl _ _) ?_
            intro q cq v3 ho hB hg hat
            have E2n : CellS w.heap.size b (o + at0 * 3) (.slice (some ⟨b, o, none⟩) n cap) ⟨rx, ru, rv⟩ v3 := E2.same (hg.block _ E2.l1 (fun e => by have := (LL.own.lt _ e.symm).1; omega)) (hg.block _ E2.l2 (fun e => by have := (LL.own.lt _ e.symm).1; have := HR.out.2.2.2.2.2.2.2.2.1; omega)) hg.size
            have hN := LL.add rfl FF ho hg hat
            have zg : v3.heap[gp]? = _ := (hg.block gp LL.size (fun e => LL.ap gp e.symm rfl)).trans LL.row
            have z0 : v3.cell? ⟨gp, 1, none⟩ = some (.slice a rs.length ca) := by rw [cell_of_row _ _ _ _ _ _ zg]; rfl
            have zf : v3.frozen? ⟨gp, 1, none⟩ = false := frozen_of_row _ _ _ _ _ zg
            have EZ : CellS w.heap.size b (o + at0 * 3) (.slice (some ⟨b, o, none⟩) n cap) ⟨rx, ru, rv⟩ (v3.setCell ⟨gp, 1, none⟩ (.slice (some ⟨q, 0, none⟩) (rs.length + 1) cq)) := E2n.same (heap_setCell_other _ _ _ _ (show w.heap.size ≠ gp by have := HR.out.1.lo; omega)) (heap_setCell_other _ _ _ _ (show b ≠ gp by have := HR.out.1.lo; have := HR.out.2.2.2.2.2.2.2.2.1; omega)) (by simp [World.setCell])
            have HN := Lib.hid hN
            clear hN zg ho hB hg hat LL FF
            refine hK.out _ _ E2n (fun _ => ?_)
            clear hK K
            refine wpAnyH_take (i := 13) (v := ?_) rfl (by kernel_rfl) (by kernel_rfl) (by kernel_rfl) (fun _ _ _ h => h) (Or.inl ⟨by kernel_rfl, ?_⟩) E2n ?_
            rotate_left
            · (intro W hS; obtain ⟨k0, k1, k2, k3, -, -⟩ := hS; simp only at k1 k2 k3; go_simp; try (with_reducible rfl))
            refine wpAnyH_ready (rs := [14]) (by kernel_rfl) (by simp) ?_
            refine AllReadyH.cons (i := 14) rfl (fun K hK => ?_) AllReadyH.nil
            go_simp
            refine hK.out _ _ EZ (fun _ => ?_)
            clear hK K z0 zf
            refine wpAnyH_done (by kernel_rfl) ?_ _
            go_simp
            clear EZ
            generalize World.setCell _ _ _ = wz at *
            go_wp2_with fail
            go_roundw
            case rel => exact ⟨k + 1, _, _, cq, by have := HR.out.2.2.2.2.2.2.2.2.2; have := HM1.out; omega, by have := HR.out.2.2.2.2.2.2.2.2.2; go_num, by rw [List.map_append, HR.out.2.2.2.2.2.1, HR.out.2.1]; rfl, HN.out⟩
            case measure => simp [intOf]; omega
          · obtain ⟨v2, hv⟩ : ∃ v, v = v1.alloc (.cells (shCs ((⟨(at0 : Int), ⟨rx, ru, rv⟩, W0⟩, wa, wc0) : ShW)) 131) := ⟨_, rfl⟩
            have hb : Below v1.heap.size v1 v2 := by rw [hv]; exact (Below.refl _ _).alloc (Nat.le_refl _) _
            have g1 : v2.heap[v1.heap.size]? = some (.cells (shCs ((⟨(at0 : Int), ⟨rx, ru, rv⟩, W0⟩, wa, wc0) : ShW)) 131 (0, 0)) := by rw [hv]; exact heap_alloc_new _ _
            have F2 := F1.trans (hb.mono F1.size)
            have E2 : CellS w.heap.size b (o + at0 * 3) (.slice (some ⟨b, o, none⟩) n cap) ⟨rx, ru, rv⟩ v2 := E1.call hb
            simp only [shCs] at hv; rw [← HR.out.2.2.2.2.2.2.2.1] at hv
            go_simp
            rw [← hv]
            clear hv
            have L1n := LL.call hb
            have FFn := FF.call hb
            clear LL FF
            have LL := L1n
            have FF := FFn
            clear L1n FFn
            refine hK.out _ _ E2 (fun _ => ?_)
            clear hK K hb
            refine wpAnyH_ready (rs := [1]) (by kernel_rfl) (by simp) ?_
            refine AllReadyH.cons (i := 1) rfl (fun K hK => ?_) AllReadyH.nil
            have qs := LL.pcell.2.1
            go_simp
            refine hK.out _ _ E2 (fun _ => ?_)
            clear hK K qs
            refine wpAnyH_ready (rs := [12]) (by kernel_rfl) (by simp) ?_
            refine AllReadyH.cons (i := 12) rfl (fun K hK => ?_) AllReadyH.nil
            refine step_append_r rfl (.tmp 49) (.tmp 59) 32 rfl arproof_rec shCs_one shCs_size LL.own _ rfl (by kernel_rfl) _ 1 ((⟨(at0 : Int), ⟨rx, ru, rv⟩, W0⟩, wa, wc0) : ShW) (by kernel_rfl) g1 (by have := HR.out.2.2.2.2.2.2.1; have := HM1.out; omega) (by have := LL.size; have := LL.lo; omega) (Below.refl _ _) ?_
            intro q cq v3 ho hB hg hat
            have E2n : CellS w.heap.size b (o + at0 * 3) (.slice (some ⟨b, o, none⟩) n cap) ⟨rx, ru, rv⟩ v3 := E2.same (hg.block _ E2.l1 (fun e => by have := (LL.own.lt _ e.symm).1; omega)) (hg.block _ E2.l2 (fun e => by have := (LL.own.lt _ e.symm).1; have := HR.out.2.2.2.2.2.2.2.2.1; omega)) hg.size
            have hN := LL.add rfl FF ho hg hat
            have zg : v3.heap[gp]? = _ := (hg.block gp LL.size (fun e => LL.ap gp e.symm rfl)).trans LL.row
            have z0 : v3.cell? ⟨gp, 1, none⟩ = some (.slice a rs.length ca) := by rw [cell_of_row _ _ _ _ _ _ zg]; rfl
            have zf : v3.frozen? ⟨gp, 1, none⟩ = false := frozen_of_row _ _ _ _ _ zg
            have EZ : CellS w.heap.size b (o + at0 * 3) (.slice (some ⟨b, o, none⟩) n cap) ⟨rx, ru, rv⟩ (v3.setCell ⟨gp, 1, none⟩ (.slice (some ⟨q, 0, none⟩) (rs.length + 1) cq)) := E2n.same (heap_setCell_other _ _ _ _ (show w.heap.size ≠ gp by have := HR.out.1.lo; omega)) (heap_setCell_other _ _ _ _ (show b ≠ gp by have := HR.out.1.lo; have := HR.out.2.2.2.2.2.2.2.2.1; omega)) (by simp [World.setCell])
            have HN := Lib.hid hN
            clear hN zg ho hB hg hat LL FF
            refine hK.out _ _ E2n (fun _ => ?_)
            clear hK K
            refine wpAnyH_take (i := 13) (v := ?_) rfl (by kernel_rfl) (by kernel_rfl) (by kernel_rfl) (fun _ _ _ h => h) (Or.inl ⟨by kernel_rfl, ?_⟩) E2n ?_
            rotate_left
            · (intro W hS; obtain ⟨k0, k1, k2, k3, -, -⟩ := hS; simp only at k1 k2 k3; go_simp; try (with_reducible rfl))
            refine wpAnyH_ready (rs := [14]) (by kernel_rfl) (by simp) ?_
            refine AllReadyH.cons (i := 14) rfl (fun K hK => ?_) AllReadyH.nil
            go_simp
            refine hK.out _ _ EZ (fun _ => ?_)
            clear hK K z0 zf
            refine wpAnyH_done (by kernel_rfl) ?_ _
            go_simp
            clear EZ
            generalize World.setCell _ _ _ = wz at *
            go_wp2_with fail
            go_roundw
            case rel => exact ⟨k + 1, _, _, cq, by have := HR.out.2.2.2.2.2.2.2.2.2; have := HM1.out; omega, by have := HR.out.2.2.2.2.2.2.2.2.2; go_num, by rw [List.map_append, HR.out.2.2.2.2.2.1, HR.out.2.1]; rfl, HN.out⟩
            case measure => simp [intOf]; omega
      · obtain rfl : k = m1 := by have := HM1.out; omega
        have hL := fun x y => hP.ret x y
        rw [hrs] at hL
        have hcp := hP.own.capy
        obtain ⟨p0, p1, -⟩ := hP.pcell
        obtain ⟨e0, e1, ef⟩ := hP.rcell
        have hne : ¬ gp = w.heap.size + 1 := by have := hP.lo; omega
        rw [hrl] at p1 hcp
        have HE := Lib.hid (And.intro hL (And.intro hP.below hcp))
        clear hL hP hcp hrs hrl hat0
        go_wp2_with fail
        refine bodyPost_ret (v := .agg #[.int .i64 n, .slice a k ca]) (by simp [results, Tryz.results15, go_sem, e0, e1]) rfl ?_
        refine ⟨a, ca, rfl, ?_, HE.out.2.2.1, HE.out.2.2.2, (HE.out.2.1.setCell (p := ⟨w.heap.size + 1, 0, none⟩) (show w.heap.size ≤ w.heap.size + 1 by omega) _).setCell (p := ⟨w.heap.size + 1, 1, none⟩) (show w.heap.size ≤ w.heap.size + 1 by omega) _⟩
        exact HE.out.1 _ _
  | false =>
    have hmx : max ((K : Int) - 1) 0 = (A : Int) := by rw [HF.out.1, if_neg (by decide)]; omega
    obtain ⟨w3, hw3⟩ : ∃ w3, w3 = w2.alloc (.cells #[.int .i64 n, .slice none 0 0] 34) := ⟨_, rfl⟩
    have hb3 : Below w2.heap.size w2 w3 := by rw [hw3]; exact (Below.refl _ _).alloc (Nat.le_refl _) _
    have hg3 : w3.heap[w2.heap.size]? = some (.cells #[.int .i64 n, .slice none 0 0] 34 (0, 0)) := by rw [hw3]; exact heap_alloc_new _ _
    have s2 : w.heap.size + 2 ≤ w2.heap.size := lt_of_heap H2.out.2.2
    have H3 := Lib.hid (And.intro (bcall H2.out.1 hb3 H2.out.1.size) (And.intro ((hb3.block _ (lt_of_heap H2.out.2.1)).trans H2.out.2.1) (And.intro ((hb3.block _ (lt_of_heap H2.out.2.2)).trans H2.out.2.2) hg3)))
    have c3 : w3.cell? ⟨w.heap.size, 0, none⟩ = some (.slice a0 n cap) := by rw [cell_of_row _ _ _ _ _ _ H3.out.2.1]; rfl
    have z3 : w2.heap.size < w3.heap.size := lt_of_heap hg3
    obtain ⟨gp, hgp⟩ : ∃ gp, gp = w2.heap.size := ⟨_, rfl⟩
    rw [← hgp] at H3 s2 z3
    clear hb3 hg3
    go_upto_region 6 with fail
    rw [← hw3, ← hgp]
    clear hw3 hgp c0
    go_wp2_with fail
    refine (H.out.2.2.2.2.2.1 _ H3.out.1).mono ?_
    rintro e w4 ⟨d, dc, rfl, hod, hb4⟩
    have hP4 : PvS w (.slice a0 n cap) n gp [] none 0 d dc LV w4 := by
      refine ⟨s2, (hb4.block _ (lt_of_heap H3.out.2.1)).trans H3.out.2.1, (hb4.block _ (lt_of_heap H3.out.2.2.1)).trans H3.out.2.2.1, (hb4.block _ (lt_of_heap H3.out.2.2.2)).trans H3.out.2.2.2, OwnR.nil _ _ _ _ _, (fun g hg => by cases hg), (fun r hr => by simp at hr), ⟨OwnT.mono hod (by omega), fun g hg => ?_, fun g hg e => by cases e⟩, bcall H3.out.1 hb4 H3.out.1.size⟩
      have := (World.ownsRow.lt hod g hg).1
      omega
    have hLn := H.out.2.2.2.2.2.2.2.2.2.2
    have HP4 := Lib.hid (And.intro hP4 hLn)
    clear hP4 hod hb4 c3 hLn s2 z3
    go_wp2_with fail
    go_loopw [10, 11, 12] (fun v10 _ _ wr => ∃ (k : Nat) (rs : List ShW) (a : Option Addr) (ca : Nat), k ≤ m1 ∧ v10 = .int .i64 ((A + k : Nat) : Int) ∧ rs.map (·.1) = Ix.pRows R A k ∧ PvS w (.slice a0 n cap) n gp rs a ca d dc LV wr) (fun v10 _ _ _ => Z - (intOf v10).toNat)
    case atStart => exact ⟨0, [], none, 0, by omega, rfl, rfl, HP4.out.1⟩
    case round =>
      obtain ⟨k, rs, a, ca, hk, rfl, hrs, hP⟩ := hrel
      have hrl : rs.length = k := by
        have h := congrArg List.length hrs
        rwa [List.length_map, Ix.pRows_length] at h
      obtain ⟨at0, hat0⟩ : ∃ at0, at0 = A + k := ⟨_, rfl⟩
      rw [← hat0]
      by_cases hlt : at0 < Z
      · have hln : at0 < R.length := by have := hn'.out; omega
        obtain ⟨r, hr⟩ : ∃ r, R[at0]? = some r := ⟨_, List.getElem?_eq_getElem hln⟩
        have hsh := Ix.pRows_succ R A k
        rw [← hat0, Ix.shI_at hln, (List.getElem?_eq_some_iff.1 hr).2] at hsh
        have hsz := (H.out.2.2.2.2.2.2.2.2.1 r (List.mem_of_getElem? hr)).1
        obtain ⟨b, o, rfl, hbl, q0, q1, q2⟩ := H.out.1 at0 r hr
        obtain ⟨W0, hW0⟩ : ∃ W0, W0 = Tr.way LV at0 := ⟨_, rfl⟩
        have hwI : wayI LV (at0 : Int) = W0 ∧ wayE LV (at0 : Int) = 0 := by
          have hb : 0 ≤ (at0 : Int) ∧ (at0 : Int) < LV.length := ⟨by omega, by have := HP4.out.2; omega⟩
          refine ⟨?_, if_pos hb⟩
          rw [hW0]
          exact (if_pos hb).trans (by rw [Int.toNat_natCast])
        rw [show Ix.lvs R = LV from H.out.2.2.2.2.2.2.2.2.2.1.symm, ← hW0] at hsh
        have hwy := H.out.2.2.2.2.2.2.1 wr at0 d dc hP.below (OwnT.texts hP.dg.own) (by have := (OwnT.capy hP.dg.own).1; have := HP4.out.2; omega) (OwnT.capy hP.dg.own).2
        rw [hwI.1, hwI.2] at hwy
        obtain ⟨nw, hnw⟩ : ∃ nw, nw = W0.length := ⟨_, rfl⟩
        rw [← hnw] at hwy
        have hCE : CellS w.heap.size b (o + at0 * 3) (.slice (some ⟨b, o, none⟩) n cap) r wr := by
          have hbw : b < wr.heap.size := Nat.lt_of_lt_of_le hbl hP.below.size
          exact ⟨hP.xcell, (hP.below.cell (p := ⟨b, _, none⟩) hbl).trans q0, (hP.below.cell (p := ⟨b, _, none⟩) hbl).trans q1, (hP.below.cell (p := ⟨b, _, none⟩) hbl).trans q2, lt_of_heap hP.box, hbw⟩
        have hatn : at0 < n := by omega
        have HR := Lib.hid (And.intro hP (And.intro hsh (And.intro hsz (And.intro hwy (And.intro hCE (And.intro hrs (And.intro hrl (And.intro hnw (And.intro hbl hat0)))))))))
        clear hP hsh hsz hwy hCE hrs hrl hnw hbl hat0 hr hln q0 q1 q2 hW0 hwI
        go_wp2_with fail
        refine HR.out.2.2.2.1.mono ?_
        rintro e w5 ⟨wa, wc0, rfl, hoW, hb5⟩
        have hP5 := HR.out.1.call hb5
        have hFW : FarT (w.heap.size + 2) gp (Value.slice a rs.length ca).ownBlock wa wc0 W0 w5 := by
          refine ⟨OwnT.mono hoW (by have := HR.out.1.size; have := HR.out.1.lo; omega), fun g hg => ?_, fun g hg e => ?_⟩
          · have := (World.ownsRow.lt hoW g hg).1; have := HR.out.1.size; omega
          · have := (World.ownsRow.lt hoW g hg).1; have := (HR.out.1.own.lt g e).2; omega
        have H5 := Lib.hid (And.intro hP5 (And.intro hFW (HR.out.2.2.2.2.1.call hb5)))
        clear hP5 hFW hoW hb5
        obtain ⟨wo, hwo⟩ : ∃ wo, wo = wr := ⟨_, rfl⟩
        subst hwo
        obtain ⟨rx, ru, rv⟩ := r
        go_upto_region 11 with fail
        go_wp2_with fail
        refine wp_region_held (S := fun W : World => CellS w.heap.size b (o + at0 * 3) (.slice (some ⟨b, o, none⟩) n cap) ⟨rx, ru, rv⟩ W) (by kernel_rfl) ?_
        change wpAnyH _ _ _ _ _ _ _ _ (World.drew _)
        generalize hv0 : World.drew _ = v0
        have E0 : CellS w.heap.size b (o + at0 * 3) (.slice (some ⟨b, o, none⟩) n cap) ⟨rx, ru, rv⟩ v0 := by rw [← hv0]; exact H5.out.2.2.call ((Below.refl _ _).drew)
        have F0 : Below w5.heap.size w5 v0 := by rw [← hv0]; exact ((Below.refl _ _).drew)
        have LL := (show PvS w (.slice (some ⟨b, o, none⟩) n cap) n gp rs a ca d dc LV v0 by rw [← hv0]; exact H5.out.1.call ((Below.refl _ _).drew))
        have FF := (show FarT (w.heap.size + 2) gp (Value.slice a rs.length ca).ownBlock wa wc0 W0 v0 by rw [← hv0]; exact H5.out.2.1.call ((Below.refl _ _).drew))
        clear hv0
        refine wpAnyH_take (i := 0) (v := ?_) rfl (by kernel_rfl) (by kernel_rfl) (by kernel_rfl) (fun _ _ _ h => h) (Or.inl ⟨by kernel_rfl, ?_⟩) E0 ?_
        rotate_left
        · (intro W hS; obtain ⟨k0, k1, k2, k3, -, -⟩ := hS; simp only at k1 k2 k3; go_simp; try (with_reducible rfl))
        refine wpAnyH_take (i := 2) (v := ?_) rfl (by kernel_rfl) (by kernel_rfl) (by kernel_rfl) (fun _ _ _ h => h) (Or.inl ⟨by kernel_rfl, ?_⟩) E0 ?_
        rotate_left
        · (intro W hS; obtain ⟨k0, k1, k2, k3, -, -⟩ := hS; simp only at k1 k2 k3; go_simp; try (with_reducible rfl))
        refine wpAnyH_take (i := 3) (v := ?_) rfl (by kernel_rfl) (by kernel_rfl) (by kernel_rfl) (fun _ _ _ h => h) (Or.inl ⟨by kernel_rfl, ?_⟩) E0 ?_
        rotate_left
        · (intro W hS; obtain ⟨k0, k1, k2, k3, -, -⟩ := hS; simp only at k1 k2 k3; go_simp; try (with_reducible rfl))
        refine wpAnyH_take (i := 4) (v := ?_) rfl (by kernel_rfl) (by kernel_rfl) (by kernel_rfl) (fun _ _ _ h => h) (Or.inl ⟨by kernel_rfl, ?_⟩) E0 ?_
        rotate_left
        · (intro W hS; obtain ⟨k0, k1, k2, k3, -, -⟩ := hS; simp only at k1 k2 k3; go_simp; try (with_reducible rfl))
        refine wpAnyH_take (i := 5) (v := ?_) rfl (by kernel_rfl) (by kernel_rfl) (by kernel_rfl) (fun _ _ _ h => h) (Or.inl ⟨by kernel_rfl, ?_⟩) E0 ?_
        rotate_left
        · (intro W hS; obtain ⟨k0, k1, k2, k3, -, -⟩ := hS; simp only at k1 k2 k3; go_simp; try (with_reducible rfl))
        refine wpAnyH_take (i := 6) (v := ?_) rfl (by kernel_rfl) (by kernel_rfl) (by kernel_rfl) (fun _ _ _ h => h) (Or.inl ⟨by kernel_rfl, ?_⟩) E0 ?_
        rotate_left
        · (intro W hS; obtain ⟨k0, k1, k2, k3, -, -⟩ := hS; simp only at k1 k2 k3; go_simp; try (with_reducible rfl))
        refine wpAnyH_take (i := 7) (v := ?_) rfl (by kernel_rfl) (by kernel_rfl) (by kernel_rfl) (fun _ _ _ h => h) (Or.inl ⟨by kernel_rfl, ?_⟩) E0 ?_
        rotate_left
        · (intro W hS; obtain ⟨k0, k1, k2, k3, -, -⟩ := hS; simp only at k1 k2 k3; go_simp; try (with_reducible rfl))
        refine wpAnyH_take (i := 9) (v := ?_) rfl (by kernel_rfl) (by kernel_rfl) (by kernel_rfl) (fun _ _ _ h => h) (Or.inl ⟨by kernel_rfl, ?_⟩) E0 ?_
        rotate_left
        · (intro W hS; obtain ⟨k0, k1, k2, k3, -, -⟩ := hS; simp only at k1 k2 k3; go_simp; try (with_reducible rfl))
        refine wpAnyH_ready (rs := [1, 8]) (by kernel_rfl) (by simp) ?_
        refine AllReadyH.cons (i := 1) rfl (fun K hK => ?_) (AllReadyH.cons (i := 8) rfl (fun K hK => ?_) AllReadyH.nil)
        · have qs := LL.pcell.2.1
          go_simp
          refine hK.out _ _ E0 (fun _ => ?_)
          clear hK K qs
          refine wpAnyH_ready (rs := [8]) (by kernel_rfl) (by simp) ?_
          refine AllReadyH.cons (i := 8) rfl (fun K hK => ?_) AllReadyH.nil
          go_simp
          refine (own18_any rx ru rv (by have := HR.out.2.2.1; omega) v0).mono ?_
          rintro e v1 ⟨rfl, hb⟩
          have F1 := F0.trans (hb.mono F0.size)
          have E1 : CellS w.heap.size b (o + at0 * 3) (.slice (some ⟨b, o, none⟩) n cap) ⟨rx, ru, rv⟩ v1 := E0.call hb
          have L0n := LL.call hb
          have FFn := FF.call hb
          clear LL FF
          have LL := L0n
          have FF := FFn
          clear L0n FFn
          refine hK.out _ _ E1 (fun _ => ?_)
          clear hK K hb
          refine wpAnyH_take (i := 10) (v := ?_) rfl (by kernel_rfl) (by kernel_rfl) (by kernel_rfl) (fun _ _ _ h => h) (Or.inl ⟨by kernel_rfl, ?_⟩) E1 ?_
          rotate_left
          · (intro W hS; obtain ⟨k0, k1, k2, k3, -, -⟩ := hS; simp only at k1 k2 k3; go_simp; try (with_reducible rfl))
          refine wpAnyH_ready (rs := [11]) (by kernel_rfl) (by simp) ?_
          refine AllReadyH.cons (i := 11) rfl (fun K hK => ?_) AllReadyH.nil
          obtain ⟨v2, hv⟩ : ∃ v, v = v1.alloc (.cells (shCs ((⟨(at0 : Int), ⟨rx, ru, rv⟩, W0⟩, wa, wc0) : ShW)) 131) := ⟨_, rfl⟩
          have hb : Below v1.heap.size v1 v2 := by rw [hv]; exact (Below.refl _ _).alloc (Nat.le_refl _) _
          have g1 : v2.heap[v1.heap.size]? = some (.cells (shCs ((⟨(at0 : Int), ⟨rx, ru, rv⟩, W0⟩, wa, wc0) : ShW)) 131 (0, 0)) := by rw [hv]; exact heap_alloc_new _ _
          have F2 := F1.trans (hb.mono F1.size)
          have E2 : CellS w.heap.size b (o + at0 * 3) (.slice (some ⟨b, o, none⟩) n cap) ⟨rx, ru, rv⟩ v2 := E1.call hb
          simp only [shCs] at hv; rw [← HR.out.2.2.2.2.2.2.2.1] at hv
          go_simp
          rw [← hv]
          clear hv
          have L1n := LL.call hb
          have FFn := FF.call hb
          clear LL FF
          have LL := L1n
          have FF := FFn
          clear L1n FFn
          refine hK.out _ _ E2 (fun _ => ?_)
          clear hK K hb
          refine wpAnyH_ready (rs := [12]) (by kernel_rfl) (by simp) ?_
          refine AllReadyH.cons (i := 12) rfl (fun K hK => ?_) AllReadyH.nil
          refine step_append_r rfl (.tmp 49) (.tmp 59) 32 rfl arproof_rec shCs_one shCs_size LL.own _ rfl (by kernel_rfl) _ 1 ((⟨(at0 : Int), ⟨rx, ru, rv⟩, W0⟩, wa, wc0) : ShW) (by kernel_rfl) g1 (by have := HR.out.2.2.2.2.2.2.1; have := HM1.out; omega) (by have := LL.size; have := LL.lo; omega) (Below.refl _ _) ?_
          intro q cq v3 ho hB hg hat
          have E2n : CellS w.heap.size b (o + at0 * 3) (.slice (some ⟨b, o, none⟩) n cap) ⟨rx, ru, rv⟩ v3 := E2.same (hg.block _ E2.l1 (fun e => by have := (LL.own.lt _ e.symm).1; omega)) (hg.block _ E2.l2 (fun e => by have := (LL.own.lt _ e.symm).1; have := HR.out.2.2.2.2.2.2.2.2.1; omega)) hg.size
          have hN := LL.add rfl FF ho hg hat
          have zg : v3.heap[gp]? = _ := (hg.block gp LL.size (fun e => LL.ap gp e.symm rfl)).trans LL.row
          have z0 : v3.cell? ⟨gp, 1, none⟩ = some (.slice a rs.length ca) := by rw [cell_of_row _ _ _ _ _ _ zg]; rfl
          have zf : v3.frozen? ⟨gp, 1, none⟩ = false := frozen_of_row _ _ _ _ _ zg
          have EZ : CellS w.heap.size b (o + at0 * 3) (.slice (some ⟨b, o, none⟩) n cap) ⟨rx, ru, rv⟩ (v3.setCell ⟨gp, 1, none⟩ (.slice (some ⟨q, 0, none⟩) (rs.length + 1) cq)) := E2n.same (heap_setCell_other _ _ _ _ (show w.heap.size ≠ gp by have := HR.out.1.lo; omega)) (heap_setCell_other _ _ _ _ (show b ≠ gp by have := HR.out.1.lo; have := HR.out.2.2.2.2.2.2.2.2.1; omega)) (by simp [World.setCell])
          have HN := Lib.hid hN
          clear hN zg ho hB hg hat LL FF
          refine hK.out _ _ E2n (fun _ => ?_)
          clear hK K
          refine wpAnyH_take (i := 13) (v := ?_) rfl (by kernel_rfl) (by kernel_rfl) (by kernel_rfl) (fun _ _ _ h => h) (Or.inl ⟨by kernel_rfl, ?_⟩) E2n ?_
          rotate_left
          · (intro W hS; obtain ⟨k0, k1, k2, k3, -, -⟩ := hS; simp only at k1 k2 k3; go_simp; try (with_reducible rfl))
          refine wpAnyH_ready (rs := [14]) (by kernel_rfl) (by simp) ?_
          refine AllReadyH.cons (i := 14) rfl (fun K hK => ?_) AllReadyH.nil
          go_simp
          refine hK.out _ _ EZ (fun _ => ?_)
          clear hK K z0 zf
          refine wpAnyH_done (by kernel_rfl) ?_ _
          go_simp
          clear EZ
          generalize World.setCell _ _ _ = wz at *
          go_wp2_with fail
          go_roundw
          case rel => exact ⟨k + 1, _, _, cq, by have := HR.out.2.2.2.2.2.2.2.2.2; have := HM1.out; omega, by have := HR.out.2.2.2.2.2.2.2.2.2; go_num, by rw [List.map_append, HR.out.2.2.2.2.2.1, HR.out.2.1]; rfl, HN.out⟩
          case measure => simp [intOf]; omega
        · go_simp
          refine (own18_any rx ru rv (by have := HR.out.2.2.1; omega) v0).mono ?_
          rintro e v1 ⟨rfl, hb⟩
          have F1 := F0.trans (hb.mono F0.size)
          have E1 : CellS w.heap.size b (o + at0 * 3) (.slice (some ⟨b, o, none⟩) n cap) ⟨rx, ru, rv⟩ v1 := E0.call hb
          have L0n := LL.call hb
          have FFn := FF.call hb
          clear LL FF
          have LL := L0n
          have FF := FFn
          clear L0n FFn
          refine hK.out _ _ E1 (fun _ => ?_)
          clear hK K hb
          refine wpAnyH_take (i := 10) (v := ?_) rfl (by kernel_rfl) (by kernel_rfl) (by kernel_rfl) (fun _ _ _ h => h) (Or.inl ⟨by kernel_rfl, ?_⟩) E1 ?_
          rotate_left
          · (intro W hS; obtain ⟨k0, k1, k2, k3, -, -⟩ := hS; simp only at k1 k2 k3; go_simp; try (with_reducible rfl))
          refine wpAnyH_ready (rs := [1, 11]) (by kernel_rfl) (by simp) ?_
          refine AllReadyH.cons (i := 1) rfl (fun K hK => ?_) (AllReadyH.cons (i := 11) rfl (fun K hK => ?_) AllReadyH.nil)
          · have qs := LL.pcell.2.1
            go_simp
            refine hK.out _ _ E1 (fun _ => ?_)
            clear hK K qs
            refine wpAnyH_ready (rs := [11]) (by kernel_rfl) (by simp) ?_
            refine AllReadyH.cons (i := 11) rfl (fun K hK => ?_) AllReadyH.nil
            obtain ⟨v2, hv⟩ : ∃ v, v = v1.alloc (.cells (shCs ((⟨(at0 : Int), ⟨rx, ru, rv⟩, W0⟩, wa, wc0) : ShW)) 131) := ⟨_, rfl⟩
            have hb : Below v1.heap.size v1 v2 := by rw [hv]; exact (Below.refl _ _).alloc (Nat.le_refl _) _
            have g1 : v2.heap[v1.heap.size]? = some (.cells (shCs ((⟨(at0 : Int), ⟨rx, ru, rv⟩, W0⟩, wa, wc0) : ShW)) 131 (0, 0)) := by rw [hv]; exact heap_alloc_new _ _
            have F2 := F1.trans (hb.mono F1.size)
            have E2 : CellS w.heap.size b (o + at0 * 3) (.slice (some ⟨b, o, none⟩) n cap) ⟨rx, ru, rv⟩ v2 := E1.call hb
            simp only [shCs] at hv; rw [← HR.out.2.2.2.2.2.2.2.1] at hv
            go_simp
            rw [← hv]
            clear hv
            have L1n := LL.call hb
            have FFn := FF.call hb
            clear LL FF
            have LL := L1n
            have FF := FFn
            clear L1n FFn
            refine hK.out _ _ E2 (fun _ => ?_)
            clear hK K hb
            refine wpAnyH_ready (rs := [12]) (by kernel_rfl) (by simp) ?_
            refine AllReadyH.cons (i := 12) rfl (fun K hK => ?_) AllReadyH.nil
            refine step_append_r rfl (.tmp 49) (.tmp 59) 32 rfl arproof_rec shCs_one shCs_size LL.own _ rfl (by kernel_rfl) _ 1 ((⟨(at0 : Int), ⟨rx, ru, rv⟩, W0⟩, wa, wc0) : ShW) (by kernel_rfl) g1 (by have := HR.out.2.2.2.2.2.2.1; have := HM1.out; omega) (by have := LL.size; have := LL.lo; omega) (Below.refl _ _) ?_
            intro q cq v3 ho hB hg hat
            have E2n : CellS w.heap.size b (o + at0 * 3) (.slice (some ⟨b, o, none⟩) n cap) ⟨rx, ru, rv⟩ v3 := E2.same (hg.block _ E2.l1 (fun e => by have := (LL.own.lt _ e.symm).1; omega)) (hg.block _ E2.l2 (fun e => by have := (LL.own.lt _ e.symm).1; have := HR.out.2.2.2.2.2.2.2.2.1; omega)) hg.size
            have hN := LL.add rfl FF ho hg hat
            have zg : v3.heap[gp]? = _ := (hg.block gp LL.size (fun e => LL.ap gp e.symm rfl)).trans LL.row
            have z0 : v3.cell? ⟨gp, 1, none⟩ = some (.slice a rs.length ca) := by rw [cell_of_row _ _ _ _ _ _ zg]; rfl
            have zf : v3.frozen? ⟨gp, 1, none⟩ = false := frozen_of_row _ _ _ _ _ zg
            have EZ : CellS w.heap.size b (o + at0 * 3) (.slice (some ⟨b, o, none⟩) n cap) ⟨rx, ru, rv⟩ (v3.setCell ⟨gp, 1, none⟩ (.slice (some ⟨q, 0, none⟩) (rs.length + 1) cq)) := E2n.same (heap_setCell_other _ _ _ _ (show w.heap.size ≠ gp by have := HR.out.1.lo; omega)) (heap_setCell_other _ _ _ _ (show b ≠ gp by have := HR.out.1.lo; have := HR.out.2.2.2.2.2.2.2.2.1; omega)) (by simp [World.setCell])
            have HN := Lib.hid hN
            clear hN zg ho hB hg hat LL FF
            refine hK.out _ _ E2n (fun _ => ?_)
            clear hK K
            refine wpAnyH_take (i := 13) (v := ?_) rfl (by kernel_rfl) (by kernel_rfl) (by kernel_rfl) (fun _ _ _ h => h) (Or.inl ⟨by kernel_rfl, ?_⟩) E2n ?_
            rotate_left
            · (intro W hS; obtain ⟨k0, k1, k2, k3, -, -⟩ := hS; simp only at k1 k2 k3; go_simp; try (with_reducible rfl))
            refine wpAnyH_ready (rs := [14]) (by kernel_rfl) (by simp) ?_
            refine AllReadyH.cons (i := 14) rfl (fun K hK => ?_) AllReadyH.nil
            go_simp
            refine hK.out _ _ EZ (fun _ => ?_)
            clear hK K z0 zf
            refine wpAnyH_done (by kernel_rfl) ?_ _
            go_simp
            clear EZ
            generalize World.setCell _ _ _ = wz at *
            go_wp2_with fail
            go_roundw
            case rel => exact ⟨k + 1, _, _, cq, by have := HR.out.2.2.2.2.2.2.2.2.2; have := HM1.out; omega, by have := HR.out.2.2.2.2.2.2.2.2.2; go_num, by rw [List.map_append, HR.out.2.2.2.2.2.1, HR.out.2.1]; rfl, HN.out⟩
            case measure => simp [intOf]; omega
          · obtain ⟨v2, hv⟩ : ∃ v, v = v1.alloc (.cells (shCs ((⟨(at0 : Int), ⟨rx, ru, rv⟩, W0⟩, wa, wc0) : ShW)) 131) := ⟨_, rfl⟩
            have hb : Below v1.heap.size v1 v2 := by rw [hv]; exact (Below.refl _ _).alloc (Nat.le_refl _) _
            have g1 : v2.heap[v1.heap.size]? = some (.cells (shCs ((⟨(at0 : Int), ⟨rx, ru, rv⟩, W0⟩, wa, wc0) : ShW)) 131 (0, 0)) := by rw [hv]; exact heap_alloc_new _ _
            have F2 := F1.trans (hb.mono F1.size)
            have E2 : CellS w.heap.size b (o + at0 * 3) (.slice (some ⟨b, o, none⟩) n cap) ⟨rx, ru, rv⟩ v2 := E1.call hb
            simp only [shCs] at hv; rw [← HR.out.2.2.2.2.2.2.2.1] at hv
            go_simp
            rw [← hv]
            clear hv
            have L1n := LL.call hb
            have FFn := FF.call hb
            clear LL FF
            have LL := L1n
            have FF := FFn
            clear L1n FFn
            refine hK.out _ _ E2 (fun _ => ?_)
            clear hK K hb
            refine wpAnyH_ready (rs := [1]) (by kernel_rfl) (by simp) ?_
            refine AllReadyH.cons (i := 1) rfl (fun K hK => ?_) AllReadyH.nil
            have qs := LL.pcell.2.1
            go_simp
            refine hK.out _ _ E2 (fun _ => ?_)
            clear hK K qs
            refine wpAnyH_ready (rs := [12]) (by kernel_rfl) (by simp) ?_
            refine AllReadyH.cons (i := 12) rfl (fun K hK => ?_) AllReadyH.nil
            refine step_append_r rfl (.tmp 49) (.tmp 59) 32 rfl arproof_rec shCs_one shCs_size LL.own _ rfl (by kernel_rfl) _ 1 ((⟨(at0 : Int), ⟨rx, ru, rv⟩, W0⟩, wa, wc0) : ShW) (by kernel_rfl) g1 (by have := HR.out.2.2.2.2.2.2.1; have := HM1.out; omega) (by have := LL.size; have := LL.lo; omega) (Below.refl _ _) ?_
            intro q cq v3 ho hB hg hat
            have E2n : CellS w.heap.size b (o + at0 * 3) (.slice (some ⟨b, o, none⟩) n cap) ⟨rx, ru, rv⟩ v3 := E2.same (hg.block _ E2.l1 (fun e => by have := (LL.own.lt _ e.symm).1; omega)) (hg.block _ E2.l2 (fun e => by have := (LL.own.lt _ e.symm).1; have := HR.out.2.2.2.2.2.2.2.2.1; omega)) hg.size
            have hN := LL.add rfl FF ho hg hat
            have zg : v3.heap[gp]? = _ := (hg.block gp LL.size (fun e => LL.ap gp e.symm rfl)).trans LL.row
            have z0 : v3.cell? ⟨gp, 1, none⟩ = some (.slice a rs.length ca) := by rw [cell_of_row _ _ _ _ _ _ zg]; rfl
            have zf : v3.frozen? ⟨gp, 1, none⟩ = false := frozen_of_row _ _ _ _ _ zg
            have EZ : CellS w.heap.size b (o + at0 * 3) (.slice (some ⟨b, o, none⟩) n cap) ⟨rx, ru, rv⟩ (v3.setCell ⟨gp, 1, none⟩ (.slice (some ⟨q, 0, none⟩) (rs.length + 1) cq)) := E2n.same (heap_setCell_other _ _ _ _ (show w.heap.size ≠ gp by have := HR.out.1.lo; omega)) (heap_setCell_other _ _ _ _ (show b ≠ gp by have := HR.out.1.lo; have := HR.out.2.2.2.2.2.2.2.2.1; omega)) (by simp [World.setCell])
            have HN := Lib.hid hN
            clear hN zg ho hB hg hat LL FF
            refine hK.out _ _ E2n (fun _ => ?_)
            clear hK K
            refine wpAnyH_take (i := 13) (v := ?_) rfl (by kernel_rfl) (by kernel_rfl) (by kernel_rfl) (fun _ _ _ h => h) (Or.inl ⟨by kernel_rfl, ?_⟩) E2n ?_
            rotate_left
            · (intro W hS; obtain ⟨k0, k1, k2, k3, -, -⟩ := hS; simp only at k1 k2 k3; go_simp; try (with_reducible rfl))
            refine wpAnyH_ready (rs := [14]) (by kernel_rfl) (by simp) ?_
            refine AllReadyH.cons (i := 14) rfl (fun K hK => ?_) AllReadyH.nil
            go_simp
            refine hK.out _ _ EZ (fun _ => ?_)
            clear hK K z0 zf
            refine wpAnyH_done (by kernel_rfl) ?_ _
            go_simp
            clear EZ
            generalize World.setCell _ _ _ = wz at *
            go_wp2_with fail
            go_roundw
            case rel => exact ⟨k + 1, _, _, cq, by have := HR.out.2.2.2.2.2.2.2.2.2; have := HM1.out; omega, by have := HR.out.2.2.2.2.2.2.2.2.2; go_num, by rw [List.map_append, HR.out.2.2.2.2.2.1, HR.out.2.1]; rfl, HN.out⟩
            case measure => simp [intOf]; omega
      · obtain rfl : k = m1 := by have := HM1.out; omega
        have hL := fun x y => hP.ret x y
        rw [hrs] at hL
        have hcp := hP.own.capy
        obtain ⟨p0, p1, -⟩ := hP.pcell
        obtain ⟨e0, e1, ef⟩ := hP.rcell
        have hne : ¬ gp = w.heap.size + 1 := by have := hP.lo; omega
        rw [hrl] at p1 hcp
        have HE := Lib.hid (And.intro hL (And.intro hP.below hcp))
        clear hL hP hcp hrs hrl hat0
        go_wp2_with fail
        refine bodyPost_ret (v := .agg #[.int .i64 n, .slice a k ca]) (by simp [results, Tryz.results15, go_sem, e0, e1]) rfl ?_
        refine ⟨a, ca, rfl, ?_, HE.out.2.2.1, HE.out.2.2.2, (HE.out.2.1.setCell (p := ⟨w.heap.size + 1, 0, none⟩) (show w.heap.size ≤ w.heap.size + 1 by omega) _).setCell (p := ⟨w.heap.size + 1, 1, none⟩) (show w.heap.size ≤ w.heap.size + 1 by omega) _⟩
        exact HE.out.1 _ _
end Go.Proofs.YtdfkpjmljaanpaaGreatDoor
