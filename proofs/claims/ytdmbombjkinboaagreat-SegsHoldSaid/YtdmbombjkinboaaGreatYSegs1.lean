/- segs: readSegments. -/
import Derived.Test.YtdmbombjkinboaaGreatYSegs0
namespace Go.Proofs.YtdmbombjkinboaaGreat
open Go.RowKit
open Dk Sg Fr

/-- How many records stand ahead of a segment. -/
def ahead (l : List (Nat × List ByteArray)) (i : Nat) : Nat := ((l.take i).flatMap (·.2)).length
def segsAt (l : List (Nat × List ByteArray)) (i : Nat) : List (Nat × Nat) := l.mapIdx fun j s => (s.1, if j < i then ahead l j else 0)
def stS (falls : Int) (c : Nat × Ent) (l : List (Nat × List ByteArray)) (i : Nat) : Stor := ⟨falls, c.1, c.2.epoch, segsAt l i, (l.take i).flatMap (·.2), 0⟩
/-- The tears behind so many segments; where the frames of each end, and why. -/
def tS (T : List (Nat × Nat)) (l : List (Nat × List ByteArray)) (E : Nat → Nat × Nat) : Nat → List (Nat × Nat)
  | 0 => T
  | i + 1 => tearsOf (E i).2 (l.getD i (0, [])).1 (E i).1 (tS T l E i)
theorem segsAt_length (l : List (Nat × List ByteArray)) (i : Nat) : (segsAt l i).length = l.length := by unfold segsAt; rw [List.length_mapIdx]
theorem segsAt_get {l : List (Nat × List ByteArray)} {i j x : Nat} {rs : List ByteArray} (h : l[j]? = some (x, rs)) : (segsAt l i)[j]? = some (x, if j < i then ahead l j else 0) := by
  unfold segsAt; rw [List.getElem?_mapIdx, h]; rfl
theorem segsAt_next {l : List (Nat × List ByteArray)} {i x : Nat} {rs : List ByteArray} (h : l[i]? = some (x, rs)) : segsAt l (i + 1) = (segsAt l i).set i (x, ahead l i) := by
  apply List.ext_getElem?
  intro j
  rw [List.getElem?_set]
  have hi := (List.getElem?_eq_some_iff.1 h).1
  by_cases hj : j < l.length
  · obtain ⟨⟨y, ys⟩, hy⟩ : ∃ y, l[j]? = some y := ⟨_, List.getElem?_eq_getElem hj⟩
    rw [segsAt_get hy, segsAt_get hy]
    by_cases e : i = j
    · subst e
      rw [h] at hy
      injection hy with hy
      injection hy with hy _
      rw [if_pos rfl, if_pos (by omega), if_pos (by rw [segsAt_length]; exact hi), hy]
    · rw [if_neg e]
      by_cases hlt : j < i
      · rw [if_pos (by omega), if_pos hlt]
      · rw [if_neg (by omega), if_neg hlt]
  · rw [List.getElem?_eq_none (by rw [segsAt_length]; omega), if_neg (by omega), List.getElem?_eq_none (by rw [segsAt_length]; omega)]
theorem segsAt_zero (l : List (Nat × List ByteArray)) : segsAt l 0 = l.map fun s => (s.1, 0) := by
  apply List.ext_getElem?
  intro j
  unfold segsAt
  rw [List.getElem?_mapIdx, List.getElem?_map]
  simp
theorem stS_zero {falls : Int} {c : Nat × Ent} {l : List (Nat × List ByteArray)} (h : l.map (·.1) = c.2.exts) : stS falls c l 0 = stL falls c := by
  unfold stS stL
  rw [segsAt_zero, ← h, List.map_map]; rfl
theorem stake_next {l : List (Nat × List ByteArray)} {i x : Nat} {rs : List ByteArray} (h : l[i]? = some (x, rs)) : (l.take (i + 1)).flatMap (·.2) = (l.take i).flatMap (·.2) ++ rs := by
  rw [List.take_add_one, h, List.flatMap_append]; simp
theorem OwnR.ne_hd {B : Nat} {w : World} {s b : Nat} {S : Stor} {vs vr : Value} {a : Option Addr} {cap : Nat} {l : List (Nat × Nat)} (hd : Hd w s b S vs vr) (h : OwnR B w a cap l) : (Value.slice a l.length cap).ownBlock ≠ some s := fun e => by
  rcases h.2 with ⟨e1, hn⟩ | ⟨g, c, cur, e1, hB, hg, -⟩
  · injection e1 with e2 _ _; subst e2; cases e
  · injection e1 with e2 _ _
    subst e2
    injection e with e
    have e : g = s := e
    subst e
    unfold Hd at hd
    rw [hd] at hg
    injection hg with hg
    injection hg with _ hg _
    exact absurd hg (by decide)
theorem OwnG.ne_op {w : World} {o s g cap : Nat} {tv : Value} {l : List (Nat × Nat)} (hd : Op w o s tv) (h : OwnG w (some ⟨g, 0, none⟩) cap l) : g ≠ o := fun e => by
  rcases h.2 with ⟨e1, hn⟩ | ⟨g1, c, cur, e1, hB, hg, -⟩
  · cases e1
  · injection e1 with e2 _ _
    injection e2 with e2
    injection e2 with e2
    subst e2 e
    unfold Op at hd
    rw [hd] at hg
    injection hg with hg
    injection hg with _ hg _
    exact absurd hg (by decide)
/-- A scan leaves the store's cells and its segments. -/
theorem scan_keep {B o s b sg cap tc : Nat} {S : Stor} {vs vr : Value} {ta : Option Addr} {T T' : List (Nat × Nat)} {k : List (Nat × Nat)} {l : List ByteArray} {wr W w1 : World} {e : Ending} (h1 : Op wr o s (.slice ta T.length tc)) (h2 : OwnR B wr ta tc T) (h3 : Hd wr s b S vs vr) (h4 : OwnG wr (some ⟨sg, 0, none⟩) cap k)
    (hb : Below wr.heap.size wr W) (hs : Scanned B o s ta tc T T' l W e w1) : w1.heap[s]? = wr.heap[s]? ∧ w1.heap[sg]? = wr.heap[sg]? := by
  obtain ⟨a, cap, ta', tc', he, ho, hop', hot', ht⟩ := hs
  have hsg : sg < wr.heap.size := (World.ownsRow.lt h4 sg rfl).2
  exact ⟨(ht.same s (Nat.lt_of_lt_of_le h3.lt hb.size) rfl (fun k => k.elim (fun e => op_ne_hd h1 h3 e.symm) (OwnR.ne_hd h3 h2))).trans (hb.block s h3.lt),
    (ht.same sg (Nat.lt_of_lt_of_le hsg hb.size) rfl (fun k => k.elim (OwnG.ne_op h1 h4) (own_ne (by decide) h4 h2 rfl))).trans (hb.block sg hsg)⟩
theorem tS_len {T : List (Nat × Nat)} (hT : T.length ≤ 100) (l : List (Nat × List ByteArray)) (E : Nat → Nat × Nat) : ∀ i, (tS T l E i).length ≤ 100 + i
  | 0 => hT
  | i + 1 => by
    have ih := tS_len hT l E i
    show (tearsOf _ _ _ _).length ≤ _
    unfold tearsOf
    split
    · rw [List.length_append, List.length_singleton]; omega
    · omega
theorem own_up {w : World} {B : Nat} {e : TypeId} {k : Nat} {v : Value} {n : Nat} {xs : List Value} (h : w.ownsRow 0 e k v n xs) (hb : ∀ g, v.ownBlock = some g → B ≤ g) : w.ownsRow B e k v n xs := by
  refine ⟨h.1, ?_⟩
  rcases h.2 with h2 | ⟨g, c, cur, e1, hB, hg, h3⟩
  · exact .inl h2
  · exact .inr ⟨g, c, cur, e1, hb g (by rw [e1]; rfl), hg, h3⟩
theorem own_keep {w w' : World} {B : Nat} {e : TypeId} {k : Nat} {v : Value} {n : Nat} {xs : List Value} (h : w.ownsRow B e k v n xs) (hs : ∀ g, v.ownBlock = some g → w'.heap[g]? = w.heap[g]?) : w'.ownsRow B e k v n xs := by
  refine ⟨h.1, ?_⟩
  rcases h.2 with h2 | ⟨g, c, cur, e1, hB, hg, h3⟩
  · exact .inl h2
  · exact .inr ⟨g, c, cur, e1, hB, (hs g (by rw [e1]; rfl)).trans hg, h3⟩
theorem own_ne_row {w : World} {B : Nat} {e t : TypeId} {k g : Nat} {v : Value} {n : Nat} {xs : List Value} {c : Array Value} (ht : e ≠ t) (h : w.ownsRow B e k v n xs) (hg : w.heap[g]? = some (.cells c t (0, 0))) : v.ownBlock ≠ some g := fun e' => by
  rcases h.2 with ⟨rfl, _⟩ | ⟨g1, c1, cur, rfl, hB, hg1, -⟩
  · cases e'
  · injection e' with e'
    have e' : g1 = g := e'
    subst e'
    rw [hg] at hg1
    injection hg1 with hg1
    injection hg1 with _ hg1 _
    exact ht hg1.symm
/-- A segment's place tells how many records stand ahead of it. -/
theorem Opg.ahead {B : Nat} {w0 w : World} {o s b sg cap i x y : Nat} {S : Stor} {T : List (Nat × Nat)} {ta ar : Option Addr} {tc cr : Nat} (hlow : Below B w0 w) (hoB : B ≤ o) (hsB : B ≤ s)
    (h1 : Op w o s (.slice ta T.length tc)) (h2 : OwnR B w ta tc T) (h3 : Hd w s b S (.slice (some ⟨sg, 0, none⟩) S.segs.length cap) (.slice ar S.recs.length cr)) (h4 : OwnG w (some ⟨sg, 0, none⟩) cap S.segs) (h5 : B ≤ sg) (h6 : OwnT B w ar cr S.recs) (hi : S.segs[i]? = some (x, y)) (k : Nat) :
    Opg B w0 o s b { S with segs := S.segs.set i (x, k) } T (w.setCell ⟨sg, i * 2 + 1, none⟩ (.int .i64 (k : Int))) := by
  have k0 : ∀ g, g ≠ sg → (w.setCell ⟨sg, i * 2 + 1, none⟩ (.int .i64 (k : Int))).heap[g]? = w.heap[g]? := fun g hg => heap_setCell_other _ _ g _ hg
  have hso : o ≠ sg := fun e => OwnG.ne_op h1 h4 e.symm
  have hss : s ≠ sg := fun e => OwnG.ne h3 h4 (by rw [e]; rfl)
  have hn : (S.segs.set i (x, k)).length = S.segs.length := List.length_set
  refine ⟨⟨ta, tc, some ⟨sg, 0, none⟩, cap, ar, cr, (k0 o hso).trans h1, own_keep h2 fun g hg => k0 g (fun e => own_ne (by decide) h2 h4 hg (by rw [e]; rfl)), ?_, OwnG.put h4 hi k, fun g hg => ?_, own_keep h6 fun g hg => k0 g (fun e => own_ne (by decide) h6 h4 hg (by rw [e]; rfl))⟩, hlow.setCell (p := ⟨sg, i * 2 + 1, none⟩) h5 _, hoB, hsB⟩
  · show Hd _ s b _ (.slice _ (S.segs.set i (x, k)).length cap) _
    rw [hn]
    exact (k0 s hss).trans h3
  · have hg : sg = g := by simpa [Value.ownBlock] using hg
    omega
/-- Records are put to those that are there. -/
theorem Opg.app {B : Nat} {w0 w w5 : World} {o s b cap2 : Nat} {S : Stor} {T : List (Nat × Nat)} {ta a ar ad : Option Addr} {tc cap cr : Nat} {rs : List ByteArray} (hlow : Below B w0 w) (hoB : B ≤ o) (hsB : B ≤ s) (hBw : B ≤ w.heap.size)
    (h1 : Op w o s (.slice ta T.length tc)) (h2 : OwnR B w ta tc T) (h3 : Hd w s b S (.slice a S.segs.length cap) (.slice ar S.recs.length cr)) (h4 : OwnG w a cap S.segs) (h5 : ∀ g, (Value.slice a S.segs.length cap).ownBlock = some g → B ≤ g) (h6 : OwnT B w ar cr S.recs)
    (ho : w5.ownsRow 0 9 1 (.slice ad (S.recs.length + rs.length) cap2) (S.recs.length + rs.length) (scells S.recs ++ scells rs)) (hg : w.grownBy w5 (Value.slice ar S.recs.length cr).ownBlock)
    (hb : ∀ g, (Value.slice ad (S.recs.length + rs.length) cap2).ownBlock = some g → (Value.slice ar S.recs.length cr).ownBlock = some g ∨ (g = w.heap.size ∧ g < w5.heap.size)) :
    Opg B w0 o s b { S with recs := S.recs ++ rs } T (w5.setCell ⟨s, 5, none⟩ (.slice ad (S.recs.length + rs.length) cap2)) := by
  have ho1 := own_ne_row (by decide) h6 h1
  have hs1 := own_ne_row (by decide) h6 h3
  have k1 : ∀ g, g < w.heap.size → (Value.slice ar S.recs.length cr).ownBlock ≠ some g → w5.heap[g]? = w.heap[g]? := fun g hl hn => hg.block g hl (fun e => hn e.symm)
  have k2 : ∀ g, g ≠ s → (w5.setCell ⟨s, 5, none⟩ (.slice ad (S.recs.length + rs.length) cap2)).heap[g]? = w5.heap[g]? := fun g hg => heap_setCell_other _ _ g _ hg
  have k3 : ∀ g, g < w.heap.size → (Value.slice ar S.recs.length cr).ownBlock ≠ some g → g ≠ s → (w5.setCell ⟨s, 5, none⟩ (.slice ad (S.recs.length + rs.length) cap2)).heap[g]? = w.heap[g]? := fun g h1 h2 h3 => (k2 g h3).trans (k1 g h1 h2)
  have hd5 : Hd w5 s b S (.slice a S.segs.length cap) (.slice ar S.recs.length cr) := h3.same (k1 s h3.lt hs1)
  have hlen : (S.recs ++ rs).length = S.recs.length + rs.length := List.length_append
  refine ⟨⟨ta, tc, a, cap, ad, cap2, (k3 o h1.lt ho1 (fun e => op_ne_hd h1 h3 e)).trans h1, own_keep h2 fun g hg => k3 g (World.ownsRow.lt h2 g hg).2 (own_ne (by decide) h2 h6 hg) (fun e => own_ne_row (by decide) h2 h3 (by rw [hg, e])), ?_,
    own_keep h4 fun g hg => k3 g (World.ownsRow.lt h4 g hg).2 (own_ne (by decide) h4 h6 hg) (fun e => own_ne_row (by decide) h4 h3 (by rw [hg, e])), h5, ?_⟩, ⟨hg.os.trans hlow.os, hg.tape.trans hlow.tape, hg.output.trans hlow.output, by simp [World.setCell]; exact Nat.le_trans hlow.size hg.size, fun g hgB => (k3 g (by omega) (fun e => by have := (World.ownsRow.lt h6 g e).1; omega) (by omega)).trans (hlow.block g hgB)⟩, hoB, hsB⟩
  · show Hd _ s b _ _ (.slice ad (S.recs ++ rs).length cap2)
    rw [hlen]
    exact hd_set hd5 5 rfl
  · have hu := own_up (B := B) ho fun g hg => (hb g hg).elim (fun e => (World.ownsRow.lt h6 g e).1) (fun e => by omega)
    show World.ownsRow _ B 9 1 (.slice ad (S.recs ++ rs).length cap2) (S.recs ++ rs).length (scells (S.recs ++ rs))
    rw [hlen, show scells (S.recs ++ rs) = scells S.recs ++ scells rs from List.map_append]
    exact own_keep hu fun g hg => k2 g (fun e => own_ne_row (by decide) ho (show w5.heap[s]? = _ from hd5) (by rw [hg, e]))
theorem ahead_le (l : List (Nat × List ByteArray)) (i : Nat) : ahead l i ≤ (l.flatMap (·.2)).length := by
  unfold ahead
  conv => rhs; rw [← List.take_append_drop i l]
  rw [List.flatMap_append, List.length_append]; omega
theorem ahead_next {l : List (Nat × List ByteArray)} {i x : Nat} {rs : List ByteArray} (h : l[i]? = some (x, rs)) : ahead l (i + 1) = ahead l i + rs.length := by
  unfold ahead; rw [stake_next h, List.length_append]
structure SegsOk (n : Nat) (D : Disk) (l : List (Nat × List ByteArray)) (E : Nat → Nat × Nat) : Prop where
  len : l.length ≤ 62
  recs : (l.flatMap (·.2)).length ≤ 900000
  ext : ∀ i x rs, l[i]? = some (x, rs) → x < n ∧ Scans (exAt D.now x).data.toList (headB i (ahead l i) :: rs.map (·.data.toList)) (E i).1 (E i).2 ∧ ((E i).2 = 4 ∨ (E i).2 = 7 ∧ i + 1 = l.length) ∧ ∀ r ∈ rs, r.size ≤ 900
set_option maxRecDepth 100000 in
set_option maxHeartbeats 4000000 in
theorem readSegments_any {w0 w : World} {ρ : Nat → Nat} {o s b B n : Nat} {D : Disk} {falls : Int} {c : Nat × Ent} {T : List (Nat × Nat)} (h : DiskAt w0 ρ b D) (hu : D.down = false) (hn : D.sure.length = n) (hB : B = w0.heap.size)
    (l : List (Nat × List ByteArray)) (E : Nat → Nat × Nat) (hl : l.map (·.1) = c.2.exts) (hok : SegsOk n D l E) (hT : T.length ≤ 100)
    (hR : Opg B w0 o s b (stL falls c) T w) :
    Calls Tryz.prog 51 #[.pointer (some ⟨o, 0, none⟩)] w fun e w' => e = .returned (.int .i64 0) ∧ Opg B w0 o s b (stS falls c l l.length) (tS T l E l.length) w' := by
  rw [← stS_zero hl] at hR
  have hTl : ∀ i, (tS T l E i).length ≤ 100 + i := fun i => tS_len hT l E i
  obtain ⟨N, hN⟩ : ∃ N, N = l.length := ⟨_, rfl⟩
  rw [← hN]
  have hN62 : N ≤ 62 := by have := hok.len; omega
  obtain ⟨ta, tc, a, cap, ar, cr, h1, h2, h3, h4, h5, h6⟩ := id hR.ex
  obtain ⟨o0, -, -⟩ := op_cells h1
  obtain ⟨-, -, -, -, q4, -⟩ := hd_cells h3
  rw [show (stS falls c l 0).segs.length = N by show (segsAt l 0).length = N; rw [segsAt_length, hN]] at q4
  have H := Lib.hid (And.intro h (And.intro hu (And.intro hn (And.intro hB (And.intro hR (And.intro hok (And.intro hTl hN)))))))
  clear h hu hn hB hR hok hTl hN h1 h2 h3 h4 h5 h6 hl hT
  go_enter Tryz.func51, Tryz.ntmps51
  go_wp2_with fail
  clear o0 q4
  go_loopw [17, 4, 5, 6, 7] (fun iv _ _ _ _ wr => ∃ i : Nat, i ≤ N ∧ iv = .int .i64 i ∧ Opg B w0 o s b (stS falls c l i) (tS T l E i) wr) (fun iv _ _ _ _ _ => N - (intOf iv).toNat)
  case atStart => exact ⟨0, by omega, rfl, H.out.2.2.2.2.1⟩
  case round =>
    obtain ⟨i, hi, rfl, hr⟩ := hrel
    have HR := Lib.hid hr
    clear hr
    by_cases hlt : i < N
    · obtain ⟨⟨x, rs⟩, hx⟩ : ∃ y, l[i]? = some y := ⟨_, List.getElem?_eq_getElem (by have := H.out.2.2.2.2.2.2.2; omega)⟩
      have hr := HR.out
      obtain ⟨ta, tc, a, cap, ar, cr, h1, h2, h3, h4, h5, h6⟩ := hr.ex
      have hsx := segsAt_get (i := i) hx
      rw [if_neg (Nat.lt_irrefl i)] at hsx
      obtain ⟨sg, rfl, c0, -, hsg⟩ := h4.at hsx
      simp only at c0
      obtain ⟨hxn, hsc, her, hsz⟩ := H.out.2.2.2.2.2.1.ext i x rs hx
      have hBw : B ≤ wr.heap.size := by rw [H.out.2.2.2.1]; exact hr.low.size
      have hD : DiskAt wr ρ b D := H.out.1.below (by have := hr.low; rw [H.out.2.2.2.1] at this; exact this)
      obtain ⟨-, -, -, -, q4, -⟩ := hd_cells h3
      rw [show (stS falls c l i).segs.length = N by show (segsAt l i).length = N; rw [segsAt_length, H.out.2.2.2.2.2.2.2]] at q4
      have hso := op_ne_hd h1 h3
      obtain ⟨hd, hhd⟩ : ∃ hd, hd = str (headB i (ahead l i)) := ⟨_, rfl⟩
      have htx : ((headB i (ahead l i) :: rs.map (·.data.toList)).map str) = hd :: rs := by
        rw [List.map_cons, ← hhd, List.map_map]
        congr 1
        exact (List.map_congr_left fun r _ => str_of r).trans (List.map_id _)
      have hscan := fun W (hb : Below wr.heap.size wr W) => scanx_any (w := W) (x := x) (mt := decide (i + 1 = N)) (hD.below hb) H.out.2.1 (by have := H.out.2.2.1; omega) (h3.same (hb.block _ h3.lt)) (show Op W o s _ from (hb.block _ h1.lt).trans h1) (h2.call hb) (Nat.le_trans hBw hb.size) _ _ _ hsc (her.imp id (fun e => ⟨e.1, decide_eq_true (by have := H.out.2.2.2.2.2.2.2; omega)⟩)) (by have := H.out.2.2.2.2.2.2.1 i; omega)
      rw [htx] at hscan
      have hTn : tearsOf (E i).2 x (E i).1 (tS T l E i) = tS T l E (i + 1) := by show _ = tearsOf _ (l.getD i (0, [])).1 _ _; rw [List.getD_eq_getElem?_getD, hx]; rfl
      rw [hTn] at hscan
      obtain ⟨K, hK⟩ : ∃ K, K = rs.length := ⟨_, rfl⟩
      have hpost : ∀ W, Below wr.heap.size wr W → ∀ e w1, Scanned B o s ta tc (tS T l E i) (tS T l E (i + 1)) (hd :: rs) W e w1 →
          (w1.cell? ⟨sg, i * 2, none⟩ = some (.int .i64 (x : Int)) ∧ w1.cell? ⟨s, 4, none⟩ = some (.slice (some ⟨sg, 0, none⟩) N cap)) ∧
          ∃ bg bc, e = .returned (.tuple #[.slice (some ⟨bg, 0, none⟩) (K + 1) bc, .int .i64 0]) ∧ OwnT W.heap.size w1 (some ⟨bg, 0, none⟩) bc (hd :: rs) ∧ Opg B w0 o s b (stS falls c l i) (tS T l E (i + 1)) w1 ∧ W.heap.size ≤ w1.heap.size ∧ w1.heap[s]? = wr.heap[s]? ∧ w1.heap[sg]? = wr.heap[sg]? ∧ wr.heap.size ≤ W.heap.size := fun W hb e w1 hs => by
        obtain ⟨k1, k2⟩ := scan_keep h1 h2 h3 h4 hb hs
        obtain ⟨a', cap', he, ho, hr', hz'⟩ := (hr.below hb hBw).scan (Nat.le_trans hBw hb.size) (show Op W o s _ from (hb.block _ h1.lt).trans h1) (h2.call hb) hs
        refine ⟨⟨by rw [World.cell?, k2]; exact c0, by rw [World.cell?, k1]; exact q4⟩, ?_⟩
        rcases ho.2 with ⟨e1, hn⟩ | ⟨g, c', cur, e1, -⟩
        · cases hn
        · injection e1 with e1 _ _
          subst e1
          exact ⟨g, cap', by rw [he, List.length_cons, hK], ho, hr', hz', k1, k2, hb.size⟩
      have hieq : ((i : Int) == ((N - 1 : Nat) : Int)) = decide (i + 1 = N) := by
        by_cases h : i + 1 = N
        · rw [decide_eq_true h]; simp; omega
        · rw [decide_eq_false h]; simp; omega
      have hw1 : IntKind.i64.wrap ((N : Int) - 1) = ((N - 1 : Nat) : Int) := (IntWalk.i64_in _ (by omega)).trans (by omega)
      have H1 := Lib.hid (And.intro hscan (And.intro hpost (And.intro hx (And.intro h1 (And.intro h3 (And.intro h4 (And.intro hsz (And.intro hBw (And.intro hD (And.intro hK (And.intro hhd hsx)))))))))))
      clear hr h1 h2 h3 h4 h5 h6 hscan hpost hsx hsc her hsz hBw hD hK hhd htx hTn hx hso hxn
      go_upto_region 6 with fail
      have C : wr.drew.cell? ⟨sg, i * 2, none⟩ = some (.int .i64 (x : Int)) ∧ wr.drew.cell? ⟨s, 4, none⟩ = some (.slice (some ⟨sg, 0, none⟩) N cap) := ⟨c0, q4⟩
      have hbd : Below wr.heap.size wr wr.drew := (Below.refl _ _).drew
      refine wp_region_held (S := fun W => W.cell? ⟨sg, i * 2, none⟩ = some (.int .i64 (x : Int)) ∧ W.cell? ⟨s, 4, none⟩ = some (.slice (some ⟨sg, 0, none⟩) N cap)) (by kernel_rfl) ?_
      change wpAnyH _ _ _ _ _ _ _ _ (World.drew _)
      generalize World.drew wr = wh at *
      refine wpAnyH_take (i := 0) (v := ?_) rfl (by kernel_rfl) (by kernel_rfl) (by kernel_rfl) (fun _ _ _ h => h) (Or.inl ⟨by kernel_rfl, ?_⟩) C ?_
      rotate_left
      · (intro W hS; clear hS; go_simp; try (with_reducible rfl))
      refine wpAnyH_take (i := 1) (v := ?_) rfl (by kernel_rfl) (by kernel_rfl) (by kernel_rfl) (fun _ _ _ h => h) (Or.inl ⟨by kernel_rfl, ?_⟩) C ?_
      rotate_left
      · (intro W hS; clear hS; go_simp; try (with_reducible rfl))
      refine wpAnyH_take (i := 2) (v := ?_) rfl (by kernel_rfl) (by kernel_rfl) (by kernel_rfl) (fun _ _ _ h => h) (Or.inl ⟨by kernel_rfl, ?_⟩) C ?_
      rotate_left
      · (intro W hS; clear hS; go_simp; try (with_reducible rfl))
      refine wpAnyH_take (i := 3) (v := ?_) rfl (by kernel_rfl) (by kernel_rfl) (by kernel_rfl) (fun _ _ _ h => h) (Or.inl ⟨by kernel_rfl, ?_⟩) C ?_
      rotate_left
      · (intro W hS; clear hS; go_simp; try (with_reducible rfl))
      refine wpAnyH_take (i := 4) (v := .int .i64 (x : Int)) rfl (by kernel_rfl) (by kernel_rfl) (by kernel_rfl) (fun _ _ _ h => h) (Or.inl ⟨by kernel_rfl, ?_⟩) C ?_
      · (intro W hS; have c0W := hS.1; clear hS; go_simp; first | done | (with_reducible rfl) | simp)
      refine wpAnyH_take (i := 5) (v := ?_) rfl (by kernel_rfl) (by kernel_rfl) (by kernel_rfl) (fun _ _ _ h => h) (Or.inl ⟨by kernel_rfl, ?_⟩) C ?_
      rotate_left
      · (intro W hS; clear hS; go_simp; try (with_reducible rfl))
      refine wpAnyH_take (i := 6) (v := ?_) rfl (by kernel_rfl) (by kernel_rfl) (by kernel_rfl) (fun _ _ _ h => h) (Or.inl ⟨by kernel_rfl, ?_⟩) C ?_
      rotate_left
      · (intro W hS; clear hS; go_simp; try (with_reducible rfl))
      refine wpAnyH_take (i := 7) (v := ?_) rfl (by kernel_rfl) (by kernel_rfl) (by kernel_rfl) (fun _ _ _ h => h) (Or.inl ⟨by kernel_rfl, ?_⟩) C ?_
      rotate_left
      · (intro W hS; clear hS; go_simp; try (with_reducible rfl))
      refine wpAnyH_take (i := 8) (v := ?_) rfl (by kernel_rfl) (by kernel_rfl) (by kernel_rfl) (fun _ _ _ h => h) (Or.inl ⟨by kernel_rfl, ?_⟩) C ?_
      rotate_left
      · (intro W hS; clear hS; go_simp; try (with_reducible rfl))
      refine wpAnyH_take (i := 9) (v := .slice (some ⟨sg, 0, none⟩) N cap) rfl (by kernel_rfl) (by kernel_rfl) (by kernel_rfl) (fun _ _ _ h => h) (Or.inl ⟨by kernel_rfl, ?_⟩) C ?_
      · (intro W hS; have q4W := hS.2; clear hS; go_simp; first | done | (with_reducible rfl) | simp)
      refine wpAnyH_take (i := 10) (v := ?_) rfl (by kernel_rfl) (by kernel_rfl) (by kernel_rfl) (fun _ _ _ h => h) (Or.inl ⟨by kernel_rfl, ?_⟩) C ?_
      rotate_left
      · (intro W hS; clear hS; go_simp; try (with_reducible rfl))
      refine wpAnyH_take (i := 11) (v := ?_) rfl (by kernel_rfl) (by kernel_rfl) (by kernel_rfl) (fun _ _ _ h => h) (Or.inl ⟨by kernel_rfl, ?_⟩) C ?_
      rotate_left
      · (intro W hS; clear hS; go_simp; try (with_reducible rfl))
      refine wpAnyH_take (i := 12) (v := .bool (decide (i + 1 = N))) rfl (by kernel_rfl) (by kernel_rfl) (by kernel_rfl) (fun _ _ _ h => h) (Or.inl ⟨by kernel_rfl, ?_⟩) C ?_
      · (intro W hS; clear hS; go_simp; first | done | (with_reducible rfl) | exact hieq)
      refine wpAnyH_ready (rs := [13]) (by kernel_rfl) (by simp) ?_
      refine AllReadyH.cons rfl (fun K hK => ?_) AllReadyH.nil
      go_simp
      refine (H1.out.1 wh hbd).mono ?_
      rintro e w1 hpost
      obtain ⟨hC1, hpo⟩ := H1.out.2.1 wh hbd e w1 hpost
      obtain ⟨bg, bc, rfl, hP⟩ := hpo
      have HP := Lib.hid hP
      refine hK.out _ _ hC1 (fun _ => ?_)
      clear hK K hpost hP C hbd
      refine wpAnyH_take (i := 14) (v := ?_) rfl (by kernel_rfl) (by kernel_rfl) (by kernel_rfl) (fun _ _ _ h => h) (Or.inl ⟨by kernel_rfl, ?_⟩) hC1 ?_
      rotate_left
      · (intro W hS; clear hS; go_simp; try (with_reducible rfl))
      refine wpAnyH_take (i := 15) (v := ?_) rfl (by kernel_rfl) (by kernel_rfl) (by kernel_rfl) (fun _ _ _ h => h) (Or.inl ⟨by kernel_rfl, ?_⟩) hC1 ?_
      rotate_left
      · (intro W hS; clear hS; go_simp; try (with_reducible rfl))
      refine wpAnyH_take (i := 16) (v := ?_) rfl (by kernel_rfl) (by kernel_rfl) (by kernel_rfl) (fun _ _ _ h => h) (Or.inl ⟨by kernel_rfl, ?_⟩) hC1 ?_
      rotate_left
      · (intro W hS; clear hS; go_simp; try (with_reducible rfl))
      refine wpAnyH_take (i := 17) (v := ?_) rfl (by kernel_rfl) (by kernel_rfl) (by kernel_rfl) (fun _ _ _ h => h) (Or.inl ⟨by kernel_rfl, ?_⟩) hC1 ?_
      rotate_left
      · (intro W hS; clear hS; go_simp; try (with_reducible rfl))
      refine wpAnyH_take (i := 18) (v := ?_) rfl (by kernel_rfl) (by kernel_rfl) (by kernel_rfl) (fun _ _ _ h => h) (Or.inl ⟨by kernel_rfl, ?_⟩) hC1 ?_
      rotate_left
      · (intro W hS; clear hS; go_simp; try (with_reducible rfl))
      refine wpAnyH_done (by kernel_rfl) ?_ _
      go_simp
      obtain ⟨m1, m2, m3, m4, m5, m6⟩ := HP.out
      obtain ⟨ta1, tc1, a1, cap1, ar1, cr1, p1, p2, p3, p4, p5, p6⟩ := m2.ex
      have e4 := hC1.2.symm.trans (hd_cells p3).2.2.2.2.1
      injection e4 with e4
      injection e4 with e4 e45 e5
      subst e4 e5
      clear e45
      obtain ⟨hx, -, -, -, hsz, hBw, -, hKe, hhd, hsx⟩ := H1.out.2.2
      obtain ⟨M, hM⟩ : ∃ M, M = ahead l i := ⟨_, rfl⟩
      have hM9 : M ≤ 900000 := by have := ahead_le l i; have := H.out.2.2.2.2.2.1.recs; omega
      have hrl : (stS falls c l i).recs.length = M := by rw [hM]; rfl
      have q5 := (hd_cells p3).2.2.2.2.2.1
      rw [hrl] at q5
      obtain ⟨sg', e6, -, c1, hsgl⟩ := p4.at hsx
      injection e6 with e6
      injection e6 with e6
      subst e6
      have f1 := OwnG.free p4 (i * 2 + 1)
      have hop2 := Opg.ahead m2.low m2.oB m2.sB p1 p2 p3 p4 (p5 sg rfl) p6 hsx M
      have hsgW : sg < wh.heap.size := Nat.lt_of_lt_of_le (World.ownsRow.lt H1.out.2.2.2.2.2.1 sg rfl).2 m6
      have hob2 := OwnT.set m1 ⟨sg, i * 2 + 1, none⟩ (.int .i64 (M : Int)) hsgW
      have hbgs := (World.ownsRow.lt m1 bg rfl).2
      have ha1 : (w1.setCell ⟨sg, i * 2 + 1, none⟩ (.int .i64 (M : Int))).cell? ⟨sg, i * 2 + 1, none⟩ = some (.int .i64 (M : Int)) := World.cell?_setCell_same (w := w1) (a := ⟨sg, i * 2 + 1, none⟩) (v := .int .i64 (M : Int)) c1
      have hsz2 : (w1.setCell ⟨sg, i * 2 + 1, none⟩ (.int .i64 (M : Int))).heap.size = w1.heap.size := by simp [World.setCell]
      have HM := Lib.hid (And.intro hop2 (And.intro hob2 (And.intro hM (And.intro hrl (And.intro hsgl (And.intro hbgs (And.intro hKe (And.intro hhd (And.intro hsz (And.intro hBw (And.intro hx (And.intro hsx (And.intro ha1 (And.intro hsz2 (And.intro m3 m6)))))))))))))))
      clear hop2 hob2 hM hrl hsgl hbgs hKe hhd hsz hBw hx hsx m1 m2 m3 m4 m5 m6 p1 p2 p3 p4 p5 p6 hC1 hw1 hieq hsgW ha1 hsz2
      go_upto_region 10 with fail
      obtain ⟨hop2, hob2, hM, hrl, hsgl, hbgs, hKe, hhd, hsz, hBw, hx, hsx, a1, hsz2, m3, m6⟩ := HM.out
      generalize w1.setCell _ _ = w2 at *
      have hK9 : K + M ≤ 900000 := by
        have h1 := ahead_le l (i + 1)
        have h2 := ahead_next hx
        have h3 := H.out.2.2.2.2.2.1.recs
        omega
      have hcap : K + 1 ≤ bc := by
        have := hob2.2
        rcases this with ⟨e, hn⟩ | ⟨g, c', cur, e, -, -, hn, -⟩
        · cases hn
        · injection e with _ _ e; subst e; rw [hKe]; exact hn
      obtain ⟨off, c2, hrest, hoff⟩ := run_rest bg (K + 1) K bc rfl hcap
      obtain ⟨ht1, ht2⟩ := rest_texts hob2 hKe.symm hoff
      have b0 : w2.cell? ⟨bg, 0, none⟩ = some (.string hd) := by
        obtain ⟨g, o', e, -, hc⟩ := hob2.texts 0 (by simp)
        injection e with e
        injection e with e1 e2
        subst e1 e2
        exact hc
      have his := fun W => isHead_any i M (by omega) (by omega) W
      rw [hM, ← hhd, ← hM] at his
      have hcl := fun W (hb : Below w2.heap.size w2 W) => containsLong_any rs (some ⟨bg, off, none⟩) c2 W (ht1.below hb) (fun r hr => hsz r hr) (by omega)
      rw [← hKe] at hcl
      have hbgl : bg < w2.heap.size := by omega
      have hk0 : (((K : Int) + 1) == 0) = false := by simp; omega
      have hsgl2 : sg < w2.heap.size := by omega
      have H2 := Lib.hid (And.intro his (And.intro hcl (And.intro hop2 (And.intro ht2 (And.intro hM (And.intro hrl (And.intro hx (And.intro hKe (And.intro hsz2 (And.intro m3 (And.intro m6 hBw)))))))))))
      clear his hcl hop2 hob2 ht1 ht2 hM hrl hsgl hbgs hKe hhd hsz hBw hx hsx hsz2 m3 m6 q5 c1 f1 hcap hoff
      have C : Below w2.heap.size w2 w2.drew := (Below.refl _ _).drew
      refine wp_region_held (S := fun W => Below w2.heap.size w2 W) (by kernel_rfl) ?_
      change wpAnyH _ _ _ _ _ _ _ _ (World.drew _)
      generalize World.drew w2 = wh2 at *
      refine wpAnyH_take (i := 0) (v := ?_) rfl (by kernel_rfl) (by kernel_rfl) (by kernel_rfl) (fun _ _ _ h => h) (Or.inl ⟨by kernel_rfl, ?_⟩) C ?_
      rotate_left
      · (intro W hS; clear hS; go_simp; try (with_reducible rfl))
      refine wpAnyH_take (i := 1) (v := ?_) rfl (by kernel_rfl) (by kernel_rfl) (by kernel_rfl) (fun _ _ _ h => h) (Or.inl ⟨by kernel_rfl, ?_⟩) C ?_
      rotate_left
      · (intro W hS; clear hS; go_simp; try (with_reducible rfl))
      refine wpAnyH_take (i := 2) (v := .bool false) rfl (by kernel_rfl) (by kernel_rfl) (by kernel_rfl) (fun _ _ _ h => h) (Or.inl ⟨by kernel_rfl, ?_⟩) C ?_
      · (intro W hS; clear hS; go_simp; first | done | (with_reducible rfl) | exact hk0 | (trace_state; sorry))
      refine wpAnyH_take (i := 3) (v := ?_) rfl (by kernel_rfl) (by kernel_rfl) (by kernel_rfl) (fun _ _ _ h => h) (Or.inl ⟨by kernel_rfl, ?_⟩) C ?_
      rotate_left
      · (intro W hS; clear hS; go_simp; try (with_reducible rfl))
      refine wpAnyH_take (i := 4) (v := ?_) rfl (by kernel_rfl) (by kernel_rfl) (by kernel_rfl) (fun _ _ _ h => h) (Or.inl ⟨by kernel_rfl, ?_⟩) C ?_
      rotate_left
      · (intro W hS; clear hS; go_simp; try (with_reducible rfl))
      refine wpAnyH_take (i := 5) (v := ?_) rfl (by kernel_rfl) (by kernel_rfl) (by kernel_rfl) (fun _ _ _ h => h) (Or.inl ⟨by kernel_rfl, ?_⟩) C ?_
      rotate_left
      · (intro W hS; clear hS; go_simp; try (with_reducible rfl))
      refine wpAnyH_take (i := 6) (v := .string hd) rfl (by kernel_rfl) (by kernel_rfl) (by kernel_rfl) (fun _ _ _ h => h) (Or.inl ⟨by kernel_rfl, ?_⟩) C ?_
      · (intro W hS; have cb : W.cell? ⟨bg, 0, none⟩ = some (.string hd) := (hS.cell (p := ⟨bg, 0, none⟩) hbgl).trans b0; clear hS; go_simp; first | done | (with_reducible rfl) | simp)
      refine wpAnyH_take (i := 7) (v := ?_) rfl (by kernel_rfl) (by kernel_rfl) (by kernel_rfl) (fun _ _ _ h => h) (Or.inl ⟨by kernel_rfl, ?_⟩) C ?_
      rotate_left
      · (intro W hS; clear hS; go_simp; try (with_reducible rfl))
      refine wpAnyH_take (i := 8) (v := ?_) rfl (by kernel_rfl) (by kernel_rfl) (by kernel_rfl) (fun _ _ _ h => h) (Or.inl ⟨by kernel_rfl, ?_⟩) C ?_
      rotate_left
      · (intro W hS; clear hS; go_simp; try (with_reducible rfl))
      refine wpAnyH_take (i := 9) (v := ?_) rfl (by kernel_rfl) (by kernel_rfl) (by kernel_rfl) (fun _ _ _ h => h) (Or.inl ⟨by kernel_rfl, ?_⟩) C ?_
      rotate_left
      · (intro W hS; clear hS; go_simp; try (with_reducible rfl))
      refine wpAnyH_take (i := 10) (v := ?_) rfl (by kernel_rfl) (by kernel_rfl) (by kernel_rfl) (fun _ _ _ h => h) (Or.inl ⟨by kernel_rfl, ?_⟩) C ?_
      rotate_left
      · (intro W hS; clear hS; go_simp; try (with_reducible rfl))
      refine wpAnyH_take (i := 11) (v := .int .i64 (M : Int)) rfl (by kernel_rfl) (by kernel_rfl) (by kernel_rfl) (fun _ _ _ h => h) (Or.inl ⟨by kernel_rfl, ?_⟩) C ?_
      · (intro W hS; have ca : W.cell? ⟨sg, i * 2 + 1, none⟩ = some (.int .i64 (M : Int)) := (hS.cell (p := ⟨sg, i * 2 + 1, none⟩) hsgl2).trans a1; clear hS; go_simp; first | done | (with_reducible rfl) | simp)
      refine wpAnyH_ready (rs := [12]) (by kernel_rfl) (by simp) ?_
      refine AllReadyH.cons rfl (fun K hK => ?_) AllReadyH.nil
      go_simp
      refine (H2.out.1 _).mono ?_
      rintro e w3 ⟨rfl, hb⟩
      have C := C.trans (hb.mono C.size)
      refine hK.out _ _ C (fun _ => ?_)
      clear hK K hb
      refine wpAnyH_take (i := 13) (v := ?_) rfl (by kernel_rfl) (by kernel_rfl) (by kernel_rfl) (fun _ _ _ h => h) (Or.inl ⟨by kernel_rfl, ?_⟩) C ?_
      rotate_left
      · (intro W hS; clear hS; go_simp; try (with_reducible rfl))
      refine wpAnyH_take (i := 14) (v := ?_) rfl (by kernel_rfl) (by kernel_rfl) (by kernel_rfl) (fun _ _ _ h => h) (Or.inl ⟨by kernel_rfl, ?_⟩) C ?_
      rotate_left
      · (intro W hS; clear hS; go_simp; try (with_reducible rfl))
      refine wpAnyH_take (i := 15) (v := ?_) rfl (by kernel_rfl) (by kernel_rfl) (by kernel_rfl) (fun _ _ _ h => h) (Or.inl ⟨by kernel_rfl, ?_⟩) C ?_
      rotate_left
      · (intro W hS; clear hS; go_simp; try (with_reducible rfl))
      refine wpAnyH_take (i := 16) (v := ?_) rfl (by kernel_rfl) (by kernel_rfl) (by kernel_rfl) (fun _ _ _ h => h) (Or.inl ⟨by kernel_rfl, ?_⟩) C ?_
      rotate_left
      · (intro W hS; clear hS; go_simp; try (with_reducible rfl))
      refine wpAnyH_take (i := 17) (v := .slice (some ⟨bg, off, none⟩) K c2) rfl (by kernel_rfl) (by kernel_rfl) (by kernel_rfl) (fun _ _ _ h => h) (Or.inl ⟨by kernel_rfl, ?_⟩) C ?_
      · (intro W hS; clear hS; go_simp; first | done | (with_reducible rfl) | simp [hrest])
      refine wpAnyH_ready (rs := [18]) (by kernel_rfl) (by simp) ?_
      refine AllReadyH.cons rfl (fun K hK => ?_) AllReadyH.nil
      go_simp
      refine (H2.out.2.1 _ C).mono ?_
      rintro e w4 ⟨rfl, hb⟩
      have C := C.trans (hb.mono C.size)
      refine hK.out _ _ C (fun _ => ?_)
      clear hK K hb
      refine wpAnyH_take (i := 19) (v := ?_) rfl (by kernel_rfl) (by kernel_rfl) (by kernel_rfl) (fun _ _ _ h => h) (Or.inl ⟨by kernel_rfl, ?_⟩) C ?_
      rotate_left
      · (intro W hS; clear hS; go_simp; try (with_reducible rfl))
      refine wpAnyH_done (by kernel_rfl) ?_ _
      go_simp
      have hop4 := H2.out.2.2.1.below C (by have := H2.out.2.2.2.2.2.2.2.2; omega)
      obtain ⟨ta2, tc2, a2, cap2, ar2, cr2, p1, p2, p3, p4, p5, p6⟩ := hop4.ex
      have hrl2 : ({ stS falls c l i with segs := (stS falls c l i).segs.set i (x, M) } : Stor).recs.length = M := H2.out.2.2.2.2.2.1
      have q5 := (hd_cells p3).2.2.2.2.2.1
      have g5 := hd_free p3 5
      rw [hrl2] at q5
      have hnews : ∀ j u, (scells rs)[j]? = some u → w4.drew.cell? ((⟨bg, off, none⟩ : Addr).add j) = some u := fun j u hu => by
        have h1 := H2.out.2.2.2.1 j u hu
        have hlt : ((⟨bg, off, none⟩ : Addr).add j).block < w2.heap.size := by unfold Addr.add; split <;> exact hbgl
        rw [← C.cell hlt] at h1
        exact h1
      have hsl : s < w4.heap.size := p3.lt
      have hne5 := own_ne_row (by decide) p6 p3
      rw [hrl2] at hne5
      obtain ⟨i0, hi0, hz0, hz1, hz2⟩ := info_parts Tryz.info_str
      have hown5 : w4.drew.ownsRow 0 9 1 (.slice ar2 M cr2) M (scells ({ stS falls c l i with segs := (stS falls c l i).segs.set i (x, M) } : Stor).recs) := by
        have := ownsRow_base (B' := 0) p6 (Nat.zero_le _)
        rw [hrl2] at this
        exact this
      have hsrc : Src Tryz.prog 1 30 (.slice (some ⟨bg, off, none⟩) K c2) K (scells rs) w4.drew := Src.ofSlice _ Tryz.underlying30 _ K c2 _ (by rw [scells_length, Nat.mul_one]; exact H2.out.2.2.2.2.2.2.2.1.symm) hnews (fun u hu => by obtain ⟨x, -, rfl⟩ := List.mem_map.1 hu; rfl)
      have H4 := Lib.hid (And.intro hop4 (And.intro p1 (And.intro p2 (And.intro p3 (And.intro p4 (And.intro p5 (And.intro p6 (And.intro hown5 (And.intro hsrc (And.intro hrl2 (And.intro hsl (And.intro hne5 C))))))))))))
      clear hop4 p1 p2 p3 p4 p5 p6 hown5 hsrc hrl2 hnews hsl hne5 C b0 a1
      obtain ⟨RS, hRS⟩ : ∃ RS, RS = scells ({ stS falls c l i with segs := (stS falls c l i).segs.set i (x, M) } : Stor).recs := ⟨_, rfl⟩
      rw [← hRS] at H4
      have HRS := Lib.hid hRS
      clear hRS
      go_upto_region 12 with fail
      go_region_law (refine step_append_src rfl (.tmp 78) (.tmp 80) 30 30 rfl 9 i0 (.string ⟨#[]⟩) 1 16 Tryz.underlying30 hi0 hz0 hz1 hz2 rfl (.slice ar2 M cr2) M RS (by simp [Act.eval]) H4.out.2.2.2.2.2.2.2.1 (.slice (some ⟨bg, off, none⟩) K c2) K (scells rs) (by simp [Act.eval]) H4.out.2.2.2.2.2.2.2.2.1 (by omega) (by omega) ?_; intro ad cap5 w5 ho5 hg5 hb5; have q55 : w5.cell? ⟨s, 5, none⟩ = some (.slice ar2 M cr2) := (hg5.cell_far ⟨s, 5, none⟩ (by simp; exact H4.out.2.2.2.2.2.2.2.2.2.2.1) (fun e => H4.out.2.2.2.2.2.2.2.2.2.2.2.1 e.symm)).trans q5; have g55 : w5.frozen? ⟨s, 5, none⟩ = false := (hg5.frozen_far ⟨s, 5, none⟩ (by simp; exact H4.out.2.2.2.2.2.2.2.2.2.2.1) (fun e => H4.out.2.2.2.2.2.2.2.2.2.2.2.1 e.symm)).trans g5; have H5 := Lib.hid (And.intro ho5 (And.intro hg5 hb5)); clear ho5 hg5 hb5)
      all_goals
        go_wp2_with fail
        go_roundw
        case rel =>
          refine ⟨i + 1, by omega, by go_num, ?_⟩
          have hB4 : B ≤ w4.heap.size := by
            obtain ⟨z1, z2, z3, z4⟩ := H2.out.2.2.2.2.2.2.2.2
            have z5 := H4.out.2.2.2.2.2.2.2.2.2.2.2.2.size
            omega
          have hap := Opg.app (w := w4.drew) (w5 := w5) (ad := ad) (cap2 := cap5) (rs := rs) (H4.out.1.low.trans ((Below.refl _ _).drew.mono hB4)) H4.out.1.oB H4.out.1.sB hB4
            (show Op w4.drew _ _ _ from H4.out.2.1) (show OwnR B w4.drew _ _ _ from H4.out.2.2.1) (show Hd w4.drew _ _ _ _ _ from H4.out.2.2.2.1) (show OwnG w4.drew _ _ _ from H4.out.2.2.2.2.1) H4.out.2.2.2.2.2.1 (show OwnT B w4.drew _ _ _ from H4.out.2.2.2.2.2.2.1)
            (by rw [H4.out.2.2.2.2.2.2.2.2.2.1, ← H2.out.2.2.2.2.2.2.2.1, ← HRS.out]; exact H5.out.1) (by rw [H4.out.2.2.2.2.2.2.2.2.2.1]; exact H5.out.2.1) (by rw [H4.out.2.2.2.2.2.2.2.2.2.1, ← H2.out.2.2.2.2.2.2.2.1]; exact H5.out.2.2)
          rw [H4.out.2.2.2.2.2.2.2.2.2.1, ← H2.out.2.2.2.2.2.2.2.1] at hap
          have hst : stS falls c l (i + 1) = { ({ stS falls c l i with segs := (stS falls c l i).segs.set i (x, M) } : Stor) with recs := (stS falls c l i).recs ++ rs } := by
            unfold stS
            rw [segsAt_next H2.out.2.2.2.2.2.2.1, stake_next H2.out.2.2.2.2.2.2.1, H2.out.2.2.2.2.1]
          rw [hst]
          exact hap
        case measure => simp [intOf]; omega
    · obtain rfl : i = N := by omega
      go_wp2_with fail
      go_ret
      exact ⟨rfl, HR.out⟩
end Go.Proofs.YtdmbombjkinboaaGreat
