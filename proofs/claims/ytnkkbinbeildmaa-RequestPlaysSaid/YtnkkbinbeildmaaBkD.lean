/- request: Put. -/
import Derived.Test.YtnkkbinbeildmaaBkC
namespace Go.Proofs.Ytnkkbinbeildmaa
open Go.RowKit
/-- The ways of find, at once: the error that comes back. -/
def findC (l : List En) (id now : Int) : Int := if Py.inB now 0 1099511627776 = false then 1 else if Bk.findN l id < l.length then 0 else 4
theorem BkAt.findE {B b : Nat} {w : World} {R : Option Nat} {l : List En} (h : BkAt B w b R l) (id now : Int) : Calls Try.prog 63 #[.pointer (some ⟨b, 0, none⟩), .int .i64 id, .int .i64 now] w fun e w' => ∃ P v, e = .returned (.tuple #[P, v]) ∧ ErrAt w' v (findC l id now) ∧ Below w.heap.size w w' := by
  unfold findC
  cases hn : Py.inB now 0 1099511627776 with
  | false =>
    rw [if_pos rfl]
    refine (bfind_bad id now hn w b).mono ?_
    rintro e w1 ⟨fb, op, rfl, hf, hb⟩
    exact ⟨_, _, rfl, .inr ⟨by decide, fb, op, _, rfl, hf⟩, hb⟩
  | true =>
    rw [if_neg (by decide)]
    cases hx : l[Bk.findN l id]? with
    | none =>
      rw [if_neg (by rw [List.getElem?_eq_none_iff] at hx; omega)]
      refine (h.findNo id now hn hx).mono ?_
      rintro e w1 ⟨fb, op, rfl, hf, hb⟩
      exact ⟨_, _, rfl, .inr ⟨by decide, fb, op, _, rfl, hf⟩, hb⟩
    | some x =>
      rw [if_pos (List.getElem?_eq_some_iff.1 hx).1]
      obtain ⟨g, cap, hg, -⟩ := h.at hx
      refine (h.findAt id now hn hx hg).mono ?_
      rintro e w1 ⟨rfl, hb⟩
      exact ⟨_, _, rfl, .inl ⟨rfl, rfl⟩, hb⟩
/-- How an act ends in memory; the entries may lie elsewhere now. -/
def DoPost (B b : Nat) (R : Option Nat) (w : World) (l : List En) (a : Bk.Act) (e : Ending) (w' : World) : Prop :=
  ∃ v R', e = .returned v ∧ ErrAt w' v (Bk.doI l a).2 ∧ BkAt B w' b R' (Bk.after l a) ∧ KeptB b R w w' ∧ (R' = R ∨ ∀ g, R' = some g → w.heap.size ≤ g)
theorem ActPost.does {B b : Nat} {R : Option Nat} {w w' : World} {l : List En} {a : Bk.Act} {e : Ending} (h : ActPost B b R w l a e w') : DoPost B b R w l a e w' := by
  obtain ⟨v, h1, h2, h3, h4⟩ := h
  exact ⟨v, R, h1, h2, h3, h4, .inl rfl⟩
theorem doPost_err {B b : Nat} {R : Option Nat} {w : World} {l : List En} {w' : World} {a : Bk.Act} {v : Value} {c : Int} (h : BkAt B w b R l) (hd : Bk.doI l a = (none, c)) (hE : ErrAt w' v c) (hb : Below w.heap.size w w') :
    DoPost B b R w l a (.returned v) w' :=
  ⟨_, R, rfl, by rw [hd]; exact hE, by unfold Bk.after; rw [hd]; exact h.below hb, KeptB.of hb, .inl rfl⟩
theorem errAt_fault {w : World} {fb : Nat} {op : ByteArray} {n c : Int} (hf : FaultAt w fb op n c) (hc : c ≠ 0) : ErrAt w (.iface 109 (.pointer (some ⟨fb, 0, none⟩))) c := .inr ⟨hc, fb, op, n, rfl, hf⟩
/-- What a book that grew is. -/
theorem BkAt.grew {B b : Nat} {w w2 : World} {R : Option Nat} {l : List En} {x : En} {ad : Option Addr} {cap : Nat} (h1 : w.heap[b]? = some (.cells #[.slice ad l.length cap] 90 (0, 0))) (h2 : OwnR 102 6 enCs B w ad cap l) (h3 : R = (Value.slice ad l.length cap).ownBlock) (hB : B ≤ b)
    {g cq : Nat} (ho : OwnR 102 6 enCs B w2 (some ⟨g, 0, none⟩) cq (l ++ [x])) (hg : w.grownBy w2 (Value.slice ad l.length cap).ownBlock) (hat : (Value.slice ad l.length cap).ownBlock = some g ∨ g = w.heap.size) :
    BkAt B (w2.setCell ⟨b, 0, none⟩ (.slice (some ⟨g, 0, none⟩) (l.length + 1) cq)) b (some g) (l ++ [x]) ∧ KeptB b R w (w2.setCell ⟨b, 0, none⟩ (.slice (some ⟨g, 0, none⟩) (l.length + 1) cq)) ∧ (some g = R ∨ ∀ k, some g = some k → w.heap.size ≤ k) := by
  have hbk : BkAt B w b R l := ⟨hB, ad, cap, h1, h2, h3⟩
  have hbl := hbk.lt
  have hgb : g ≠ b := by
    rcases hat with e | e
    · exact (hbk.row g (h3.trans e)).2.2
    · omega
  have hb2 : w2.heap[b]? = some (.cells #[.slice ad l.length cap] 90 (0, 0)) := (hg.block b hbl (fun e => by
    have h4 := (hbk.row b (h3.trans e.symm)).2.2
    exact h4 rfl)).trans h1
  refine ⟨⟨hB, some ⟨g, 0, none⟩, cq, ?_, ?_, ?_⟩, ⟨hg.os, hg.tape, hg.output, Nat.le_trans hg.size (by simp), fun k hk hkb hkR => ?_⟩, ?_⟩
  · rw [heap_setCell_same _ _ _ _ _ _ hb2, List.length_append]; rfl
  · have := ho.2
    refine ⟨ho.1, ?_⟩
    rcases ho.2 with h5 | ⟨q, c, cur, e, hq, hq2, h6⟩
    · exact .inl h5
    · have eq : q = g := by
        have := congrArg Value.ownBlock e
        simpa [Value.ownBlock] using this.symm
      subst eq
      exact .inr ⟨q, c, cur, e, hq, (heap_setCell_other w2 ⟨b, 0, none⟩ q _ hgb).trans hq2, h6⟩
  · rw [List.length_append]; rfl
  · exact (heap_setCell_other w2 ⟨b, 0, none⟩ k _ hkb).trans (hg.block k hk (fun e => hkR (h3.trans e.symm)))
  · rcases hat with e | e
    · exact .inl (e.symm.trans h3.symm)
    · exact .inr fun k hk => by injection hk with hk; omega
set_option maxRecDepth 100000 in
set_option maxHeartbeats 2000000 in
theorem BkAt.putq {B b : Nat} {w : World} {R : Option Nat} {l : List En} (h : BkAt B w b R l) (hlen : l.length ≤ 200) (q : Py.Q) (hw : q.who.size ≤ 281474976710656) (hr : q.reason.size ≤ 281474976710656) (id : Int) (who : ByteArray) (now : Int) (hB : B ≤ w.heap.size) :
    Calls Try.prog 35 #[.pointer (some ⟨b, 0, none⟩), qVal q, .int .i64 now] w fun e w' => DoPost B b R w l ⟨0, q, id, who, now⟩ e w' := by
  obtain ⟨a, ha⟩ : ∃ a : Bk.Act, a = ⟨0, q, id, who, now⟩ := ⟨_, rfl⟩
  rw [← ha]
  have hd0 : Bk.doI l a = if Py.inB now 0 1099511627776 = false then (none, 1) else Bk.putI l q now := by rw [ha]; rfl
  clear ha
  obtain ⟨w1, hw1⟩ : ∃ w1, w1 = w.alloc (.cells (qCs q) 24) := ⟨_, rfl⟩
  obtain ⟨gq, hgq⟩ : ∃ gq, gq = w.heap.size := ⟨_, rfl⟩
  have hb1 := box_below hw1
  have a1 : w1.heap[gq]? = some (.cells (qCs q) 24 (0, 0)) := by rw [hw1, hgq]; exact heap_alloc_new _ _
  have hgl : w.heap.size ≤ gq := by omega
  have hmay := fun W => preq_any q (by unfold maxLen; omega) (by unfold maxLen; omega) W
  have hcopy := fun W => bcopied_any q hw hr W
  have hfind := (h.below hb1).findE q.id now
  have hbx := fun (W : World) (hb : Below w1.heap.size w1 W) => (hb.block gq (blt_of_heap a1)).trans a1
  have hbk := fun (W : World) (hb : Below w1.heap.size w1 W) => h.below (hb1.trans (hb.mono hb1.size))
  have hend := fun (c : Int) (hd : Bk.doI l a = (none, c)) (W : World) (v : Value) (hE : ErrAt W v c) (hb : Below w1.heap.size w1 W) => doPost_err h hd hE (hb1.trans (hb.mono hb1.size))
  have hbb := fun (W : World) (hb : Below w1.heap.size w1 W) => hb1.trans (hb.mono hb1.size)
  have hbl := h.lt
  have hfar := fun (g : Nat) (hg : R = some g) => (h.row g hg).2.1
  unfold qVal at hmay hcopy
  have H := Lib.hid (And.intro hfind (And.intro hmay (And.intro hcopy (And.intro hbx (And.intro hbk (And.intro hend (And.intro hbb (And.intro hgl (And.intro hB (And.intro hbl hfar))))))))))
  have HA := Lib.hid a1
  clear hfind hmay hcopy hbx hbk hend hbb hgl hb1 h hB a1 hbl hfar
  unfold qVal
  unfold qCs at hw1
  obtain ⟨C, hC⟩ : ∃ C, C = findC l q.id now := ⟨_, rfl⟩
  rw [← hC] at H
  obtain ⟨M, hM⟩ : ∃ M, M = Py.mayB q := ⟨_, rfl⟩
  rw [← hM] at H
  unfold findC at hC
  cases hn : Py.inB now 0 1099511627776 with
  | false =>
    rw [hn, if_pos rfl] at hC hd0
    have hd := hd0
    subst hC
    clear hn hd0 hM
    have HD := Lib.hid hd
    clear hd
    go_enter Try.func35, Try.ntmps35
    go_upto_region 1 with fail
    rw [← hw1, ← hgq]
    clear hw1 hgq
    have X := H.out.2.2.2.1 w1 (Below.refl _ _)
    have c0 : w1.cell? ⟨gq, 0, none⟩ = some (.int .i64 q.id) := by rw [cell_of_row _ _ _ _ _ _ X]; rfl
    clear X
    go_wp2_with fail
    refine H.out.1.mono ?_
    rintro e w2 ⟨P, v, rfl, hE, hb2⟩
    clear c0
    have HE := Lib.hid (And.intro hE hb2)
    clear hE hb2
    go_wp2_with fail
    refine (is_any HE.out.1 1 (by decide)).mono ?_
    rintro e w' ⟨rfl, hww⟩
    cases hww
    rw [show ((1 : Int) == 1) = true by decide]
    go_wp2_with fail
    go_ret
    exact H.out.2.2.2.2.2.1 _ HD.out _ _ HE.out.1 HE.out.2
  | true =>
    rw [hn, if_neg (by decide)] at hC hd0
    have hnn := hn
    clear hn
    unfold Bk.putI at hd0
    rw [← hM] at hd0
    by_cases hf : Bk.findN l q.id < l.length
    · rw [if_pos hf] at hC
      rw [if_pos hf] at hd0
      clear hf hnn
      subst hC
      cases M with
      | false =>
        rw [if_pos rfl] at hd0
        have hd := hd0
        clear hd0 hM
        have HD := Lib.hid hd
        clear hd
        go_enter Try.func35, Try.ntmps35
        go_upto_region 1 with fail
        rw [← hw1, ← hgq]
        clear hw1 hgq
        have X := H.out.2.2.2.1 w1 (Below.refl _ _)
        have c0 : w1.cell? ⟨gq, 0, none⟩ = some (.int .i64 q.id) := by rw [cell_of_row _ _ _ _ _ _ X]; rfl
        clear X
        go_wp2_with fail
        refine H.out.1.mono ?_
        rintro e w2 ⟨P, v, rfl, hE, hb2⟩
        clear c0
        have HE := Lib.hid (And.intro hE hb2)
        clear hE hb2
        go_wp2_with fail
        have X := H.out.2.2.2.1 w2 (HE.out.2)
        have c0 : w2.cell? ⟨gq, 0, none⟩ = some (.int .i64 q.id) := by rw [cell_of_row _ _ _ _ _ _ X]; rfl
        have c1 : w2.cell? ⟨gq, 1, none⟩ = some (.string q.who) := by rw [cell_of_row _ _ _ _ _ _ X]; rfl
        have c2 : w2.cell? ⟨gq, 2, none⟩ = some (.int .i64 q.entry) := by rw [cell_of_row _ _ _ _ _ _ X]; rfl
        have c3 : w2.cell? ⟨gq, 3, none⟩ = some (.string q.reason) := by rw [cell_of_row _ _ _ _ _ _ X]; rfl
        have c4 : w2.cell? ⟨gq, 4, none⟩ = some (.int .i64 q.exp) := by rw [cell_of_row _ _ _ _ _ _ X]; rfl
        clear X
        refine (is_any HE.out.1 1 (by decide)).mono ?_
        rintro e w' ⟨rfl, hww⟩
        cases hww
        rw [show ((0 : Int) == 1) = false by decide]
        go_wp2_with fail
        refine (H.out.2.1 _).mono ?_
        rintro e w3 ⟨rfl, hb3⟩
        have HE3 := Lib.hid (HE.out.2.trans (hb3.mono HE.out.2.size))
        have hE3 := HE.out.1.below hb3
        clear hb3 c0 c1 c2 c3 c4
        have X := H.out.2.2.2.1 w3 (HE3.out)
        have c0 : w3.cell? ⟨gq, 0, none⟩ = some (.int .i64 q.id) := by rw [cell_of_row _ _ _ _ _ _ X]; rfl
        have c4 : w3.cell? ⟨gq, 4, none⟩ = some (.int .i64 q.exp) := by rw [cell_of_row _ _ _ _ _ _ X]; rfl
        clear X
        have HF := Lib.hid hE3
        clear hE3
        go_wp2_with fail
        refine (rqfault_any _ _ _).mono ?_
        rintro e w9 ⟨fb, op, rfl, hf, hb9⟩
        go_wp2_with fail
        go_ret
        exact H.out.2.2.2.2.2.1 _ HD.out _ _ (errAt_fault hf (by decide)) ((HE3.out).trans (hb9.mono (HE3.out).size))
      | true =>
        rw [if_neg (by decide)] at hd0
        have hd := hd0
        clear hd0 hM
        have HD := Lib.hid hd
        clear hd
        go_enter Try.func35, Try.ntmps35
        go_upto_region 1 with fail
        rw [← hw1, ← hgq]
        clear hw1 hgq
        have X := H.out.2.2.2.1 w1 (Below.refl _ _)
        have c0 : w1.cell? ⟨gq, 0, none⟩ = some (.int .i64 q.id) := by rw [cell_of_row _ _ _ _ _ _ X]; rfl
        clear X
        go_wp2_with fail
        refine H.out.1.mono ?_
        rintro e w2 ⟨P, v, rfl, hE, hb2⟩
        clear c0
        have HE := Lib.hid (And.intro hE hb2)
        clear hE hb2
        go_wp2_with fail
        have X := H.out.2.2.2.1 w2 (HE.out.2)
        have c0 : w2.cell? ⟨gq, 0, none⟩ = some (.int .i64 q.id) := by rw [cell_of_row _ _ _ _ _ _ X]; rfl
        have c1 : w2.cell? ⟨gq, 1, none⟩ = some (.string q.who) := by rw [cell_of_row _ _ _ _ _ _ X]; rfl
        have c2 : w2.cell? ⟨gq, 2, none⟩ = some (.int .i64 q.entry) := by rw [cell_of_row _ _ _ _ _ _ X]; rfl
        have c3 : w2.cell? ⟨gq, 3, none⟩ = some (.string q.reason) := by rw [cell_of_row _ _ _ _ _ _ X]; rfl
        have c4 : w2.cell? ⟨gq, 4, none⟩ = some (.int .i64 q.exp) := by rw [cell_of_row _ _ _ _ _ _ X]; rfl
        clear X
        refine (is_any HE.out.1 1 (by decide)).mono ?_
        rintro e w' ⟨rfl, hww⟩
        cases hww
        rw [show ((0 : Int) == 1) = false by decide]
        go_wp2_with fail
        refine (H.out.2.1 _).mono ?_
        rintro e w3 ⟨rfl, hb3⟩
        have HE3 := Lib.hid (HE.out.2.trans (hb3.mono HE.out.2.size))
        have hE3 := HE.out.1.below hb3
        clear hb3 c0 c1 c2 c3 c4
        have X := H.out.2.2.2.1 w3 (HE3.out)
        have c0 : w3.cell? ⟨gq, 0, none⟩ = some (.int .i64 q.id) := by rw [cell_of_row _ _ _ _ _ _ X]; rfl
        have c4 : w3.cell? ⟨gq, 4, none⟩ = some (.int .i64 q.exp) := by rw [cell_of_row _ _ _ _ _ _ X]; rfl
        clear X
        have HF := Lib.hid hE3
        clear hE3
        go_wp2_with fail
        refine (is_any HF.out 4 (by decide)).mono ?_
        rintro e w' ⟨rfl, hww⟩
        cases hww
        rw [show ((0 : Int) == 4) = false by decide]
        go_wp2_with fail
        refine (rqfault_any _ _ _).mono ?_
        rintro e w9 ⟨fb, op, rfl, hf, hb9⟩
        go_wp2_with fail
        go_ret
        exact H.out.2.2.2.2.2.1 _ HD.out _ _ (errAt_fault hf (by decide)) ((HE3.out).trans (hb9.mono (HE3.out).size))
    · rw [if_neg hf] at hC
      rw [if_neg hf] at hd0
      clear hf hnn
      subst hC
      cases M with
      | false =>
        rw [if_pos rfl] at hd0
        have hd := hd0
        clear hd0 hM
        have HD := Lib.hid hd
        clear hd
        go_enter Try.func35, Try.ntmps35
        go_upto_region 1 with fail
        rw [← hw1, ← hgq]
        clear hw1 hgq
        have X := H.out.2.2.2.1 w1 (Below.refl _ _)
        have c0 : w1.cell? ⟨gq, 0, none⟩ = some (.int .i64 q.id) := by rw [cell_of_row _ _ _ _ _ _ X]; rfl
        clear X
        go_wp2_with fail
        refine H.out.1.mono ?_
        rintro e w2 ⟨P, v, rfl, hE, hb2⟩
        clear c0
        have HE := Lib.hid (And.intro hE hb2)
        clear hE hb2
        go_wp2_with fail
        have X := H.out.2.2.2.1 w2 (HE.out.2)
        have c0 : w2.cell? ⟨gq, 0, none⟩ = some (.int .i64 q.id) := by rw [cell_of_row _ _ _ _ _ _ X]; rfl
        have c1 : w2.cell? ⟨gq, 1, none⟩ = some (.string q.who) := by rw [cell_of_row _ _ _ _ _ _ X]; rfl
        have c2 : w2.cell? ⟨gq, 2, none⟩ = some (.int .i64 q.entry) := by rw [cell_of_row _ _ _ _ _ _ X]; rfl
        have c3 : w2.cell? ⟨gq, 3, none⟩ = some (.string q.reason) := by rw [cell_of_row _ _ _ _ _ _ X]; rfl
        have c4 : w2.cell? ⟨gq, 4, none⟩ = some (.int .i64 q.exp) := by rw [cell_of_row _ _ _ _ _ _ X]; rfl
        clear X
        refine (is_any HE.out.1 1 (by decide)).mono ?_
        rintro e w' ⟨rfl, hww⟩
        cases hww
        rw [show ((4 : Int) == 1) = false by decide]
        go_wp2_with fail
        refine (H.out.2.1 _).mono ?_
        rintro e w3 ⟨rfl, hb3⟩
        have HE3 := Lib.hid (HE.out.2.trans (hb3.mono HE.out.2.size))
        have hE3 := HE.out.1.below hb3
        clear hb3 c0 c1 c2 c3 c4
        have X := H.out.2.2.2.1 w3 (HE3.out)
        have c0 : w3.cell? ⟨gq, 0, none⟩ = some (.int .i64 q.id) := by rw [cell_of_row _ _ _ _ _ _ X]; rfl
        have c4 : w3.cell? ⟨gq, 4, none⟩ = some (.int .i64 q.exp) := by rw [cell_of_row _ _ _ _ _ _ X]; rfl
        clear X
        have HF := Lib.hid hE3
        clear hE3
        go_wp2_with fail
        refine (rqfault_any _ _ _).mono ?_
        rintro e w9 ⟨fb, op, rfl, hf, hb9⟩
        go_wp2_with fail
        go_ret
        exact H.out.2.2.2.2.2.1 _ HD.out _ _ (errAt_fault hf (by decide)) ((HE3.out).trans (hb9.mono (HE3.out).size))
      | true =>
        rw [if_neg (by decide)] at hd0
        by_cases hx : q.exp < now
        · rw [if_pos hx] at hd0
          have hd := hd0
          clear hd0 hM
          have HD := Lib.hid hd
          clear hd
          go_enter Try.func35, Try.ntmps35
          go_upto_region 1 with fail
          rw [← hw1, ← hgq]
          clear hw1 hgq
          have X := H.out.2.2.2.1 w1 (Below.refl _ _)
          have c0 : w1.cell? ⟨gq, 0, none⟩ = some (.int .i64 q.id) := by rw [cell_of_row _ _ _ _ _ _ X]; rfl
          clear X
          go_wp2_with fail
          refine H.out.1.mono ?_
          rintro e w2 ⟨P, v, rfl, hE, hb2⟩
          clear c0
          have HE := Lib.hid (And.intro hE hb2)
          clear hE hb2
          go_wp2_with fail
          have X := H.out.2.2.2.1 w2 (HE.out.2)
          have c0 : w2.cell? ⟨gq, 0, none⟩ = some (.int .i64 q.id) := by rw [cell_of_row _ _ _ _ _ _ X]; rfl
          have c1 : w2.cell? ⟨gq, 1, none⟩ = some (.string q.who) := by rw [cell_of_row _ _ _ _ _ _ X]; rfl
          have c2 : w2.cell? ⟨gq, 2, none⟩ = some (.int .i64 q.entry) := by rw [cell_of_row _ _ _ _ _ _ X]; rfl
          have c3 : w2.cell? ⟨gq, 3, none⟩ = some (.string q.reason) := by rw [cell_of_row _ _ _ _ _ _ X]; rfl
          have c4 : w2.cell? ⟨gq, 4, none⟩ = some (.int .i64 q.exp) := by rw [cell_of_row _ _ _ _ _ _ X]; rfl
          clear X
          refine (is_any HE.out.1 1 (by decide)).mono ?_
          rintro e w' ⟨rfl, hww⟩
          cases hww
          rw [show ((4 : Int) == 1) = false by decide]
          go_wp2_with fail
          refine (H.out.2.1 _).mono ?_
          rintro e w3 ⟨rfl, hb3⟩
          have HE3 := Lib.hid (HE.out.2.trans (hb3.mono HE.out.2.size))
          have hE3 := HE.out.1.below hb3
          clear hb3 c0 c1 c2 c3 c4
          have X := H.out.2.2.2.1 w3 (HE3.out)
          have c0 : w3.cell? ⟨gq, 0, none⟩ = some (.int .i64 q.id) := by rw [cell_of_row _ _ _ _ _ _ X]; rfl
          have c4 : w3.cell? ⟨gq, 4, none⟩ = some (.int .i64 q.exp) := by rw [cell_of_row _ _ _ _ _ _ X]; rfl
          clear X
          have HF := Lib.hid hE3
          clear hE3
          go_wp2_with fail
          refine (is_any HF.out 4 (by decide)).mono ?_
          rintro e w' ⟨rfl, hww⟩
          cases hww
          rw [show ((4 : Int) == 4) = true by decide]
          go_wp2_with fail
          refine (rqfault_any _ _ _).mono ?_
          rintro e w9 ⟨fb, op, rfl, hf, hb9⟩
          go_wp2_with fail
          go_ret
          exact H.out.2.2.2.2.2.1 _ HD.out _ _ (errAt_fault hf (by decide)) ((HE3.out).trans (hb9.mono (HE3.out).size))
        rw [if_neg hx] at hd0
        have hgx : ¬ (q.exp < now) := hx
        clear hx
        by_cases h2 : 200 ≤ l.length
        · rw [if_pos h2] at hd0
          have hd := hd0
          have h200 : ((l.length : Int) == 200) = true := by simp; omega
          clear hd0 hM h2
          have HD := Lib.hid hd
          clear hd
          go_enter Try.func35, Try.ntmps35
          go_upto_region 1 with fail
          rw [← hw1, ← hgq]
          clear hw1 hgq
          have X := H.out.2.2.2.1 w1 (Below.refl _ _)
          have c0 : w1.cell? ⟨gq, 0, none⟩ = some (.int .i64 q.id) := by rw [cell_of_row _ _ _ _ _ _ X]; rfl
          clear X
          go_wp2_with fail
          refine H.out.1.mono ?_
          rintro e w2 ⟨P, v, rfl, hE, hb2⟩
          clear c0
          have HE := Lib.hid (And.intro hE hb2)
          clear hE hb2
          go_wp2_with fail
          have X := H.out.2.2.2.1 w2 (HE.out.2)
          have c0 : w2.cell? ⟨gq, 0, none⟩ = some (.int .i64 q.id) := by rw [cell_of_row _ _ _ _ _ _ X]; rfl
          have c1 : w2.cell? ⟨gq, 1, none⟩ = some (.string q.who) := by rw [cell_of_row _ _ _ _ _ _ X]; rfl
          have c2 : w2.cell? ⟨gq, 2, none⟩ = some (.int .i64 q.entry) := by rw [cell_of_row _ _ _ _ _ _ X]; rfl
          have c3 : w2.cell? ⟨gq, 3, none⟩ = some (.string q.reason) := by rw [cell_of_row _ _ _ _ _ _ X]; rfl
          have c4 : w2.cell? ⟨gq, 4, none⟩ = some (.int .i64 q.exp) := by rw [cell_of_row _ _ _ _ _ _ X]; rfl
          clear X
          refine (is_any HE.out.1 1 (by decide)).mono ?_
          rintro e w' ⟨rfl, hww⟩
          cases hww
          rw [show ((4 : Int) == 1) = false by decide]
          go_wp2_with fail
          refine (H.out.2.1 _).mono ?_
          rintro e w3 ⟨rfl, hb3⟩
          have HE3 := Lib.hid (HE.out.2.trans (hb3.mono HE.out.2.size))
          have hE3 := HE.out.1.below hb3
          clear hb3 c0 c1 c2 c3 c4
          have X := H.out.2.2.2.1 w3 (HE3.out)
          have c0 : w3.cell? ⟨gq, 0, none⟩ = some (.int .i64 q.id) := by rw [cell_of_row _ _ _ _ _ _ X]; rfl
          have c4 : w3.cell? ⟨gq, 4, none⟩ = some (.int .i64 q.exp) := by rw [cell_of_row _ _ _ _ _ _ X]; rfl
          clear X
          have HF := Lib.hid hE3
          clear hE3
          go_wp2_with fail
          obtain ⟨hBb, ad, cap, e1, e2, e3⟩ := H.out.2.2.2.2.1 w3 HE3.out
          have s0 : w3.cell? ⟨b, 0, none⟩ = some (.slice ad l.length cap) := by rw [cell_of_row _ _ _ _ _ _ e1]; rfl
          have hlm : l.length ≤ 9223372036854775807 := by omega
          have HL := Lib.hid (And.intro e1 (And.intro e2 (And.intro e3 hBb)))
          clear e1 e2 e3 hBb
          refine (is_any HF.out 4 (by decide)).mono ?_
          rintro e w' ⟨rfl, hww⟩
          cases hww
          rw [show ((4 : Int) == 4) = true by decide]
          go_wp2_with fail
          refine (rqfault_any _ _ _).mono ?_
          rintro e w9 ⟨fb, op, rfl, hf, hb9⟩
          go_wp2_with fail
          go_ret
          exact H.out.2.2.2.2.2.1 _ HD.out _ _ (errAt_fault hf (by decide)) ((HE3.out).trans (hb9.mono (HE3.out).size))
        rw [if_neg h2] at hd0
        have hd := hd0
        have h200 : ((l.length : Int) == 200) = false := by simp; omega
        have HL2 := Lib.hid h2
        clear hd0 hM h2
        have HD := Lib.hid hd
        clear hd
        go_enter Try.func35, Try.ntmps35
        go_upto_region 1 with fail
        rw [← hw1, ← hgq]
        clear hw1 hgq
        have X := H.out.2.2.2.1 w1 (Below.refl _ _)
        have c0 : w1.cell? ⟨gq, 0, none⟩ = some (.int .i64 q.id) := by rw [cell_of_row _ _ _ _ _ _ X]; rfl
        clear X
        go_wp2_with fail
        refine H.out.1.mono ?_
        rintro e w2 ⟨P, v, rfl, hE, hb2⟩
        clear c0
        have HE := Lib.hid (And.intro hE hb2)
        clear hE hb2
        go_wp2_with fail
        have X := H.out.2.2.2.1 w2 (HE.out.2)
        have c0 : w2.cell? ⟨gq, 0, none⟩ = some (.int .i64 q.id) := by rw [cell_of_row _ _ _ _ _ _ X]; rfl
        have c1 : w2.cell? ⟨gq, 1, none⟩ = some (.string q.who) := by rw [cell_of_row _ _ _ _ _ _ X]; rfl
        have c2 : w2.cell? ⟨gq, 2, none⟩ = some (.int .i64 q.entry) := by rw [cell_of_row _ _ _ _ _ _ X]; rfl
        have c3 : w2.cell? ⟨gq, 3, none⟩ = some (.string q.reason) := by rw [cell_of_row _ _ _ _ _ _ X]; rfl
        have c4 : w2.cell? ⟨gq, 4, none⟩ = some (.int .i64 q.exp) := by rw [cell_of_row _ _ _ _ _ _ X]; rfl
        clear X
        refine (is_any HE.out.1 1 (by decide)).mono ?_
        rintro e w' ⟨rfl, hww⟩
        cases hww
        rw [show ((4 : Int) == 1) = false by decide]
        go_wp2_with fail
        refine (H.out.2.1 _).mono ?_
        rintro e w3 ⟨rfl, hb3⟩
        have HE3 := Lib.hid (HE.out.2.trans (hb3.mono HE.out.2.size))
        have hE3 := HE.out.1.below hb3
        clear hb3 c0 c1 c2 c3 c4
        have X := H.out.2.2.2.1 w3 (HE3.out)
        have c0 : w3.cell? ⟨gq, 0, none⟩ = some (.int .i64 q.id) := by rw [cell_of_row _ _ _ _ _ _ X]; rfl
        have c4 : w3.cell? ⟨gq, 4, none⟩ = some (.int .i64 q.exp) := by rw [cell_of_row _ _ _ _ _ _ X]; rfl
        clear X
        have HF := Lib.hid hE3
        clear hE3
        go_wp2_with fail
        obtain ⟨hBb, ad, cap, e1, e2, e3⟩ := H.out.2.2.2.2.1 w3 HE3.out
        have s0 : w3.cell? ⟨b, 0, none⟩ = some (.slice ad l.length cap) := by rw [cell_of_row _ _ _ _ _ _ e1]; rfl
        have hlm : l.length ≤ 9223372036854775807 := by omega
        have HL := Lib.hid (And.intro e1 (And.intro e2 (And.intro e3 hBb)))
        clear e1 e2 e3 hBb
        refine (is_any HF.out 4 (by decide)).mono ?_
        rintro e w' ⟨rfl, hww⟩
        cases hww
        rw [show ((4 : Int) == 4) = true by decide]
        go_wp2_with fail
        have HGQ := Lib.hid (H.out.2.2.2.1 w3 HE3.out)
        clear c0 c4 s0
        refine wp_region_held (S := fun W : World => W.heap[gq]? = some (.cells (qCs q) 24 (0, 0))) (by kernel_rfl) ?_
        change wpAnyH _ _ _ _ _ _ _ _ (World.drew _)
        generalize hv0 : World.drew _ = v0
        have E0 : v0.heap[gq]? = some (.cells (qCs q) 24 (0, 0)) := by rw [← hv0]; exact HGQ.out
        have F0 : Below w3.heap.size w3 v0 := by rw [← hv0]; exact ((Below.refl _ _).drew)
        have LL : OwnR 102 6 enCs B v0 ad cap l := by rw [← hv0]; exact HL.out.2.1
        have LB : v0.heap[b]? = some (.cells #[.slice ad l.length cap] 90 (0, 0)) := by rw [← hv0]; exact HL.out.1
        clear hv0
        refine wpAnyH_take (i := 0) (v := ?_) rfl (by kernel_rfl) (by kernel_rfl) (by kernel_rfl) (fun _ _ _ h => h) (Or.inl ⟨by kernel_rfl, ?_⟩) E0 ?_
        rotate_left
        · (intro W hS; have k1 : W.cell? ⟨gq, 0, none⟩ = some (.int .i64 q.id) := (by rw [cell_of_row _ _ _ _ _ _ hS]; rfl); have k2 : W.cell? ⟨gq, 1, none⟩ = some (.string q.who) := (by rw [cell_of_row _ _ _ _ _ _ hS]; rfl); have k3 : W.cell? ⟨gq, 2, none⟩ = some (.int .i64 q.entry) := (by rw [cell_of_row _ _ _ _ _ _ hS]; rfl); have k4 : W.cell? ⟨gq, 3, none⟩ = some (.string q.reason) := (by rw [cell_of_row _ _ _ _ _ _ hS]; rfl); have k5 : W.cell? ⟨gq, 4, none⟩ = some (.int .i64 q.exp) := (by rw [cell_of_row _ _ _ _ _ _ hS]; rfl); go_simp; try (with_reducible rfl))
        refine wpAnyH_take (i := 1) (v := ?_) rfl (by kernel_rfl) (by kernel_rfl) (by kernel_rfl) (fun _ _ _ h => h) (Or.inl ⟨by kernel_rfl, ?_⟩) E0 ?_
        rotate_left
        · (intro W hS; have k1 : W.cell? ⟨gq, 0, none⟩ = some (.int .i64 q.id) := (by rw [cell_of_row _ _ _ _ _ _ hS]; rfl); have k2 : W.cell? ⟨gq, 1, none⟩ = some (.string q.who) := (by rw [cell_of_row _ _ _ _ _ _ hS]; rfl); have k3 : W.cell? ⟨gq, 2, none⟩ = some (.int .i64 q.entry) := (by rw [cell_of_row _ _ _ _ _ _ hS]; rfl); have k4 : W.cell? ⟨gq, 3, none⟩ = some (.string q.reason) := (by rw [cell_of_row _ _ _ _ _ _ hS]; rfl); have k5 : W.cell? ⟨gq, 4, none⟩ = some (.int .i64 q.exp) := (by rw [cell_of_row _ _ _ _ _ _ hS]; rfl); go_simp; try (with_reducible rfl))
        refine wpAnyH_take (i := 2) (v := ?_) rfl (by kernel_rfl) (by kernel_rfl) (by kernel_rfl) (fun _ _ _ h => h) (Or.inl ⟨by kernel_rfl, ?_⟩) E0 ?_
        rotate_left
        · (intro W hS; have k1 : W.cell? ⟨gq, 0, none⟩ = some (.int .i64 q.id) := (by rw [cell_of_row _ _ _ _ _ _ hS]; rfl); have k2 : W.cell? ⟨gq, 1, none⟩ = some (.string q.who) := (by rw [cell_of_row _ _ _ _ _ _ hS]; rfl); have k3 : W.cell? ⟨gq, 2, none⟩ = some (.int .i64 q.entry) := (by rw [cell_of_row _ _ _ _ _ _ hS]; rfl); have k4 : W.cell? ⟨gq, 3, none⟩ = some (.string q.reason) := (by rw [cell_of_row _ _ _ _ _ _ hS]; rfl); have k5 : W.cell? ⟨gq, 4, none⟩ = some (.int .i64 q.exp) := (by rw [cell_of_row _ _ _ _ _ _ hS]; rfl); go_simp; try (with_reducible rfl))
        refine wpAnyH_take (i := 3) (v := ?_) rfl (by kernel_rfl) (by kernel_rfl) (by kernel_rfl) (fun _ _ _ h => h) (Or.inl ⟨by kernel_rfl, ?_⟩) E0 ?_
        rotate_left
        · (intro W hS; have k1 : W.cell? ⟨gq, 0, none⟩ = some (.int .i64 q.id) := (by rw [cell_of_row _ _ _ _ _ _ hS]; rfl); have k2 : W.cell? ⟨gq, 1, none⟩ = some (.string q.who) := (by rw [cell_of_row _ _ _ _ _ _ hS]; rfl); have k3 : W.cell? ⟨gq, 2, none⟩ = some (.int .i64 q.entry) := (by rw [cell_of_row _ _ _ _ _ _ hS]; rfl); have k4 : W.cell? ⟨gq, 3, none⟩ = some (.string q.reason) := (by rw [cell_of_row _ _ _ _ _ _ hS]; rfl); have k5 : W.cell? ⟨gq, 4, none⟩ = some (.int .i64 q.exp) := (by rw [cell_of_row _ _ _ _ _ _ hS]; rfl); go_simp; try (with_reducible rfl))
        refine wpAnyH_take (i := 5) (v := ?_) rfl (by kernel_rfl) (by kernel_rfl) (by kernel_rfl) (fun _ _ _ h => h) (Or.inl ⟨by kernel_rfl, ?_⟩) E0 ?_
        rotate_left
        · (intro W hS; have k1 : W.cell? ⟨gq, 0, none⟩ = some (.int .i64 q.id) := (by rw [cell_of_row _ _ _ _ _ _ hS]; rfl); have k2 : W.cell? ⟨gq, 1, none⟩ = some (.string q.who) := (by rw [cell_of_row _ _ _ _ _ _ hS]; rfl); have k3 : W.cell? ⟨gq, 2, none⟩ = some (.int .i64 q.entry) := (by rw [cell_of_row _ _ _ _ _ _ hS]; rfl); have k4 : W.cell? ⟨gq, 3, none⟩ = some (.string q.reason) := (by rw [cell_of_row _ _ _ _ _ _ hS]; rfl); have k5 : W.cell? ⟨gq, 4, none⟩ = some (.int .i64 q.exp) := (by rw [cell_of_row _ _ _ _ _ _ hS]; rfl); go_simp; try (with_reducible rfl))
        refine wpAnyH_ready (rs := [4, 6]) (by kernel_rfl) (by simp) ?_
        refine AllReadyH.cons (i := 4) rfl (fun K hK => ?_) (AllReadyH.cons (i := 6) rfl (fun K hK => ?_) AllReadyH.nil)
        · have qs : v0.cell? ⟨b, 0, none⟩ = some (.slice ad l.length cap) := by rw [cell_of_row _ _ _ _ _ _ LB]; rfl
          go_simp
          refine hK.out _ _ E0 (fun _ => ?_)
          clear hK K qs
          refine wpAnyH_ready (rs := [6]) (by kernel_rfl) (by simp) ?_
          refine AllReadyH.cons (i := 6) rfl (fun K hK => ?_) AllReadyH.nil
          go_simp
          refine (H.out.2.2.1 v0).mono ?_
          rintro e v1 ⟨rfl, hb⟩
          have F1 := F0.trans (hb.mono F0.size)
          have E1 : v1.heap[gq]? = some (.cells (qCs q) 24 (0, 0)) := (hb.block _ (blt_of_heap E0)).trans E0
          have LN := LL.call hb
          have LBn := (hb.block b (blt_of_heap LB)).trans LB
          clear LL LB
          have LL := LN
          have LB := LBn
          clear LN LBn
          refine hK.out _ _ E1 (fun _ => ?_)
          clear hK K hb
          refine wpAnyH_take (i := 7) (v := ?_) rfl (by kernel_rfl) (by kernel_rfl) (by kernel_rfl) (fun _ _ _ h => h) (Or.inl ⟨by kernel_rfl, ?_⟩) E1 ?_
          rotate_left
          · (intro W hS; have k1 : W.cell? ⟨gq, 0, none⟩ = some (.int .i64 q.id) := (by rw [cell_of_row _ _ _ _ _ _ hS]; rfl); have k2 : W.cell? ⟨gq, 1, none⟩ = some (.string q.who) := (by rw [cell_of_row _ _ _ _ _ _ hS]; rfl); have k3 : W.cell? ⟨gq, 2, none⟩ = some (.int .i64 q.entry) := (by rw [cell_of_row _ _ _ _ _ _ hS]; rfl); have k4 : W.cell? ⟨gq, 3, none⟩ = some (.string q.reason) := (by rw [cell_of_row _ _ _ _ _ _ hS]; rfl); have k5 : W.cell? ⟨gq, 4, none⟩ = some (.int .i64 q.exp) := (by rw [cell_of_row _ _ _ _ _ _ hS]; rfl); go_simp; try (with_reducible rfl))
          refine wpAnyH_ready (rs := [8]) (by kernel_rfl) (by simp) ?_
          refine AllReadyH.cons (i := 8) rfl (fun K hK => ?_) AllReadyH.nil
          obtain ⟨v2, hv⟩ : ∃ v, v = v1.alloc (.cells (enCs ⟨q, 1⟩) 102) := ⟨_, rfl⟩
          have hb : Below v1.heap.size v1 v2 := by rw [hv]; exact (Below.refl _ _).alloc (Nat.le_refl _) _
          have g1 : v2.heap[v1.heap.size]? = some (.cells (enCs ⟨q, 1⟩) 102 (0, 0)) := by rw [hv]; exact heap_alloc_new _ _
          have F2 := F1.trans (hb.mono F1.size)
          have E2 : v2.heap[gq]? = some (.cells (qCs q) 24 (0, 0)) := (hb.block _ (blt_of_heap E1)).trans E1
          simp only [enCs] at hv
          go_simp
          rw [← hv]
          clear hv
          have LN := LL.call hb
          have LBn := (hb.block b (blt_of_heap LB)).trans LB
          clear LL LB
          have LL := LN
          have LB := LBn
          clear LN LBn
          refine hK.out _ _ E2 (fun _ => ?_)
          clear hK K hb
          refine wpAnyH_ready (rs := [9]) (by kernel_rfl) (by simp) ?_
          refine AllReadyH.cons (i := 9) rfl (fun K hK => ?_) AllReadyH.nil
          refine step_append_r rfl (.tmp 59) (.tmp 63) 88 rfl Try.en_rec en_one en_size LL _ rfl (by kernel_rfl) _ 1 ⟨q, 1⟩ (by kernel_rfl) g1 (by have := HL2.out; omega) (Nat.le_trans H.out.2.2.2.2.2.2.2.2.1 (Nat.le_trans (H.out.2.2.2.2.2.2.1 _ HE3.out).size F2.size)) (Below.refl _ _) ?_
          intro z cq v3 ho hBe hg hat
          have hrow0 := (show BkAt B v2 b R l from ⟨HL.out.2.2.2, ad, cap, LB, LL, HL.out.2.2.1⟩)
          have hgrew := BkAt.grew (x := ⟨q, 1⟩) LB LL HL.out.2.2.1 HL.out.2.2.2 ho hg hat
          have LB2 := (hg.block b hrow0.lt (fun e => (hrow0.row b (HL.out.2.2.1.trans e.symm)).2.2 rfl)).trans LB
          have EN : v3.heap[gq]? = some (.cells (qCs q) 24 (0, 0)) := (hg.block gq (blt_of_heap E2) (fun e => by have := H.out.2.2.2.2.2.2.2.2.2.2 gq (HL.out.2.2.1.trans e.symm); have := H.out.2.2.2.2.2.2.2.1; omega)).trans E2
          have zf : v3.frozen? ⟨b, 0, none⟩ = false := frozen_of_row _ _ _ _ _ LB2
          have z0 : v3.cell? ⟨b, 0, none⟩ = some (.slice ad l.length cap) := by rw [cell_of_row _ _ _ _ _ _ LB2]; rfl
          have hfb : gq ≠ b := by have := H.out.2.2.2.2.2.2.2.2.2.1; have := H.out.2.2.2.2.2.2.2.1; omega
          obtain ⟨wz, hwz⟩ : ∃ wz, wz = v3.setCell ⟨b, 0, none⟩ (.slice (some ⟨z, 0, none⟩) (l.length + 1) cq) := ⟨_, rfl⟩
          rw [← hwz] at hgrew
          have EY : wz.heap[gq]? = some (.cells (qCs q) 24 (0, 0)) := by rw [hwz]; exact (heap_setCell_other _ ⟨b, 0, none⟩ gq _ hfb).trans EN
          have HN := Lib.hid (And.intro hgrew F2)
          clear hgrew hrow0 ho hBe hg hat LL LB LB2 F2 hfb
          refine hK.out _ _ EN (fun _ => ?_)
          clear hK K
          refine wpAnyH_take (i := 10) (v := ?_) rfl (by kernel_rfl) (by kernel_rfl) (by kernel_rfl) (fun _ _ _ h => h) (Or.inl ⟨by kernel_rfl, ?_⟩) EN ?_
          rotate_left
          · (intro W hS; have k1 : W.cell? ⟨gq, 0, none⟩ = some (.int .i64 q.id) := (by rw [cell_of_row _ _ _ _ _ _ hS]; rfl); have k2 : W.cell? ⟨gq, 1, none⟩ = some (.string q.who) := (by rw [cell_of_row _ _ _ _ _ _ hS]; rfl); have k3 : W.cell? ⟨gq, 2, none⟩ = some (.int .i64 q.entry) := (by rw [cell_of_row _ _ _ _ _ _ hS]; rfl); have k4 : W.cell? ⟨gq, 3, none⟩ = some (.string q.reason) := (by rw [cell_of_row _ _ _ _ _ _ hS]; rfl); have k5 : W.cell? ⟨gq, 4, none⟩ = some (.int .i64 q.exp) := (by rw [cell_of_row _ _ _ _ _ _ hS]; rfl); go_simp; try (with_reducible rfl))
          refine wpAnyH_take (i := 11) (v := ?_) rfl (by kernel_rfl) (by kernel_rfl) (by kernel_rfl) (fun _ _ _ h => h) (Or.inl ⟨by kernel_rfl, ?_⟩) EN ?_
          rotate_left
          · (intro W hS; have k1 : W.cell? ⟨gq, 0, none⟩ = some (.int .i64 q.id) := (by rw [cell_of_row _ _ _ _ _ _ hS]; rfl); have k2 : W.cell? ⟨gq, 1, none⟩ = some (.string q.who) := (by rw [cell_of_row _ _ _ _ _ _ hS]; rfl); have k3 : W.cell? ⟨gq, 2, none⟩ = some (.int .i64 q.entry) := (by rw [cell_of_row _ _ _ _ _ _ hS]; rfl); have k4 : W.cell? ⟨gq, 3, none⟩ = some (.string q.reason) := (by rw [cell_of_row _ _ _ _ _ _ hS]; rfl); have k5 : W.cell? ⟨gq, 4, none⟩ = some (.int .i64 q.exp) := (by rw [cell_of_row _ _ _ _ _ _ hS]; rfl); go_simp; try (with_reducible rfl))
          refine wpAnyH_ready (rs := [12]) (by kernel_rfl) (by simp) ?_
          refine AllReadyH.cons (i := 12) rfl (fun K hK => ?_) AllReadyH.nil
          go_simp
          rw [← hwz]
          refine hK.out _ _ EY (fun _ => ?_)
          clear hK K z0 zf EN hwz
          refine wpAnyH_done (by kernel_rfl) ?_ _
          go_simp
          go_wp2_with fail
          go_ret
          exact ⟨_, _, rfl, by rw [HD.out]; exact .inl ⟨rfl, rfl⟩, by unfold Bk.after; rw [HD.out]; exact HN.out.1.1, KeptB.pre (H.out.2.2.2.2.2.2.1 _ HE3.out) (KeptB.pre HN.out.2 HN.out.1.2.1), by rcases HN.out.1.2.2 with e | e; exact .inl e; exact .inr fun k hk => Nat.le_trans (H.out.2.2.2.2.2.2.1 _ HE3.out).size (Nat.le_trans HN.out.2.size (e k hk))⟩
        · go_simp
          refine (H.out.2.2.1 v0).mono ?_
          rintro e v1 ⟨rfl, hb⟩
          have F1 := F0.trans (hb.mono F0.size)
          have E1 : v1.heap[gq]? = some (.cells (qCs q) 24 (0, 0)) := (hb.block _ (blt_of_heap E0)).trans E0
          have LN := LL.call hb
          have LBn := (hb.block b (blt_of_heap LB)).trans LB
          clear LL LB
          have LL := LN
          have LB := LBn
          clear LN LBn
          refine hK.out _ _ E1 (fun _ => ?_)
          clear hK K hb
          refine wpAnyH_take (i := 7) (v := ?_) rfl (by kernel_rfl) (by kernel_rfl) (by kernel_rfl) (fun _ _ _ h => h) (Or.inl ⟨by kernel_rfl, ?_⟩) E1 ?_
          rotate_left
          · (intro W hS; have k1 : W.cell? ⟨gq, 0, none⟩ = some (.int .i64 q.id) := (by rw [cell_of_row _ _ _ _ _ _ hS]; rfl); have k2 : W.cell? ⟨gq, 1, none⟩ = some (.string q.who) := (by rw [cell_of_row _ _ _ _ _ _ hS]; rfl); have k3 : W.cell? ⟨gq, 2, none⟩ = some (.int .i64 q.entry) := (by rw [cell_of_row _ _ _ _ _ _ hS]; rfl); have k4 : W.cell? ⟨gq, 3, none⟩ = some (.string q.reason) := (by rw [cell_of_row _ _ _ _ _ _ hS]; rfl); have k5 : W.cell? ⟨gq, 4, none⟩ = some (.int .i64 q.exp) := (by rw [cell_of_row _ _ _ _ _ _ hS]; rfl); go_simp; try (with_reducible rfl))
          refine wpAnyH_ready (rs := [4, 8]) (by kernel_rfl) (by simp) ?_
          refine AllReadyH.cons (i := 4) rfl (fun K hK => ?_) (AllReadyH.cons (i := 8) rfl (fun K hK => ?_) AllReadyH.nil)
          · have qs : v1.cell? ⟨b, 0, none⟩ = some (.slice ad l.length cap) := by rw [cell_of_row _ _ _ _ _ _ LB]; rfl
            go_simp
            refine hK.out _ _ E1 (fun _ => ?_)
            clear hK K qs
            refine wpAnyH_ready (rs := [8]) (by kernel_rfl) (by simp) ?_
            refine AllReadyH.cons (i := 8) rfl (fun K hK => ?_) AllReadyH.nil
            obtain ⟨v2, hv⟩ : ∃ v, v = v1.alloc (.cells (enCs ⟨q, 1⟩) 102) := ⟨_, rfl⟩
            have hb : Below v1.heap.size v1 v2 := by rw [hv]; exact (Below.refl _ _).alloc (Nat.le_refl _) _
            have g1 : v2.heap[v1.heap.size]? = some (.cells (enCs ⟨q, 1⟩) 102 (0, 0)) := by rw [hv]; exact heap_alloc_new _ _
            have F2 := F1.trans (hb.mono F1.size)
            have E2 : v2.heap[gq]? = some (.cells (qCs q) 24 (0, 0)) := (hb.block _ (blt_of_heap E1)).trans E1
            simp only [enCs] at hv
            go_simp
            rw [← hv]
            clear hv
            have LN := LL.call hb
            have LBn := (hb.block b (blt_of_heap LB)).trans LB
            clear LL LB
            have LL := LN
            have LB := LBn
            clear LN LBn
            refine hK.out _ _ E2 (fun _ => ?_)
            clear hK K hb
            refine wpAnyH_ready (rs := [9]) (by kernel_rfl) (by simp) ?_
            refine AllReadyH.cons (i := 9) rfl (fun K hK => ?_) AllReadyH.nil
            refine step_append_r rfl (.tmp 59) (.tmp 63) 88 rfl Try.en_rec en_one en_size LL _ rfl (by kernel_rfl) _ 1 ⟨q, 1⟩ (by kernel_rfl) g1 (by have := HL2.out; omega) (Nat.le_trans H.out.2.2.2.2.2.2.2.2.1 (Nat.le_trans (H.out.2.2.2.2.2.2.1 _ HE3.out).size F2.size)) (Below.refl _ _) ?_
            intro z cq v3 ho hBe hg hat
            have hrow0 := (show BkAt B v2 b R l from ⟨HL.out.2.2.2, ad, cap, LB, LL, HL.out.2.2.1⟩)
            have hgrew := BkAt.grew (x := ⟨q, 1⟩) LB LL HL.out.2.2.1 HL.out.2.2.2 ho hg hat
            have LB2 := (hg.block b hrow0.lt (fun e => (hrow0.row b (HL.out.2.2.1.trans e.symm)).2.2 rfl)).trans LB
            have EN : v3.heap[gq]? = some (.cells (qCs q) 24 (0, 0)) := (hg.block gq (blt_of_heap E2) (fun e => by have := H.out.2.2.2.2.2.2.2.2.2.2 gq (HL.out.2.2.1.trans e.symm); have := H.out.2.2.2.2.2.2.2.1; omega)).trans E2
            have zf : v3.frozen? ⟨b, 0, none⟩ = false := frozen_of_row _ _ _ _ _ LB2
            have z0 : v3.cell? ⟨b, 0, none⟩ = some (.slice ad l.length cap) := by rw [cell_of_row _ _ _ _ _ _ LB2]; rfl
            have hfb : gq ≠ b := by have := H.out.2.2.2.2.2.2.2.2.2.1; have := H.out.2.2.2.2.2.2.2.1; omega
            obtain ⟨wz, hwz⟩ : ∃ wz, wz = v3.setCell ⟨b, 0, none⟩ (.slice (some ⟨z, 0, none⟩) (l.length + 1) cq) := ⟨_, rfl⟩
            rw [← hwz] at hgrew
            have EY : wz.heap[gq]? = some (.cells (qCs q) 24 (0, 0)) := by rw [hwz]; exact (heap_setCell_other _ ⟨b, 0, none⟩ gq _ hfb).trans EN
            have HN := Lib.hid (And.intro hgrew F2)
            clear hgrew hrow0 ho hBe hg hat LL LB LB2 F2 hfb
            refine hK.out _ _ EN (fun _ => ?_)
            clear hK K
            refine wpAnyH_take (i := 10) (v := ?_) rfl (by kernel_rfl) (by kernel_rfl) (by kernel_rfl) (fun _ _ _ h => h) (Or.inl ⟨by kernel_rfl, ?_⟩) EN ?_
            rotate_left
            · (intro W hS; have k1 : W.cell? ⟨gq, 0, none⟩ = some (.int .i64 q.id) := (by rw [cell_of_row _ _ _ _ _ _ hS]; rfl); have k2 : W.cell? ⟨gq, 1, none⟩ = some (.string q.who) := (by rw [cell_of_row _ _ _ _ _ _ hS]; rfl); have k3 : W.cell? ⟨gq, 2, none⟩ = some (.int .i64 q.entry) := (by rw [cell_of_row _ _ _ _ _ _ hS]; rfl); have k4 : W.cell? ⟨gq, 3, none⟩ = some (.string q.reason) := (by rw [cell_of_row _ _ _ _ _ _ hS]; rfl); have k5 : W.cell? ⟨gq, 4, none⟩ = some (.int .i64 q.exp) := (by rw [cell_of_row _ _ _ _ _ _ hS]; rfl); go_simp; try (with_reducible rfl))
            refine wpAnyH_take (i := 11) (v := ?_) rfl (by kernel_rfl) (by kernel_rfl) (by kernel_rfl) (fun _ _ _ h => h) (Or.inl ⟨by kernel_rfl, ?_⟩) EN ?_
            rotate_left
            · (intro W hS; have k1 : W.cell? ⟨gq, 0, none⟩ = some (.int .i64 q.id) := (by rw [cell_of_row _ _ _ _ _ _ hS]; rfl); have k2 : W.cell? ⟨gq, 1, none⟩ = some (.string q.who) := (by rw [cell_of_row _ _ _ _ _ _ hS]; rfl); have k3 : W.cell? ⟨gq, 2, none⟩ = some (.int .i64 q.entry) := (by rw [cell_of_row _ _ _ _ _ _ hS]; rfl); have k4 : W.cell? ⟨gq, 3, none⟩ = some (.string q.reason) := (by rw [cell_of_row _ _ _ _ _ _ hS]; rfl); have k5 : W.cell? ⟨gq, 4, none⟩ = some (.int .i64 q.exp) := (by rw [cell_of_row _ _ _ _ _ _ hS]; rfl); go_simp; try (with_reducible rfl))
            refine wpAnyH_ready (rs := [12]) (by kernel_rfl) (by simp) ?_
            refine AllReadyH.cons (i := 12) rfl (fun K hK => ?_) AllReadyH.nil
            go_simp
            rw [← hwz]
            refine hK.out _ _ EY (fun _ => ?_)
            clear hK K z0 zf EN hwz
            refine wpAnyH_done (by kernel_rfl) ?_ _
            go_simp
            go_wp2_with fail
            go_ret
            exact ⟨_, _, rfl, by rw [HD.out]; exact .inl ⟨rfl, rfl⟩, by unfold Bk.after; rw [HD.out]; exact HN.out.1.1, KeptB.pre (H.out.2.2.2.2.2.2.1 _ HE3.out) (KeptB.pre HN.out.2 HN.out.1.2.1), by rcases HN.out.1.2.2 with e | e; exact .inl e; exact .inr fun k hk => Nat.le_trans (H.out.2.2.2.2.2.2.1 _ HE3.out).size (Nat.le_trans HN.out.2.size (e k hk))⟩
          · obtain ⟨v2, hv⟩ : ∃ v, v = v1.alloc (.cells (enCs ⟨q, 1⟩) 102) := ⟨_, rfl⟩
            have hb : Below v1.heap.size v1 v2 := by rw [hv]; exact (Below.refl _ _).alloc (Nat.le_refl _) _
            have g1 : v2.heap[v1.heap.size]? = some (.cells (enCs ⟨q, 1⟩) 102 (0, 0)) := by rw [hv]; exact heap_alloc_new _ _
            have F2 := F1.trans (hb.mono F1.size)
            have E2 : v2.heap[gq]? = some (.cells (qCs q) 24 (0, 0)) := (hb.block _ (blt_of_heap E1)).trans E1
            simp only [enCs] at hv
            go_simp
            rw [← hv]
            clear hv
            have LN := LL.call hb
            have LBn := (hb.block b (blt_of_heap LB)).trans LB
            clear LL LB
            have LL := LN
            have LB := LBn
            clear LN LBn
            refine hK.out _ _ E2 (fun _ => ?_)
            clear hK K hb
            refine wpAnyH_ready (rs := [4]) (by kernel_rfl) (by simp) ?_
            refine AllReadyH.cons (i := 4) rfl (fun K hK => ?_) AllReadyH.nil
            have qs : v2.cell? ⟨b, 0, none⟩ = some (.slice ad l.length cap) := by rw [cell_of_row _ _ _ _ _ _ LB]; rfl
            go_simp
            refine hK.out _ _ E2 (fun _ => ?_)
            clear hK K qs
            refine wpAnyH_ready (rs := [9]) (by kernel_rfl) (by simp) ?_
            refine AllReadyH.cons (i := 9) rfl (fun K hK => ?_) AllReadyH.nil
            refine step_append_r rfl (.tmp 59) (.tmp 63) 88 rfl Try.en_rec en_one en_size LL _ rfl (by kernel_rfl) _ 1 ⟨q, 1⟩ (by kernel_rfl) g1 (by have := HL2.out; omega) (Nat.le_trans H.out.2.2.2.2.2.2.2.2.1 (Nat.le_trans (H.out.2.2.2.2.2.2.1 _ HE3.out).size F2.size)) (Below.refl _ _) ?_
            intro z cq v3 ho hBe hg hat
            have hrow0 := (show BkAt B v2 b R l from ⟨HL.out.2.2.2, ad, cap, LB, LL, HL.out.2.2.1⟩)
            have hgrew := BkAt.grew (x := ⟨q, 1⟩) LB LL HL.out.2.2.1 HL.out.2.2.2 ho hg hat
            have LB2 := (hg.block b hrow0.lt (fun e => (hrow0.row b (HL.out.2.2.1.trans e.symm)).2.2 rfl)).trans LB
            have EN : v3.heap[gq]? = some (.cells (qCs q) 24 (0, 0)) := (hg.block gq (blt_of_heap E2) (fun e => by have := H.out.2.2.2.2.2.2.2.2.2.2 gq (HL.out.2.2.1.trans e.symm); have := H.out.2.2.2.2.2.2.2.1; omega)).trans E2
            have zf : v3.frozen? ⟨b, 0, none⟩ = false := frozen_of_row _ _ _ _ _ LB2
            have z0 : v3.cell? ⟨b, 0, none⟩ = some (.slice ad l.length cap) := by rw [cell_of_row _ _ _ _ _ _ LB2]; rfl
            have hfb : gq ≠ b := by have := H.out.2.2.2.2.2.2.2.2.2.1; have := H.out.2.2.2.2.2.2.2.1; omega
            obtain ⟨wz, hwz⟩ : ∃ wz, wz = v3.setCell ⟨b, 0, none⟩ (.slice (some ⟨z, 0, none⟩) (l.length + 1) cq) := ⟨_, rfl⟩
            rw [← hwz] at hgrew
            have EY : wz.heap[gq]? = some (.cells (qCs q) 24 (0, 0)) := by rw [hwz]; exact (heap_setCell_other _ ⟨b, 0, none⟩ gq _ hfb).trans EN
            have HN := Lib.hid (And.intro hgrew F2)
            clear hgrew hrow0 ho hBe hg hat LL LB LB2 F2 hfb
            refine hK.out _ _ EN (fun _ => ?_)
            clear hK K
            refine wpAnyH_take (i := 10) (v := ?_) rfl (by kernel_rfl) (by kernel_rfl) (by kernel_rfl) (fun _ _ _ h => h) (Or.inl ⟨by kernel_rfl, ?_⟩) EN ?_
            rotate_left
            · (intro W hS; have k1 : W.cell? ⟨gq, 0, none⟩ = some (.int .i64 q.id) := (by rw [cell_of_row _ _ _ _ _ _ hS]; rfl); have k2 : W.cell? ⟨gq, 1, none⟩ = some (.string q.who) := (by rw [cell_of_row _ _ _ _ _ _ hS]; rfl); have k3 : W.cell? ⟨gq, 2, none⟩ = some (.int .i64 q.entry) := (by rw [cell_of_row _ _ _ _ _ _ hS]; rfl); have k4 : W.cell? ⟨gq, 3, none⟩ = some (.string q.reason) := (by rw [cell_of_row _ _ _ _ _ _ hS]; rfl); have k5 : W.cell? ⟨gq, 4, none⟩ = some (.int .i64 q.exp) := (by rw [cell_of_row _ _ _ _ _ _ hS]; rfl); go_simp; try (with_reducible rfl))
            refine wpAnyH_take (i := 11) (v := ?_) rfl (by kernel_rfl) (by kernel_rfl) (by kernel_rfl) (fun _ _ _ h => h) (Or.inl ⟨by kernel_rfl, ?_⟩) EN ?_
            rotate_left
            · (intro W hS; have k1 : W.cell? ⟨gq, 0, none⟩ = some (.int .i64 q.id) := (by rw [cell_of_row _ _ _ _ _ _ hS]; rfl); have k2 : W.cell? ⟨gq, 1, none⟩ = some (.string q.who) := (by rw [cell_of_row _ _ _ _ _ _ hS]; rfl); have k3 : W.cell? ⟨gq, 2, none⟩ = some (.int .i64 q.entry) := (by rw [cell_of_row _ _ _ _ _ _ hS]; rfl); have k4 : W.cell? ⟨gq, 3, none⟩ = some (.string q.reason) := (by rw [cell_of_row _ _ _ _ _ _ hS]; rfl); have k5 : W.cell? ⟨gq, 4, none⟩ = some (.int .i64 q.exp) := (by rw [cell_of_row _ _ _ _ _ _ hS]; rfl); go_simp; try (with_reducible rfl))
            refine wpAnyH_ready (rs := [12]) (by kernel_rfl) (by simp) ?_
            refine AllReadyH.cons (i := 12) rfl (fun K hK => ?_) AllReadyH.nil
            go_simp
            rw [← hwz]
            refine hK.out _ _ EY (fun _ => ?_)
            clear hK K z0 zf EN hwz
            refine wpAnyH_done (by kernel_rfl) ?_ _
            go_simp
            go_wp2_with fail
            go_ret
            exact ⟨_, _, rfl, by rw [HD.out]; exact .inl ⟨rfl, rfl⟩, by unfold Bk.after; rw [HD.out]; exact HN.out.1.1, KeptB.pre (H.out.2.2.2.2.2.2.1 _ HE3.out) (KeptB.pre HN.out.2 HN.out.1.2.1), by rcases HN.out.1.2.2 with e | e; exact .inl e; exact .inr fun k hk => Nat.le_trans (H.out.2.2.2.2.2.2.1 _ HE3.out).size (Nat.le_trans HN.out.2.size (e k hk))⟩
end Go.Proofs.Ytnkkbinbeildmaa
