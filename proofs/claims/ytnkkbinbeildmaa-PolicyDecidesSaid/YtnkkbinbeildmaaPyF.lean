/- lockboxlaw20: Few, Ref, Refs, awake. -/
import Derived.Test.YtnkkbinbeildmaaPyD
namespace Go.Proofs.Ytnkkbinbeildmaa
open Go.RowKit
theorem alloc2_new (w : World) (o1 o2 : Obj) : ((w.alloc o1).alloc o2).heap[w.heap.size + 1]? = some o2 := by
  have := heap_alloc_new (w.alloc o1) o2
  simpa using this
/-- Not more than statements go through. -/
def fewR (r : Py.R) : Bool := decide (r.who.size ≤ 100) && decide (r.word.size ≤ 100)
def fewQ (q : Py.Q) : Bool := decide (q.who.size ≤ 100) && decide (q.reason.size ≤ 300)
def fewL (l : List Py.R) (q : Py.Q) : Bool := decide (l.length ≤ 25) && fewQ q && l.all fewR
set_option maxRecDepth 100000 in
set_option maxHeartbeats 1000000 in
theorem few20_any (l : List Py.R) (a0 : Option Addr) (cap : Nat) (q : Py.Q) (hq : q.Ok) (hl : l.length ≤ maxLen) (hok : ∀ r ∈ l, r.who.size ≤ maxLen ∧ r.word.size ≤ maxLen) (w : World) (hT : RecsAt 7 ruCs w a0 l) : Calls Try.prog 10 #[.slice a0 l.length cap, qVal q] w fun e w' => e = .returned (.bool (fewL l q)) ∧ Below w.heap.size w w' := by
  have hqw := hq.who
  have hqr := hq.reason
  clear hq
  unfold maxLen at hqw hqr hl hok
  obtain ⟨Rz, hR⟩ : ∃ Rz, Rz = fewL l q := ⟨_, rfl⟩
  obtain ⟨n, hn⟩ : ∃ n, n = l.length := ⟨_, rfl⟩
  rw [← hR, ← hn]
  rw [← hn] at hl
  have H := Lib.hid (And.intro hT (And.intro hn (And.intro hR hok)))
  clear hT hR hok hn
  unfold qVal
  by_cases h1 : n ≤ 25
  rotate_left
  · have g1 : (25 : Int) < (n : Int) := by omega
    have hv : Rz = false := by rw [H.out.2.2.1]; unfold fewL; rw [decide_eq_false (by have := H.out.2.1; omega), Bool.false_and, Bool.false_and]
    have HV := Lib.hid hv
    clear h1 hv
    go_enter Try.func10, Try.ntmps10
    go_wp2_with fail
    go_ret
    exact ⟨by rw [HV.out]; rfl, (Below.refl _ _).alloc (Nat.le_refl _) _⟩
  have g1 : ¬ ((25 : Int) < (n : Int)) := by omega
  by_cases h2 : q.who.size ≤ 100
  rotate_left
  · have g2 : (100 : Int) < (q.who.size : Int) := by omega
    have hv : Rz = false := by rw [H.out.2.2.1]; unfold fewL fewQ; rw [decide_eq_false h2, Bool.false_and, Bool.and_false, Bool.false_and]
    have HV := Lib.hid hv
    clear h1 h2 hv
    go_enter Try.func10, Try.ntmps10
    go_wp2_with fail
    go_ret
    exact ⟨by rw [HV.out]; rfl, (Below.refl _ _).alloc (Nat.le_refl _) _⟩
  have g2 : ¬ ((100 : Int) < (q.who.size : Int)) := by omega
  by_cases h3 : q.reason.size ≤ 300
  rotate_left
  · have g3 : (300 : Int) < (q.reason.size : Int) := by omega
    have hv : Rz = false := by rw [H.out.2.2.1]; unfold fewL fewQ; rw [decide_eq_false h3, Bool.and_false, Bool.and_false, Bool.false_and]
    have HV := Lib.hid hv
    clear h1 h2 h3 hv
    go_enter Try.func10, Try.ntmps10
    go_wp2_with fail
    go_ret
    exact ⟨by rw [HV.out]; rfl, (Below.refl _ _).alloc (Nat.le_refl _) _⟩
  have g3 : ¬ ((300 : Int) < (q.reason.size : Int)) := by omega
  have hall : Rz = l.all fewR := by rw [H.out.2.2.1]; unfold fewL fewQ; rw [decide_eq_true h2, decide_eq_true h3, decide_eq_true (by have := H.out.2.1; omega)]; rfl
  have HA := Lib.hid hall
  clear h1 h2 h3 hall
  go_enter Try.func10, Try.ntmps10
  go_wp2_with fail
  go_loopw [5] (fun c wr => ∃ i : Nat, i ≤ n ∧ c = .int .i64 (i : Int) ∧ (∀ j, j < i → ∀ r, l[j]? = some r → fewR r = true) ∧ Below w.heap.size w wr) (fun c _ => n - (intOf c).toNat)
  case atStart => exact ⟨0, by omega, rfl, fun j hj => absurd hj (by omega), (Below.refl _ _).alloc (Nat.le_refl _) _⟩
  case round =>
    obtain ⟨i, hi, rfl, hgood, hb⟩ := hrel
    by_cases hlt : i < n
    · obtain ⟨r, hr⟩ : ∃ r, l[i]? = some r := ⟨_, List.getElem?_eq_getElem (by have := H.out.2.1; omega)⟩
      obtain ⟨bb, off, rfl, hbl, hc⟩ := H.out.1.below hb i r hr
      have hok := H.out.2.2.2 r (List.mem_of_getElem? hr)
      have q0 : wr.cell? ⟨bb, off + i * 7, none⟩ = some (.string r.who) := hc 0 (by omega)
      have q1 : wr.cell? ⟨bb, off + i * 7 + 1, none⟩ = some (.string r.word) := hc 1 (by omega)
      have hw1 := hok.1
      have hw2 := hok.2
      have hgood' : fewR r = true → ∀ j, j < i + 1 → ∀ r, l[j]? = some r → fewR r = true := fun hf j hj y hy => by
        by_cases e : j = i
        · subst e; rw [hr] at hy; injection hy with hy; subst hy; exact hf
        · exact hgood j (by omega) y hy
      have hbad : fewR r = false → Rz = false := fun hf => by
        rw [HA.out, List.all_eq_false]
        exact ⟨r, List.mem_of_getElem? hr, by rw [hf]; decide⟩
      have HG := Lib.hid (And.intro hgood' (And.intro hbad hb))
      clear hgood hgood' hbad hb hr hc hok
      by_cases k1 : r.who.size ≤ 100
      · have y1 : ¬ ((100 : Int) < (r.who.size : Int)) := by omega
        by_cases k2 : r.word.size ≤ 100
        · have y2 : ¬ ((100 : Int) < (r.word.size : Int)) := by omega
          have hf : fewR r = true := by unfold fewR; rw [decide_eq_true k1, decide_eq_true k2]; rfl
          have HF := Lib.hid hf
          clear k1 k2 hf
          go_wp2_with fail
          go_roundw
          case rel => exact ⟨i + 1, by omega, by go_num, HG.out.1 HF.out, HG.out.2.2⟩
          case measure => simp [intOf]; omega
        · have y2 : (100 : Int) < (r.word.size : Int) := by omega
          have hf : fewR r = false := by unfold fewR; rw [decide_eq_false k2, Bool.and_false]
          have HF := Lib.hid hf
          clear k1 k2 hf
          go_wp2_with fail
          go_ret
          exact ⟨by rw [HG.out.2.1 HF.out]; rfl, HG.out.2.2⟩
      · have y1 : (100 : Int) < (r.who.size : Int) := by omega
        have hf : fewR r = false := by unfold fewR; rw [decide_eq_false k1, Bool.false_and]
        have HF := Lib.hid hf
        clear k1 hf
        go_wp2_with fail
        go_ret
        exact ⟨by rw [HG.out.2.1 HF.out]; rfl, HG.out.2.2⟩
    · have hend : Rz = true := by
        rw [HA.out, List.all_eq_true]
        intro r hr
        obtain ⟨j, hj⟩ := List.mem_iff_getElem?.1 hr
        exact hgood j (by have := (List.getElem?_eq_some_iff.1 hj).1; have := H.out.2.1; omega) r hj
      have HE := Lib.hid (And.intro hend hb)
      clear hend hb hgood
      go_wp2_with fail
      go_ret
      exact ⟨by rw [HE.out.1]; rfl, HE.out.2⟩
set_option maxRecDepth 100000 in
set_option maxHeartbeats 1000000 in
theorem lref20_any (q : Py.Q) (w : World) : Calls Try.prog 15 #[qVal q] w fun e w' => e = .returned (qVal q) ∧ Below w.heap.size w w' := by
  obtain ⟨w1, hw1⟩ : ∃ w1, w1 = (w.alloc (.cells (qCs q) 24)).alloc (.cells #[.int .i64 0, .string ⟨#[]⟩, .int .i64 0, .string ⟨#[]⟩, .int .i64 0] 36) := ⟨_, rfl⟩
  obtain ⟨gq, hgq⟩ : ∃ gq, gq = w.heap.size := ⟨_, rfl⟩
  obtain ⟨gr, hgr⟩ : ∃ gr, gr = w.heap.size + 1 := ⟨_, rfl⟩
  have hb1 : Below w.heap.size w w1 := by rw [hw1]; exact ((Below.refl _ _).alloc (Nat.le_refl _) _).alloc (by simp) _
  have a1 : w1.heap[gq]? = some (.cells (qCs q) 24 (0, 0)) := by
    rw [hw1, hgq]
    exact (heap_alloc_old _ _ (by simp)).trans (heap_alloc_new _ _)
  have a2 : w1.heap[gr]? = some (.cells #[.int .i64 0, .string ⟨#[]⟩, .int .i64 0, .string ⟨#[]⟩, .int .i64 0] 36 (0, 0)) := by rw [hw1, hgr]; exact alloc2_new _ _ _
  have hlo : w.heap.size ≤ gr := by omega
  have c0 : w1.cell? ⟨gq, 0, none⟩ = some (.int .i64 q.id) := by rw [cell_of_row _ _ _ _ _ _ a1]; rfl
  have c1 : w1.cell? ⟨gq, 1, none⟩ = some (.string q.who) := by rw [cell_of_row _ _ _ _ _ _ a1]; rfl
  have c2 : w1.cell? ⟨gq, 2, none⟩ = some (.int .i64 q.entry) := by rw [cell_of_row _ _ _ _ _ _ a1]; rfl
  have c3 : w1.cell? ⟨gq, 3, none⟩ = some (.string q.reason) := by rw [cell_of_row _ _ _ _ _ _ a1]; rfl
  have c4 : w1.cell? ⟨gq, 4, none⟩ = some (.int .i64 q.exp) := by rw [cell_of_row _ _ _ _ _ _ a1]; rfl
  have d0 : w1.cell? ⟨gr, 0, none⟩ = some (.int .i64 0) := by rw [cell_of_row _ _ _ _ _ _ a2]; rfl
  have d1 : w1.cell? ⟨gr, 1, none⟩ = some (.string ⟨#[]⟩) := by rw [cell_of_row _ _ _ _ _ _ a2]; rfl
  have d2 : w1.cell? ⟨gr, 2, none⟩ = some (.int .i64 0) := by rw [cell_of_row _ _ _ _ _ _ a2]; rfl
  have d3 : w1.cell? ⟨gr, 3, none⟩ = some (.string ⟨#[]⟩) := by rw [cell_of_row _ _ _ _ _ _ a2]; rfl
  have d4 : w1.cell? ⟨gr, 4, none⟩ = some (.int .i64 0) := by rw [cell_of_row _ _ _ _ _ _ a2]; rfl
  have fz : ∀ j, w1.frozen? ⟨gr, j, none⟩ = false := fun j => frozen_of_row _ _ _ _ _ a2
  obtain ⟨w9, hw9⟩ : ∃ z, z = (((((w1.setCell ⟨gr, 0, none⟩ (.int .i64 q.id)).setCell ⟨gr, 1, none⟩ (.string q.who)).setCell ⟨gr, 2, none⟩ (.int .i64 q.entry)).setCell ⟨gr, 3, none⟩ (.string q.reason)).setCell ⟨gr, 4, none⟩ (.int .i64 q.exp)) := ⟨_, rfl⟩
  have r9 : w9.heap[gr]? = some (.cells (qCs q) 36 (0, 0)) := by rw [hw9, heap_setCell_same _ _ _ _ _ _ (heap_setCell_same _ _ _ _ _ _ (heap_setCell_same _ _ _ _ _ _ (heap_setCell_same _ _ _ _ _ _ (heap_setCell_same _ _ _ _ _ _ a2))))]; rfl
  have G9 : Below w.heap.size w w9 := by rw [hw9]; exact Below.setCell (p := ⟨gr, 4, none⟩) (Below.setCell (p := ⟨gr, 3, none⟩) (Below.setCell (p := ⟨gr, 2, none⟩) (Below.setCell (p := ⟨gr, 1, none⟩) (Below.setCell (p := ⟨gr, 0, none⟩) (hb1) hlo _) hlo _) hlo _) hlo _) hlo _
  have e0 : w9.cell? ⟨gr, 0, none⟩ = some (.int .i64 q.id) := by rw [cell_of_row _ _ _ _ _ _ r9]; rfl
  have e1 : w9.cell? ⟨gr, 1, none⟩ = some (.string q.who) := by rw [cell_of_row _ _ _ _ _ _ r9]; rfl
  have e2 : w9.cell? ⟨gr, 2, none⟩ = some (.int .i64 q.entry) := by rw [cell_of_row _ _ _ _ _ _ r9]; rfl
  have e3 : w9.cell? ⟨gr, 3, none⟩ = some (.string q.reason) := by rw [cell_of_row _ _ _ _ _ _ r9]; rfl
  have e4 : w9.cell? ⟨gr, 4, none⟩ = some (.int .i64 q.exp) := by rw [cell_of_row _ _ _ _ _ _ r9]; rfl
  have HG := Lib.hid G9
  clear G9 a1 a2 r9 hb1 hlo
  unfold qCs at hw1
  unfold qVal
  go_enter Try.func15, Try.ntmps15
  go_upto_region 1 with fail
  rw [← hw1, ← hgr, ← hgq]
  clear hw1 hgq hgr
  go_wp2_with fail
  rw [← hw9]
  clear hw9
  go_wp2_with fail
  refine bodyPost_ret (v := .agg #[.int .i64 q.id, .string q.who, .int .i64 q.entry, .string q.reason, .int .i64 q.exp]) (by simp [results, Try.results15, go_sem, e0, e1, e2, e3, e4]) rfl ?_
  exact ⟨rfl, HG.out⟩
theorem ru_size (r : Py.R) : (ruCs r).size = 7 := rfl
theorem ru_one (r : Py.R) : ∀ u ∈ (ruCs r).toList, u.oneCell' = true := by
  intro u hu
  simp [ruCs] at hu
  rcases hu with rfl | rfl | rfl | rfl | rfl | rfl | rfl <;> rfl
theorem Try.rru_rec : RecT 49 34 7 72 (.agg #[.string ⟨#[]⟩, .string ⟨#[]⟩, .int .i64 0, .int .i64 0, .int .i64 0, .int .i64 0, .bool false]) := ⟨Try.underlying34, by kernel_rfl, rfl, by decide⟩
set_option maxRecDepth 100000 in
set_option maxHeartbeats 1000000 in
theorem refs20_any (l : List Py.R) (a0 : Option Addr) (cap : Nat) (w : World) (hT : RecsAt 7 ruCs w a0 l) (hm : l.length ≤ 1000000) :
    Calls Try.prog 14 #[.slice a0 l.length cap] w fun e w' => ∃ ad cp, e = .returned (.slice ad l.length cp) ∧ RecsAt 7 ruCs w' ad l ∧ Below w.heap.size w w' := by
  obtain ⟨n, hn⟩ : ∃ n, n = l.length := ⟨_, rfl⟩
  have H := Lib.hid (And.intro hT hn)
  rw [← hn] at hm ⊢
  clear hT hn
  go_enter Try.func14, Try.ntmps14
  go_wp2_with fail
  go_loopw [3, 4] (fun v c wr => ∃ (i : Nat) (ad : Option Addr) (cp : Nat), i ≤ n ∧ c = .int .i64 (i : Int) ∧ v = .slice ad i cp ∧ OwnR 49 7 ruCs w.heap.size wr ad cp (l.take i) ∧ Below w.heap.size w wr) (fun _ c _ => n - (intOf c).toNat)
  case atStart => exact ⟨0, none, 0, by omega, rfl, rfl, OwnR.nil _ _ _ _ _, Below.refl _ _⟩
  case round =>
    obtain ⟨i, ad, cp, hi, rfl, rfl, hO, hb⟩ := hrel
    have htk : (l.take i).length = i := by rw [List.length_take]; have := H.out.2; omega
    have HO := Lib.hid (And.intro hO (And.intro hb htk))
    by_cases hlt : i < n
    · obtain ⟨r, hx⟩ : ∃ r, l[i]? = some r := ⟨_, List.getElem?_eq_getElem (by have := H.out.2; omega)⟩
      obtain ⟨bb, off, rfl, hbl, hc⟩ := H.out.1.below hb i r hx
      have hzt : l.take (i + 1) = l.take i ++ [r] := by rw [List.take_add_one, hx]; rfl
      have HZ := Lib.hid hzt
      clear hO hb hx hzt htk
      have q0 : wr.cell? ⟨bb, off + i * 7, none⟩ = some (.string r.who) := hc 0 (by omega)
      have q1 : wr.cell? ⟨bb, off + i * 7 + 1, none⟩ = some (.string r.word) := hc 1 (by omega)
      have q2 : wr.cell? ⟨bb, off + i * 7 + 2, none⟩ = some (.int .i64 r.fr) := hc 2 (by omega)
      have q3 : wr.cell? ⟨bb, off + i * 7 + 3, none⟩ = some (.int .i64 r.to) := hc 3 (by omega)
      have q4 : wr.cell? ⟨bb, off + i * 7 + 4, none⟩ = some (.int .i64 r.un) := hc 4 (by omega)
      have q5 : wr.cell? ⟨bb, off + i * 7 + 5, none⟩ = some (.int .i64 r.mo) := hc 5 (by omega)
      have q6 : wr.cell? ⟨bb, off + i * 7 + 6, none⟩ = some (.bool r.allow) := hc 6 (by omega)
      clear hc
      go_wp2_with (at_builtin; (refine wpList_append_r rfl (.tmp 11) (.tmp 16) 34 rfl Try.rru_rec ru_one ru_size (HO.out.1.alloc _) i HO.out.2.2 rfl _ 1 r rfl (heap_alloc_new _ _) (by omega) (by have := HO.out.2.1.size; simp; omega) (HO.out.2.1.alloc HO.out.2.1.size _) ?_; intro g1 cap1 w5 ho hb5 hg5 hat5; have H5 := Lib.hid (And.intro ho hb5); clear ho hb5 hg5 hat5))
      go_roundw
      case rel => exact ⟨i + 1, _, _, by omega, by go_num, rfl, by rw [HZ.out]; exact H5.out.1, H5.out.2⟩
      case measure => simp [intOf]; omega
    · obtain rfl : n = i := by omega
      clear hO hb htk
      go_wp2_with fail
      go_ret
      exact ⟨_, _, rfl, by have := HO.out.1; rw [List.take_of_length_le (by have := H.out.2; omega)] at this; exact this.recs ru_size, HO.out.2.1⟩
theorem ErrAt.zero {w : World} {v : Value} (h : ErrAt w v 0) : v = .nilIface := by
  rcases h with ⟨-, h⟩ | ⟨h, -⟩
  · exact h
  · exact absurd rfl h
theorem ErrAt.some {w : World} {v : Value} {c : Int} (h : ErrAt w v c) (hc : c ≠ 0) : ∃ b op n, v = .iface 109 (.pointer (some ⟨b, 0, none⟩)) ∧ FaultAt w b op n c := by
  rcases h with ⟨h, -⟩ | ⟨-, h⟩
  · exact absurd h hc
  · exact h
/-- The page's rule and requests. -/
def bobR : Py.R := ⟨⟨#[98, 111, 98]⟩, ⟨#[]⟩, 0, 10, 9, 1, true⟩
def bobP : Py.Q := ⟨1, ⟨#[98, 111, 98]⟩, 4, ⟨#[]⟩, 9⟩
def aliP : Py.Q := ⟨2, ⟨#[97, 108, 105, 99, 101]⟩, 4, ⟨#[]⟩, 9⟩
theorem bob_dec : Py.decI [bobR] bobP 0 0 = (0, 0) := by kernel_rfl
theorem ali_dec : Py.decI [bobR] aliP 0 0 = (-1, 10) := by kernel_rfl
theorem bob_ful : Py.decI [bobR] bobP 0 1 = (0, 6) := by kernel_rfl
set_option maxRecDepth 100000 in
set_option maxHeartbeats 2000000 in
theorem awake20_any (w : World) : Calls Try.prog 11 #[] w fun e w' => e = .returned (.bool true) ∧ Below w.heap.size w w' := by
  obtain ⟨w1, hw1⟩ : ∃ w1, w1 = ((w.alloc (.cells (ruCs bobR) 46)).alloc (.cells (qCs bobP) 24)).alloc (.cells (qCs aliP) 24) := ⟨_, rfl⟩
  obtain ⟨g0, hg0⟩ : ∃ g, g = w.heap.size := ⟨_, rfl⟩
  obtain ⟨g1, hg1⟩ : ∃ g, g = w.heap.size + 1 := ⟨_, rfl⟩
  obtain ⟨g2, hg2⟩ : ∃ g, g = w.heap.size + 2 := ⟨_, rfl⟩
  have hb1 : Below w.heap.size w w1 := by rw [hw1]; exact (((Below.refl _ _).alloc (Nat.le_refl _) _).alloc (by simp) _).alloc (by simp; omega) _
  have e0 : w1.heap[g0]? = some (.cells (ruCs bobR) 46 (0, 0)) := by
    rw [hw1, hg0, heap_alloc_old _ _ (by simp; omega), heap_alloc_old _ _ (by simp)]
    exact heap_alloc_new _ _
  have e1 : w1.heap[g1]? = some (.cells (qCs bobP) 24 (0, 0)) := by
    rw [hw1, hg1, heap_alloc_old _ _ (by simp)]
    exact alloc2_new _ _ _
  have e2 : w1.heap[g2]? = some (.cells (qCs aliP) 24 (0, 0)) := by
    rw [hw1, hg2]
    have := heap_alloc_new ((w.alloc (.cells (ruCs bobR) 46)).alloc (.cells (qCs bobP) 24)) (.cells (qCs aliP) 24)
    simpa using this
  have hrl : ∀ W, Below w1.heap.size w1 W → RecsAt 7 ruCs W (some ⟨g0, 0, none⟩) [bobR] := fun W hb j x hj => by
    have hx := (hb.block g0 (pblt_of_heap e0)).trans e0
    cases j with
    | zero =>
      simp at hj
      subst hj
      exact ⟨g0, 0, rfl, pblt_of_heap hx, fun m hm => by simpa using cell_lit hx m⟩
    | succ j => simp at hj
  have hrs : ∀ r ∈ [bobR], RSz r := fun r hr => by simp at hr; subst hr; exact ⟨by decide, by decide⟩
  have hd1 := fun W (hb : Below w1.heap.size w1 W) => decide_any [bobR] (some ⟨g0, 0, none⟩) 1 bobP 0 0 hrs ⟨by decide, by decide⟩ W (hrl W hb) (by decide)
  have hd2 := fun W (hb : Below w1.heap.size w1 W) => decide_any [bobR] (some ⟨g0, 0, none⟩) 1 aliP 0 0 hrs ⟨by decide, by decide⟩ W (hrl W hb) (by decide)
  have hd3 := fun W (hb : Below w1.heap.size w1 W) => decide_any [bobR] (some ⟨g0, 0, none⟩) 1 bobP 0 1 hrs ⟨by decide, by decide⟩ W (hrl W hb) (by decide)
  have hq1 := fun W (hb : Below w1.heap.size w1 W) (m : Nat) => cell_lit ((hb.block g1 (pblt_of_heap e1)).trans e1) m
  have hq2 := fun W (hb : Below w1.heap.size w1 W) (m : Nat) => cell_lit ((hb.block g2 (pblt_of_heap e2)).trans e2) m
  rw [bob_dec] at hd1
  rw [ali_dec] at hd2
  rw [bob_ful] at hd3
  unfold qVal at hd1 hd2 hd3
  unfold bobP at hd1 hd3 hq1
  unfold aliP at hd2 hq2
  unfold DecPost at hd1 hd2 hd3
  simp only [List.length_cons, List.length_nil] at hd1 hd2 hd3
  have H := Lib.hid (And.intro hd1 (And.intro hd2 (And.intro hd3 (And.intro hq1 (And.intro hq2 hb1)))))
  clear hd1 hd2 hd3 hq1 hq2 hb1 hrl hrs e0 e1 e2
  unfold ruCs qCs bobR bobP aliP at hw1
  go_enter Try.func11, Try.ntmps11
  go_upto_region 4 with fail
  rw [← hw1, ← hg2, ← hg1, ← hg0]
  clear hw1 hg0 hg1 hg2
  have c0 : w1.cell? ⟨g1, 0, none⟩ = some (.int .i64 1) := H.out.2.2.2.1 w1 (Below.refl _ _) 0
  have c1 : w1.cell? ⟨g1, 1, none⟩ = some (.string ⟨#[98, 111, 98]⟩) := H.out.2.2.2.1 w1 (Below.refl _ _) 1
  have c2 : w1.cell? ⟨g1, 2, none⟩ = some (.int .i64 4) := H.out.2.2.2.1 w1 (Below.refl _ _) 2
  have c3 : w1.cell? ⟨g1, 3, none⟩ = some (.string ⟨#[]⟩) := H.out.2.2.2.1 w1 (Below.refl _ _) 3
  have c4 : w1.cell? ⟨g1, 4, none⟩ = some (.int .i64 9) := H.out.2.2.2.1 w1 (Below.refl _ _) 4
  go_wp2_with fail
  refine (H.out.1 _ (Below.refl _ _)).mono ?_
  rintro e w2 ⟨v2, rfl, hE2, hb2⟩
  obtain rfl := hE2.zero
  have H2 := Lib.hid hb2
  clear hb2 hE2 c0 c1 c2 c3 c4
  have c0 : w2.cell? ⟨g2, 0, none⟩ = some (.int .i64 2) := H.out.2.2.2.2.1 w2 (H2.out) 0
  have c1 : w2.cell? ⟨g2, 1, none⟩ = some (.string ⟨#[97, 108, 105, 99, 101]⟩) := H.out.2.2.2.2.1 w2 (H2.out) 1
  have c2 : w2.cell? ⟨g2, 2, none⟩ = some (.int .i64 4) := H.out.2.2.2.2.1 w2 (H2.out) 2
  have c3 : w2.cell? ⟨g2, 3, none⟩ = some (.string ⟨#[]⟩) := H.out.2.2.2.2.1 w2 (H2.out) 3
  have c4 : w2.cell? ⟨g2, 4, none⟩ = some (.int .i64 9) := H.out.2.2.2.2.1 w2 (H2.out) 4
  go_wp2_with fail
  refine (H.out.2.1 _ H2.out).mono ?_
  rintro e w3 ⟨v3, rfl, hE3, hb3⟩
  obtain ⟨f3, o3, n3, rfl, hf3⟩ := hE3.some (by decide)
  have H3 := Lib.hid (And.intro (H2.out.trans (hb3.mono H2.out.size)) hf3)
  clear hb3 hE3 hf3 c0 c1 c2 c3 c4
  have c0 : w3.cell? ⟨g1, 0, none⟩ = some (.int .i64 1) := H.out.2.2.2.1 w3 (H3.out.1) 0
  have c1 : w3.cell? ⟨g1, 1, none⟩ = some (.string ⟨#[98, 111, 98]⟩) := H.out.2.2.2.1 w3 (H3.out.1) 1
  have c2 : w3.cell? ⟨g1, 2, none⟩ = some (.int .i64 4) := H.out.2.2.2.1 w3 (H3.out.1) 2
  have c3 : w3.cell? ⟨g1, 3, none⟩ = some (.string ⟨#[]⟩) := H.out.2.2.2.1 w3 (H3.out.1) 3
  have c4 : w3.cell? ⟨g1, 4, none⟩ = some (.int .i64 9) := H.out.2.2.2.1 w3 (H3.out.1) 4
  go_wp2_with fail
  refine (H.out.2.2.1 _ H3.out.1).mono ?_
  rintro e w4 ⟨v4, rfl, hE4, hb4⟩
  obtain ⟨f4, o4, n4, rfl, hf4⟩ := hE4.some (by decide)
  have H4 := Lib.hid (And.intro (H3.out.1.trans (hb4.mono H3.out.1.size)) (And.intro (H3.out.2.below hb4) hf4))
  clear hb4 hE4 hf4 c0 c1 c2 c3 c4
  go_wp2_with fail
  refine (code_fault H4.out.2.1 (by decide) (by decide)).mono ?_
  rintro e w5 ⟨rfl, hww⟩
  cases hww
  go_wp2_with fail
  refine (code_fault H4.out.2.2 (by decide) (by decide)).mono ?_
  rintro e w6 ⟨rfl, hww⟩
  cases hww
  go_wp2_with fail
  go_ret
  exact ⟨rfl, H.out.2.2.2.2.2.trans (H4.out.1.mono H.out.2.2.2.2.2.size)⟩
end Go.Proofs.Ytnkkbinbeildmaa
