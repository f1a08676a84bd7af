/- request: Get, IDs, Open, Clone. -/
import Derived.Test.YtnkkbinbeildmabBkD
namespace Go.Proofs.Ytnkkbinbeildmab
open Go.RowKit
theorem alloc2_new (w : World) (o1 o2 : Obj) : ((w.alloc o1).alloc o2).heap[w.heap.size + 1]? = some o2 := by
  have := heap_alloc_new (w.alloc o1) o2
  simpa using this
def icl (n : Int) : Array Value := #[.int .i64 n]
theorem icl_size (n : Int) : (icl n).size = 1 := rfl
theorem icl_one (n : Int) : ∀ u ∈ (icl n).toList, u.oneCell' = true := by
  intro u hu
  simp [icl] at hu
  subst hu; rfl
theorem Try.icl_rec : RecT 3 38 1 8 (.int .i64 0) := ⟨Try.underlying38, by kernel_rfl, rfl, by decide⟩
variable {B b : Nat} {w : World} {R : Option Nat} {l : List En}

set_option maxRecDepth 100000 in
set_option maxHeartbeats 1000000 in
theorem BkAt.getNo (h : BkAt B w b R l) (id : Int) (hx : l[Bk.findN l id]? = none) : Calls Try.prog 6 #[.pointer (some ⟨b, 0, none⟩), .int .i64 id] w fun e w' => e = .returned (.tuple #[.agg #[.int .i64 0, .string ⟨#[]⟩, .int .i64 0, .string ⟨#[]⟩, .int .i64 0], .bool false]) ∧ Below w.heap.size w w' := by
  obtain ⟨w1, hw1⟩ : ∃ w1, w1 = w.alloc (.cells #[.int .i64 0, .string ⟨#[]⟩, .int .i64 0, .string ⟨#[]⟩, .int .i64 0] 23) := ⟨_, rfl⟩
  obtain ⟨gr, hgr⟩ : ∃ gr, gr = w.heap.size := ⟨_, rfl⟩
  have hb1 := box_below hw1
  have a1 : w1.heap[gr]? = some (.cells #[.int .i64 0, .string ⟨#[]⟩, .int .i64 0, .string ⟨#[]⟩, .int .i64 0] 23 (0, 0)) := by rw [hw1, hgr]; exact heap_alloc_new _ _
  have hget := (h.below hb1).get id
  rw [bIdx_no hx] at hget
  have hlo : w.heap.size ≤ gr := by omega
  have H := Lib.hid (And.intro hget (And.intro hb1 (And.intro a1 hlo)))
  clear hget hb1 a1 hlo h hx
  go_enter Try.func6, Try.ntmps6
  go_upto_region 1 with fail
  rw [← hw1, ← hgr]
  clear hw1 hgr
  go_wp2_with fail
  refine H.out.1.mono ?_
  rintro e w2 ⟨rfl, hb2⟩
  have a2 := (hb2.block gr (blt_of_heap H.out.2.2.1)).trans H.out.2.2.1
  have HB := Lib.hid (H.out.2.1.trans (hb2.mono H.out.2.1.size))
  clear hb2
  obtain ⟨w9, hw9⟩ : ∃ z, z = (((((w2.setCell ⟨gr, 0, none⟩ (.int .i64 0)).setCell ⟨gr, 1, none⟩ (.string ⟨#[]⟩)).setCell ⟨gr, 2, none⟩ (.int .i64 0)).setCell ⟨gr, 3, none⟩ (.string ⟨#[]⟩)).setCell ⟨gr, 4, none⟩ (.int .i64 0)) := ⟨_, rfl⟩
  have r9 : w9.heap[gr]? = some (.cells #[.int .i64 0, .string ⟨#[]⟩, .int .i64 0, .string ⟨#[]⟩, .int .i64 0] 23 (0, 0)) := by rw [hw9, heap_setCell_same _ _ _ _ _ _ (heap_setCell_same _ _ _ _ _ _ (heap_setCell_same _ _ _ _ _ _ (heap_setCell_same _ _ _ _ _ _ (heap_setCell_same _ _ _ _ _ _ a2))))]; rfl
  have G9 : Below w.heap.size w w9 := by rw [hw9]; exact Below.setCell (p := ⟨gr, 4, none⟩) (Below.setCell (p := ⟨gr, 3, none⟩) (Below.setCell (p := ⟨gr, 2, none⟩) (Below.setCell (p := ⟨gr, 1, none⟩) (Below.setCell (p := ⟨gr, 0, none⟩) (HB.out) H.out.2.2.2 _) H.out.2.2.2 _) H.out.2.2.2 _) H.out.2.2.2 _) H.out.2.2.2 _
  have d0 : w2.cell? ⟨gr, 0, none⟩ = some (.int .i64 0) := by rw [cell_of_row _ _ _ _ _ _ a2]; rfl
  have d1 : w2.cell? ⟨gr, 1, none⟩ = some (.string ⟨#[]⟩) := by rw [cell_of_row _ _ _ _ _ _ a2]; rfl
  have d2 : w2.cell? ⟨gr, 2, none⟩ = some (.int .i64 0) := by rw [cell_of_row _ _ _ _ _ _ a2]; rfl
  have d3 : w2.cell? ⟨gr, 3, none⟩ = some (.string ⟨#[]⟩) := by rw [cell_of_row _ _ _ _ _ _ a2]; rfl
  have d4 : w2.cell? ⟨gr, 4, none⟩ = some (.int .i64 0) := by rw [cell_of_row _ _ _ _ _ _ a2]; rfl
  have fz : ∀ j, w2.frozen? ⟨gr, j, none⟩ = false := fun j => frozen_of_row _ _ _ _ _ a2
  have e0 : w9.cell? ⟨gr, 0, none⟩ = some (.int .i64 0) := by rw [cell_of_row _ _ _ _ _ _ r9]; rfl
  have e1 : w9.cell? ⟨gr, 1, none⟩ = some (.string ⟨#[]⟩) := by rw [cell_of_row _ _ _ _ _ _ r9]; rfl
  have e2 : w9.cell? ⟨gr, 2, none⟩ = some (.int .i64 0) := by rw [cell_of_row _ _ _ _ _ _ r9]; rfl
  have e3 : w9.cell? ⟨gr, 3, none⟩ = some (.string ⟨#[]⟩) := by rw [cell_of_row _ _ _ _ _ _ r9]; rfl
  have e4 : w9.cell? ⟨gr, 4, none⟩ = some (.int .i64 0) := by rw [cell_of_row _ _ _ _ _ _ r9]; rfl
  have HG := Lib.hid G9
  clear G9 a2 r9
  go_wp2_with fail
  rw [← hw9]
  clear hw9
  go_wp2_with fail
  refine bodyPost_ret (v := .tuple #[.agg #[.int .i64 0, .string ⟨#[]⟩, .int .i64 0, .string ⟨#[]⟩, .int .i64 0], .bool false]) (by simp [results, Try.results6, go_sem, e0, e1, e2, e3, e4]) rfl ?_
  exact ⟨rfl, HG.out⟩
set_option maxRecDepth 100000 in
set_option maxHeartbeats 1000000 in
theorem BkAt.getAt (h : BkAt B w b R l) (id : Int) {x : En} (hx : l[Bk.findN l id]? = some x) (hw : x.q.who.size ≤ 281474976710656) (hr : x.q.reason.size ≤ 281474976710656) : Calls Try.prog 6 #[.pointer (some ⟨b, 0, none⟩), .int .i64 id] w fun e w' => e = .returned (.tuple #[qVal x.q, .bool true]) ∧ Below w.heap.size w w' := by
  obtain ⟨w1, hw1⟩ : ∃ w1, w1 = w.alloc (.cells #[.int .i64 0, .string ⟨#[]⟩, .int .i64 0, .string ⟨#[]⟩, .int .i64 0] 23) := ⟨_, rfl⟩
  obtain ⟨gr, hgr⟩ : ∃ gr, gr = w.heap.size := ⟨_, rfl⟩
  have hb1 := box_below hw1
  have a1 : w1.heap[gr]? = some (.cells #[.int .i64 0, .string ⟨#[]⟩, .int .i64 0, .string ⟨#[]⟩, .int .i64 0] 23 (0, 0)) := by rw [hw1, hgr]; exact heap_alloc_new _ _
  have hget := (h.below hb1).get id
  have hlt := (List.getElem?_eq_some_iff.1 hx).1
  rw [bIdx_at hx] at hget
  have hopen := fun (W : World) (hb : Below w.heap.size w W) => (h.below hb).at hx
  have hcopy := fun W => bcopied_any x.q hw hr W
  have hlo : w.heap.size ≤ gr := by omega
  obtain ⟨-, -, -, -, hmx⟩ := h.open
  obtain ⟨i, hi⟩ : ∃ i, i = Bk.findN l id := ⟨_, rfl⟩
  obtain ⟨n, hln⟩ : ∃ n, n = l.length := ⟨_, rfl⟩
  rw [← hi] at hget hlt hopen
  rw [← hln] at hlt hopen hmx
  unfold qVal at hcopy ⊢
  have H := Lib.hid (And.intro hget (And.intro hb1 (And.intro a1 (And.intro hopen (And.intro hcopy hlo)))))
  clear hget hb1 a1 hopen hcopy hlo h hx hi hln hw hr
  go_enter Try.func6, Try.ntmps6
  go_upto_region 1 with fail
  rw [← hw1, ← hgr]
  clear hw1 hgr
  go_wp2_with fail
  refine H.out.1.mono ?_
  rintro e w2 ⟨rfl, hb2⟩
  have HB := Lib.hid (H.out.2.1.trans (hb2.mono H.out.2.1.size))
  have A2 := Lib.hid ((hb2.block gr (blt_of_heap H.out.2.2.1)).trans H.out.2.2.1)
  clear hb2
  obtain ⟨g, cap, -, hc, hgl, -, -, q0, q1, q2, q3, q4, q5⟩ := H.out.2.2.2.1 w2 HB.out
  go_wp2_with fail
  refine (H.out.2.2.2.2.1 _).mono ?_
  rintro e w3 ⟨rfl, hb3⟩
  clear hc hgl q0 q1 q2 q3 q4 q5
  have a3 := (hb3.block gr (blt_of_heap A2.out)).trans A2.out
  have HB3 := Lib.hid (HB.out.trans (hb3.mono HB.out.size))
  clear hb3
  obtain ⟨w9, hw9⟩ : ∃ z, z = (((((w3.setCell ⟨gr, 0, none⟩ (.int .i64 x.q.id)).setCell ⟨gr, 1, none⟩ (.string x.q.who)).setCell ⟨gr, 2, none⟩ (.int .i64 x.q.entry)).setCell ⟨gr, 3, none⟩ (.string x.q.reason)).setCell ⟨gr, 4, none⟩ (.int .i64 x.q.exp)) := ⟨_, rfl⟩
  have r9 : w9.heap[gr]? = some (.cells (qCs x.q) 23 (0, 0)) := by rw [hw9, heap_setCell_same _ _ _ _ _ _ (heap_setCell_same _ _ _ _ _ _ (heap_setCell_same _ _ _ _ _ _ (heap_setCell_same _ _ _ _ _ _ (heap_setCell_same _ _ _ _ _ _ a3))))]; rfl
  have G9 : Below w.heap.size w w9 := by rw [hw9]; exact Below.setCell (p := ⟨gr, 4, none⟩) (Below.setCell (p := ⟨gr, 3, none⟩) (Below.setCell (p := ⟨gr, 2, none⟩) (Below.setCell (p := ⟨gr, 1, none⟩) (Below.setCell (p := ⟨gr, 0, none⟩) (HB3.out) H.out.2.2.2.2.2 _) H.out.2.2.2.2.2 _) H.out.2.2.2.2.2 _) H.out.2.2.2.2.2 _) H.out.2.2.2.2.2 _
  have d0 : w3.cell? ⟨gr, 0, none⟩ = some (.int .i64 0) := by rw [cell_of_row _ _ _ _ _ _ a3]; rfl
  have d1 : w3.cell? ⟨gr, 1, none⟩ = some (.string ⟨#[]⟩) := by rw [cell_of_row _ _ _ _ _ _ a3]; rfl
  have d2 : w3.cell? ⟨gr, 2, none⟩ = some (.int .i64 0) := by rw [cell_of_row _ _ _ _ _ _ a3]; rfl
  have d3 : w3.cell? ⟨gr, 3, none⟩ = some (.string ⟨#[]⟩) := by rw [cell_of_row _ _ _ _ _ _ a3]; rfl
  have d4 : w3.cell? ⟨gr, 4, none⟩ = some (.int .i64 0) := by rw [cell_of_row _ _ _ _ _ _ a3]; rfl
  have fz : ∀ j, w3.frozen? ⟨gr, j, none⟩ = false := fun j => frozen_of_row _ _ _ _ _ a3
  have e0 : w9.cell? ⟨gr, 0, none⟩ = some (.int .i64 x.q.id) := by rw [cell_of_row _ _ _ _ _ _ r9]; rfl
  have e1 : w9.cell? ⟨gr, 1, none⟩ = some (.string x.q.who) := by rw [cell_of_row _ _ _ _ _ _ r9]; rfl
  have e2 : w9.cell? ⟨gr, 2, none⟩ = some (.int .i64 x.q.entry) := by rw [cell_of_row _ _ _ _ _ _ r9]; rfl
  have e3 : w9.cell? ⟨gr, 3, none⟩ = some (.string x.q.reason) := by rw [cell_of_row _ _ _ _ _ _ r9]; rfl
  have e4 : w9.cell? ⟨gr, 4, none⟩ = some (.int .i64 x.q.exp) := by rw [cell_of_row _ _ _ _ _ _ r9]; rfl
  have HG := Lib.hid G9
  clear G9 a3 r9
  go_wp2_with fail
  rw [← hw9]
  clear hw9
  go_wp2_with fail
  refine bodyPost_ret (v := .tuple #[.agg #[.int .i64 x.q.id, .string x.q.who, .int .i64 x.q.entry, .string x.q.reason, .int .i64 x.q.exp], .bool true]) (by simp [results, Try.results6, go_sem, e0, e1, e2, e3, e4]) rfl ?_
  exact ⟨rfl, HG.out⟩
set_option maxRecDepth 100000 in
set_option maxHeartbeats 2000000 in
theorem BkAt.ids (h : BkAt B w b R l) (hm : l.length ≤ 1000000) : Calls Try.prog 11 #[.pointer (some ⟨b, 0, none⟩)] w fun e w' => ∃ ad cap, e = .returned (.slice ad l.length cap) ∧ OwnR 3 1 icl w.heap.size w' ad cap (l.map fun x => x.q.id) ∧ Below w.heap.size w w' := by
  obtain ⟨a0, c0, h1, hT, -, -⟩ := h.open
  have hall := ball_any h1
  obtain ⟨n, hn⟩ : ∃ n, n = l.length := ⟨_, rfl⟩
  rw [← hn] at hm hall ⊢
  have H := Lib.hid (And.intro hall (And.intro hT hn))
  clear hall hT h1 h hn
  go_enter Try.func11, Try.ntmps11
  go_wp2_with fail
  refine H.out.1.mono ?_
  rintro e w1 ⟨rfl, hww⟩
  cases hww
  go_wp2_with fail
  go_loopw [3, 5, 9] (fun v _ c wr => ∃ (i : Nat) (ad : Option Addr) (cap : Nat), i ≤ n ∧ c = .int .i64 (i : Int) ∧ v = .slice ad i cap ∧ OwnR 3 1 icl w.heap.size wr ad cap ((l.take i).map fun x => x.q.id) ∧ Below w.heap.size w wr) (fun _ _ c _ => n - (intOf c).toNat)
  case atStart => exact ⟨0, none, 0, by omega, rfl, rfl, OwnR.nil _ _ _ _ _, Below.refl _ _⟩
  case round =>
    obtain ⟨i, ad, cap, hi, rfl, rfl, hO, hb⟩ := hrel
    have HO := Lib.hid (And.intro hO hb)
    by_cases hlt : i < n
    · obtain ⟨x, hx⟩ : ∃ x, l[i]? = some x := ⟨_, List.getElem?_eq_getElem (by have := H.out.2.2; omega)⟩
      obtain ⟨bb, off, rfl, hbl, hc⟩ := H.out.2.1.below hb i x hx
      have m1 : ¬ bb = wr.heap.size := by omega
      have m2 : ¬ wr.heap.size = bb := by omega
      have HX := Lib.hid hx
      clear hO hb hx
      have q0 : wr.cell? ⟨bb, off + i * 6 + 0, none⟩ = some (.int .i64 x.q.id) := hc 0 (by omega)
      have q1 : wr.cell? ⟨bb, off + i * 6 + 1, none⟩ = some (.string x.q.who) := hc 1 (by omega)
      have q2 : wr.cell? ⟨bb, off + i * 6 + 2, none⟩ = some (.int .i64 x.q.entry) := hc 2 (by omega)
      have q3 : wr.cell? ⟨bb, off + i * 6 + 3, none⟩ = some (.string x.q.reason) := hc 3 (by omega)
      have q4 : wr.cell? ⟨bb, off + i * 6 + 4, none⟩ = some (.int .i64 x.q.exp) := hc 4 (by omega)
      have q5 : wr.cell? ⟨bb, off + i * 6 + 5, none⟩ = some (.int .i64 x.st) := hc 5 (by omega)
      simp only [Nat.add_zero] at q0
      clear hc
      go_wp2_with (at_builtin; (refine wpList_append_r rfl (.tmp 13) (.tmp 17) 38 rfl Try.icl_rec icl_one icl_size ((HO.out.1.alloc _).alloc _) i (by rw [List.length_map, List.length_take]; have := H.out.2.2; omega) rfl _ 1 x.q.id rfl (alloc2_new _ _ _) (by omega) (by have := HO.out.2.size; simp; omega) ((HO.out.2.alloc HO.out.2.size _).alloc (by have := HO.out.2.size; simp; omega) _) ?_; intro g1 cap1 w5 ho hb5 hg5 hat5; have H5 := Lib.hid (And.intro ho hb5); clear ho hb5 hg5 hat5))
      go_roundw
      case rel => exact ⟨i + 1, _, _, by omega, by go_num, rfl, by rw [List.take_add_one, HX.out, List.map_append]; exact H5.out.1, H5.out.2⟩
      case measure => simp [intOf]; omega
    · obtain rfl : n = i := by omega
      clear hO hb
      go_wp2_with fail
      go_ret
      exact ⟨_, _, rfl, by have := HO.out.1; rw [List.take_of_length_le (by have := H.out.2.2; omega)] at this; exact this, HO.out.2⟩
theorem openN_step {l : List En} {i : Nat} {x : En} (hx : l[i]? = some x) (who : ByteArray) (now : Int) : Bk.openN (l.take (i + 1)) who now = Bk.openN (l.take i) who now + (if (decide (x.q.who = who) && decide (Bk.atI x now = 1)) = true then 1 else 0) := by
  unfold Bk.openN
  rw [List.take_add_one, hx, List.filter_append, List.length_append]
  congr 1
  simp only [Option.toList_some, List.filter_cons, List.filter_nil]
  split <;> rfl
theorem openN_le (l : List En) (who : ByteArray) (now : Int) : Bk.openN l who now ≤ l.length := List.length_filter_le _ _
set_option maxRecDepth 100000 in
set_option maxHeartbeats 2000000 in
theorem BkAt.opens (h : BkAt B w b R l) (hm : l.length ≤ 1000000) (who : ByteArray) (now : Int) : Calls Try.prog 10 #[.pointer (some ⟨b, 0, none⟩), .string who, .int .i64 now] w fun e w' => e = .returned (.int .i64 (Bk.openN l who now : Nat)) ∧ Below w.heap.size w w' := by
  obtain ⟨a0, c0, h1, hT, -, -⟩ := h.open
  have hall := ball_any h1
  obtain ⟨n, hn⟩ : ∃ n, n = l.length := ⟨_, rfl⟩
  obtain ⟨Rz, hR⟩ : ∃ Rz, Rz = Bk.openN l who now := ⟨_, rfl⟩
  rw [← hR]
  rw [← hn] at hm hall
  have H := Lib.hid (And.intro hall (And.intro hT (And.intro hn hR)))
  clear hall hT h1 h hn hR
  go_enter Try.func10, Try.ntmps10
  go_wp2_with fail
  refine H.out.1.mono ?_
  rintro e w1 ⟨rfl, hww⟩
  cases hww
  go_wp2_with fail
  go_loopw [7, 9, 13] (fun v _ c wr => ∃ (i k : Nat), i ≤ n ∧ c = .int .i64 (i : Int) ∧ v = .int .i64 (k : Int) ∧ k ≤ i ∧ k = Bk.openN (l.take i) who now ∧ Below w.heap.size w wr) (fun _ _ c _ => n - (intOf c).toNat)
  case atStart => exact ⟨0, 0, by omega, rfl, rfl, by omega, rfl, Below.refl _ _⟩
  case round =>
    obtain ⟨i, k, hi, rfl, rfl, hki, hk, hb⟩ := hrel
    by_cases hlt : i < n
    · obtain ⟨x, hx⟩ : ∃ x, l[i]? = some x := ⟨_, List.getElem?_eq_getElem (by have := H.out.2.2.1; omega)⟩
      obtain ⟨bb, off, rfl, hbl, hc⟩ := H.out.2.1.below hb i x hx
      have hstep := openN_step hx who now
      rw [← hk] at hstep
      have m1 : ¬ bb = wr.heap.size := by omega
      have m2 : ¬ wr.heap.size = bb := by omega
      have hat := fun W => bat_any x now W
      unfold enVal at hat
      have HB := Lib.hid (And.intro hb hat)
      clear hb hx hk hat
      have q0 : wr.cell? ⟨bb, off + i * 6 + 0, none⟩ = some (.int .i64 x.q.id) := hc 0 (by omega)
      have q1 : wr.cell? ⟨bb, off + i * 6 + 1, none⟩ = some (.string x.q.who) := hc 1 (by omega)
      have q2 : wr.cell? ⟨bb, off + i * 6 + 2, none⟩ = some (.int .i64 x.q.entry) := hc 2 (by omega)
      have q3 : wr.cell? ⟨bb, off + i * 6 + 3, none⟩ = some (.string x.q.reason) := hc 3 (by omega)
      have q4 : wr.cell? ⟨bb, off + i * 6 + 4, none⟩ = some (.int .i64 x.q.exp) := hc 4 (by omega)
      have q5 : wr.cell? ⟨bb, off + i * 6 + 5, none⟩ = some (.int .i64 x.st) := hc 5 (by omega)
      simp only [Nat.add_zero] at q0
      clear hc
      by_cases hw : x.q.who = who
      · have gw : (x.q.who.toList == who.toList) = true := peq_toList hw
        rw [decide_eq_true hw, Bool.true_and] at hstep
        by_cases h1 : Bk.atI x now = 1
        · have g1 : (Bk.atI x now == 1) = true := by simpa using h1
          rw [decide_eq_true h1, if_pos rfl] at hstep
          have HS := Lib.hid hstep
          clear hstep hw h1
          go_wp2_with fail
          refine (HB.out.2 _).mono ?_
          rintro e w3 ⟨rfl, hb3⟩
          have HB3 := Lib.hid ((HB.out.1.alloc HB.out.1.size _).trans (hb3.mono (HB.out.1.alloc HB.out.1.size _).size))
          clear hb3
          go_wp2_with fail
          go_roundw
          case rel => exact ⟨i + 1, k + 1, by omega, by go_num, by go_num, by omega, HS.out.symm, HB3.out⟩
          case measure => simp [intOf]; omega
        · have g1 : (Bk.atI x now == 1) = false := by simpa using h1
          rw [decide_eq_false h1, if_neg (by decide)] at hstep
          have HS := Lib.hid hstep
          clear hstep hw h1
          go_wp2_with fail
          refine (HB.out.2 _).mono ?_
          rintro e w3 ⟨rfl, hb3⟩
          have HB3 := Lib.hid ((HB.out.1.alloc HB.out.1.size _).trans (hb3.mono (HB.out.1.alloc HB.out.1.size _).size))
          clear hb3
          go_wp2_with fail
          go_roundw
          case rel => exact ⟨i + 1, k, by omega, by go_num, rfl, by omega, HS.out.symm, HB3.out⟩
          case measure => simp [intOf]; omega
      · have gw : (x.q.who.toList == who.toList) = false := pne_toList hw
        rw [decide_eq_false hw, Bool.false_and, if_neg (by decide)] at hstep
        have HS := Lib.hid hstep
        clear hstep hw
        go_wp2_with fail
        go_roundw
        case rel => exact ⟨i + 1, k, by omega, by go_num, rfl, by omega, HS.out.symm, HB.out.1.alloc HB.out.1.size _⟩
        case measure => simp [intOf]; omega
    · obtain rfl : n = i := by omega
      have hend : k = Rz := by
        have h3 := H.out.2.2.2
        rw [List.take_of_length_le (by have := H.out.2.2.1; omega)] at hk
        exact hk.trans h3.symm
      have HB := Lib.hid (And.intro hb hend)
      clear hb hk hend
      go_wp2_with fail
      go_ret
      exact ⟨by rw [← HB.out.2]; rfl, HB.out.1⟩
set_option maxRecDepth 100000 in
set_option maxHeartbeats 4000000 in
theorem BkAt.clone (h : BkAt B w b R l) (hm : l.length ≤ 1000000) (hsz : ∀ x ∈ l, x.q.who.size ≤ 1000000 ∧ x.q.reason.size ≤ 1000000) : Calls Try.prog 12 #[.pointer (some ⟨b, 0, none⟩)] w fun e w' => ∃ g R', e = .returned (.pointer (some ⟨g, 0, none⟩)) ∧ BkAt w.heap.size w' g R' l ∧ Below w.heap.size w w' := by
  have hopen := fun (W : World) (hb : Below w.heap.size w W) => (h.below hb).open
  obtain ⟨a0, cap0, h1, hT, hbl, hmx⟩ := h.open
  have hcell := fun (W : World) (hb : Below w.heap.size w W) => (hb.cell (p := ⟨b, 0, none⟩) hbl).trans h1
  obtain ⟨n, hn⟩ : ∃ n, n = l.length := ⟨_, rfl⟩
  rw [← hn] at hm hcell
  have hcopy := fun (x : En) (hx : x ∈ l) (W : World) => bcopied_any x.q (by have := (hsz x hx).1; omega) (by have := (hsz x hx).2; omega) W
  unfold qVal at hcopy
  have H := Lib.hid (And.intro hcell (And.intro hT (And.intro hn hcopy)))
  clear hopen hcell hT h1 h hn hcopy hmx hsz hbl
  obtain ⟨nb, hnb⟩ : ∃ nb, nb = w.heap.size := ⟨_, rfl⟩
  have hnew := bnew_any w
  rw [← hnb] at hnew
  have HNb := Lib.hid (And.intro hnew hnb.symm)
  clear hnew hnb
  go_enter Try.func12, Try.ntmps12
  go_wp2_with fail
  refine HNb.out.1.mono ?_
  rintro e w1 ⟨rfl, hbk, hb1, -⟩
  rw [← HNb.out.2] at hb1
  have hc := H.out.1 w1 hb1
  have HB1 := Lib.hid (And.intro hbk hb1)
  clear hbk hb1
  go_wp2_with fail
  go_loopw [5, 14] (fun _ c wr => ∃ (i : Nat) (R' : Option Nat), i ≤ n ∧ c = .int .i64 (i : Int) ∧ BkAt w.heap.size wr nb R' (l.take i) ∧ Below w.heap.size w wr) (fun _ c _ => n - (intOf c).toNat)
  case atStart => exact ⟨0, none, by omega, rfl, HB1.out.1.mono (Nat.le_of_eq HNb.out.2), HB1.out.2⟩
  case round =>
    obtain ⟨i, R', hi, rfl, hbk, hb⟩ := hrel
    clear hc
    have HBK := Lib.hid (And.intro hbk hb)
    by_cases hlt : i < n
    · obtain ⟨x, hx⟩ : ∃ x, l[i]? = some x := ⟨_, List.getElem?_eq_getElem (by have := H.out.2.2.1; omega)⟩
      obtain ⟨bb, off, rfl, hbl, hc⟩ := H.out.2.1.below hb i x hx
      have m1 : ¬ bb = wr.heap.size := by omega
      have m2 : ¬ wr.heap.size = bb := by omega
      have hcp := H.out.2.2.2 x (List.mem_of_getElem? hx)
      have htk : (l.take i).length = i := by rw [List.length_take]; have := H.out.2.2.1; omega
      have htn : l.take (i + 1) = l.take i ++ [x] := by rw [List.take_add_one, hx]; rfl
      obtain ⟨T, hT⟩ : ∃ T, T = l.take i := ⟨_, rfl⟩
      rw [← hT] at htk htn HBK
      have HX := Lib.hid (And.intro htn (And.intro hcp htk))
      clear hbk hb hx hcp htk htn hT
      have q0 : wr.cell? ⟨bb, off + i * 6 + 0, none⟩ = some (.int .i64 x.q.id) := hc 0 (by omega)
      have q1 : wr.cell? ⟨bb, off + i * 6 + 1, none⟩ = some (.string x.q.who) := hc 1 (by omega)
      have q2 : wr.cell? ⟨bb, off + i * 6 + 2, none⟩ = some (.int .i64 x.q.entry) := hc 2 (by omega)
      have q3 : wr.cell? ⟨bb, off + i * 6 + 3, none⟩ = some (.string x.q.reason) := hc 3 (by omega)
      have q4 : wr.cell? ⟨bb, off + i * 6 + 4, none⟩ = some (.int .i64 x.q.exp) := hc 4 (by omega)
      have q5 : wr.cell? ⟨bb, off + i * 6 + 5, none⟩ = some (.int .i64 x.st) := hc 5 (by omega)
      simp only [Nat.add_zero] at q0
      clear hc
      obtain ⟨w2, hw2⟩ : ∃ w2, w2 = wr.alloc (.cells (enCs x) 47) := ⟨_, rfl⟩
      obtain ⟨ge, hge⟩ : ∃ ge, ge = wr.heap.size := ⟨_, rfl⟩
      have hb2 := box_below hw2
      have a2 : w2.heap[ge]? = some (.cells (enCs x) 47 (0, 0)) := by rw [hw2, hge]; exact heap_alloc_new _ _
      obtain ⟨hBb, ad, cap, e1, e2, e3⟩ := HBK.out.1.below hb2
      have hlb := HBK.out.1.lt
      have hfar := fun (g : Nat) (hg : R' = some g) => (HBK.out.1.row g hg).2.1
      have hgeb : ge ≠ nb := by omega
      have HW := Lib.hid (And.intro a2 (And.intro e1 (And.intro e2 (And.intro e3 (And.intro hBb (And.intro (HBK.out.2.trans (hb2.mono HBK.out.2.size)) (And.intro hgeb (show ∀ g, R' = some g → ge ≠ g from fun g hg => by have := hfar g hg; omega))))))))
      clear hb2 a2 e1 e2 e3 hBb hlb hfar hgeb
      unfold enCs at hw2
      go_upto_region 7 with fail
      rw [← hw2, ← hge]
      clear hw2 hge q0 q1 q2 q3 q4 q5 m1 m2 hbl
      refine wp_region_held (S := fun W : World => W.heap[ge]? = some (.cells (enCs x) 47 (0, 0))) (by kernel_rfl) ?_
      change wpAnyH _ _ _ _ _ _ _ _ (World.drew _)
      generalize hv0 : World.drew _ = v0
      have E0 : v0.heap[ge]? = some (.cells (enCs x) 47 (0, 0)) := by rw [← hv0]; exact HW.out.1
      have F0 : Below w2.heap.size w2 v0 := by rw [← hv0]; exact ((Below.refl _ _).drew)
      have LL : OwnR 47 6 enCs w.heap.size v0 ad cap T := by rw [← hv0]; exact HW.out.2.2.1
      have LB : v0.heap[nb]? = some (.cells #[.slice ad T.length cap] 50 (0, 0)) := by rw [← hv0]; exact HW.out.2.1
      clear hv0
      refine wpAnyH_take (i := 0) (v := ?_) rfl (by kernel_rfl) (by kernel_rfl) (by kernel_rfl) (fun _ _ _ h => h) (Or.inl ⟨by kernel_rfl, ?_⟩) E0 ?_
      rotate_left
      · (intro W hS; have k0 : W.cell? ⟨ge, 0, none⟩ = some (.int .i64 x.q.id) := (by rw [cell_of_row _ _ _ _ _ _ hS]; rfl); have k1 : W.cell? ⟨ge, 1, none⟩ = some (.string x.q.who) := (by rw [cell_of_row _ _ _ _ _ _ hS]; rfl); have k2 : W.cell? ⟨ge, 2, none⟩ = some (.int .i64 x.q.entry) := (by rw [cell_of_row _ _ _ _ _ _ hS]; rfl); have k3 : W.cell? ⟨ge, 3, none⟩ = some (.string x.q.reason) := (by rw [cell_of_row _ _ _ _ _ _ hS]; rfl); have k4 : W.cell? ⟨ge, 4, none⟩ = some (.int .i64 x.q.exp) := (by rw [cell_of_row _ _ _ _ _ _ hS]; rfl); have k5 : W.cell? ⟨ge, 5, none⟩ = some (.int .i64 x.st) := (by rw [cell_of_row _ _ _ _ _ _ hS]; rfl); go_simp; try (with_reducible rfl))
      refine wpAnyH_take (i := 1) (v := ?_) rfl (by kernel_rfl) (by kernel_rfl) (by kernel_rfl) (fun _ _ _ h => h) (Or.inl ⟨by kernel_rfl, ?_⟩) E0 ?_
      rotate_left
      · (intro W hS; have k0 : W.cell? ⟨ge, 0, none⟩ = some (.int .i64 x.q.id) := (by rw [cell_of_row _ _ _ _ _ _ hS]; rfl); have k1 : W.cell? ⟨ge, 1, none⟩ = some (.string x.q.who) := (by rw [cell_of_row _ _ _ _ _ _ hS]; rfl); have k2 : W.cell? ⟨ge, 2, none⟩ = some (.int .i64 x.q.entry) := (by rw [cell_of_row _ _ _ _ _ _ hS]; rfl); have k3 : W.cell? ⟨ge, 3, none⟩ = some (.string x.q.reason) := (by rw [cell_of_row _ _ _ _ _ _ hS]; rfl); have k4 : W.cell? ⟨ge, 4, none⟩ = some (.int .i64 x.q.exp) := (by rw [cell_of_row _ _ _ _ _ _ hS]; rfl); have k5 : W.cell? ⟨ge, 5, none⟩ = some (.int .i64 x.st) := (by rw [cell_of_row _ _ _ _ _ _ hS]; rfl); go_simp; try (with_reducible rfl))
      refine wpAnyH_take (i := 2) (v := ?_) rfl (by kernel_rfl) (by kernel_rfl) (by kernel_rfl) (fun _ _ _ h => h) (Or.inl ⟨by kernel_rfl, ?_⟩) E0 ?_
      rotate_left
      · (intro W hS; have k0 : W.cell? ⟨ge, 0, none⟩ = some (.int .i64 x.q.id) := (by rw [cell_of_row _ _ _ _ _ _ hS]; rfl); have k1 : W.cell? ⟨ge, 1, none⟩ = some (.string x.q.who) := (by rw [cell_of_row _ _ _ _ _ _ hS]; rfl); have k2 : W.cell? ⟨ge, 2, none⟩ = some (.int .i64 x.q.entry) := (by rw [cell_of_row _ _ _ _ _ _ hS]; rfl); have k3 : W.cell? ⟨ge, 3, none⟩ = some (.string x.q.reason) := (by rw [cell_of_row _ _ _ _ _ _ hS]; rfl); have k4 : W.cell? ⟨ge, 4, none⟩ = some (.int .i64 x.q.exp) := (by rw [cell_of_row _ _ _ _ _ _ hS]; rfl); have k5 : W.cell? ⟨ge, 5, none⟩ = some (.int .i64 x.st) := (by rw [cell_of_row _ _ _ _ _ _ hS]; rfl); go_simp; try (with_reducible rfl))
      refine wpAnyH_take (i := 3) (v := ?_) rfl (by kernel_rfl) (by kernel_rfl) (by kernel_rfl) (fun _ _ _ h => h) (Or.inl ⟨by kernel_rfl, ?_⟩) E0 ?_
      rotate_left
      · (intro W hS; have k0 : W.cell? ⟨ge, 0, none⟩ = some (.int .i64 x.q.id) := (by rw [cell_of_row _ _ _ _ _ _ hS]; rfl); have k1 : W.cell? ⟨ge, 1, none⟩ = some (.string x.q.who) := (by rw [cell_of_row _ _ _ _ _ _ hS]; rfl); have k2 : W.cell? ⟨ge, 2, none⟩ = some (.int .i64 x.q.entry) := (by rw [cell_of_row _ _ _ _ _ _ hS]; rfl); have k3 : W.cell? ⟨ge, 3, none⟩ = some (.string x.q.reason) := (by rw [cell_of_row _ _ _ _ _ _ hS]; rfl); have k4 : W.cell? ⟨ge, 4, none⟩ = some (.int .i64 x.q.exp) := (by rw [cell_of_row _ _ _ _ _ _ hS]; rfl); have k5 : W.cell? ⟨ge, 5, none⟩ = some (.int .i64 x.st) := (by rw [cell_of_row _ _ _ _ _ _ hS]; rfl); go_simp; try (with_reducible rfl))
      refine wpAnyH_take (i := 5) (v := ?_) rfl (by kernel_rfl) (by kernel_rfl) (by kernel_rfl) (fun _ _ _ h => h) (Or.inl ⟨by kernel_rfl, ?_⟩) E0 ?_
      rotate_left
      · (intro W hS; have k0 : W.cell? ⟨ge, 0, none⟩ = some (.int .i64 x.q.id) := (by rw [cell_of_row _ _ _ _ _ _ hS]; rfl); have k1 : W.cell? ⟨ge, 1, none⟩ = some (.string x.q.who) := (by rw [cell_of_row _ _ _ _ _ _ hS]; rfl); have k2 : W.cell? ⟨ge, 2, none⟩ = some (.int .i64 x.q.entry) := (by rw [cell_of_row _ _ _ _ _ _ hS]; rfl); have k3 : W.cell? ⟨ge, 3, none⟩ = some (.string x.q.reason) := (by rw [cell_of_row _ _ _ _ _ _ hS]; rfl); have k4 : W.cell? ⟨ge, 4, none⟩ = some (.int .i64 x.q.exp) := (by rw [cell_of_row _ _ _ _ _ _ hS]; rfl); have k5 : W.cell? ⟨ge, 5, none⟩ = some (.int .i64 x.st) := (by rw [cell_of_row _ _ _ _ _ _ hS]; rfl); go_simp; try (with_reducible rfl))
      refine wpAnyH_take (i := 6) (v := ?_) rfl (by kernel_rfl) (by kernel_rfl) (by kernel_rfl) (fun _ _ _ h => h) (Or.inl ⟨by kernel_rfl, ?_⟩) E0 ?_
      rotate_left
      · (intro W hS; have k0 : W.cell? ⟨ge, 0, none⟩ = some (.int .i64 x.q.id) := (by rw [cell_of_row _ _ _ _ _ _ hS]; rfl); have k1 : W.cell? ⟨ge, 1, none⟩ = some (.string x.q.who) := (by rw [cell_of_row _ _ _ _ _ _ hS]; rfl); have k2 : W.cell? ⟨ge, 2, none⟩ = some (.int .i64 x.q.entry) := (by rw [cell_of_row _ _ _ _ _ _ hS]; rfl); have k3 : W.cell? ⟨ge, 3, none⟩ = some (.string x.q.reason) := (by rw [cell_of_row _ _ _ _ _ _ hS]; rfl); have k4 : W.cell? ⟨ge, 4, none⟩ = some (.int .i64 x.q.exp) := (by rw [cell_of_row _ _ _ _ _ _ hS]; rfl); have k5 : W.cell? ⟨ge, 5, none⟩ = some (.int .i64 x.st) := (by rw [cell_of_row _ _ _ _ _ _ hS]; rfl); go_simp; try (with_reducible rfl))
      refine wpAnyH_take (i := 8) (v := ?_) rfl (by kernel_rfl) (by kernel_rfl) (by kernel_rfl) (fun _ _ _ h => h) (Or.inl ⟨by kernel_rfl, ?_⟩) E0 ?_
      rotate_left
      · (intro W hS; have k0 : W.cell? ⟨ge, 0, none⟩ = some (.int .i64 x.q.id) := (by rw [cell_of_row _ _ _ _ _ _ hS]; rfl); have k1 : W.cell? ⟨ge, 1, none⟩ = some (.string x.q.who) := (by rw [cell_of_row _ _ _ _ _ _ hS]; rfl); have k2 : W.cell? ⟨ge, 2, none⟩ = some (.int .i64 x.q.entry) := (by rw [cell_of_row _ _ _ _ _ _ hS]; rfl); have k3 : W.cell? ⟨ge, 3, none⟩ = some (.string x.q.reason) := (by rw [cell_of_row _ _ _ _ _ _ hS]; rfl); have k4 : W.cell? ⟨ge, 4, none⟩ = some (.int .i64 x.q.exp) := (by rw [cell_of_row _ _ _ _ _ _ hS]; rfl); have k5 : W.cell? ⟨ge, 5, none⟩ = some (.int .i64 x.st) := (by rw [cell_of_row _ _ _ _ _ _ hS]; rfl); go_simp; try (with_reducible rfl))
      refine wpAnyH_take (i := 9) (v := ?_) rfl (by kernel_rfl) (by kernel_rfl) (by kernel_rfl) (fun _ _ _ h => h) (Or.inl ⟨by kernel_rfl, ?_⟩) E0 ?_
      rotate_left
      · (intro W hS; have k0 : W.cell? ⟨ge, 0, none⟩ = some (.int .i64 x.q.id) := (by rw [cell_of_row _ _ _ _ _ _ hS]; rfl); have k1 : W.cell? ⟨ge, 1, none⟩ = some (.string x.q.who) := (by rw [cell_of_row _ _ _ _ _ _ hS]; rfl); have k2 : W.cell? ⟨ge, 2, none⟩ = some (.int .i64 x.q.entry) := (by rw [cell_of_row _ _ _ _ _ _ hS]; rfl); have k3 : W.cell? ⟨ge, 3, none⟩ = some (.string x.q.reason) := (by rw [cell_of_row _ _ _ _ _ _ hS]; rfl); have k4 : W.cell? ⟨ge, 4, none⟩ = some (.int .i64 x.q.exp) := (by rw [cell_of_row _ _ _ _ _ _ hS]; rfl); have k5 : W.cell? ⟨ge, 5, none⟩ = some (.int .i64 x.st) := (by rw [cell_of_row _ _ _ _ _ _ hS]; rfl); go_simp; try (with_reducible rfl))
      refine wpAnyH_ready (rs := [4, 7]) (by kernel_rfl) (by simp) ?_
      refine AllReadyH.cons (i := 4) rfl (fun K hK => ?_) (AllReadyH.cons (i := 7) rfl (fun K hK => ?_) AllReadyH.nil)
      · have qs : v0.cell? ⟨nb, 0, none⟩ = some (.slice ad T.length cap) := by rw [cell_of_row _ _ _ _ _ _ LB]; rfl
        go_simp
        refine hK.out _ _ E0 (fun _ => ?_)
        clear hK K qs
        refine wpAnyH_ready (rs := [7]) (by kernel_rfl) (by simp) ?_
        refine AllReadyH.cons (i := 7) rfl (fun K hK => ?_) AllReadyH.nil
        go_simp
        refine (HX.out.2.1 v0).mono ?_
        rintro e v1 ⟨rfl, hb⟩
        have F1 := F0.trans (hb.mono F0.size)
        have E1 : v1.heap[ge]? = some (.cells (enCs x) 47 (0, 0)) := (hb.block _ (blt_of_heap E0)).trans E0
        have LN := LL.call hb
        have LBn := (hb.block nb (blt_of_heap LB)).trans LB
        clear LL LB
        have LL := LN
        have LB := LBn
        clear LN LBn
        refine hK.out _ _ E1 (fun _ => ?_)
        clear hK K hb
        refine wpAnyH_take (i := 10) (v := ?_) rfl (by kernel_rfl) (by kernel_rfl) (by kernel_rfl) (fun _ _ _ h => h) (Or.inl ⟨by kernel_rfl, ?_⟩) E1 ?_
        rotate_left
        · (intro W hS; have k0 : W.cell? ⟨ge, 0, none⟩ = some (.int .i64 x.q.id) := (by rw [cell_of_row _ _ _ _ _ _ hS]; rfl); have k1 : W.cell? ⟨ge, 1, none⟩ = some (.string x.q.who) := (by rw [cell_of_row _ _ _ _ _ _ hS]; rfl); have k2 : W.cell? ⟨ge, 2, none⟩ = some (.int .i64 x.q.entry) := (by rw [cell_of_row _ _ _ _ _ _ hS]; rfl); have k3 : W.cell? ⟨ge, 3, none⟩ = some (.string x.q.reason) := (by rw [cell_of_row _ _ _ _ _ _ hS]; rfl); have k4 : W.cell? ⟨ge, 4, none⟩ = some (.int .i64 x.q.exp) := (by rw [cell_of_row _ _ _ _ _ _ hS]; rfl); have k5 : W.cell? ⟨ge, 5, none⟩ = some (.int .i64 x.st) := (by rw [cell_of_row _ _ _ _ _ _ hS]; rfl); go_simp; try (with_reducible rfl))
        refine wpAnyH_ready (rs := [11]) (by kernel_rfl) (by simp) ?_
        refine AllReadyH.cons (i := 11) rfl (fun K hK => ?_) AllReadyH.nil
        obtain ⟨v2, hv⟩ : ∃ v, v = v1.alloc (.cells (enCs x) 47) := ⟨_, rfl⟩
        have hb : Below v1.heap.size v1 v2 := by rw [hv]; exact (Below.refl _ _).alloc (Nat.le_refl _) _
        have g1 : v2.heap[v1.heap.size]? = some (.cells (enCs x) 47 (0, 0)) := by rw [hv]; exact heap_alloc_new _ _
        have F2 := F1.trans (hb.mono F1.size)
        have E2 : v2.heap[ge]? = some (.cells (enCs x) 47 (0, 0)) := (hb.block _ (blt_of_heap E1)).trans E1
        simp only [enCs] at hv
        go_simp
        rw [← hv]
        clear hv
        have LN := LL.call hb
        have LBn := (hb.block nb (blt_of_heap LB)).trans LB
        clear LL LB
        have LL := LN
        have LB := LBn
        clear LN LBn
        refine hK.out _ _ E2 (fun _ => ?_)
        clear hK K hb
        refine wpAnyH_ready (rs := [12]) (by kernel_rfl) (by simp) ?_
        refine AllReadyH.cons (i := 12) rfl (fun K hK => ?_) AllReadyH.nil
        refine step_append_r rfl (.tmp 22) (.tmp 29) 48 rfl Try.en_rec en_one en_size LL _ rfl (by kernel_rfl) _ 1 x (by kernel_rfl) g1 (by have := HX.out.2.2; omega) (Nat.le_trans HW.out.2.2.2.2.2.1.size F2.size) (Below.refl _ _) ?_
        intro z cq v3 ho hBe hg hat
        have hrow0 := (show BkAt w.heap.size v2 nb R' T from ⟨HW.out.2.2.2.2.1, ad, cap, LB, LL, HW.out.2.2.2.1⟩)
        have hgrew := BkAt.grew (x := x) LB LL HW.out.2.2.2.1 HW.out.2.2.2.2.1 ho hg hat
        have LB2 := (hg.block nb hrow0.lt (fun e => (hrow0.row nb (HW.out.2.2.2.1.trans e.symm)).2.2 rfl)).trans LB
        have EN : v3.heap[ge]? = some (.cells (enCs x) 47 (0, 0)) := (hg.block ge (blt_of_heap E2) (fun e => HW.out.2.2.2.2.2.2.2 ge (HW.out.2.2.2.1.trans e.symm) rfl)).trans E2
        have zf : v3.frozen? ⟨nb, 0, none⟩ = false := frozen_of_row _ _ _ _ _ LB2
        have z0 : v3.cell? ⟨nb, 0, none⟩ = some (.slice ad T.length cap) := by rw [cell_of_row _ _ _ _ _ _ LB2]; rfl
        obtain ⟨wz, hwz⟩ : ∃ wz, wz = v3.setCell ⟨nb, 0, none⟩ (.slice (some ⟨z, 0, none⟩) (T.length + 1) cq) := ⟨_, rfl⟩
        rw [← hwz] at hgrew
        have EY : wz.heap[ge]? = some (.cells (enCs x) 47 (0, 0)) := by rw [hwz]; exact (heap_setCell_other _ ⟨nb, 0, none⟩ ge _ HW.out.2.2.2.2.2.2.1).trans EN
        have hkb := KeptB.below hgrew.2.1 (HW.out.2.2.2.2.2.1.trans (F2.mono HW.out.2.2.2.2.2.1.size)) (Nat.le_trans HW.out.2.2.2.2.2.1.size F2.size) HW.out.2.2.2.2.1 (fun g hg => (hrow0.row g hg).1)
        have HN := Lib.hid (And.intro hgrew.1 hkb)
        clear hgrew hrow0 ho hBe hg hat LL LB LB2 F2 hkb
        refine hK.out _ _ EN (fun _ => ?_)
        clear hK K
        refine wpAnyH_take (i := 13) (v := ?_) rfl (by kernel_rfl) (by kernel_rfl) (by kernel_rfl) (fun _ _ _ h => h) (Or.inl ⟨by kernel_rfl, ?_⟩) EN ?_
        rotate_left
        · (intro W hS; have k0 : W.cell? ⟨ge, 0, none⟩ = some (.int .i64 x.q.id) := (by rw [cell_of_row _ _ _ _ _ _ hS]; rfl); have k1 : W.cell? ⟨ge, 1, none⟩ = some (.string x.q.who) := (by rw [cell_of_row _ _ _ _ _ _ hS]; rfl); have k2 : W.cell? ⟨ge, 2, none⟩ = some (.int .i64 x.q.entry) := (by rw [cell_of_row _ _ _ _ _ _ hS]; rfl); have k3 : W.cell? ⟨ge, 3, none⟩ = some (.string x.q.reason) := (by rw [cell_of_row _ _ _ _ _ _ hS]; rfl); have k4 : W.cell? ⟨ge, 4, none⟩ = some (.int .i64 x.q.exp) := (by rw [cell_of_row _ _ _ _ _ _ hS]; rfl); have k5 : W.cell? ⟨ge, 5, none⟩ = some (.int .i64 x.st) := (by rw [cell_of_row _ _ _ _ _ _ hS]; rfl); go_simp; try (with_reducible rfl))
        refine wpAnyH_take (i := 14) (v := ?_) rfl (by kernel_rfl) (by kernel_rfl) (by kernel_rfl) (fun _ _ _ h => h) (Or.inl ⟨by kernel_rfl, ?_⟩) EN ?_
        rotate_left
        · (intro W hS; have k0 : W.cell? ⟨ge, 0, none⟩ = some (.int .i64 x.q.id) := (by rw [cell_of_row _ _ _ _ _ _ hS]; rfl); have k1 : W.cell? ⟨ge, 1, none⟩ = some (.string x.q.who) := (by rw [cell_of_row _ _ _ _ _ _ hS]; rfl); have k2 : W.cell? ⟨ge, 2, none⟩ = some (.int .i64 x.q.entry) := (by rw [cell_of_row _ _ _ _ _ _ hS]; rfl); have k3 : W.cell? ⟨ge, 3, none⟩ = some (.string x.q.reason) := (by rw [cell_of_row _ _ _ _ _ _ hS]; rfl); have k4 : W.cell? ⟨ge, 4, none⟩ = some (.int .i64 x.q.exp) := (by rw [cell_of_row _ _ _ _ _ _ hS]; rfl); have k5 : W.cell? ⟨ge, 5, none⟩ = some (.int .i64 x.st) := (by rw [cell_of_row _ _ _ _ _ _ hS]; rfl); go_simp; try (with_reducible rfl))
        refine wpAnyH_ready (rs := [15]) (by kernel_rfl) (by simp) ?_
        refine AllReadyH.cons (i := 15) rfl (fun K hK => ?_) AllReadyH.nil
        go_simp
        rw [← hwz]
        refine hK.out _ _ EY (fun _ => ?_)
        clear hK K z0 zf EN hwz
        refine wpAnyH_done (by kernel_rfl) ?_ _
        go_simp
        go_wp2_with fail
        go_roundw
        case rel => exact ⟨i + 1, _, by omega, by go_num, by have := HN.out.1; rw [HX.out.1]; exact this, HN.out.2⟩
        case measure => simp [intOf]; omega
      · go_simp
        refine (HX.out.2.1 v0).mono ?_
        rintro e v1 ⟨rfl, hb⟩
        have F1 := F0.trans (hb.mono F0.size)
        have E1 : v1.heap[ge]? = some (.cells (enCs x) 47 (0, 0)) := (hb.block _ (blt_of_heap E0)).trans E0
        have LN := LL.call hb
        have LBn := (hb.block nb (blt_of_heap LB)).trans LB
        clear LL LB
        have LL := LN
        have LB := LBn
        clear LN LBn
        refine hK.out _ _ E1 (fun _ => ?_)
        clear hK K hb
        refine wpAnyH_take (i := 10) (v := ?_) rfl (by kernel_rfl) (by kernel_rfl) (by kernel_rfl) (fun _ _ _ h => h) (Or.inl ⟨by kernel_rfl, ?_⟩) E1 ?_
        rotate_left
        · (intro W hS; have k0 : W.cell? ⟨ge, 0, none⟩ = some (.int .i64 x.q.id) := (by rw [cell_of_row _ _ _ _ _ _ hS]; rfl); have k1 : W.cell? ⟨ge, 1, none⟩ = some (.string x.q.who) := (by rw [cell_of_row _ _ _ _ _ _ hS]; rfl); have k2 : W.cell? ⟨ge, 2, none⟩ = some (.int .i64 x.q.entry) := (by rw [cell_of_row _ _ _ _ _ _ hS]; rfl); have k3 : W.cell? ⟨ge, 3, none⟩ = some (.string x.q.reason) := (by rw [cell_of_row _ _ _ _ _ _ hS]; rfl); have k4 : W.cell? ⟨ge, 4, none⟩ = some (.int .i64 x.q.exp) := (by rw [cell_of_row _ _ _ _ _ _ hS]; rfl); have k5 : W.cell? ⟨ge, 5, none⟩ = some (.int .i64 x.st) := (by rw [cell_of_row _ _ _ _ _ _ hS]; rfl); go_simp; try (with_reducible rfl))
        refine wpAnyH_ready (rs := [4, 11]) (by kernel_rfl) (by simp) ?_
        refine AllReadyH.cons (i := 4) rfl (fun K hK => ?_) (AllReadyH.cons (i := 11) rfl (fun K hK => ?_) AllReadyH.nil)
        · have qs : v1.cell? ⟨nb, 0, none⟩ = some (.slice ad T.length cap) := by rw [cell_of_row _ _ _ _ _ _ LB]; rfl
          go_simp
          refine hK.out _ _ E1 (fun _ => ?_)
          clear hK K qs
          refine wpAnyH_ready (rs := [11]) (by kernel_rfl) (by simp) ?_
          refine AllReadyH.cons (i := 11) rfl (fun K hK => ?_) AllReadyH.nil
          obtain ⟨v2, hv⟩ : ∃ v, v = v1.alloc (.cells (enCs x) 47) := ⟨_, rfl⟩
          have hb : Below v1.heap.size v1 v2 := by rw [hv]; exact (Below.refl _ _).alloc (Nat.le_refl _) _
          have g1 : v2.heap[v1.heap.size]? = some (.cells (enCs x) 47 (0, 0)) := by rw [hv]; exact heap_alloc_new _ _
          have F2 := F1.trans (hb.mono F1.size)
          have E2 : v2.heap[ge]? = some (.cells (enCs x) 47 (0, 0)) := (hb.block _ (blt_of_heap E1)).trans E1
          simp only [enCs] at hv
          go_simp
          rw [← hv]
          clear hv
          have LN := LL.call hb
          have LBn := (hb.block nb (blt_of_heap LB)).trans LB
          clear LL LB
          have LL := LN
          have LB := LBn
          clear LN LBn
          refine hK.out _ _ E2 (fun _ => ?_)
          clear hK K hb
          refine wpAnyH_ready (rs := [12]) (by kernel_rfl) (by simp) ?_
          refine AllReadyH.cons (i := 12) rfl (fun K hK => ?_) AllReadyH.nil
          refine step_append_r rfl (.tmp 22) (.tmp 29) 48 rfl Try.en_rec en_one en_size LL _ rfl (by kernel_rfl) _ 1 x (by kernel_rfl) g1 (by have := HX.out.2.2; omega) (Nat.le_trans HW.out.2.2.2.2.2.1.size F2.size) (Below.refl _ _) ?_
          intro z cq v3 ho hBe hg hat
          have hrow0 := (show BkAt w.heap.size v2 nb R' T from ⟨HW.out.2.2.2.2.1, ad, cap, LB, LL, HW.out.2.2.2.1⟩)
          have hgrew := BkAt.grew (x := x) LB LL HW.out.2.2.2.1 HW.out.2.2.2.2.1 ho hg hat
          have LB2 := (hg.block nb hrow0.lt (fun e => (hrow0.row nb (HW.out.2.2.2.1.trans e.symm)).2.2 rfl)).trans LB
          have EN : v3.heap[ge]? = some (.cells (enCs x) 47 (0, 0)) := (hg.block ge (blt_of_heap E2) (fun e => HW.out.2.2.2.2.2.2.2 ge (HW.out.2.2.2.1.trans e.symm) rfl)).trans E2
          have zf : v3.frozen? ⟨nb, 0, none⟩ = false := frozen_of_row _ _ _ _ _ LB2
          have z0 : v3.cell? ⟨nb, 0, none⟩ = some (.slice ad T.length cap) := by rw [cell_of_row _ _ _ _ _ _ LB2]; rfl
          obtain ⟨wz, hwz⟩ : ∃ wz, wz = v3.setCell ⟨nb, 0, none⟩ (.slice (some ⟨z, 0, none⟩) (T.length + 1) cq) := ⟨_, rfl⟩
          rw [← hwz] at hgrew
          have EY : wz.heap[ge]? = some (.cells (enCs x) 47 (0, 0)) := by rw [hwz]; exact (heap_setCell_other _ ⟨nb, 0, none⟩ ge _ HW.out.2.2.2.2.2.2.1).trans EN
          have hkb := KeptB.below hgrew.2.1 (HW.out.2.2.2.2.2.1.trans (F2.mono HW.out.2.2.2.2.2.1.size)) (Nat.le_trans HW.out.2.2.2.2.2.1.size F2.size) HW.out.2.2.2.2.1 (fun g hg => (hrow0.row g hg).1)
          have HN := Lib.hid (And.intro hgrew.1 hkb)
          clear hgrew hrow0 ho hBe hg hat LL LB LB2 F2 hkb
          refine hK.out _ _ EN (fun _ => ?_)
          clear hK K
          refine wpAnyH_take (i := 13) (v := ?_) rfl (by kernel_rfl) (by kernel_rfl) (by kernel_rfl) (fun _ _ _ h => h) (Or.inl ⟨by kernel_rfl, ?_⟩) EN ?_
          rotate_left
          · (intro W hS; have k0 : W.cell? ⟨ge, 0, none⟩ = some (.int .i64 x.q.id) := (by rw [cell_of_row _ _ _ _ _ _ hS]; rfl); have k1 : W.cell? ⟨ge, 1, none⟩ = some (.string x.q.who) := (by rw [cell_of_row _ _ _ _ _ _ hS]; rfl); have k2 : W.cell? ⟨ge, 2, none⟩ = some (.int .i64 x.q.entry) := (by rw [cell_of_row _ _ _ _ _ _ hS]; rfl); have k3 : W.cell? ⟨ge, 3, none⟩ = some (.string x.q.reason) := (by rw [cell_of_row _ _ _ _ _ _ hS]; rfl); have k4 : W.cell? ⟨ge, 4, none⟩ = some (.int .i64 x.q.exp) := (by rw [cell_of_row _ _ _ _ _ _ hS]; rfl); have k5 : W.cell? ⟨ge, 5, none⟩ = some (.int .i64 x.st) := (by rw [cell_of_row _ _ _ _ _ _ hS]; rfl); go_simp; try (with_reducible rfl))
          refine wpAnyH_take (i := 14) (v := ?_) rfl (by kernel_rfl) (by kernel_rfl) (by kernel_rfl) (fun _ _ _ h => h) (Or.inl ⟨by kernel_rfl, ?_⟩) EN ?_
          rotate_left
          · (intro W hS; have k0 : W.cell? ⟨ge, 0, none⟩ = some (.int .i64 x.q.id) := (by rw [cell_of_row _ _ _ _ _ _ hS]; rfl); have k1 : W.cell? ⟨ge, 1, none⟩ = some (.string x.q.who) := (by rw [cell_of_row _ _ _ _ _ _ hS]; rfl); have k2 : W.cell? ⟨ge, 2, none⟩ = some (.int .i64 x.q.entry) := (by rw [cell_of_row _ _ _ _ _ _ hS]; rfl); have k3 : W.cell? ⟨ge, 3, none⟩ = some (.string x.q.reason) := (by rw [cell_of_row _ _ _ _ _ _ hS]; rfl); have k4 : W.cell? ⟨ge, 4, none⟩ = some (.int .i64 x.q.exp) := (by rw [cell_of_row _ _ _ _ _ _ hS]; rfl); have k5 : W.cell? ⟨ge, 5, none⟩ = some (.int .i64 x.st) := (by rw [cell_of_row _ _ _ _ _ _ hS]; rfl); go_simp; try (with_reducible rfl))
          refine wpAnyH_ready (rs := [15]) (by kernel_rfl) (by simp) ?_
          refine AllReadyH.cons (i := 15) rfl (fun K hK => ?_) AllReadyH.nil
          go_simp
          rw [← hwz]
          refine hK.out _ _ EY (fun _ => ?_)
          clear hK K z0 zf EN hwz
          refine wpAnyH_done (by kernel_rfl) ?_ _
          go_simp
          go_wp2_with fail
          go_roundw
          case rel => exact ⟨i + 1, _, by omega, by go_num, by have := HN.out.1; rw [HX.out.1]; exact this, HN.out.2⟩
          case measure => simp [intOf]; omega
        · obtain ⟨v2, hv⟩ : ∃ v, v = v1.alloc (.cells (enCs x) 47) := ⟨_, rfl⟩
          have hb : Below v1.heap.size v1 v2 := by rw [hv]; exact (Below.refl _ _).alloc (Nat.le_refl _) _
          have g1 : v2.heap[v1.heap.size]? = some (.cells (enCs x) 47 (0, 0)) := by rw [hv]; exact heap_alloc_new _ _
          have F2 := F1.trans (hb.mono F1.size)
          have E2 : v2.heap[ge]? = some (.cells (enCs x) 47 (0, 0)) := (hb.block _ (blt_of_heap E1)).trans E1
          simp only [enCs] at hv
          go_simp
          rw [← hv]
          clear hv
          have LN := LL.call hb
          have LBn := (hb.block nb (blt_of_heap LB)).trans LB
          clear LL LB
          have LL := LN
          have LB := LBn
          clear LN LBn
          refine hK.out _ _ E2 (fun _ => ?_)
          clear hK K hb
          refine wpAnyH_ready (rs := [4]) (by kernel_rfl) (by simp) ?_
          refine AllReadyH.cons (i := 4) rfl (fun K hK => ?_) AllReadyH.nil
          have qs : v2.cell? ⟨nb, 0, none⟩ = some (.slice ad T.length cap) := by rw [cell_of_row _ _ _ _ _ _ LB]; rfl
          go_simp
          refine hK.out _ _ E2 (fun _ => ?_)
          clear hK K qs
          refine wpAnyH_ready (rs := [12]) (by kernel_rfl) (by simp) ?_
          refine AllReadyH.cons (i := 12) rfl (fun K hK => ?_) AllReadyH.nil
          refine step_append_r rfl (.tmp 22) (.tmp 29) 48 rfl Try.en_rec en_one en_size LL _ rfl (by kernel_rfl) _ 1 x (by kernel_rfl) g1 (by have := HX.out.2.2; omega) (Nat.le_trans HW.out.2.2.2.2.2.1.size F2.size) (Below.refl _ _) ?_
          intro z cq v3 ho hBe hg hat
          have hrow0 := (show BkAt w.heap.size v2 nb R' T from ⟨HW.out.2.2.2.2.1, ad, cap, LB, LL, HW.out.2.2.2.1⟩)
          have hgrew := BkAt.grew (x := x) LB LL HW.out.2.2.2.1 HW.out.2.2.2.2.1 ho hg hat
          have LB2 := (hg.block nb hrow0.lt (fun e => (hrow0.row nb (HW.out.2.2.2.1.trans e.symm)).2.2 rfl)).trans LB
          have EN : v3.heap[ge]? = some (.cells (enCs x) 47 (0, 0)) := (hg.block ge (blt_of_heap E2) (fun e => HW.out.2.2.2.2.2.2.2 ge (HW.out.2.2.2.1.trans e.symm) rfl)).trans E2
          have zf : v3.frozen? ⟨nb, 0, none⟩ = false := frozen_of_row _ _ _ _ _ LB2
          have z0 : v3.cell? ⟨nb, 0, none⟩ = some (.slice ad T.length cap) := by rw [cell_of_row _ _ _ _ _ _ LB2]; rfl
          obtain ⟨wz, hwz⟩ : ∃ wz, wz = v3.setCell ⟨nb, 0, none⟩ (.slice (some ⟨z, 0, none⟩) (T.length + 1) cq) := ⟨_, rfl⟩
          rw [← hwz] at hgrew
          have EY : wz.heap[ge]? = some (.cells (enCs x) 47 (0, 0)) := by rw [hwz]; exact (heap_setCell_other _ ⟨nb, 0, none⟩ ge _ HW.out.2.2.2.2.2.2.1).trans EN
          have hkb := KeptB.below hgrew.2.1 (HW.out.2.2.2.2.2.1.trans (F2.mono HW.out.2.2.2.2.2.1.size)) (Nat.le_trans HW.out.2.2.2.2.2.1.size F2.size) HW.out.2.2.2.2.1 (fun g hg => (hrow0.row g hg).1)
          have HN := Lib.hid (And.intro hgrew.1 hkb)
          clear hgrew hrow0 ho hBe hg hat LL LB LB2 F2 hkb
          refine hK.out _ _ EN (fun _ => ?_)
          clear hK K
          refine wpAnyH_take (i := 13) (v := ?_) rfl (by kernel_rfl) (by kernel_rfl) (by kernel_rfl) (fun _ _ _ h => h) (Or.inl ⟨by kernel_rfl, ?_⟩) EN ?_
          rotate_left
          · (intro W hS; have k0 : W.cell? ⟨ge, 0, none⟩ = some (.int .i64 x.q.id) := (by rw [cell_of_row _ _ _ _ _ _ hS]; rfl); have k1 : W.cell? ⟨ge, 1, none⟩ = some (.string x.q.who) := (by rw [cell_of_row _ _ _ _ _ _ hS]; rfl); have k2 : W.cell? ⟨ge, 2, none⟩ = some (.int .i64 x.q.entry) := (by rw [cell_of_row _ _ _ _ _ _ hS]; rfl); have k3 : W.cell? ⟨ge, 3, none⟩ = some (.string x.q.reason) := (by rw [cell_of_row _ _ _ _ _ _ hS]; rfl); have k4 : W.cell? ⟨ge, 4, none⟩ = some (.int .i64 x.q.exp) := (by rw [cell_of_row _ _ _ _ _ _ hS]; rfl); have k5 : W.cell? ⟨ge, 5, none⟩ = some (.int .i64 x.st) := (by rw [cell_of_row _ _ _ _ _ _ hS]; rfl); go_simp; try (with_reducible rfl))
          refine wpAnyH_take (i := 14) (v := ?_) rfl (by kernel_rfl) (by kernel_rfl) (by kernel_rfl) (fun _ _ _ h => h) (Or.inl ⟨by kernel_rfl, ?_⟩) EN ?_
          rotate_left
          · (intro W hS; have k0 : W.cell? ⟨ge, 0, none⟩ = some (.int .i64 x.q.id) := (by rw [cell_of_row _ _ _ _ _ _ hS]; rfl); have k1 : W.cell? ⟨ge, 1, none⟩ = some (.string x.q.who) := (by rw [cell_of_row _ _ _ _ _ _ hS]; rfl); have k2 : W.cell? ⟨ge, 2, none⟩ = some (.int .i64 x.q.entry) := (by rw [cell_of_row _ _ _ _ _ _ hS]; rfl); have k3 : W.cell? ⟨ge, 3, none⟩ = some (.string x.q.reason) := (by rw [cell_of_row _ _ _ _ _ _ hS]; rfl); have k4 : W.cell? ⟨ge, 4, none⟩ = some (.int .i64 x.q.exp) := (by rw [cell_of_row _ _ _ _ _ _ hS]; rfl); have k5 : W.cell? ⟨ge, 5, none⟩ = some (.int .i64 x.st) := (by rw [cell_of_row _ _ _ _ _ _ hS]; rfl); go_simp; try (with_reducible rfl))
          refine wpAnyH_ready (rs := [15]) (by kernel_rfl) (by simp) ?_
          refine AllReadyH.cons (i := 15) rfl (fun K hK => ?_) AllReadyH.nil
          go_simp
          rw [← hwz]
          refine hK.out _ _ EY (fun _ => ?_)
          clear hK K z0 zf EN hwz
          refine wpAnyH_done (by kernel_rfl) ?_ _
          go_simp
          go_wp2_with fail
          go_roundw
          case rel => exact ⟨i + 1, _, by omega, by go_num, by have := HN.out.1; rw [HX.out.1]; exact this, HN.out.2⟩
          case measure => simp [intOf]; omega
    · obtain rfl : n = i := by omega
      clear hbk hb
      go_wp2_with fail
      go_ret
      exact ⟨_, _, rfl, by have := HBK.out.1; rw [List.take_of_length_le (by have := H.out.2.2.1; omega)] at this; exact this, HBK.out.2⟩
end Go.Proofs.Ytnkkbinbeildmab
