/- PROVED HERE: for every act the law RequestNil returns true (a nil book refuses all). No condition. -/
import Derived.Test.YtnkkbinbeildmabBkF
import Derived.Test.YtnkkbinbeildmabPyOpen
import Derived.Test.YtnkkbinbeildmabRows
import Derived.ProofKit
import Derived.OpenShut
namespace Go.Proofs.Ytnkkbinbeildmab
open Go.RowKit
set_option maxRecDepth 100000 in
theorem nall_any (w : World) : Calls Try.prog 23 #[.pointer none] w fun e w' => e = .returned (.slice none 0 0) ∧ w' = w := by
  go_enter Try.func23, Try.ntmps23
  go_wp2_with fail
  go_ret
  exact ⟨rfl, rfl⟩
set_option maxRecDepth 100000 in
theorem nget_any (id : Int) (w : World) : Calls Try.prog 18 #[.pointer none, .int .i64 id] w fun e w' => e = .returned (.int .i64 (-1)) ∧ Below w.heap.size w w' := by
  obtain ⟨w1, hw1⟩ : ∃ w1, w1 = w.alloc (.cells #[.int .i64 id] 3) := ⟨_, rfl⟩
  have hb1 := box_below hw1
  have hg1 : w1.heap[w.heap.size]? = some (.cells #[.int .i64 id] 3 (0, 0)) := by rw [hw1]; exact heap_alloc_new _ _
  have c1 := nall_any w1
  have c2 := bidx_any [] none 0 id w.heap.size w1 (RecsAt.nil _ _ _ _) (by simp) (cell_lit hg1 0) (Array.getElem?_eq_some_iff.1 hg1).1
  rw [show bIdx [] id = -1 from rfl] at c2
  simp only [List.length_nil] at c2
  have H := Lib.hid (And.intro c1 (And.intro c2 hb1))
  clear c1 c2 hb1 hg1
  go_enter Try.func18, Try.ntmps18
  go_upto_region 1 with fail
  rw [← hw1]
  clear hw1
  go_wp2_with fail
  refine H.out.1.mono ?_
  rintro e w2 ⟨rfl, rfl⟩
  go_wp2_with fail
  refine H.out.2.1.mono ?_
  rintro e w3 ⟨rfl, hb⟩
  go_wp2_with fail
  go_ret
  exact ⟨rfl, H.out.2.2.trans (hb.mono H.out.2.2.size)⟩
set_option maxRecDepth 100000 in
theorem nfind_any (id now : Int) (w : World) : Calls Try.prog 24 #[.pointer none, .int .i64 id, .int .i64 now] w fun e w' => ∃ fb op, e = .returned (.tuple #[.pointer none, .iface 73 (.pointer (some ⟨fb, 0, none⟩))]) ∧ FaultAt w' fb op id 1 ∧ Below w.heap.size w w' := by
  go_enter Try.func24, Try.ntmps24
  go_wp2_with fail
  refine (rqfault_any _ _ _).mono ?_
  rintro e w1 ⟨fb, op, rfl, hf, hb⟩
  go_wp2_with fail
  go_ret2
  exact ⟨_, _, rfl, hf, hb⟩
set_option maxRecDepth 100000 in
theorem nstate_any (id now : Int) (w : World) : Calls Try.prog 9 #[.pointer none, .int .i64 id, .int .i64 now] w fun e w' => e = .returned (.int .i64 0) ∧ Below w.heap.size w w' := by
  go_enter Try.func9, Try.ntmps9
  go_wp2_with fail
  refine (nget_any _ _).mono ?_
  rintro e w1 ⟨rfl, hb⟩
  go_wp2_with fail
  go_ret
  exact ⟨rfl, hb⟩
set_option maxRecDepth 100000 in
theorem nopen_any (who : ByteArray) (now : Int) (w : World) : Calls Try.prog 10 #[.pointer none, .string who, .int .i64 now] w fun e w' => e = .returned (.int .i64 0) ∧ Below w.heap.size w w' := by
  go_enter Try.func10, Try.ntmps10
  go_wp2_with fail
  refine (nall_any _).mono ?_
  rintro e w1 ⟨rfl, rfl⟩
  go_wp2_with fail
  refine wp_loop_rounds 1 ?_
  rw [rounds_succ]
  go_wp2_with fail
  go_ret
  exact ⟨rfl, Below.refl _ _⟩
set_option maxRecDepth 100000 in
theorem nids_any (w : World) : Calls Try.prog 11 #[.pointer none] w fun e w' => e = .returned (.slice none 0 0) ∧ Below w.heap.size w w' := by
  go_enter Try.func11, Try.ntmps11
  go_wp2_with fail
  refine (nall_any _).mono ?_
  rintro e w1 ⟨rfl, rfl⟩
  go_wp2_with fail
  refine wp_loop_rounds 1 ?_
  rw [rounds_succ]
  go_wp2_with fail
  go_ret
  exact ⟨rfl, Below.refl _ _⟩
set_option maxRecDepth 100000 in
theorem nclone_any (w : World) : Calls Try.prog 12 #[.pointer none] w fun e w' => e = .returned (.pointer none) ∧ Below w.heap.size w w' := by
  go_enter Try.func12, Try.ntmps12
  go_wp2_with fail
  go_ret
  exact ⟨rfl, Below.refl _ _⟩
set_option maxRecDepth 100000 in
theorem njudge_any (id now k : Int) (w : World) : Calls Try.prog 27 #[.pointer none, .int .i64 id, .int .i64 now, .int .i64 k] w fun e w' => ∃ fb op n, e = .returned (.iface 73 (.pointer (some ⟨fb, 0, none⟩))) ∧ FaultAt w' fb op n 1 ∧ Below w.heap.size w w' := by
  go_enter Try.func27, Try.ntmps27
  go_wp2_with fail
  refine (nfind_any _ _ _).mono ?_
  rintro e w1 ⟨fb, op, rfl, hf, hb⟩
  go_wp2_with fail
  go_ret
  exact ⟨_, _, _, rfl, hf, hb⟩
set_option maxRecDepth 100000 in
theorem nrevoke_any (id : Int) (who : ByteArray) (now : Int) (w : World) : Calls Try.prog 21 #[.pointer none, .int .i64 id, .string who, .int .i64 now] w fun e w' => ∃ fb op n, e = .returned (.iface 73 (.pointer (some ⟨fb, 0, none⟩))) ∧ FaultAt w' fb op n 1 ∧ Below w.heap.size w w' := by
  go_enter Try.func21, Try.ntmps21
  go_wp2_with fail
  refine (nfind_any _ _ _).mono ?_
  rintro e w1 ⟨fb, op, rfl, hf, hb⟩
  go_wp2_with fail
  go_ret
  exact ⟨_, _, _, rfl, hf, hb⟩
set_option maxRecDepth 100000 in
theorem napprove_any (id now : Int) (w : World) : Calls Try.prog 16 #[.pointer none, .int .i64 id, .int .i64 now] w fun e w' => ∃ fb op n, e = .returned (.iface 73 (.pointer (some ⟨fb, 0, none⟩))) ∧ FaultAt w' fb op n 1 ∧ Below w.heap.size w w' := by
  go_enter Try.func16, Try.ntmps16
  go_wp2_with fail
  refine (njudge_any _ _ _ _).mono ?_
  rintro e w1 ⟨fb, op, n, rfl, hf, hb⟩
  go_wp2_with fail
  go_ret
  exact ⟨_, _, _, rfl, hf, hb⟩
set_option maxRecDepth 100000 in
theorem ndeny_any (id now : Int) (w : World) : Calls Try.prog 17 #[.pointer none, .int .i64 id, .int .i64 now] w fun e w' => ∃ fb op n, e = .returned (.iface 73 (.pointer (some ⟨fb, 0, none⟩))) ∧ FaultAt w' fb op n 1 ∧ Below w.heap.size w w' := by
  go_enter Try.func17, Try.ntmps17
  go_wp2_with fail
  refine (njudge_any _ _ _ _).mono ?_
  rintro e w1 ⟨fb, op, n, rfl, hf, hb⟩
  go_wp2_with fail
  go_ret
  exact ⟨_, _, _, rfl, hf, hb⟩
set_option maxRecDepth 100000 in
theorem nput_any (q : Py.Q) (now : Int) (w : World) : Calls Try.prog 15 #[.pointer none, qVal q, .int .i64 now] w fun e w' => ∃ fb op n, e = .returned (.iface 73 (.pointer (some ⟨fb, 0, none⟩))) ∧ FaultAt w' fb op n 1 ∧ Below w.heap.size w w' := by
  unfold qVal
  obtain ⟨w1, hw1⟩ : ∃ w1, w1 = w.alloc (.cells (qCs q) 23) := ⟨_, rfl⟩
  have hb1 := box_below hw1
  have c0 : w1.cell? ⟨w.heap.size, 0, none⟩ = some (.int .i64 q.id) := by rw [hw1]; exact cell_lit (heap_alloc_new _ _) 0
  have HB := Lib.hid hb1
  clear hb1
  unfold qCs at hw1
  go_enter Try.func15, Try.ntmps15
  go_upto_region 1 with fail
  rw [← hw1]
  clear hw1
  go_wp2_with fail
  refine (nfind_any _ _ _).mono ?_
  rintro e w2 ⟨fb, op, rfl, hf, hb⟩
  have HF := Lib.hid (And.intro hf hb)
  clear hf hb
  go_wp2_with fail
  refine (is_fault HF.out.1 1).mono ?_
  rintro e w3 ⟨rfl, hww⟩
  cases hww
  go_wp2_with fail
  go_ret
  exact ⟨_, _, _, rfl, HF.out.1, HB.out.trans (HF.out.2.mono HB.out.size)⟩
set_option maxRecDepth 100000 in
set_option maxHeartbeats 1000000 in
theorem nGet_any (id : Int) (w : World) : Calls Try.prog 6 #[.pointer none, .int .i64 id] w fun e w' => e = .returned (.tuple #[.agg #[.int .i64 0, .string ⟨#[]⟩, .int .i64 0, .string ⟨#[]⟩, .int .i64 0], .bool false]) ∧ Below w.heap.size w w' := by
  obtain ⟨w1, hw1⟩ : ∃ w1, w1 = w.alloc (.cells #[.int .i64 0, .string ⟨#[]⟩, .int .i64 0, .string ⟨#[]⟩, .int .i64 0] 23) := ⟨_, rfl⟩
  obtain ⟨gr, hgr⟩ : ∃ gr, gr = w.heap.size := ⟨_, rfl⟩
  have hb1 := box_below hw1
  have a1 : w1.heap[gr]? = some (.cells #[.int .i64 0, .string ⟨#[]⟩, .int .i64 0, .string ⟨#[]⟩, .int .i64 0] 23 (0, 0)) := by rw [hw1, hgr]; exact heap_alloc_new _ _
  have hlo : w.heap.size ≤ gr := by omega
  have H := Lib.hid (And.intro hb1 (And.intro a1 hlo))
  clear hb1 a1 hlo
  go_enter Try.func6, Try.ntmps6
  go_upto_region 1 with fail
  rw [← hw1, ← hgr]
  clear hw1 hgr
  go_wp2_with fail
  refine (nget_any _ _).mono ?_
  rintro e w2 ⟨rfl, hb2⟩
  have a2 := (hb2.block gr (blt_of_heap H.out.2.1)).trans H.out.2.1
  have HB := Lib.hid (H.out.1.trans (hb2.mono H.out.1.size))
  clear hb2
  obtain ⟨w9, hw9⟩ : ∃ z, z = (((((w2.setCell ⟨gr, 0, none⟩ (.int .i64 0)).setCell ⟨gr, 1, none⟩ (.string ⟨#[]⟩)).setCell ⟨gr, 2, none⟩ (.int .i64 0)).setCell ⟨gr, 3, none⟩ (.string ⟨#[]⟩)).setCell ⟨gr, 4, none⟩ (.int .i64 0)) := ⟨_, rfl⟩
  have r9 : w9.heap[gr]? = some (.cells #[.int .i64 0, .string ⟨#[]⟩, .int .i64 0, .string ⟨#[]⟩, .int .i64 0] 23 (0, 0)) := by rw [hw9, heap_setCell_same _ _ _ _ _ _ (heap_setCell_same _ _ _ _ _ _ (heap_setCell_same _ _ _ _ _ _ (heap_setCell_same _ _ _ _ _ _ (heap_setCell_same _ _ _ _ _ _ a2))))]; rfl
  have G9 : Below w.heap.size w w9 := by rw [hw9]; exact Below.setCell (p := ⟨gr, 4, none⟩) (Below.setCell (p := ⟨gr, 3, none⟩) (Below.setCell (p := ⟨gr, 2, none⟩) (Below.setCell (p := ⟨gr, 1, none⟩) (Below.setCell (p := ⟨gr, 0, none⟩) (HB.out) H.out.2.2 _) H.out.2.2 _) H.out.2.2 _) H.out.2.2 _) H.out.2.2 _
  have d0 : w2.cell? ⟨gr, 0, none⟩ = some (.int .i64 0) := by rw [cell_of_row _ _ _ _ _ _ a2]; rfl
  have d1 : w2.cell? ⟨gr, 1, none⟩ = some (.string ⟨#[]⟩) := by rw [cell_of_row _ _ _ _ _ _ a2]; rfl
  have d2 : w2.cell? ⟨gr, 2, none⟩ = some (.int .i64 0) := by rw [cell_of_row _ _ _ _ _ _ a2]; rfl
  have d3 : w2.cell? ⟨gr, 3, none⟩ = some (.string ⟨#[]⟩) := by rw [cell_of_row _ _ _ _ _ _ a2]; rfl
  have d4 : w2.cell? ⟨gr, 4, none⟩ = some (.int .i64 0) := by rw [cell_of_row _ _ _ _ _ _ a2]; rfl
  have fz : ∀ j, w2.frozen? ⟨gr, j, none⟩ = false := fun j => frozen_of_row _ _ _ _ _ a2
  have e0 : w9.cell? ⟨gr, 0, none⟩ = some (.int .i64 0) := by rw [cell_of_row _ _ _ _ _ _ r9]; rfl
  have e1 : w9.cell? ⟨gr, 1, none⟩ = some (.string ⟨#[]⟩) := by rw [cell_of_row _ _ _ _ _ _ r9]; rfl
  have e2 : w9.cell? ⟨gr, 2, none⟩ = some (.int .i64 0) := by rw [cell_of_row _ _ _ _ _ _ r9]; rfl
  have e3 : w9.cell? ⟨gr, 3, none⟩ = some (.string ⟨#[]⟩) := by rw [cell_of_row _ _ _ _ _ _ r9]; rfl
  have e4 : w9.cell? ⟨gr, 4, none⟩ = some (.int .i64 0) := by rw [cell_of_row _ _ _ _ _ _ r9]; rfl
  have HG := Lib.hid G9
  clear G9 a2 r9
  go_wp2_with fail
  rw [← hw9]
  clear hw9
  go_wp2_with fail
  refine bodyPost_ret (v := .tuple #[.agg #[.int .i64 0, .string ⟨#[]⟩, .int .i64 0, .string ⟨#[]⟩, .int .i64 0], .bool false]) (by simp [results, Try.results6, go_sem, e0, e1, e2, e3, e4]) rfl ?_
  exact ⟨rfl, HG.out⟩
set_option maxRecDepth 100000 in
set_option maxHeartbeats 1000000 in
theorem nDo_any (a : Bk.Act) (w : World) : Calls Try.prog 8 #[.pointer none, acVal a] w fun e w' => ∃ v, e = .returned v ∧ ErrAt w' v 1 ∧ Below w.heap.size w w' := by
  obtain ⟨w1, hw1⟩ : ∃ w1, w1 = w.alloc (.cells (acCs a) 25) := ⟨_, rfl⟩
  obtain ⟨ga, hga⟩ : ∃ ga, ga = w.heap.size := ⟨_, rfl⟩
  have hb1 := box_below hw1
  have a1 : w1.heap[ga]? = some (.cells (acCs a) 25 (0, 0)) := by rw [hw1, hga]; exact heap_alloc_new _ _
  have hput := fun W => nput_any a.q a.now W
  unfold qVal at hput
  have H := Lib.hid (And.intro hput hb1)
  have HA := Lib.hid a1
  clear hput hb1 a1
  unfold acVal
  unfold acCs at hw1
  by_cases h0 : a.kind = 0
  · skip
    have g0 : (a.kind == 0) = true := by simpa using h0
    clear h0
    go_enter Try.func8, Try.ntmps8
    go_upto_region 1 with fail
    rw [← hw1, ← hga]
    clear hw1 hga
    have X := HA.out
    have c0 : w1.cell? ⟨ga, 0, none⟩ = some (.int .i64 a.kind) := by rw [cell_of_row _ _ _ _ _ _ X]; rfl
    have c1 : w1.cell? ⟨ga, 1, none⟩ = some (.int .i64 a.id) := by rw [cell_of_row _ _ _ _ _ _ X]; rfl
    have c2 : w1.cell? ⟨ga, 2, none⟩ = some (.int .i64 a.now) := by rw [cell_of_row _ _ _ _ _ _ X]; rfl
    have c3 : w1.cell? ⟨ga, 3, none⟩ = some (.int .i64 a.q.id) := by rw [cell_of_row _ _ _ _ _ _ X]; rfl
    have c4 : w1.cell? ⟨ga, 4, none⟩ = some (.string a.q.who) := by rw [cell_of_row _ _ _ _ _ _ X]; rfl
    have c5 : w1.cell? ⟨ga, 5, none⟩ = some (.int .i64 a.q.entry) := by rw [cell_of_row _ _ _ _ _ _ X]; rfl
    have c6 : w1.cell? ⟨ga, 6, none⟩ = some (.string a.q.reason) := by rw [cell_of_row _ _ _ _ _ _ X]; rfl
    have c7 : w1.cell? ⟨ga, 7, none⟩ = some (.int .i64 a.q.exp) := by rw [cell_of_row _ _ _ _ _ _ X]; rfl
    have c8 : w1.cell? ⟨ga, 8, none⟩ = some (.string a.who) := by rw [cell_of_row _ _ _ _ _ _ X]; rfl
    clear X
    go_wp2_with fail
    refine (H.out.1 _).mono ?_
    rintro e w2 ⟨fb, op, n, rfl, hf, hb⟩
    go_wp2_with fail
    go_ret
    exact ⟨_, rfl, .inr ⟨by decide, fb, op, n, rfl, hf⟩, H.out.2.trans (hb.mono H.out.2.size)⟩
  by_cases h1 : a.kind = 1
  · skip
    have g0 : (a.kind == 0) = false := by simpa using h0
    have g1 : (a.kind == 1) = true := by simpa using h1
    clear h0 h1
    go_enter Try.func8, Try.ntmps8
    go_upto_region 1 with fail
    rw [← hw1, ← hga]
    clear hw1 hga
    have X := HA.out
    have c0 : w1.cell? ⟨ga, 0, none⟩ = some (.int .i64 a.kind) := by rw [cell_of_row _ _ _ _ _ _ X]; rfl
    have c1 : w1.cell? ⟨ga, 1, none⟩ = some (.int .i64 a.id) := by rw [cell_of_row _ _ _ _ _ _ X]; rfl
    have c2 : w1.cell? ⟨ga, 2, none⟩ = some (.int .i64 a.now) := by rw [cell_of_row _ _ _ _ _ _ X]; rfl
    have c3 : w1.cell? ⟨ga, 3, none⟩ = some (.int .i64 a.q.id) := by rw [cell_of_row _ _ _ _ _ _ X]; rfl
    have c4 : w1.cell? ⟨ga, 4, none⟩ = some (.string a.q.who) := by rw [cell_of_row _ _ _ _ _ _ X]; rfl
    have c5 : w1.cell? ⟨ga, 5, none⟩ = some (.int .i64 a.q.entry) := by rw [cell_of_row _ _ _ _ _ _ X]; rfl
    have c6 : w1.cell? ⟨ga, 6, none⟩ = some (.string a.q.reason) := by rw [cell_of_row _ _ _ _ _ _ X]; rfl
    have c7 : w1.cell? ⟨ga, 7, none⟩ = some (.int .i64 a.q.exp) := by rw [cell_of_row _ _ _ _ _ _ X]; rfl
    have c8 : w1.cell? ⟨ga, 8, none⟩ = some (.string a.who) := by rw [cell_of_row _ _ _ _ _ _ X]; rfl
    clear X
    go_wp2_with fail
    refine (napprove_any _ _ _).mono ?_
    rintro e w2 ⟨fb, op, n, rfl, hf, hb⟩
    go_wp2_with fail
    go_ret
    exact ⟨_, rfl, .inr ⟨by decide, fb, op, n, rfl, hf⟩, H.out.2.trans (hb.mono H.out.2.size)⟩
  by_cases h2 : a.kind = 2
  · skip
    have g0 : (a.kind == 0) = false := by simpa using h0
    have g1 : (a.kind == 1) = false := by simpa using h1
    have g2 : (a.kind == 2) = true := by simpa using h2
    clear h0 h1 h2
    go_enter Try.func8, Try.ntmps8
    go_upto_region 1 with fail
    rw [← hw1, ← hga]
    clear hw1 hga
    have X := HA.out
    have c0 : w1.cell? ⟨ga, 0, none⟩ = some (.int .i64 a.kind) := by rw [cell_of_row _ _ _ _ _ _ X]; rfl
    have c1 : w1.cell? ⟨ga, 1, none⟩ = some (.int .i64 a.id) := by rw [cell_of_row _ _ _ _ _ _ X]; rfl
    have c2 : w1.cell? ⟨ga, 2, none⟩ = some (.int .i64 a.now) := by rw [cell_of_row _ _ _ _ _ _ X]; rfl
    have c3 : w1.cell? ⟨ga, 3, none⟩ = some (.int .i64 a.q.id) := by rw [cell_of_row _ _ _ _ _ _ X]; rfl
    have c4 : w1.cell? ⟨ga, 4, none⟩ = some (.string a.q.who) := by rw [cell_of_row _ _ _ _ _ _ X]; rfl
    have c5 : w1.cell? ⟨ga, 5, none⟩ = some (.int .i64 a.q.entry) := by rw [cell_of_row _ _ _ _ _ _ X]; rfl
    have c6 : w1.cell? ⟨ga, 6, none⟩ = some (.string a.q.reason) := by rw [cell_of_row _ _ _ _ _ _ X]; rfl
    have c7 : w1.cell? ⟨ga, 7, none⟩ = some (.int .i64 a.q.exp) := by rw [cell_of_row _ _ _ _ _ _ X]; rfl
    have c8 : w1.cell? ⟨ga, 8, none⟩ = some (.string a.who) := by rw [cell_of_row _ _ _ _ _ _ X]; rfl
    clear X
    go_wp2_with fail
    refine (ndeny_any _ _ _).mono ?_
    rintro e w2 ⟨fb, op, n, rfl, hf, hb⟩
    go_wp2_with fail
    go_ret
    exact ⟨_, rfl, .inr ⟨by decide, fb, op, n, rfl, hf⟩, H.out.2.trans (hb.mono H.out.2.size)⟩
  have g0 : (a.kind == 0) = false := by simpa using h0
  have g1 : (a.kind == 1) = false := by simpa using h1
  have g2 : (a.kind == 2) = false := by simpa using h2
  clear h0 h1 h2
  go_enter Try.func8, Try.ntmps8
  go_upto_region 1 with fail
  rw [← hw1, ← hga]
  clear hw1 hga
  have X := HA.out
  have c0 : w1.cell? ⟨ga, 0, none⟩ = some (.int .i64 a.kind) := by rw [cell_of_row _ _ _ _ _ _ X]; rfl
  have c1 : w1.cell? ⟨ga, 1, none⟩ = some (.int .i64 a.id) := by rw [cell_of_row _ _ _ _ _ _ X]; rfl
  have c2 : w1.cell? ⟨ga, 2, none⟩ = some (.int .i64 a.now) := by rw [cell_of_row _ _ _ _ _ _ X]; rfl
  have c3 : w1.cell? ⟨ga, 3, none⟩ = some (.int .i64 a.q.id) := by rw [cell_of_row _ _ _ _ _ _ X]; rfl
  have c4 : w1.cell? ⟨ga, 4, none⟩ = some (.string a.q.who) := by rw [cell_of_row _ _ _ _ _ _ X]; rfl
  have c5 : w1.cell? ⟨ga, 5, none⟩ = some (.int .i64 a.q.entry) := by rw [cell_of_row _ _ _ _ _ _ X]; rfl
  have c6 : w1.cell? ⟨ga, 6, none⟩ = some (.string a.q.reason) := by rw [cell_of_row _ _ _ _ _ _ X]; rfl
  have c7 : w1.cell? ⟨ga, 7, none⟩ = some (.int .i64 a.q.exp) := by rw [cell_of_row _ _ _ _ _ _ X]; rfl
  have c8 : w1.cell? ⟨ga, 8, none⟩ = some (.string a.who) := by rw [cell_of_row _ _ _ _ _ _ X]; rfl
  clear X
  go_wp2_with fail
  refine (nrevoke_any _ _ _ _).mono ?_
  rintro e w2 ⟨fb, op, n, rfl, hf, hb⟩
  go_wp2_with fail
  go_ret
  exact ⟨_, rfl, .inr ⟨by decide, fb, op, n, rfl, hf⟩, H.out.2.trans (hb.mono H.out.2.size)⟩
set_option maxRecDepth 100000 in
set_option maxHeartbeats 4000000 in
theorem bnil_law {w : World} (a : Bk.Act) (ha : a.Ok) : Calls Try.prog 3 #[.agg (acCs a)] w fun e w' => e = .returned (.bool true) ∧ Below w.heap.size w w' := by
  obtain ⟨w1, hw1⟩ : ∃ w1, w1 = w.alloc (.cells (acCs a) 25) := ⟨_, rfl⟩
  obtain ⟨ga, hga⟩ : ∃ ga, ga = w.heap.size := ⟨_, rfl⟩
  have hb1 := box_below hw1
  have a1 : w1.heap[ga]? = some (.cells (acCs a) 25 (0, 0)) := by rw [hw1, hga]; exact heap_alloc_new _ _
  have hfw := fun W => few21_any a ha W
  have hdo := fun W => nDo_any a W
  unfold acVal at hfw hdo
  have hcode := fun (W : World) (v : Value) (h : ErrAt W v 1) => (code_any h (by decide) (by decide)).mono (R' := fun e w' => e = .returned (.int .i64 1) ∧ Below W.heap.size W w') (by rintro e w' ⟨rfl, rfl⟩; exact ⟨rfl, Below.refl _ _⟩)
  have H := Lib.hid (And.intro hfw (And.intro hdo (And.intro hcode hb1)))
  have HA := Lib.hid a1
  clear hfw hdo hcode hb1 a1 ha
  unfold acCs at hw1 ⊢
  cases hf : fewA a with
  | false =>
    rw [hf] at H
    go_enter Try.func3, Try.ntmps3
    go_upto_region 1 with fail
    rw [← hw1, ← hga]
    clear hw1 hga
    have X := HA.out
    have c0 : w1.cell? ⟨ga, 0, none⟩ = some (.int .i64 a.kind) := by rw [cell_of_row _ _ _ _ _ _ X]; rfl
    have c1 : w1.cell? ⟨ga, 1, none⟩ = some (.int .i64 a.id) := by rw [cell_of_row _ _ _ _ _ _ X]; rfl
    have c2 : w1.cell? ⟨ga, 2, none⟩ = some (.int .i64 a.now) := by rw [cell_of_row _ _ _ _ _ _ X]; rfl
    have c3 : w1.cell? ⟨ga, 3, none⟩ = some (.int .i64 a.q.id) := by rw [cell_of_row _ _ _ _ _ _ X]; rfl
    have c4 : w1.cell? ⟨ga, 4, none⟩ = some (.string a.q.who) := by rw [cell_of_row _ _ _ _ _ _ X]; rfl
    have c5 : w1.cell? ⟨ga, 5, none⟩ = some (.int .i64 a.q.entry) := by rw [cell_of_row _ _ _ _ _ _ X]; rfl
    have c6 : w1.cell? ⟨ga, 6, none⟩ = some (.string a.q.reason) := by rw [cell_of_row _ _ _ _ _ _ X]; rfl
    have c7 : w1.cell? ⟨ga, 7, none⟩ = some (.int .i64 a.q.exp) := by rw [cell_of_row _ _ _ _ _ _ X]; rfl
    have c8 : w1.cell? ⟨ga, 8, none⟩ = some (.string a.who) := by rw [cell_of_row _ _ _ _ _ _ X]; rfl
    clear X
    go_wp2_with fail
    refine (H.out.1 _).mono ?_
    rintro e w2 ⟨rfl, hb2⟩
    have H2 := Lib.hid (And.intro (H.out.2.2.2.trans (hb2.mono H.out.2.2.2.size)) ((hb2.block ga (blt_of_heap HA.out)).trans HA.out))
    clear hb2 c0 c1 c2 c3 c4 c5 c6 c7 c8
    go_wp2_with fail
    refine (awake21_any _).mono ?_
    rintro e w3 ⟨rfl, hb3⟩
    go_wp2_with fail
    go_ret
    exact ⟨rfl, H2.out.1.trans (hb3.mono H2.out.1.size)⟩
  | true =>
    rw [hf] at H
    go_enter Try.func3, Try.ntmps3
    go_upto_region 1 with fail
    rw [← hw1, ← hga]
    clear hw1 hga
    have X := HA.out
    have c0 : w1.cell? ⟨ga, 0, none⟩ = some (.int .i64 a.kind) := by rw [cell_of_row _ _ _ _ _ _ X]; rfl
    have c1 : w1.cell? ⟨ga, 1, none⟩ = some (.int .i64 a.id) := by rw [cell_of_row _ _ _ _ _ _ X]; rfl
    have c2 : w1.cell? ⟨ga, 2, none⟩ = some (.int .i64 a.now) := by rw [cell_of_row _ _ _ _ _ _ X]; rfl
    have c3 : w1.cell? ⟨ga, 3, none⟩ = some (.int .i64 a.q.id) := by rw [cell_of_row _ _ _ _ _ _ X]; rfl
    have c4 : w1.cell? ⟨ga, 4, none⟩ = some (.string a.q.who) := by rw [cell_of_row _ _ _ _ _ _ X]; rfl
    have c5 : w1.cell? ⟨ga, 5, none⟩ = some (.int .i64 a.q.entry) := by rw [cell_of_row _ _ _ _ _ _ X]; rfl
    have c6 : w1.cell? ⟨ga, 6, none⟩ = some (.string a.q.reason) := by rw [cell_of_row _ _ _ _ _ _ X]; rfl
    have c7 : w1.cell? ⟨ga, 7, none⟩ = some (.int .i64 a.q.exp) := by rw [cell_of_row _ _ _ _ _ _ X]; rfl
    have c8 : w1.cell? ⟨ga, 8, none⟩ = some (.string a.who) := by rw [cell_of_row _ _ _ _ _ _ X]; rfl
    clear X
    go_wp2_with fail
    refine (H.out.1 _).mono ?_
    rintro e w2 ⟨rfl, hb2⟩
    have H2 := Lib.hid (And.intro (H.out.2.2.2.trans (hb2.mono H.out.2.2.2.size)) ((hb2.block ga (blt_of_heap HA.out)).trans HA.out))
    clear hb2 c0 c1 c2 c3 c4 c5 c6 c7 c8
    have X := H2.out.2
    have c1 : w2.cell? ⟨ga, 1, none⟩ = some (.int .i64 a.id) := by rw [cell_of_row _ _ _ _ _ _ X]; rfl
    clear X
    go_wp2_with fail
    refine (nGet_any _ _).mono ?_
    rintro e w3 ⟨rfl, hb3⟩
    obtain ⟨w4, hw4⟩ : ∃ w4, w4 = w3.alloc (.cells #[.int .i64 0, .string ⟨#[]⟩, .int .i64 0, .string ⟨#[]⟩, .int .i64 0] 23) := ⟨_, rfl⟩
    have hb4 := box_below hw4
    have hb34 := hb3.trans (hb4.mono hb3.size)
    have H4 := Lib.hid (And.intro (H2.out.1.trans (hb34.mono H2.out.1.size)) ((hb34.block ga (blt_of_heap H2.out.2)).trans H2.out.2))
    clear hb3 hb4 hb34 c1
    go_upto_region 5 with fail
    rw [← hw4]
    clear hw4
    refine wp_region_held (S := fun W : World => W.heap[ga]? = some (.cells (acCs a) 25 (0, 0))) (by kernel_rfl) ?_
    change wpAnyH _ _ _ _ _ _ _ _ (World.drew _)
    generalize hv0 : World.drew _ = v0
    have E0 : v0.heap[ga]? = some (.cells (acCs a) 25 (0, 0)) := by rw [← hv0]; exact H4.out.2
    have F0 : Below w4.heap.size w4 v0 := by rw [← hv0]; exact ((Below.refl _ _).drew)
    clear hv0
    refine wpAnyH_ready (rs := [0]) (by kernel_rfl) (by simp) ?_
    refine AllReadyH.cons (i := 0) rfl (fun K hK => ?_) AllReadyH.nil
    go_simp
    refine (awake21_any v0).mono ?_
    rintro e v1 ⟨rfl, hb⟩
    have F1 := F0.trans (hb.mono F0.size)
    have E1 : v1.heap[ga]? = some (.cells (acCs a) 25 (0, 0)) := (hb.block _ (blt_of_heap E0)).trans E0
    refine hK.out _ _ E1 (fun _ => ?_)
    clear hK K hb
    refine wpAnyH_take (i := 1) (v := ?_) rfl (by kernel_rfl) (by kernel_rfl) (by kernel_rfl) (fun _ _ _ h => h) (Or.inl ⟨by kernel_rfl, ?_⟩) E1 ?_
    rotate_left
    · (intro W hS; have k0 : W.cell? ⟨ga, 0, none⟩ = some (.int .i64 a.kind) := (by rw [cell_of_row _ _ _ _ _ _ hS]; rfl); have k1 : W.cell? ⟨ga, 1, none⟩ = some (.int .i64 a.id) := (by rw [cell_of_row _ _ _ _ _ _ hS]; rfl); have k2 : W.cell? ⟨ga, 2, none⟩ = some (.int .i64 a.now) := (by rw [cell_of_row _ _ _ _ _ _ hS]; rfl); have k3 : W.cell? ⟨ga, 3, none⟩ = some (.int .i64 a.q.id) := (by rw [cell_of_row _ _ _ _ _ _ hS]; rfl); have k4 : W.cell? ⟨ga, 4, none⟩ = some (.string a.q.who) := (by rw [cell_of_row _ _ _ _ _ _ hS]; rfl); have k5 : W.cell? ⟨ga, 5, none⟩ = some (.int .i64 a.q.entry) := (by rw [cell_of_row _ _ _ _ _ _ hS]; rfl); have k6 : W.cell? ⟨ga, 6, none⟩ = some (.string a.q.reason) := (by rw [cell_of_row _ _ _ _ _ _ hS]; rfl); have k7 : W.cell? ⟨ga, 7, none⟩ = some (.int .i64 a.q.exp) := (by rw [cell_of_row _ _ _ _ _ _ hS]; rfl); have k8 : W.cell? ⟨ga, 8, none⟩ = some (.string a.who) := (by rw [cell_of_row _ _ _ _ _ _ hS]; rfl); go_simp; try (with_reducible rfl))
    refine wpAnyH_take (i := 2) (v := ?_) rfl (by kernel_rfl) (by kernel_rfl) (by kernel_rfl) (fun _ _ _ h => h) (Or.inl ⟨by kernel_rfl, ?_⟩) E1 ?_
    rotate_left
    · (intro W hS; have k0 : W.cell? ⟨ga, 0, none⟩ = some (.int .i64 a.kind) := (by rw [cell_of_row _ _ _ _ _ _ hS]; rfl); have k1 : W.cell? ⟨ga, 1, none⟩ = some (.int .i64 a.id) := (by rw [cell_of_row _ _ _ _ _ _ hS]; rfl); have k2 : W.cell? ⟨ga, 2, none⟩ = some (.int .i64 a.now) := (by rw [cell_of_row _ _ _ _ _ _ hS]; rfl); have k3 : W.cell? ⟨ga, 3, none⟩ = some (.int .i64 a.q.id) := (by rw [cell_of_row _ _ _ _ _ _ hS]; rfl); have k4 : W.cell? ⟨ga, 4, none⟩ = some (.string a.q.who) := (by rw [cell_of_row _ _ _ _ _ _ hS]; rfl); have k5 : W.cell? ⟨ga, 5, none⟩ = some (.int .i64 a.q.entry) := (by rw [cell_of_row _ _ _ _ _ _ hS]; rfl); have k6 : W.cell? ⟨ga, 6, none⟩ = some (.string a.q.reason) := (by rw [cell_of_row _ _ _ _ _ _ hS]; rfl); have k7 : W.cell? ⟨ga, 7, none⟩ = some (.int .i64 a.q.exp) := (by rw [cell_of_row _ _ _ _ _ _ hS]; rfl); have k8 : W.cell? ⟨ga, 8, none⟩ = some (.string a.who) := (by rw [cell_of_row _ _ _ _ _ _ hS]; rfl); go_simp; try (with_reducible rfl))
    refine wpAnyH_take (i := 3) (v := ?_) rfl (by kernel_rfl) (by kernel_rfl) (by kernel_rfl) (fun _ _ _ h => h) (Or.inl ⟨by kernel_rfl, ?_⟩) E1 ?_
    rotate_left
    · (intro W hS; have k0 : W.cell? ⟨ga, 0, none⟩ = some (.int .i64 a.kind) := (by rw [cell_of_row _ _ _ _ _ _ hS]; rfl); have k1 : W.cell? ⟨ga, 1, none⟩ = some (.int .i64 a.id) := (by rw [cell_of_row _ _ _ _ _ _ hS]; rfl); have k2 : W.cell? ⟨ga, 2, none⟩ = some (.int .i64 a.now) := (by rw [cell_of_row _ _ _ _ _ _ hS]; rfl); have k3 : W.cell? ⟨ga, 3, none⟩ = some (.int .i64 a.q.id) := (by rw [cell_of_row _ _ _ _ _ _ hS]; rfl); have k4 : W.cell? ⟨ga, 4, none⟩ = some (.string a.q.who) := (by rw [cell_of_row _ _ _ _ _ _ hS]; rfl); have k5 : W.cell? ⟨ga, 5, none⟩ = some (.int .i64 a.q.entry) := (by rw [cell_of_row _ _ _ _ _ _ hS]; rfl); have k6 : W.cell? ⟨ga, 6, none⟩ = some (.string a.q.reason) := (by rw [cell_of_row _ _ _ _ _ _ hS]; rfl); have k7 : W.cell? ⟨ga, 7, none⟩ = some (.int .i64 a.q.exp) := (by rw [cell_of_row _ _ _ _ _ _ hS]; rfl); have k8 : W.cell? ⟨ga, 8, none⟩ = some (.string a.who) := (by rw [cell_of_row _ _ _ _ _ _ hS]; rfl); go_simp; try (with_reducible rfl))
    refine wpAnyH_ready (rs := [4]) (by kernel_rfl) (by simp) ?_
    refine AllReadyH.cons (i := 4) rfl (fun K hK => ?_) AllReadyH.nil
    go_simp
    refine (H.out.2.1 v1).mono ?_
    rintro e v2 ⟨vv, rfl, hE, hb⟩
    have F2 := F1.trans (hb.mono F1.size)
    have E2 : v2.heap[ga]? = some (.cells (acCs a) 25 (0, 0)) := (hb.block _ (blt_of_heap E1)).trans E1
    refine hK.out _ _ E2 (fun _ => ?_)
    clear hK K hb
    refine wpAnyH_ready (rs := [5]) (by kernel_rfl) (by simp) ?_
    refine AllReadyH.cons (i := 5) rfl (fun K hK => ?_) AllReadyH.nil
    go_simp
    refine (H.out.2.2.1 v2 vv hE).mono ?_
    rintro e v3 ⟨rfl, hb⟩
    have F3 := F2.trans (hb.mono F2.size)
    have E3 : v3.heap[ga]? = some (.cells (acCs a) 25 (0, 0)) := (hb.block _ (blt_of_heap E2)).trans E2
    clear hE
    refine hK.out _ _ E3 (fun _ => ?_)
    clear hK K hb
    refine wpAnyH_take (i := 6) (v := ?_) rfl (by kernel_rfl) (by kernel_rfl) (by kernel_rfl) (fun _ _ _ h => h) (Or.inl ⟨by kernel_rfl, ?_⟩) E3 ?_
    rotate_left
    · (intro W hS; have k0 : W.cell? ⟨ga, 0, none⟩ = some (.int .i64 a.kind) := (by rw [cell_of_row _ _ _ _ _ _ hS]; rfl); have k1 : W.cell? ⟨ga, 1, none⟩ = some (.int .i64 a.id) := (by rw [cell_of_row _ _ _ _ _ _ hS]; rfl); have k2 : W.cell? ⟨ga, 2, none⟩ = some (.int .i64 a.now) := (by rw [cell_of_row _ _ _ _ _ _ hS]; rfl); have k3 : W.cell? ⟨ga, 3, none⟩ = some (.int .i64 a.q.id) := (by rw [cell_of_row _ _ _ _ _ _ hS]; rfl); have k4 : W.cell? ⟨ga, 4, none⟩ = some (.string a.q.who) := (by rw [cell_of_row _ _ _ _ _ _ hS]; rfl); have k5 : W.cell? ⟨ga, 5, none⟩ = some (.int .i64 a.q.entry) := (by rw [cell_of_row _ _ _ _ _ _ hS]; rfl); have k6 : W.cell? ⟨ga, 6, none⟩ = some (.string a.q.reason) := (by rw [cell_of_row _ _ _ _ _ _ hS]; rfl); have k7 : W.cell? ⟨ga, 7, none⟩ = some (.int .i64 a.q.exp) := (by rw [cell_of_row _ _ _ _ _ _ hS]; rfl); have k8 : W.cell? ⟨ga, 8, none⟩ = some (.string a.who) := (by rw [cell_of_row _ _ _ _ _ _ hS]; rfl); go_simp; try (with_reducible rfl))
    refine wpAnyH_take (i := 7) (v := ?_) rfl (by kernel_rfl) (by kernel_rfl) (by kernel_rfl) (fun _ _ _ h => h) (Or.inl ⟨by kernel_rfl, ?_⟩) E3 ?_
    rotate_left
    · (intro W hS; have k0 : W.cell? ⟨ga, 0, none⟩ = some (.int .i64 a.kind) := (by rw [cell_of_row _ _ _ _ _ _ hS]; rfl); have k1 : W.cell? ⟨ga, 1, none⟩ = some (.int .i64 a.id) := (by rw [cell_of_row _ _ _ _ _ _ hS]; rfl); have k2 : W.cell? ⟨ga, 2, none⟩ = some (.int .i64 a.now) := (by rw [cell_of_row _ _ _ _ _ _ hS]; rfl); have k3 : W.cell? ⟨ga, 3, none⟩ = some (.int .i64 a.q.id) := (by rw [cell_of_row _ _ _ _ _ _ hS]; rfl); have k4 : W.cell? ⟨ga, 4, none⟩ = some (.string a.q.who) := (by rw [cell_of_row _ _ _ _ _ _ hS]; rfl); have k5 : W.cell? ⟨ga, 5, none⟩ = some (.int .i64 a.q.entry) := (by rw [cell_of_row _ _ _ _ _ _ hS]; rfl); have k6 : W.cell? ⟨ga, 6, none⟩ = some (.string a.q.reason) := (by rw [cell_of_row _ _ _ _ _ _ hS]; rfl); have k7 : W.cell? ⟨ga, 7, none⟩ = some (.int .i64 a.q.exp) := (by rw [cell_of_row _ _ _ _ _ _ hS]; rfl); have k8 : W.cell? ⟨ga, 8, none⟩ = some (.string a.who) := (by rw [cell_of_row _ _ _ _ _ _ hS]; rfl); go_simp; try (with_reducible rfl))
    refine wpAnyH_take (i := 8) (v := ?_) rfl (by kernel_rfl) (by kernel_rfl) (by kernel_rfl) (fun _ _ _ h => h) (Or.inl ⟨by kernel_rfl, ?_⟩) E3 ?_
    rotate_left
    · (intro W hS; have k0 : W.cell? ⟨ga, 0, none⟩ = some (.int .i64 a.kind) := (by rw [cell_of_row _ _ _ _ _ _ hS]; rfl); have k1 : W.cell? ⟨ga, 1, none⟩ = some (.int .i64 a.id) := (by rw [cell_of_row _ _ _ _ _ _ hS]; rfl); have k2 : W.cell? ⟨ga, 2, none⟩ = some (.int .i64 a.now) := (by rw [cell_of_row _ _ _ _ _ _ hS]; rfl); have k3 : W.cell? ⟨ga, 3, none⟩ = some (.int .i64 a.q.id) := (by rw [cell_of_row _ _ _ _ _ _ hS]; rfl); have k4 : W.cell? ⟨ga, 4, none⟩ = some (.string a.q.who) := (by rw [cell_of_row _ _ _ _ _ _ hS]; rfl); have k5 : W.cell? ⟨ga, 5, none⟩ = some (.int .i64 a.q.entry) := (by rw [cell_of_row _ _ _ _ _ _ hS]; rfl); have k6 : W.cell? ⟨ga, 6, none⟩ = some (.string a.q.reason) := (by rw [cell_of_row _ _ _ _ _ _ hS]; rfl); have k7 : W.cell? ⟨ga, 7, none⟩ = some (.int .i64 a.q.exp) := (by rw [cell_of_row _ _ _ _ _ _ hS]; rfl); have k8 : W.cell? ⟨ga, 8, none⟩ = some (.string a.who) := (by rw [cell_of_row _ _ _ _ _ _ hS]; rfl); go_simp; try (with_reducible rfl))
    refine wpAnyH_take (i := 9) (v := ?_) rfl (by kernel_rfl) (by kernel_rfl) (by kernel_rfl) (fun _ _ _ h => h) (Or.inl ⟨by kernel_rfl, ?_⟩) E3 ?_
    rotate_left
    · (intro W hS; have k0 : W.cell? ⟨ga, 0, none⟩ = some (.int .i64 a.kind) := (by rw [cell_of_row _ _ _ _ _ _ hS]; rfl); have k1 : W.cell? ⟨ga, 1, none⟩ = some (.int .i64 a.id) := (by rw [cell_of_row _ _ _ _ _ _ hS]; rfl); have k2 : W.cell? ⟨ga, 2, none⟩ = some (.int .i64 a.now) := (by rw [cell_of_row _ _ _ _ _ _ hS]; rfl); have k3 : W.cell? ⟨ga, 3, none⟩ = some (.int .i64 a.q.id) := (by rw [cell_of_row _ _ _ _ _ _ hS]; rfl); have k4 : W.cell? ⟨ga, 4, none⟩ = some (.string a.q.who) := (by rw [cell_of_row _ _ _ _ _ _ hS]; rfl); have k5 : W.cell? ⟨ga, 5, none⟩ = some (.int .i64 a.q.entry) := (by rw [cell_of_row _ _ _ _ _ _ hS]; rfl); have k6 : W.cell? ⟨ga, 6, none⟩ = some (.string a.q.reason) := (by rw [cell_of_row _ _ _ _ _ _ hS]; rfl); have k7 : W.cell? ⟨ga, 7, none⟩ = some (.int .i64 a.q.exp) := (by rw [cell_of_row _ _ _ _ _ _ hS]; rfl); have k8 : W.cell? ⟨ga, 8, none⟩ = some (.string a.who) := (by rw [cell_of_row _ _ _ _ _ _ hS]; rfl); go_simp; try (with_reducible rfl))
    refine wpAnyH_take (i := 10) (v := ?_) rfl (by kernel_rfl) (by kernel_rfl) (by kernel_rfl) (fun _ _ _ h => h) (Or.inl ⟨by kernel_rfl, ?_⟩) E3 ?_
    rotate_left
    · (intro W hS; have k0 : W.cell? ⟨ga, 0, none⟩ = some (.int .i64 a.kind) := (by rw [cell_of_row _ _ _ _ _ _ hS]; rfl); have k1 : W.cell? ⟨ga, 1, none⟩ = some (.int .i64 a.id) := (by rw [cell_of_row _ _ _ _ _ _ hS]; rfl); have k2 : W.cell? ⟨ga, 2, none⟩ = some (.int .i64 a.now) := (by rw [cell_of_row _ _ _ _ _ _ hS]; rfl); have k3 : W.cell? ⟨ga, 3, none⟩ = some (.int .i64 a.q.id) := (by rw [cell_of_row _ _ _ _ _ _ hS]; rfl); have k4 : W.cell? ⟨ga, 4, none⟩ = some (.string a.q.who) := (by rw [cell_of_row _ _ _ _ _ _ hS]; rfl); have k5 : W.cell? ⟨ga, 5, none⟩ = some (.int .i64 a.q.entry) := (by rw [cell_of_row _ _ _ _ _ _ hS]; rfl); have k6 : W.cell? ⟨ga, 6, none⟩ = some (.string a.q.reason) := (by rw [cell_of_row _ _ _ _ _ _ hS]; rfl); have k7 : W.cell? ⟨ga, 7, none⟩ = some (.int .i64 a.q.exp) := (by rw [cell_of_row _ _ _ _ _ _ hS]; rfl); have k8 : W.cell? ⟨ga, 8, none⟩ = some (.string a.who) := (by rw [cell_of_row _ _ _ _ _ _ hS]; rfl); go_simp; try (with_reducible rfl))
    refine wpAnyH_take (i := 11) (v := ?_) rfl (by kernel_rfl) (by kernel_rfl) (by kernel_rfl) (fun _ _ _ h => h) (Or.inl ⟨by kernel_rfl, ?_⟩) E3 ?_
    rotate_left
    · (intro W hS; have k0 : W.cell? ⟨ga, 0, none⟩ = some (.int .i64 a.kind) := (by rw [cell_of_row _ _ _ _ _ _ hS]; rfl); have k1 : W.cell? ⟨ga, 1, none⟩ = some (.int .i64 a.id) := (by rw [cell_of_row _ _ _ _ _ _ hS]; rfl); have k2 : W.cell? ⟨ga, 2, none⟩ = some (.int .i64 a.now) := (by rw [cell_of_row _ _ _ _ _ _ hS]; rfl); have k3 : W.cell? ⟨ga, 3, none⟩ = some (.int .i64 a.q.id) := (by rw [cell_of_row _ _ _ _ _ _ hS]; rfl); have k4 : W.cell? ⟨ga, 4, none⟩ = some (.string a.q.who) := (by rw [cell_of_row _ _ _ _ _ _ hS]; rfl); have k5 : W.cell? ⟨ga, 5, none⟩ = some (.int .i64 a.q.entry) := (by rw [cell_of_row _ _ _ _ _ _ hS]; rfl); have k6 : W.cell? ⟨ga, 6, none⟩ = some (.string a.q.reason) := (by rw [cell_of_row _ _ _ _ _ _ hS]; rfl); have k7 : W.cell? ⟨ga, 7, none⟩ = some (.int .i64 a.q.exp) := (by rw [cell_of_row _ _ _ _ _ _ hS]; rfl); have k8 : W.cell? ⟨ga, 8, none⟩ = some (.string a.who) := (by rw [cell_of_row _ _ _ _ _ _ hS]; rfl); go_simp; try (with_reducible rfl))
    refine wpAnyH_take (i := 12) (v := ?_) rfl (by kernel_rfl) (by kernel_rfl) (by kernel_rfl) (fun _ _ _ h => h) (Or.inl ⟨by kernel_rfl, ?_⟩) E3 ?_
    rotate_left
    · (intro W hS; have k0 : W.cell? ⟨ga, 0, none⟩ = some (.int .i64 a.kind) := (by rw [cell_of_row _ _ _ _ _ _ hS]; rfl); have k1 : W.cell? ⟨ga, 1, none⟩ = some (.int .i64 a.id) := (by rw [cell_of_row _ _ _ _ _ _ hS]; rfl); have k2 : W.cell? ⟨ga, 2, none⟩ = some (.int .i64 a.now) := (by rw [cell_of_row _ _ _ _ _ _ hS]; rfl); have k3 : W.cell? ⟨ga, 3, none⟩ = some (.int .i64 a.q.id) := (by rw [cell_of_row _ _ _ _ _ _ hS]; rfl); have k4 : W.cell? ⟨ga, 4, none⟩ = some (.string a.q.who) := (by rw [cell_of_row _ _ _ _ _ _ hS]; rfl); have k5 : W.cell? ⟨ga, 5, none⟩ = some (.int .i64 a.q.entry) := (by rw [cell_of_row _ _ _ _ _ _ hS]; rfl); have k6 : W.cell? ⟨ga, 6, none⟩ = some (.string a.q.reason) := (by rw [cell_of_row _ _ _ _ _ _ hS]; rfl); have k7 : W.cell? ⟨ga, 7, none⟩ = some (.int .i64 a.q.exp) := (by rw [cell_of_row _ _ _ _ _ _ hS]; rfl); have k8 : W.cell? ⟨ga, 8, none⟩ = some (.string a.who) := (by rw [cell_of_row _ _ _ _ _ _ hS]; rfl); go_simp; try (with_reducible rfl))
    refine wpAnyH_take (i := 13) (v := ?_) rfl (by kernel_rfl) (by kernel_rfl) (by kernel_rfl) (fun _ _ _ h => h) (Or.inl ⟨by kernel_rfl, ?_⟩) E3 ?_
    rotate_left
    · (intro W hS; have k0 : W.cell? ⟨ga, 0, none⟩ = some (.int .i64 a.kind) := (by rw [cell_of_row _ _ _ _ _ _ hS]; rfl); have k1 : W.cell? ⟨ga, 1, none⟩ = some (.int .i64 a.id) := (by rw [cell_of_row _ _ _ _ _ _ hS]; rfl); have k2 : W.cell? ⟨ga, 2, none⟩ = some (.int .i64 a.now) := (by rw [cell_of_row _ _ _ _ _ _ hS]; rfl); have k3 : W.cell? ⟨ga, 3, none⟩ = some (.int .i64 a.q.id) := (by rw [cell_of_row _ _ _ _ _ _ hS]; rfl); have k4 : W.cell? ⟨ga, 4, none⟩ = some (.string a.q.who) := (by rw [cell_of_row _ _ _ _ _ _ hS]; rfl); have k5 : W.cell? ⟨ga, 5, none⟩ = some (.int .i64 a.q.entry) := (by rw [cell_of_row _ _ _ _ _ _ hS]; rfl); have k6 : W.cell? ⟨ga, 6, none⟩ = some (.string a.q.reason) := (by rw [cell_of_row _ _ _ _ _ _ hS]; rfl); have k7 : W.cell? ⟨ga, 7, none⟩ = some (.int .i64 a.q.exp) := (by rw [cell_of_row _ _ _ _ _ _ hS]; rfl); have k8 : W.cell? ⟨ga, 8, none⟩ = some (.string a.who) := (by rw [cell_of_row _ _ _ _ _ _ hS]; rfl); go_simp; try (with_reducible rfl))
    refine wpAnyH_take (i := 14) (v := ?_) rfl (by kernel_rfl) (by kernel_rfl) (by kernel_rfl) (fun _ _ _ h => h) (Or.inl ⟨by kernel_rfl, ?_⟩) E3 ?_
    rotate_left
    · (intro W hS; have k0 : W.cell? ⟨ga, 0, none⟩ = some (.int .i64 a.kind) := (by rw [cell_of_row _ _ _ _ _ _ hS]; rfl); have k1 : W.cell? ⟨ga, 1, none⟩ = some (.int .i64 a.id) := (by rw [cell_of_row _ _ _ _ _ _ hS]; rfl); have k2 : W.cell? ⟨ga, 2, none⟩ = some (.int .i64 a.now) := (by rw [cell_of_row _ _ _ _ _ _ hS]; rfl); have k3 : W.cell? ⟨ga, 3, none⟩ = some (.int .i64 a.q.id) := (by rw [cell_of_row _ _ _ _ _ _ hS]; rfl); have k4 : W.cell? ⟨ga, 4, none⟩ = some (.string a.q.who) := (by rw [cell_of_row _ _ _ _ _ _ hS]; rfl); have k5 : W.cell? ⟨ga, 5, none⟩ = some (.int .i64 a.q.entry) := (by rw [cell_of_row _ _ _ _ _ _ hS]; rfl); have k6 : W.cell? ⟨ga, 6, none⟩ = some (.string a.q.reason) := (by rw [cell_of_row _ _ _ _ _ _ hS]; rfl); have k7 : W.cell? ⟨ga, 7, none⟩ = some (.int .i64 a.q.exp) := (by rw [cell_of_row _ _ _ _ _ _ hS]; rfl); have k8 : W.cell? ⟨ga, 8, none⟩ = some (.string a.who) := (by rw [cell_of_row _ _ _ _ _ _ hS]; rfl); go_simp; try (with_reducible rfl))
    refine wpAnyH_take (i := 15) (v := ?_) rfl (by kernel_rfl) (by kernel_rfl) (by kernel_rfl) (fun _ _ _ h => h) (Or.inl ⟨by kernel_rfl, ?_⟩) E3 ?_
    rotate_left
    · (intro W hS; have k0 : W.cell? ⟨ga, 0, none⟩ = some (.int .i64 a.kind) := (by rw [cell_of_row _ _ _ _ _ _ hS]; rfl); have k1 : W.cell? ⟨ga, 1, none⟩ = some (.int .i64 a.id) := (by rw [cell_of_row _ _ _ _ _ _ hS]; rfl); have k2 : W.cell? ⟨ga, 2, none⟩ = some (.int .i64 a.now) := (by rw [cell_of_row _ _ _ _ _ _ hS]; rfl); have k3 : W.cell? ⟨ga, 3, none⟩ = some (.int .i64 a.q.id) := (by rw [cell_of_row _ _ _ _ _ _ hS]; rfl); have k4 : W.cell? ⟨ga, 4, none⟩ = some (.string a.q.who) := (by rw [cell_of_row _ _ _ _ _ _ hS]; rfl); have k5 : W.cell? ⟨ga, 5, none⟩ = some (.int .i64 a.q.entry) := (by rw [cell_of_row _ _ _ _ _ _ hS]; rfl); have k6 : W.cell? ⟨ga, 6, none⟩ = some (.string a.q.reason) := (by rw [cell_of_row _ _ _ _ _ _ hS]; rfl); have k7 : W.cell? ⟨ga, 7, none⟩ = some (.int .i64 a.q.exp) := (by rw [cell_of_row _ _ _ _ _ _ hS]; rfl); have k8 : W.cell? ⟨ga, 8, none⟩ = some (.string a.who) := (by rw [cell_of_row _ _ _ _ _ _ hS]; rfl); go_simp; try (with_reducible rfl))
    refine wpAnyH_take (i := 16) (v := ?_) rfl (by kernel_rfl) (by kernel_rfl) (by kernel_rfl) (fun _ _ _ h => h) (Or.inl ⟨by kernel_rfl, ?_⟩) E3 ?_
    rotate_left
    · (intro W hS; have k0 : W.cell? ⟨ga, 0, none⟩ = some (.int .i64 a.kind) := (by rw [cell_of_row _ _ _ _ _ _ hS]; rfl); have k1 : W.cell? ⟨ga, 1, none⟩ = some (.int .i64 a.id) := (by rw [cell_of_row _ _ _ _ _ _ hS]; rfl); have k2 : W.cell? ⟨ga, 2, none⟩ = some (.int .i64 a.now) := (by rw [cell_of_row _ _ _ _ _ _ hS]; rfl); have k3 : W.cell? ⟨ga, 3, none⟩ = some (.int .i64 a.q.id) := (by rw [cell_of_row _ _ _ _ _ _ hS]; rfl); have k4 : W.cell? ⟨ga, 4, none⟩ = some (.string a.q.who) := (by rw [cell_of_row _ _ _ _ _ _ hS]; rfl); have k5 : W.cell? ⟨ga, 5, none⟩ = some (.int .i64 a.q.entry) := (by rw [cell_of_row _ _ _ _ _ _ hS]; rfl); have k6 : W.cell? ⟨ga, 6, none⟩ = some (.string a.q.reason) := (by rw [cell_of_row _ _ _ _ _ _ hS]; rfl); have k7 : W.cell? ⟨ga, 7, none⟩ = some (.int .i64 a.q.exp) := (by rw [cell_of_row _ _ _ _ _ _ hS]; rfl); have k8 : W.cell? ⟨ga, 8, none⟩ = some (.string a.who) := (by rw [cell_of_row _ _ _ _ _ _ hS]; rfl); go_simp; try (with_reducible rfl))
    refine wpAnyH_take (i := 17) (v := ?_) rfl (by kernel_rfl) (by kernel_rfl) (by kernel_rfl) (fun _ _ _ h => h) (Or.inl ⟨by kernel_rfl, ?_⟩) E3 ?_
    rotate_left
    · (intro W hS; have k0 : W.cell? ⟨ga, 0, none⟩ = some (.int .i64 a.kind) := (by rw [cell_of_row _ _ _ _ _ _ hS]; rfl); have k1 : W.cell? ⟨ga, 1, none⟩ = some (.int .i64 a.id) := (by rw [cell_of_row _ _ _ _ _ _ hS]; rfl); have k2 : W.cell? ⟨ga, 2, none⟩ = some (.int .i64 a.now) := (by rw [cell_of_row _ _ _ _ _ _ hS]; rfl); have k3 : W.cell? ⟨ga, 3, none⟩ = some (.int .i64 a.q.id) := (by rw [cell_of_row _ _ _ _ _ _ hS]; rfl); have k4 : W.cell? ⟨ga, 4, none⟩ = some (.string a.q.who) := (by rw [cell_of_row _ _ _ _ _ _ hS]; rfl); have k5 : W.cell? ⟨ga, 5, none⟩ = some (.int .i64 a.q.entry) := (by rw [cell_of_row _ _ _ _ _ _ hS]; rfl); have k6 : W.cell? ⟨ga, 6, none⟩ = some (.string a.q.reason) := (by rw [cell_of_row _ _ _ _ _ _ hS]; rfl); have k7 : W.cell? ⟨ga, 7, none⟩ = some (.int .i64 a.q.exp) := (by rw [cell_of_row _ _ _ _ _ _ hS]; rfl); have k8 : W.cell? ⟨ga, 8, none⟩ = some (.string a.who) := (by rw [cell_of_row _ _ _ _ _ _ hS]; rfl); go_simp; try (with_reducible rfl))
    refine wpAnyH_take (i := 19) (v := ?_) rfl (by kernel_rfl) (by kernel_rfl) (by kernel_rfl) (fun _ _ _ h => h) (Or.inl ⟨by kernel_rfl, ?_⟩) E3 ?_
    rotate_left
    · (intro W hS; have k0 : W.cell? ⟨ga, 0, none⟩ = some (.int .i64 a.kind) := (by rw [cell_of_row _ _ _ _ _ _ hS]; rfl); have k1 : W.cell? ⟨ga, 1, none⟩ = some (.int .i64 a.id) := (by rw [cell_of_row _ _ _ _ _ _ hS]; rfl); have k2 : W.cell? ⟨ga, 2, none⟩ = some (.int .i64 a.now) := (by rw [cell_of_row _ _ _ _ _ _ hS]; rfl); have k3 : W.cell? ⟨ga, 3, none⟩ = some (.int .i64 a.q.id) := (by rw [cell_of_row _ _ _ _ _ _ hS]; rfl); have k4 : W.cell? ⟨ga, 4, none⟩ = some (.string a.q.who) := (by rw [cell_of_row _ _ _ _ _ _ hS]; rfl); have k5 : W.cell? ⟨ga, 5, none⟩ = some (.int .i64 a.q.entry) := (by rw [cell_of_row _ _ _ _ _ _ hS]; rfl); have k6 : W.cell? ⟨ga, 6, none⟩ = some (.string a.q.reason) := (by rw [cell_of_row _ _ _ _ _ _ hS]; rfl); have k7 : W.cell? ⟨ga, 7, none⟩ = some (.int .i64 a.q.exp) := (by rw [cell_of_row _ _ _ _ _ _ hS]; rfl); have k8 : W.cell? ⟨ga, 8, none⟩ = some (.string a.who) := (by rw [cell_of_row _ _ _ _ _ _ hS]; rfl); go_simp; try (with_reducible rfl))
    refine wpAnyH_take (i := 20) (v := ?_) rfl (by kernel_rfl) (by kernel_rfl) (by kernel_rfl) (fun _ _ _ h => h) (Or.inl ⟨by kernel_rfl, ?_⟩) E3 ?_
    rotate_left
    · (intro W hS; have k0 : W.cell? ⟨ga, 0, none⟩ = some (.int .i64 a.kind) := (by rw [cell_of_row _ _ _ _ _ _ hS]; rfl); have k1 : W.cell? ⟨ga, 1, none⟩ = some (.int .i64 a.id) := (by rw [cell_of_row _ _ _ _ _ _ hS]; rfl); have k2 : W.cell? ⟨ga, 2, none⟩ = some (.int .i64 a.now) := (by rw [cell_of_row _ _ _ _ _ _ hS]; rfl); have k3 : W.cell? ⟨ga, 3, none⟩ = some (.int .i64 a.q.id) := (by rw [cell_of_row _ _ _ _ _ _ hS]; rfl); have k4 : W.cell? ⟨ga, 4, none⟩ = some (.string a.q.who) := (by rw [cell_of_row _ _ _ _ _ _ hS]; rfl); have k5 : W.cell? ⟨ga, 5, none⟩ = some (.int .i64 a.q.entry) := (by rw [cell_of_row _ _ _ _ _ _ hS]; rfl); have k6 : W.cell? ⟨ga, 6, none⟩ = some (.string a.q.reason) := (by rw [cell_of_row _ _ _ _ _ _ hS]; rfl); have k7 : W.cell? ⟨ga, 7, none⟩ = some (.int .i64 a.q.exp) := (by rw [cell_of_row _ _ _ _ _ _ hS]; rfl); have k8 : W.cell? ⟨ga, 8, none⟩ = some (.string a.who) := (by rw [cell_of_row _ _ _ _ _ _ hS]; rfl); go_simp; try (with_reducible rfl))
    refine wpAnyH_take (i := 21) (v := ?_) rfl (by kernel_rfl) (by kernel_rfl) (by kernel_rfl) (fun _ _ _ h => h) (Or.inl ⟨by kernel_rfl, ?_⟩) E3 ?_
    rotate_left
    · (intro W hS; have k0 : W.cell? ⟨ga, 0, none⟩ = some (.int .i64 a.kind) := (by rw [cell_of_row _ _ _ _ _ _ hS]; rfl); have k1 : W.cell? ⟨ga, 1, none⟩ = some (.int .i64 a.id) := (by rw [cell_of_row _ _ _ _ _ _ hS]; rfl); have k2 : W.cell? ⟨ga, 2, none⟩ = some (.int .i64 a.now) := (by rw [cell_of_row _ _ _ _ _ _ hS]; rfl); have k3 : W.cell? ⟨ga, 3, none⟩ = some (.int .i64 a.q.id) := (by rw [cell_of_row _ _ _ _ _ _ hS]; rfl); have k4 : W.cell? ⟨ga, 4, none⟩ = some (.string a.q.who) := (by rw [cell_of_row _ _ _ _ _ _ hS]; rfl); have k5 : W.cell? ⟨ga, 5, none⟩ = some (.int .i64 a.q.entry) := (by rw [cell_of_row _ _ _ _ _ _ hS]; rfl); have k6 : W.cell? ⟨ga, 6, none⟩ = some (.string a.q.reason) := (by rw [cell_of_row _ _ _ _ _ _ hS]; rfl); have k7 : W.cell? ⟨ga, 7, none⟩ = some (.int .i64 a.q.exp) := (by rw [cell_of_row _ _ _ _ _ _ hS]; rfl); have k8 : W.cell? ⟨ga, 8, none⟩ = some (.string a.who) := (by rw [cell_of_row _ _ _ _ _ _ hS]; rfl); go_simp; try (with_reducible rfl))
    refine wpAnyH_take (i := 22) (v := ?_) rfl (by kernel_rfl) (by kernel_rfl) (by kernel_rfl) (fun _ _ _ h => h) (Or.inl ⟨by kernel_rfl, ?_⟩) E3 ?_
    rotate_left
    · (intro W hS; have k0 : W.cell? ⟨ga, 0, none⟩ = some (.int .i64 a.kind) := (by rw [cell_of_row _ _ _ _ _ _ hS]; rfl); have k1 : W.cell? ⟨ga, 1, none⟩ = some (.int .i64 a.id) := (by rw [cell_of_row _ _ _ _ _ _ hS]; rfl); have k2 : W.cell? ⟨ga, 2, none⟩ = some (.int .i64 a.now) := (by rw [cell_of_row _ _ _ _ _ _ hS]; rfl); have k3 : W.cell? ⟨ga, 3, none⟩ = some (.int .i64 a.q.id) := (by rw [cell_of_row _ _ _ _ _ _ hS]; rfl); have k4 : W.cell? ⟨ga, 4, none⟩ = some (.string a.q.who) := (by rw [cell_of_row _ _ _ _ _ _ hS]; rfl); have k5 : W.cell? ⟨ga, 5, none⟩ = some (.int .i64 a.q.entry) := (by rw [cell_of_row _ _ _ _ _ _ hS]; rfl); have k6 : W.cell? ⟨ga, 6, none⟩ = some (.string a.q.reason) := (by rw [cell_of_row _ _ _ _ _ _ hS]; rfl); have k7 : W.cell? ⟨ga, 7, none⟩ = some (.int .i64 a.q.exp) := (by rw [cell_of_row _ _ _ _ _ _ hS]; rfl); have k8 : W.cell? ⟨ga, 8, none⟩ = some (.string a.who) := (by rw [cell_of_row _ _ _ _ _ _ hS]; rfl); go_simp; try (with_reducible rfl))
    refine wpAnyH_take (i := 23) (v := ?_) rfl (by kernel_rfl) (by kernel_rfl) (by kernel_rfl) (fun _ _ _ h => h) (Or.inl ⟨by kernel_rfl, ?_⟩) E3 ?_
    rotate_left
    · (intro W hS; have k0 : W.cell? ⟨ga, 0, none⟩ = some (.int .i64 a.kind) := (by rw [cell_of_row _ _ _ _ _ _ hS]; rfl); have k1 : W.cell? ⟨ga, 1, none⟩ = some (.int .i64 a.id) := (by rw [cell_of_row _ _ _ _ _ _ hS]; rfl); have k2 : W.cell? ⟨ga, 2, none⟩ = some (.int .i64 a.now) := (by rw [cell_of_row _ _ _ _ _ _ hS]; rfl); have k3 : W.cell? ⟨ga, 3, none⟩ = some (.int .i64 a.q.id) := (by rw [cell_of_row _ _ _ _ _ _ hS]; rfl); have k4 : W.cell? ⟨ga, 4, none⟩ = some (.string a.q.who) := (by rw [cell_of_row _ _ _ _ _ _ hS]; rfl); have k5 : W.cell? ⟨ga, 5, none⟩ = some (.int .i64 a.q.entry) := (by rw [cell_of_row _ _ _ _ _ _ hS]; rfl); have k6 : W.cell? ⟨ga, 6, none⟩ = some (.string a.q.reason) := (by rw [cell_of_row _ _ _ _ _ _ hS]; rfl); have k7 : W.cell? ⟨ga, 7, none⟩ = some (.int .i64 a.q.exp) := (by rw [cell_of_row _ _ _ _ _ _ hS]; rfl); have k8 : W.cell? ⟨ga, 8, none⟩ = some (.string a.who) := (by rw [cell_of_row _ _ _ _ _ _ hS]; rfl); go_simp; try (with_reducible rfl))
    refine wpAnyH_take (i := 26) (v := ?_) rfl (by kernel_rfl) (by kernel_rfl) (by kernel_rfl) (fun _ _ _ h => h) (Or.inl ⟨by kernel_rfl, ?_⟩) E3 ?_
    rotate_left
    · (intro W hS; have k0 : W.cell? ⟨ga, 0, none⟩ = some (.int .i64 a.kind) := (by rw [cell_of_row _ _ _ _ _ _ hS]; rfl); have k1 : W.cell? ⟨ga, 1, none⟩ = some (.int .i64 a.id) := (by rw [cell_of_row _ _ _ _ _ _ hS]; rfl); have k2 : W.cell? ⟨ga, 2, none⟩ = some (.int .i64 a.now) := (by rw [cell_of_row _ _ _ _ _ _ hS]; rfl); have k3 : W.cell? ⟨ga, 3, none⟩ = some (.int .i64 a.q.id) := (by rw [cell_of_row _ _ _ _ _ _ hS]; rfl); have k4 : W.cell? ⟨ga, 4, none⟩ = some (.string a.q.who) := (by rw [cell_of_row _ _ _ _ _ _ hS]; rfl); have k5 : W.cell? ⟨ga, 5, none⟩ = some (.int .i64 a.q.entry) := (by rw [cell_of_row _ _ _ _ _ _ hS]; rfl); have k6 : W.cell? ⟨ga, 6, none⟩ = some (.string a.q.reason) := (by rw [cell_of_row _ _ _ _ _ _ hS]; rfl); have k7 : W.cell? ⟨ga, 7, none⟩ = some (.int .i64 a.q.exp) := (by rw [cell_of_row _ _ _ _ _ _ hS]; rfl); have k8 : W.cell? ⟨ga, 8, none⟩ = some (.string a.who) := (by rw [cell_of_row _ _ _ _ _ _ hS]; rfl); go_simp; try (with_reducible rfl))
    refine wpAnyH_ready (rs := [18]) (by kernel_rfl) (by simp) ?_
    refine AllReadyH.cons (i := 18) rfl (fun K hK => ?_) AllReadyH.nil
    go_simp
    refine (nstate_any a.id a.now v3).mono ?_
    rintro e v4 ⟨rfl, hb⟩
    have F4 := F3.trans (hb.mono F3.size)
    have E4 : v4.heap[ga]? = some (.cells (acCs a) 25 (0, 0)) := (hb.block _ (blt_of_heap E3)).trans E3
    refine hK.out _ _ E4 (fun _ => ?_)
    clear hK K hb
    refine wpAnyH_ready (rs := [24]) (by kernel_rfl) (by simp) ?_
    refine AllReadyH.cons (i := 24) rfl (fun K hK => ?_) AllReadyH.nil
    go_simp
    refine (nopen_any a.who a.now v4).mono ?_
    rintro e v5 ⟨rfl, hb⟩
    have F5 := F4.trans (hb.mono F4.size)
    have E5 : v5.heap[ga]? = some (.cells (acCs a) 25 (0, 0)) := (hb.block _ (blt_of_heap E4)).trans E4
    refine hK.out _ _ E5 (fun _ => ?_)
    clear hK K hb
    refine wpAnyH_take (i := 25) (v := ?_) rfl (by kernel_rfl) (by kernel_rfl) (by kernel_rfl) (fun _ _ _ h => h) (Or.inl ⟨by kernel_rfl, ?_⟩) E5 ?_
    rotate_left
    · (intro W hS; have k0 : W.cell? ⟨ga, 0, none⟩ = some (.int .i64 a.kind) := (by rw [cell_of_row _ _ _ _ _ _ hS]; rfl); have k1 : W.cell? ⟨ga, 1, none⟩ = some (.int .i64 a.id) := (by rw [cell_of_row _ _ _ _ _ _ hS]; rfl); have k2 : W.cell? ⟨ga, 2, none⟩ = some (.int .i64 a.now) := (by rw [cell_of_row _ _ _ _ _ _ hS]; rfl); have k3 : W.cell? ⟨ga, 3, none⟩ = some (.int .i64 a.q.id) := (by rw [cell_of_row _ _ _ _ _ _ hS]; rfl); have k4 : W.cell? ⟨ga, 4, none⟩ = some (.string a.q.who) := (by rw [cell_of_row _ _ _ _ _ _ hS]; rfl); have k5 : W.cell? ⟨ga, 5, none⟩ = some (.int .i64 a.q.entry) := (by rw [cell_of_row _ _ _ _ _ _ hS]; rfl); have k6 : W.cell? ⟨ga, 6, none⟩ = some (.string a.q.reason) := (by rw [cell_of_row _ _ _ _ _ _ hS]; rfl); have k7 : W.cell? ⟨ga, 7, none⟩ = some (.int .i64 a.q.exp) := (by rw [cell_of_row _ _ _ _ _ _ hS]; rfl); have k8 : W.cell? ⟨ga, 8, none⟩ = some (.string a.who) := (by rw [cell_of_row _ _ _ _ _ _ hS]; rfl); go_simp; try (with_reducible rfl))
    refine wpAnyH_ready (rs := [27]) (by kernel_rfl) (by simp) ?_
    refine AllReadyH.cons (i := 27) rfl (fun K hK => ?_) AllReadyH.nil
    go_simp
    refine (nids_any v5).mono ?_
    rintro e v6 ⟨rfl, hb⟩
    have F6 := F5.trans (hb.mono F5.size)
    have E6 : v6.heap[ga]? = some (.cells (acCs a) 25 (0, 0)) := (hb.block _ (blt_of_heap E5)).trans E5
    refine hK.out _ _ E6 (fun _ => ?_)
    clear hK K hb
    refine wpAnyH_take (i := 28) (v := ?_) rfl (by kernel_rfl) (by kernel_rfl) (by kernel_rfl) (fun _ _ _ h => h) (Or.inl ⟨by kernel_rfl, ?_⟩) E6 ?_
    rotate_left
    · (intro W hS; have k0 : W.cell? ⟨ga, 0, none⟩ = some (.int .i64 a.kind) := (by rw [cell_of_row _ _ _ _ _ _ hS]; rfl); have k1 : W.cell? ⟨ga, 1, none⟩ = some (.int .i64 a.id) := (by rw [cell_of_row _ _ _ _ _ _ hS]; rfl); have k2 : W.cell? ⟨ga, 2, none⟩ = some (.int .i64 a.now) := (by rw [cell_of_row _ _ _ _ _ _ hS]; rfl); have k3 : W.cell? ⟨ga, 3, none⟩ = some (.int .i64 a.q.id) := (by rw [cell_of_row _ _ _ _ _ _ hS]; rfl); have k4 : W.cell? ⟨ga, 4, none⟩ = some (.string a.q.who) := (by rw [cell_of_row _ _ _ _ _ _ hS]; rfl); have k5 : W.cell? ⟨ga, 5, none⟩ = some (.int .i64 a.q.entry) := (by rw [cell_of_row _ _ _ _ _ _ hS]; rfl); have k6 : W.cell? ⟨ga, 6, none⟩ = some (.string a.q.reason) := (by rw [cell_of_row _ _ _ _ _ _ hS]; rfl); have k7 : W.cell? ⟨ga, 7, none⟩ = some (.int .i64 a.q.exp) := (by rw [cell_of_row _ _ _ _ _ _ hS]; rfl); have k8 : W.cell? ⟨ga, 8, none⟩ = some (.string a.who) := (by rw [cell_of_row _ _ _ _ _ _ hS]; rfl); go_simp; try (with_reducible rfl))
    refine wpAnyH_take (i := 29) (v := ?_) rfl (by kernel_rfl) (by kernel_rfl) (by kernel_rfl) (fun _ _ _ h => h) (Or.inl ⟨by kernel_rfl, ?_⟩) E6 ?_
    rotate_left
    · (intro W hS; have k0 : W.cell? ⟨ga, 0, none⟩ = some (.int .i64 a.kind) := (by rw [cell_of_row _ _ _ _ _ _ hS]; rfl); have k1 : W.cell? ⟨ga, 1, none⟩ = some (.int .i64 a.id) := (by rw [cell_of_row _ _ _ _ _ _ hS]; rfl); have k2 : W.cell? ⟨ga, 2, none⟩ = some (.int .i64 a.now) := (by rw [cell_of_row _ _ _ _ _ _ hS]; rfl); have k3 : W.cell? ⟨ga, 3, none⟩ = some (.int .i64 a.q.id) := (by rw [cell_of_row _ _ _ _ _ _ hS]; rfl); have k4 : W.cell? ⟨ga, 4, none⟩ = some (.string a.q.who) := (by rw [cell_of_row _ _ _ _ _ _ hS]; rfl); have k5 : W.cell? ⟨ga, 5, none⟩ = some (.int .i64 a.q.entry) := (by rw [cell_of_row _ _ _ _ _ _ hS]; rfl); have k6 : W.cell? ⟨ga, 6, none⟩ = some (.string a.q.reason) := (by rw [cell_of_row _ _ _ _ _ _ hS]; rfl); have k7 : W.cell? ⟨ga, 7, none⟩ = some (.int .i64 a.q.exp) := (by rw [cell_of_row _ _ _ _ _ _ hS]; rfl); have k8 : W.cell? ⟨ga, 8, none⟩ = some (.string a.who) := (by rw [cell_of_row _ _ _ _ _ _ hS]; rfl); go_simp; try (with_reducible rfl))
    refine wpAnyH_take (i := 30) (v := ?_) rfl (by kernel_rfl) (by kernel_rfl) (by kernel_rfl) (fun _ _ _ h => h) (Or.inl ⟨by kernel_rfl, ?_⟩) E6 ?_
    rotate_left
    · (intro W hS; have k0 : W.cell? ⟨ga, 0, none⟩ = some (.int .i64 a.kind) := (by rw [cell_of_row _ _ _ _ _ _ hS]; rfl); have k1 : W.cell? ⟨ga, 1, none⟩ = some (.int .i64 a.id) := (by rw [cell_of_row _ _ _ _ _ _ hS]; rfl); have k2 : W.cell? ⟨ga, 2, none⟩ = some (.int .i64 a.now) := (by rw [cell_of_row _ _ _ _ _ _ hS]; rfl); have k3 : W.cell? ⟨ga, 3, none⟩ = some (.int .i64 a.q.id) := (by rw [cell_of_row _ _ _ _ _ _ hS]; rfl); have k4 : W.cell? ⟨ga, 4, none⟩ = some (.string a.q.who) := (by rw [cell_of_row _ _ _ _ _ _ hS]; rfl); have k5 : W.cell? ⟨ga, 5, none⟩ = some (.int .i64 a.q.entry) := (by rw [cell_of_row _ _ _ _ _ _ hS]; rfl); have k6 : W.cell? ⟨ga, 6, none⟩ = some (.string a.q.reason) := (by rw [cell_of_row _ _ _ _ _ _ hS]; rfl); have k7 : W.cell? ⟨ga, 7, none⟩ = some (.int .i64 a.q.exp) := (by rw [cell_of_row _ _ _ _ _ _ hS]; rfl); have k8 : W.cell? ⟨ga, 8, none⟩ = some (.string a.who) := (by rw [cell_of_row _ _ _ _ _ _ hS]; rfl); go_simp; try (with_reducible rfl))
    refine wpAnyH_take (i := 31) (v := ?_) rfl (by kernel_rfl) (by kernel_rfl) (by kernel_rfl) (fun _ _ _ h => h) (Or.inl ⟨by kernel_rfl, ?_⟩) E6 ?_
    rotate_left
    · (intro W hS; have k0 : W.cell? ⟨ga, 0, none⟩ = some (.int .i64 a.kind) := (by rw [cell_of_row _ _ _ _ _ _ hS]; rfl); have k1 : W.cell? ⟨ga, 1, none⟩ = some (.int .i64 a.id) := (by rw [cell_of_row _ _ _ _ _ _ hS]; rfl); have k2 : W.cell? ⟨ga, 2, none⟩ = some (.int .i64 a.now) := (by rw [cell_of_row _ _ _ _ _ _ hS]; rfl); have k3 : W.cell? ⟨ga, 3, none⟩ = some (.int .i64 a.q.id) := (by rw [cell_of_row _ _ _ _ _ _ hS]; rfl); have k4 : W.cell? ⟨ga, 4, none⟩ = some (.string a.q.who) := (by rw [cell_of_row _ _ _ _ _ _ hS]; rfl); have k5 : W.cell? ⟨ga, 5, none⟩ = some (.int .i64 a.q.entry) := (by rw [cell_of_row _ _ _ _ _ _ hS]; rfl); have k6 : W.cell? ⟨ga, 6, none⟩ = some (.string a.q.reason) := (by rw [cell_of_row _ _ _ _ _ _ hS]; rfl); have k7 : W.cell? ⟨ga, 7, none⟩ = some (.int .i64 a.q.exp) := (by rw [cell_of_row _ _ _ _ _ _ hS]; rfl); have k8 : W.cell? ⟨ga, 8, none⟩ = some (.string a.who) := (by rw [cell_of_row _ _ _ _ _ _ hS]; rfl); go_simp; try (with_reducible rfl))
    refine wpAnyH_take (i := 32) (v := ?_) rfl (by kernel_rfl) (by kernel_rfl) (by kernel_rfl) (fun _ _ _ h => h) (Or.inl ⟨by kernel_rfl, ?_⟩) E6 ?_
    rotate_left
    · (intro W hS; have k0 : W.cell? ⟨ga, 0, none⟩ = some (.int .i64 a.kind) := (by rw [cell_of_row _ _ _ _ _ _ hS]; rfl); have k1 : W.cell? ⟨ga, 1, none⟩ = some (.int .i64 a.id) := (by rw [cell_of_row _ _ _ _ _ _ hS]; rfl); have k2 : W.cell? ⟨ga, 2, none⟩ = some (.int .i64 a.now) := (by rw [cell_of_row _ _ _ _ _ _ hS]; rfl); have k3 : W.cell? ⟨ga, 3, none⟩ = some (.int .i64 a.q.id) := (by rw [cell_of_row _ _ _ _ _ _ hS]; rfl); have k4 : W.cell? ⟨ga, 4, none⟩ = some (.string a.q.who) := (by rw [cell_of_row _ _ _ _ _ _ hS]; rfl); have k5 : W.cell? ⟨ga, 5, none⟩ = some (.int .i64 a.q.entry) := (by rw [cell_of_row _ _ _ _ _ _ hS]; rfl); have k6 : W.cell? ⟨ga, 6, none⟩ = some (.string a.q.reason) := (by rw [cell_of_row _ _ _ _ _ _ hS]; rfl); have k7 : W.cell? ⟨ga, 7, none⟩ = some (.int .i64 a.q.exp) := (by rw [cell_of_row _ _ _ _ _ _ hS]; rfl); have k8 : W.cell? ⟨ga, 8, none⟩ = some (.string a.who) := (by rw [cell_of_row _ _ _ _ _ _ hS]; rfl); go_simp; try (with_reducible rfl))
    refine wpAnyH_take (i := 33) (v := ?_) rfl (by kernel_rfl) (by kernel_rfl) (by kernel_rfl) (fun _ _ _ h => h) (Or.inl ⟨by kernel_rfl, ?_⟩) E6 ?_
    rotate_left
    · (intro W hS; have k0 : W.cell? ⟨ga, 0, none⟩ = some (.int .i64 a.kind) := (by rw [cell_of_row _ _ _ _ _ _ hS]; rfl); have k1 : W.cell? ⟨ga, 1, none⟩ = some (.int .i64 a.id) := (by rw [cell_of_row _ _ _ _ _ _ hS]; rfl); have k2 : W.cell? ⟨ga, 2, none⟩ = some (.int .i64 a.now) := (by rw [cell_of_row _ _ _ _ _ _ hS]; rfl); have k3 : W.cell? ⟨ga, 3, none⟩ = some (.int .i64 a.q.id) := (by rw [cell_of_row _ _ _ _ _ _ hS]; rfl); have k4 : W.cell? ⟨ga, 4, none⟩ = some (.string a.q.who) := (by rw [cell_of_row _ _ _ _ _ _ hS]; rfl); have k5 : W.cell? ⟨ga, 5, none⟩ = some (.int .i64 a.q.entry) := (by rw [cell_of_row _ _ _ _ _ _ hS]; rfl); have k6 : W.cell? ⟨ga, 6, none⟩ = some (.string a.q.reason) := (by rw [cell_of_row _ _ _ _ _ _ hS]; rfl); have k7 : W.cell? ⟨ga, 7, none⟩ = some (.int .i64 a.q.exp) := (by rw [cell_of_row _ _ _ _ _ _ hS]; rfl); have k8 : W.cell? ⟨ga, 8, none⟩ = some (.string a.who) := (by rw [cell_of_row _ _ _ _ _ _ hS]; rfl); go_simp; try (with_reducible rfl))
    refine wpAnyH_ready (rs := [34]) (by kernel_rfl) (by simp) ?_
    refine AllReadyH.cons (i := 34) rfl (fun K hK => ?_) AllReadyH.nil
    go_simp
    refine (nclone_any v6).mono ?_
    rintro e v7 ⟨rfl, hb⟩
    have F7 := F6.trans (hb.mono F6.size)
    have E7 : v7.heap[ga]? = some (.cells (acCs a) 25 (0, 0)) := (hb.block _ (blt_of_heap E6)).trans E6
    refine hK.out _ _ E7 (fun _ => ?_)
    clear hK K hb
    refine wpAnyH_take (i := 35) (v := ?_) rfl (by kernel_rfl) (by kernel_rfl) (by kernel_rfl) (fun _ _ _ h => h) (Or.inl ⟨by kernel_rfl, ?_⟩) E7 ?_
    rotate_left
    · (intro W hS; have k0 : W.cell? ⟨ga, 0, none⟩ = some (.int .i64 a.kind) := (by rw [cell_of_row _ _ _ _ _ _ hS]; rfl); have k1 : W.cell? ⟨ga, 1, none⟩ = some (.int .i64 a.id) := (by rw [cell_of_row _ _ _ _ _ _ hS]; rfl); have k2 : W.cell? ⟨ga, 2, none⟩ = some (.int .i64 a.now) := (by rw [cell_of_row _ _ _ _ _ _ hS]; rfl); have k3 : W.cell? ⟨ga, 3, none⟩ = some (.int .i64 a.q.id) := (by rw [cell_of_row _ _ _ _ _ _ hS]; rfl); have k4 : W.cell? ⟨ga, 4, none⟩ = some (.string a.q.who) := (by rw [cell_of_row _ _ _ _ _ _ hS]; rfl); have k5 : W.cell? ⟨ga, 5, none⟩ = some (.int .i64 a.q.entry) := (by rw [cell_of_row _ _ _ _ _ _ hS]; rfl); have k6 : W.cell? ⟨ga, 6, none⟩ = some (.string a.q.reason) := (by rw [cell_of_row _ _ _ _ _ _ hS]; rfl); have k7 : W.cell? ⟨ga, 7, none⟩ = some (.int .i64 a.q.exp) := (by rw [cell_of_row _ _ _ _ _ _ hS]; rfl); have k8 : W.cell? ⟨ga, 8, none⟩ = some (.string a.who) := (by rw [cell_of_row _ _ _ _ _ _ hS]; rfl); go_simp; try (with_reducible rfl))
    refine wpAnyH_take (i := 36) (v := ?_) rfl (by kernel_rfl) (by kernel_rfl) (by kernel_rfl) (fun _ _ _ h => h) (Or.inl ⟨by kernel_rfl, ?_⟩) E7 ?_
    rotate_left
    · (intro W hS; have k0 : W.cell? ⟨ga, 0, none⟩ = some (.int .i64 a.kind) := (by rw [cell_of_row _ _ _ _ _ _ hS]; rfl); have k1 : W.cell? ⟨ga, 1, none⟩ = some (.int .i64 a.id) := (by rw [cell_of_row _ _ _ _ _ _ hS]; rfl); have k2 : W.cell? ⟨ga, 2, none⟩ = some (.int .i64 a.now) := (by rw [cell_of_row _ _ _ _ _ _ hS]; rfl); have k3 : W.cell? ⟨ga, 3, none⟩ = some (.int .i64 a.q.id) := (by rw [cell_of_row _ _ _ _ _ _ hS]; rfl); have k4 : W.cell? ⟨ga, 4, none⟩ = some (.string a.q.who) := (by rw [cell_of_row _ _ _ _ _ _ hS]; rfl); have k5 : W.cell? ⟨ga, 5, none⟩ = some (.int .i64 a.q.entry) := (by rw [cell_of_row _ _ _ _ _ _ hS]; rfl); have k6 : W.cell? ⟨ga, 6, none⟩ = some (.string a.q.reason) := (by rw [cell_of_row _ _ _ _ _ _ hS]; rfl); have k7 : W.cell? ⟨ga, 7, none⟩ = some (.int .i64 a.q.exp) := (by rw [cell_of_row _ _ _ _ _ _ hS]; rfl); have k8 : W.cell? ⟨ga, 8, none⟩ = some (.string a.who) := (by rw [cell_of_row _ _ _ _ _ _ hS]; rfl); go_simp; try (with_reducible rfl))
    refine wpAnyH_take (i := 37) (v := ?_) rfl (by kernel_rfl) (by kernel_rfl) (by kernel_rfl) (fun _ _ _ h => h) (Or.inl ⟨by kernel_rfl, ?_⟩) E7 ?_
    rotate_left
    · (intro W hS; have k0 : W.cell? ⟨ga, 0, none⟩ = some (.int .i64 a.kind) := (by rw [cell_of_row _ _ _ _ _ _ hS]; rfl); have k1 : W.cell? ⟨ga, 1, none⟩ = some (.int .i64 a.id) := (by rw [cell_of_row _ _ _ _ _ _ hS]; rfl); have k2 : W.cell? ⟨ga, 2, none⟩ = some (.int .i64 a.now) := (by rw [cell_of_row _ _ _ _ _ _ hS]; rfl); have k3 : W.cell? ⟨ga, 3, none⟩ = some (.int .i64 a.q.id) := (by rw [cell_of_row _ _ _ _ _ _ hS]; rfl); have k4 : W.cell? ⟨ga, 4, none⟩ = some (.string a.q.who) := (by rw [cell_of_row _ _ _ _ _ _ hS]; rfl); have k5 : W.cell? ⟨ga, 5, none⟩ = some (.int .i64 a.q.entry) := (by rw [cell_of_row _ _ _ _ _ _ hS]; rfl); have k6 : W.cell? ⟨ga, 6, none⟩ = some (.string a.q.reason) := (by rw [cell_of_row _ _ _ _ _ _ hS]; rfl); have k7 : W.cell? ⟨ga, 7, none⟩ = some (.int .i64 a.q.exp) := (by rw [cell_of_row _ _ _ _ _ _ hS]; rfl); have k8 : W.cell? ⟨ga, 8, none⟩ = some (.string a.who) := (by rw [cell_of_row _ _ _ _ _ _ hS]; rfl); go_simp; try (with_reducible rfl))
    refine wpAnyH_done (by kernel_rfl) ?_ _
    go_simp
    have HE := Lib.hid F7
    clear F0 F7 E0 E1 E2 E3 E4 E5 E6 E7
    go_wp2_with fail
    go_ret
    exact ⟨rfl, H4.out.1.trans (HE.out.mono H4.out.1.size)⟩
end Go.Proofs.Ytnkkbinbeildmab

namespace Go.Proofs.Ytnkkbinbeildmab.requestNilLaw
open Go.ChangeShapes Go.WideShapes Go.ChangeAt Go.RowKit
open Go.ChangeMaps (open_string shut_string)

theorem own : ownKnob Try.prog.godebug = none := by kernel_rfl
set_option maxRecDepth 100000 in
theorem lifted (os : Os) (started : os.Started) (H : Type) (enc : TypeId × Value → H) :
    ReturnsInHanded {} Try.checked os 3 .any (Rows.requestNilSpec.pre6 enc Try.prog Try.f3 Rows.requestNilRow.domain false) (Rows.requestNilSpec.post enc Try.prog Try.f3 false true false false) := by
  refine returnsInHanded_of_change (C := Try.checked) own started (by kernel_rfl) Try.func3
    (ChangeSpec.witness6 (enc := enc) (C := Try.checked) false ⟨#[], #[.agg #[.int .i64 0, .int .i64 0, .int .i64 0, .int .i64 0, .string ⟨#[]⟩, .int .i64 0, .string ⟨#[]⟩, .int .i64 0, .string ⟨#[]⟩]], []⟩ 8 (by kernel_rfl) (by kernel_rfl) (by kernel_rfl) (by kernel_rfl)) ?_
  intro W base args ds gs before hval0 hW hcnd _
  have hval : ∀ (j : Nat) t v, Try.f3.params[j]? = some t → args[j]? = some v → Value.okWide Try.prog W .any base t v := hval0
  have hW' := hW
  obtain ⟨p, q, hA0, hV, rfl, hfz, hnd⟩ := hW
  have hA : DataW.TrodAll enc Try.prog W 0 (fun _ => true) true Try.f3.params.toList args.toList ds p := hA0
  rw [Try.params3] at hA hval
  obtain ⟨v0, vs0, d0, ds0, p0, q0, hargs, rfl, rfl, h0, r0⟩ := trodAll_cons hA
  obtain ⟨rfl, rfl, rfl⟩ := trodAll_nil r0
  obtain rfl : args = #[v0] := by cases args; simp_all
  obtain ⟨rfl, rfl⟩ := trodVars_none hV
  obtain ⟨cs0, rfl, hcs0⟩ := okWide_struct Try.underlying25 (hval 0 25 v0 rfl rfl)
  have hk0 := h0
  obtain ⟨fuel0, hf0⟩ := h0
  clear hA0 hval0
  simp only [List.append_nil] at hW'
  have hlt0 : ∀ x ∈ p0, x.block < W.heap.size := fun x hx => by simpa using hW'.lt x (by simp [hx])
  obtain ⟨x0a, hit0, hf0a⟩ := open_act21 hf0
  obtain rfl : cs0 = acCs x0a := Array.toList_inj.1 hit0
  refine (bnil_law x0a hf0a (w := W)).mono fun e W' ⟨he, hb⟩ => ?_
  subst he
  exact ⟨_, rfl, _, _, _, [], _, [], hW', trodAll_cons_mk (shut_bool Try.underlying4 _) trodAll_mk0, (trodAll_cons_mk (Below.trod laidOut (by kernel_rfl) (of_decide_eq_true (by kernel_rfl)) hk0 hb hlt0) trodAll_mk0), rfl, hb.frame _, fun h => by cases h⟩
theorem over : Rows.requestNilRow.holds Try.pinned (OpenSpec.ofChange Rows.requestNilSpec) :=
  OpenClaim.holds_of_wide 3 Try.f3 rfl rfl rfl rfl rfl rfl rfl ⟨rfl, rfl, rfl, rfl, rfl⟩ rfl rfl rfl rfl rfl (by kernel_rfl) Try.func3 (by kernel_rfl)
    (of_decide_eq_true (by kernel_rfl)) (by unfold Func.isWrapper; first | (rw [if_pos (by decide +kernel)]; kernel_rfl) | (rw [if_neg (by decide +kernel)]; exact ⟨rfl, rfl⟩))
    (fun os started H enc _ => lifted os started H enc)
end Go.Proofs.Ytnkkbinbeildmab.requestNilLaw

namespace Go.Proofs.Ytnkkbinbeildmab
theorem requestNil_said : Rows.RequestNilSaid := requestNilLaw.over
end Go.Proofs.Ytnkkbinbeildmab
