/- The reference of disk: Do: what is refused. -/
import Derived.Test.YtefpfedpgedloaaDRDoA
import Derived.Deep.DeepCutAuto
namespace Go.Proofs.Ytefpfedpgedloaa
open Go.RowKit
open Dk

/-- The cells of a disk that is up. -/
def rcF (R : Disk) (sv wv : Value) : Array Value := #[.int .i64 R.room, sv, wv, .int .i64 R.changes, .int .i64 R.falls, .bool false, .int .i64 R.after, .int .i64 R.keep, .int .i64 R.torn, .bool R.laid]
theorem rc_false {R : Disk} (hd : R.down = false) (sv wv : Value) : refCells R sv wv = rcF R sv wv := by unfold refCells rcF; rw [hd]
theorem rcF_cell {w : World} {g : Nat} {R : Disk} {sv wv : Value} {t : TypeId} (h : w.heap[g]? = some (.cells (rcF R sv wv) t (0, 0))) :
    w.cell? ⟨g, 0, none⟩ = some (.int .i64 R.room) ∧ w.cell? ⟨g, 1, none⟩ = some sv ∧ w.cell? ⟨g, 2, none⟩ = some wv ∧ w.cell? ⟨g, 3, none⟩ = some (.int .i64 R.changes) ∧ w.cell? ⟨g, 4, none⟩ = some (.int .i64 R.falls) ∧
    w.cell? ⟨g, 5, none⟩ = some (.bool false) ∧ w.cell? ⟨g, 6, none⟩ = some (.int .i64 R.after) ∧ w.cell? ⟨g, 7, none⟩ = some (.int .i64 R.keep) ∧ w.cell? ⟨g, 8, none⟩ = some (.int .i64 R.torn) ∧ w.cell? ⟨g, 9, none⟩ = some (.bool R.laid) := by
  refine ⟨?_, ?_, ?_, ?_, ?_, ?_, ?_, ?_, ?_, ?_⟩ <;> (rw [cell_of_row _ _ _ _ _ _ h]; rfl)
set_option maxRecDepth 100000 in
set_option maxHeartbeats 2000000 in
theorem rdo_down {w : World} {S : Nat → Prop} {cells : Array Value} {R : Disk} (h : RefIn w S cells R) (kind : Nat) (x long : Int) (text : ByteArray) (hd : R.down = true) :
    Calls Try.prog 32 #[.agg cells, .agg #[.int .i64 (kind : Int), .int .i64 x, .string text, .int .i64 long]] w fun e w' => ∃ cells', e = .returned (.tuple #[.agg cells', .int .i64 9]) ∧ RefIn w' S cells' R ∧ Below w.heap.size w w' := by
  have hin := h
  obtain ⟨sv, wv, rfl, hsv, hwv⟩ := h
  obtain ⟨sa, sc, rfl⟩ := hsv.form
  obtain ⟨wa, wc, rfl⟩ := hwv.form
  have hst := doS_start w (refCells R (.slice sa R.sure.length sc) (.slice wa R.waits.length wc)) #[.int .i64 (kind : Int), .int .i64 x, .string text, .int .i64 long]
  obtain ⟨w1, hw1⟩ : ∃ w1, w1 = ((w.alloc (.cells (refCells R (.slice sa R.sure.length sc) (.slice wa R.waits.length wc)) 32)).alloc (.cells #[.int .i64 (kind : Int), .int .i64 x, .string text, .int .i64 long] 66)).alloc (.cells zeroRef 32) := ⟨_, rfl⟩
  rw [← hw1] at hst
  obtain ⟨a0, a1, a2, a3, a4, a5, a6, a7, a8, a9⟩ := ref_cell hst.b0
  obtain ⟨x0, x1, x2, x3⟩ := chg_box hst
  obtain ⟨e0, e1, e2, e3, e4, e5, e6, e7, e8, e9, f1⟩ := res_box hst
  rw [hd] at a5
  have H := Lib.hid (And.intro hin (And.intro hst hd))
  clear hsv hwv hin hst hd
  unfold refCells zeroRef at *
  go_enter Try.func32, Try.ntmps32
  go_upto_region 1 with fail
  rw [← hw1]
  clear hw1
  go_wp2_with fail
  refine bodyPost_ret (v := .tuple #[.agg #[.int .i64 R.room, .slice sa R.sure.length sc, .slice wa R.waits.length wc, .int .i64 R.changes, .int .i64 R.falls, .bool true, .int .i64 R.after, .int .i64 R.keep, .int .i64 R.torn, .bool R.laid], .int .i64 9]) (by simp [results, Try.results32, go_sem, e0, e1, e2, e3, e4, e5, e6, e7, e8, e9]) rfl ?_
  have hx := do_same H.out.2.1 H.out.1 #[.int .i64 R.room, .slice sa R.sure.length sc, .slice wa R.waits.length wc, .int .i64 R.changes, .int .i64 R.falls, .bool true, .int .i64 R.after, .int .i64 R.keep, .int .i64 R.torn, .bool R.laid].toList
  rw [H.out.2.2] at hx
  exact ⟨_, rfl, hx.1, hx.2⟩
set_option maxRecDepth 100000 in
set_option maxHeartbeats 2000000 in
theorem rdo_far {w : World} {S : Nat → Prop} {cells : Array Value} {R : Disk} (h : RefIn w S cells R) (kind : Nat) (x long : Int) (text : ByteArray) (hd : R.down = false) (hn : R.sure.length ≤ 64) (hx : x < 0 ∨ (R.sure.length : Int) ≤ x) :
    Calls Try.prog 32 #[.agg cells, .agg #[.int .i64 (kind : Int), .int .i64 x, .string text, .int .i64 long]] w fun e w' => ∃ cells', e = .returned (.tuple #[.agg cells', .int .i64 1]) ∧ RefIn w' S cells' R ∧ Below w.heap.size w w' := by
  have hin := h
  obtain ⟨sv, wv, rfl, hsv, hwv⟩ := h
  obtain ⟨sa, sc, rfl⟩ := hsv.form
  obtain ⟨wa, wc, rfl⟩ := hwv.form
  have hst := doS_start w (refCells R (.slice sa R.sure.length sc) (.slice wa R.waits.length wc)) #[.int .i64 (kind : Int), .int .i64 x, .string text, .int .i64 long]
  obtain ⟨w1, hw1⟩ : ∃ w1, w1 = ((w.alloc (.cells (refCells R (.slice sa R.sure.length sc) (.slice wa R.waits.length wc)) 32)).alloc (.cells #[.int .i64 (kind : Int), .int .i64 x, .string text, .int .i64 long] 66)).alloc (.cells zeroRef 32) := ⟨_, rfl⟩
  rw [← hw1] at hst
  obtain ⟨a0, a1, a2, a3, a4, a5, a6, a7, a8, a9⟩ := ref_cell hst.b0
  obtain ⟨x0, x1, x2, x3⟩ := chg_box hst
  obtain ⟨e0, e1, e2, e3, e4, e5, e6, e7, e8, e9, f1⟩ := res_box hst
  rw [hd] at a5
  have H := Lib.hid (And.intro hin (And.intro hst hd))
  have hni : (R.sure.length : Int) ≤ 64 := by omega
  clear hsv hwv hin hst hd
  by_cases hx0 : x < 0
  · clear hx
    unfold refCells zeroRef at *
    go_enter Try.func32, Try.ntmps32
    go_upto_region 1 with fail
    rw [← hw1]
    clear hw1
    go_wp2_with fail
    refine bodyPost_ret (v := .tuple #[.agg #[.int .i64 R.room, .slice sa R.sure.length sc, .slice wa R.waits.length wc, .int .i64 R.changes, .int .i64 R.falls, .bool false, .int .i64 R.after, .int .i64 R.keep, .int .i64 R.torn, .bool R.laid], .int .i64 1]) (by simp [results, Try.results32, go_sem, e0, e1, e2, e3, e4, e5, e6, e7, e8, e9]) rfl ?_
    have hx := do_same H.out.2.1 H.out.1 #[.int .i64 R.room, .slice sa R.sure.length sc, .slice wa R.waits.length wc, .int .i64 R.changes, .int .i64 R.falls, .bool false, .int .i64 R.after, .int .i64 R.keep, .int .i64 R.torn, .bool R.laid].toList
    rw [H.out.2.2] at hx
    exact ⟨_, rfl, hx.1, hx.2⟩
  · have hx1 : (R.sure.length : Int) ≤ x := by omega
    clear hx
    unfold refCells zeroRef at *
    go_enter Try.func32, Try.ntmps32
    go_upto_region 1 with fail
    rw [← hw1]
    clear hw1
    go_wp2_with fail
    refine bodyPost_ret (v := .tuple #[.agg #[.int .i64 R.room, .slice sa R.sure.length sc, .slice wa R.waits.length wc, .int .i64 R.changes, .int .i64 R.falls, .bool false, .int .i64 R.after, .int .i64 R.keep, .int .i64 R.torn, .bool R.laid], .int .i64 1]) (by simp [results, Try.results32, go_sem, e0, e1, e2, e3, e4, e5, e6, e7, e8, e9]) rfl ?_
    have hx := do_same H.out.2.1 H.out.1 #[.int .i64 R.room, .slice sa R.sure.length sc, .slice wa R.waits.length wc, .int .i64 R.changes, .int .i64 R.falls, .bool false, .int .i64 R.after, .int .i64 R.keep, .int .i64 R.torn, .bool R.laid].toList
    rw [H.out.2.2] at hx
    exact ⟨_, rfl, hx.1, hx.2⟩
set_option maxRecDepth 100000 in
set_option maxHeartbeats 2000000 in
theorem rdo_late {w : World} {S : Nat → Prop} {cells : Array Value} {R : Disk} (h : RefIn w S cells R) (kind : Nat) (m : Nat) (long : Int) (text : ByteArray) (hS : ∀ g, w.heap.size ≤ g → S g) (hF : Fits R.sure R.waits) (hn : R.sure.length ≤ 64) (hw : R.waits.length ≤ 1000000) (hd : R.down = false) (hm : m < R.sure.length) (hr0 : 1 ≤ R.room) (hr1 : R.room ≤ 65536) (E : Int) (hE : (kind = 1 ∧ (long < 0 ∨ ((exAt R.now m).size : Int) < long) ∧ E = 1) ∨ (kind = 0 ∧ R.room - ((exAt R.now m).size : Int) < (text.size : Int) ∧ E = 6)) :
    Calls Try.prog 32 #[.agg cells, .agg #[.int .i64 (kind : Int), .int .i64 (m : Int), .string text, .int .i64 long]] w fun e w' => ∃ cells', e = .returned (.tuple #[.agg cells', .int .i64 E]) ∧ RefIn w' S cells' R ∧ Below w.heap.size w w' := by
  have hin := h
  obtain ⟨sv, wv, rfl, hsv, hwv⟩ := h
  obtain ⟨sa, sc, rfl⟩ := hsv.form
  obtain ⟨wa, wc, rfl⟩ := hwv.form
  rw [rc_false hd] at hin ⊢
  have hst := doS_start w (rcF R (.slice sa R.sure.length sc) (.slice wa R.waits.length wc)) #[.int .i64 (kind : Int), .int .i64 (m : Int), .string text, .int .i64 long]
  obtain ⟨w1, hw1⟩ : ∃ w1, w1 = ((w.alloc (.cells (rcF R (.slice sa R.sure.length sc) (.slice wa R.waits.length wc)) 32)).alloc (.cells #[.int .i64 (kind : Int), .int .i64 (m : Int), .string text, .int .i64 long] 66)).alloc (.cells zeroRef 32) := ⟨_, rfl⟩
  rw [← hw1] at hst
  have hnow := fun (W : World) (hW : DoS w (rcF R (.slice sa R.sure.length sc) (.slice wa R.waits.length wc)) #[.int .i64 (kind : Int), .int .i64 (m : Int), .string text, .int .i64 long] W) => rnow_any (hW.ref hin) (fun g hg => ⟨hS g (by have := hW.lt; omega), by have := hW.lt; omega, by have := hW.lt; omega, by have := hW.lt; omega⟩) hF hn (by omega)
  have hsz := hF.all.at m
  change (exAt R.now m).size ≤ 65536 at hsz
  obtain ⟨a0, a1, a2, a3, a4, a5, a6, a7, a8, a9⟩ := rcF_cell (R := R) (sv := .slice sa R.sure.length sc) (wv := .slice wa R.waits.length wc) hst.b0
  obtain ⟨x0, x1, x2, x3⟩ := chg_box hst
  obtain ⟨e0, e1, e2, e3, e4, e5, e6, e7, e8, e9, f1⟩ := res_box hst
  have H := Lib.hid (And.intro hin (And.intro hst hnow))
  have hni : (R.sure.length : Int) ≤ 64 := by omega
  have hmi : (m : Int) < R.sure.length := by omega
  clear hsv hwv hin hst hd hnow hS hF hn hw
  rcases hE with ⟨hk, hl, rfl⟩ | ⟨hk, hf, rfl⟩
  · have k1 : ((kind : Int) == 1) = true := by rw [hk]; rfl
    obtain ⟨s, hs⟩ : ∃ s, s = exAt R.now m := ⟨_, rfl⟩
    rw [← hs] at hl hsz
    clear hk
    unfold rcF zeroRef at *
    go_enter Try.func32, Try.ntmps32
    go_upto_region 1 with fail
    rw [← hw1]
    clear hw1
    go_wp2_with fail
    clear a0 a1 a2 a3 a4 a5 a6 a7 a8 a9 x0 x1 x2 x3 e0 e1 e2 e3 e4 e5 e6 e7 e8 e9 f1
    have C := H.out.2.1.drew
    refine wp_region_held (S := DoS w (rcF R (.slice sa R.sure.length sc) (.slice wa R.waits.length wc)) #[.int .i64 (kind : Int), .int .i64 (m : Int), .string text, .int .i64 long]) (by kernel_rfl) ?_
    change wpAnyH _ _ _ _ _ _ _ _ (World.drew _)
    generalize World.drew _ = wh at *
    refine wpAnyH_take (i := 0) (v := ?_) rfl (by kernel_rfl) (by kernel_rfl) (by kernel_rfl) (fun _ _ _ h => h) (Or.inl ⟨by kernel_rfl, ?_⟩) C ?_
    rotate_left
    · (intro W hS; obtain ⟨a0, a1, a2, a3, a4, a5, a6, a7, a8, a9⟩ := rcF_cell (R := R) (sv := .slice sa R.sure.length sc) (wv := .slice wa R.waits.length wc) hS.b0; clear hS; go_simp; try (with_reducible rfl))
    refine wpAnyH_take (i := 2) (v := ?_) rfl (by kernel_rfl) (by kernel_rfl) (by kernel_rfl) (fun _ _ _ h => h) (Or.inl ⟨by kernel_rfl, ?_⟩) C ?_
    rotate_left
    · (intro W hS; clear hS; go_simp; try (with_reducible rfl))
    refine wpAnyH_take (i := 3) (v := ?_) rfl (by kernel_rfl) (by kernel_rfl) (by kernel_rfl) (fun _ _ _ h => h) (Or.inl ⟨by kernel_rfl, ?_⟩) C ?_
    rotate_left
    · (intro W hS; obtain ⟨x0, x1, x2, x3⟩ := chg_box hS; clear hS; go_simp; try (with_reducible rfl))
    refine wpAnyH_ready (rs := [1]) (by kernel_rfl) (by simp) ?_
    refine AllReadyH.cons rfl (fun K hK => ?_) AllReadyH.nil
    go_simp
    refine (H.out.2.2 wh C).mono ?_
    rintro e w2 ⟨v2, rfl, ht2, hb2⟩
    have C := C.call hb2
    refine hK.out _ _ C (fun _ => ?_)
    clear hK K hb2
    obtain ⟨av, cv, rfl⟩ := ht2.form
    rw [R.now_length] at ht2 ⊢
    obtain ⟨g, rfl, hg, q⟩ := ht2.at (show m < R.now.length by rw [R.now_length]; exact hm)
    refine wpAnyH_take (i := 4) (v := ?_) rfl (by kernel_rfl) (by kernel_rfl) (by kernel_rfl) (fun _ _ _ h => h) (Or.inl ⟨by kernel_rfl, ?_⟩) C ?_
    rotate_left
    · (intro W hS; clear hS; go_simp; try (with_reducible rfl))
    refine wpAnyH_ready (rs := [5]) (by kernel_rfl) (by simp) ?_
    refine AllReadyH.cons rfl (fun K hK => ?_) AllReadyH.nil
    go_simp
    refine hK.out _ _ C (fun _ => ?_)
    clear hK K
    refine wpAnyH_take (i := 6) (v := ?_) rfl (by kernel_rfl) (by kernel_rfl) (by kernel_rfl) (fun _ _ _ h => h) (Or.inl ⟨by kernel_rfl, ?_⟩) C ?_
    rotate_left
    · (intro W hS; clear hS; go_simp; try (with_reducible rfl))
    refine wpAnyH_done (by kernel_rfl) ?_ _
    rw [← hs]
    clear hs
    obtain ⟨a0, a1, a2, a3, a4, a5, a6, a7, a8, a9⟩ := rcF_cell (R := R) (sv := .slice sa R.sure.length sc) (wv := .slice wa R.waits.length wc) C.b0
    obtain ⟨x0, x1, x2, x3⟩ := chg_box C
    obtain ⟨e0, e1, e2, e3, e4, e5, e6, e7, e8, e9, f1⟩ := res_box C
    have HC := Lib.hid C
    clear C ht2 q
    by_cases hl0 : long < 0
    · clear hl
      go_wp2_with fail
      refine bodyPost_ret (v := .tuple #[.agg #[.int .i64 R.room, .slice sa R.sure.length sc, .slice wa R.waits.length wc, .int .i64 R.changes, .int .i64 R.falls, .bool false, .int .i64 R.after, .int .i64 R.keep, .int .i64 R.torn, .bool R.laid], .int .i64 1]) (by simp [results, Try.results32, go_sem, e0, e1, e2, e3, e4, e5, e6, e7, e8, e9]) rfl ?_
      have hx := do_same HC.out H.out.1 (rcF R (.slice sa R.sure.length sc) (.slice wa R.waits.length wc)).toList
      exact ⟨_, rfl, hx.1, hx.2⟩
    · have hl1 : (s.size : Int) < long := by omega
      clear hl
      go_wp2_with fail
      refine bodyPost_ret (v := .tuple #[.agg #[.int .i64 R.room, .slice sa R.sure.length sc, .slice wa R.waits.length wc, .int .i64 R.changes, .int .i64 R.falls, .bool false, .int .i64 R.after, .int .i64 R.keep, .int .i64 R.torn, .bool R.laid], .int .i64 1]) (by simp [results, Try.results32, go_sem, e0, e1, e2, e3, e4, e5, e6, e7, e8, e9]) rfl ?_
      have hx := do_same HC.out H.out.1 (rcF R (.slice sa R.sure.length sc) (.slice wa R.waits.length wc)).toList
      exact ⟨_, rfl, hx.1, hx.2⟩
  · have k1 : ((kind : Int) == 1) = false := by rw [hk]; rfl
    have k0 : ((kind : Int) == 0) = true := by rw [hk]; rfl
    obtain ⟨s, hs⟩ : ∃ s, s = exAt R.now m := ⟨_, rfl⟩
    rw [← hs] at hf hsz
    clear hk
    unfold rcF zeroRef at *
    go_enter Try.func32, Try.ntmps32
    go_upto_region 1 with fail
    rw [← hw1]
    clear hw1
    go_wp2_with fail
    clear a0 a1 a2 a3 a4 a5 a6 a7 a8 a9 x0 x1 x2 x3 e0 e1 e2 e3 e4 e5 e6 e7 e8 e9 f1
    have C := H.out.2.1.drew
    refine wp_region_held (S := DoS w (rcF R (.slice sa R.sure.length sc) (.slice wa R.waits.length wc)) #[.int .i64 (kind : Int), .int .i64 (m : Int), .string text, .int .i64 long]) (by kernel_rfl) ?_
    change wpAnyH _ _ _ _ _ _ _ _ (World.drew _)
    generalize World.drew _ = wh at *
    refine wpAnyH_take (i := 0) (v := ?_) rfl (by kernel_rfl) (by kernel_rfl) (by kernel_rfl) (fun _ _ _ h => h) (Or.inl ⟨by kernel_rfl, ?_⟩) C ?_
    rotate_left
    · (intro W hS; obtain ⟨a0, a1, a2, a3, a4, a5, a6, a7, a8, a9⟩ := rcF_cell (R := R) (sv := .slice sa R.sure.length sc) (wv := .slice wa R.waits.length wc) hS.b0; clear hS; go_simp; try (with_reducible rfl))
    refine wpAnyH_take (i := 2) (v := ?_) rfl (by kernel_rfl) (by kernel_rfl) (by kernel_rfl) (fun _ _ _ h => h) (Or.inl ⟨by kernel_rfl, ?_⟩) C ?_
    rotate_left
    · (intro W hS; clear hS; go_simp; try (with_reducible rfl))
    refine wpAnyH_take (i := 3) (v := ?_) rfl (by kernel_rfl) (by kernel_rfl) (by kernel_rfl) (fun _ _ _ h => h) (Or.inl ⟨by kernel_rfl, ?_⟩) C ?_
    rotate_left
    · (intro W hS; obtain ⟨x0, x1, x2, x3⟩ := chg_box hS; clear hS; go_simp; try (with_reducible rfl))
    refine wpAnyH_ready (rs := [1]) (by kernel_rfl) (by simp) ?_
    refine AllReadyH.cons rfl (fun K hK => ?_) AllReadyH.nil
    go_simp
    refine (H.out.2.2 wh C).mono ?_
    rintro e w2 ⟨v2, rfl, ht2, hb2⟩
    have C := C.call hb2
    refine hK.out _ _ C (fun _ => ?_)
    clear hK K hb2
    obtain ⟨av, cv, rfl⟩ := ht2.form
    rw [R.now_length] at ht2 ⊢
    obtain ⟨g, rfl, hg, q⟩ := ht2.at (show m < R.now.length by rw [R.now_length]; exact hm)
    refine wpAnyH_take (i := 4) (v := ?_) rfl (by kernel_rfl) (by kernel_rfl) (by kernel_rfl) (fun _ _ _ h => h) (Or.inl ⟨by kernel_rfl, ?_⟩) C ?_
    rotate_left
    · (intro W hS; clear hS; go_simp; try (with_reducible rfl))
    refine wpAnyH_ready (rs := [5]) (by kernel_rfl) (by simp) ?_
    refine AllReadyH.cons rfl (fun K hK => ?_) AllReadyH.nil
    go_simp
    refine hK.out _ _ C (fun _ => ?_)
    clear hK K
    refine wpAnyH_take (i := 6) (v := ?_) rfl (by kernel_rfl) (by kernel_rfl) (by kernel_rfl) (fun _ _ _ h => h) (Or.inl ⟨by kernel_rfl, ?_⟩) C ?_
    rotate_left
    · (intro W hS; clear hS; go_simp; try (with_reducible rfl))
    refine wpAnyH_done (by kernel_rfl) ?_ _
    rw [← hs]
    clear hs
    obtain ⟨a0, a1, a2, a3, a4, a5, a6, a7, a8, a9⟩ := rcF_cell (R := R) (sv := .slice sa R.sure.length sc) (wv := .slice wa R.waits.length wc) C.b0
    obtain ⟨x0, x1, x2, x3⟩ := chg_box C
    obtain ⟨e0, e1, e2, e3, e4, e5, e6, e7, e8, e9, f1⟩ := res_box C
    have HC := Lib.hid C
    clear C ht2 q
    go_wp2_with fail
    refine bodyPost_ret (v := .tuple #[.agg #[.int .i64 R.room, .slice sa R.sure.length sc, .slice wa R.waits.length wc, .int .i64 R.changes, .int .i64 R.falls, .bool false, .int .i64 R.after, .int .i64 R.keep, .int .i64 R.torn, .bool R.laid], .int .i64 6]) (by simp [results, Try.results32, go_sem, e0, e1, e2, e3, e4, e5, e6, e7, e8, e9]) rfl ?_
    have hx := do_same HC.out H.out.1 (rcF R (.slice sa R.sure.length sc) (.slice wa R.waits.length wc)).toList
    exact ⟨_, rfl, hx.1, hx.2⟩
end Go.Proofs.Ytefpfedpgedloaa
