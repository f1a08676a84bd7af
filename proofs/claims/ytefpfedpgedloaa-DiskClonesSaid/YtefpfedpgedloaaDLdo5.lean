/- The law's 'do', at acts of kind 5. -/
import Derived.Test.YtefpfedpgedloaaDLdoB
import Derived.Deep.DeepCutAuto
import Derived.Deep.RegionWith
namespace Go.Proofs.Ytefpfedpgedloaa
open Go.RowKit
open Dk

set_option maxRecDepth 100000 in
set_option maxHeartbeats 2000000 in
theorem ldo5 {V : Nat → Prop} {w : World} {ρ : Nat → Nat} {b : Nat} {D R : Disk} {cells : Array Value} {x : Deed} (hd : DiskAt w ρ b D) (hr : RefIn w (fun g => ρ g = 0 ∧ V g) cells R) (hk : x.kind = 5) :
    Calls Try.prog 14 #[.pointer (some ⟨b, 0, none⟩), .agg cells, .agg x.cells] w fun e w' => ∃ cells' t, e = .returned (.tuple #[.agg cells', .bool t]) ∧ (D = R → t = true) ∧ ∃ ρ', DiskAt w' ρ' b (D.up) ∧ RefIn w' (fun g => ρ' g = 0 ∧ V g) cells' (R.up) ∧ Touch RA ρ ρ' w w' := by
  have hin := hr
  obtain ⟨sv, wv, rfl, hsv, hwv⟩ := hr
  obtain ⟨sa, sc, rfl⟩ := hsv.form
  obtain ⟨wa, wc, rfl⟩ := hwv.form
  obtain ⟨w1, hw1⟩ : ∃ w1, w1 = ((w.alloc (.cells (refCells R (.slice sa R.sure.length sc) (.slice wa R.waits.length wc)) 32)).alloc (.cells x.cells 39)).alloc (.cells zeroRef 32) := ⟨_, rfl⟩
  have hst := Lds.start hd (refCells R (.slice sa R.sure.length sc) (.slice wa R.waits.length wc)) x hw1
  have hrf := hst.ref hin
  obtain ⟨a0, a1, a2, a3, a4, a5, a6, a7, a8, a9⟩ := ref_cell hst.b0
  obtain ⟨x0, x1, x2, x3, x4, x5, x6⟩ := act_box hst
  obtain ⟨e0, e1, e2, e3, e4, e5, e6, e7, e8, e9, f1⟩ := zero_box hst
  have k0 : (x.kind == 0) = false := by rw [hk]; rfl
  have k1 : (x.kind == 1) = false := by rw [hk]; rfl
  have k2 : (x.kind == 2) = false := by rw [hk]; rfl
  have k3 : (x.kind == 3) = false := by rw [hk]; rfl
  have k4 : (x.kind == 4) = false := by rw [hk]; rfl
  have k5 : (x.kind == 5) = true := by rw [hk]; rfl
  have k6 : (x.kind == 6) = false := by rw [hk]; rfl
  have f0 := ref_frozen hst
  have H := Lib.hid (And.intro hst (And.intro hrf trivial))
  clear hst hrf hin hd hsv hwv hk 
  unfold refCells zeroRef Deed.cells at *
  go_enter Try.func14, Try.ntmps14
  go_upto_region 1 with fail
  rw [← hw1]
  clear hw1
  go_wp2_with fail
  obtain ⟨w3, hw3⟩ : ∃ w3, w3 = w1.setCell ⟨w.heap.size, 5, none⟩ (.bool false) := ⟨_, rfl⟩
  rw [← hw3]
  have C3 : Lds w ρ ρ b D (refCells R.up (.slice sa R.sure.length sc) (.slice wa R.waits.length wc)) x w3 := by rw [hw3]; exact H.out.1.put 5 (.bool false)
  have hR3 : RefIn w3.drew (Sx V w ρ) (refCells R.up (.slice sa R.sure.length sc) (.slice wa R.waits.length wc)) R.up := by
    obtain ⟨sv', wv', e, h1, h2⟩ := ref_put H.out.2.1 5 (.bool false)
    rw [← hw3] at h1 h2
    injection e with e
    simp only [List.cons.injEq] at e
    rw [← e.2.1] at h1
    rw [← e.2.2.1] at h2
    have h3 : RefIn w3 (Sx V w ρ) (refCells R.up (.slice sa R.sure.length sc) (.slice wa R.waits.length wc)) R.up := ⟨_, _, rfl, h1, h2⟩
    exact h3.kept ⟨fun g hg _ => ⟨hg, rfl⟩, Nat.le_refl _⟩
  clear hw3 a0 a1 a2 a3 a4 a5 a6 a7 a8 a9 x0 x1 x2 x3 x4 x5 x6 e0 e1 e2 e3 e4 e5 e6 e7 e8 e9 f1 f0
  obtain ⟨F, hF⟩ : ∃ F, F = R.up := ⟨_, rfl⟩
  have hFl : R.sure.length = F.sure.length ∧ R.waits.length = F.waits.length := by rw [hF]; exact ⟨rfl, rfl⟩
  have hop := up_any C3.drew.disk
  have H3 := Lib.hid (And.intro C3 (And.intro hR3 hop))
  obtain ⟨a0, a1, a2, a3, a4, a5, a6, a7, a8, a9⟩ := ref_cell C3.b0
  change w3.cell? _ = some (.int .i64 R.room) at a0
  change w3.cell? _ = some (.slice sa R.sure.length sc) at a1
  change w3.cell? _ = some (.slice wa R.waits.length wc) at a2
  change w3.cell? _ = some (.int .i64 R.changes) at a3
  change w3.cell? _ = some (.int .i64 R.falls) at a4
  change w3.cell? _ = some (.bool false) at a5
  change w3.cell? _ = some (.int .i64 R.after) at a6
  change w3.cell? _ = some (.int .i64 R.keep) at a7
  change w3.cell? _ = some (.int .i64 R.torn) at a8
  change w3.cell? _ = some (.bool R.laid) at a9
  clear C3 hR3 hop hF hFl
  go_region_with (go_at_call 25; refine H3.out.2.2.mono ?_; rintro e w4 ⟨rfl, hd4, ht4⟩; clear a0 a1 a2 a3 a4 a5 a6 a7 a8 a9; have ht5 := ht4.mono (R' := RA) (fun r h => show r ≠ 0 from by have h : r = 1 := h; omega); have C4 := H3.out.1.drew.oper hd4 ht5; have hR4 := ref_oper (w := w) H3.out.2.1 ht5; obtain ⟨a0, a1, a2, a3, a4, a5, a6, a7, a8, a9⟩ := ref_cell C4.b0; obtain ⟨e0, e1, e2, e3, e4, e5, e6, e7, e8, e9, f1⟩ := zero_box C4; have H4 := Lib.hid (And.intro C4 hR4); clear C4 hR4 hd4 ht4 ht5; simp only [Disk.up] at a0 a1 a2 a3 a4 a5 a6 a7 a8 a9)
  all_goals
    go_wp2_with fail
    refine bodyPost_ret (v := .tuple #[.agg #[.int .i64 R.room, .slice sa R.sure.length sc, .slice wa R.waits.length wc, .int .i64 R.changes, .int .i64 R.falls, .bool false, .int .i64 R.after, .int .i64 R.keep, .int .i64 R.torn, .bool R.laid], .bool (D.down == R.down)]) (by simp [results, Try.results14, go_sem, e0, e1, e2, e3, e4, e5, e6, e7, e8, e9]) rfl ?_
    refine ⟨_, _, rfl, fun e => by rw [e, beq_self_eq_true], ρ, ?_⟩
    exact H4.out.1.ends10 H4.out.2 _ _ _ _ _ _ _ _ _ _
end Go.Proofs.Ytefpfedpgedloaa
