/- The law's 'do', at other acts: nothing. -/
import Derived.Test.YtefpfedpgedloaaDLdoA
import Derived.Deep.DeepCutAuto
import Derived.Deep.RegionWith
namespace Go.Proofs.Ytefpfedpgedloaa
open Go.RowKit
open Dk

set_option maxRecDepth 100000 in
set_option maxHeartbeats 2000000 in
theorem ldo7 {V : Nat → Prop} {w : World} {ρ : Nat → Nat} {b : Nat} {D R : Disk} {cells : Array Value} {x : Deed} (hd : DiskAt w ρ b D) (hr : RefIn w (fun g => ρ g = 0 ∧ V g) cells R) (hk : ∀ k : Nat, k ≤ 6 → x.kind ≠ k) :
    Calls Try.prog 14 #[.pointer (some ⟨b, 0, none⟩), .agg cells, .agg x.cells] w fun e w' => ∃ cells' t, e = .returned (.tuple #[.agg cells', .bool t]) ∧ (D = R → t = true) ∧ ∃ ρ', DiskAt w' ρ' b D ∧ RefIn w' (fun g => ρ' g = 0 ∧ V g) cells' R ∧ Touch RA ρ ρ' w w' := by
  have hin := hr
  obtain ⟨sv, wv, rfl, hsv, hwv⟩ := hr
  obtain ⟨sa, sc, rfl⟩ := hsv.form
  obtain ⟨wa, wc, rfl⟩ := hwv.form
  obtain ⟨w1, hw1⟩ : ∃ w1, w1 = ((w.alloc (.cells (refCells R (.slice sa R.sure.length sc) (.slice wa R.waits.length wc)) 32)).alloc (.cells x.cells 39)).alloc (.cells zeroRef 32) := ⟨_, rfl⟩
  have hst := Lds.start hd (refCells R (.slice sa R.sure.length sc) (.slice wa R.waits.length wc)) x hw1
  have hrf := hst.ref hin
  obtain ⟨a0, a1, a2, a3, a4, a5, a6, a7, a8, a9⟩ := ref_cell hst.b0
  obtain ⟨x0, x1, x2, x3, x4, x5, x6⟩ := act_box hst
  obtain ⟨e0, e1, e2, e3, e4, e5, e6, e7, e8, e9, f1⟩ := zero_box hst
  have k0 : (x.kind == 0) = false := by simpa using hk 0 (by omega)
  have k1 : (x.kind == 1) = false := by simpa using hk 1 (by omega)
  have k2 : (x.kind == 2) = false := by simpa using hk 2 (by omega)
  have k3 : (x.kind == 3) = false := by simpa using hk 3 (by omega)
  have k4 : (x.kind == 4) = false := by simpa using hk 4 (by omega)
  have k5 : (x.kind == 5) = false := by simpa using hk 5 (by omega)
  have k6 : (x.kind == 6) = false := by simpa using hk 6 (by omega)
  have H := Lib.hid (And.intro hst hrf)
  clear hst hrf hin hd hsv hwv hk
  unfold refCells zeroRef Deed.cells at *
  go_enter Try.func14, Try.ntmps14
  go_upto_region 1 with fail
  rw [← hw1]
  clear hw1
  go_wp2_with fail
  refine bodyPost_ret (v := .tuple #[.agg #[.int .i64 R.room, .slice sa R.sure.length sc, .slice wa R.waits.length wc, .int .i64 R.changes, .int .i64 R.falls, .bool R.down, .int .i64 R.after, .int .i64 R.keep, .int .i64 R.torn, .bool R.laid], .bool true]) (by simp [results, Try.results14, go_sem, e0, e1, e2, e3, e4, e5, e6, e7, e8, e9]) rfl ?_
  refine ⟨_, _, rfl, fun _ => rfl, ρ, ?_⟩
  exact H.out.1.ends H.out.2 (refCells R (.slice sa R.sure.length sc) (.slice wa R.waits.length wc)).toList
end Go.Proofs.Ytefpfedpgedloaa
