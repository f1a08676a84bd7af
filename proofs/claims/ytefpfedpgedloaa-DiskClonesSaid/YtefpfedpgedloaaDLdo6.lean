/- The law's 'do', at acts of kind 6. -/
import Derived.Test.YtefpfedpgedloaaDLdoB
import Derived.Deep.DeepCutAuto
import Derived.Deep.RegionWith
namespace Go.Proofs.Ytefpfedpgedloaa
open Go.RowKit
open Dk

set_option maxRecDepth 100000 in
set_option maxHeartbeats 2000000 in
theorem ldo6 {V : Nat → Prop} {w : World} {ρ : Nat → Nat} {b : Nat} {D R : Disk} {cells : Array Value} {x : Deed} (hd : DiskAt w ρ b D) (hr : RefIn w (fun g => ρ g = 0 ∧ V g) cells R) (hk : x.kind = 6) :
    Calls Try.prog 14 #[.pointer (some ⟨b, 0, none⟩), .agg cells, .agg x.cells] w fun e w' => ∃ cells' t, e = .returned (.tuple #[.agg cells', .bool t]) ∧ (D = R → t = true) ∧ ∃ ρ', DiskAt w' ρ' b (D.lay x.after x.keep x.torn) ∧ RefIn w' (fun g => ρ' g = 0 ∧ V g) cells' (R.lay x.after x.keep x.torn) ∧ Touch RA ρ ρ' w w' := by
  have hin := hr
  obtain ⟨sv, wv, rfl, hsv, hwv⟩ := hr
  obtain ⟨sa, sc, rfl⟩ := hsv.form
  obtain ⟨wa, wc, rfl⟩ := hwv.form
  obtain ⟨w1, hw1⟩ : ∃ w1, w1 = ((w.alloc (.cells (refCells R (.slice sa R.sure.length sc) (.slice wa R.waits.length wc)) 32)).alloc (.cells x.cells 39)).alloc (.cells zeroRef 32) := ⟨_, rfl⟩
  have hst := Lds.start hd (refCells R (.slice sa R.sure.length sc) (.slice wa R.waits.length wc)) x hw1
  have hrf := hst.ref hin
  obtain ⟨a0, a1, a2, a3, a4, a5, a6, a7, a8, a9⟩ := ref_cell hst.b0
  obtain ⟨x0, x1, x2, x3, x4, x5, x6⟩ := act_box hst
  obtain ⟨e0, e1, e2, e3, e4, e5, e6, e7, e8, e9, f1⟩ := zero_box hst
  have k0 : (x.kind == 0) = false := by rw [hk]; rfl
  have k1 : (x.kind == 1) = false := by rw [hk]; rfl
  have k2 : (x.kind == 2) = false := by rw [hk]; rfl
  have k3 : (x.kind == 3) = false := by rw [hk]; rfl
  have k4 : (x.kind == 4) = false := by rw [hk]; rfl
  have k5 : (x.kind == 5) = false := by rw [hk]; rfl
  have k6 : (x.kind == 6) = true := by rw [hk]; rfl
  have hcall := lay_any hst.disk x.after x.keep x.torn
  have H := Lib.hid (And.intro hst (And.intro hrf hcall))
  clear hst hrf hin hd hsv hwv hk hcall
  unfold refCells zeroRef Deed.cells at *
  go_enter Try.func14, Try.ntmps14
  go_upto_region 1 with fail
  rw [← hw1]
  clear hw1
  go_wp2_with fail
  refine H.out.2.2.mono ?_
  rintro e w2 ⟨rfl, hd2, ht2⟩
  clear a0 a1 a2 a3 a4 a5 a6 a7 a8 a9 x0 x1 x2 x3 x4 x5 x6 e0 e1 e2 e3 e4 e5 e6 e7 e8 e9 f1
  have C2 := H.out.1.oper hd2 ht2
  have hR2 := ref_oper (w := w) H.out.2.1 ht2
  have f0 := ref_frozen C2
  obtain ⟨a0, a1, a2, a3, a4, a5, a6, a7, a8, a9⟩ := ref_cell (R := R) (sv := .slice sa R.sure.length sc) (wv := .slice wa R.waits.length wc) C2.b0
  obtain ⟨x0, x1, x2, x3, x4, x5, x6⟩ := act_box C2
  obtain ⟨e0, e1, e2, e3, e4, e5, e6, e7, e8, e9, f1⟩ := zero_box C2
  have H2 := Lib.hid (And.intro C2 hR2)
  clear C2 hR2 hd2 ht2
  go_wp2_with fail
  refine bodyPost_ret (v := .tuple #[.agg #[.int .i64 R.room, .slice sa R.sure.length sc, .slice wa R.waits.length wc, .int .i64 R.changes, .int .i64 R.falls, .bool R.down, .int .i64 x.after, .int .i64 x.keep, .int .i64 x.torn, .bool true], .bool true]) (by simp [results, Try.results14, go_sem, e0, e1, e2, e3, e4, e5, e6, e7, e8, e9]) rfl ?_
  refine ⟨_, _, rfl, fun _ => rfl, ρ, ?_⟩
  exact ((((H2.out.1.put 6 _).put 7 _).put 8 _).put 9 _).ends10 (ref_put (ref_put (ref_put (ref_put (ref_same (R' := R.lay x.after x.keep x.torn) H2.out.2 rfl rfl) 6 _) 7 _) 8 _) 9 _) _ _ _ _ _ _ _ _ _ _
end Go.Proofs.Ytefpfedpgedloaa
