/- The law's 'do', at acts of kind 4. -/
import Derived.Test.YtefpfedpgedloaaDLdoB
import Derived.Deep.DeepCutAuto
import Derived.Deep.RegionWith
namespace Go.Proofs.Ytefpfedpgedloaa
open Go.RowKit
open Dk

set_option maxRecDepth 100000 in
set_option maxHeartbeats 2000000 in
theorem ldo4 {V : Nat → Prop} {w : World} {ρ : Nat → Nat} {b : Nat} {D R : Disk} {cells : Array Value} {x : Deed} (hd : DiskAt w ρ b D) (hr : RefIn w (fun g => ρ g = 0 ∧ V g) cells R) (hV : ∀ g, w.heap.size ≤ g → V g) (hsD : Small D) (ok : R.Ok) (hsR : Small R) (hw : R.waits.length ≤ 999999) (hk : x.kind = 4) :
    Calls Try.prog 14 #[.pointer (some ⟨b, 0, none⟩), .agg cells, .agg x.cells] w fun e w' => ∃ cells' t, e = .returned (.tuple #[.agg cells', .bool t]) ∧ (D = R → t = true) ∧ ∃ ρ', DiskAt w' ρ' b (D.fail x.x x.n) ∧ RefIn w' (fun g => ρ' g = 0 ∧ V g) cells' (R.fail x.x x.n) ∧ Touch RA ρ ρ' w w' := by
  have hin := hr
  obtain ⟨sv, wv, rfl, hsv, hwv⟩ := hr
  obtain ⟨sa, sc, rfl⟩ := hsv.form
  obtain ⟨wa, wc, rfl⟩ := hwv.form
  obtain ⟨w1, hw1⟩ : ∃ w1, w1 = ((w.alloc (.cells (refCells R (.slice sa R.sure.length sc) (.slice wa R.waits.length wc)) 32)).alloc (.cells x.cells 39)).alloc (.cells zeroRef 32) := ⟨_, rfl⟩
  have hst := Lds.start hd (refCells R (.slice sa R.sure.length sc) (.slice wa R.waits.length wc)) x hw1
  have hrf := hst.ref hin
  obtain ⟨a0, a1, a2, a3, a4, a5, a6, a7, a8, a9⟩ := ref_cell hst.b0
  obtain ⟨x0, x1, x2, x3, x4, x5, x6⟩ := act_box hst
  obtain ⟨e0, e1, e2, e3, e4, e5, e6, e7, e8, e9, f1⟩ := zero_box hst
  have k0 : (x.kind == 0) = false := by rw [hk]; rfl
  have k1 : (x.kind == 1) = false := by rw [hk]; rfl
  have k2 : (x.kind == 2) = false := by rw [hk]; rfl
  have k3 : (x.kind == 3) = false := by rw [hk]; rfl
  have k4 : (x.kind == 4) = true := by rw [hk]; rfl
  have k5 : (x.kind == 5) = false := by rw [hk]; rfl
  have k6 : (x.kind == 6) = false := by rw [hk]; rfl
  have hcall := failD_any hst.disk hsD x.x x.n
  have H := Lib.hid (And.intro hst (And.intro hrf (And.intro hcall (And.intro ok (And.intro hsR hw)))))
  clear hst hrf hin hd hsv hwv hk hcall hsD ok hsR hw
  unfold refCells zeroRef Deed.cells at *
  go_enter Try.func14, Try.ntmps14
  go_upto_region 1 with fail
  rw [← hw1]
  clear hw1
  go_wp2_with fail
  refine H.out.2.2.1.mono ?_
  rintro e w2 ⟨rfl, ρ2, hd2, ht2⟩
  clear a0 a1 a2 a3 a4 a5 a6 a7 a8 a9 x0 x1 x2 x3 x4 x5 x6 e0 e1 e2 e3 e4 e5 e6 e7 e8 e9 f1
  have C2 := H.out.1.oper hd2 ht2
  have hR2 := ref_oper (w := w) H.out.2.1 ht2
  have f0 := ref_frozen C2
  obtain ⟨a0, a1, a2, a3, a4, a5, a6, a7, a8, a9⟩ := ref_cell (R := R) (sv := .slice sa R.sure.length sc) (wv := .slice wa R.waits.length wc) C2.b0
  obtain ⟨x0, x1, x2, x3, x4, x5, x6⟩ := act_box C2
  obtain ⟨e0, e1, e2, e3, e4, e5, e6, e7, e8, e9, f1⟩ := zero_box C2
  have H2 := Lib.hid (And.intro C2 hR2)
  clear C2 hR2 hd2 ht2
  by_cases hdn : R.down = true
  · rw [hdn] at a5
    have hfe : R.fail x.x x.n = R := if_pos hdn
    have HF := Lib.hid (And.intro hfe hdn)
    clear hfe hdn
    go_wp2_with fail
    refine bodyPost_ret (v := .tuple #[.agg #[.int .i64 R.room, .slice sa R.sure.length sc, .slice wa R.waits.length wc, .int .i64 R.changes, .int .i64 R.falls, .bool true, .int .i64 R.after, .int .i64 R.keep, .int .i64 R.torn, .bool R.laid], .bool true]) (by simp [results, Try.results14, go_sem, e0, e1, e2, e3, e4, e5, e6, e7, e8, e9]) rfl ?_
    refine ⟨_, _, rfl, fun _ => rfl, ρ2, ?_⟩
    rw [HF.out.1]
    have hE := H2.out.1.ends H2.out.2 (#[.int .i64 R.room, .slice sa R.sure.length sc, .slice wa R.waits.length wc, .int .i64 R.changes, .int .i64 R.falls, .bool true, .int .i64 R.after, .int .i64 R.keep, .int .i64 R.torn, .bool R.laid] : Array Value).toList
    rw [HF.out.2] at hE
    exact hE
  · have hdn : R.down = false := by simpa using hdn
    rw [hdn] at a5
    have hcall := rfail_any H2.out.2 (H2.out.1.new hV) H.out.2.2.2.1.fits H.out.2.2.2.1.num (by have := H.out.2.2.2.2.2; omega) H.out.2.2.2.2.1.falls0 H.out.2.2.2.2.1.falls1 x.x x.n
    rw [hdn] at hcall
    have hfe : R.fail x.x x.n = { R with sure := madeAll R.sure (kept R.waits x.x x.n), waits := [], falls := R.falls + 1, down := true } := if_neg (by rw [hdn]; simp)
    have HF := Lib.hid (And.intro hfe hcall)
    clear hfe hcall hdn
    go_wp2_with fail
    refine HF.out.2.mono ?_
    rintro e w4 ⟨cells4, rfl, hR4, hb4⟩
    clear a0 a1 a2 a3 a4 a5 a6 a7 a8 a9 x0 x1 x2 x3 x4 x5 x6 e0 e1 e2 e3 e4 e5 e6 e7 e8 e9 f1 f0
    have C4 := H2.out.1.call hb4
    obtain ⟨F, hF⟩ : ∃ F, F = R.fail x.x x.n := ⟨_, rfl⟩
    rw [← HF.out.1, ← hF] at hR4
    have hR4' := hR4
    obtain ⟨sv2, wv2, rfl, ht2, hc2⟩ := hR4
    obtain ⟨sa2, sc2, rfl⟩ := ht2.form
    obtain ⟨wa2, wc2, rfl⟩ := hc2.form
    have f0 := ref_frozen C4
    obtain ⟨a0, a1, a2, a3, a4, a5, a6, a7, a8, a9⟩ := ref_cell C4.b0
    obtain ⟨e0, e1, e2, e3, e4, e5, e6, e7, e8, e9, f1⟩ := zero_box C4
    have HP := Lib.hid (And.intro C4 (And.intro hR4' hF))
    clear C4 hR4' hF ht2 hc2 hb4
    unfold refCells
    go_wp2_with fail
    refine bodyPost_ret (v := .tuple #[.agg #[.int .i64 F.room, .slice sa2 F.sure.length sc2, .slice wa2 F.waits.length wc2, .int .i64 F.changes, .int .i64 F.falls, .bool F.down, .int .i64 F.after, .int .i64 F.keep, .int .i64 F.torn, .bool F.laid], .bool true]) (by simp [results, Try.results14, go_sem, e0, e1, e2, e3, e4, e5, e6, e7, e8, e9]) rfl ?_
    refine ⟨_, _, rfl, fun _ => rfl, ρ2, ?_⟩
    rw [← HP.out.2.2]
    exact ((((((((((HP.out.1.put 0 _).put 1 _).put 2 _).put 3 _).put 4 _).put 5 _).put 6 _).put 7 _).put 8 _).put 9 _).ends10 (ref_put (ref_put (ref_put (ref_put (ref_put (ref_put (ref_put (ref_put (ref_put (ref_put HP.out.2.1 0 _) 1 _) 2 _) 3 _) 4 _) 5 _) 6 _) 7 _) 8 _) 9 _) _ _ _ _ _ _ _ _ _ _
end Go.Proofs.Ytefpfedpgedloaa
