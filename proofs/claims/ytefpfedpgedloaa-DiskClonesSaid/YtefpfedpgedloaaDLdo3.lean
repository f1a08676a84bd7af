/- The law's 'do', at acts of kind 3. -/
import Derived.Test.YtefpfedpgedloaaDLdoA
import Derived.Deep.DeepCutAuto
import Derived.Deep.RegionWith
namespace Go.Proofs.Ytefpfedpgedloaa
open Go.RowKit
open Dk

set_option maxRecDepth 100000 in
set_option maxHeartbeats 2000000 in
theorem ldo3 {V : Nat → Prop} {w : World} {ρ : Nat → Nat} {b : Nat} {D R : Disk} {cells : Array Value} {x : Deed} (hd : DiskAt w ρ b D) (hr : RefIn w (fun g => ρ g = 0 ∧ V g) cells R) (hV : ∀ g, w.heap.size ≤ g → V g) (ok : R.Ok) (hsD : Small D) (hw : R.waits.length ≤ 999999) (hk : x.kind = 3) :
    Calls Try.prog 14 #[.pointer (some ⟨b, 0, none⟩), .agg cells, .agg x.cells] w fun e w' => ∃ cells' t, e = .returned (.tuple #[.agg cells', .bool t]) ∧ (D = R → t = true) ∧ ∃ ρ', DiskAt w' ρ' b (D.sync).1 ∧ RefIn w' (fun g => ρ' g = 0 ∧ V g) cells' (R.sync).1 ∧ Touch RA ρ ρ' w w' := by
  have hin := hr
  obtain ⟨sv, wv, rfl, hsv, hwv⟩ := hr
  obtain ⟨sa, sc, rfl⟩ := hsv.form
  obtain ⟨wa, wc, rfl⟩ := hwv.form
  obtain ⟨w1, hw1⟩ : ∃ w1, w1 = ((w.alloc (.cells (refCells R (.slice sa R.sure.length sc) (.slice wa R.waits.length wc)) 32)).alloc (.cells x.cells 39)).alloc (.cells zeroRef 32) := ⟨_, rfl⟩
  have hst := Lds.start hd (refCells R (.slice sa R.sure.length sc) (.slice wa R.waits.length wc)) x hw1
  have hrf := hst.ref hin
  have hcall := rsync_any hrf (hst.new hV) ok.fits ok.num (by omega)
  obtain ⟨a0, a1, a2, a3, a4, a5, a6, a7, a8, a9⟩ := ref_cell hst.b0
  obtain ⟨x0, x1, x2, x3, x4, x5, x6⟩ := act_box hst
  have k0 : (x.kind == 0) = false := by rw [hk]; rfl
  have k1 : (x.kind == 1) = false := by rw [hk]; rfl
  have k2 : (x.kind == 2) = false := by rw [hk]; rfl
  have k3 : (x.kind == 3) = true := by rw [hk]; rfl
  have k4 : (x.kind == 4) = false := by rw [hk]; rfl
  have k5 : (x.kind == 5) = false := by rw [hk]; rfl
  have k6 : (x.kind == 6) = false := by rw [hk]; rfl
  have H := Lib.hid (And.intro hst (And.intro hcall hsD))
  clear hst hrf hcall hsD hin hd hsv hwv ok hw hk hV
  unfold refCells zeroRef Deed.cells at *
  go_enter Try.func14, Try.ntmps14
  go_upto_region 1 with fail
  rw [← hw1]
  clear hw1
  go_wp2_with fail
  refine H.out.2.1.mono ?_
  rintro e w2 ⟨cells2, rfl, hR2, hb2⟩
  clear a0 a1 a2 a3 a4 a5 a6 a7 a8 a9 x0 x1 x2 x3 x4 x5 x6
  have C2 := H.out.1.call hb2
  obtain ⟨P, hP⟩ : ∃ P, P = R.sync := ⟨_, rfl⟩
  rw [← hP] at hR2 ⊢
  obtain ⟨F, hF⟩ : ∃ F, F = P.1 := ⟨_, rfl⟩
  obtain ⟨E, hE⟩ : ∃ E, E = P.2 := ⟨_, rfl⟩
  rw [← hF] at hR2
  rw [← hE]
  have hR2' := hR2
  obtain ⟨sv2, wv2, rfl, ht2, hc2⟩ := hR2
  obtain ⟨sa2, sc2, rfl⟩ := ht2.form
  obtain ⟨wa2, wc2, rfl⟩ := hc2.form
  have hlt := C2.lt
  have H2 := Lib.hid (And.intro hR2' (And.intro C2 (And.intro hP (And.intro hF hE))))
  clear hR2' C2 ht2 hc2 hb2 hP hF hE
  unfold refCells
  go_wp2_with fail
  obtain ⟨w3, hw3⟩ : ∃ w3, w3 = w2.alloc (.cells #[.int .i64 F.room, .slice sa2 F.sure.length sc2, .slice wa2 F.waits.length wc2, .int .i64 F.changes, .int .i64 F.falls, .bool F.down, .int .i64 F.after, .int .i64 F.keep, .int .i64 F.torn, .bool F.laid] 32) := ⟨_, rfl⟩
  rw [← hw3]
  have hb3 : Below w2.heap.size w2 w3 := by rw [hw3]; exact (Below.refl _ _).alloc (Nat.le_refl _) _
  have h8 : w3.heap[w2.heap.size]? = some (.cells (refCells F (.slice sa2 F.sure.length sc2) (.slice wa2 F.waits.length wc2)) 32 (0, 0)) := by rw [hw3]; exact heap_alloc_new _ _
  have hR3 : RefIn w3.drew (Sx V w ρ) _ F := (H2.out.1.kept (keptS_below hb3)).kept ⟨fun g hg _ => ⟨hg, rfl⟩, Nat.le_refl _⟩
  have C3 := H2.out.2.1.call hb3
  have hl3 : w2.heap.size < w3.heap.size := by rw [hw3]; simp
  clear hw3
  have hz8 : ρ w2.heap.size = 0 := H2.out.2.1.disk.raw.lab _ (Nat.le_refl _)
  have hop := sync_any C3.drew.disk H.out.2.2
  have H3 := Lib.hid (And.intro C3 (And.intro h8 (And.intro hR3 (And.intro hz8 (And.intro hop (And.intro hl3 hb3))))))
  clear C3 h8 hR3 hz8 hop hl3 hb3
  obtain ⟨a0, a1, a2, a3, a4, a5, a6, a7, a8, a9⟩ := ref_cell H3.out.2.1
  obtain ⟨x0, x1, x2, x3, x4, x5, x6⟩ := act_box H3.out.1
  go_region_with (go_at_call 27; refine H3.out.2.2.2.2.1.mono ?_; rintro e w4 ⟨rfl, ρ4, hd4, ht4⟩; clear a0 a1 a2 a3 a4 a5 a6 a7 a8 a9 x0 x1 x2 x3 x4 x5 x6; have C4 := H3.out.1.drew.oper hd4 ht4; have h4 := (ht4.same _ H3.out.2.2.2.2.2.1 (fun e => e H3.out.2.2.2.1)).trans H3.out.2.1; have hR4 := ref_oper (w := w) H3.out.2.2.1 ht4; obtain ⟨a0, a1, a2, a3, a4, a5, a6, a7, a8, a9⟩ := ref_cell h4; obtain ⟨e0, e1, e2, e3, e4, e5, e6, e7, e8, e9, f1⟩ := zero_box C4; have H4 := Lib.hid (And.intro C4 hR4); clear C4 h4 hR4 hd4 ht4)
  all_goals
    go_wp2_with fail
    refine bodyPost_ret (v := .tuple #[.agg #[.int .i64 F.room, .slice sa2 F.sure.length sc2, .slice wa2 F.waits.length wc2, .int .i64 F.changes, .int .i64 F.falls, .bool F.down, .int .i64 F.after, .int .i64 F.keep, .int .i64 F.torn, .bool F.laid], .bool ((D.sync).2 == E)]) (by simp [results, Try.results14, go_sem, e0, e1, e2, e3, e4, e5, e6, e7, e8, e9]) rfl ?_
    refine ⟨_, _, rfl, fun e => ?_, ρ4, ?_⟩
    · rw [H2.out.2.2.2.2, H2.out.2.2.1, e, beq_self_eq_true]
    · rw [← H2.out.2.2.1, ← H2.out.2.2.2.1]
      exact H4.out.1.ends10 H4.out.2 _ _ _ _ _ _ _ _ _ _
end Go.Proofs.Ytefpfedpgedloaa
