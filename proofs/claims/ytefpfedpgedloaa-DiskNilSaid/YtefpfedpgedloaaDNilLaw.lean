/- PROVED HERE: for every act the law DiskNil returns true (a nil disk is down: each call of it answers what the document says of one). No condition. -/
import Derived.Test.YtefpfedpgedloaaDAwake
import Derived.Test.YtefpfedpgedloaaDOpen
import Derived.Test.YtefpfedpgedloaaRows
import Derived.ProofKit
import Derived.OpenShut
namespace Go.Proofs.Ytefpfedpgedloaa
open Go.RowKit
open Dk

set_option maxRecDepth 100000 in
set_option maxHeartbeats 1000000 in
theorem nil_law {w : World} (x : Deed) (_ : x.Ok) : Calls Try.prog 8 #[.agg x.cells] w fun e w' => e = .returned (.bool true) ∧ Below w.heap.size w w' := by
  obtain ⟨kind, x, n, s, after, keep, torn⟩ := x
  unfold Deed.cells
  simp only
  have hB : Below w.heap.size w (w.alloc (.cells #[.int .i64 kind, .int .i64 x, .int .i64 n, .string s, .int .i64 after, .int .i64 keep, .int .i64 torn] 39)) := (Below.refl _ _).alloc (Nat.le_refl _) _
  have hbox : (w.alloc (.cells #[.int .i64 kind, .int .i64 x, .int .i64 n, .string s, .int .i64 after, .int .i64 keep, .int .i64 torn] 39)).heap[w.heap.size]? = some (.cells #[.int .i64 kind, .int .i64 x, .int .i64 n, .string s, .int .i64 after, .int .i64 keep, .int .i64 torn] 39 (0, 0)) := heap_alloc_new _ _
  have H0 := Lib.hid (And.intro hB hbox)
  clear hB hbox
  go_enter Try.func8, Try.ntmps8
  go_wp2_with fail
  refine (fail_nil _ _ _).mono ?_
  rintro e w' ⟨rfl, rfl⟩
  go_wp2_with fail
  refine (lay_nil _ _ _ _).mono ?_
  rintro e w1 ⟨rfl, hb⟩
  have hlt := (Array.getElem?_eq_some_iff.1 H0.out.2).1
  have hbox := (hb.block _ hlt).trans H0.out.2
  have b1 : w1.cell? ⟨w.heap.size, 1, none⟩ = some (.int .i64 x) := by rw [cell_of_row _ _ _ _ _ _ hbox]; rfl
  have b2 : w1.cell? ⟨w.heap.size, 2, none⟩ = some (.int .i64 n) := by rw [cell_of_row _ _ _ _ _ _ hbox]; rfl
  have b3 : w1.cell? ⟨w.heap.size, 3, none⟩ = some (.string s) := by rw [cell_of_row _ _ _ _ _ _ hbox]; rfl
  have H1 := Lib.hid (And.intro (H0.out.1.trans (hb.mono H0.out.1.size)) hbox)
  clear hb hlt hbox
  go_wp2_with fail
  refine (read_nil _ _).mono ?_
  rintro e w' ⟨rfl, rfl⟩
  go_wp2_with fail
  refine (awake_any _).mono ?_
  rintro e w2 ⟨rfl, hb⟩
  clear b1 b2 b3
  have hlt := (Array.getElem?_eq_some_iff.1 H1.out.2).1
  have hbox := (hb.block _ hlt).trans H1.out.2
  have b1 : w2.cell? ⟨w.heap.size, 1, none⟩ = some (.int .i64 x) := by rw [cell_of_row _ _ _ _ _ _ hbox]; rfl
  have b2 : w2.cell? ⟨w.heap.size, 2, none⟩ = some (.int .i64 n) := by rw [cell_of_row _ _ _ _ _ _ hbox]; rfl
  have b3 : w2.cell? ⟨w.heap.size, 3, none⟩ = some (.string s) := by rw [cell_of_row _ _ _ _ _ _ hbox]; rfl
  have H2 := Lib.hid (And.intro (H1.out.1.trans (hb.mono H1.out.1.size)) hbox)
  clear hb hlt hbox
  go_wp2_with fail
  refine (down_nil _).mono ?_
  rintro e w' ⟨rfl, rfl⟩
  go_wp2_with fail
  refine (up_nil _).mono ?_
  rintro e w' ⟨rfl, rfl⟩
  go_wp2_with fail
  refine (append_nil _ _ _).mono ?_
  rintro e w3 ⟨rfl, hb⟩
  clear b1 b2 b3
  have hlt := (Array.getElem?_eq_some_iff.1 H2.out.2).1
  have hbox := (hb.block _ hlt).trans H2.out.2
  have b1 : w3.cell? ⟨w.heap.size, 1, none⟩ = some (.int .i64 x) := by rw [cell_of_row _ _ _ _ _ _ hbox]; rfl
  have b2 : w3.cell? ⟨w.heap.size, 2, none⟩ = some (.int .i64 n) := by rw [cell_of_row _ _ _ _ _ _ hbox]; rfl
  have b3 : w3.cell? ⟨w.heap.size, 3, none⟩ = some (.string s) := by rw [cell_of_row _ _ _ _ _ _ hbox]; rfl
  have H3 := Lib.hid (And.intro (H2.out.1.trans (hb.mono H2.out.1.size)) hbox)
  clear hb hlt hbox
  go_wp2_with fail
  refine (trim_nil _ _ _).mono ?_
  rintro e w4 ⟨rfl, hb⟩
  clear b1 b2 b3
  have hlt := (Array.getElem?_eq_some_iff.1 H3.out.2).1
  have hbox := (hb.block _ hlt).trans H3.out.2
  have b1 : w4.cell? ⟨w.heap.size, 1, none⟩ = some (.int .i64 x) := by rw [cell_of_row _ _ _ _ _ _ hbox]; rfl
  have b2 : w4.cell? ⟨w.heap.size, 2, none⟩ = some (.int .i64 n) := by rw [cell_of_row _ _ _ _ _ _ hbox]; rfl
  have b3 : w4.cell? ⟨w.heap.size, 3, none⟩ = some (.string s) := by rw [cell_of_row _ _ _ _ _ _ hbox]; rfl
  have H4 := Lib.hid (And.intro (H3.out.1.trans (hb.mono H3.out.1.size)) hbox)
  clear hb hlt hbox
  go_wp2_with fail
  refine (empty_nil _ _).mono ?_
  rintro e w5 ⟨rfl, hb⟩
  clear b1 b2 b3
  have hlt := (Array.getElem?_eq_some_iff.1 H4.out.2).1
  have hbox := (hb.block _ hlt).trans H4.out.2
  have b1 : w5.cell? ⟨w.heap.size, 1, none⟩ = some (.int .i64 x) := by rw [cell_of_row _ _ _ _ _ _ hbox]; rfl
  have b2 : w5.cell? ⟨w.heap.size, 2, none⟩ = some (.int .i64 n) := by rw [cell_of_row _ _ _ _ _ _ hbox]; rfl
  have b3 : w5.cell? ⟨w.heap.size, 3, none⟩ = some (.string s) := by rw [cell_of_row _ _ _ _ _ _ hbox]; rfl
  have H5 := Lib.hid (And.intro (H4.out.1.trans (hb.mono H4.out.1.size)) hbox)
  clear hb hlt hbox
  go_wp2_with fail
  refine (sync_nil _).mono ?_
  rintro e w' ⟨rfl, rfl⟩
  go_wp2_with fail
  refine (room_nil _ _).mono ?_
  rintro e w' ⟨rfl, rfl⟩
  go_wp2_with fail
  refine (extents_nil _).mono ?_
  rintro e w' ⟨rfl, rfl⟩
  go_wp2_with fail
  refine (waits_nil _).mono ?_
  rintro e w' ⟨rfl, rfl⟩
  go_wp2_with fail
  refine (changes_nil _).mono ?_
  rintro e w' ⟨rfl, rfl⟩
  go_wp2_with fail
  refine (falls_nil _).mono ?_
  rintro e w' ⟨rfl, rfl⟩
  go_wp2_with fail
  refine (clone_nil _).mono ?_
  rintro e w' ⟨rfl, rfl⟩
  go_wp2_with fail
  go_ret
  exact ⟨rfl, H5.out.1⟩
end Go.Proofs.Ytefpfedpgedloaa

namespace Go.Proofs.Ytefpfedpgedloaa.diskNilLaw
open Go.ChangeShapes Go.WideShapes Go.ChangeAt Go.RowKit
open Go.ChangeMaps (open_string shut_string)

theorem own : ownKnob Try.prog.godebug = none := by kernel_rfl
set_option maxRecDepth 100000 in
theorem lifted (os : Os) (started : os.Started) (H : Type) (enc : TypeId × Value → H) :
    ReturnsInHanded {} Try.checked os 8 .any (Rows.diskNilSpec.pre6 enc Try.prog Try.f8 Rows.diskNilRow.domain false) (Rows.diskNilSpec.post enc Try.prog Try.f8 false true false false) := by
  refine returnsInHanded_of_change (C := Try.checked) own started (by kernel_rfl) Try.func8
    (ChangeSpec.witness6 (enc := enc) (C := Try.checked) false ⟨#[], #[.agg #[.int .i64 0, .int .i64 0, .int .i64 0, .string ⟨#[]⟩, .int .i64 0, .int .i64 0, .int .i64 0]], []⟩ 8 (by kernel_rfl) (by kernel_rfl) (by kernel_rfl) (by kernel_rfl)) ?_
  intro W base args ds gs before hval0 hW hcnd _
  have hval : ∀ (j : Nat) t v, Try.f8.params[j]? = some t → args[j]? = some v → Value.okWide Try.prog W .any base t v := hval0
  have hW' := hW
  obtain ⟨p, q, hA0, hV, rfl, hfz, hnd⟩ := hW
  have hA : DataW.TrodAll enc Try.prog W 0 (fun _ => true) true Try.f8.params.toList args.toList ds p := hA0
  rw [Try.params8] at hA hval
  obtain ⟨v0, vs0, d0, ds0, p0, q0, hargs, rfl, rfl, h0, r0⟩ := trodAll_cons hA
  obtain ⟨rfl, rfl, rfl⟩ := trodAll_nil r0
  obtain rfl : args = #[v0] := by cases args; simp_all
  obtain ⟨rfl, rfl⟩ := trodVars_none hV
  obtain ⟨cs0, rfl, hcs0⟩ := okWide_struct Try.underlying39 (hval 0 39 v0 rfl rfl)
  have hk0 := h0
  obtain ⟨fuel0, hf0⟩ := h0
  clear hA0 hval0
  simp only [List.append_nil] at hW'
  have hlt0 : ∀ x ∈ p0, x.block < W.heap.size := fun x hx => by simpa using hW'.lt x (by simp [hx])
  obtain ⟨x0a, hit0, hf0a⟩ := open_act hf0
  obtain rfl : cs0 = Deed.cells x0a := Array.toList_inj.1 hit0
  refine (nil_law x0a hf0a (w := W)).mono fun e W' ⟨he, hb⟩ => ?_
  subst he
  exact ⟨_, rfl, _, _, _, [], _, [], hW', trodAll_cons_mk (shut_bool Try.underlying4 _) trodAll_mk0, (trodAll_cons_mk (Below.trod laidOut (by kernel_rfl) (of_decide_eq_true (by kernel_rfl)) hk0 hb hlt0) trodAll_mk0), rfl, hb.frame _, fun h => by cases h⟩
theorem over : Rows.diskNilRow.holds Try.pinned (OpenSpec.ofChange Rows.diskNilSpec) :=
  OpenClaim.holds_of_wide 8 Try.f8 rfl rfl rfl rfl rfl rfl rfl ⟨rfl, rfl, rfl, rfl, rfl⟩ rfl rfl rfl rfl rfl (by kernel_rfl) Try.func8 (by kernel_rfl)
    (of_decide_eq_true (by kernel_rfl)) (by unfold Func.isWrapper; first | (rw [if_pos (by decide +kernel)]; kernel_rfl) | (rw [if_neg (by decide +kernel)]; exact ⟨rfl, rfl⟩))
    (fun os started H enc _ => lifted os started H enc)
end Go.Proofs.Ytefpfedpgedloaa.diskNilLaw

namespace Go.Proofs.Ytefpfedpgedloaa
theorem diskNil_said : Rows.DiskNilSaid := diskNilLaw.over
end Go.Proofs.Ytefpfedpgedloaa
