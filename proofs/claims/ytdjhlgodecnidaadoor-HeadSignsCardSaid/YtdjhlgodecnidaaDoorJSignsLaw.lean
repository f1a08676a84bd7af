/- PROVED HERE: for every key and every head the law HeadSigns returns true (the head that a key signs, or the error, is the document's; so is what is signed of a head). Its conditions: the two package-level tables hold what their initialisers lay (tied to the program's text by the card). -/
import Derived.Test.YtdjhlgodecnidaaDoorJLater
import Derived.Test.YtdjhlgodecnidaaDoorJOpen
import Derived.Test.YtdjhlgodecnidaaDoorLaid
namespace Go.Proofs.YtdjhlgodecnidaaDoor
open Go.RowKit
open Cn

set_option maxRecDepth 100000 in
set_option maxHeartbeats 2000000 in
theorem signs_law {w : World} (key : ByteArray) (_ : key.size ≤ maxLen) (x : Hd) (_ : x.Ok) (hG : Glob w) : Calls Tryd.prog 10 #[.string key, .agg x.cs] w fun e w' => e = .returned (.bool true) ∧ Below w.heap.size w w' := by
  obtain ⟨w1, hw1⟩ : ∃ w1, w1 = w.alloc (.cells x.cs 57) := ⟨_, rfl⟩
  have hb1 : Below w.heap.size w w1 := by rw [hw1]; exact (Below.refl _ _).alloc (Nat.le_refl _) _
  have hg1 : w1.heap[w.heap.size]? = some (.cells x.cs 57 (0, 0)) := by rw [hw1]; exact heap_alloc_new _ _
  have hfw := fewH_any key x w1
  obtain ⟨A, hA⟩ : ∃ A, A = fewH key x := ⟨_, rfl⟩
  rw [← hA] at hfw
  obtain ⟨S, hS⟩ : ∃ S, S = (signP key x).1 := ⟨_, rfl⟩
  obtain ⟨q, hq⟩ : ∃ q, q = (signP key x).2 := ⟨_, rfl⟩
  have hsn := fun W hG => sign_any key x W hG
  have hrn := fun W => rsign_any key x W
  rw [← hS, ← hq] at hsn hrn
  have H := Lib.hid (And.intro hb1 (And.intro hg1 (And.intro hfw (And.intro hsn hrn))))
  obtain ⟨c0, c1, c2, c3⟩ := hd_cell hg1
  clear hb1 hg1 hfw hA hsn hrn hS hq
  unfold Hd.cs at hw1 ⊢
  go_enter Tryd.func10, Tryd.ntmps10
  go_upto_region 1 with fail
  rw [← hw1]
  clear hw1
  go_wp2_with fail
  refine H.out.2.2.1.mono ?_
  rintro e w2 ⟨rfl, hb⟩
  have B2 := H.out.1.trans (hb.mono H.out.1.size)
  have C2 := (hb.block _ (lt_of_heap H.out.2.1)).trans H.out.2.1
  clear hb c0 c1 c2 c3
  cases A with
  | false =>
    have HB := Lib.hid B2
    clear B2 C2
    go_wp2_with fail
    refine (awake14_any _ (hG.below HB.out)).mono ?_
    rintro e w3 ⟨rfl, hb⟩
    have HC := Lib.hid (HB.out.trans (hb.mono HB.out.size))
    clear hb
    go_wp2_with fail
    go_ret
    exact ⟨rfl, HC.out⟩
  | true =>
    have HB := Lib.hid (And.intro B2 C2)
    obtain ⟨c0, c1, c2, c3⟩ := hd_cell C2
    clear B2 C2
    go_wp2_with fail
    refine (H.out.2.2.2.1 _ (hG.below HB.out.1)).mono ?_
    rintro e w3 ⟨rfl, hb3⟩
    obtain ⟨w4, hw4⟩ : ∃ w4, w4 = w3.alloc (.cells S.cs 57) := ⟨_, rfl⟩
    have hb4 : Below w3.heap.size w3 w4 := by rw [hw4]; exact (Below.refl _ _).alloc (Nat.le_refl _) _
    have A4 : w4.heap[w3.heap.size]? = some (.cells S.cs 57 (0, 0)) := by rw [hw4]; exact heap_alloc_new _ _
    have hb34 := hb3.trans (hb4.mono hb3.size)
    have X4 := (hb34.block _ (lt_of_heap HB.out.2)).trans HB.out.2
    have B4 := HB.out.1.trans (hb34.mono HB.out.1.size)
    have HC := Lib.hid (And.intro X4 (And.intro A4 B4))
    clear c0 c1 c2 c3
    obtain ⟨c0, c1, c2, c3⟩ := hd_cell X4
    clear hb3 hb4 hb34 X4 A4 B4
    unfold Hd.cs at hw4 ⊢
    go_upto_region 4 with fail
    rw [← hw4]
    clear hw4
    go_wp2_with fail
    refine (H.out.2.2.2.2 _).mono ?_
    rintro e w5 ⟨rfl, hb5⟩
    obtain ⟨w6, hw6⟩ : ∃ w6, w6 = w5.alloc (.cells S.cs 61) := ⟨_, rfl⟩
    have hb6 : Below w5.heap.size w5 w6 := by rw [hw6]; exact (Below.refl _ _).alloc (Nat.le_refl _) _
    have R6 : w6.heap[w5.heap.size]? = some (.cells S.cs 61 (0, 0)) := by rw [hw6]; exact heap_alloc_new _ _
    have hb56 := hb5.trans (hb6.mono hb5.size)
    have X6 := (hb56.block _ (lt_of_heap HC.out.1)).trans HC.out.1
    have A6 := (hb56.block _ (lt_of_heap HC.out.2.1)).trans HC.out.2.1
    have B6 := HC.out.2.2.trans (hb56.mono HC.out.2.2.size)
    have HD := Lib.hid (And.intro X6 (And.intro A6 (And.intro R6 B6)))
    clear hb5 hb6 hb56 X6 A6 R6 B6 c0 c1 c2 c3
    unfold Hd.cs at hw6 ⊢
    go_upto_region 5 with fail
    rw [← hw6]
    clear hw6
    have E0 := (show w6.drew.heap[w.heap.size]? = some (.cells x.cs 57 (0, 0)) ∧ w6.drew.heap[w3.heap.size]? = some (.cells S.cs 57 (0, 0)) ∧ w6.drew.heap[w5.heap.size]? = some (.cells S.cs 61 (0, 0)) from ⟨HD.out.1, HD.out.2.1, HD.out.2.2.1⟩)
    have F0 := HD.out.2.2.2.drew
    go_wp2_with fail
    refine wp_region_held (S := fun W => W.heap[w.heap.size]? = some (.cells x.cs 57 (0, 0)) ∧ W.heap[w3.heap.size]? = some (.cells S.cs 57 (0, 0)) ∧ W.heap[w5.heap.size]? = some (.cells S.cs 61 (0, 0))) (by kernel_rfl) ?_
    change wpAnyH _ _ _ _ _ _ _ _ (World.drew _)
    generalize World.drew _ = v0 at *
    refine wpAnyH_ready (rs := [0]) (by kernel_rfl) (by simp) ?_
    refine AllReadyH.cons rfl (fun K hK => ?_) AllReadyH.nil
    go_simp
    refine (awake14_any v0 (hG.below F0)).mono ?_
    rintro e v1 ⟨rfl, hb⟩
    have F1 := F0.trans (hb.mono F0.size)
    have E1 : v1.heap[w.heap.size]? = some (.cells x.cs 57 (0, 0)) ∧ v1.heap[w3.heap.size]? = some (.cells S.cs 57 (0, 0)) ∧ v1.heap[w5.heap.size]? = some (.cells S.cs 61 (0, 0)) := ⟨(hb.block _ (lt_of_heap E0.1)).trans E0.1, (hb.block _ (lt_of_heap E0.2.1)).trans E0.2.1, (hb.block _ (lt_of_heap E0.2.2)).trans E0.2.2⟩
    refine hK.out _ _ E1 (fun _ => ?_)
    clear hK K hb
    refine wpAnyH_take (i := 1) (v := ?_) rfl (by kernel_rfl) (by kernel_rfl) (by kernel_rfl) (fun _ _ _ h => h) (Or.inl ⟨by kernel_rfl, ?_⟩) E1 ?_
    rotate_left
    · (intro W hS; clear hS; go_simp; try (with_reducible rfl))
    refine wpAnyH_take (i := 2) (v := ?_) rfl (by kernel_rfl) (by kernel_rfl) (by kernel_rfl) (fun _ _ _ h => h) (Or.inl ⟨by kernel_rfl, ?_⟩) E1 ?_
    rotate_left
    · (intro W hS; obtain ⟨g0, g1, g2, g3⟩ := hd_cell hS.1; obtain ⟨k0, k1, k2, k3⟩ := hd_cell hS.2.1; obtain ⟨m0, m1, m2, m3⟩ := hd_cell hS.2.2; clear hS; go_simp; try (with_reducible rfl))
    refine wpAnyH_take (i := 4) (v := ?_) rfl (by kernel_rfl) (by kernel_rfl) (by kernel_rfl) (fun _ _ _ h => h) (Or.inl ⟨by kernel_rfl, ?_⟩) E1 ?_
    rotate_left
    · (intro W hS; obtain ⟨g0, g1, g2, g3⟩ := hd_cell hS.1; obtain ⟨k0, k1, k2, k3⟩ := hd_cell hS.2.1; obtain ⟨m0, m1, m2, m3⟩ := hd_cell hS.2.2; clear hS; go_simp; try (with_reducible rfl))
    refine wpAnyH_ready (rs := [3]) (by kernel_rfl) (by simp) ?_
    refine AllReadyH.cons rfl (fun K hK => ?_) AllReadyH.nil
    go_simp
    refine (ref_any S v1).mono ?_
    rintro e v2 ⟨rfl, hb⟩
    unfold Hd.cs
    have F2 := F1.trans (hb.mono F1.size)
    have E2 : v2.heap[w.heap.size]? = some (.cells x.cs 57 (0, 0)) ∧ v2.heap[w3.heap.size]? = some (.cells S.cs 57 (0, 0)) ∧ v2.heap[w5.heap.size]? = some (.cells S.cs 61 (0, 0)) := ⟨(hb.block _ (lt_of_heap E1.1)).trans E1.1, (hb.block _ (lt_of_heap E1.2.1)).trans E1.2.1, (hb.block _ (lt_of_heap E1.2.2)).trans E1.2.2⟩
    refine hK.out _ _ E2 (fun _ => ?_)
    clear hK K hb
    refine wpAnyH_take (i := 5) (v := ?_) rfl (by kernel_rfl) (by kernel_rfl) (by kernel_rfl) (fun _ _ _ h => h) (Or.inl ⟨by kernel_rfl, ?_⟩) E2 ?_
    rotate_left
    · (intro W hS; clear hS; go_simp; try (with_reducible rfl))
    refine wpAnyH_take (i := 6) (v := ?_) rfl (by kernel_rfl) (by kernel_rfl) (by kernel_rfl) (fun _ _ _ h => h) (Or.inl ⟨by kernel_rfl, ?_⟩) E2 ?_
    rotate_left
    · (intro W hS; clear hS; go_simp; try (with_reducible rfl))
    refine wpAnyH_take (i := 7) (v := ?_) rfl (by kernel_rfl) (by kernel_rfl) (by kernel_rfl) (fun _ _ _ h => h) (Or.inl ⟨by kernel_rfl, ?_⟩) E2 ?_
    rotate_left
    · (intro W hS; clear hS; go_simp; try (with_reducible rfl))
    refine wpAnyH_take (i := 8) (v := ?_) rfl (by kernel_rfl) (by kernel_rfl) (by kernel_rfl) (fun _ _ _ h => h) (Or.inl ⟨by kernel_rfl, ?_⟩) E2 ?_
    rotate_left
    · (intro W hS; clear hS; go_simp; try (with_reducible rfl))
    refine wpAnyH_take (i := 9) (v := ?_) rfl (by kernel_rfl) (by kernel_rfl) (by kernel_rfl) (fun _ _ _ h => h) (Or.inl ⟨by kernel_rfl, ?_⟩) E2 ?_
    rotate_left
    · (intro W hS; clear hS; go_simp; try (with_reducible rfl))
    refine wpAnyH_take (i := 10) (v := ?_) rfl (by kernel_rfl) (by kernel_rfl) (by kernel_rfl) (fun _ _ _ h => h) (Or.inl ⟨by kernel_rfl, ?_⟩) E2 ?_
    rotate_left
    · (intro W hS; clear hS; go_simp; try (with_reducible rfl))
    refine wpAnyH_take (i := 11) (v := ?_) rfl (by kernel_rfl) (by kernel_rfl) (by kernel_rfl) (fun _ _ _ h => h) (Or.inl ⟨by kernel_rfl, ?_⟩) E2 ?_
    rotate_left
    · (intro W hS; clear hS; go_simp; try (with_reducible rfl))
    refine wpAnyH_take (i := 12) (v := ?_) rfl (by kernel_rfl) (by kernel_rfl) (by kernel_rfl) (fun _ _ _ h => h) (Or.inl ⟨by kernel_rfl, ?_⟩) E2 ?_
    rotate_left
    · (intro W hS; clear hS; go_simp; try (with_reducible rfl))
    refine wpAnyH_take (i := 13) (v := ?_) rfl (by kernel_rfl) (by kernel_rfl) (by kernel_rfl) (fun _ _ _ h => h) (Or.inl ⟨by kernel_rfl, ?_⟩) E2 ?_
    rotate_left
    · (intro W hS; obtain ⟨g0, g1, g2, g3⟩ := hd_cell hS.1; obtain ⟨k0, k1, k2, k3⟩ := hd_cell hS.2.1; obtain ⟨m0, m1, m2, m3⟩ := hd_cell hS.2.2; clear hS; go_simp; try (with_reducible rfl))
    refine wpAnyH_take (i := 15) (v := ?_) rfl (by kernel_rfl) (by kernel_rfl) (by kernel_rfl) (fun _ _ _ h => h) (Or.inl ⟨by kernel_rfl, ?_⟩) E2 ?_
    rotate_left
    · (intro W hS; obtain ⟨g0, g1, g2, g3⟩ := hd_cell hS.1; obtain ⟨k0, k1, k2, k3⟩ := hd_cell hS.2.1; obtain ⟨m0, m1, m2, m3⟩ := hd_cell hS.2.2; clear hS; go_simp; try (with_reducible rfl))
    refine wpAnyH_ready (rs := [14]) (by kernel_rfl) (by simp) ?_
    refine AllReadyH.cons rfl (fun K hK => ?_) AllReadyH.nil
    go_simp
    refine (signed_any x v2).mono ?_
    rintro e v3 ⟨rfl, hb⟩
    have F3 := F2.trans (hb.mono F2.size)
    have E3 : v3.heap[w.heap.size]? = some (.cells x.cs 57 (0, 0)) ∧ v3.heap[w3.heap.size]? = some (.cells S.cs 57 (0, 0)) ∧ v3.heap[w5.heap.size]? = some (.cells S.cs 61 (0, 0)) := ⟨(hb.block _ (lt_of_heap E2.1)).trans E2.1, (hb.block _ (lt_of_heap E2.2.1)).trans E2.2.1, (hb.block _ (lt_of_heap E2.2.2)).trans E2.2.2⟩
    refine hK.out _ _ E3 (fun _ => ?_)
    clear hK K hb
    refine wpAnyH_ready (rs := [16]) (by kernel_rfl) (by simp) ?_
    refine AllReadyH.cons rfl (fun K hK => ?_) AllReadyH.nil
    go_simp
    refine (ref_any x v3).mono ?_
    rintro e v4 ⟨rfl, hb⟩
    unfold Hd.cs
    have F4 := F3.trans (hb.mono F3.size)
    have E4 : v4.heap[w.heap.size]? = some (.cells x.cs 57 (0, 0)) ∧ v4.heap[w3.heap.size]? = some (.cells S.cs 57 (0, 0)) ∧ v4.heap[w5.heap.size]? = some (.cells S.cs 61 (0, 0)) := ⟨(hb.block _ (lt_of_heap E3.1)).trans E3.1, (hb.block _ (lt_of_heap E3.2.1)).trans E3.2.1, (hb.block _ (lt_of_heap E3.2.2)).trans E3.2.2⟩
    refine hK.out _ _ E4 (fun _ => ?_)
    clear hK K hb
    refine wpAnyH_ready (rs := [17]) (by kernel_rfl) (by simp) ?_
    refine AllReadyH.cons rfl (fun K hK => ?_) AllReadyH.nil
    go_simp
    refine (rsigned_any x v4).mono ?_
    rintro e v5 ⟨rfl, hb⟩
    have F5 := F4.trans (hb.mono F4.size)
    have E5 : v5.heap[w.heap.size]? = some (.cells x.cs 57 (0, 0)) ∧ v5.heap[w3.heap.size]? = some (.cells S.cs 57 (0, 0)) ∧ v5.heap[w5.heap.size]? = some (.cells S.cs 61 (0, 0)) := ⟨(hb.block _ (lt_of_heap E4.1)).trans E4.1, (hb.block _ (lt_of_heap E4.2.1)).trans E4.2.1, (hb.block _ (lt_of_heap E4.2.2)).trans E4.2.2⟩
    refine hK.out _ _ E5 (fun _ => ?_)
    clear hK K hb
    refine wpAnyH_take (i := 18) (v := ?_) rfl (by kernel_rfl) (by kernel_rfl) (by kernel_rfl) (fun _ _ _ h => h) (Or.inl ⟨by kernel_rfl, ?_⟩) E5 ?_
    rotate_left
    · (intro W hS; clear hS; go_simp; try (with_reducible rfl))
    refine wpAnyH_take (i := 19) (v := ?_) rfl (by kernel_rfl) (by kernel_rfl) (by kernel_rfl) (fun _ _ _ h => h) (Or.inl ⟨by kernel_rfl, ?_⟩) E5 ?_
    rotate_left
    · (intro W hS; clear hS; go_simp; try (with_reducible rfl))
    refine wpAnyH_take (i := 20) (v := ?_) rfl (by kernel_rfl) (by kernel_rfl) (by kernel_rfl) (fun _ _ _ h => h) (Or.inl ⟨by kernel_rfl, ?_⟩) E5 ?_
    rotate_left
    · (intro W hS; clear hS; go_simp; try (with_reducible rfl))
    refine wpAnyH_done (by kernel_rfl) ?_ _
    go_simp
    have HE := Lib.hid F5
    clear E0 F0 E1 F1 E2 F2 E3 F3 E4 F4 E5 F5
    go_wp2_with fail
    go_ret
    exact ⟨rfl, HE.out⟩
end Go.Proofs.YtdjhlgodecnidaaDoor

namespace Go.Proofs.YtdjhlgodecnidaaDoor.headSignsLaw
open Go.ChangeShapes Go.WideShapes Go.ChangeAt Go.RowKit
open Go.ChangeMaps (open_string shut_string)

set_option maxRecDepth 100000 in
theorem contract (H : Type) (enc : TypeId × Value → H) (W : World) (base : Nat) (args : Array Value) (ds gs : List (DataW H)) (before : List MemPlace)
    (hval : ∀ (j : Nat) t v, Tryd.f10.params[j]? = some t → args[j]? = some v → Value.okWide Tryd.prog W .any base t v)
    (hW : DataW.Whole enc Tryd.prog Tryd.f10.params.toList Rows.headSignsSpec.vars false W args.toList ds gs before) (hL : laidMetH Tryd.prog Rows.headSignsRow.laid W) :
    Calls Tryd.prog 10 args W fun e W' => ∃ v, e = .returned v ∧ Rows.headSignsSpec.post enc Tryd.prog Tryd.f10 false true false false W args v W' := by
  have hW' := hW
  obtain ⟨p, q, hA0, hV, rfl, hfz, hnd⟩ := hW
  have hA : DataW.TrodAll enc Tryd.prog W 0 (fun _ => true) true Tryd.f10.params.toList args.toList ds p := hA0
  rw [Tryd.params10] at hA hval
  obtain ⟨v0, vs0, d0, ds0, p0, q0, hargs, rfl, rfl, h0, r0⟩ := trodAll_cons hA
  obtain ⟨v1, vs1, d1, ds1, p1, q1, rfl, rfl, rfl, h1, r1⟩ := trodAll_cons r0
  obtain ⟨rfl, rfl, rfl⟩ := trodAll_nil r1
  obtain rfl : args = #[v0, v1] := by cases args; simp_all
  obtain ⟨rfl, rfl⟩ := trodVars_none hV
  obtain ⟨s0, rfl, rfl, rfl, ws0⟩ := open_string Tryd.underlying9 (hval 0 9 v0 rfl rfl) h0
  obtain ⟨cs1, rfl, hcs1⟩ := okWide_struct Tryd.underlying57 (hval 1 57 v1 rfl rfl)
  have hk1 := h1
  obtain ⟨fuel1, hf1⟩ := h1
  clear hA0
  simp only [List.append_nil, List.nil_append] at hW'
  have hlt1 : ∀ x ∈ p1, x.block < W.heap.size := fun x hx => by simpa using hW'.lt x (by simp [hx])
  obtain ⟨x1a, hit1, hf1a⟩ := open_head hf1
  obtain rfl : cs1 = Hd.cs x1a := Array.toList_inj.1 hit1
  refine (signs_law s0 (by simpa using ws0) x1a hf1a (w := W) (hG := glob_of_laid hL)).mono fun e W' ⟨he, hb⟩ => ?_
  subst he
  exact ⟨_, rfl, _, _, _, [], _, [], hW', trodAll_cons_mk (shut_bool Tryd.underlying4 _) trodAll_mk0, (trodAll_cons_mk (shut_string Tryd.underlying9 ws0) (trodAll_cons_mk (Below.trod laidOut (by kernel_rfl) (of_decide_eq_true (by kernel_rfl)) hk1 hb hlt1) trodAll_mk0)), rfl, hb.frame _, fun h => by cases h⟩
theorem laid_met (os : Os) : laidMet Tryd.prog Rows.headSignsRow.laid ((laidWorld os).forCall (fun _ _ => 0) ⟨#[], #[.string ⟨#[]⟩, .agg #[.int .i64 0, .string ⟨#[]⟩, .int .i64 0, .string ⟨#[]⟩]], []⟩).memory :=
  laidMet_of_run' 8 (by kernel_rfl) (by kernel_rfl)
theorem reads (os : Os) {H : Type} (enc : TypeId × Value → H) : ∃ places, DataW.whole enc Tryd.prog ((laidWorld os).forCall (fun _ _ => 0) ⟨#[], #[.string ⟨#[]⟩, .agg #[.int .i64 0, .string ⟨#[]⟩, .int .i64 0, .string ⟨#[]⟩]], []⟩).memory Tryd.f10.params.toList Rows.headSignsSpec.vars false #[Value.string ⟨#[]⟩, .agg #[.int .i64 0, .string ⟨#[]⟩, .int .i64 0, .string ⟨#[]⟩]].toList 8 = some ([.lit (.string []), .agg [.lit (.int .i64 0), .lit (.string []), .lit (.int .i64 0), .lit (.string [])]], [], places) :=
  ⟨[], by kernel_rfl⟩
set_option maxRecDepth 100000 in
theorem lifted (os : Os) (started : os.Started) (H : Type) (enc : TypeId × Value → H) (F : Stop.Interp) :
    ReturnsInHanded {} Tryd.checked os 10 .any ((OpenSpec.ofChange Rows.headSignsSpec).preRow enc Tryd.prog Tryd.f10 Rows.headSignsRow.domain false Rows.headSignsRow.laid) (((OpenSpec.ofChange Rows.headSignsSpec).at F).post enc Tryd.prog Tryd.f10 false true false false) := by
  obtain ⟨places, hx⟩ := reads os enc
  refine returnsInHanded_of_row (C := Tryd.checked) (s := OpenSpec.ofChange Rows.headSignsSpec) own started (by kernel_rfl) Tryd.func10
    (witness_row_at (enc := enc) (C := Tryd.checked) false (laidWorld os) #[.string ⟨#[]⟩, .agg #[.int .i64 0, .string ⟨#[]⟩, .int .i64 0, .string ⟨#[]⟩]] rfl (by kernel_rfl) (by kernel_rfl) (by kernel_rfl)
      (OpenSpec.preRow_of_cond 8 hx (by kernel_rfl) (fun k hk => by cases hk) (by kernel_rfl) (laid_met os))) ?_
  intro W base args ds gs before hval hW _ _ _ hL _ _
  exact contract H enc W base args ds gs before hval hW hL
theorem said : Rows.HeadSignsSaid :=
  OpenClaim.holds_of_cond 10 Tryd.f10 rfl rfl rfl rfl rfl rfl rfl ⟨rfl, rfl, rfl, rfl, rfl⟩ rfl rfl rfl rfl rfl (by kernel_rfl) Tryd.func10 (by kernel_rfl)
    (of_decide_eq_true (by kernel_rfl)) (by unfold Func.isWrapper; first | (rw [if_pos (by decide +kernel)]; kernel_rfl) | (rw [if_neg (by decide +kernel)]; exact ⟨rfl, rfl⟩))
    (fun os started H enc _ F => by rw [OpenClaim.pre_eq_preRow]; exact lifted os started H enc F)
theorem plain (f : FuncId) (fn : Func) (hf : Tryd.pinned.checked.prog.funcNamed "lockbox/lockboxlaw14.HeadSigns" = some f) (hfn : Tryd.pinned.checked.prog.funcs[f]? = some fn) :
    false = Tryd.pinned.checked.prog.looks [] ∧ ∀ (j : Nat) t, fn.params[j]? = some t → Tryd.pinned.checked.prog.wantsStandIn t = false := by
  obtain rfl : f = 10 := Option.some.inj ((show Tryd.prog.funcNamed "lockbox/lockboxlaw14.HeadSigns" = some 10 by kernel_rfl).symm.trans hf) |>.symm
  obtain rfl : fn = Tryd.f10 := (Option.some.inj (Tryd.func10.symm.trans hfn)).symm
  refine ⟨by kernel_rfl, fun j t ht => ?_⟩
  rw [Tryd.params10] at ht
  have hm : t ∈ [9, 57] := by simpa using Array.mem_of_getElem? ht
  have hall : ([9, 57].all fun u => !Tryd.prog.wantsStandIn u) = true := by kernel_rfl
  exact (show Tryd.prog.wantsStandIn t = false by simpa using List.all_eq_true.1 hall t hm)
end Go.Proofs.YtdjhlgodecnidaaDoor.headSignsLaw

namespace Go.Proofs.YtdjhlgodecnidaaDoor
/-- THE CARD. -/
theorem headSigns_card : Rows.HeadSignsCardSaid :=
  Claim7.holds_tied_plain_at .later [] _ _ _ _ headSignsLaw.said (fun _ h => by cases h) (by kernel_rfl) (fun _ h => by cases h) headSigns_row_tie rfl ⟨rfl, rfl⟩ (by kernel_rfl) rfl headSignsLaw.plain (by kernel_rfl)
end Go.Proofs.YtdjhlgodecnidaaDoor
