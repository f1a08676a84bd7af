/- PROVED HERE: for every secret and every way to split it the law ShamirSplits returns true (the shares, or the error, are those of the definition). No condition. -/
import Derived.Test.YtefpfedpgedloaaDoorVRSplit
import Derived.Test.YtefpfedpgedloaaDoorVOpen
import Derived.Test.YtefpfedpgedloaaDoorVSplit2
import Derived.Test.YtefpfedpgedloaaDoorVAwake
import Derived.Test.YtefpfedpgedloaaDoorPLaid
namespace Go.Proofs.YtefpfedpgedloaaDoor
open Go.RowKit
open Gf

/-- The box of the argument that is built of parts, and all that was there. -/
structure AnyW (w : World) (need n : Int) (d : ByteArray) (W : World) : Prop where
  below : Below w.heap.size w W
  h0 : W.heap[w.heap.size]? = some (.cells #[.int .i64 need, .int .i64 n, .string d] 23 (0, 0))
theorem AnyW.start (w : World) (need n : Int) (d : ByteArray) : AnyW w need n d (w.alloc (.cells #[.int .i64 need, .int .i64 n, .string d] 23)) :=
  ⟨(Below.refl _ _).alloc (Nat.le_refl _) _, heap_alloc_new _ _⟩
section
variable {w W W' : World} {need n : Int} {d : ByteArray}
theorem AnyW.lt (h : AnyW w need n d W) : w.heap.size < W.heap.size := (Array.getElem?_eq_some_iff.1 h.h0).1
theorem AnyW.step (h : AnyW w need n d W) (hb : Below W.heap.size W W') : AnyW w need n d W' :=
  ⟨h.below.trans (hb.mono h.below.size), (hb.block _ h.lt).trans h.h0⟩
theorem AnyW.c0 (h : AnyW w need n d W) : W.cell? ⟨w.heap.size, 0, none⟩ = some (.int .i64 need) := by rw [cell_of_row _ _ _ _ _ _ h.h0]; rfl
theorem AnyW.c1 (h : AnyW w need n d W) : W.cell? ⟨w.heap.size, 1, none⟩ = some (.int .i64 n) := by rw [cell_of_row _ _ _ _ _ _ h.h0]; rfl
theorem AnyW.c2 (h : AnyW w need n d W) : W.cell? ⟨w.heap.size, 2, none⟩ = some (.string d) := by rw [cell_of_row _ _ _ _ _ _ h.h0]; rfl
end
set_option maxRecDepth 100000 in
set_option maxHeartbeats 1000000 in
theorem splits_law {w : World} (s : ByteArray) (hs : s.size ≤ maxLen) (x : Hw) (hx : x.Ok) : Calls Tryd.prog 3 #[.string s, .agg x.cells] w fun e w' => e = .returned (.bool true) ∧ Below w.heap.size w w' := by
  obtain ⟨need, n, d⟩ := x
  obtain ⟨⟨x1, x2⟩, ⟨x3, x4⟩, x5⟩ := hx
  simp only at x1 x2 x3 x4 x5
  unfold Hw.cells
  simp only
  have H0 := Lib.hid (AnyW.start w need n d)
  obtain ⟨m, hm⟩ : ∃ m, m = s.size := ⟨_, rfl⟩
  obtain ⟨D, hD⟩ : ∃ D, D = d.size := ⟨_, rfl⟩
  have hss : (s.size : Int) = (m : Int) := by omega
  have hds : (d.size : Int) = (D : Int) := by omega
  have b1 := H0.out.c1
  have b2 := H0.out.c2
  by_cases q1 : (70 : Int) < (m : Int)
  · have q1' : decide ((70 : Int) < (m : Int)) = true := decide_eq_true q1
    clear hm hD
    go_enter Tryd.func3, Tryd.ntmps3
    go_wp2_with fail
    refine (awake_any _).mono ?_
    rintro e w1 ⟨rfl, hb⟩
    have HB := Lib.hid (H0.out.step hb)
    clear hb
    go_wp2_with fail
    go_ret
    exact ⟨rfl, HB.out.below⟩
  have q1' : decide ((70 : Int) < (m : Int)) = false := decide_eq_false q1
  by_cases q2 : (2000 : Int) < (D : Int)
  · have q2' : decide ((2000 : Int) < (D : Int)) = true := decide_eq_true q2
    clear hm hD
    go_enter Tryd.func3, Tryd.ntmps3
    go_wp2_with fail
    refine (awake_any _).mono ?_
    rintro e w1 ⟨rfl, hb⟩
    have HB := Lib.hid (H0.out.step hb)
    clear hb
    go_wp2_with fail
    go_ret
    exact ⟨rfl, HB.out.below⟩
  have q2' : decide ((2000 : Int) < (D : Int)) = false := decide_eq_false q2
  by_cases q3 : 30 < n ∧ n ≤ 255
  · have q3' : decide (30 < n) = true := decide_eq_true q3.1
    have q4' : decide (n ≤ 255) = true := decide_eq_true q3.2
    clear hm hD
    go_enter Tryd.func3, Tryd.ntmps3
    go_wp2_with fail
    refine (awake_any _).mono ?_
    rintro e w1 ⟨rfl, hb⟩
    have HB := Lib.hid (H0.out.step hb)
    clear hb
    go_wp2_with fail
    go_ret
    exact ⟨rfl, HB.out.below⟩
  have hpick : ∀ P : Prop, (decide (30 < n) = false → P) → (decide (30 < n) = true → decide (n ≤ 255) = false → P) → P := fun P f g => by
    by_cases e : 30 < n
    · exact g (decide_eq_true e) (decide_eq_false (fun e2 => q3 ⟨e, e2⟩))
    · exact f (decide_eq_false e)
  cases hmp : mayP s d need n with
  | false =>
    have hsp := fun W => split_bad s d need n hs hmp W
    have hrs := fun W => rsplit_bad s d need n (by omega) (by omega) hmp W
    have HS := Lib.hid (And.intro hsp hrs)
    clear hsp hrs hmp hs hm hD q3
    refine hpick _ (fun q3' => ?_) (fun q3' q4' => ?_)
    all_goals clear hpick
    all_goals go_enter Tryd.func3, Tryd.ntmps3
    all_goals (
      have b0 := H0.out.c0
      go_wp2_with fail
      refine (HS.out.1 _).mono ?_
      rintro e w' ⟨rfl, rfl⟩
      go_wp2_with fail
      refine (HS.out.2 _).mono ?_
      rintro e w' ⟨rfl, rfl⟩
      go_wp2_with fail
      refine (awake_any _).mono ?_
      rintro e w1 ⟨rfl, hb⟩
      have H1 := Lib.hid (H0.out.step hb)
      clear hb b0 b1 b2
      go_wp2_with fail
      refine (refs_any (SharesAt.nil w1 none) (by simp) 0).mono ?_
      rintro e w2 ⟨a, cp, rfl, ho, hb⟩
      have H2 := Lib.hid (And.intro (H1.out.step hb) ho.at)
      clear hb ho
      go_wp2_with fail
      refine (same_true H2.out.2 (SharesAt.nil w2 none) (by simp) cp 0).mono ?_
      rintro e w3 ⟨rfl, hb⟩
      have H3 := Lib.hid (H2.out.1.step hb)
      clear hb
      go_wp2_with fail
      go_ret
      exact ⟨rfl, H3.out.below⟩)
  | true =>
    have hpm := mayP_iff.1 hmp
    obtain ⟨N, rfl⟩ : ∃ N : Nat, n = (N : Int) := ⟨n.toNat, by omega⟩
    have hsp := fun W => split_good s d need N hmp W
    have hrs := fun W => rsplit_good s d need N hmp W
    have HS := Lib.hid (And.intro hsp hrs)
    have q3' : decide (30 < (N : Int)) = false := decide_eq_false (fun e => q3 ⟨e, hpm.2.2.2.1⟩)
    have hN : N ≤ 1000000 := by have := hpm.2.2.2.1; omega
    clear hsp hrs hmp hs hm hD q3 hpick hpm
    go_enter Tryd.func3, Tryd.ntmps3
    have b0 := H0.out.c0
    go_wp2_with fail
    refine (HS.out.1 _).mono ?_
    rintro e w1 ⟨a1, c1, rfl, ho1, hb⟩
    have H1 := Lib.hid (And.intro (H0.out.step hb) ho1)
    clear hb ho1 b0 b1 b2
    have b0 := H1.out.1.c0
    have b1 := H1.out.1.c1
    have b2 := H1.out.1.c2
    go_wp2_with fail
    refine (HS.out.2 _).mono ?_
    rintro e w2 ⟨a2, c2, rfl, ho2, hb⟩
    have H2 := Lib.hid (And.intro (H1.out.1.step hb) (And.intro (H1.out.2.below hb) ho2))
    clear hb ho2 b0 b1 b2
    go_wp2_with fail
    refine (awake_any _).mono ?_
    rintro e w3 ⟨rfl, hb⟩
    have hrf := refs_any (H2.out.2.1.below hb).at (by rw [splt_length]; exact hN) c1
    rw [splt_length] at hrf
    have H3 := Lib.hid (And.intro (H2.out.1.step hb) (And.intro hrf (H2.out.2.2.below hb)))
    clear hb hrf
    go_wp2_with fail
    refine H3.out.2.1.mono ?_
    rintro e w4 ⟨a4, c4, rfl, ho4, hb⟩
    have hsm := same_true ho4.at (H3.out.2.2.below hb).at (by rw [splt_length]; exact hN) c4 c2
    rw [splt_length] at hsm
    have H4 := Lib.hid (And.intro (H3.out.1.step hb) hsm)
    clear hb hsm ho4
    go_wp2_with fail
    refine H4.out.2.mono ?_
    rintro e w5 ⟨rfl, hb⟩
    have H5 := Lib.hid (H4.out.1.step hb)
    clear hb
    go_wp2_with fail
    go_ret
    exact ⟨rfl, H5.out.below⟩
end Go.Proofs.YtefpfedpgedloaaDoor

namespace Go.Proofs.YtefpfedpgedloaaDoor.shamirSplitsLaw
open Go.ChangeShapes Go.WideShapes Go.ChangeAt Go.RowKit
open Go.ChangeMaps (open_string shut_string)

set_option maxRecDepth 100000 in
theorem contract (H : Type) (enc : TypeId × Value → H) (W : World) (base : Nat) (args : Array Value) (ds gs : List (DataW H)) (before : List MemPlace)
    (hval : ∀ (j : Nat) t v, Tryd.f3.params[j]? = some t → args[j]? = some v → Value.okWide Tryd.prog W .any base t v)
    (hW : DataW.Whole enc Tryd.prog Tryd.f3.params.toList Rows.shamirSplitsSpec.vars false W args.toList ds gs before) (_ : laidMetH Tryd.prog Rows.shamirSplitsRow.laid W) :
    Calls Tryd.prog 3 args W fun e W' => ∃ v, e = .returned v ∧ Rows.shamirSplitsSpec.post enc Tryd.prog Tryd.f3 false true false false W args v W' := by
  have hW' := hW
  obtain ⟨p, q, hA0, hV, rfl, hfz, hnd⟩ := hW
  have hA : DataW.TrodAll enc Tryd.prog W 0 (fun _ => true) true Tryd.f3.params.toList args.toList ds p := hA0
  rw [Tryd.params3] at hA hval
  obtain ⟨v0, vs0, d0, ds0, p0, q0, hargs, rfl, rfl, h0, r0⟩ := trodAll_cons hA
  obtain ⟨v1, vs1, d1, ds1, p1, q1, rfl, rfl, rfl, h1, r1⟩ := trodAll_cons r0
  obtain ⟨rfl, rfl, rfl⟩ := trodAll_nil r1
  obtain rfl : args = #[v0, v1] := by cases args; simp_all
  obtain ⟨rfl, rfl⟩ := trodVars_none hV
  obtain ⟨s0, rfl, rfl, rfl, ws0⟩ := open_string Tryd.underlying9 (hval 0 9 v0 rfl rfl) h0
  obtain ⟨cs1, rfl, hcs1⟩ := okWide_struct Tryd.underlying23 (hval 1 23 v1 rfl rfl)
  have hk1 := h1
  obtain ⟨fuel1, hf1⟩ := h1
  clear hA0
  simp only [List.append_nil, List.nil_append] at hW'
  have hlt1 : ∀ x ∈ p1, x.block < W.heap.size := fun x hx => by simpa using hW'.lt x (by simp [hx])
  obtain ⟨x1a, hit1, hf1a⟩ := open_how hf1
  obtain rfl : cs1 = Hw.cells x1a := Array.toList_inj.1 hit1
  refine (splits_law s0 (by simpa using ws0) x1a hf1a (w := W)).mono fun e W' ⟨he, hb⟩ => ?_
  subst he
  exact ⟨_, rfl, _, _, _, [], _, [], hW', trodAll_cons_mk (shut_bool Tryd.underlying4 _) trodAll_mk0, (trodAll_cons_mk (shut_string Tryd.underlying9 ws0) (trodAll_cons_mk (Below.trod laidOut (by kernel_rfl) (of_decide_eq_true (by kernel_rfl)) hk1 hb hlt1) trodAll_mk0)), rfl, hb.frame _, fun h => by cases h⟩
theorem laid_met (os : Os) : laidMet Tryd.prog Rows.shamirSplitsRow.laid ((laidWorld os).forCall (fun _ _ => 0) ⟨#[], #[.string ⟨#[]⟩, .agg #[.int .i64 0, .int .i64 0, .string ⟨#[]⟩]], []⟩).memory :=
  laidMet_of_run' 8 (by kernel_rfl) (by kernel_rfl)
theorem reads (os : Os) {H : Type} (enc : TypeId × Value → H) : ∃ places, DataW.whole enc Tryd.prog ((laidWorld os).forCall (fun _ _ => 0) ⟨#[], #[.string ⟨#[]⟩, .agg #[.int .i64 0, .int .i64 0, .string ⟨#[]⟩]], []⟩).memory Tryd.f3.params.toList Rows.shamirSplitsSpec.vars false #[Value.string ⟨#[]⟩, .agg #[.int .i64 0, .int .i64 0, .string ⟨#[]⟩]].toList 8 = some ([.lit (.string []), .agg [.lit (.int .i64 0), .lit (.int .i64 0), .lit (.string [])]], [], places) :=
  ⟨[], by kernel_rfl⟩
set_option maxRecDepth 100000 in
theorem lifted (os : Os) (started : os.Started) (H : Type) (enc : TypeId × Value → H) (F : Stop.Interp) :
    ReturnsInHanded {} Tryd.checked os 3 .any ((OpenSpec.ofChange Rows.shamirSplitsSpec).preRow enc Tryd.prog Tryd.f3 Rows.shamirSplitsRow.domain false Rows.shamirSplitsRow.laid) (((OpenSpec.ofChange Rows.shamirSplitsSpec).at F).post enc Tryd.prog Tryd.f3 false true false false) := by
  obtain ⟨places, hx⟩ := reads os enc
  refine returnsInHanded_of_row (C := Tryd.checked) (s := OpenSpec.ofChange Rows.shamirSplitsSpec) own started (by kernel_rfl) Tryd.func3
    (witness_row_at (enc := enc) (C := Tryd.checked) false (laidWorld os) #[.string ⟨#[]⟩, .agg #[.int .i64 0, .int .i64 0, .string ⟨#[]⟩]] rfl (by kernel_rfl) (by kernel_rfl) (by kernel_rfl)
      (OpenSpec.preRow_of_cond 8 hx (by kernel_rfl) (fun k hk => by cases hk) (by kernel_rfl) (laid_met os))) ?_
  intro W base args ds gs before hval hW _ _ _ hL _ _
  exact contract H enc W base args ds gs before hval hW hL
theorem said : Rows.ShamirSplitsSaid :=
  OpenClaim.holds_of_cond 3 Tryd.f3 rfl rfl rfl rfl rfl rfl rfl ⟨rfl, rfl, rfl, rfl, rfl⟩ rfl rfl rfl rfl rfl (by kernel_rfl) Tryd.func3 (by kernel_rfl)
    (of_decide_eq_true (by kernel_rfl)) (by unfold Func.isWrapper; first | (rw [if_pos (by decide +kernel)]; kernel_rfl) | (rw [if_neg (by decide +kernel)]; exact ⟨rfl, rfl⟩))
    (fun os started H enc _ F => by rw [OpenClaim.pre_eq_preRow]; exact lifted os started H enc F)
theorem plain (f : FuncId) (fn : Func) (hf : Tryd.pinned.checked.prog.funcNamed "lockbox/lockboxlaw09.ShamirSplits" = some f) (hfn : Tryd.pinned.checked.prog.funcs[f]? = some fn) :
    false = Tryd.pinned.checked.prog.looks [] ∧ ∀ (j : Nat) t, fn.params[j]? = some t → Tryd.pinned.checked.prog.wantsStandIn t = false := by
  obtain rfl : f = 3 := Option.some.inj ((show Tryd.prog.funcNamed "lockbox/lockboxlaw09.ShamirSplits" = some 3 by kernel_rfl).symm.trans hf) |>.symm
  obtain rfl : fn = Tryd.f3 := (Option.some.inj (Tryd.func3.symm.trans hfn)).symm
  refine ⟨by kernel_rfl, fun j t ht => ?_⟩
  rw [Tryd.params3] at ht
  have hm : t ∈ [9, 23] := by simpa using Array.mem_of_getElem? ht
  have hall : ([9, 23].all fun u => !Tryd.prog.wantsStandIn u) = true := by kernel_rfl
  exact (show Tryd.prog.wantsStandIn t = false by simpa using List.all_eq_true.1 hall t hm)
end Go.Proofs.YtefpfedpgedloaaDoor.shamirSplitsLaw

namespace Go.Proofs.YtefpfedpgedloaaDoor
/-- THE CARD. -/
theorem shamirSplits_card : Rows.ShamirSplitsCardSaid :=
  Claim7.holds_tied_plain_at .later [] _ _ _ _ shamirSplitsLaw.said (fun _ h => by cases h) (by kernel_rfl) (fun _ h => by cases h) shamirSplits_row_tie rfl ⟨rfl, rfl⟩ (by kernel_rfl) rfl shamirSplitsLaw.plain (by kernel_rfl)
end Go.Proofs.YtefpfedpgedloaaDoor
