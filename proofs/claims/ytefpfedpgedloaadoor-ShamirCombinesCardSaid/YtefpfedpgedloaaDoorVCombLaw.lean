/- PROVED HERE: for all shares and every place the law ShamirCombines returns true (what they combine to, and each other share of theirs, or the error, are those of the definition). No condition. -/
import Derived.Test.YtefpfedpgedloaaDoorMVR
import Derived.Test.YtefpfedpgedloaaDoorVOpen
import Derived.Test.YtefpfedpgedloaaDoorVAwake
import Derived.Test.YtefpfedpgedloaaDoorPLaid
namespace Go.Proofs.YtefpfedpgedloaaDoor
open Go.RowKit
open Gf

set_option maxRecDepth 100000 in
set_option maxHeartbeats 1000000 in
theorem combines_law {w : World} (l : List Shr) (a0 : Option Addr) (cap : Nat) (hT : SharesAt w a0 l) (hO : ∀ s ∈ l, s.Ok) (hmax : l.length ≤ maxLen) (x : Int) (_ : -9223372036854775808 ≤ x) (_ : x ≤ 9223372036854775807) : Calls Tryd.prog 4 #[.slice a0 l.length cap, .int .i64 x] w fun e w' => e = .returned (.bool true) ∧ Below w.heap.size w w' := by
  have hf := few_any hT hmax cap
  have hy : ∀ s ∈ l, s.y.size ≤ maxLen := fun s hs => (hO s hs).y
  obtain ⟨n, hN⟩ : ∃ n, n = l.length := ⟨_, rfl⟩
  rw [← hN] at hf ⊢
  have H := Lib.hid (And.intro hf (And.intro hT (And.intro hy hN)))
  clear hf hT hO hmax hy hN
  go_enter Tryd.func4, Tryd.ntmps4
  go_wp2_with fail
  refine H.out.1.mono ?_
  rintro e w1 ⟨t, rfl, hfew, hb⟩
  have HB := Lib.hid (And.intro hfew hb)
  clear hfew hb
  cases t with
  | false =>
    go_wp2_with fail
    refine (awake_any _).mono ?_
    rintro e w2 ⟨rfl, hb⟩
    have H2 := Lib.hid (HB.out.2.trans (hb.mono HB.out.2.size))
    clear hb
    go_wp2_with fail
    go_ret
    exact ⟨rfl, H2.out⟩
  | true =>
    have h12 := (HB.out.1 rfl).1
    have hcb := combine_any (H.out.2.1.below HB.out.2) (by have := H.out.2.2.2; omega) H.out.2.2.1 cap
    rw [← H.out.2.2.2] at hcb
    obtain ⟨Q, hQ⟩ : ∃ Q, Q = outc l 0 := ⟨_, rfl⟩
    rw [← hQ] at hcb
    obtain ⟨S1, c1⟩ := Q
    simp only at hcb
    have HC := Lib.hid (And.intro hcb hQ)
    clear hcb hQ
    go_wp2_with fail
    refine HC.out.1.mono ?_
    rintro e w2 ⟨rfl, hb⟩
    have hb2 := HB.out.2.trans (hb.mono HB.out.2.size)
    have hrf := refs_any (H.out.2.1.below hb2) (by have := H.out.2.2.2; omega) cap
    rw [← H.out.2.2.2] at hrf
    have H2 := Lib.hid (And.intro hb2 hrf)
    clear hb hb2 hrf
    go_wp2_with fail
    refine H2.out.2.mono ?_
    rintro e w3 ⟨a3, cp3, rfl, ho3, hb⟩
    have hra := rsat_any ho3.at (by have := H.out.2.2.2; omega) cp3 0
    rw [← H.out.2.2.2, ← HC.out.2] at hra
    have hb3 := H2.out.1.trans (hb.mono H2.out.1.size)
    have H3 := Lib.hid (And.intro hb3 hra)
    clear hb hb3 ho3 hra
    go_wp2_with fail
    refine H3.out.2.mono ?_
    rintro e w4 ⟨rfl, hb⟩
    have hb4 := H3.out.1.trans (hb.mono H3.out.1.size)
    have hrc := recover_any (H.out.2.1.below hb4) (by have := H.out.2.2.2; omega) H.out.2.2.1 cap x
    rw [← H.out.2.2.2] at hrc
    obtain ⟨Q, hQ⟩ : ∃ Q, Q = rcv l x := ⟨_, rfl⟩
    rw [← hQ] at hrc
    obtain ⟨⟨qx, qn, qy⟩, c2⟩ := Q
    simp only at hrc
    have H4 := Lib.hid (And.intro hb4 (And.intro hrc hQ))
    clear hb hb4 hrc hQ
    go_wp2_with fail
    refine H4.out.2.1.mono ?_
    rintro e w5 ⟨rfl, hb⟩
    have hb5 := H4.out.1.trans (hb.mono H4.out.1.size)
    obtain ⟨w6, hw6⟩ : ∃ w6, w6 = w5.alloc (.cells #[.int .i64 qx, .int .i64 qn, .string qy] 41) := ⟨_, rfl⟩
    have hb6 : Below w.heap.size w w6 := by rw [hw6]; exact hb5.alloc hb5.size _
    have hg6 : w6.heap[w5.heap.size]? = some (.cells #[.int .i64 qx, .int .i64 qn, .string qy] 41 (0, 0)) := by rw [hw6]; exact heap_alloc_new _ _
    have hz6 : w5.heap.size < w6.heap.size := by rw [hw6]; simp
    have hrf := refs_any (H.out.2.1.below hb6) (by have := H.out.2.2.2; omega) cap
    rw [← H.out.2.2.2] at hrf
    have H6 := Lib.hid (And.intro hb6 (And.intro hrf (And.intro hg6 hz6)))
    clear hb hb5 hb6 hrf hg6 hz6
    go_upto_region 6 with fail
    rw [← hw6]
    clear hw6
    go_wp2_with fail
    refine H6.out.2.1.mono ?_
    rintro e w7 ⟨a7, cp7, rfl, ho7, hb⟩
    have hra := rrecover_any ho7.at (by have := H.out.2.2.2; omega) cp7 x
    rw [← H.out.2.2.2, ← H4.out.2.2] at hra
    simp only at hra
    have hb7 := H6.out.1.trans (hb.mono H6.out.1.size)
    have hg7 := (hb.block _ H6.out.2.2.2).trans H6.out.2.2.1
    have hz7 := Nat.lt_of_lt_of_le H6.out.2.2.2 hb.size
    have H7 := Lib.hid (And.intro hb7 (And.intro hra (And.intro hg7 hz7)))
    clear hb hb7 ho7 hra hg7 hz7
    go_wp2_with fail
    refine H7.out.2.1.mono ?_
    rintro e w8 ⟨rfl, hb⟩
    have hb8 := H7.out.1.trans (hb.mono H7.out.1.size)
    have hg8 := (hb.block _ H7.out.2.2.2).trans H7.out.2.2.1
    have hz8 := Nat.lt_of_lt_of_le H7.out.2.2.2 hb.size
    obtain ⟨w9, hw9⟩ : ∃ w9, w9 = w8.alloc (.cells #[.int .i64 qx, .int .i64 qn, .string qy] 44) := ⟨_, rfl⟩
    have hb9 : Below w.heap.size w w9 := by rw [hw9]; exact hb8.alloc hb8.size _
    have hb89 : Below w8.heap.size w8 w9 := by rw [hw9]; exact (Below.refl _ _).alloc (Nat.le_refl _) _
    have hg9 := (hb89.block _ hz8).trans hg8
    have hk9 : w9.heap[w8.heap.size]? = some (.cells #[.int .i64 qx, .int .i64 qn, .string qy] 44 (0, 0)) := by rw [hw9]; exact heap_alloc_new _ _
    have hz9 : w8.heap.size < w9.heap.size := by rw [hw9]; simp
    have H9 := Lib.hid (And.intro hb9 (And.intro hg9 (And.intro hk9 (And.intro hz9 (Nat.lt_trans hz8 hz9)))))
    clear hb hb8 hg8 hz8 hb9 hb89 hg9 hk9 hz9
    go_upto_region 7 with fail
    rw [← hw9]
    clear hw9
    go_wp2_with fail
    refine (awake_any _).mono ?_
    rintro e wa ⟨rfl, hb⟩
    have hga := (hb.block _ H9.out.2.2.2.2).trans H9.out.2.1
    have hka := (hb.block _ H9.out.2.2.2.1).trans H9.out.2.2.1
    have p0 : wa.cell? ⟨w5.heap.size, 0, none⟩ = some (.int .i64 qx) := by rw [cell_of_row _ _ _ _ _ _ hga]; rfl
    have p1 : wa.cell? ⟨w5.heap.size, 1, none⟩ = some (.int .i64 qn) := by rw [cell_of_row _ _ _ _ _ _ hga]; rfl
    have p2 : wa.cell? ⟨w5.heap.size, 2, none⟩ = some (.string qy) := by rw [cell_of_row _ _ _ _ _ _ hga]; rfl
    have q0 : wa.cell? ⟨w8.heap.size, 0, none⟩ = some (.int .i64 qx) := by rw [cell_of_row _ _ _ _ _ _ hka]; rfl
    have q1 : wa.cell? ⟨w8.heap.size, 1, none⟩ = some (.int .i64 qn) := by rw [cell_of_row _ _ _ _ _ _ hka]; rfl
    have q2 : wa.cell? ⟨w8.heap.size, 2, none⟩ = some (.string qy) := by rw [cell_of_row _ _ _ _ _ _ hka]; rfl
    have hxx : (qy.toList == qy.toList) = true := by simp
    have hss : (S1.toList == S1.toList) = true := by simp
    have HA := Lib.hid (H9.out.1.trans (hb.mono H9.out.1.size))
    clear hb hga hka
    go_wp2_with fail
    go_ret
    exact ⟨rfl, HA.out⟩
end Go.Proofs.YtefpfedpgedloaaDoor

namespace Go.Proofs.YtefpfedpgedloaaDoor.shamirCombinesLaw
open Go.ChangeShapes Go.WideShapes Go.ChangeAt Go.RowKit
open Go.ChangeMaps (open_string shut_string)

set_option maxRecDepth 100000 in
theorem contract (H : Type) (enc : TypeId × Value → H) (W : World) (base : Nat) (args : Array Value) (ds gs : List (DataW H)) (before : List MemPlace)
    (hval : ∀ (j : Nat) t v, Tryd.f4.params[j]? = some t → args[j]? = some v → Value.okWide Tryd.prog W .any base t v)
    (hW : DataW.Whole enc Tryd.prog Tryd.f4.params.toList Rows.shamirCombinesSpec.vars false W args.toList ds gs before) (_ : laidMetH Tryd.prog Rows.shamirCombinesRow.laid W) :
    Calls Tryd.prog 4 args W fun e W' => ∃ v, e = .returned v ∧ Rows.shamirCombinesSpec.post enc Tryd.prog Tryd.f4 false true false false W args v W' := by
  have hW' := hW
  obtain ⟨p, q, hA0, hV, rfl, hfz, hnd⟩ := hW
  have hA : DataW.TrodAll enc Tryd.prog W 0 (fun _ => true) true Tryd.f4.params.toList args.toList ds p := hA0
  rw [Tryd.params4] at hA hval
  obtain ⟨v0, vs0, d0, ds0, p0, q0, hargs, rfl, rfl, h0, r0⟩ := trodAll_cons hA
  obtain ⟨v1, vs1, d1, ds1, p1, q1, rfl, rfl, rfl, h1, r1⟩ := trodAll_cons r0
  obtain ⟨rfl, rfl, rfl⟩ := trodAll_nil r1
  obtain rfl : args = #[v0, v1] := by cases args; simp_all
  obtain ⟨rfl, rfl⟩ := trodVars_none hV
  obtain ⟨a0, len0, cap0, rfl⟩ := okWide_slice Tryd.underlying25 (hval 0 25 v0 rfl rfl)
  have hk0 := h0
  obtain ⟨fuel0, hf0⟩ := h0
  obtain ⟨n1, rfl, rfl, rfl, ws1⟩ := open_int Tryd.underlying3 (hval 1 3 v1 rfl rfl) h1
  have hbd1 := ws1
  simp only [Lit.wf, Bool.and_eq_true, decide_eq_true_eq] at hbd1
  clear hA0
  simp only [List.append_nil] at hW'
  have hlt0 : ∀ x ∈ p0, x.block < W.heap.size := fun x hx => by simpa using hW'.lt x (by simp [hx])
  obtain ⟨ss0, hlen0, hmax0, hO0, hT0⟩ := shares_of hf0 hlt0
  subst hlen0
  refine (combines_law ss0 a0 cap0 hT0 hO0 hmax0 n1 hbd1.1 hbd1.2 (w := W)).mono fun e W' ⟨he, hb⟩ => ?_
  subst he
  exact ⟨_, rfl, _, _, _, [], _, [], hW', trodAll_cons_mk (shut_bool Tryd.underlying4 _) trodAll_mk0, (trodAll_cons_mk (Below.trod laidOut (by kernel_rfl) (of_decide_eq_true (by kernel_rfl)) hk0 hb hlt0) (trodAll_cons_mk (shut_int Tryd.underlying3 ws1) trodAll_mk0)), rfl, hb.frame _, fun h => by cases h⟩
theorem laid_met (os : Os) : laidMet Tryd.prog Rows.shamirCombinesRow.laid ((laidWorld os).forCall (fun _ _ => 0) ⟨#[], #[.slice none 0 0, .int .i64 0], []⟩).memory :=
  laidMet_of_run' 8 (by kernel_rfl) (by kernel_rfl)
theorem reads (os : Os) {H : Type} (enc : TypeId × Value → H) : ∃ places, DataW.whole enc Tryd.prog ((laidWorld os).forCall (fun _ _ => 0) ⟨#[], #[.slice none 0 0, .int .i64 0], []⟩).memory Tryd.f4.params.toList Rows.shamirCombinesSpec.vars false #[Value.slice none 0 0, .int .i64 0].toList 8 = some ([.nil, .lit (.int .i64 0)], [], places) :=
  ⟨[], by kernel_rfl⟩
set_option maxRecDepth 100000 in
theorem lifted (os : Os) (started : os.Started) (H : Type) (enc : TypeId × Value → H) (F : Stop.Interp) :
    ReturnsInHanded {} Tryd.checked os 4 .any ((OpenSpec.ofChange Rows.shamirCombinesSpec).preRow enc Tryd.prog Tryd.f4 Rows.shamirCombinesRow.domain false Rows.shamirCombinesRow.laid) (((OpenSpec.ofChange Rows.shamirCombinesSpec).at F).post enc Tryd.prog Tryd.f4 false true false false) := by
  obtain ⟨places, hx⟩ := reads os enc
  refine returnsInHanded_of_row (C := Tryd.checked) (s := OpenSpec.ofChange Rows.shamirCombinesSpec) own started (by kernel_rfl) Tryd.func4
    (witness_row_at (enc := enc) (C := Tryd.checked) false (laidWorld os) #[.slice none 0 0, .int .i64 0] rfl (by kernel_rfl) (by kernel_rfl) (by kernel_rfl)
      (OpenSpec.preRow_of_cond 8 hx (by kernel_rfl) (fun k hk => by cases hk) (by kernel_rfl) (laid_met os))) ?_
  intro W base args ds gs before hval hW _ _ _ hL _ _
  exact contract H enc W base args ds gs before hval hW hL
theorem said : Rows.ShamirCombinesSaid :=
  OpenClaim.holds_of_cond 4 Tryd.f4 rfl rfl rfl rfl rfl rfl rfl ⟨rfl, rfl, rfl, rfl, rfl⟩ rfl rfl rfl rfl rfl (by kernel_rfl) Tryd.func4 (by kernel_rfl)
    (of_decide_eq_true (by kernel_rfl)) (by unfold Func.isWrapper; first | (rw [if_pos (by decide +kernel)]; kernel_rfl) | (rw [if_neg (by decide +kernel)]; exact ⟨rfl, rfl⟩))
    (fun os started H enc _ F => by rw [OpenClaim.pre_eq_preRow]; exact lifted os started H enc F)
theorem plain (f : FuncId) (fn : Func) (hf : Tryd.pinned.checked.prog.funcNamed "lockbox/lockboxlaw09.ShamirCombines" = some f) (hfn : Tryd.pinned.checked.prog.funcs[f]? = some fn) :
    false = Tryd.pinned.checked.prog.looks [] ∧ ∀ (j : Nat) t, fn.params[j]? = some t → Tryd.pinned.checked.prog.wantsStandIn t = false := by
  obtain rfl : f = 4 := Option.some.inj ((show Tryd.prog.funcNamed "lockbox/lockboxlaw09.ShamirCombines" = some 4 by kernel_rfl).symm.trans hf) |>.symm
  obtain rfl : fn = Tryd.f4 := (Option.some.inj (Tryd.func4.symm.trans hfn)).symm
  refine ⟨by kernel_rfl, fun j t ht => ?_⟩
  rw [Tryd.params4] at ht
  have hm : t ∈ [25, 3] := by simpa using Array.mem_of_getElem? ht
  have hall : ([25, 3].all fun u => !Tryd.prog.wantsStandIn u) = true := by kernel_rfl
  exact (show Tryd.prog.wantsStandIn t = false by simpa using List.all_eq_true.1 hall t hm)
end Go.Proofs.YtefpfedpgedloaaDoor.shamirCombinesLaw

namespace Go.Proofs.YtefpfedpgedloaaDoor
/-- THE CARD. -/
theorem shamirCombines_card : Rows.ShamirCombinesCardSaid :=
  Claim7.holds_tied_plain_at .later [] _ _ _ _ shamirCombinesLaw.said (fun _ h => by cases h) (by kernel_rfl) (fun _ h => by cases h) shamirCombines_row_tie rfl ⟨rfl, rfl⟩ (by kernel_rfl) rfl shamirCombinesLaw.plain (by kernel_rfl)
end Go.Proofs.YtefpfedpgedloaaDoor
