/- PROVED HERE: for every secret, every way to split it and every number the law ShamirAny returns true (any so many shares as are needed combine to the secret and tell any other share; one fewer is refused). No condition. -/
import Derived.Test.YtefpfedpgedloaaDoorVAnyM
import Derived.Test.YtefpfedpgedloaaDoorVOpen
import Derived.Test.YtefpfedpgedloaaDoorVSplit2
import Derived.Test.YtefpfedpgedloaaDoorVAwake
import Derived.Test.YtefpfedpgedloaaDoorVCombine
import Derived.Test.YtefpfedpgedloaaDoorVChosen
import Derived.Test.YtefpfedpgedloaaDoorPLaid
namespace Go.Proofs.YtefpfedpgedloaaDoor
open Go.RowKit
open Gf

/-- The box of the argument that is built of parts, and all that was there. -/
structure AnyW (w : World) (need n : Int) (d : ByteArray) (W : World) : Prop where
  below : Below w.heap.size w W
  h0 : W.heap[w.heap.size]? = some (.cells #[.int .i64 need, .int .i64 n, .string d] 23 (0, 0))
theorem AnyW.start (w : World) (need n : Int) (d : ByteArray) : AnyW w need n d (w.alloc (.cells #[.int .i64 need, .int .i64 n, .string d] 23)) :=
  ⟨(Below.refl _ _).alloc (Nat.le_refl _) _, heap_alloc_new _ _⟩
section
variable {w W W' : World} {need n : Int} {d : ByteArray}
theorem AnyW.lt (h : AnyW w need n d W) : w.heap.size < W.heap.size := (Array.getElem?_eq_some_iff.1 h.h0).1
theorem AnyW.step (h : AnyW w need n d W) (hb : Below W.heap.size W W') : AnyW w need n d W' :=
  ⟨h.below.trans (hb.mono h.below.size), (hb.block _ h.lt).trans h.h0⟩
theorem AnyW.c0 (h : AnyW w need n d W) : W.cell? ⟨w.heap.size, 0, none⟩ = some (.int .i64 need) := by rw [cell_of_row _ _ _ _ _ _ h.h0]; rfl
theorem AnyW.c1 (h : AnyW w need n d W) : W.cell? ⟨w.heap.size, 1, none⟩ = some (.int .i64 n) := by rw [cell_of_row _ _ _ _ _ _ h.h0]; rfl
theorem AnyW.c2 (h : AnyW w need n d W) : W.cell? ⟨w.heap.size, 2, none⟩ = some (.string d) := by rw [cell_of_row _ _ _ _ _ _ h.h0]; rfl
end
set_option maxRecDepth 100000 in
set_option maxHeartbeats 1000000 in
theorem any_law {w : World} (s : ByteArray) (hs : s.size ≤ maxLen) (x : Hw) (hx : x.Ok) (bits : Int) (hb1 : -9223372036854775808 ≤ bits) (hb2 : bits ≤ 9223372036854775807) : Calls Tryd.prog 5 #[.string s, .agg x.cells, .int .i64 bits] w fun e w' => e = .returned (.bool true) ∧ Below w.heap.size w w' := by
  obtain ⟨need, n, d⟩ := x
  obtain ⟨⟨x1, x2⟩, ⟨x3, x4⟩, x5⟩ := hx
  simp only at x1 x2 x3 x4 x5
  unfold Hw.cells
  simp only
  have H0 := Lib.hid (AnyW.start w need n d)
  by_cases hout : n > 12 ∨ 64 < s.size
  · have b1 := H0.out.c1
    have hfin : ∀ e w1, (e = Ending.returned (.bool true) ∧ Below (w.alloc (.cells #[.int .i64 need, .int .i64 n, .string d] 23)).heap.size (w.alloc (.cells #[.int .i64 need, .int .i64 n, .string d] 23)) w1) → Below w.heap.size w w1 := fun e w1 h => (H0.out.step h.2).below
    have HF := Lib.hid hfin
    clear hfin
    go_enter Tryd.func5, Tryd.ntmps5
    by_cases q1 : n > 12
    · have q1' : decide (12 < n) = true := decide_eq_true q1
      clear hout
      go_wp2_with fail
      refine (awake_any _).mono ?_
      rintro e w1 ⟨rfl, hb⟩
      have HB := Lib.hid (HF.out _ _ ⟨rfl, hb⟩)
      clear hb
      go_wp2_with fail
      go_ret
      exact ⟨rfl, HB.out⟩
    · have q1' : decide (12 < n) = false := decide_eq_false q1
      have q2 : 64 < s.size := by omega
      have q2' : decide (64 < s.size) = true := decide_eq_true q2
      have q3' : decide ((64 : Int) < (s.size : Int)) = true := decide_eq_true (by omega)
      clear hout
      go_wp2_with fail
      refine (awake_any _).mono ?_
      rintro e w1 ⟨rfl, hb⟩
      have HB := Lib.hid (HF.out _ _ ⟨rfl, hb⟩)
      clear hb
      go_wp2_with fail
      go_ret
      exact ⟨rfl, HB.out⟩
  · have b1 := H0.out.c1
    have q1 : ¬ n > 12 := fun e => hout (.inl e)
    have q1' : decide (12 < n) = false := decide_eq_false q1
    have q2 : ¬ 64 < s.size := fun e => hout (.inr e)
    have q2' : decide (64 < s.size) = false := decide_eq_false q2
    have q3' : decide ((64 : Int) < (s.size : Int)) = false := decide_eq_false (by omega)
    clear hout
    cases hm : mayP s d need n with
    | false =>
      have hsp := fun W => split_bad s d need n hs hm W
      have HS := Lib.hid hsp
      clear hsp hm hs
      go_enter Tryd.func5, Tryd.ntmps5
      go_wp2_with fail
      refine (awake_any _).mono ?_
      rintro e w1 ⟨rfl, hb⟩
      have H1 := Lib.hid (H0.out.step hb)
      clear hb b1
      have b0 := H1.out.c0
      have b1 := H1.out.c1
      have b2 := H1.out.c2
      go_wp2_with fail
      refine (HS.out _).mono ?_
      rintro e w' ⟨rfl, rfl⟩
      go_wp2_with fail
      refine (awake_any _).mono ?_
      rintro e w2 ⟨rfl, hb⟩
      have H2 := Lib.hid (H1.out.step hb)
      clear hb b0 b1 b2
      go_wp2_with fail
      go_ret
      exact ⟨rfl, H2.out.below⟩
    | true =>
      have hpm := mayP_iff.1 hm
      obtain ⟨N, rfl⟩ : ∃ N : Nat, n = (N : Int) := ⟨n.toNat, by omega⟩
      have hsp := fun W => split_good s d need N hm W
      have hN0 : (0 : Int) < N := by omega
      have hN1 : (N : Int) ≤ 12 := by omega
      have hn1 : 1 ≤ need := hpm.2.1
      have hn2 : need ≤ N := hpm.2.2.1
      have hs64 := hpm.1.2
      have HS := Lib.hid (And.intro hsp (And.intro hm hs64))
      clear hsp hm hs hpm hs64
      go_enter Tryd.func5, Tryd.ntmps5
      go_wp2_with fail
      refine (awake_any _).mono ?_
      rintro e w1 ⟨rfl, hb⟩
      have H1 := Lib.hid (H0.out.step hb)
      clear hb b1
      have b0 := H1.out.c0
      have b1 := H1.out.c1
      have b2 := H1.out.c2
      go_wp2_with fail
      refine (HS.out.1 _).mono ?_
      rintro e w2 ⟨al, cp, rfl, ho, hb⟩
      obtain ⟨g, rfl, hgB, hgl, hgc, hgf⟩ := ho.addr (by rw [splt_length]; omega)
      have hch := chosen_any ho.at (by rw [splt_length]; omega) cp bits need hb1 hb2 hn1 (by rw [splt_length]; omega)
      rw [splt_length] at hch
      have O2 := H1.out.step hb
      clear b0 b1 b2
      have b0 := O2.c0
      have H2 := Lib.hid (And.intro O2 (And.intro ho hch))
      clear O2 ho hch hb
      rw [splt_length] at hgc
      go_wp2_with fail
      refine H2.out.2.2.mono ?_
      rintro e w3 ⟨a3, cp3, c, rfl, hoc, hsub, hlen, hb3⟩
      have hci := any_out HS.out.2.1 hsub hlen 0
      rw [shY_zero] at hci
      have hcl : c.length ≤ N := by have := hsub.length_le; rwa [splt_length] at this
      have hcs : ∀ u ∈ c, u.y.size ≤ maxLen := fun u hu => by
        have := (okS_iff.1 ((splt_alk HS.out.2.1).ok u (hsub.subset hu))).2.2.2
        unfold maxLen; omega
      have hcm := combine_any hoc.at (by omega) hcs cp3
      rw [hci] at hcm
      obtain ⟨q, hq⟩ : ∃ q, q = c.length := ⟨_, rfl⟩
      rw [← hq] at hcm hlen hcl ⊢
      have O3 := H2.out.1.step hb3
      have hgl3 : g < w3.heap.size := Nat.lt_of_lt_of_le hgl hb3.size
      have H3 := Lib.hid (And.intro O3 (And.intro hoc (And.intro hsub (And.intro hq (And.intro hcs (And.intro hcm (H2.out.2.1.below hb3)))))))
      clear O3 hoc hsub hq hcs hcm hb3 hci b0
      go_wp2_with fail
      refine H3.out.2.2.2.2.2.1.mono ?_
      rintro e w4 ⟨rfl, hb4⟩
      have O4 := H3.out.1.step hb4
      have hgl4 : g < w4.heap.size := Nat.lt_of_lt_of_le hgl3 hb4.size
      have b0 := O4.c0
      have hS4 := H3.out.2.2.2.2.2.2.below hb4
      have hC4 := H3.out.2.1.below hb4
      have H4 := Lib.hid (And.intro O4 (And.intro hS4 hC4))
      clear O4 hS4 hC4 hb4
      have hqn : decide ((q : Int) < need) = false := decide_eq_false (by omega)
      go_wp2_with fail
      go_loopw [12, 13, 14] (fun i _ _ wr => ∃ k : Nat, k ≤ N ∧ i = .int .i64 (k : Int) ∧ Below w4.heap.size w4 wr) (fun i _ _ _ => N - (intOf i).toNat)
      case atStart => exact ⟨0, by omega, rfl, Below.refl _ _⟩
      case round =>
        obtain ⟨k, hk, rfl, hbr⟩ := hrel
        by_cases hlt : k < N
        · have hrc := recover_any ((H4.out.2.2.below hbr).at) (by rw [← H3.out.2.2.2.1]; omega) H3.out.2.2.2.2.1 cp3 ((k : Int) + 1)
          obtain ⟨Y, hY⟩ : ∃ Y, Y = shY s d (need.toNat - 1) (bx ((k : Int) + 1)) := ⟨_, rfl⟩
          have hrv : rcv c ((k : Int) + 1) = (⟨(k : Int) + 1, need, Y⟩, 0) := by
            have hne : c ≠ [] := fun e => by have := H3.out.2.2.2.1; rw [e] at this; simp at this; omega
            unfold rcv
            rw [any_out HS.out.2.1 H3.out.2.2.1 (by rw [← H3.out.2.2.2.1]; exact hlen), if_pos rfl, if_pos (by omega), ((splt_alk HS.out.2.1).sub H3.out.2.2.1).need0 hne, hY]
          rw [hrv, ← H3.out.2.2.2.1] at hrc
          obtain ⟨r0, r1, r2, -⟩ := (H4.out.2.1.below hbr).cells (splt_get hlt)
          simp only [← hY] at r0 r1 r2
          have hgr : g < wr.heap.size := Nat.lt_of_lt_of_le hgl4 hbr.size
          have HR := Lib.hid (And.intro hrc hbr)
          clear hrc hbr hY hrv
          go_wp2_with fail
          refine HR.out.1.mono ?_
          rintro e w5 ⟨rfl, hb5⟩
          have q0 := (hb5.cell (p := ⟨g, k * 3, none⟩) hgr).trans r0
          have q1 := (hb5.cell (p := ⟨g, k * 3 + 1, none⟩) hgr).trans r1
          have q2 := (hb5.cell (p := ⟨g, k * 3 + 2, none⟩) hgr).trans r2
          have H5 := Lib.hid (HR.out.2.trans (hb5.mono HR.out.2.size))
          clear hb5 r0 r1 r2
          go_upto_region 16 with fail
          obtain ⟨w6, hw6⟩ : ∃ w6, w6 = w5.alloc (.cells #[.int .i64 ((k : Int) + 1), .int .i64 need, .string Y] 41) := ⟨_, rfl⟩
          rw [← hw6]
          have hz56 : g < w5.heap.size := Nat.lt_of_lt_of_le hgl4 H5.out.size
          have hb6 : Below w5.heap.size w5 w6 := by rw [hw6]; exact (Below.refl _ _).alloc (Nat.le_refl _) _
          have hg6 : w6.heap[w5.heap.size]? = some (.cells #[.int .i64 ((k : Int) + 1), .int .i64 need, .string Y] 41 (0, 0)) := by rw [hw6]; exact heap_alloc_new _ _
          have p0 : w6.cell? ⟨w5.heap.size, 0, none⟩ = some (.int .i64 ((k : Int) + 1)) := by rw [cell_of_row _ _ _ _ _ _ hg6]; rfl
          have p1 : w6.cell? ⟨w5.heap.size, 1, none⟩ = some (.int .i64 need) := by rw [cell_of_row _ _ _ _ _ _ hg6]; rfl
          have p2 : w6.cell? ⟨w5.heap.size, 2, none⟩ = some (.string Y) := by rw [cell_of_row _ _ _ _ _ _ hg6]; rfl
          have r0 := (hb6.cell (p := ⟨g, k * 3, none⟩) hz56).trans q0
          have r1 := (hb6.cell (p := ⟨g, k * 3 + 1, none⟩) hz56).trans q1
          have r2 := (hb6.cell (p := ⟨g, k * 3 + 2, none⟩) hz56).trans q2
          have H6 := Lib.hid (H5.out.trans (hb6.mono H5.out.size))
          clear hb6 hg6 hw6 q0 q1 q2
          go_quiet (fail)
          go_wp2_with fail
          go_roundw
          case rel => exact ⟨k + 1, by omega, by go_num, H6.out.trans ⟨rfl, rfl, rfl, Nat.le_refl _, fun _ _ => rfl⟩⟩
          case measure => simp [intOf]; omega
        · obtain rfl : k = N := by omega
          obtain ⟨g3, rfl, hg3B, hg3l, hq3, -⟩ := H3.out.2.1.addr (by rw [← H3.out.2.2.2.1]; omega)
          rw [← H3.out.2.2.2.1] at hq3
          obtain ⟨r, hr⟩ : ∃ r : Nat, need - 1 = (r : Int) := ⟨(need - 1).toNat, by omega⟩
          have hrq : r ≤ q := by omega
          have hrcp : r ≤ cp3 := by omega
          have hwr : IntKind.i64.wrap (need - 1) = (r : Int) := by rw [hr]; exact IntWalk.i64_in _ (by omega)
          have hO := AnyW.step H4.out.1 hbr
          have b0r := hO.c0
          have hfew := any_few (c := c.take r) HS.out.2.1 ((List.take_sublist _ _).trans H3.out.2.2.1) (by rw [List.length_take, ← H3.out.2.2.2.1]; omega) 0
          have hcm := combine_any (((H4.out.2.2.below hbr).at).take r) (by rw [List.length_take]; omega) (fun u hu => H3.out.2.2.2.2.1 u (List.mem_of_mem_take hu)) cp3
          rw [hfew, List.length_take, ← H3.out.2.2.2.1, Nat.min_eq_left hrq] at hcm
          have HE := Lib.hid (And.intro hcm hO)
          clear hcm hfew hO hbr b0
          go_wp2_with fail
          refine HE.out.1.mono ?_
          rintro e w5 ⟨rfl, hb5⟩
          have H5 := Lib.hid (HE.out.2.step hb5)
          clear hb5
          go_wp2_with fail
          refine (awake_any _).mono ?_
          rintro e w6 ⟨rfl, hb6⟩
          have H6 := Lib.hid (H5.out.step hb6)
          clear hb6
          go_wp2_with fail
          go_ret
          exact ⟨rfl, H6.out.below⟩
end Go.Proofs.YtefpfedpgedloaaDoor

namespace Go.Proofs.YtefpfedpgedloaaDoor.shamirAnyLaw
open Go.ChangeShapes Go.WideShapes Go.ChangeAt Go.RowKit
open Go.ChangeMaps (open_string shut_string)

set_option maxRecDepth 100000 in
theorem contract (H : Type) (enc : TypeId × Value → H) (W : World) (base : Nat) (args : Array Value) (ds gs : List (DataW H)) (before : List MemPlace)
    (hval : ∀ (j : Nat) t v, Tryd.f5.params[j]? = some t → args[j]? = some v → Value.okWide Tryd.prog W .any base t v)
    (hW : DataW.Whole enc Tryd.prog Tryd.f5.params.toList Rows.shamirAnySpec.vars false W args.toList ds gs before) (_ : laidMetH Tryd.prog Rows.shamirAnyRow.laid W) :
    Calls Tryd.prog 5 args W fun e W' => ∃ v, e = .returned v ∧ Rows.shamirAnySpec.post enc Tryd.prog Tryd.f5 false true false false W args v W' := by
  have hW' := hW
  obtain ⟨p, q, hA0, hV, rfl, hfz, hnd⟩ := hW
  have hA : DataW.TrodAll enc Tryd.prog W 0 (fun _ => true) true Tryd.f5.params.toList args.toList ds p := hA0
  rw [Tryd.params5] at hA hval
  obtain ⟨v0, vs0, d0, ds0, p0, q0, hargs, rfl, rfl, h0, r0⟩ := trodAll_cons hA
  obtain ⟨v1, vs1, d1, ds1, p1, q1, rfl, rfl, rfl, h1, r1⟩ := trodAll_cons r0
  obtain ⟨v2, vs2, d2, ds2, p2, q2, rfl, rfl, rfl, h2, r2⟩ := trodAll_cons r1
  obtain ⟨rfl, rfl, rfl⟩ := trodAll_nil r2
  obtain rfl : args = #[v0, v1, v2] := by cases args; simp_all
  obtain ⟨rfl, rfl⟩ := trodVars_none hV
  obtain ⟨s0, rfl, rfl, rfl, ws0⟩ := open_string Tryd.underlying9 (hval 0 9 v0 rfl rfl) h0
  obtain ⟨cs1, rfl, hcs1⟩ := okWide_struct Tryd.underlying23 (hval 1 23 v1 rfl rfl)
  have hk1 := h1
  obtain ⟨fuel1, hf1⟩ := h1
  obtain ⟨n2, rfl, rfl, rfl, ws2⟩ := open_int Tryd.underlying3 (hval 2 3 v2 rfl rfl) h2
  have hbd2 := ws2
  simp only [Lit.wf, Bool.and_eq_true, decide_eq_true_eq] at hbd2
  clear hA0
  simp only [List.append_nil, List.nil_append] at hW'
  have hlt1 : ∀ x ∈ p1, x.block < W.heap.size := fun x hx => by simpa using hW'.lt x (by simp [hx])
  obtain ⟨x1a, hit1, hf1a⟩ := open_how hf1
  obtain rfl : cs1 = Hw.cells x1a := Array.toList_inj.1 hit1
  refine (any_law s0 (by simpa using ws0) x1a hf1a n2 hbd2.1 hbd2.2 (w := W)).mono fun e W' ⟨he, hb⟩ => ?_
  subst he
  exact ⟨_, rfl, _, _, _, [], _, [], hW', trodAll_cons_mk (shut_bool Tryd.underlying4 _) trodAll_mk0, (trodAll_cons_mk (shut_string Tryd.underlying9 ws0) (trodAll_cons_mk (Below.trod laidOut (by kernel_rfl) (of_decide_eq_true (by kernel_rfl)) hk1 hb hlt1) (trodAll_cons_mk (shut_int Tryd.underlying3 ws2) trodAll_mk0))), rfl, hb.frame _, fun h => by cases h⟩
theorem laid_met (os : Os) : laidMet Tryd.prog Rows.shamirAnyRow.laid ((laidWorld os).forCall (fun _ _ => 0) ⟨#[], #[.string ⟨#[]⟩, .agg #[.int .i64 0, .int .i64 0, .string ⟨#[]⟩], .int .i64 0], []⟩).memory :=
  laidMet_of_run' 8 (by kernel_rfl) (by kernel_rfl)
theorem reads (os : Os) {H : Type} (enc : TypeId × Value → H) : ∃ places, DataW.whole enc Tryd.prog ((laidWorld os).forCall (fun _ _ => 0) ⟨#[], #[.string ⟨#[]⟩, .agg #[.int .i64 0, .int .i64 0, .string ⟨#[]⟩], .int .i64 0], []⟩).memory Tryd.f5.params.toList Rows.shamirAnySpec.vars false #[Value.string ⟨#[]⟩, .agg #[.int .i64 0, .int .i64 0, .string ⟨#[]⟩], .int .i64 0].toList 8 = some ([.lit (.string []), .agg [.lit (.int .i64 0), .lit (.int .i64 0), .lit (.string [])], .lit (.int .i64 0)], [], places) :=
  ⟨[], by kernel_rfl⟩
set_option maxRecDepth 100000 in
theorem lifted (os : Os) (started : os.Started) (H : Type) (enc : TypeId × Value → H) (F : Stop.Interp) :
    ReturnsInHanded {} Tryd.checked os 5 .any ((OpenSpec.ofChange Rows.shamirAnySpec).preRow enc Tryd.prog Tryd.f5 Rows.shamirAnyRow.domain false Rows.shamirAnyRow.laid) (((OpenSpec.ofChange Rows.shamirAnySpec).at F).post enc Tryd.prog Tryd.f5 false true false false) := by
  obtain ⟨places, hx⟩ := reads os enc
  refine returnsInHanded_of_row (C := Tryd.checked) (s := OpenSpec.ofChange Rows.shamirAnySpec) own started (by kernel_rfl) Tryd.func5
    (witness_row_at (enc := enc) (C := Tryd.checked) false (laidWorld os) #[.string ⟨#[]⟩, .agg #[.int .i64 0, .int .i64 0, .string ⟨#[]⟩], .int .i64 0] rfl (by kernel_rfl) (by kernel_rfl) (by kernel_rfl)
      (OpenSpec.preRow_of_cond 8 hx (by kernel_rfl) (fun k hk => by cases hk) (by kernel_rfl) (laid_met os))) ?_
  intro W base args ds gs before hval hW _ _ _ hL _ _
  exact contract H enc W base args ds gs before hval hW hL
theorem said : Rows.ShamirAnySaid :=
  OpenClaim.holds_of_cond 5 Tryd.f5 rfl rfl rfl rfl rfl rfl rfl ⟨rfl, rfl, rfl, rfl, rfl⟩ rfl rfl rfl rfl rfl (by kernel_rfl) Tryd.func5 (by kernel_rfl)
    (of_decide_eq_true (by kernel_rfl)) (by unfold Func.isWrapper; first | (rw [if_pos (by decide +kernel)]; kernel_rfl) | (rw [if_neg (by decide +kernel)]; exact ⟨rfl, rfl⟩))
    (fun os started H enc _ F => by rw [OpenClaim.pre_eq_preRow]; exact lifted os started H enc F)
theorem plain (f : FuncId) (fn : Func) (hf : Tryd.pinned.checked.prog.funcNamed "lockbox/lockboxlaw09.ShamirAny" = some f) (hfn : Tryd.pinned.checked.prog.funcs[f]? = some fn) :
    false = Tryd.pinned.checked.prog.looks [] ∧ ∀ (j : Nat) t, fn.params[j]? = some t → Tryd.pinned.checked.prog.wantsStandIn t = false := by
  obtain rfl : f = 5 := Option.some.inj ((show Tryd.prog.funcNamed "lockbox/lockboxlaw09.ShamirAny" = some 5 by kernel_rfl).symm.trans hf) |>.symm
  obtain rfl : fn = Tryd.f5 := (Option.some.inj (Tryd.func5.symm.trans hfn)).symm
  refine ⟨by kernel_rfl, fun j t ht => ?_⟩
  rw [Tryd.params5] at ht
  have hm : t ∈ [9, 23, 3] := by simpa using Array.mem_of_getElem? ht
  have hall : ([9, 23, 3].all fun u => !Tryd.prog.wantsStandIn u) = true := by kernel_rfl
  exact (show Tryd.prog.wantsStandIn t = false by simpa using List.all_eq_true.1 hall t hm)
end Go.Proofs.YtefpfedpgedloaaDoor.shamirAnyLaw

namespace Go.Proofs.YtefpfedpgedloaaDoor
/-- THE CARD. -/
theorem shamirAny_card : Rows.ShamirAnyCardSaid :=
  Claim7.holds_tied_plain_at .later [] _ _ _ _ shamirAnyLaw.said (fun _ h => by cases h) (by kernel_rfl) (fun _ h => by cases h) shamirAny_row_tie rfl ⟨rfl, rfl⟩ (by kernel_rfl) rfl shamirAnyLaw.plain (by kernel_rfl)
end Go.Proofs.YtefpfedpgedloaaDoor
