/- PROVED HERE: for every secret, every way to split it and every other secret the law ShamirSecret returns true (one fewer share than are needed tells nothing: with some bytes any other secret of as many bytes is split into just these). No condition. -/
import Derived.Test.YtefpfedpgedloaaDoorVExpl
import Derived.Test.YtefpfedpgedloaaDoorVOpen
import Derived.Test.YtefpfedpgedloaaDoorVSplit2
import Derived.Test.YtefpfedpgedloaaDoorVAwake
import Derived.Test.YtefpfedpgedloaaDoorPLaid
namespace Go.Proofs.YtefpfedpgedloaaDoor
open Go.RowKit
open Gf

/-- The box of the argument that is built of parts, and all that was there. -/
structure AnyW (w : World) (need n : Int) (d : ByteArray) (W : World) : Prop where
  below : Below w.heap.size w W
  h0 : W.heap[w.heap.size]? = some (.cells #[.int .i64 need, .int .i64 n, .string d] 23 (0, 0))
theorem AnyW.start (w : World) (need n : Int) (d : ByteArray) : AnyW w need n d (w.alloc (.cells #[.int .i64 need, .int .i64 n, .string d] 23)) :=
  ⟨(Below.refl _ _).alloc (Nat.le_refl _) _, heap_alloc_new _ _⟩
section
variable {w W W' : World} {need n : Int} {d : ByteArray}
theorem AnyW.lt (h : AnyW w need n d W) : w.heap.size < W.heap.size := (Array.getElem?_eq_some_iff.1 h.h0).1
theorem AnyW.step (h : AnyW w need n d W) (hb : Below W.heap.size W W') : AnyW w need n d W' :=
  ⟨h.below.trans (hb.mono h.below.size), (hb.block _ h.lt).trans h.h0⟩
theorem AnyW.c0 (h : AnyW w need n d W) : W.cell? ⟨w.heap.size, 0, none⟩ = some (.int .i64 need) := by rw [cell_of_row _ _ _ _ _ _ h.h0]; rfl
theorem AnyW.c1 (h : AnyW w need n d W) : W.cell? ⟨w.heap.size, 1, none⟩ = some (.int .i64 n) := by rw [cell_of_row _ _ _ _ _ _ h.h0]; rfl
theorem AnyW.c2 (h : AnyW w need n d W) : W.cell? ⟨w.heap.size, 2, none⟩ = some (.string d) := by rw [cell_of_row _ _ _ _ _ _ h.h0]; rfl
end
set_option maxRecDepth 100000 in
set_option maxHeartbeats 1000000 in
theorem secret_law {w : World} (s : ByteArray) (hs : s.size ≤ maxLen) (x : Hw) (hx : x.Ok) (o : ByteArray) (ho : o.size ≤ maxLen) : Calls Tryd.prog 6 #[.string s, .agg x.cells, .string o] w fun e w' => e = .returned (.bool true) ∧ Below w.heap.size w w' := by
  obtain ⟨need, n, d⟩ := x
  obtain ⟨⟨x1, x2⟩, ⟨x3, x4⟩, x5⟩ := hx
  simp only at x1 x2 x3 x4 x5
  unfold maxLen at ho
  unfold Hw.cells
  simp only
  have H0 := Lib.hid (AnyW.start w need n d)
  obtain ⟨m, hm⟩ : ∃ m, m = s.size := ⟨_, rfl⟩
  obtain ⟨mo, hmo⟩ : ∃ m, m = o.size := ⟨_, rfl⟩
  have hss : (s.size : Int) = (m : Int) := by omega
  have hos : (o.size : Int) = (mo : Int) := by omega
  have b0 := H0.out.c0
  have b1 := H0.out.c1
  by_cases q1 : 12 < n
  · have q1' : decide (12 < n) = true := decide_eq_true q1
    clear hm hmo
    go_enter Tryd.func6, Tryd.ntmps6
    go_wp2_with fail
    refine (awake_any _).mono ?_
    rintro e w1 ⟨rfl, hb⟩
    have HB := Lib.hid (H0.out.step hb)
    clear hb
    go_wp2_with fail
    go_ret
    exact ⟨rfl, HB.out.below⟩
  have q1' : decide (12 < n) = false := decide_eq_false q1
  by_cases q2 : (64 : Int) < (m : Int)
  · have q2' : decide ((64 : Int) < (m : Int)) = true := decide_eq_true q2
    clear hm hmo
    go_enter Tryd.func6, Tryd.ntmps6
    go_wp2_with fail
    refine (awake_any _).mono ?_
    rintro e w1 ⟨rfl, hb⟩
    have HB := Lib.hid (H0.out.step hb)
    clear hb
    go_wp2_with fail
    go_ret
    exact ⟨rfl, HB.out.below⟩
  have q2' : decide ((64 : Int) < (m : Int)) = false := decide_eq_false q2
  by_cases q3 : (mo : Int) = (m : Int)
  case neg =>
    have q3' : ((mo : Int) == (m : Int)) = false := by rw [beq_eq_false_iff_ne]; exact q3
    clear hm hmo
    go_enter Tryd.func6, Tryd.ntmps6
    go_wp2_with fail
    refine (awake_any _).mono ?_
    rintro e w1 ⟨rfl, hb⟩
    have HB := Lib.hid (H0.out.step hb)
    clear hb
    go_wp2_with fail
    go_ret
    exact ⟨rfl, HB.out.below⟩
  obtain rfl : mo = m := by omega
  by_cases q4 : need < 2
  · have q4' : decide (need < 2) = true := decide_eq_true q4
    clear hm hmo
    go_enter Tryd.func6, Tryd.ntmps6
    go_wp2_with fail
    refine (awake_any _).mono ?_
    rintro e w1 ⟨rfl, hb⟩
    have HB := Lib.hid (H0.out.step hb)
    clear hb
    go_wp2_with fail
    go_ret
    exact ⟨rfl, HB.out.below⟩
  have q4' : decide (need < 2) = false := decide_eq_false q4
  cases hmp : mayP s d need n with
  | false =>
    have hsp := fun W => split_bad s d need n hs hmp W
    have HS := Lib.hid hsp
    clear hsp hmp hs hm hmo
    go_enter Tryd.func6, Tryd.ntmps6
    go_wp2_with fail
    refine (awake_any _).mono ?_
    rintro e w1 ⟨rfl, hb⟩
    have H1 := Lib.hid (H0.out.step hb)
    clear hb b0 b1
    have b0 := H1.out.c0
    have b1 := H1.out.c1
    have b2 := H1.out.c2
    go_wp2_with fail
    refine (HS.out _).mono ?_
    rintro e w' ⟨rfl, rfl⟩
    go_wp2_with fail
    refine (awake_any _).mono ?_
    rintro e w2 ⟨rfl, hb⟩
    have H2 := Lib.hid (H1.out.step hb)
    clear hb b0 b1 b2
    go_wp2_with fail
    go_ret
    exact ⟨rfl, H2.out.below⟩
  | true =>
    have hpm := mayP_iff.1 hmp
    obtain ⟨N, rfl⟩ : ∃ N : Nat, n = (N : Int) := ⟨n.toNat, by omega⟩
    obtain ⟨q, rfl⟩ : ∃ q : Nat, need = (q : Int) + 1 := ⟨(need - 1).toNat, by omega⟩
    have hqn : ((q : Int) + 1).toNat - 1 = q := by omega
    have hq1 : 1 ≤ q := by omega
    have hqN : q + 1 ≤ N := by have := hpm.2.2.1; omega
    have hN12 : N ≤ 12 := by omega
    have hsp := fun W => split_good s d ((q : Int) + 1) N hmp W
    have HS := Lib.hid (And.intro hsp (And.intro hmp (And.intro hm (And.intro hmo hqn))))
    have hm64 : mo ≤ 64 := by omega
    have hm1 : 1 ≤ mo := by have := hpm.1.1; omega
    clear hsp hmp hs hm hmo hpm hqn
    go_enter Tryd.func6, Tryd.ntmps6
    go_wp2_with fail
    refine (awake_any _).mono ?_
    rintro e w1 ⟨rfl, hb⟩
    have H1 := Lib.hid (H0.out.step hb)
    clear hb b0 b1
    have b0 := H1.out.c0
    have b1 := H1.out.c1
    have b2 := H1.out.c2
    go_wp2_with fail
    refine (HS.out.1 _).mono ?_
    rintro e w2 ⟨al, cp, rfl, hoS, hb⟩
    obtain ⟨g, rfl, hgB, hgl, hgc, hgf⟩ := hoS.addr (by rw [splt_length]; omega)
    rw [splt_length] at hgc
    have H2 := Lib.hid (And.intro (H1.out.step hb) hoS)
    clear hb hoS b0 b1 b2
    have hNi : (N : Int) ≤ 12 := by omega
    go_wp2_with fail
    go_loopw [9, 10, 11, 12, 13, 14] (fun c _ _ _ _ _ wr => ∃ f : Nat, f ≤ N + 1 ∧ c = .int .i64 (f : Int) ∧ Below w2.heap.size w2 wr) (fun c _ _ _ _ _ _ => N + 2 - (intOf c).toNat)
    case atStart => exact ⟨0, by omega, rfl, Below.refl _ _⟩
    case round =>
      obtain ⟨f, hf, rfl, hbr⟩ := hrel
      obtain ⟨r, hr⟩ : ∃ r : Nat, r = f + q := ⟨_, rfl⟩
      have O := H2.out.1.step hbr
      have b0 := O.c0
      have b1 := O.c1
      have hri : (f : Int) + ((q : Int) + 1) - 1 = (r : Int) := by omega
      have hri2 : (f : Int) + (q : Int) = (r : Int) := by omega
      have hwr : IntKind.i64.wrap ((f : Int) + ((q : Int) + 1) - 1) = (r : Int) := by rw [hri]; exact IntWalk.i64_in _ (by omega)
      have hfr : f ≤ r := by omega
      have hrq : r - f = q := by omega
      have hfq : f + q ≤ N ↔ r ≤ N := by omega
      have HR := Lib.hid (And.intro hr hfq)
      clear hr hfq
      by_cases hlt : r ≤ N
      · have hrc : r ≤ cp := by omega
        have HO := Lib.hid (And.intro O (H2.out.2.below hbr))
        have HB := Lib.hid hbr
        clear O hbr
        go_wp2_with fail
        have hsh := ((HO.out.2.at).drop f).take q
        rw [Nat.zero_add] at hsh
        have hrl : (runS (splt s d ((q : Int) + 1) N) f q).length = q := runS_length (by rw [splt_length]; exact HR.out.2.2 hlt)
        have hAl := (splt_alk HS.out.2.1).sub (runS_sub (splt s d ((q : Int) + 1) N) f q)
        rw [← HS.out.2.2.1] at hAl
        have hex := explain_any (l := runS (splt s d ((q : Int) + 1) N) f q) hsh hAl hrl hq1 (by omega) rfl o HS.out.2.2.2.1.symm hm1 hm64 (cp - f)
        obtain ⟨E, hE⟩ : ∃ E, E = expl mo q (whole o (runS (splt s d ((q : Int) + 1) N) f q)) := ⟨_, rfl⟩
        rw [← hE] at hex
        have hoe : o.size = s.size := by rw [← HS.out.2.2.1, ← HS.out.2.2.2.1]
        have hmay := expl_may HS.out.2.1 hoe (whole o (runS (splt s d ((q : Int) + 1) N) f q))
        have hrn := expl_run (f := f) HS.out.2.1 hoe (by rw [HS.out.2.2.2.2]; exact HR.out.2.2 hlt)
        rw [HS.out.2.2.2.2, ← HS.out.2.2.1, ← hE] at hmay hrn
        have HX := Lib.hid (And.intro hex (And.intro hmay (And.intro hrn (And.intro hrl hsh))))
        clear hex hmay hrn hrl hsh hAl hoe hE
        refine HX.out.1.mono ?_
        rintro e w3 ⟨rfl, hb3⟩
        have O3 := HO.out.1.step hb3
        have H3 := Lib.hid (And.intro O3 (And.intro (HX.out.2.2.2.2.below hb3) (HB.out.trans (hb3.mono HB.out.size))))
        clear hb3 O3 b0 b1
        have b0 := H3.out.1.c0
        have b1 := H3.out.1.c1
        go_wp2_with fail
        refine (split_good o E ((q : Int) + 1) N HX.out.2.1 w3).mono ?_
        rintro e w4 ⟨a4, cp4, rfl, ho4, hb4⟩
        obtain ⟨g4, rfl, hg4B, hg4l, hg4c, -⟩ := ho4.addr (by rw [splt_length]; omega)
        rw [splt_length] at hg4c
        have hrc4 : r ≤ cp4 := by omega
        have hs4 := (ho4.at.drop f).take q
        rw [Nat.zero_add] at hs4
        have hs4' : SharesAt w4 (some ⟨g4, f * 3, none⟩) (runS (splt s d ((q : Int) + 1) N) f q) := by rw [← HX.out.2.2.1]; exact hs4
        have H4 := Lib.hid (And.intro (H3.out.1.step hb4) (And.intro (H3.out.2.1.below hb4) (And.intro (H3.out.2.2.trans (hb4.mono H3.out.2.2.size)) hs4')))
        clear hb4 b0 b1 ho4 hs4 hs4'
        have b0 := H4.out.1.c0
        have b1 := H4.out.1.c1
        go_wp2_with fail
        have hr1 := refs_any (l := runS (splt s d ((q : Int) + 1) N) f q) H4.out.2.2.2 (by rw [HX.out.2.2.2.1]; omega) (cp4 - f)
        rw [HX.out.2.2.2.1] at hr1
        refine hr1.mono ?_
        rintro e w5 ⟨a5, cp5, rfl, ho5, hb5⟩
        have hr2 := refs_any (l := runS (splt s d ((q : Int) + 1) N) f q) (H4.out.2.1.below hb5) (by rw [HX.out.2.2.2.1]; omega) (cp - f)
        rw [HX.out.2.2.2.1] at hr2
        have H5 := Lib.hid (And.intro (H4.out.1.step hb5) (And.intro ho5 (And.intro hr2 (H4.out.2.2.1.trans (hb5.mono H4.out.2.2.1.size)))))
        clear hb5 hr1 hr2 ho5 b0 b1
        go_wp2_with fail
        refine H5.out.2.2.1.mono ?_
        rintro e w6 ⟨a6, cp6, rfl, ho6, hb6⟩
        have hsm := same_true (l := runS (splt s d ((q : Int) + 1) N) f q) (H5.out.2.1.below hb6).at ho6.at (by rw [HX.out.2.2.2.1]; omega) cp5 cp6
        rw [HX.out.2.2.2.1] at hsm
        have H6 := Lib.hid (And.intro hsm (H5.out.2.2.2.trans (hb6.mono H5.out.2.2.2.size)))
        clear hb6 hsm ho6
        go_wp2_with fail
        refine H6.out.1.mono ?_
        rintro e w7 ⟨rfl, hb7⟩
        have H7 := Lib.hid (H6.out.2.trans (hb7.mono H6.out.2.size))
        clear hb7
        go_wp2_with fail
        go_roundw
        case rel => exact ⟨f + 1, by omega, by go_num, H7.out⟩
        case measure => simp [intOf]; omega
      · have HO := Lib.hid O
        clear O hbr
        go_wp2_with fail
        refine (awake_any _).mono ?_
        rintro e w6 ⟨rfl, hb6⟩
        have H6 := Lib.hid (HO.out.step hb6)
        clear hb6
        go_wp2_with fail
        go_ret
        exact ⟨rfl, H6.out.below⟩
end Go.Proofs.YtefpfedpgedloaaDoor

namespace Go.Proofs.YtefpfedpgedloaaDoor.shamirSecretLaw
open Go.ChangeShapes Go.WideShapes Go.ChangeAt Go.RowKit
open Go.ChangeMaps (open_string shut_string)

set_option maxRecDepth 100000 in
theorem contract (H : Type) (enc : TypeId × Value → H) (W : World) (base : Nat) (args : Array Value) (ds gs : List (DataW H)) (before : List MemPlace)
    (hval : ∀ (j : Nat) t v, Tryd.f6.params[j]? = some t → args[j]? = some v → Value.okWide Tryd.prog W .any base t v)
    (hW : DataW.Whole enc Tryd.prog Tryd.f6.params.toList Rows.shamirSecretSpec.vars false W args.toList ds gs before) (_ : laidMetH Tryd.prog Rows.shamirSecretRow.laid W) :
    Calls Tryd.prog 6 args W fun e W' => ∃ v, e = .returned v ∧ Rows.shamirSecretSpec.post enc Tryd.prog Tryd.f6 false true false false W args v W' := by
  have hW' := hW
  obtain ⟨p, q, hA0, hV, rfl, hfz, hnd⟩ := hW
  have hA : DataW.TrodAll enc Tryd.prog W 0 (fun _ => true) true Tryd.f6.params.toList args.toList ds p := hA0
  rw [Tryd.params6] at hA hval
  obtain ⟨v0, vs0, d0, ds0, p0, q0, hargs, rfl, rfl, h0, r0⟩ := trodAll_cons hA
  obtain ⟨v1, vs1, d1, ds1, p1, q1, rfl, rfl, rfl, h1, r1⟩ := trodAll_cons r0
  obtain ⟨v2, vs2, d2, ds2, p2, q2, rfl, rfl, rfl, h2, r2⟩ := trodAll_cons r1
  obtain ⟨rfl, rfl, rfl⟩ := trodAll_nil r2
  obtain rfl : args = #[v0, v1, v2] := by cases args; simp_all
  obtain ⟨rfl, rfl⟩ := trodVars_none hV
  obtain ⟨s0, rfl, rfl, rfl, ws0⟩ := open_string Tryd.underlying9 (hval 0 9 v0 rfl rfl) h0
  obtain ⟨cs1, rfl, hcs1⟩ := okWide_struct Tryd.underlying23 (hval 1 23 v1 rfl rfl)
  have hk1 := h1
  obtain ⟨fuel1, hf1⟩ := h1
  obtain ⟨s2, rfl, rfl, rfl, ws2⟩ := open_string Tryd.underlying9 (hval 2 9 v2 rfl rfl) h2
  clear hA0
  simp only [List.append_nil, List.nil_append] at hW'
  have hlt1 : ∀ x ∈ p1, x.block < W.heap.size := fun x hx => by simpa using hW'.lt x (by simp [hx])
  obtain ⟨x1a, hit1, hf1a⟩ := open_how hf1
  obtain rfl : cs1 = Hw.cells x1a := Array.toList_inj.1 hit1
  refine (secret_law s0 (by simpa using ws0) x1a hf1a s2 (by simpa using ws2) (w := W)).mono fun e W' ⟨he, hb⟩ => ?_
  subst he
  exact ⟨_, rfl, _, _, _, [], _, [], hW', trodAll_cons_mk (shut_bool Tryd.underlying4 _) trodAll_mk0, (trodAll_cons_mk (shut_string Tryd.underlying9 ws0) (trodAll_cons_mk (Below.trod laidOut (by kernel_rfl) (of_decide_eq_true (by kernel_rfl)) hk1 hb hlt1) (trodAll_cons_mk (shut_string Tryd.underlying9 ws2) trodAll_mk0))), rfl, hb.frame _, fun h => by cases h⟩
theorem laid_met (os : Os) : laidMet Tryd.prog Rows.shamirSecretRow.laid ((laidWorld os).forCall (fun _ _ => 0) ⟨#[], #[.string ⟨#[]⟩, .agg #[.int .i64 0, .int .i64 0, .string ⟨#[]⟩], .string ⟨#[]⟩], []⟩).memory :=
  laidMet_of_run' 8 (by kernel_rfl) (by kernel_rfl)
theorem reads (os : Os) {H : Type} (enc : TypeId × Value → H) : ∃ places, DataW.whole enc Tryd.prog ((laidWorld os).forCall (fun _ _ => 0) ⟨#[], #[.string ⟨#[]⟩, .agg #[.int .i64 0, .int .i64 0, .string ⟨#[]⟩], .string ⟨#[]⟩], []⟩).memory Tryd.f6.params.toList Rows.shamirSecretSpec.vars false #[Value.string ⟨#[]⟩, .agg #[.int .i64 0, .int .i64 0, .string ⟨#[]⟩], .string ⟨#[]⟩].toList 8 = some ([.lit (.string []), .agg [.lit (.int .i64 0), .lit (.int .i64 0), .lit (.string [])], .lit (.string [])], [], places) :=
  ⟨[], by kernel_rfl⟩
set_option maxRecDepth 100000 in
theorem lifted (os : Os) (started : os.Started) (H : Type) (enc : TypeId × Value → H) (F : Stop.Interp) :
    ReturnsInHanded {} Tryd.checked os 6 .any ((OpenSpec.ofChange Rows.shamirSecretSpec).preRow enc Tryd.prog Tryd.f6 Rows.shamirSecretRow.domain false Rows.shamirSecretRow.laid) (((OpenSpec.ofChange Rows.shamirSecretSpec).at F).post enc Tryd.prog Tryd.f6 false true false false) := by
  obtain ⟨places, hx⟩ := reads os enc
  refine returnsInHanded_of_row (C := Tryd.checked) (s := OpenSpec.ofChange Rows.shamirSecretSpec) own started (by kernel_rfl) Tryd.func6
    (witness_row_at (enc := enc) (C := Tryd.checked) false (laidWorld os) #[.string ⟨#[]⟩, .agg #[.int .i64 0, .int .i64 0, .string ⟨#[]⟩], .string ⟨#[]⟩] rfl (by kernel_rfl) (by kernel_rfl) (by kernel_rfl)
      (OpenSpec.preRow_of_cond 8 hx (by kernel_rfl) (fun k hk => by cases hk) (by kernel_rfl) (laid_met os))) ?_
  intro W base args ds gs before hval hW _ _ _ hL _ _
  exact contract H enc W base args ds gs before hval hW hL
theorem said : Rows.ShamirSecretSaid :=
  OpenClaim.holds_of_cond 6 Tryd.f6 rfl rfl rfl rfl rfl rfl rfl ⟨rfl, rfl, rfl, rfl, rfl⟩ rfl rfl rfl rfl rfl (by kernel_rfl) Tryd.func6 (by kernel_rfl)
    (of_decide_eq_true (by kernel_rfl)) (by unfold Func.isWrapper; first | (rw [if_pos (by decide +kernel)]; kernel_rfl) | (rw [if_neg (by decide +kernel)]; exact ⟨rfl, rfl⟩))
    (fun os started H enc _ F => by rw [OpenClaim.pre_eq_preRow]; exact lifted os started H enc F)
theorem plain (f : FuncId) (fn : Func) (hf : Tryd.pinned.checked.prog.funcNamed "lockbox/lockboxlaw09.ShamirSecret" = some f) (hfn : Tryd.pinned.checked.prog.funcs[f]? = some fn) :
    false = Tryd.pinned.checked.prog.looks [] ∧ ∀ (j : Nat) t, fn.params[j]? = some t → Tryd.pinned.checked.prog.wantsStandIn t = false := by
  obtain rfl : f = 6 := Option.some.inj ((show Tryd.prog.funcNamed "lockbox/lockboxlaw09.ShamirSecret" = some 6 by kernel_rfl).symm.trans hf) |>.symm
  obtain rfl : fn = Tryd.f6 := (Option.some.inj (Tryd.func6.symm.trans hfn)).symm
  refine ⟨by kernel_rfl, fun j t ht => ?_⟩
  rw [Tryd.params6] at ht
  have hm : t ∈ [9, 23, 9] := by simpa using Array.mem_of_getElem? ht
  have hall : ([9, 23, 9].all fun u => !Tryd.prog.wantsStandIn u) = true := by kernel_rfl
  exact (show Tryd.prog.wantsStandIn t = false by simpa using List.all_eq_true.1 hall t hm)
end Go.Proofs.YtefpfedpgedloaaDoor.shamirSecretLaw

namespace Go.Proofs.YtefpfedpgedloaaDoor
/-- THE CARD. -/
theorem shamirSecret_card : Rows.ShamirSecretCardSaid :=
  Claim7.holds_tied_plain_at .later [] _ _ _ _ shamirSecretLaw.said (fun _ h => by cases h) (by kernel_rfl) (fun _ h => by cases h) shamirSecret_row_tie rfl ⟨rfl, rfl⟩ (by kernel_rfl) rfl shamirSecretLaw.plain (by kernel_rfl)
end Go.Proofs.YtefpfedpgedloaaDoor
