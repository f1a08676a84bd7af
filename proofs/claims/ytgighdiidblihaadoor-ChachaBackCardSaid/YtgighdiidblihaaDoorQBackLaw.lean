/- PROVED HERE: for every key, nonce and counter and every text the law ChachaBack returns true (what is turned twice is as it was), and all read afterwards as they did. Its condition: the package-level table of the quarter turns holds what its initialiser lays (tied to the program's text by the card). -/
import Derived.Test.YtgighdiidblihaaDoorQLaw
import Derived.Test.YtgighdiidblihaaDoorQTwice
namespace Go.Proofs.YtgighdiidblihaaDoor
open Go.RowKit

set_option maxRecDepth 100000 in
set_option maxHeartbeats 1000000 in
theorem back_law (a b : ByteArray) (c : Int) (_ : a.size ≤ maxLen) (_ : b.size ≤ maxLen) (_ : -9223372036854775808 ≤ c) (_ : c ≤ 9223372036854775807) (text : ByteArray) (_ : text.size ≤ maxLen) (w : World) (hG : Glob w) :
    Calls Tryd.prog 5 #[.agg (lock a b c), .string text] w fun e w' => e = .returned (.bool true) ∧ Below w.heap.size w w' := by
  unfold lock
  have hL := LkS.start w a b c
  by_cases hf : (a.size : Int) ≤ 100 ∧ (b.size : Int) ≤ 100
  · obtain ⟨ha, hb⟩ := hf
    by_cases ht : (2000 : Int) < text.size
    · have H := Lib.hid hL
      clear hL hG
      go_enter Tryd.func5, Tryd.ntmps5
      go_wp2_with fail
      refine (few_yes a b c ha hb _).mono ?_
      rintro e w1 ⟨rfl, k1⟩
      have K1 := Lib.hid (below_call' H.out.2.2.1 k1)
      clear k1
      go_wp2_with fail
      refine (awake_any _).mono ?_
      rintro e w2 ⟨rfl, k2⟩
      have K2 := Lib.hid (below_call' K1.out k2)
      clear k2
      go_wp2_with fail
      go_ret
      exact ⟨rfl, K2.out⟩
    · have c1 := fun W (h : Below w.heap.size w W) => turn_any a b c text W (hG.below h)
      by_cases he : chkE a.size b.size c text.size = 0
      · have hsz := trnS_size he
        have htw := trnS_twice he
        have c2 := fun W (h : Below w.heap.size w W) => turn_any a b c (trnS a b c text) W (hG.below h)
        rw [htw, hsz, he] at c2
        rw [he] at c1
        generalize trnS a b c text = S at *
        have hs := beq_same text
        have hsz' : (S.size : Int) = text.size := by omega
        have hbe : ((S.size : Int) == (text.size : Int)) = true := by rw [hsz']; simp
        have H := Lib.hid (And.intro c1 (And.intro c2 hL))
        clear c1 c2 hL hG he htw hsz hsz'
        go_enter Tryd.func5, Tryd.ntmps5
        go_wp2_with fail
        refine (few_yes a b c ha hb _).mono ?_
        rintro e w1 ⟨rfl, k1⟩
        have L1 := H.out.2.2.call k1
        have K1 := Lib.hid L1
        obtain ⟨-, -, -, x0, x1, x2⟩ := L1
        clear k1
        go_wp2_with fail
        refine (H.out.1 _ K1.out.2.2.1).mono ?_
        rintro e w2 ⟨rfl, k2⟩
        have L2 := K1.out.call k2
        clear x0 x1 x2
        have K2 := Lib.hid L2
        obtain ⟨-, -, -, x0, x1, x2⟩ := L2
        clear k2
        go_wp2_with fail
        refine (H.out.2.1 _ K2.out.2.2.1).mono ?_
        rintro e w3 ⟨rfl, k3⟩
        have K3 := Lib.hid (below_call' K2.out.2.2.1 k3)
        clear k3 x0 x1 x2
        go_wp2_with fail
        refine (awake_any _).mono ?_
        rintro e w4 ⟨rfl, k4⟩
        have K4 := Lib.hid (below_call' K3.out k4)
        clear k4
        go_wp2_with fail
        go_ret
        exact ⟨rfl, K4.out⟩
      · rw [trnS_bad he] at c1
        have hb2 := ne_zero_bne he
        generalize chkE a.size b.size c text.size = E at *
        have H := Lib.hid (And.intro c1 hL)
        clear c1 hL hG he
        go_enter Tryd.func5, Tryd.ntmps5
        go_wp2_with fail
        refine (few_yes a b c ha hb _).mono ?_
        rintro e w1 ⟨rfl, k1⟩
        have L1 := H.out.2.call k1
        have K1 := Lib.hid L1
        obtain ⟨-, -, -, x0, x1, x2⟩ := L1
        clear k1
        go_wp2_with fail
        refine (H.out.1 _ K1.out.2.2.1).mono ?_
        rintro e w2 ⟨rfl, k2⟩
        have K2 := Lib.hid (below_call' K1.out.2.2.1 k2)
        clear k2 x0 x1 x2
        go_wp2_with fail
        refine (awake_any _).mono ?_
        rintro e w3 ⟨rfl, k3⟩
        have K3 := Lib.hid (below_call' K2.out k3)
        clear k3
        go_wp2_with fail
        go_ret
        exact ⟨rfl, K3.out⟩
  · have H := Lib.hid hL
    clear hL hG
    go_enter Tryd.func5, Tryd.ntmps5
    go_wp2_with fail
    refine (few_no a b c hf _).mono ?_
    rintro e w1 ⟨rfl, k1⟩
    have K1 := Lib.hid (below_call' H.out.2.2.1 k1)
    clear k1
    go_wp2_with fail
    refine (awake_any _).mono ?_
    rintro e w2 ⟨rfl, k2⟩
    have K2 := Lib.hid (below_call' K1.out k2)
    clear k2
    go_wp2_with fail
    go_ret
    exact ⟨rfl, K2.out⟩
end Go.Proofs.YtgighdiidblihaaDoor

namespace Go.Proofs.YtgighdiidblihaaDoor.chachaBackLaw
open Go.ChangeShapes Go.WideShapes Go.ChangeAt Go.RowKit
open Go.ChangeMaps (open_string shut_string)

theorem contract (H : Type) (enc : TypeId × Value → H) (W : World) (base : Nat) (args : Array Value) (ds gs : List (DataW H)) (before : List MemPlace)
    (hval : ∀ (j : Nat) t v, Tryd.f5.params[j]? = some t → args[j]? = some v → Value.okWide Tryd.prog W .any base t v)
    (hW : DataW.Whole enc Tryd.prog Tryd.f5.params.toList Rows.chachaBackSpec.vars false W args.toList ds gs before) (hL : laidMetH Tryd.prog Rows.chachaBackRow.laid W) :
    Calls Tryd.prog 5 args W fun e W' => ∃ v, e = .returned v ∧ Rows.chachaBackSpec.post enc Tryd.prog Tryd.f5 false true false false W args v W' := by
  have hW' := hW
  obtain ⟨p, q, hA0, hV, rfl, hfz, hnd⟩ := hW
  have hA : DataW.TrodAll enc Tryd.prog W 0 (fun _ => true) true Tryd.f5.params.toList args.toList ds p := hA0
  rw [Tryd.params5] at hA hval
  obtain ⟨v0, vs0, d0, ds0, p0, q0, hargs, rfl, rfl, h0, r0⟩ := trodAll_cons hA
  obtain ⟨v1, vs1, d1, ds1, p1, q1, rfl, rfl, rfl, h1, r1⟩ := trodAll_cons r0
  obtain ⟨rfl, rfl, rfl⟩ := trodAll_nil r1
  obtain rfl : args = #[v0, v1] := by cases args; simp_all
  obtain ⟨rfl, rfl⟩ := trodVars_none hV
  obtain ⟨cs0, rfl, hcs0⟩ := okWide_struct Tryd.underlying23 (hval 0 23 v0 rfl rfl)
  have hk0 := h0
  obtain ⟨fuel0, hf0⟩ := h0
  obtain ⟨s1, rfl, rfl, rfl, ws1⟩ := open_string Tryd.underlying9 (hval 1 9 v1 rfl rfl) h1
  clear hA0
  simp only [List.append_nil] at hW'
  have hlt0 : ∀ x ∈ p0, x.block < W.heap.size := fun x hx => by simpa using hW'.lt x (by simp [hx])
  obtain ⟨x0a, x0b, x0n, hit0, hf0a, hf0b, hf0c, hf0d⟩ := open_lock hf0
  obtain rfl : cs0 = lock x0a x0b x0n := Array.toList_inj.1 hit0
  refine (back_law x0a x0b x0n hf0a hf0b hf0c hf0d s1 (by simpa using ws1) (w := W) (hG := glob_of_laid hL)).mono fun e W' ⟨he, hb⟩ => ?_
  subst he
  exact ⟨_, rfl, _, _, _, [], _, [], hW', trodAll_cons_mk (shut_bool Tryd.underlying4 _) trodAll_mk0, (trodAll_cons_mk (Below.trod laidOut (by kernel_rfl) (of_decide_eq_true (by kernel_rfl)) hk0 hb hlt0) (trodAll_cons_mk (shut_string Tryd.underlying9 ws1) trodAll_mk0)), rfl, hb.frame _, fun h => by cases h⟩
theorem laid_met (os : Os) : laidMet Tryd.prog Rows.chachaBackRow.laid ((laidWorld os).forCall (fun _ _ => 0) ⟨#[], #[.agg #[.string ⟨#[]⟩, .string ⟨#[]⟩, .int .i64 0], .string ⟨#[]⟩], []⟩).memory :=
  laidMet_of_run' 8 (by kernel_rfl) (by kernel_rfl)
theorem reads (os : Os) {H : Type} (enc : TypeId × Value → H) : ∃ places, DataW.whole enc Tryd.prog ((laidWorld os).forCall (fun _ _ => 0) ⟨#[], #[.agg #[.string ⟨#[]⟩, .string ⟨#[]⟩, .int .i64 0], .string ⟨#[]⟩], []⟩).memory Tryd.f5.params.toList Rows.chachaBackSpec.vars false #[Value.agg #[.string ⟨#[]⟩, .string ⟨#[]⟩, .int .i64 0], .string ⟨#[]⟩].toList 8 = some ([.agg [.lit (.string []), .lit (.string []), .lit (.int .i64 0)], .lit (.string [])], [], places) :=
  ⟨[], by kernel_rfl⟩
set_option maxRecDepth 100000 in
theorem lifted (os : Os) (started : os.Started) (H : Type) (enc : TypeId × Value → H) (F : Stop.Interp) :
    ReturnsInHanded {} Tryd.checked os 5 .any ((OpenSpec.ofChange Rows.chachaBackSpec).preRow enc Tryd.prog Tryd.f5 Rows.chachaBackRow.domain false Rows.chachaBackRow.laid) (((OpenSpec.ofChange Rows.chachaBackSpec).at F).post enc Tryd.prog Tryd.f5 false true false false) := by
  obtain ⟨places, hx⟩ := reads os enc
  refine returnsInHanded_of_row (C := Tryd.checked) (s := OpenSpec.ofChange Rows.chachaBackSpec) own started (by kernel_rfl) Tryd.func5
    (witness_row_at (enc := enc) (C := Tryd.checked) false (laidWorld os) #[.agg #[.string ⟨#[]⟩, .string ⟨#[]⟩, .int .i64 0], .string ⟨#[]⟩] rfl (by kernel_rfl) (by kernel_rfl) (by kernel_rfl)
      (OpenSpec.preRow_of_cond 8 hx (by kernel_rfl) (fun k hk => by cases hk) (by kernel_rfl) (laid_met os))) ?_
  intro W base args ds gs before hval hW _ _ _ hL _ _
  exact contract H enc W base args ds gs before hval hW hL
theorem said : Rows.ChachaBackSaid :=
  OpenClaim.holds_of_cond 5 Tryd.f5 rfl rfl rfl rfl rfl rfl rfl ⟨rfl, rfl, rfl, rfl, rfl⟩ rfl rfl rfl rfl rfl (by kernel_rfl) Tryd.func5 (by kernel_rfl)
    (of_decide_eq_true (by kernel_rfl)) (by unfold Func.isWrapper; first | (rw [if_pos (by decide +kernel)]; kernel_rfl) | (rw [if_neg (by decide +kernel)]; exact ⟨rfl, rfl⟩))
    (fun os started H enc _ F => by rw [OpenClaim.pre_eq_preRow]; exact lifted os started H enc F)
theorem plain (f : FuncId) (fn : Func) (hf : Tryd.pinned.checked.prog.funcNamed "lockbox/lockboxlaw05.ChachaBack" = some f) (hfn : Tryd.pinned.checked.prog.funcs[f]? = some fn) :
    false = Tryd.pinned.checked.prog.looks [] ∧ ∀ (j : Nat) t, fn.params[j]? = some t → Tryd.pinned.checked.prog.wantsStandIn t = false := by
  obtain rfl : f = 5 := Option.some.inj ((show Tryd.prog.funcNamed "lockbox/lockboxlaw05.ChachaBack" = some 5 by kernel_rfl).symm.trans hf) |>.symm
  obtain rfl : fn = Tryd.f5 := (Option.some.inj (Tryd.func5.symm.trans hfn)).symm
  refine ⟨by kernel_rfl, fun j t ht => ?_⟩
  rw [Tryd.params5] at ht
  have hm : t ∈ [23, 9] := by simpa using Array.mem_of_getElem? ht
  have hall : ([23, 9].all fun u => !Tryd.prog.wantsStandIn u) = true := by kernel_rfl
  exact (show Tryd.prog.wantsStandIn t = false by simpa using List.all_eq_true.1 hall t hm)
end Go.Proofs.YtgighdiidblihaaDoor.chachaBackLaw

namespace Go.Proofs.YtgighdiidblihaaDoor
/-- THE CARD. -/
theorem chachaBack_card : Rows.ChachaBackCardSaid :=
  Claim7.holds_tied_plain_at .later [] _ _ _ _ chachaBackLaw.said (fun _ h => by cases h) (by kernel_rfl) (fun _ h => by cases h) chachaBack_row_tie rfl ⟨rfl, rfl⟩ (by kernel_rfl) rfl chachaBackLaw.plain (by kernel_rfl)
end Go.Proofs.YtgighdiidblihaaDoor
