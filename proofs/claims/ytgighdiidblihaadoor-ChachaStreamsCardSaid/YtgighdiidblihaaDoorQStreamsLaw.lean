/- PROVED HERE: for every key, nonce and counter, every number and every text the law ChachaStreams returns true (the first bytes of a stream, a text that is turned, or the error, are as the reference defines them), and all read afterwards as they did. Its condition: the package-level table of the quarter turns holds what its initialiser lays (tied to the program's text by the card). -/
import Derived.Test.YtgighdiidblihaaDoorQLaw
namespace Go.Proofs.YtgighdiidblihaaDoor
open Go.RowKit

set_option maxRecDepth 100000 in
set_option maxHeartbeats 1000000 in
theorem streams_law (a b : ByteArray) (c : Int) (_ : a.size ≤ maxLen) (_ : b.size ≤ maxLen) (_ : -9223372036854775808 ≤ c) (_ : c ≤ 9223372036854775807) (n : Int) (_ : -9223372036854775808 ≤ n) (_ : n ≤ 9223372036854775807) (text : ByteArray) (_ : text.size ≤ maxLen) (w : World) (hG : Glob w) :
    Calls Tryd.prog 4 #[.agg (lock a b c), .int .i64 n, .string text] w fun e w' => e = .returned (.bool true) ∧ Below w.heap.size w w' := by
  unfold lock
  have hL := LkS.start w a b c
  by_cases hf : (a.size : Int) ≤ 100 ∧ (b.size : Int) ≤ 100
  · obtain ⟨ha, hb⟩ := hf
    by_cases hmid : (700 : Int) < n ∧ n ≤ 65536
    · obtain ⟨m1, m2⟩ := hmid
      have H := Lib.hid hL
      clear hL hG
      go_enter Tryd.func4, Tryd.ntmps4
      go_wp2_with fail
      refine (few_yes a b c ha hb _).mono ?_
      rintro e w1 ⟨rfl, k1⟩
      have K1 := Lib.hid (below_call' H.out.2.2.1 k1)
      clear k1
      go_wp2_with fail
      refine (awake_any _).mono ?_
      rintro e w2 ⟨rfl, k2⟩
      have K2 := Lib.hid (below_call' K1.out k2)
      clear k2
      go_wp2_with fail
      go_ret
      exact ⟨rfl, K2.out⟩
    have hmid1 : ¬ (700 : Int) < n ∨ ((700 : Int) < n ∧ ¬ n ≤ 65536) := by omega
    by_cases ht : (700 : Int) < text.size
    · have H := Lib.hid hL
      clear hL hG hmid
      rcases hmid1 with m1 | ⟨m1, m2⟩
      · go_enter Tryd.func4, Tryd.ntmps4
        go_wp2_with fail
        refine (few_yes a b c ha hb _).mono ?_
        rintro e w1 ⟨rfl, k1⟩
        have K1 := Lib.hid (below_call' H.out.2.2.1 k1)
        clear k1
        go_wp2_with fail
        refine (awake_any _).mono ?_
        rintro e w2 ⟨rfl, k2⟩
        have K2 := Lib.hid (below_call' K1.out k2)
        clear k2
        go_wp2_with fail
        go_ret
        exact ⟨rfl, K2.out⟩
      · go_enter Tryd.func4, Tryd.ntmps4
        go_wp2_with fail
        refine (few_yes a b c ha hb _).mono ?_
        rintro e w1 ⟨rfl, k1⟩
        have K1 := Lib.hid (below_call' H.out.2.2.1 k1)
        clear k1
        go_wp2_with fail
        refine (awake_any _).mono ?_
        rintro e w2 ⟨rfl, k2⟩
        have K2 := Lib.hid (below_call' K1.out k2)
        clear k2
        go_wp2_with fail
        go_ret
        exact ⟨rfl, K2.out⟩
    · have c1 := fun W (h : Below w.heap.size w W) => stream_any a b c n W (hG.below h)
      have c2 := fun W => rstream_any a b c n W
      have c3 := fun W (h : Below w.heap.size w W) => turn_any a b c text W (hG.below h)
      have c4 := fun W => rturn_any a b c text W
      generalize strmS a b c n = S at *
      generalize chkE a.size b.size c n = E at *
      generalize trnS a b c text = S2 at *
      generalize chkE a.size b.size c text.size = E2 at *
      have hs := beq_same S
      have hs2 := beq_same S2
      have H := Lib.hid (And.intro c1 (And.intro c2 (And.intro c3 (And.intro c4 hL))))
      clear c1 c2 c3 c4 hL hG hmid
      rcases hmid1 with m1 | ⟨m1, m2⟩ <;>
      · go_enter Tryd.func4, Tryd.ntmps4
        go_wp2_with fail
        refine (few_yes a b c ha hb _).mono ?_
        rintro e w1 ⟨rfl, k1⟩
        have L1 := H.out.2.2.2.2.call k1
        have K1 := Lib.hid L1
        obtain ⟨-, -, -, x0, x1, x2⟩ := L1
        clear k1
        go_wp2_with fail
        refine (H.out.1 _ K1.out.2.2.1).mono ?_
        rintro e w2 ⟨rfl, k2⟩
        have L2 := K1.out.call k2
        clear x0 x1 x2
        have K2 := Lib.hid L2
        obtain ⟨-, -, -, x0, x1, x2⟩ := L2
        clear k2
        go_wp2_with fail
        refine (H.out.2.1 _).mono ?_
        rintro e w3 ⟨rfl, k3⟩
        have L3 := K2.out.call k3
        clear x0 x1 x2
        have K3 := Lib.hid L3
        obtain ⟨-, -, -, x0, x1, x2⟩ := L3
        clear k3
        go_wp2_with fail
        refine (H.out.2.2.1 _ K3.out.2.2.1).mono ?_
        rintro e w4 ⟨rfl, k4⟩
        have L4 := K3.out.call k4
        clear x0 x1 x2
        have K4 := Lib.hid L4
        obtain ⟨-, -, -, x0, x1, x2⟩ := L4
        clear k4
        go_wp2_with fail
        refine (H.out.2.2.2.1 _).mono ?_
        rintro e w5 ⟨rfl, k5⟩
        have K5 := Lib.hid (below_call' K4.out.2.2.1 k5)
        clear k5 x0 x1 x2
        go_wp2_with fail
        refine (awake_any _).mono ?_
        rintro e w6 ⟨rfl, k6⟩
        have K6 := Lib.hid (below_call' K5.out k6)
        clear k6
        go_wp2_with fail
        go_ret
        exact ⟨rfl, K6.out⟩
  · have H := Lib.hid hL
    clear hL hG
    go_enter Tryd.func4, Tryd.ntmps4
    go_wp2_with fail
    refine (few_no a b c hf _).mono ?_
    rintro e w1 ⟨rfl, k1⟩
    have K1 := Lib.hid (below_call' H.out.2.2.1 k1)
    clear k1
    go_wp2_with fail
    refine (awake_any _).mono ?_
    rintro e w2 ⟨rfl, k2⟩
    have K2 := Lib.hid (below_call' K1.out k2)
    clear k2
    go_wp2_with fail
    go_ret
    exact ⟨rfl, K2.out⟩
end Go.Proofs.YtgighdiidblihaaDoor

namespace Go.Proofs.YtgighdiidblihaaDoor.chachaStreamsLaw
open Go.ChangeShapes Go.WideShapes Go.ChangeAt Go.RowKit
open Go.ChangeMaps (open_string shut_string)

theorem contract (H : Type) (enc : TypeId × Value → H) (W : World) (base : Nat) (args : Array Value) (ds gs : List (DataW H)) (before : List MemPlace)
    (hval : ∀ (j : Nat) t v, Tryd.f4.params[j]? = some t → args[j]? = some v → Value.okWide Tryd.prog W .any base t v)
    (hW : DataW.Whole enc Tryd.prog Tryd.f4.params.toList Rows.chachaStreamsSpec.vars false W args.toList ds gs before) (hL : laidMetH Tryd.prog Rows.chachaStreamsRow.laid W) :
    Calls Tryd.prog 4 args W fun e W' => ∃ v, e = .returned v ∧ Rows.chachaStreamsSpec.post enc Tryd.prog Tryd.f4 false true false false W args v W' := by
  have hW' := hW
  obtain ⟨p, q, hA0, hV, rfl, hfz, hnd⟩ := hW
  have hA : DataW.TrodAll enc Tryd.prog W 0 (fun _ => true) true Tryd.f4.params.toList args.toList ds p := hA0
  rw [Tryd.params4] at hA hval
  obtain ⟨v0, vs0, d0, ds0, p0, q0, hargs, rfl, rfl, h0, r0⟩ := trodAll_cons hA
  obtain ⟨v1, vs1, d1, ds1, p1, q1, rfl, rfl, rfl, h1, r1⟩ := trodAll_cons r0
  obtain ⟨v2, vs2, d2, ds2, p2, q2, rfl, rfl, rfl, h2, r2⟩ := trodAll_cons r1
  obtain ⟨rfl, rfl, rfl⟩ := trodAll_nil r2
  obtain rfl : args = #[v0, v1, v2] := by cases args; simp_all
  obtain ⟨rfl, rfl⟩ := trodVars_none hV
  obtain ⟨cs0, rfl, hcs0⟩ := okWide_struct Tryd.underlying23 (hval 0 23 v0 rfl rfl)
  have hk0 := h0
  obtain ⟨fuel0, hf0⟩ := h0
  obtain ⟨n1, rfl, rfl, rfl, ws1⟩ := open_int Tryd.underlying3 (hval 1 3 v1 rfl rfl) h1
  have hbd1 := ws1
  simp only [Lit.wf, Bool.and_eq_true, decide_eq_true_eq] at hbd1
  obtain ⟨s2, rfl, rfl, rfl, ws2⟩ := open_string Tryd.underlying9 (hval 2 9 v2 rfl rfl) h2
  clear hA0
  simp only [List.append_nil] at hW'
  have hlt0 : ∀ x ∈ p0, x.block < W.heap.size := fun x hx => by simpa using hW'.lt x (by simp [hx])
  obtain ⟨x0a, x0b, x0n, hit0, hf0a, hf0b, hf0c, hf0d⟩ := open_lock hf0
  obtain rfl : cs0 = lock x0a x0b x0n := Array.toList_inj.1 hit0
  refine (streams_law x0a x0b x0n hf0a hf0b hf0c hf0d n1 hbd1.1 hbd1.2 s2 (by simpa using ws2) (w := W) (hG := glob_of_laid hL)).mono fun e W' ⟨he, hb⟩ => ?_
  subst he
  exact ⟨_, rfl, _, _, _, [], _, [], hW', trodAll_cons_mk (shut_bool Tryd.underlying4 _) trodAll_mk0, (trodAll_cons_mk (Below.trod laidOut (by kernel_rfl) (of_decide_eq_true (by kernel_rfl)) hk0 hb hlt0) (trodAll_cons_mk (shut_int Tryd.underlying3 ws1) (trodAll_cons_mk (shut_string Tryd.underlying9 ws2) trodAll_mk0))), rfl, hb.frame _, fun h => by cases h⟩
theorem laid_met (os : Os) : laidMet Tryd.prog Rows.chachaStreamsRow.laid ((laidWorld os).forCall (fun _ _ => 0) ⟨#[], #[.agg #[.string ⟨#[]⟩, .string ⟨#[]⟩, .int .i64 0], .int .i64 0, .string ⟨#[]⟩], []⟩).memory :=
  laidMet_of_run' 8 (by kernel_rfl) (by kernel_rfl)
theorem reads (os : Os) {H : Type} (enc : TypeId × Value → H) : ∃ places, DataW.whole enc Tryd.prog ((laidWorld os).forCall (fun _ _ => 0) ⟨#[], #[.agg #[.string ⟨#[]⟩, .string ⟨#[]⟩, .int .i64 0], .int .i64 0, .string ⟨#[]⟩], []⟩).memory Tryd.f4.params.toList Rows.chachaStreamsSpec.vars false #[Value.agg #[.string ⟨#[]⟩, .string ⟨#[]⟩, .int .i64 0], .int .i64 0, .string ⟨#[]⟩].toList 8 = some ([.agg [.lit (.string []), .lit (.string []), .lit (.int .i64 0)], .lit (.int .i64 0), .lit (.string [])], [], places) :=
  ⟨[], by kernel_rfl⟩
set_option maxRecDepth 100000 in
theorem lifted (os : Os) (started : os.Started) (H : Type) (enc : TypeId × Value → H) (F : Stop.Interp) :
    ReturnsInHanded {} Tryd.checked os 4 .any ((OpenSpec.ofChange Rows.chachaStreamsSpec).preRow enc Tryd.prog Tryd.f4 Rows.chachaStreamsRow.domain false Rows.chachaStreamsRow.laid) (((OpenSpec.ofChange Rows.chachaStreamsSpec).at F).post enc Tryd.prog Tryd.f4 false true false false) := by
  obtain ⟨places, hx⟩ := reads os enc
  refine returnsInHanded_of_row (C := Tryd.checked) (s := OpenSpec.ofChange Rows.chachaStreamsSpec) own started (by kernel_rfl) Tryd.func4
    (witness_row_at (enc := enc) (C := Tryd.checked) false (laidWorld os) #[.agg #[.string ⟨#[]⟩, .string ⟨#[]⟩, .int .i64 0], .int .i64 0, .string ⟨#[]⟩] rfl (by kernel_rfl) (by kernel_rfl) (by kernel_rfl)
      (OpenSpec.preRow_of_cond 8 hx (by kernel_rfl) (fun k hk => by cases hk) (by kernel_rfl) (laid_met os))) ?_
  intro W base args ds gs before hval hW _ _ _ hL _ _
  exact contract H enc W base args ds gs before hval hW hL
theorem said : Rows.ChachaStreamsSaid :=
  OpenClaim.holds_of_cond 4 Tryd.f4 rfl rfl rfl rfl rfl rfl rfl ⟨rfl, rfl, rfl, rfl, rfl⟩ rfl rfl rfl rfl rfl (by kernel_rfl) Tryd.func4 (by kernel_rfl)
    (of_decide_eq_true (by kernel_rfl)) (by unfold Func.isWrapper; first | (rw [if_pos (by decide +kernel)]; kernel_rfl) | (rw [if_neg (by decide +kernel)]; exact ⟨rfl, rfl⟩))
    (fun os started H enc _ F => by rw [OpenClaim.pre_eq_preRow]; exact lifted os started H enc F)
theorem plain (f : FuncId) (fn : Func) (hf : Tryd.pinned.checked.prog.funcNamed "lockbox/lockboxlaw05.ChachaStreams" = some f) (hfn : Tryd.pinned.checked.prog.funcs[f]? = some fn) :
    false = Tryd.pinned.checked.prog.looks [] ∧ ∀ (j : Nat) t, fn.params[j]? = some t → Tryd.pinned.checked.prog.wantsStandIn t = false := by
  obtain rfl : f = 4 := Option.some.inj ((show Tryd.prog.funcNamed "lockbox/lockboxlaw05.ChachaStreams" = some 4 by kernel_rfl).symm.trans hf) |>.symm
  obtain rfl : fn = Tryd.f4 := (Option.some.inj (Tryd.func4.symm.trans hfn)).symm
  refine ⟨by kernel_rfl, fun j t ht => ?_⟩
  rw [Tryd.params4] at ht
  have hm : t ∈ [23, 3, 9] := by simpa using Array.mem_of_getElem? ht
  have hall : ([23, 3, 9].all fun u => !Tryd.prog.wantsStandIn u) = true := by kernel_rfl
  exact (show Tryd.prog.wantsStandIn t = false by simpa using List.all_eq_true.1 hall t hm)
end Go.Proofs.YtgighdiidblihaaDoor.chachaStreamsLaw

namespace Go.Proofs.YtgighdiidblihaaDoor
/-- THE CARD. -/
theorem chachaStreams_card : Rows.ChachaStreamsCardSaid :=
  Claim7.holds_tied_plain_at .later [] _ _ _ _ chachaStreamsLaw.said (fun _ h => by cases h) (by kernel_rfl) (fun _ h => by cases h) chachaStreams_row_tie rfl ⟨rfl, rfl⟩ (by kernel_rfl) rfl chachaStreamsLaw.plain (by kernel_rfl)
end Go.Proofs.YtgighdiidblihaaDoor
