/- PROVED HERE: for every two texts and every byte the law PolyValues returns true (values of sums and products are those of the values). No condition. -/
import Derived.Test.YtcknmpcekmbcdaaDoorPLin
import Derived.Test.YtcknmpcekmbcdaaDoorPLaid
import Derived.Test.YtcknmpcekmbcdaaDoorU8
namespace Go.Proofs.YtcknmpcekmbcdaaDoor
open Go.RowKit
open Gf

theorem sumB_self (a : ByteArray) : sumB a a = ⟨#[]⟩ := by
  unfold sumB
  rw [trimL_zeros (fun i => by rw [co_addP, UInt8.xor_self])]
  rfl
set_option maxRecDepth 100000 in
set_option maxHeartbeats 2000000 in
theorem values_law {w : World} (a : ByteArray) (_ : a.size ≤ maxLen) (b : ByteArray) (_ : b.size ≤ maxLen) (x : UInt8) :
    Calls Tryd.prog 7 #[.string a, .string b, .int .u8 (x.toNat : Int)] w fun e w' => e = .returned (.bool true) ∧ Below w.heap.size w w' := by
  have hb0 : Below w.heap.size w (w.alloc (.cells #[.string a, .string b] 9)) := (Below.refl _ _).alloc (Nat.le_refl _) _
  have HB0 := Lib.hid hb0
  clear hb0
  have hf := few_any 100 a b w
  cases hfe : few2 100 a b with
  | false =>
    rw [hfe] at hf
    have HF := Lib.hid hf
    clear hf hfe
    go_enter Tryd.func7, Tryd.ntmps7
    go_wp2_with fail
    refine HF.out.mono ?_
    rintro e w1 ⟨rfl, rfl⟩
    go_wp2_with fail
    refine (awake_any _).mono ?_
    rintro e w2 ⟨rfl, hb⟩
    have HB := Lib.hid (gtrans HB0.out hb)
    clear hb
    go_wp2_with fail
    go_ret
    exact ⟨rfl, HB.out⟩
  | true =>
    obtain ⟨ha, hb⟩ := few2_le (m := 100) hfe
    rw [hfe] at hf
    obtain ⟨va, hva⟩ : ∃ va, va = valB a x := ⟨_, rfl⟩
    obtain ⟨vb, hvb⟩ : ∃ vb, vb = valB b x := ⟨_, rfl⟩
    obtain ⟨s, hs⟩ : ∃ s, s = va ^^^ vb := ⟨_, rfl⟩
    obtain ⟨m, hm⟩ : ∃ m, m = mul va vb := ⟨_, rfl⟩
    have k1 := padd_any a b (by omega) (by omega)
    have k2 := value_any (sumB a b) (by have := sumB_size a b; unfold maxLen; omega) x
    have k3 := value_any a (by unfold maxLen; omega) x
    have k4 := value_any b (by unfold maxLen; omega) x
    have k5 := add_any va vb
    have k6 := pmul_any a b (by omega) (by omega)
    have k7 := value_any (mulB a b) (by
      by_cases h : 0 < a.size + b.size
      · have := mulB_size a b h; unfold maxLen; omega
      · rw [mulB_none (by omega)]; decide) x
    have k8 := mul_any va vb
    have k9 := padd_any a a (by omega) (by omega)
    rw [valB_sumB, ← hva, ← hvb, ← hs] at k2
    rw [← hva] at k3
    rw [← hvb] at k4
    rw [← hs] at k5
    rw [valB_mulB, ← hva, ← hvb, ← hm] at k7
    rw [← hm] at k8
    rw [sumB_self] at k9
    generalize sumB a b = S at *
    generalize mulB a b = M at *
    have H := Lib.hid (And.intro hf (And.intro k1 (And.intro k2 (And.intro k3 (And.intro k4 (And.intro k5 (And.intro k6 (And.intro k7 (And.intro k8 k9)))))))))
    clear hf hfe ha hb k1 k2 k3 k4 k5 k6 k7 k8 k9 hva hvb hs hm
    go_enter Tryd.func7, Tryd.ntmps7
    go_wp2_with fail
    refine H.out.1.mono ?_
    rintro e w1 ⟨rfl, rfl⟩
    go_wp2_with fail
    refine (awake_any _).mono ?_
    rintro e w1 ⟨rfl, hb⟩
    have B1 := Lib.hid (gtrans HB0.out hb)
    clear hb
    go_wp2_with fail
    refine (H.out.2.1 _).mono ?_
    rintro e w2 ⟨rfl, hb⟩
    have B2 := Lib.hid (gtrans B1.out hb)
    clear hb
    go_wp2_with fail
    refine (H.out.2.2.1 _).mono ?_
    rintro e w3 ⟨rfl, hb⟩
    have B3 := Lib.hid (gtrans B2.out hb)
    clear hb
    go_wp2_with fail
    refine (H.out.2.2.2.1 _).mono ?_
    rintro e w4 ⟨rfl, hb⟩
    have B4 := Lib.hid (gtrans B3.out hb)
    clear hb
    go_wp2_with fail
    refine (H.out.2.2.2.2.1 _).mono ?_
    rintro e w5 ⟨rfl, hb⟩
    have B5 := Lib.hid (gtrans B4.out hb)
    clear hb
    go_wp2_with fail
    refine (H.out.2.2.2.2.2.1 _).mono ?_
    rintro e w' ⟨rfl, rfl⟩
    go_wp2_with fail
    refine (H.out.2.2.2.2.2.2.1 _).mono ?_
    rintro e w6 ⟨rfl, hb⟩
    have B6 := Lib.hid (gtrans B5.out hb)
    clear hb
    go_wp2_with fail
    refine (H.out.2.2.2.2.2.2.2.1 _).mono ?_
    rintro e w7 ⟨rfl, hb⟩
    have B7 := Lib.hid (gtrans B6.out hb)
    clear hb
    go_wp2_with fail
    refine (H.out.2.2.2.1 _).mono ?_
    rintro e w8 ⟨rfl, hb⟩
    have B8 := Lib.hid (gtrans B7.out hb)
    clear hb
    go_wp2_with fail
    refine (H.out.2.2.2.2.1 _).mono ?_
    rintro e w9 ⟨rfl, hb⟩
    have B9 := Lib.hid (gtrans B8.out hb)
    clear hb
    go_wp2_with fail
    refine (H.out.2.2.2.2.2.2.2.2.1 _).mono ?_
    rintro e w' ⟨rfl, rfl⟩
    go_wp2_with fail
    refine (H.out.2.2.2.2.2.2.2.2.2 _).mono ?_
    rintro e w10 ⟨rfl, hb⟩
    have B10 := Lib.hid (gtrans B9.out hb)
    clear hb
    go_wp2_with fail
    go_ret
    exact ⟨rfl, B10.out⟩
end Go.Proofs.YtcknmpcekmbcdaaDoor

namespace Go.Proofs.YtcknmpcekmbcdaaDoor.polyValuesLaw
open Go.ChangeShapes Go.WideShapes Go.ChangeAt Go.RowKit
open Go.ChangeMaps (open_string shut_string)

theorem contract (H : Type) (enc : TypeId × Value → H) (W : World) (base : Nat) (args : Array Value) (ds gs : List (DataW H)) (before : List MemPlace)
    (hval : ∀ (j : Nat) t v, Tryd.f7.params[j]? = some t → args[j]? = some v → Value.okWide Tryd.prog W .any base t v)
    (hW : DataW.Whole enc Tryd.prog Tryd.f7.params.toList Rows.polyValuesSpec.vars false W args.toList ds gs before) (_ : laidMetH Tryd.prog Rows.polyValuesRow.laid W) :
    Calls Tryd.prog 7 args W fun e W' => ∃ v, e = .returned v ∧ Rows.polyValuesSpec.post enc Tryd.prog Tryd.f7 false true false false W args v W' := by
  have hW' := hW
  obtain ⟨p, q, hA0, hV, rfl, hfz, hnd⟩ := hW
  have hA : DataW.TrodAll enc Tryd.prog W 0 (fun _ => true) true Tryd.f7.params.toList args.toList ds p := hA0
  rw [Tryd.params7] at hA hval
  obtain ⟨v0, vs0, d0, ds0, p0, q0, hargs, rfl, rfl, h0, r0⟩ := trodAll_cons hA
  obtain ⟨v1, vs1, d1, ds1, p1, q1, rfl, rfl, rfl, h1, r1⟩ := trodAll_cons r0
  obtain ⟨v2, vs2, d2, ds2, p2, q2, rfl, rfl, rfl, h2, r2⟩ := trodAll_cons r1
  obtain ⟨rfl, rfl, rfl⟩ := trodAll_nil r2
  obtain rfl : args = #[v0, v1, v2] := by cases args; simp_all
  obtain ⟨rfl, rfl⟩ := trodVars_none hV
  obtain ⟨s0, rfl, rfl, rfl, ws0⟩ := open_string Tryd.underlying9 (hval 0 9 v0 rfl rfl) h0
  obtain ⟨s1, rfl, rfl, rfl, ws1⟩ := open_string Tryd.underlying9 (hval 1 9 v1 rfl rfl) h1
  obtain ⟨n2, rfl, rfl, rfl, ws2⟩ := open_int Tryd.underlying5 (hval 2 5 v2 rfl rfl) h2
  obtain ⟨x2, rfl⟩ := u8_of ws2
  clear hA0
  simp only [List.append_nil] at hW'
  refine (values_law s0 (by simpa using ws0) s1 (by simpa using ws1) x2 (w := W)).mono fun e W' ⟨he, hb⟩ => ?_
  subst he
  exact ⟨_, rfl, _, _, _, [], [], [], hW', trodAll_cons_mk (shut_bool Tryd.underlying4 _) trodAll_mk0, (trodAll_cons_mk (shut_string Tryd.underlying9 ws0) (trodAll_cons_mk (shut_string Tryd.underlying9 ws1) (trodAll_cons_mk (shut_int Tryd.underlying5 ws2) trodAll_mk0))), rfl, hb.frame _, fun h => by cases h⟩
theorem laid_met (os : Os) : laidMet Tryd.prog Rows.polyValuesRow.laid ((laidWorld os).forCall (fun _ _ => 0) ⟨#[], #[.string ⟨#[]⟩, .string ⟨#[]⟩, .int .u8 0], []⟩).memory :=
  laidMet_of_run' 8 (by kernel_rfl) (by kernel_rfl)
theorem reads (os : Os) {H : Type} (enc : TypeId × Value → H) : ∃ places, DataW.whole enc Tryd.prog ((laidWorld os).forCall (fun _ _ => 0) ⟨#[], #[.string ⟨#[]⟩, .string ⟨#[]⟩, .int .u8 0], []⟩).memory Tryd.f7.params.toList Rows.polyValuesSpec.vars false #[Value.string ⟨#[]⟩, .string ⟨#[]⟩, .int .u8 0].toList 8 = some ([.lit (.string []), .lit (.string []), .lit (.int .u8 0)], [], places) :=
  ⟨[], by kernel_rfl⟩
set_option maxRecDepth 100000 in
theorem lifted (os : Os) (started : os.Started) (H : Type) (enc : TypeId × Value → H) (F : Stop.Interp) :
    ReturnsInHanded {} Tryd.checked os 7 .any ((OpenSpec.ofChange Rows.polyValuesSpec).preRow enc Tryd.prog Tryd.f7 Rows.polyValuesRow.domain false Rows.polyValuesRow.laid) (((OpenSpec.ofChange Rows.polyValuesSpec).at F).post enc Tryd.prog Tryd.f7 false true false false) := by
  obtain ⟨places, hx⟩ := reads os enc
  refine returnsInHanded_of_row (C := Tryd.checked) (s := OpenSpec.ofChange Rows.polyValuesSpec) own started (by kernel_rfl) Tryd.func7
    (witness_row_at (enc := enc) (C := Tryd.checked) false (laidWorld os) #[.string ⟨#[]⟩, .string ⟨#[]⟩, .int .u8 0] rfl (by kernel_rfl) (by kernel_rfl) (by kernel_rfl)
      (OpenSpec.preRow_of_cond 8 hx (by kernel_rfl) (fun k hk => by cases hk) (by kernel_rfl) (laid_met os))) ?_
  intro W base args ds gs before hval hW _ _ _ hL _ _
  exact contract H enc W base args ds gs before hval hW hL
theorem said : Rows.PolyValuesSaid :=
  OpenClaim.holds_of_cond 7 Tryd.f7 rfl rfl rfl rfl rfl rfl rfl ⟨rfl, rfl, rfl, rfl, rfl⟩ rfl rfl rfl rfl rfl (by kernel_rfl) Tryd.func7 (by kernel_rfl)
    (of_decide_eq_true (by kernel_rfl)) (by unfold Func.isWrapper; first | (rw [if_pos (by decide +kernel)]; kernel_rfl) | (rw [if_neg (by decide +kernel)]; exact ⟨rfl, rfl⟩))
    (fun os started H enc _ F => by rw [OpenClaim.pre_eq_preRow]; exact lifted os started H enc F)
theorem plain (f : FuncId) (fn : Func) (hf : Tryd.pinned.checked.prog.funcNamed "lockbox/lockboxlaw08.PolyValues" = some f) (hfn : Tryd.pinned.checked.prog.funcs[f]? = some fn) :
    false = Tryd.pinned.checked.prog.looks [] ∧ ∀ (j : Nat) t, fn.params[j]? = some t → Tryd.pinned.checked.prog.wantsStandIn t = false := by
  obtain rfl : f = 7 := Option.some.inj ((show Tryd.prog.funcNamed "lockbox/lockboxlaw08.PolyValues" = some 7 by kernel_rfl).symm.trans hf) |>.symm
  obtain rfl : fn = Tryd.f7 := (Option.some.inj (Tryd.func7.symm.trans hfn)).symm
  refine ⟨by kernel_rfl, fun j t ht => ?_⟩
  rw [Tryd.params7] at ht
  have hm : t ∈ [9, 9, 5] := by simpa using Array.mem_of_getElem? ht
  have hall : ([9, 9, 5].all fun u => !Tryd.prog.wantsStandIn u) = true := by kernel_rfl
  exact (show Tryd.prog.wantsStandIn t = false by simpa using List.all_eq_true.1 hall t hm)
end Go.Proofs.YtcknmpcekmbcdaaDoor.polyValuesLaw

namespace Go.Proofs.YtcknmpcekmbcdaaDoor
/-- THE CARD. -/
theorem polyValues_card : Rows.PolyValuesCardSaid :=
  Claim7.holds_tied_plain_at .later [] _ _ _ _ polyValuesLaw.said (fun _ h => by cases h) (by kernel_rfl) (fun _ h => by cases h) polyValues_row_tie rfl ⟨rfl, rfl⟩ (by kernel_rfl) rfl polyValuesLaw.plain (by kernel_rfl)
end Go.Proofs.YtcknmpcekmbcdaaDoor
