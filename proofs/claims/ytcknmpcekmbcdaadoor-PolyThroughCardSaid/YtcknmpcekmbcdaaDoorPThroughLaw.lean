/- PROVED HERE: for every two texts and every byte the law PolyThrough returns true (what goes through points goes through them, with no more bytes than there are points; its value at any other byte is what the weights say; or the error). No condition. -/
import Derived.Test.YtcknmpcekmbcdaaDoorPLin
import Derived.Test.YtcknmpcekmbcdaaDoorPLaid
import Derived.Test.YtcknmpcekmbcdaaDoorU8
namespace Go.Proofs.YtcknmpcekmbcdaaDoor
open Go.RowKit
open Gf

set_option maxRecDepth 100000 in
set_option maxHeartbeats 1000000 in
theorem through_law {w : World} (l : ByteArray) (_ : l.size ≤ maxLen) (v : ByteArray) (_ : v.size ≤ maxLen) (x : UInt8) :
    Calls Tryd.prog 5 #[.string l, .string v, .int .u8 (x.toNat : Int)] w fun e w' => e = .returned (.bool true) ∧ Below w.heap.size w w' := by
  have hb0 : Below w.heap.size w (w.alloc (.cells #[.string l, .string v] 9)) := (Below.refl _ _).alloc (Nat.le_refl _) _
  have HB0 := Lib.hid hb0
  clear hb0
  have hf := few_any 60 l v w
  cases hfe : few2 60 l v with
  | false =>
    rw [hfe] at hf
    have HF := Lib.hid hf
    clear hf hfe
    go_enter Tryd.func5, Tryd.ntmps5
    go_wp2_with fail
    refine HF.out.mono ?_
    rintro e w1 ⟨rfl, rfl⟩
    go_wp2_with fail
    refine (awake_any _).mono ?_
    rintro e w2 ⟨rfl, hb⟩
    have HB := Lib.hid (gtrans HB0.out hb)
    clear hb
    go_wp2_with fail
    go_ret
    exact ⟨rfl, HB.out⟩
  | true =>
    obtain ⟨hl, hvl⟩ := few2_le (m := 60) hfe
    rw [hfe] at hf
    have ht := through_any l v (by omega)
    have hp := rpoints_any l v (by unfold maxLen; omega)
    cases hpt : pts l v with
    | false =>
      rw [show thrB l v = ⟨#[]⟩ by unfold thrB; rw [hpt]; rfl, show aerr l v = 1 by unfold aerr; rw [hpt]; rfl] at ht
      rw [hpt] at hp
      have HF := Lib.hid (And.intro hf (And.intro ht hp))
      clear hf hfe hl hvl ht hp hpt
      go_enter Tryd.func5, Tryd.ntmps5
      go_wp2_with fail
      refine HF.out.1.mono ?_
      rintro e w1 ⟨rfl, rfl⟩
      go_wp2_with fail
      refine (HF.out.2.1 _).mono ?_
      rintro e w1 ⟨rfl, hb⟩
      have HB1 := Lib.hid (gtrans HB0.out hb)
      clear hb
      go_wp2_with fail
      refine (HF.out.2.2 _).mono ?_
      rintro e w2 ⟨rfl, hb⟩
      have HB2 := Lib.hid (gtrans HB1.out hb)
      clear hb
      go_wp2_with fail
      refine (awake_any _).mono ?_
      rintro e w3 ⟨rfl, hb⟩
      have HB3 := Lib.hid (gtrans HB2.out hb)
      clear hb
      go_wp2_with fail
      go_ret
      exact ⟨rfl, HB3.out⟩
    | true =>
      obtain ⟨f1, f2, f3⟩ := thrB_facts hpt
      have fa := at_val hpt f2 f3 x
      have ha := rat8_any l v (by omega) x
      rw [show aerr l v = 0 by unfold aerr; rw [hpt]; rfl] at ht ha
      rw [fa] at ha
      rw [hpt] at hp
      have hvv : (v.size : Int) = (l.size : Int) := by have := (pts_true hpt).1; omega
      obtain ⟨n, hn⟩ : ∃ n, n = l.size := ⟨_, rfl⟩
      have hli : (l.size : Int) = (n : Int) := by omega
      generalize thrB l v = T at *
      have hTs : T.size ≤ maxLen := by unfold maxLen; omega
      have hTl : (T.size : Int) ≤ (n : Int) := by omega
      have htr := rtrim_any T hTs
      rw [f1] at htr
      have hrv := rvalue_any T hTs x
      have hteq : (T.toList == T.toList) = true := by simp
      have HF := Lib.hid (And.intro hf (And.intro ht (And.intro hp (And.intro ha (And.intro htr hrv)))))
      have H3 := Lib.hid (And.intro f3 (And.intro hn (show n = v.size by omega)))
      have hn60 : n ≤ 60 := by omega
      clear hf hfe hl hvl ht hp hpt ha htr hrv f1 f2 f3 fa hn
      go_enter Tryd.func5, Tryd.ntmps5
      go_wp2_with fail
      refine HF.out.1.mono ?_
      rintro e w1 ⟨rfl, rfl⟩
      go_wp2_with fail
      refine (HF.out.2.1 _).mono ?_
      rintro e w1 ⟨rfl, hb⟩
      have HB1 := Lib.hid (gtrans HB0.out hb)
      clear hb
      go_wp2_with fail
      refine (HF.out.2.2.1 _).mono ?_
      rintro e w2 ⟨rfl, hb⟩
      have HB2 := Lib.hid (gtrans HB1.out hb)
      clear hb
      go_wp2_with fail
      go_loopw [9] (fun i wr => ∃ k : Nat, k ≤ n ∧ i = .int .i64 (k : Int) ∧ Below w.heap.size w wr) (fun i _ => n - (intOf i).toNat)
      case atStart => exact ⟨0, by omega, rfl, HB2.out⟩
      case round =>
        obtain ⟨k, hk, rfl, hb⟩ := hrel
        have HB := Lib.hid hb
        clear hb
        by_cases hlt : k < n
        · have kl : k < l.size := by have := H3.out.2.1; omega
          have kv : k < v.size := by have := H3.out.2.2; omega
          have hval := H3.out.1 k kl
          rw [co_at l k kl, co_at v k kv] at hval
          have hne : (((valB T l[k]).toNat : Int) != (v[k].toNat : Int)) = false := by rw [hval]; simp
          clear hval
          go_wp2_with fail
          go_quiet ((go_at_call 15; exact Calls.quiet_of_same (rvalue_still _ (by assumption) _ _)))
          go_wp2_with fail
          go_roundw
          case rel => exact ⟨k + 1, by omega, by go_num, gdrew HB.out _⟩
          case measure => simp [intOf]; omega
        · obtain rfl : k = n := by omega
          go_wp2_with fail
          refine (HF.out.2.2.2.1 _).mono ?_
          rintro e w3 ⟨rfl, hb⟩
          have HB3 := Lib.hid (gtrans HB.out hb)
          clear hb
          go_wp2_with fail
          refine (awake_any _).mono ?_
          rintro e w4 ⟨rfl, hb⟩
          have HB4 := Lib.hid (gtrans HB3.out hb)
          clear hb
          go_wp2_with fail
          refine (HF.out.2.2.2.2.1 _).mono ?_
          rintro e w5 ⟨rfl, rfl⟩
          go_wp2_with fail
          refine (HF.out.2.2.2.2.2 _).mono ?_
          rintro e w5 ⟨rfl, rfl⟩
          go_wp2_with fail
          go_ret
          exact ⟨rfl, HB4.out⟩
end Go.Proofs.YtcknmpcekmbcdaaDoor

namespace Go.Proofs.YtcknmpcekmbcdaaDoor.polyThroughLaw
open Go.ChangeShapes Go.WideShapes Go.ChangeAt Go.RowKit
open Go.ChangeMaps (open_string shut_string)

theorem contract (H : Type) (enc : TypeId × Value → H) (W : World) (base : Nat) (args : Array Value) (ds gs : List (DataW H)) (before : List MemPlace)
    (hval : ∀ (j : Nat) t v, Tryd.f5.params[j]? = some t → args[j]? = some v → Value.okWide Tryd.prog W .any base t v)
    (hW : DataW.Whole enc Tryd.prog Tryd.f5.params.toList Rows.polyThroughSpec.vars false W args.toList ds gs before) (_ : laidMetH Tryd.prog Rows.polyThroughRow.laid W) :
    Calls Tryd.prog 5 args W fun e W' => ∃ v, e = .returned v ∧ Rows.polyThroughSpec.post enc Tryd.prog Tryd.f5 false true false false W args v W' := by
  have hW' := hW
  obtain ⟨p, q, hA0, hV, rfl, hfz, hnd⟩ := hW
  have hA : DataW.TrodAll enc Tryd.prog W 0 (fun _ => true) true Tryd.f5.params.toList args.toList ds p := hA0
  rw [Tryd.params5] at hA hval
  obtain ⟨v0, vs0, d0, ds0, p0, q0, hargs, rfl, rfl, h0, r0⟩ := trodAll_cons hA
  obtain ⟨v1, vs1, d1, ds1, p1, q1, rfl, rfl, rfl, h1, r1⟩ := trodAll_cons r0
  obtain ⟨v2, vs2, d2, ds2, p2, q2, rfl, rfl, rfl, h2, r2⟩ := trodAll_cons r1
  obtain ⟨rfl, rfl, rfl⟩ := trodAll_nil r2
  obtain rfl : args = #[v0, v1, v2] := by cases args; simp_all
  obtain ⟨rfl, rfl⟩ := trodVars_none hV
  obtain ⟨s0, rfl, rfl, rfl, ws0⟩ := open_string Tryd.underlying9 (hval 0 9 v0 rfl rfl) h0
  obtain ⟨s1, rfl, rfl, rfl, ws1⟩ := open_string Tryd.underlying9 (hval 1 9 v1 rfl rfl) h1
  obtain ⟨n2, rfl, rfl, rfl, ws2⟩ := open_int Tryd.underlying5 (hval 2 5 v2 rfl rfl) h2
  obtain ⟨x2, rfl⟩ := u8_of ws2
  clear hA0
  simp only [List.append_nil] at hW'
  refine (through_law s0 (by simpa using ws0) s1 (by simpa using ws1) x2 (w := W)).mono fun e W' ⟨he, hb⟩ => ?_
  subst he
  exact ⟨_, rfl, _, _, _, [], [], [], hW', trodAll_cons_mk (shut_bool Tryd.underlying4 _) trodAll_mk0, (trodAll_cons_mk (shut_string Tryd.underlying9 ws0) (trodAll_cons_mk (shut_string Tryd.underlying9 ws1) (trodAll_cons_mk (shut_int Tryd.underlying5 ws2) trodAll_mk0))), rfl, hb.frame _, fun h => by cases h⟩
theorem laid_met (os : Os) : laidMet Tryd.prog Rows.polyThroughRow.laid ((laidWorld os).forCall (fun _ _ => 0) ⟨#[], #[.string ⟨#[]⟩, .string ⟨#[]⟩, .int .u8 0], []⟩).memory :=
  laidMet_of_run' 8 (by kernel_rfl) (by kernel_rfl)
theorem reads (os : Os) {H : Type} (enc : TypeId × Value → H) : ∃ places, DataW.whole enc Tryd.prog ((laidWorld os).forCall (fun _ _ => 0) ⟨#[], #[.string ⟨#[]⟩, .string ⟨#[]⟩, .int .u8 0], []⟩).memory Tryd.f5.params.toList Rows.polyThroughSpec.vars false #[Value.string ⟨#[]⟩, .string ⟨#[]⟩, .int .u8 0].toList 8 = some ([.lit (.string []), .lit (.string []), .lit (.int .u8 0)], [], places) :=
  ⟨[], by kernel_rfl⟩
set_option maxRecDepth 100000 in
theorem lifted (os : Os) (started : os.Started) (H : Type) (enc : TypeId × Value → H) (F : Stop.Interp) :
    ReturnsInHanded {} Tryd.checked os 5 .any ((OpenSpec.ofChange Rows.polyThroughSpec).preRow enc Tryd.prog Tryd.f5 Rows.polyThroughRow.domain false Rows.polyThroughRow.laid) (((OpenSpec.ofChange Rows.polyThroughSpec).at F).post enc Tryd.prog Tryd.f5 false true false false) := by
  obtain ⟨places, hx⟩ := reads os enc
  refine returnsInHanded_of_row (C := Tryd.checked) (s := OpenSpec.ofChange Rows.polyThroughSpec) own started (by kernel_rfl) Tryd.func5
    (witness_row_at (enc := enc) (C := Tryd.checked) false (laidWorld os) #[.string ⟨#[]⟩, .string ⟨#[]⟩, .int .u8 0] rfl (by kernel_rfl) (by kernel_rfl) (by kernel_rfl)
      (OpenSpec.preRow_of_cond 8 hx (by kernel_rfl) (fun k hk => by cases hk) (by kernel_rfl) (laid_met os))) ?_
  intro W base args ds gs before hval hW _ _ _ hL _ _
  exact contract H enc W base args ds gs before hval hW hL
theorem said : Rows.PolyThroughSaid :=
  OpenClaim.holds_of_cond 5 Tryd.f5 rfl rfl rfl rfl rfl rfl rfl ⟨rfl, rfl, rfl, rfl, rfl⟩ rfl rfl rfl rfl rfl (by kernel_rfl) Tryd.func5 (by kernel_rfl)
    (of_decide_eq_true (by kernel_rfl)) (by unfold Func.isWrapper; first | (rw [if_pos (by decide +kernel)]; kernel_rfl) | (rw [if_neg (by decide +kernel)]; exact ⟨rfl, rfl⟩))
    (fun os started H enc _ F => by rw [OpenClaim.pre_eq_preRow]; exact lifted os started H enc F)
theorem plain (f : FuncId) (fn : Func) (hf : Tryd.pinned.checked.prog.funcNamed "lockbox/lockboxlaw08.PolyThrough" = some f) (hfn : Tryd.pinned.checked.prog.funcs[f]? = some fn) :
    false = Tryd.pinned.checked.prog.looks [] ∧ ∀ (j : Nat) t, fn.params[j]? = some t → Tryd.pinned.checked.prog.wantsStandIn t = false := by
  obtain rfl : f = 5 := Option.some.inj ((show Tryd.prog.funcNamed "lockbox/lockboxlaw08.PolyThrough" = some 5 by kernel_rfl).symm.trans hf) |>.symm
  obtain rfl : fn = Tryd.f5 := (Option.some.inj (Tryd.func5.symm.trans hfn)).symm
  refine ⟨by kernel_rfl, fun j t ht => ?_⟩
  rw [Tryd.params5] at ht
  have hm : t ∈ [9, 9, 5] := by simpa using Array.mem_of_getElem? ht
  have hall : ([9, 9, 5].all fun u => !Tryd.prog.wantsStandIn u) = true := by kernel_rfl
  exact (show Tryd.prog.wantsStandIn t = false by simpa using List.all_eq_true.1 hall t hm)
end Go.Proofs.YtcknmpcekmbcdaaDoor.polyThroughLaw

namespace Go.Proofs.YtcknmpcekmbcdaaDoor
/-- THE CARD. -/
theorem polyThrough_card : Rows.PolyThroughCardSaid :=
  Claim7.holds_tied_plain_at .later [] _ _ _ _ polyThroughLaw.said (fun _ h => by cases h) (by kernel_rfl) (fun _ h => by cases h) polyThrough_row_tie rfl ⟨rfl, rfl⟩ (by kernel_rfl) rfl polyThroughLaw.plain (by kernel_rfl)
end Go.Proofs.YtcknmpcekmbcdaaDoor
