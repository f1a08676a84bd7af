/- PROVED HERE: for every three texts the law MacChecks returns true (which codes are a text's: just the one; with a byte turned, cut off, or put to it, it is none), and all read afterwards as they did. Its conditions: the two package-level tables of the digest hold what their initialisers lay (tied to the program's text by the card). -/
import Derived.Test.YtnpdmkgefaobeaaDoorMAwake
import Derived.Test.YtnpdmkgefaobeaaDoorMRef
import Derived.Test.YtnpdmkgefaobeaaDoorLaid
namespace Go.Proofs.YtnpdmkgefaobeaaDoor
open Go.RowKit

theorem flip_row {C : ByteArray} {A : Nat} {x y : UInt8} {B g : Nat} {W : World} (_hx : x = C.data.toList.getD A 0) (_hy : y = x ^^^ 1) (hA : A < C.data.toList.length) (h : Row8 B W g C.data.toList) :
    Row8 B (W.setCell ⟨g, A, none⟩ (.int .u8 (y.toNat : Int))) g (C.data.toList.set A y) :=
  h.put A hA y (by rw [List.length_set]) (by rw [List.getD_eq_getElem?_getD, List.getElem?_set_self hA]; rfl) (fun i hi hne => by
    rw [List.getD_eq_getElem?_getD, List.getD_eq_getElem?_getD, List.getElem?_set_ne (Ne.symm hne)])
theorem flip_ne {C B : ByteArray} {A : Nat} {x y : UInt8} (hx : x = C.data.toList.getD A 0) (hy : y = x ^^^ 1) (hA : A < C.data.toList.length) (hB : B = str (C.data.toList.set A y)) : (C.toList == B.toList) = false := by
  have hne : C.toList ≠ B.toList := by
    rw [toList_data, toList_data, hB, str_data]
    intro e
    have e2 := congrArg (fun l => l.getD A 0) e
    simp only [List.getD_eq_getElem?_getD, List.getElem?_set_self hA] at e2
    rw [← List.getD_eq_getElem?_getD, ← hx] at e2
    have e3 : x = y := e2
    rw [hy] at e3
    have e4 := congrArg (fun z => x ^^^ z) e3
    simp only [← UInt8.xor_assoc, UInt8.xor_self, UInt8.zero_xor] at e4
    exact absurd e4 (by decide)
  simpa using hne
theorem flip_below {B g A : Nat} {w W : World} {v : Value} (h : B ≤ g ∧ Below B w W) : Below B w (W.setCell ⟨g, A, none⟩ v) := h.2.setCell h.1 v
theorem size_ne {C X : ByteArray} (h : C.size ≠ X.size) : (C.toList == X.toList) = false := by
  have : C.toList ≠ X.toList := fun e => h (by
    rw [toList_data, toList_data] at e
    have := congrArg List.length e
    simpa using this)
  simpa using this

set_option maxRecDepth 100000 in
set_option maxHeartbeats 1000000 in
theorem checks_law (key : ByteArray) (_ : key.size ≤ maxLen) (text : ByteArray) (_ : text.size ≤ maxLen) (X : ByteArray) (_ : X.size ≤ maxLen) (w : World) (hG : Glob w) :
    Calls Tryd.prog 4 #[.string key, .string text, .string X] w fun e w' => e = .returned (.bool true) ∧ Below w.heap.size w w' := by
  by_cases h1 : (300 : Int) < key.size
  · go_enter Tryd.func4, Tryd.ntmps4
    go_wp2_with fail
    refine (awake_any _ hG).mono ?_
    rintro e w1 ⟨rfl, h1⟩
    go_wp2_with fail
    go_ret
    exact ⟨rfl, h1⟩
  by_cases h2 : (300 : Int) < text.size
  · go_enter Tryd.func4, Tryd.ntmps4
    go_wp2_with fail
    refine (awake_any _ hG).mono ?_
    rintro e w1 ⟨rfl, h1⟩
    go_wp2_with fail
    go_ret
    exact ⟨rfl, h1⟩
  by_cases h3 : (100 : Int) < X.size
  · go_enter Tryd.func4, Tryd.ntmps4
    go_wp2_with fail
    refine (awake_any _ hG).mono ?_
    rintro e w1 ⟨rfl, h1⟩
    go_wp2_with fail
    go_ret
    exact ⟨rfl, h1⟩
  obtain ⟨C, hC⟩ : ∃ C, C = str (code key.data.toList text.data.toList) := ⟨_, rfl⟩
  have hCs : C.size = 32 := by rw [hC, str_size, code_length]
  have hchk := fun (Y : ByteArray) W (hb : Below w.heap.size w W) => check_any key text Y (by omega) (by omega) W (hG.below hb)
  have hcd := rcode_any key text (by omega) (by omega) w
  rw [← hC] at hchk hcd
  obtain ⟨bx, hbx⟩ : ∃ bx, (C.toList == X.toList) = bx := ⟨_, rfl⟩
  have hbx2 : (X.toList == C.toList) = bx := by rw [← hbx]; exact Bool.eq_iff_iff.2 ⟨fun h => by simpa using (beq_iff_eq.1 h).symm, fun h => by simpa using (beq_iff_eq.1 h).symm⟩
  have H := Lib.hid (And.intro hchk (And.intro hCs (And.intro hC (And.intro hbx (And.intro hbx2 (And.intro (size_ne (C := C) (X := C.extract 1 32) (by rw [ByteArray.size_extract, hCs]; decide)) (size_ne (C := C) (X := C ++ ⟨#[0]⟩) (by rw [ByteArray.size_append, hCs]; decide))))))))
  clear hchk hC hbx hbx2
  by_cases hc0 : 0 < X.size
  · obtain ⟨A, hA⟩ : ∃ A : Nat, (X[0].toNat : Int) % 32 = A := ⟨X[0].toNat % 32, by omega⟩
    have HA := Lib.hid (show A < 32 by omega)
    have hXi : (0 : Int) < X.size := by omega
    have hXb : (X[0].toNat : Int) < 256 := by have := X[0].toNat_lt; omega
    go_enter Tryd.func4, Tryd.ntmps4
    go_wp2_with fail
    refine hcd.mono ?_
    rintro e w1 ⟨rfl, k1⟩
    obtain ⟨cap, w2, hcv, hrow, hb2, hz2⟩ := conv_bytes w1 C
    have K2 := Lib.hid (And.intro hrow (And.intro k1.size (below_call k1 hb2)))
    clear k1 hrow hb2 hz2
    have hAl : A < 32 := HA.out
    obtain ⟨x, hx⟩ : ∃ x, x = C.data.toList.getD A 0 := ⟨_, rfl⟩
    obtain ⟨hc, hf⟩ := K2.out.1.2.2 A (by have := H.out.2.1; simp; omega)
    rw [← hx] at hc
    obtain ⟨y, hy⟩ : ∃ y, y = x ^^^ 1 := ⟨_, rfl⟩
    have hxy : bits .xor .u8 (x.toNat : Int) 1 = (y.toNat : Int) := by
      have := byte_xor8 x 1
      rw [hy]; exact this
    have hbr := flip_row hx hy (by have := H.out.2.1; simp; omega) K2.out.1
    obtain ⟨B, hB⟩ : ∃ B, B = str (C.data.toList.set A y) := ⟨_, rfl⟩
    have hBl : (C.data.toList.set A y).length = 32 := by rw [List.length_set]; have := H.out.2.1; simp; omega
    have hne := flip_ne hx hy (by have := H.out.2.1; simp; omega) hB
    have HB := Lib.hid (And.intro hbr (And.intro hB (And.intro hBl hne)))
    clear hx hy hbr hB hBl hne
    have hCs := H.out.2.1
    go_wp2_with fail
    refine (awake_any _ (hG.below (flip_below K2.out.2))).mono ?_
    rintro e w3 ⟨rfl, k3⟩
    have hcv := (HB.out.1.call k3).conv 32 HB.out.2.2.1 cap
    rw [← HB.out.2.1] at hcv
    have K3 := Lib.hid (And.intro (below_call (flip_below K2.out.2) k3) (HB.out.1.call k3))
    clear k3
    have b1 := H.out.2.2.2.1
    have b2 := H.out.2.2.2.2.1
    go_wp2_with fail
    refine (H.out.1 X _ K3.out.1).mono ?_
    rintro e w4 ⟨rfl, k4⟩
    rw [b1]
    have hcv := ((K3.out.2).call k4).conv 32 HB.out.2.2.1 cap
    rw [← HB.out.2.1] at hcv
    have K4 := Lib.hid (And.intro (below_call K3.out.1 k4) (K3.out.2.call k4))
    clear k4
    go_wp2_with fail
    refine (H.out.1 C _ K4.out.1).mono ?_
    rintro e w5 ⟨rfl, k5⟩
    have hcv := ((K4.out.2).call k5).conv 32 HB.out.2.2.1 cap
    rw [← HB.out.2.1] at hcv
    have K5 := Lib.hid (below_call K4.out.1 k5)
    clear k5
    have b3 : (C.toList == C.toList) = true := by simp
    go_wp2_with fail
    refine (H.out.1 B _ K5.out).mono ?_
    rintro e w6 ⟨rfl, k6⟩
    rw [HB.out.2.2.2]
    have K6 := Lib.hid (below_call K5.out k6)
    clear k6
    go_wp2_with fail
    refine (H.out.1 (C.extract 1 32) _ K6.out).mono ?_
    rintro e w7 ⟨rfl, k7⟩
    rw [H.out.2.2.2.2.2.1]
    have K7 := Lib.hid (below_call K6.out k7)
    clear k7
    go_wp2_with fail
    refine (H.out.1 (C ++ ByteArray.mk #[0]) _ K7.out).mono ?_
    rintro e w8 ⟨rfl, k8⟩
    rw [H.out.2.2.2.2.2.2]
    have K8 := Lib.hid (below_call K7.out k8)
    clear k8
    go_wp2_with fail
    go_ret
    exact ⟨rfl, K8.out⟩
  · obtain ⟨A, hA⟩ : ∃ A : Nat, A = 0 := ⟨0, rfl⟩
    have HA := Lib.hid (show A < 32 by omega)
    have hXi : decide ((0 : Int) < X.size) = false := decide_eq_false (by omega)
    go_enter Tryd.func4, Tryd.ntmps4
    go_wp2_with fail
    refine hcd.mono ?_
    rintro e w1 ⟨rfl, k1⟩
    obtain ⟨cap, w2, hcv, hrow, hb2, hz2⟩ := conv_bytes w1 C
    have K2 := Lib.hid (And.intro hrow (And.intro k1.size (below_call k1 hb2)))
    clear k1 hrow hb2 hz2
    subst hA
    have hAl : 0 < 32 := HA.out
    obtain ⟨x, hx⟩ : ∃ x, x = C.data.toList.getD 0 0 := ⟨_, rfl⟩
    obtain ⟨hc, hf⟩ := K2.out.1.2.2 0 (by have := H.out.2.1; simp; omega)
    rw [← hx] at hc
    obtain ⟨y, hy⟩ : ∃ y, y = x ^^^ 1 := ⟨_, rfl⟩
    have hxy : bits .xor .u8 (x.toNat : Int) 1 = (y.toNat : Int) := by
      have := byte_xor8 x 1
      rw [hy]; exact this
    have hbr := flip_row hx hy (by have := H.out.2.1; simp; omega) K2.out.1
    obtain ⟨B, hB⟩ : ∃ B, B = str (C.data.toList.set 0 y) := ⟨_, rfl⟩
    have hBl : (C.data.toList.set 0 y).length = 32 := by rw [List.length_set]; have := H.out.2.1; simp; omega
    have hne := flip_ne hx hy (by have := H.out.2.1; simp; omega) hB
    have HB := Lib.hid (And.intro hbr (And.intro hB (And.intro hBl hne)))
    clear hx hy hbr hB hBl hne
    have hCs := H.out.2.1
    go_wp2_with fail
    refine (awake_any _ (hG.below (flip_below K2.out.2))).mono ?_
    rintro e w3 ⟨rfl, k3⟩
    have hcv := (HB.out.1.call k3).conv 32 HB.out.2.2.1 cap
    rw [← HB.out.2.1] at hcv
    have K3 := Lib.hid (And.intro (below_call (flip_below K2.out.2) k3) (HB.out.1.call k3))
    clear k3
    have b1 := H.out.2.2.2.1
    have b2 := H.out.2.2.2.2.1
    go_wp2_with fail
    refine (H.out.1 X _ K3.out.1).mono ?_
    rintro e w4 ⟨rfl, k4⟩
    rw [b1]
    have hcv := ((K3.out.2).call k4).conv 32 HB.out.2.2.1 cap
    rw [← HB.out.2.1] at hcv
    have K4 := Lib.hid (And.intro (below_call K3.out.1 k4) (K3.out.2.call k4))
    clear k4
    go_wp2_with fail
    refine (H.out.1 C _ K4.out.1).mono ?_
    rintro e w5 ⟨rfl, k5⟩
    have hcv := ((K4.out.2).call k5).conv 32 HB.out.2.2.1 cap
    rw [← HB.out.2.1] at hcv
    have K5 := Lib.hid (below_call K4.out.1 k5)
    clear k5
    have b3 : (C.toList == C.toList) = true := by simp
    go_wp2_with fail
    refine (H.out.1 B _ K5.out).mono ?_
    rintro e w6 ⟨rfl, k6⟩
    rw [HB.out.2.2.2]
    have K6 := Lib.hid (below_call K5.out k6)
    clear k6
    go_wp2_with fail
    refine (H.out.1 (C.extract 1 32) _ K6.out).mono ?_
    rintro e w7 ⟨rfl, k7⟩
    rw [H.out.2.2.2.2.2.1]
    have K7 := Lib.hid (below_call K6.out k7)
    clear k7
    go_wp2_with fail
    refine (H.out.1 (C ++ ByteArray.mk #[0]) _ K7.out).mono ?_
    rintro e w8 ⟨rfl, k8⟩
    rw [H.out.2.2.2.2.2.2]
    have K8 := Lib.hid (below_call K7.out k8)
    clear k8
    go_wp2_with fail
    go_ret
    exact ⟨rfl, K8.out⟩

end Go.Proofs.YtnpdmkgefaobeaaDoor

namespace Go.Proofs.YtnpdmkgefaobeaaDoor.macChecksLaw
open Go.ChangeShapes Go.WideShapes Go.ChangeAt Go.RowKit
open Go.ChangeMaps (open_string shut_string)

theorem contract (H : Type) (enc : TypeId × Value → H) (W : World) (base : Nat) (args : Array Value) (ds gs : List (DataW H)) (before : List MemPlace)
    (hval : ∀ (j : Nat) t v, Tryd.f4.params[j]? = some t → args[j]? = some v → Value.okWide Tryd.prog W .any base t v)
    (hW : DataW.Whole enc Tryd.prog Tryd.f4.params.toList Rows.macChecksSpec.vars false W args.toList ds gs before) (hL : laidMetH Tryd.prog Rows.macChecksRow.laid W) :
    Calls Tryd.prog 4 args W fun e W' => ∃ v, e = .returned v ∧ Rows.macChecksSpec.post enc Tryd.prog Tryd.f4 false true false false W args v W' := by
  have hW' := hW
  obtain ⟨p, q, hA0, hV, rfl, hfz, hnd⟩ := hW
  have hA : DataW.TrodAll enc Tryd.prog W 0 (fun _ => true) true Tryd.f4.params.toList args.toList ds p := hA0
  rw [Tryd.params4] at hA hval
  obtain ⟨v0, vs0, d0, ds0, p0, q0, hargs, rfl, rfl, h0, r0⟩ := trodAll_cons hA
  obtain ⟨v1, vs1, d1, ds1, p1, q1, rfl, rfl, rfl, h1, r1⟩ := trodAll_cons r0
  obtain ⟨v2, vs2, d2, ds2, p2, q2, rfl, rfl, rfl, h2, r2⟩ := trodAll_cons r1
  obtain ⟨rfl, rfl, rfl⟩ := trodAll_nil r2
  obtain rfl : args = #[v0, v1, v2] := by cases args; simp_all
  obtain ⟨rfl, rfl⟩ := trodVars_none hV
  obtain ⟨s0, rfl, rfl, rfl, ws0⟩ := open_string Tryd.underlying9 (hval 0 9 v0 rfl rfl) h0
  obtain ⟨s1, rfl, rfl, rfl, ws1⟩ := open_string Tryd.underlying9 (hval 1 9 v1 rfl rfl) h1
  obtain ⟨s2, rfl, rfl, rfl, ws2⟩ := open_string Tryd.underlying9 (hval 2 9 v2 rfl rfl) h2
  clear hA0
  simp only [List.append_nil] at hW'
  refine (checks_law s0 (by simpa using ws0) s1 (by simpa using ws1) s2 (by simpa using ws2) (w := W) (hG := glob_of_laid hL)).mono fun e W' ⟨he, hb⟩ => ?_
  subst he
  exact ⟨_, rfl, _, _, _, [], [], [], hW', trodAll_cons_mk (shut_bool Tryd.underlying4 _) trodAll_mk0, (trodAll_cons_mk (shut_string Tryd.underlying9 ws0) (trodAll_cons_mk (shut_string Tryd.underlying9 ws1) (trodAll_cons_mk (shut_string Tryd.underlying9 ws2) trodAll_mk0))), rfl, hb.frame _, fun h => by cases h⟩
theorem laid_met (os : Os) : laidMet Tryd.prog Rows.macChecksRow.laid ((laidWorld os).forCall (fun _ _ => 0) ⟨#[], #[.string ⟨#[]⟩, .string ⟨#[]⟩, .string ⟨#[]⟩], []⟩).memory :=
  laidMet_of_run' 8 (by kernel_rfl) (by kernel_rfl)
theorem reads (os : Os) {H : Type} (enc : TypeId × Value → H) : ∃ places, DataW.whole enc Tryd.prog ((laidWorld os).forCall (fun _ _ => 0) ⟨#[], #[.string ⟨#[]⟩, .string ⟨#[]⟩, .string ⟨#[]⟩], []⟩).memory Tryd.f4.params.toList Rows.macChecksSpec.vars false #[Value.string ⟨#[]⟩, .string ⟨#[]⟩, .string ⟨#[]⟩].toList 8 = some ([.lit (.string []), .lit (.string []), .lit (.string [])], [], places) :=
  ⟨[], by kernel_rfl⟩
set_option maxRecDepth 100000 in
theorem lifted (os : Os) (started : os.Started) (H : Type) (enc : TypeId × Value → H) (F : Stop.Interp) :
    ReturnsInHanded {} Tryd.checked os 4 .any ((OpenSpec.ofChange Rows.macChecksSpec).preRow enc Tryd.prog Tryd.f4 Rows.macChecksRow.domain false Rows.macChecksRow.laid) (((OpenSpec.ofChange Rows.macChecksSpec).at F).post enc Tryd.prog Tryd.f4 false true false false) := by
  obtain ⟨places, hx⟩ := reads os enc
  refine returnsInHanded_of_row (C := Tryd.checked) (s := OpenSpec.ofChange Rows.macChecksSpec) own started (by kernel_rfl) Tryd.func4
    (witness_row_at (enc := enc) (C := Tryd.checked) false (laidWorld os) #[.string ⟨#[]⟩, .string ⟨#[]⟩, .string ⟨#[]⟩] rfl (by kernel_rfl) (by kernel_rfl) (by kernel_rfl)
      (OpenSpec.preRow_of_cond 8 hx (by kernel_rfl) (fun k hk => by cases hk) (by kernel_rfl) (laid_met os))) ?_
  intro W base args ds gs before hval hW _ _ _ hL _ _
  exact contract H enc W base args ds gs before hval hW hL
theorem said : Rows.MacChecksSaid :=
  OpenClaim.holds_of_cond 4 Tryd.f4 rfl rfl rfl rfl rfl rfl rfl ⟨rfl, rfl, rfl, rfl, rfl⟩ rfl rfl rfl rfl rfl (by kernel_rfl) Tryd.func4 (by kernel_rfl)
    (of_decide_eq_true (by kernel_rfl)) (by unfold Func.isWrapper; first | (rw [if_pos (by decide +kernel)]; kernel_rfl) | (rw [if_neg (by decide +kernel)]; exact ⟨rfl, rfl⟩))
    (fun os started H enc _ F => by rw [OpenClaim.pre_eq_preRow]; exact lifted os started H enc F)
theorem plain (f : FuncId) (fn : Func) (hf : Tryd.pinned.checked.prog.funcNamed "lockbox/lockboxlaw04.MacChecks" = some f) (hfn : Tryd.pinned.checked.prog.funcs[f]? = some fn) :
    false = Tryd.pinned.checked.prog.looks [] ∧ ∀ (j : Nat) t, fn.params[j]? = some t → Tryd.pinned.checked.prog.wantsStandIn t = false := by
  obtain rfl : f = 4 := Option.some.inj ((show Tryd.prog.funcNamed "lockbox/lockboxlaw04.MacChecks" = some 4 by kernel_rfl).symm.trans hf) |>.symm
  obtain rfl : fn = Tryd.f4 := (Option.some.inj (Tryd.func4.symm.trans hfn)).symm
  refine ⟨by kernel_rfl, fun j t ht => ?_⟩
  rw [Tryd.params4] at ht
  have hm : t ∈ [9, 9, 9] := by simpa using Array.mem_of_getElem? ht
  have hall : ([9, 9, 9].all fun u => !Tryd.prog.wantsStandIn u) = true := by kernel_rfl
  exact (show Tryd.prog.wantsStandIn t = false by simpa using List.all_eq_true.1 hall t hm)
end Go.Proofs.YtnpdmkgefaobeaaDoor.macChecksLaw

namespace Go.Proofs.YtnpdmkgefaobeaaDoor
/-- THE CARD. -/
theorem macChecks_card : Rows.MacChecksCardSaid :=
  Claim7.holds_tied_plain_at .later [] _ _ _ _ macChecksLaw.said (fun _ h => by cases h) (by kernel_rfl) (fun _ h => by cases h) macChecks_row_tie rfl ⟨rfl, rfl⟩ (by kernel_rfl) rfl macChecksLaw.plain (by kernel_rfl)
end Go.Proofs.YtnpdmkgefaobeaaDoor
