/- PROVED HERE: for every two texts and every number the law MacPads returns true (a key and the same with bytes 0 behind it, up to 64, have the same codes; one of more bytes has its digest's), and all read afterwards as they did. Its conditions: the two package-level tables of the digest hold what their initialisers lay (tied to the program's text by the card). -/
import Derived.Test.YtnpdmkgefaobeaaDoorMAwake
import Derived.Test.YtnpdmkgefaobeaaDoorMRef
import Derived.Test.YtnpdmkgefaobeaaDoorLaid
namespace Go.Proofs.YtnpdmkgefaobeaaDoor
open Go.RowKit

theorem blk_sha {k : List UInt8} (h : 64 < k.length) : blk (sha k) = blk k := by
  unfold blk
  rw [show keyOf (sha k) = sha k from by rw [keyOf, if_neg (by rw [sha_length]; decide)], show keyOf k = sha k from by rw [keyOf, if_pos h]]
theorem code_blk {k k' : List UInt8} (h : blk k = blk k') (t : List UInt8) : code k t = code k' t := by
  unfold code padX; rw [h]
theorem blk_zeros {k : List UInt8} {m : Nat} (h : k.length + m ≤ 64) : blk (k ++ List.replicate m 0) = blk k := by
  unfold blk
  rw [show keyOf (k ++ List.replicate m 0) = k ++ List.replicate m 0 from by rw [keyOf, if_neg (by simp; omega)], show keyOf k = k from by rw [keyOf, if_neg (by omega)], List.append_assoc, List.replicate_append_replicate, List.length_append, List.length_replicate]
  congr 2; omega
theorem make_bytes (w : World) (n : Nat) (hn : n ≤ 1000000) : ∃ w', (Instr.makeSlice 31 (.int .i64 (n : Int)) (.int .i64 (n : Int))).run Tryd.prog w = .ok (.slice (some ⟨w.heap.size, 0, none⟩) n n) w' ∧ OwnB w.heap.size w' (some ⟨w.heap.size, 0, none⟩) n (List.replicate n 0) ∧ Below w.heap.size w w' := by
  obtain ⟨i0, hi0, hz0, hz1, hz2⟩ := info_parts Tryd.info_byte
  obtain ⟨w', h1, h2, h3⟩ := run_makeSlice_full (P := Tryd.prog) w w.heap.size 31 5 i0 (.int .u8 0) 1 Tryd.underlying31 hi0 hz0 hz1 .i64 .i64 n (by omega) (by rw [hz2]; omega) (by unfold maxLen; omega) (Nat.le_refl _)
  refine ⟨w', h1, ?_, (Below.refl _ _).grown h3 (Nat.le_refl _) (fun k hk => by cases hk)⟩
  unfold OwnB
  rw [List.length_replicate]
  have e : bcells (List.replicate n 0) = (madeCells (Value.int IntKind.u8 0).cells (n * 1)).toList := by
    simp only [bcells, madeCells, Value.cells, List.map_replicate, Nat.mul_one]
    apply List.ext_getElem?
    intro i
    by_cases hi : i < n
    · simp [hi, Nat.mod_one]
    · simp [hi]
  rw [e]; exact h2

set_option maxRecDepth 100000 in
set_option maxHeartbeats 1000000 in
theorem pads_law (key : ByteArray) (_ : key.size ≤ maxLen) (text : ByteArray) (_ : text.size ≤ maxLen) (n : Int) (_ : -9223372036854775808 ≤ n) (_ : n ≤ 9223372036854775807) (w : World) (hG : Glob w) :
    Calls Tryd.prog 8 #[.string key, .string text, .int .i64 n] w fun e w' => e = .returned (.bool true) ∧ Below w.heap.size w w' := by
  by_cases h1 : (300 : Int) < key.size
  · go_enter Tryd.func8, Tryd.ntmps8
    go_wp2_with fail
    refine (awake_any _ hG).mono ?_
    rintro e w1 ⟨rfl, h1⟩
    go_wp2_with fail
    go_ret
    exact ⟨rfl, h1⟩
  by_cases h2 : (300 : Int) < text.size
  · go_enter Tryd.func8, Tryd.ntmps8
    go_wp2_with fail
    refine (awake_any _ hG).mono ?_
    rintro e w1 ⟨rfl, h1⟩
    go_wp2_with fail
    go_ret
    exact ⟨rfl, h1⟩
  obtain ⟨C, hC⟩ : ∃ C, C = str (code key.data.toList text.data.toList) := ⟨_, rfl⟩
  have hcode := fun W (hb : Below w.heap.size w W) => mcode1 key text (by omega) (by omega) W W (hG.below hb) (Below.refl _ _)
  rw [← hC] at hcode
  by_cases h3 : (64 : Int) < key.size
  · obtain ⟨D, hD⟩ : ∃ D, D = str (sha key.data.toList) := ⟨_, rfl⟩
    have hDs : D.size = 32 := by rw [hD, str_size, sha_length]
    have hdig := fun W (_ : Below w.heap.size w W) => rsumref_any key (by omega) W
    have hcode2 := fun W (hb : Below w.heap.size w W) => mcode1 D text (by omega) (by omega) W W (hG.below hb) (Below.refl _ _)
    rw [show str (code D.data.toList text.data.toList) = C from by rw [hC, hD, str_data, code_blk (blk_sha (by simp; omega))]] at hcode2
    rw [← hD] at hdig
    have H := Lib.hid (And.intro hcode (And.intro hcode2 hdig))
    clear hcode hcode2 hdig hC hD hDs
    go_enter Tryd.func8, Tryd.ntmps8
    go_wp2_with fail
    refine (awake_any _ hG).mono ?_
    rintro e w1 ⟨rfl, k1⟩
    have K1 := Lib.hid k1
    clear k1
    go_wp2_with fail
    refine (H.out.1 _ K1.out).mono ?_
    rintro e w2 ⟨rfl, k2⟩
    have K2 := Lib.hid (below_call K1.out k2)
    clear k2
    go_wp2_with fail
    refine (H.out.2.2 _ K2.out).mono ?_
    rintro e w3 ⟨rfl, k3⟩
    have K3 := Lib.hid (below_call K2.out k3)
    clear k3
    go_wp2_with fail
    refine (H.out.2.1 _ K3.out).mono ?_
    rintro e w4 ⟨rfl, k4⟩
    have K4 := Lib.hid (below_call K3.out k4)
    clear k4
    go_wp2_with fail
    go_ret
    exact ⟨rfl, K4.out⟩
  · obtain ⟨t, ht⟩ : ∃ t, n.tmod 65 = t := ⟨_, rfl⟩
    have ht1 : -65 < t ∧ t < 65 := by
      subst ht
      rw [Int.tmod_eq_emod]
      split <;> omega
    obtain ⟨ht1, ht2⟩ := ht1
    obtain ⟨Z, hZ⟩ : ∃ Z : Nat, (t + 65) % 65 = Z := ⟨((t + 65) % 65).toNat, by omega⟩
    have hZl : (Z : Int) ≤ 64 := by omega
    have hkz : (key.size : Int) ≤ 64 := by omega
    obtain ⟨m, hm⟩ : ∃ m : Nat, min (Z : Int) (64 - (key.size : Int)) = m := ⟨(min (Z : Int) (64 - (key.size : Int))).toNat, by omega⟩
    have hml : (m : Int) ≤ 64 - key.size := by omega
    obtain ⟨w0, hmk, hown, hb0⟩ := make_bytes w m (by omega)
    have hcv := hown.conv
    rw [List.length_replicate] at hcv
    obtain ⟨O, hO⟩ : ∃ O, O = str (List.replicate m 0) := ⟨_, rfl⟩
    rw [← hO] at hcv
    have hOs : O.size = m := by rw [hO, str_size, List.length_replicate]
    have hOz : (O.size : Int) ≤ 64 := by omega
    have hcode2 := fun W (hb : Below w.heap.size w W) => mcode1 (key ++ O) text (by rw [ByteArray.size_append]; omega) (by omega) W W (hG.below hb) (Below.refl _ _)
    have hchk := fun W (hb : Below w.heap.size w W) => check_any (key ++ O) text C (by rw [ByteArray.size_append]; omega) (by omega) W (hG.below hb)
    have hcc : code (key ++ O).data.toList text.data.toList = code key.data.toList text.data.toList := by
      rw [data_append, hO, str_data]; exact code_blk (blk_zeros (by simp; omega)) _
    rw [hcc, ← hC] at hcode2 hchk
    rw [show (C.toList == C.toList) = true from by simp] at hchk
    have H := Lib.hid (And.intro hcode (And.intro hcode2 (And.intro hchk hb0)))
    clear hcode hcode2 hchk hb0 hcc hC hO hOs hown
    go_enter Tryd.func8, Tryd.ntmps8
    go_wp2_with fail
    refine (awake_any _ (hG.below H.out.2.2.2)).mono ?_
    rintro e w1 ⟨rfl, k1⟩
    have K1 := Lib.hid (below_call H.out.2.2.2 k1)
    clear k1 hmk hcv
    go_wp2_with fail
    refine (H.out.1 _ K1.out).mono ?_
    rintro e w2 ⟨rfl, k2⟩
    have K2 := Lib.hid (below_call K1.out k2)
    clear k2
    go_wp2_with fail
    refine (H.out.2.1 _ K2.out).mono ?_
    rintro e w3 ⟨rfl, k3⟩
    have K3 := Lib.hid (below_call K2.out k3)
    clear k3
    go_wp2_with fail
    refine (H.out.1 _ K3.out).mono ?_
    rintro e w4 ⟨rfl, k4⟩
    have K4 := Lib.hid (below_call K3.out k4)
    clear k4
    go_wp2_with fail
    refine (H.out.2.2.1 _ K4.out).mono ?_
    rintro e w5 ⟨rfl, k5⟩
    have K5 := Lib.hid (below_call K4.out k5)
    clear k5
    go_wp2_with fail
    go_ret
    exact ⟨rfl, K5.out⟩
end Go.Proofs.YtnpdmkgefaobeaaDoor

namespace Go.Proofs.YtnpdmkgefaobeaaDoor.macPadsLaw
open Go.ChangeShapes Go.WideShapes Go.ChangeAt Go.RowKit
open Go.ChangeMaps (open_string shut_string)

theorem contract (H : Type) (enc : TypeId × Value → H) (W : World) (base : Nat) (args : Array Value) (ds gs : List (DataW H)) (before : List MemPlace)
    (hval : ∀ (j : Nat) t v, Tryd.f8.params[j]? = some t → args[j]? = some v → Value.okWide Tryd.prog W .any base t v)
    (hW : DataW.Whole enc Tryd.prog Tryd.f8.params.toList Rows.macPadsSpec.vars false W args.toList ds gs before) (hL : laidMetH Tryd.prog Rows.macPadsRow.laid W) :
    Calls Tryd.prog 8 args W fun e W' => ∃ v, e = .returned v ∧ Rows.macPadsSpec.post enc Tryd.prog Tryd.f8 false true false false W args v W' := by
  have hW' := hW
  obtain ⟨p, q, hA0, hV, rfl, hfz, hnd⟩ := hW
  have hA : DataW.TrodAll enc Tryd.prog W 0 (fun _ => true) true Tryd.f8.params.toList args.toList ds p := hA0
  rw [Tryd.params8] at hA hval
  obtain ⟨v0, vs0, d0, ds0, p0, q0, hargs, rfl, rfl, h0, r0⟩ := trodAll_cons hA
  obtain ⟨v1, vs1, d1, ds1, p1, q1, rfl, rfl, rfl, h1, r1⟩ := trodAll_cons r0
  obtain ⟨v2, vs2, d2, ds2, p2, q2, rfl, rfl, rfl, h2, r2⟩ := trodAll_cons r1
  obtain ⟨rfl, rfl, rfl⟩ := trodAll_nil r2
  obtain rfl : args = #[v0, v1, v2] := by cases args; simp_all
  obtain ⟨rfl, rfl⟩ := trodVars_none hV
  obtain ⟨s0, rfl, rfl, rfl, ws0⟩ := open_string Tryd.underlying9 (hval 0 9 v0 rfl rfl) h0
  obtain ⟨s1, rfl, rfl, rfl, ws1⟩ := open_string Tryd.underlying9 (hval 1 9 v1 rfl rfl) h1
  obtain ⟨n2, rfl, rfl, rfl, ws2⟩ := open_int Tryd.underlying3 (hval 2 3 v2 rfl rfl) h2
  have hbd2 := ws2
  simp only [Lit.wf, Bool.and_eq_true, decide_eq_true_eq] at hbd2
  clear hA0
  simp only [List.append_nil] at hW'
  refine (pads_law s0 (by simpa using ws0) s1 (by simpa using ws1) n2 hbd2.1 hbd2.2 (w := W) (hG := glob_of_laid hL)).mono fun e W' ⟨he, hb⟩ => ?_
  subst he
  exact ⟨_, rfl, _, _, _, [], [], [], hW', trodAll_cons_mk (shut_bool Tryd.underlying4 _) trodAll_mk0, (trodAll_cons_mk (shut_string Tryd.underlying9 ws0) (trodAll_cons_mk (shut_string Tryd.underlying9 ws1) (trodAll_cons_mk (shut_int Tryd.underlying3 ws2) trodAll_mk0))), rfl, hb.frame _, fun h => by cases h⟩
theorem laid_met (os : Os) : laidMet Tryd.prog Rows.macPadsRow.laid ((laidWorld os).forCall (fun _ _ => 0) ⟨#[], #[.string ⟨#[]⟩, .string ⟨#[]⟩, .int .i64 0], []⟩).memory :=
  laidMet_of_run' 8 (by kernel_rfl) (by kernel_rfl)
theorem reads (os : Os) {H : Type} (enc : TypeId × Value → H) : ∃ places, DataW.whole enc Tryd.prog ((laidWorld os).forCall (fun _ _ => 0) ⟨#[], #[.string ⟨#[]⟩, .string ⟨#[]⟩, .int .i64 0], []⟩).memory Tryd.f8.params.toList Rows.macPadsSpec.vars false #[Value.string ⟨#[]⟩, .string ⟨#[]⟩, .int .i64 0].toList 8 = some ([.lit (.string []), .lit (.string []), .lit (.int .i64 0)], [], places) :=
  ⟨[], by kernel_rfl⟩
set_option maxRecDepth 100000 in
theorem lifted (os : Os) (started : os.Started) (H : Type) (enc : TypeId × Value → H) (F : Stop.Interp) :
    ReturnsInHanded {} Tryd.checked os 8 .any ((OpenSpec.ofChange Rows.macPadsSpec).preRow enc Tryd.prog Tryd.f8 Rows.macPadsRow.domain false Rows.macPadsRow.laid) (((OpenSpec.ofChange Rows.macPadsSpec).at F).post enc Tryd.prog Tryd.f8 false true false false) := by
  obtain ⟨places, hx⟩ := reads os enc
  refine returnsInHanded_of_row (C := Tryd.checked) (s := OpenSpec.ofChange Rows.macPadsSpec) own started (by kernel_rfl) Tryd.func8
    (witness_row_at (enc := enc) (C := Tryd.checked) false (laidWorld os) #[.string ⟨#[]⟩, .string ⟨#[]⟩, .int .i64 0] rfl (by kernel_rfl) (by kernel_rfl) (by kernel_rfl)
      (OpenSpec.preRow_of_cond 8 hx (by kernel_rfl) (fun k hk => by cases hk) (by kernel_rfl) (laid_met os))) ?_
  intro W base args ds gs before hval hW _ _ _ hL _ _
  exact contract H enc W base args ds gs before hval hW hL
theorem said : Rows.MacPadsSaid :=
  OpenClaim.holds_of_cond 8 Tryd.f8 rfl rfl rfl rfl rfl rfl rfl ⟨rfl, rfl, rfl, rfl, rfl⟩ rfl rfl rfl rfl rfl (by kernel_rfl) Tryd.func8 (by kernel_rfl)
    (of_decide_eq_true (by kernel_rfl)) (by unfold Func.isWrapper; first | (rw [if_pos (by decide +kernel)]; kernel_rfl) | (rw [if_neg (by decide +kernel)]; exact ⟨rfl, rfl⟩))
    (fun os started H enc _ F => by rw [OpenClaim.pre_eq_preRow]; exact lifted os started H enc F)
theorem plain (f : FuncId) (fn : Func) (hf : Tryd.pinned.checked.prog.funcNamed "lockbox/lockboxlaw04.MacPads" = some f) (hfn : Tryd.pinned.checked.prog.funcs[f]? = some fn) :
    false = Tryd.pinned.checked.prog.looks [] ∧ ∀ (j : Nat) t, fn.params[j]? = some t → Tryd.pinned.checked.prog.wantsStandIn t = false := by
  obtain rfl : f = 8 := Option.some.inj ((show Tryd.prog.funcNamed "lockbox/lockboxlaw04.MacPads" = some 8 by kernel_rfl).symm.trans hf) |>.symm
  obtain rfl : fn = Tryd.f8 := (Option.some.inj (Tryd.func8.symm.trans hfn)).symm
  refine ⟨by kernel_rfl, fun j t ht => ?_⟩
  rw [Tryd.params8] at ht
  have hm : t ∈ [9, 9, 3] := by simpa using Array.mem_of_getElem? ht
  have hall : ([9, 9, 3].all fun u => !Tryd.prog.wantsStandIn u) = true := by kernel_rfl
  exact (show Tryd.prog.wantsStandIn t = false by simpa using List.all_eq_true.1 hall t hm)
end Go.Proofs.YtnpdmkgefaobeaaDoor.macPadsLaw

namespace Go.Proofs.YtnpdmkgefaobeaaDoor
/-- THE CARD. -/
theorem macPads_card : Rows.MacPadsCardSaid :=
  Claim7.holds_tied_plain_at .later [] _ _ _ _ macPadsLaw.said (fun _ h => by cases h) (by kernel_rfl) (fun _ h => by cases h) macPads_row_tie rfl ⟨rfl, rfl⟩ (by kernel_rfl) rfl macPadsLaw.plain (by kernel_rfl)
end Go.Proofs.YtnpdmkgefaobeaaDoor
