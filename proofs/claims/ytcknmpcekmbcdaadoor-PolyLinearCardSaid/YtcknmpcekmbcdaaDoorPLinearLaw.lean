/- PROVED HERE: for every two texts and every byte the law PolyLinear returns true (weights add up to 1, and tell the value of any polynomial with no more bytes than there are places). No condition. -/
import Derived.Test.YtcknmpcekmbcdaaDoorPLin
import Derived.Test.YtcknmpcekmbcdaaDoorPLaid
import Derived.Test.YtcknmpcekmbcdaaDoorU8
namespace Go.Proofs.YtcknmpcekmbcdaaDoor
open Go.RowKit
open Gf

/-- The first k values. -/
def vS (p l : ByteArray) (k : Nat) : List UInt8 := (List.range k).map fun i => valB p (co l.data.toList i)
theorem vS_length (p l : ByteArray) (k : Nat) : (vS p l k).length = k := by unfold vS; rw [List.length_map, List.length_range]
theorem vS_snoc (p l : ByteArray) (k : Nat) : vS p l (k + 1) = vS p l k ++ [valB p (co l.data.toList k)] := by
  unfold vS; rw [List.range_succ, List.map_append]; rfl
theorem co_vS (p l : ByteArray) (k i : Nat) (h : i < k) : co (vS p l k) i = valB p (co l.data.toList i) := by
  unfold co vS
  rw [List.getD_eq_getElem?_getD, List.getElem?_map, List.getElem?_range h]; rfl
theorem pts_of {l V : ByteArray} (h1 : l.size = V.size) (h2 : l.size ≤ 255) (h3 : ulk l = true) : pts l V = true := by
  unfold pts; rw [decide_eq_true h1, decide_eq_true h2, h3]; rfl
theorem wgt_sum {l : ByteArray} (x : UInt8) (h : ulk l = true) (h0 : 0 < l.size) : sumX (co (wgtB l x).data.toList) l.size = 1 := by
  rw [show (wgtB l x).data.toList = wgts l.data.toList x by unfold wgtB; rw [if_pos h, str_data], sumX_congr (g := wgt l.data.toList x) l.size (fun i hi => co_wgts _ _ _ (by rw [data_len]; exact hi)), ← data_len]
  exact wgts_one (ulk_nodup h) (by rw [data_len]; exact h0) x
set_option maxRecDepth 100000 in
set_option maxHeartbeats 2000000 in
theorem linear_law {w : World} (p : ByteArray) (_ : p.size ≤ maxLen) (l : ByteArray) (_ : l.size ≤ maxLen) (x : UInt8) :
    Calls Tryd.prog 9 #[.string p, .string l, .int .u8 (x.toNat : Int)] w fun e w' => e = .returned (.bool true) ∧ Below w.heap.size w w' := by
  have hb0 : Below w.heap.size w (w.alloc (.cells #[.string p, .string l] 9)) := (Below.refl _ _).alloc (Nat.le_refl _) _
  have HB0 := Lib.hid hb0
  clear hb0
  have hf := few_any 40 p l w
  cases hfe : few2 40 p l with
  | false =>
    rw [hfe] at hf
    have HF := Lib.hid hf
    clear hf hfe
    go_enter Tryd.func9, Tryd.ntmps9
    go_wp2_with fail
    refine HF.out.mono ?_
    rintro e w1 ⟨rfl, rfl⟩
    go_wp2_with fail
    refine (awake_any _).mono ?_
    rintro e w2 ⟨rfl, hb⟩
    have HB := Lib.hid (gtrans HB0.out hb)
    clear hb
    go_wp2_with fail
    go_ret
    exact ⟨rfl, HB.out⟩
  | true =>
    obtain ⟨hp, hl⟩ := few2_le (m := 40) hfe
    rw [hfe] at hf
    have hu := runlike_any l (by unfold maxLen; omega)
    cases hul : ulk l with
    | false =>
      rw [hul] at hu
      have HF := Lib.hid (And.intro hf hu)
      clear hf hfe hu hul
      go_enter Tryd.func9, Tryd.ntmps9
      go_wp2_with fail
      refine HF.out.1.mono ?_
      rintro e w1 ⟨rfl, rfl⟩
      go_wp2_with fail
      refine (HF.out.2 _).mono ?_
      rintro e w1 ⟨rfl, hb⟩
      have HB1 := Lib.hid (gtrans HB0.out hb)
      clear hb
      go_wp2_with fail
      refine (awake_any _).mono ?_
      rintro e w2 ⟨rfl, hb⟩
      have HB := Lib.hid (gtrans HB1.out hb)
      clear hb
      go_wp2_with fail
      go_ret
      exact ⟨rfl, HB.out⟩
    | true =>
      rw [hul] at hu
      by_cases hsz : (l.size : Int) < (p.size : Int)
      · have HF := Lib.hid (And.intro hf hu)
        clear hf hfe hu hul
        go_enter Tryd.func9, Tryd.ntmps9
        go_wp2_with fail
        refine HF.out.1.mono ?_
        rintro e w1 ⟨rfl, rfl⟩
        go_wp2_with fail
        refine (HF.out.2 _).mono ?_
        rintro e w1 ⟨rfl, hb⟩
        have HB1 := Lib.hid (gtrans HB0.out hb)
        clear hb
        go_wp2_with fail
        refine (awake_any _).mono ?_
        rintro e w2 ⟨rfl, hb⟩
        have HB := Lib.hid (gtrans HB1.out hb)
        clear hb
        go_wp2_with fail
        go_ret
        exact ⟨rfl, HB.out⟩
      by_cases h0 : l.size = 0
      · have HF := Lib.hid (And.intro hf hu)
        have h0i : ((l.size : Int) == 0) = true := by rw [h0]; rfl
        clear hf hfe hu hul h0
        go_enter Tryd.func9, Tryd.ntmps9
        go_wp2_with fail
        refine HF.out.1.mono ?_
        rintro e w1 ⟨rfl, rfl⟩
        go_wp2_with fail
        refine (HF.out.2 _).mono ?_
        rintro e w1 ⟨rfl, hb⟩
        have HB1 := Lib.hid (gtrans HB0.out hb)
        clear hb
        go_wp2_with fail
        refine (awake_any _).mono ?_
        rintro e w2 ⟨rfl, hb⟩
        have HB := Lib.hid (gtrans HB1.out hb)
        clear hb
        go_wp2_with fail
        go_ret
        exact ⟨rfl, HB.out⟩
      · obtain ⟨V, hV⟩ : ∃ V, V = str (vS p l l.size) := ⟨_, rfl⟩
        have hVs : V.size = l.size := by rw [hV, str_size, vS_length]
        have hpt := pts_of (V := V) hVs.symm (by omega) hul
        have hw := weights_any l (by omega) x
        have hws := wgtB_size x hul
        rw [show werr l = 0 by unfold werr; rw [hul]; rfl] at hw
        have hd := rdot_any (wgtB l x) V (by rw [hws]; unfold maxLen; omega)
        rw [show derr (wgtB l x) V = 0 by unfold derr; rw [if_pos (by rw [hws, hVs])], show dot (wgtB l x) V = valB p x by
          have h := at_val (p := p) hpt (by omega) (fun i hi => by rw [hV, str_data, co_vS _ _ _ _ hi]) x
          rw [← h]; unfold atB; rw [if_pos hpt]] at hd
        have hsum := wgt_sum x hul (by omega)
        generalize wgtB l x = W at *
        have hpm : p.size ≤ maxLen := by unfold maxLen; omega
        have hwi : (W.size : Int) = (l.size : Int) := by omega
        have hrv := rvalue_any p hpm x
        have hszd : decide (l.size < p.size) = false := decide_eq_false (by omega)
        have h0i : ((l.size : Int) == 0) = false := by
          have : (l.size : Int) ≠ 0 := by omega
          exact beq_eq_false_iff_ne.2 this
        have h0n : (l.size == 0) = false := beq_eq_false_iff_ne.2 h0
        have HF := Lib.hid (And.intro hf (And.intro hu (And.intro hw (And.intro hd (And.intro hrv (And.intro hV (And.intro hpm (And.intro hsum hws))))))))
        clear hf hfe hu hul hw hd hV hVs hpt hpm hrv hsum hws h0
        go_enter Tryd.func9, Tryd.ntmps9
        go_wp2_with fail
        refine HF.out.1.mono ?_
        rintro e w1 ⟨rfl, rfl⟩
        go_wp2_with fail
        refine (HF.out.2.1 _).mono ?_
        rintro e w1 ⟨rfl, hb⟩
        have HB1 := Lib.hid (gtrans HB0.out hb)
        clear hb
        go_wp2_with fail
        refine (HF.out.2.2.1 _).mono ?_
        rintro e w2 ⟨rfl, hb⟩
        have HB2 := Lib.hid (gtrans HB1.out hb)
        clear hb
        go_wp2_with fail
        go_loopw [9, 11] (fun v i wr => ∃ (k : Nat) (ad : Option Addr) (cap : Nat), k ≤ l.size ∧ i = .int .i64 (k : Int) ∧ v = .slice ad k cap ∧ OwnB w.heap.size wr ad cap (vS p l k) ∧ Below w.heap.size w wr) (fun _ i _ => l.size - (intOf i).toNat)
        case atStart => exact ⟨0, none, 0, by omega, rfl, rfl, OwnB.nil _ _, HB2.out⟩
        case round =>
          obtain ⟨k, ad, cap, hk, rfl, rfl, ho, hb⟩ := hrel
          by_cases hlt : k < l.size
          · obtain ⟨z, hz⟩ : ∃ z, z = valB p l[k] := ⟨_, rfl⟩
            have hms : vS p l (k + 1) = vS p l k ++ [z] := by rw [vS_snoc, co_at l k hlt, hz]
            have hv := rvalue_any p HF.out.2.2.2.2.2.2.1 l[k]
            rw [← hz] at hv
            have hsz2 := hb.size
            have H := Lib.hid (And.intro ho (And.intro hb (And.intro hms (And.intro hv (vS_length p l k)))))
            clear ho hb hms hv hz
            go_wp2_with fail
            refine (H.out.2.2.2.1 _).mono ?_
            rintro e w3 ⟨rfl, rfl⟩
            go_wp2_with (at_builtin; (refine wpList_append_byte' (w0 := w) rfl (.tmp 50) (.tmp 56) rfl (H.out.1.alloc _) k H.out.2.2.2.2 rfl _ 1 z rfl (cell_new _ _ _) (by omega) (by simp; omega) (H.out.2.1.alloc hsz2 _) ?_; intro g1 cap1 w3 hown1 hb1; have H3 := Lib.hid (And.intro hown1 hb1); clear hown1 hb1))
            go_roundw
            case rel => exact ⟨k + 1, _, cap1, by omega, by go_num, rfl, by rw [H.out.2.2.1]; exact H3.out.1, H3.out.2⟩
            case measure => simp [intOf]; omega
          · obtain rfl : k = l.size := by omega
            have hcv := ho.conv
            rw [vS_length, ← HF.out.2.2.2.2.2.1] at hcv
            have HB := Lib.hid hb
            clear ho hb
            go_wp2_with fail
            go_loop [10, 12] (fun s i => ∃ k : Nat, k ≤ l.size ∧ i = .int .i64 (k : Int) ∧ s = .int .u8 ((sumX (co W.data.toList) k).toNat : Int)) (fun _ i => l.size - (intOf i).toNat)
            case atStart => exact ⟨0, by omega, rfl, rfl⟩
            case round =>
              obtain ⟨k, hk, rfl, rfl⟩ := hrel
              by_cases hlt2 : k < l.size
              · have hkw : k < W.size := by omega
                have hsx : sumX (co W.data.toList) (k + 1) = sumX (co W.data.toList) k ^^^ W[k] := by rw [← co_at W k hkw]; rfl
                have e1 := u_xor (sumX (co W.data.toList) k) W[k]
                rw [← hsx] at e1
                generalize sumX (co W.data.toList) k = s1 at *
                have HS := Lib.hid hsx
                clear hsx
                go_wp2_with fail
                go_round
                case rel => exact ⟨k + 1, by omega, by go_num, rfl⟩
                case measure => simp [intOf]; omega
              · obtain rfl : k = l.size := by omega
                have hs1 : ((sumX (co W.data.toList) l.size).toNat : Int) = 1 := by rw [HF.out.2.2.2.2.2.2.2.1]; rfl
                generalize (sumX (co W.data.toList) l.size).toNat = s1 at *
                go_wp2_with fail
                refine (HF.out.2.2.2.1 _).mono ?_
                rintro e w4 ⟨rfl, hb⟩
                have HB4 := Lib.hid (gtrans HB.out hb)
                clear hb
                go_wp2_with fail
                refine (awake_any _).mono ?_
                rintro e w5 ⟨rfl, hb⟩
                have HB5 := Lib.hid (gtrans HB4.out hb)
                clear hb
                go_wp2_with fail
                refine (HF.out.2.2.2.2.1 _).mono ?_
                rintro e w6 ⟨rfl, rfl⟩
                go_wp2_with fail
                go_ret
                exact ⟨rfl, HB5.out⟩
end Go.Proofs.YtcknmpcekmbcdaaDoor

namespace Go.Proofs.YtcknmpcekmbcdaaDoor.polyLinearLaw
open Go.ChangeShapes Go.WideShapes Go.ChangeAt Go.RowKit
open Go.ChangeMaps (open_string shut_string)

theorem contract (H : Type) (enc : TypeId × Value → H) (W : World) (base : Nat) (args : Array Value) (ds gs : List (DataW H)) (before : List MemPlace)
    (hval : ∀ (j : Nat) t v, Tryd.f9.params[j]? = some t → args[j]? = some v → Value.okWide Tryd.prog W .any base t v)
    (hW : DataW.Whole enc Tryd.prog Tryd.f9.params.toList Rows.polyLinearSpec.vars false W args.toList ds gs before) (_ : laidMetH Tryd.prog Rows.polyLinearRow.laid W) :
    Calls Tryd.prog 9 args W fun e W' => ∃ v, e = .returned v ∧ Rows.polyLinearSpec.post enc Tryd.prog Tryd.f9 false true false false W args v W' := by
  have hW' := hW
  obtain ⟨p, q, hA0, hV, rfl, hfz, hnd⟩ := hW
  have hA : DataW.TrodAll enc Tryd.prog W 0 (fun _ => true) true Tryd.f9.params.toList args.toList ds p := hA0
  rw [Tryd.params9] at hA hval
  obtain ⟨v0, vs0, d0, ds0, p0, q0, hargs, rfl, rfl, h0, r0⟩ := trodAll_cons hA
  obtain ⟨v1, vs1, d1, ds1, p1, q1, rfl, rfl, rfl, h1, r1⟩ := trodAll_cons r0
  obtain ⟨v2, vs2, d2, ds2, p2, q2, rfl, rfl, rfl, h2, r2⟩ := trodAll_cons r1
  obtain ⟨rfl, rfl, rfl⟩ := trodAll_nil r2
  obtain rfl : args = #[v0, v1, v2] := by cases args; simp_all
  obtain ⟨rfl, rfl⟩ := trodVars_none hV
  obtain ⟨s0, rfl, rfl, rfl, ws0⟩ := open_string Tryd.underlying9 (hval 0 9 v0 rfl rfl) h0
  obtain ⟨s1, rfl, rfl, rfl, ws1⟩ := open_string Tryd.underlying9 (hval 1 9 v1 rfl rfl) h1
  obtain ⟨n2, rfl, rfl, rfl, ws2⟩ := open_int Tryd.underlying5 (hval 2 5 v2 rfl rfl) h2
  obtain ⟨x2, rfl⟩ := u8_of ws2
  clear hA0
  simp only [List.append_nil] at hW'
  refine (linear_law s0 (by simpa using ws0) s1 (by simpa using ws1) x2 (w := W)).mono fun e W' ⟨he, hb⟩ => ?_
  subst he
  exact ⟨_, rfl, _, _, _, [], [], [], hW', trodAll_cons_mk (shut_bool Tryd.underlying4 _) trodAll_mk0, (trodAll_cons_mk (shut_string Tryd.underlying9 ws0) (trodAll_cons_mk (shut_string Tryd.underlying9 ws1) (trodAll_cons_mk (shut_int Tryd.underlying5 ws2) trodAll_mk0))), rfl, hb.frame _, fun h => by cases h⟩
theorem laid_met (os : Os) : laidMet Tryd.prog Rows.polyLinearRow.laid ((laidWorld os).forCall (fun _ _ => 0) ⟨#[], #[.string ⟨#[]⟩, .string ⟨#[]⟩, .int .u8 0], []⟩).memory :=
  laidMet_of_run' 8 (by kernel_rfl) (by kernel_rfl)
theorem reads (os : Os) {H : Type} (enc : TypeId × Value → H) : ∃ places, DataW.whole enc Tryd.prog ((laidWorld os).forCall (fun _ _ => 0) ⟨#[], #[.string ⟨#[]⟩, .string ⟨#[]⟩, .int .u8 0], []⟩).memory Tryd.f9.params.toList Rows.polyLinearSpec.vars false #[Value.string ⟨#[]⟩, .string ⟨#[]⟩, .int .u8 0].toList 8 = some ([.lit (.string []), .lit (.string []), .lit (.int .u8 0)], [], places) :=
  ⟨[], by kernel_rfl⟩
set_option maxRecDepth 100000 in
theorem lifted (os : Os) (started : os.Started) (H : Type) (enc : TypeId × Value → H) (F : Stop.Interp) :
    ReturnsInHanded {} Tryd.checked os 9 .any ((OpenSpec.ofChange Rows.polyLinearSpec).preRow enc Tryd.prog Tryd.f9 Rows.polyLinearRow.domain false Rows.polyLinearRow.laid) (((OpenSpec.ofChange Rows.polyLinearSpec).at F).post enc Tryd.prog Tryd.f9 false true false false) := by
  obtain ⟨places, hx⟩ := reads os enc
  refine returnsInHanded_of_row (C := Tryd.checked) (s := OpenSpec.ofChange Rows.polyLinearSpec) own started (by kernel_rfl) Tryd.func9
    (witness_row_at (enc := enc) (C := Tryd.checked) false (laidWorld os) #[.string ⟨#[]⟩, .string ⟨#[]⟩, .int .u8 0] rfl (by kernel_rfl) (by kernel_rfl) (by kernel_rfl)
      (OpenSpec.preRow_of_cond 8 hx (by kernel_rfl) (fun k hk => by cases hk) (by kernel_rfl) (laid_met os))) ?_
  intro W base args ds gs before hval hW _ _ _ hL _ _
  exact contract H enc W base args ds gs before hval hW hL
theorem said : Rows.PolyLinearSaid :=
  OpenClaim.holds_of_cond 9 Tryd.f9 rfl rfl rfl rfl rfl rfl rfl ⟨rfl, rfl, rfl, rfl, rfl⟩ rfl rfl rfl rfl rfl (by kernel_rfl) Tryd.func9 (by kernel_rfl)
    (of_decide_eq_true (by kernel_rfl)) (by unfold Func.isWrapper; first | (rw [if_pos (by decide +kernel)]; kernel_rfl) | (rw [if_neg (by decide +kernel)]; exact ⟨rfl, rfl⟩))
    (fun os started H enc _ F => by rw [OpenClaim.pre_eq_preRow]; exact lifted os started H enc F)
theorem plain (f : FuncId) (fn : Func) (hf : Tryd.pinned.checked.prog.funcNamed "lockbox/lockboxlaw08.PolyLinear" = some f) (hfn : Tryd.pinned.checked.prog.funcs[f]? = some fn) :
    false = Tryd.pinned.checked.prog.looks [] ∧ ∀ (j : Nat) t, fn.params[j]? = some t → Tryd.pinned.checked.prog.wantsStandIn t = false := by
  obtain rfl : f = 9 := Option.some.inj ((show Tryd.prog.funcNamed "lockbox/lockboxlaw08.PolyLinear" = some 9 by kernel_rfl).symm.trans hf) |>.symm
  obtain rfl : fn = Tryd.f9 := (Option.some.inj (Tryd.func9.symm.trans hfn)).symm
  refine ⟨by kernel_rfl, fun j t ht => ?_⟩
  rw [Tryd.params9] at ht
  have hm : t ∈ [9, 9, 5] := by simpa using Array.mem_of_getElem? ht
  have hall : ([9, 9, 5].all fun u => !Tryd.prog.wantsStandIn u) = true := by kernel_rfl
  exact (show Tryd.prog.wantsStandIn t = false by simpa using List.all_eq_true.1 hall t hm)
end Go.Proofs.YtcknmpcekmbcdaaDoor.polyLinearLaw

namespace Go.Proofs.YtcknmpcekmbcdaaDoor
/-- THE CARD. -/
theorem polyLinear_card : Rows.PolyLinearCardSaid :=
  Claim7.holds_tied_plain_at .later [] _ _ _ _ polyLinearLaw.said (fun _ h => by cases h) (by kernel_rfl) (fun _ h => by cases h) polyLinear_row_tie rfl ⟨rfl, rfl⟩ (by kernel_rfl) rfl polyLinearLaw.plain (by kernel_rfl)
end Go.Proofs.YtcknmpcekmbcdaaDoor
