/- PROVED HERE: for every key and nonce and every number the law ChachaEnds returns true (of so many counters that are left just so many blocks can be had, and not a byte more), and all read afterwards as they did. Its condition: the package-level table of the quarter turns holds what its initialiser lays (tied to the program's text by the card). -/
import Derived.Test.YtgighdiidblihaaDoorQLaw
import Derived.Test.YtgighdiidblihaaDoorQTwice
namespace Go.Proofs.YtgighdiidblihaaDoor
open Go.RowKit

set_option maxRecDepth 100000 in
set_option maxHeartbeats 1000000 in
theorem ends_law (a : ByteArray) (_ : a.size ≤ maxLen) (b : ByteArray) (_ : b.size ≤ maxLen) (n : Int) (_ : -9223372036854775808 ≤ n) (_ : n ≤ 9223372036854775807) (w : World) (hG : Glob w) :
    Calls Tryd.prog 7 #[.string a, .string b, .int .i64 n] w fun e w' => e = .returned (.bool true) ∧ Below w.heap.size w w' := by
  by_cases hk : (a.size : Int) = 32
  · by_cases hn : (b.size : Int) = 12
    · have hkn : a.size = 32 ∧ b.size = 12 := by omega
      obtain ⟨t, ht⟩ : ∃ t, n.tmod 8 = t := ⟨_, rfl⟩
      have ht1 : -8 < t ∧ t < 8 := by
        subst ht
        rw [Int.tmod_eq_emod]
        split <;> omega
      obtain ⟨ht1, ht2⟩ := ht1
      obtain ⟨Z, hZ⟩ : ∃ Z : Nat, (t + 8) % 8 = Z := ⟨((t + 8) % 8).toNat, by omega⟩
      have hZ8 : (Z : Int) < 8 := by omega
      obtain ⟨L, hL⟩ : ∃ L, L = Z + 1 := ⟨_, rfl⟩
      have hL1 : (1 : Int) + (Z : Int) = (L : Int) := by omega
      have hLa : (1 : Int) ≤ L := by omega
      have hLb : (L : Int) ≤ 8 := by omega
      obtain ⟨C, hC⟩ : ∃ C, C = 4294967296 - L := ⟨_, rfl⟩
      have hCi : (4294967296 : Int) - (L : Int) = (C : Int) := by omega
      have e1 : chkE a.size b.size C ((64 : Int) * L) = 0 := chk_ok_of hkn (by omega) (by omega)
      have e2 : chkE a.size b.size C ((64 : Int) * L + 1) = 2 := chk_long_of hkn (by omega) (by omega)
      have e3 : askE a.size b.size 4294967295 = 0 := askE_ok hkn (by omega)
      have e4 : askE a.size b.size 4294967296 = 1 := askE_arg hkn (.inr (by omega))
      have c1 := fun W (h : Below w.heap.size w W) => stream_any a b C ((64 : Int) * L) W (hG.below h)
      have c2 := fun W (h : Below w.heap.size w W) => stream_any a b C ((64 : Int) * L + 1) W (hG.below h)
      have c3 := fun W (h : Below w.heap.size w W) => block_any a b 4294967295 W (hG.below h)
      have c4 := fun W (h : Below w.heap.size w W) => block_any a b 4294967296 W (hG.below h)
      rw [e1] at c1
      rw [e2] at c2
      rw [e3] at c3
      rw [e4] at c4
      have hS : strmS a b C ((64 : Int) * L) = str (strm (textF a b) C (64 * L)) := by
        rw [strmS_good e1, Int.toNat_natCast, show ((64 : Int) * L).toNat = 64 * L by omega]
      have hB : blkS a b 4294967295 = str (blockB (field (textF a b) (BitVec.ofNat 32 4294967295))) := by
        unfold blkS; rw [if_neg (fun x => x e3)]; rfl
      have hlast := strm_last (textF a b) L (by omega) (by omega)
      rw [← hC, ← hS, ← hB] at hlast
      have hSs : (strmS a b C ((64 : Int) * L)).size = 64 * L := by rw [hS, str_size, strm_length]
      generalize strmS a b C ((64 : Int) * L) = S at *
      generalize strmS a b C ((64 : Int) * L + 1) = S2 at *
      generalize blkS a b 4294967295 = Q at *
      generalize blkS a b 4294967296 = Q2 at *
      have hSi : (S.size : Int) = 64 * (L : Int) := by omega
      have hlast2 : S.extract (64 * L - 64) S.size = Q := by rw [hSs]; exact hlast
      obtain ⟨M, hM⟩ : ∃ M : Nat, M = 64 * L - 64 := ⟨_, rfl⟩
      have hMi : (64 : Int) * (L : Int) - 64 = (M : Int) := by omega
      have hMS : (M : Int) ≤ S.size := by omega
      rw [← hM] at hlast2
      have hq := beq_same Q
      have H := Lib.hid (And.intro c1 (And.intro c2 (And.intro c3 (And.intro c4 hlast2))))
      clear c1 c2 c3 c4 hlast hlast2 hS hB hSs e1 e2 e3 e4 hkn hC hL hG hM
      go_enter Tryd.func7, Tryd.ntmps7
      go_wp2_with fail
      refine (H.out.1 _ (Below.refl _ _)).mono ?_
      rintro e w1 ⟨rfl, k1⟩
      have K1 := Lib.hid k1
      clear k1
      go_wp2_with fail
      refine (H.out.2.1 _ K1.out).mono ?_
      rintro e w2 ⟨rfl, k2⟩
      have K2 := Lib.hid (below_call' K1.out k2)
      clear k2
      go_wp2_with fail
      refine (H.out.2.2.1 _ K2.out).mono ?_
      rintro e w3 ⟨rfl, k3⟩
      have K3 := Lib.hid (below_call' K2.out k3)
      clear k3
      go_wp2_with fail
      refine (H.out.2.2.2.1 _ K3.out).mono ?_
      rintro e w4 ⟨rfl, k4⟩
      have K4 := Lib.hid (below_call' K3.out k4)
      clear k4
      go_wp2_with fail
      refine (awake_any _).mono ?_
      rintro e w5 ⟨rfl, k5⟩
      have K5 := Lib.hid (below_call' K4.out k5)
      clear k5
      go_wp2_with fail
      go_ret
      refine ⟨?_, K5.out⟩
      show Ending.returned (.bool ((S.extract M S.size).toList == Q.toList)) = _
      rw [H.out.2.2.2.2, hq]
    · have hb2 := bne_nat hn
      clear hG
      go_enter Tryd.func7, Tryd.ntmps7
      go_wp2_with fail
      refine (awake_any _).mono ?_
      rintro e w1 ⟨rfl, k1⟩
      have K1 := Lib.hid k1
      clear k1
      go_wp2_with fail
      go_ret
      exact ⟨rfl, K1.out⟩
  · have hb2 := bne_nat hk
    clear hG
    go_enter Tryd.func7, Tryd.ntmps7
    go_wp2_with fail
    refine (awake_any _).mono ?_
    rintro e w1 ⟨rfl, k1⟩
    have K1 := Lib.hid k1
    clear k1
    go_wp2_with fail
    go_ret
    exact ⟨rfl, K1.out⟩
end Go.Proofs.YtgighdiidblihaaDoor

namespace Go.Proofs.YtgighdiidblihaaDoor.chachaEndsLaw
open Go.ChangeShapes Go.WideShapes Go.ChangeAt Go.RowKit
open Go.ChangeMaps (open_string shut_string)

theorem contract (H : Type) (enc : TypeId × Value → H) (W : World) (base : Nat) (args : Array Value) (ds gs : List (DataW H)) (before : List MemPlace)
    (hval : ∀ (j : Nat) t v, Tryd.f7.params[j]? = some t → args[j]? = some v → Value.okWide Tryd.prog W .any base t v)
    (hW : DataW.Whole enc Tryd.prog Tryd.f7.params.toList Rows.chachaEndsSpec.vars false W args.toList ds gs before) (hL : laidMetH Tryd.prog Rows.chachaEndsRow.laid W) :
    Calls Tryd.prog 7 args W fun e W' => ∃ v, e = .returned v ∧ Rows.chachaEndsSpec.post enc Tryd.prog Tryd.f7 false true false false W args v W' := by
  have hW' := hW
  obtain ⟨p, q, hA0, hV, rfl, hfz, hnd⟩ := hW
  have hA : DataW.TrodAll enc Tryd.prog W 0 (fun _ => true) true Tryd.f7.params.toList args.toList ds p := hA0
  rw [Tryd.params7] at hA hval
  obtain ⟨v0, vs0, d0, ds0, p0, q0, hargs, rfl, rfl, h0, r0⟩ := trodAll_cons hA
  obtain ⟨v1, vs1, d1, ds1, p1, q1, rfl, rfl, rfl, h1, r1⟩ := trodAll_cons r0
  obtain ⟨v2, vs2, d2, ds2, p2, q2, rfl, rfl, rfl, h2, r2⟩ := trodAll_cons r1
  obtain ⟨rfl, rfl, rfl⟩ := trodAll_nil r2
  obtain rfl : args = #[v0, v1, v2] := by cases args; simp_all
  obtain ⟨rfl, rfl⟩ := trodVars_none hV
  obtain ⟨s0, rfl, rfl, rfl, ws0⟩ := open_string Tryd.underlying9 (hval 0 9 v0 rfl rfl) h0
  obtain ⟨s1, rfl, rfl, rfl, ws1⟩ := open_string Tryd.underlying9 (hval 1 9 v1 rfl rfl) h1
  obtain ⟨n2, rfl, rfl, rfl, ws2⟩ := open_int Tryd.underlying3 (hval 2 3 v2 rfl rfl) h2
  have hbd2 := ws2
  simp only [Lit.wf, Bool.and_eq_true, decide_eq_true_eq] at hbd2
  clear hA0
  simp only [List.append_nil] at hW'
  refine (ends_law s0 (by simpa using ws0) s1 (by simpa using ws1) n2 hbd2.1 hbd2.2 (w := W) (hG := glob_of_laid hL)).mono fun e W' ⟨he, hb⟩ => ?_
  subst he
  exact ⟨_, rfl, _, _, _, [], [], [], hW', trodAll_cons_mk (shut_bool Tryd.underlying4 _) trodAll_mk0, (trodAll_cons_mk (shut_string Tryd.underlying9 ws0) (trodAll_cons_mk (shut_string Tryd.underlying9 ws1) (trodAll_cons_mk (shut_int Tryd.underlying3 ws2) trodAll_mk0))), rfl, hb.frame _, fun h => by cases h⟩
theorem laid_met (os : Os) : laidMet Tryd.prog Rows.chachaEndsRow.laid ((laidWorld os).forCall (fun _ _ => 0) ⟨#[], #[.string ⟨#[]⟩, .string ⟨#[]⟩, .int .i64 0], []⟩).memory :=
  laidMet_of_run' 8 (by kernel_rfl) (by kernel_rfl)
theorem reads (os : Os) {H : Type} (enc : TypeId × Value → H) : ∃ places, DataW.whole enc Tryd.prog ((laidWorld os).forCall (fun _ _ => 0) ⟨#[], #[.string ⟨#[]⟩, .string ⟨#[]⟩, .int .i64 0], []⟩).memory Tryd.f7.params.toList Rows.chachaEndsSpec.vars false #[Value.string ⟨#[]⟩, .string ⟨#[]⟩, .int .i64 0].toList 8 = some ([.lit (.string []), .lit (.string []), .lit (.int .i64 0)], [], places) :=
  ⟨[], by kernel_rfl⟩
set_option maxRecDepth 100000 in
theorem lifted (os : Os) (started : os.Started) (H : Type) (enc : TypeId × Value → H) (F : Stop.Interp) :
    ReturnsInHanded {} Tryd.checked os 7 .any ((OpenSpec.ofChange Rows.chachaEndsSpec).preRow enc Tryd.prog Tryd.f7 Rows.chachaEndsRow.domain false Rows.chachaEndsRow.laid) (((OpenSpec.ofChange Rows.chachaEndsSpec).at F).post enc Tryd.prog Tryd.f7 false true false false) := by
  obtain ⟨places, hx⟩ := reads os enc
  refine returnsInHanded_of_row (C := Tryd.checked) (s := OpenSpec.ofChange Rows.chachaEndsSpec) own started (by kernel_rfl) Tryd.func7
    (witness_row_at (enc := enc) (C := Tryd.checked) false (laidWorld os) #[.string ⟨#[]⟩, .string ⟨#[]⟩, .int .i64 0] rfl (by kernel_rfl) (by kernel_rfl) (by kernel_rfl)
      (OpenSpec.preRow_of_cond 8 hx (by kernel_rfl) (fun k hk => by cases hk) (by kernel_rfl) (laid_met os))) ?_
  intro W base args ds gs before hval hW _ _ _ hL _ _
  exact contract H enc W base args ds gs before hval hW hL
theorem said : Rows.ChachaEndsSaid :=
  OpenClaim.holds_of_cond 7 Tryd.f7 rfl rfl rfl rfl rfl rfl rfl ⟨rfl, rfl, rfl, rfl, rfl⟩ rfl rfl rfl rfl rfl (by kernel_rfl) Tryd.func7 (by kernel_rfl)
    (of_decide_eq_true (by kernel_rfl)) (by unfold Func.isWrapper; first | (rw [if_pos (by decide +kernel)]; kernel_rfl) | (rw [if_neg (by decide +kernel)]; exact ⟨rfl, rfl⟩))
    (fun os started H enc _ F => by rw [OpenClaim.pre_eq_preRow]; exact lifted os started H enc F)
theorem plain (f : FuncId) (fn : Func) (hf : Tryd.pinned.checked.prog.funcNamed "lockbox/lockboxlaw05.ChachaEnds" = some f) (hfn : Tryd.pinned.checked.prog.funcs[f]? = some fn) :
    false = Tryd.pinned.checked.prog.looks [] ∧ ∀ (j : Nat) t, fn.params[j]? = some t → Tryd.pinned.checked.prog.wantsStandIn t = false := by
  obtain rfl : f = 7 := Option.some.inj ((show Tryd.prog.funcNamed "lockbox/lockboxlaw05.ChachaEnds" = some 7 by kernel_rfl).symm.trans hf) |>.symm
  obtain rfl : fn = Tryd.f7 := (Option.some.inj (Tryd.func7.symm.trans hfn)).symm
  refine ⟨by kernel_rfl, fun j t ht => ?_⟩
  rw [Tryd.params7] at ht
  have hm : t ∈ [9, 9, 3] := by simpa using Array.mem_of_getElem? ht
  have hall : ([9, 9, 3].all fun u => !Tryd.prog.wantsStandIn u) = true := by kernel_rfl
  exact (show Tryd.prog.wantsStandIn t = false by simpa using List.all_eq_true.1 hall t hm)
end Go.Proofs.YtgighdiidblihaaDoor.chachaEndsLaw

namespace Go.Proofs.YtgighdiidblihaaDoor
/-- THE CARD. -/
theorem chachaEnds_card : Rows.ChachaEndsCardSaid :=
  Claim7.holds_tied_plain_at .later [] _ _ _ _ chachaEndsLaw.said (fun _ h => by cases h) (by kernel_rfl) (fun _ h => by cases h) chachaEnds_row_tie rfl ⟨rfl, rfl⟩ (by kernel_rfl) rfl chachaEndsLaw.plain (by kernel_rfl)
end Go.Proofs.YtgighdiidblihaaDoor
