/- PROVED HERE: for every text and number the law DigestLong returns true (each digest has 32 bytes, and as many blocks are taken in as Blocks says), and both read afterwards as they did. Its conditions: the two package-level tables hold what their initialisers lay (tied to the program's text by the card). -/
import Derived.Test.YtlfefgfpachehaaDoorLaid
import Derived.Test.YtlfefgfpachehaaDoorAwake
import Derived.Test.YtlfefgfpachehaaDoorRefSum
namespace Go.Proofs.YtlfefgfpachehaaDoor
open Go.RowKit

set_option maxRecDepth 100000 in
set_option maxHeartbeats 800000 in
theorem long_law (s : ByteArray) (n : Int) (w : World) (hG : Glob w) :
    Calls Tryd.prog 8 #[.string s, .int .i64 n] w fun e w' => e = .returned (.bool true) ∧ Below w.heap.size w w' := by
  by_cases hbig : (200 : Int) < s.size
  · go_enter Tryd.func8, Tryd.ntmps8
    go_wp2_with fail
    refine (awake_any _ hG).mono ?_
    rintro e w1 ⟨rfl, hb1⟩
    go_wp2_with fail
    go_ret
    exact ⟨rfl, hb1⟩
  · have hs : s.size ≤ 200 := by omega
    have q1 : -19 ≤ n.tmod 20 := by have := Int.lt_tmod_of_pos n (show (0 : Int) < 20 by decide); omega
    have q2 : n.tmod 20 ≤ 19 := by have := Int.tmod_lt_of_pos n (show (0 : Int) < 20 by decide); omega
    obtain ⟨a, ha⟩ : ∃ a, a = n.tmod 20 := ⟨_, rfl⟩
    rw [← ha] at q1 q2
    have e0 : n.tmod 20 = a := ha.symm
    clear ha
    obtain ⟨M, hM⟩ : ∃ M : Nat, (M : Int) = (a + 20) % 20 := ⟨((a + 20) % 20).toNat, by omega⟩
    have hM20 : (M : Int) < 20 := by omega
    have e1 : (a + 20) % 20 = (M : Int) := hM.symm
    clear hM
    go_enter Tryd.func8, Tryd.ntmps8
    go_wp2_with fail
    go_loop [5, 6] (fun v c => ∃ (i : Nat) (A : ByteArray), i ≤ M ∧ c = .int .i64 i ∧ v = .string A ∧ A.size ≤ 200 * i) (fun _ c => M - (intOf c).toNat)
    case atStart => exact ⟨0, ⟨#[]⟩, by omega, rfl, rfl, by decide⟩
    case round =>
      obtain ⟨i, A, hi, rfl, rfl, hA⟩ := hrel
      by_cases hlt : i < M
      · have hsz : ¬ 9223372036854775807 < A.size + s.size := by omega
        go_wp2_with fail
        go_round
        case rel => exact ⟨i + 1, A ++ s, by omega, by go_num, rfl, by rw [ByteArray.size_append]; omega⟩
        case measure => simp [intOf]; omega
      · have hAs : A.size < 4200 := by omega
        obtain ⟨D, hD⟩ : ∃ D, D = str (sha A.data.toList) := ⟨_, rfl⟩
        have hDs : D.size = 32 := by rw [hD, str_size, sha_length]
        obtain ⟨E, hE⟩ : ∃ E, E = str (A.data.toList ++ padL A.size) := ⟨_, rfl⟩
        obtain ⟨bn, hbn⟩ : ∃ b, b = blocksN A.size := ⟨_, rfl⟩
        have hEs : E.size = 64 * bn := by
          have := padLen_bd A.size
          rw [hE, str_size, List.length_append, padL_length, hbn]
          have : A.data.toList.length = A.size := rfl
          omega
        have hbb : (bn : Int) ≤ 100 := by have := blocksN_bd A.size; omega
        have hEi : (E.size : Int) = 64 * (bn : Int) := by omega
        have HD := Lib.hid (And.intro hD (And.intro hE hbn))
        clear hD hE hbn hEs
        go_wp2_with fail
        refine (awake_any _ hG).mono ?_
        rintro e w1 ⟨rfl, hb1⟩
        go_wp2_with fail
        refine (dsum_any A (by omega) _ (hG.below hb1)).mono ?_
        rintro e w2 ⟨rfl, hb2⟩
        rw [← HD.out.1]
        go_wp2_with fail
        refine (padded_any A (by omega) _).mono ?_
        rintro e w3 ⟨rfl, hb3⟩
        rw [← HD.out.2.1]
        go_wp2_with fail
        refine (blocks_any _ (by omega) _).mono ?_
        rintro e w4 ⟨rfl, hw4⟩
        subst hw4
        rw [blocksI_nat, ← HD.out.2.2]
        go_wp2_with fail
        refine (dsum_any A (by omega) _ (((hG.below hb1).below hb2).below hb3)).mono ?_
        rintro e w5 ⟨rfl, hb5⟩
        rw [← HD.out.1]
        go_wp2_with fail
        refine (rsumref_any A (by omega) _).mono ?_
        rintro e w6 ⟨rfl, hb6⟩
        rw [← HD.out.1]
        go_wp2_with fail
        go_ret
        exact ⟨rfl, (((hb1.trans (hb2.mono hb1.size)).trans (hb3.mono (Nat.le_trans hb1.size hb2.size))).trans (hb5.mono (Nat.le_trans (Nat.le_trans hb1.size hb2.size) hb3.size))).trans (hb6.mono (Nat.le_trans (Nat.le_trans (Nat.le_trans hb1.size hb2.size) hb3.size) hb5.size))⟩
end Go.Proofs.YtlfefgfpachehaaDoor

namespace Go.Proofs.YtlfefgfpachehaaDoor.longLaw
open Go.ChangeShapes Go.WideShapes Go.ChangeAt Go.RowKit
open Go.ChangeMaps (open_string shut_string)

theorem contract (H : Type) (enc : TypeId × Value → H) (W : World) (base : Nat) (args : Array Value) (ds gs : List (DataW H)) (before : List MemPlace)
    (hval : ∀ (j : Nat) t v, Tryd.f8.params[j]? = some t → args[j]? = some v → Value.okWide Tryd.prog W .any base t v)
    (hW : DataW.Whole enc Tryd.prog Tryd.f8.params.toList Rows.digestLongSpec.vars false W args.toList ds gs before) (hL : laidMetH Tryd.prog Rows.digestLongRow.laid W) :
    Calls Tryd.prog 8 args W fun e W' => ∃ v, e = .returned v ∧ Rows.digestLongSpec.post enc Tryd.prog Tryd.f8 false true false false W args v W' := by
  have hW' := hW
  obtain ⟨p, q, hA0, hV, rfl, hfz, hnd⟩ := hW
  have hA : DataW.TrodAll enc Tryd.prog W 0 (fun _ => true) true Tryd.f8.params.toList args.toList ds p := hA0
  rw [Tryd.params8] at hA hval
  obtain ⟨v0, vs0, d0, ds0, p0, q0, hargs, rfl, rfl, h0, r0⟩ := trodAll_cons hA
  obtain ⟨v1, vs1, d1, ds1, p1, q1, rfl, rfl, rfl, h1, r1⟩ := trodAll_cons r0
  obtain ⟨rfl, rfl, rfl⟩ := trodAll_nil r1
  obtain rfl : args = #[v0, v1] := by cases args; simp_all
  obtain ⟨rfl, rfl⟩ := trodVars_none hV
  obtain ⟨s, rfl, rfl, rfl, hs⟩ := open_string Tryd.underlying9 (hval 0 9 v0 rfl rfl) h0
  obtain ⟨n, rfl, rfl, rfl, wn⟩ := open_int Tryd.underlying3 (hval 1 3 v1 rfl rfl) h1
  clear hA0
  simp only [List.append_nil] at hW'
  refine (long_law s n W (glob_of_laid hL)).mono fun e W' ⟨he, hb⟩ => ?_
  subst he
  exact ⟨_, rfl, _, _, _, [], [], [], hW', trodAll_cons_mk (shut_bool Tryd.underlying4 _) trodAll_mk0, trodAll_cons_mk (shut_string Tryd.underlying9 hs) (trodAll_cons_mk (shut_int Tryd.underlying3 wn) trodAll_mk0), rfl, hb.frame _, fun h => by cases h⟩

theorem laid_met (os : Os) : laidMet Tryd.prog Rows.digestLongRow.laid ((laidWorld os).forCall (fun _ _ => 0) ⟨#[], #[.string ⟨#[]⟩, .int .i64 0], []⟩).memory :=
  laidMet_of_run' 8 (by kernel_rfl) (by kernel_rfl)
theorem reads (os : Os) {H : Type} (enc : TypeId × Value → H) : ∃ places, DataW.whole enc Tryd.prog ((laidWorld os).forCall (fun _ _ => 0) ⟨#[], #[.string ⟨#[]⟩, .int .i64 0], []⟩).memory Tryd.f8.params.toList Rows.digestLongSpec.vars false #[Value.string ⟨#[]⟩, Value.int .i64 0].toList 8 = some ([.lit (.string []), .lit (.int .i64 0)], [], places) :=
  ⟨[], by kernel_rfl⟩

set_option maxRecDepth 100000 in
theorem lifted (os : Os) (started : os.Started) (H : Type) (enc : TypeId × Value → H) (F : Stop.Interp) :
    ReturnsInHanded {} Tryd.checked os 8 .any ((OpenSpec.ofChange Rows.digestLongSpec).preRow enc Tryd.prog Tryd.f8 Rows.digestLongRow.domain false Rows.digestLongRow.laid) (((OpenSpec.ofChange Rows.digestLongSpec).at F).post enc Tryd.prog Tryd.f8 false true false false) := by
  obtain ⟨places, hx⟩ := reads os enc
  refine returnsInHanded_of_row (C := Tryd.checked) (s := OpenSpec.ofChange Rows.digestLongSpec) own started (by kernel_rfl) Tryd.func8
    (witness_row_at (enc := enc) (C := Tryd.checked) false (laidWorld os) #[.string ⟨#[]⟩, .int .i64 0] rfl (by kernel_rfl) (by kernel_rfl) (by kernel_rfl)
      (OpenSpec.preRow_of_cond 8 hx (by kernel_rfl) (fun k hk => by cases hk) (by kernel_rfl) (laid_met os))) ?_
  intro W base args ds gs before hval hW _ _ _ hL _ _
  exact contract H enc W base args ds gs before hval hW hL

theorem said : Rows.DigestLongSaid :=
  OpenClaim.holds_of_cond 8 Tryd.f8 rfl rfl rfl rfl rfl rfl rfl ⟨rfl, rfl, rfl, rfl, rfl⟩ rfl rfl rfl rfl rfl (by kernel_rfl) Tryd.func8 (by kernel_rfl)
    (of_decide_eq_true (by kernel_rfl)) (by unfold Func.isWrapper; first | (rw [if_pos (by decide +kernel)]; kernel_rfl) | (rw [if_neg (by decide +kernel)]; exact ⟨rfl, rfl⟩))
    (fun os started H enc _ F => by rw [OpenClaim.pre_eq_preRow]; exact lifted os started H enc F)

theorem plain (f : FuncId) (fn : Func) (hf : Tryd.pinned.checked.prog.funcNamed "lockbox/lockboxlaw01.DigestLong" = some f) (hfn : Tryd.pinned.checked.prog.funcs[f]? = some fn) :
    false = Tryd.pinned.checked.prog.looks [] ∧ ∀ (j : Nat) t, fn.params[j]? = some t → Tryd.pinned.checked.prog.wantsStandIn t = false := by
  obtain rfl : f = 8 := Option.some.inj ((show Tryd.prog.funcNamed "lockbox/lockboxlaw01.DigestLong" = some 8 by kernel_rfl).symm.trans hf) |>.symm
  obtain rfl : fn = Tryd.f8 := (Option.some.inj (Tryd.func8.symm.trans hfn)).symm
  refine ⟨by kernel_rfl, fun j t ht => ?_⟩
  rw [Tryd.params8] at ht
  have hm : t ∈ [9, 3] := by simpa using Array.mem_of_getElem? ht
  have hall : ([9, 3].all fun u => !Tryd.prog.wantsStandIn u) = true := by kernel_rfl
  exact (show Tryd.prog.wantsStandIn t = false by simpa using List.all_eq_true.1 hall t hm)
end Go.Proofs.YtlfefgfpachehaaDoor.longLaw

namespace Go.Proofs.YtlfefgfpachehaaDoor
/-- THE CARD. -/
theorem digestLong_card : Rows.DigestLongCardSaid :=
  Claim7.holds_tied_plain_at .later [] _ _ _ _ longLaw.said (fun _ h => by cases h) (by kernel_rfl) (fun _ h => by cases h) digestLong_row_tie rfl ⟨rfl, rfl⟩ (by kernel_rfl) rfl longLaw.plain (by kernel_rfl)
end Go.Proofs.YtlfefgfpachehaaDoor
