/- PROVED HERE: for every key, number and two texts the law SealBack returns true (what is sealed is opened; what can be opened, sealed again, is what it was), and all read afterwards as they did. Its conditions: the package-level tables of digest and chacha hold what their initialisers lay (tied to the program's text by the card). -/
import Derived.Test.YtgoimggfpagojaaDoorSL1
import Derived.Test.YtgoimggfpagojaaDoorLaidS
import Derived.Test.YtgoimggfpagojaaDoorOpenT
import Derived.BigQuiet
import Derived.Deep.QuietTactic
namespace Go.Proofs.YtgoimggfpagojaaDoor
open Go.RowKit

theorem sealE_zero {key : ByteArray} {n : Int} {p : ByteArray} (h : (sealE key n p).2 = 0) : askP key n = 0 ∧ p.size ≤ 1024 ∧ sealE key n p = (sealP key n p, 0) := by
  unfold sealE at h ⊢
  by_cases h1 : askP key n ≠ 0
  · rw [if_pos h1] at h; exact absurd h h1
  · rw [if_neg h1] at h ⊢
    by_cases h2 : 1024 < p.size
    · rw [if_pos h2] at h; exact absurd h (by decide)
    · rw [if_neg h2]
      exact ⟨Decidable.byContradiction h1, by omega, rfl⟩
theorem sealP_few {key : ByteArray} {n : Int} {p : ByteArray} (h : askP key n = 0) (hp : p.size ≤ 1024) : (sealP key n p).size ≤ 3000 := by
  unfold sealP
  rw [slS_size]
  exact slT_len (askP_ok h).2 (by rw [trnP_size key n (by omega)]; omega) (by rw [codP_size]; exact Nat.le_refl _)
theorem lbelow_drawN {B : Nat} {a w : World} (h : Below B a w) : ∀ n, Below B a (w.drewN n)
  | 0 => h
  | n + 1 => (lbelow_drawN h n).drew
set_option maxRecDepth 100000 in
set_option maxHeartbeats 4000000 in
theorem back16_law {w : World} (key : ByteArray) (_ : key.size ≤ maxLen) (n : Int) (_ : -9223372036854775808 ≤ n) (_ : n ≤ 9223372036854775807) (p q : ByteArray) (_ : p.size ≤ maxLen) (_ : q.size ≤ maxLen) (hG : Glob w ∧ GlobQ w) :
    Calls Tryd.prog 9 #[.string key, .int .i64 n, .agg (texts2 p q)] w fun e w' => e = .returned (.bool true) ∧ Below w.heap.size w w' := by
  unfold texts2
  have haw := fun (W : World) (hb : Below w.heap.size w W) => awake16_any W (hG.1.below hb) (hG.2.below hb)
  obtain ⟨w1, hw1⟩ : ∃ w1, w1 = w.alloc (.cells #[.string p, .string q] 47) := ⟨_, rfl⟩
  have hb1 : Below w.heap.size w w1 := by rw [hw1]; exact (Below.refl _ _).alloc (Nat.le_refl _) _
  have hg1 : w1.heap[w.heap.size]? = some (.cells #[.string p, .string q] 47 (0, 0)) := by rw [hw1]; exact heap_alloc_new _ _
  have c0 : w1.cell? ⟨w.heap.size, 0, none⟩ = some (.string p) := by rw [cell_of_row _ _ _ _ _ _ hg1]; rfl
  have c1 : w1.cell? ⟨w.heap.size, 1, none⟩ = some (.string q) := by rw [cell_of_row _ _ _ _ _ _ hg1]; rfl
  have hs := fun (hk : key.size ≤ 100) (x : ByteArray) (W : World) (hb : Below w.heap.size w W) => sseal_any key n x (by omega) W (hG.1.below hb) (hG.2.below hb)
  have ho := fun (hk : key.size ≤ 100) (x : ByteArray) (hx : x.size ≤ 3000) (W : World) (hb : Below w.heap.size w W) => sopen_any key n x (by omega) (by omega) W (hG.1.below hb) (hG.2.below hb)
  unfold sealV at hs ho
  have H := Lib.hid (And.intro haw (And.intro hb1 (And.intro hs ho)))
  clear haw hb1 hs ho hg1 hG
  go_enter Tryd.func9, Tryd.ntmps9
  go_upto_region 1 with fail
  rw [← hw1]
  clear hw1
  go_wp2_with fail
  go_quiet (fail)
  have HB := Lib.hid (lbelow_drawN H.out.2.1 nq)
  generalize w1.drewN nq = w2 at *
  clear c0 c1
  by_cases h1 : (100 : Int) < key.size
  · go_wp2_with fail
    refine (H.out.1 _ HB.out).mono ?_
    rintro e w9 ⟨rfl, k9⟩
    have K9 := Lib.hid (sbelow_call HB.out k9)
    clear k9
    go_wp2_with fail
    go_ret
    exact ⟨rfl, K9.out⟩
  by_cases h2 : (1500 : Int) < p.size
  · go_wp2_with fail
    refine (H.out.1 _ HB.out).mono ?_
    rintro e w9 ⟨rfl, k9⟩
    have K9 := Lib.hid (sbelow_call HB.out k9)
    clear k9
    go_wp2_with fail
    go_ret
    exact ⟨rfl, K9.out⟩
  by_cases h3 : (1500 : Int) < q.size
  · go_wp2_with fail
    refine (H.out.1 _ HB.out).mono ?_
    rintro e w9 ⟨rfl, k9⟩
    have K9 := Lib.hid (sbelow_call HB.out k9)
    clear k9
    go_wp2_with fail
    go_ret
    exact ⟨rfl, K9.out⟩
  have hS := H.out.2.2.1 (by omega) p
  have hO := H.out.2.2.2 (by omega) q (by omega)
  by_cases h0 : (sealE key n p).2 = 0
  · obtain ⟨ha, hp, hse⟩ := sealE_zero h0
    have hfew := sealP_few ha hp
    have hO1 := H.out.2.2.2 (by omega) (sealP key n p) hfew
    have hN1 := fun W => snumber_any (sealP key n p) (by omega) W
    rw [(open_seal ha hp).1] at hO1
    rw [(open_seal ha hp).2] at hN1
    unfold numV at hN1
    rw [hse] at hS
    obtain ⟨S, hSS⟩ : ∃ S, S = sealP key n p := ⟨_, rfl⟩
    rw [← hSS] at hS hO1 hN1
    have hpp : (p.toList == p.toList) = true := by simp
    have HS := Lib.hid (And.intro hS (And.intro hO1 hN1))
    clear hS hO1 hN1 hSS hse h0 ha hfew
    go_wp2_with fail
    refine (HS.out.1 _ HB.out).mono ?_
    rintro e w3 ⟨rfl, k3⟩
    have K3 := Lib.hid (sbelow_call HB.out k3)
    clear k3
    go_wp2_with fail
    refine (HS.out.2.1 _ K3.out).mono ?_
    rintro e w4 ⟨rfl, k4⟩
    have K4 := Lib.hid (sbelow_call K3.out k4)
    clear k4
    go_wp2_with fail
    refine (HS.out.2.2 _).mono ?_
    rintro e w5 ⟨rfl, k5⟩
    have K5 := Lib.hid (sbelow_call K4.out k5)
    clear k5
    go_wp2_with fail
    by_cases hf : (openE key n q).2 = 0
    · obtain ⟨T, hT⟩ : ∃ T, T = (openE key n q).1 := ⟨_, rfl⟩
      have hse := seal_open (key := key) (n := n) (s := q) (p := T) (by rw [hT, ← hf])
      have hS2 := H.out.2.2.1 (by omega) T
      rw [hse] at hS2
      rw [← hT, hf] at hO
      have hqq : (q.toList == q.toList) = true := by simp
      have HO := Lib.hid (And.intro hO hS2)
      clear hO hS2 hse hT hf
      go_wp2_with fail
      refine (HO.out.1 _ K5.out).mono ?_
      rintro e w6 ⟨rfl, k6⟩
      have K6 := Lib.hid (sbelow_call K5.out k6)
      clear k6
      go_wp2_with fail
      refine (HO.out.2 _ K6.out).mono ?_
      rintro e w7 ⟨rfl, k7⟩
      have K7 := Lib.hid (sbelow_call K6.out k7)
      clear k7
      go_wp2_with fail
      refine (H.out.1 _ K7.out).mono ?_
      rintro e w9 ⟨rfl, k9⟩
      have K9 := Lib.hid (sbelow_call K7.out k9)
      clear k9
      go_wp2_with fail
      go_ret
      exact ⟨rfl, K9.out⟩
    · obtain ⟨T, hT⟩ : ∃ T, T = (openE key n q).1 := ⟨_, rfl⟩
      obtain ⟨f, hf2⟩ : ∃ f, f = (openE key n q).2 := ⟨_, rfl⟩
      rw [← hT, ← hf2] at hO
      rw [← hf2] at hf
      have HO := Lib.hid hO
      clear hO hT hf2
      go_wp2_with fail
      refine (HO.out _ K5.out).mono ?_
      rintro e w6 ⟨rfl, k6⟩
      have K6 := Lib.hid (sbelow_call K5.out k6)
      clear k6
      go_wp2_with fail
      refine (H.out.1 _ K6.out).mono ?_
      rintro e w9 ⟨rfl, k9⟩
      have K9 := Lib.hid (sbelow_call K6.out k9)
      clear k9
      go_wp2_with fail
      go_ret
      exact ⟨rfl, K9.out⟩
  · obtain ⟨S, hSS⟩ : ∃ S, S = (sealE key n p).1 := ⟨_, rfl⟩
    obtain ⟨k, hk⟩ : ∃ k, k = (sealE key n p).2 := ⟨_, rfl⟩
    rw [← hSS, ← hk] at hS
    rw [← hk] at h0
    have HS := Lib.hid hS
    clear hS hSS hk
    go_wp2_with fail
    refine (HS.out _ HB.out).mono ?_
    rintro e w3 ⟨rfl, k3⟩
    have K3 := Lib.hid (sbelow_call HB.out k3)
    clear k3
    go_wp2_with fail
    by_cases hf : (openE key n q).2 = 0
    · obtain ⟨T, hT⟩ : ∃ T, T = (openE key n q).1 := ⟨_, rfl⟩
      have hse := seal_open (key := key) (n := n) (s := q) (p := T) (by rw [hT, ← hf])
      have hS2 := H.out.2.2.1 (by omega) T
      rw [hse] at hS2
      rw [← hT, hf] at hO
      have hqq : (q.toList == q.toList) = true := by simp
      have HO := Lib.hid (And.intro hO hS2)
      clear hO hS2 hse hT hf
      go_wp2_with fail
      refine (HO.out.1 _ K3.out).mono ?_
      rintro e w6 ⟨rfl, k6⟩
      have K6 := Lib.hid (sbelow_call K3.out k6)
      clear k6
      go_wp2_with fail
      refine (HO.out.2 _ K6.out).mono ?_
      rintro e w7 ⟨rfl, k7⟩
      have K7 := Lib.hid (sbelow_call K6.out k7)
      clear k7
      go_wp2_with fail
      refine (H.out.1 _ K7.out).mono ?_
      rintro e w9 ⟨rfl, k9⟩
      have K9 := Lib.hid (sbelow_call K7.out k9)
      clear k9
      go_wp2_with fail
      go_ret
      exact ⟨rfl, K9.out⟩
    · obtain ⟨T, hT⟩ : ∃ T, T = (openE key n q).1 := ⟨_, rfl⟩
      obtain ⟨f, hf2⟩ : ∃ f, f = (openE key n q).2 := ⟨_, rfl⟩
      rw [← hT, ← hf2] at hO
      rw [← hf2] at hf
      have HO := Lib.hid hO
      clear hO hT hf2
      go_wp2_with fail
      refine (HO.out _ K3.out).mono ?_
      rintro e w6 ⟨rfl, k6⟩
      have K6 := Lib.hid (sbelow_call K3.out k6)
      clear k6
      go_wp2_with fail
      refine (H.out.1 _ K6.out).mono ?_
      rintro e w9 ⟨rfl, k9⟩
      have K9 := Lib.hid (sbelow_call K6.out k9)
      clear k9
      go_wp2_with fail
      go_ret
      exact ⟨rfl, K9.out⟩
end Go.Proofs.YtgoimggfpagojaaDoor

namespace Go.Proofs.YtgoimggfpagojaaDoor.sealBackLaw
open Go.ChangeShapes Go.WideShapes Go.ChangeAt Go.RowKit
open Go.ChangeMaps (open_string shut_string)

set_option maxRecDepth 100000 in
theorem contract (H : Type) (enc : TypeId × Value → H) (W : World) (base : Nat) (args : Array Value) (ds gs : List (DataW H)) (before : List MemPlace)
    (hval : ∀ (j : Nat) t v, Tryd.f9.params[j]? = some t → args[j]? = some v → Value.okWide Tryd.prog W .any base t v)
    (hW : DataW.Whole enc Tryd.prog Tryd.f9.params.toList Rows.sealBackSpec.vars false W args.toList ds gs before) (hL : laidMetH Tryd.prog Rows.sealBackRow.laid W) :
    Calls Tryd.prog 9 args W fun e W' => ∃ v, e = .returned v ∧ Rows.sealBackSpec.post enc Tryd.prog Tryd.f9 false true false false W args v W' := by
  have hW' := hW
  obtain ⟨p, q, hA0, hV, rfl, hfz, hnd⟩ := hW
  have hA : DataW.TrodAll enc Tryd.prog W 0 (fun _ => true) true Tryd.f9.params.toList args.toList ds p := hA0
  rw [Tryd.params9] at hA hval
  obtain ⟨v0, vs0, d0, ds0, p0, q0, hargs, rfl, rfl, h0, r0⟩ := trodAll_cons hA
  obtain ⟨v1, vs1, d1, ds1, p1, q1, rfl, rfl, rfl, h1, r1⟩ := trodAll_cons r0
  obtain ⟨v2, vs2, d2, ds2, p2, q2, rfl, rfl, rfl, h2, r2⟩ := trodAll_cons r1
  obtain ⟨rfl, rfl, rfl⟩ := trodAll_nil r2
  obtain rfl : args = #[v0, v1, v2] := by cases args; simp_all
  obtain ⟨rfl, rfl⟩ := trodVars_none hV
  obtain ⟨s0, rfl, rfl, rfl, ws0⟩ := open_string Tryd.underlying9 (hval 0 9 v0 rfl rfl) h0
  obtain ⟨n1, rfl, rfl, rfl, ws1⟩ := open_int Tryd.underlying3 (hval 1 3 v1 rfl rfl) h1
  have hbd1 := ws1
  simp only [Lit.wf, Bool.and_eq_true, decide_eq_true_eq] at hbd1
  obtain ⟨cs2, rfl, hcs2⟩ := okWide_array Tryd.underlying47 (hval 2 47 v2 rfl rfl)
  have hk2 := h2
  obtain ⟨fuel2, hf2⟩ := h2
  clear hA0
  simp only [List.append_nil, List.nil_append] at hW'
  have hlt2 : ∀ x ∈ p2, x.block < W.heap.size := fun x hx => by simpa using hW'.lt x (by simp [hx])
  obtain ⟨x2a, x2b, hit2, hf2a, hf2b⟩ := open_texts2 hf2
  obtain rfl : cs2 = texts2 x2a x2b := Array.toList_inj.1 hit2
  refine (back16_law s0 (by simpa using ws0) n1 hbd1.1 hbd1.2 x2a x2b hf2a hf2b (w := W) (hG := glob_of_laid3 hL)).mono fun e W' ⟨he, hb⟩ => ?_
  subst he
  exact ⟨_, rfl, _, _, _, [], _, [], hW', trodAll_cons_mk (shut_bool Tryd.underlying4 _) trodAll_mk0, (trodAll_cons_mk (shut_string Tryd.underlying9 ws0) (trodAll_cons_mk (shut_int Tryd.underlying3 ws1) (trodAll_cons_mk (Below.trod laidOut (by kernel_rfl) (of_decide_eq_true (by kernel_rfl)) hk2 hb hlt2) trodAll_mk0))), rfl, hb.frame _, fun h => by cases h⟩
theorem laid_met (os : Os) : laidMet Tryd.prog Rows.sealBackRow.laid ((laidWorld3 os).forCall (fun _ _ => 0) ⟨#[], #[.string ⟨#[]⟩, .int .i64 0, .agg #[.string ⟨#[]⟩, .string ⟨#[]⟩]], []⟩).memory :=
  laidMet_of_run' 8 (by kernel_rfl) (by kernel_rfl)
theorem reads (os : Os) {H : Type} (enc : TypeId × Value → H) : ∃ places, DataW.whole enc Tryd.prog ((laidWorld3 os).forCall (fun _ _ => 0) ⟨#[], #[.string ⟨#[]⟩, .int .i64 0, .agg #[.string ⟨#[]⟩, .string ⟨#[]⟩]], []⟩).memory Tryd.f9.params.toList Rows.sealBackSpec.vars false #[Value.string ⟨#[]⟩, .int .i64 0, .agg #[.string ⟨#[]⟩, .string ⟨#[]⟩]].toList 8 = some ([.lit (.string []), .lit (.int .i64 0), .agg [.lit (.string []), .lit (.string [])]], [], places) :=
  ⟨[], by kernel_rfl⟩
set_option maxRecDepth 100000 in
theorem lifted (os : Os) (started : os.Started) (H : Type) (enc : TypeId × Value → H) (F : Stop.Interp) :
    ReturnsInHanded {} Tryd.checked os 9 .any ((OpenSpec.ofChange Rows.sealBackSpec).preRow enc Tryd.prog Tryd.f9 Rows.sealBackRow.domain false Rows.sealBackRow.laid) (((OpenSpec.ofChange Rows.sealBackSpec).at F).post enc Tryd.prog Tryd.f9 false true false false) := by
  obtain ⟨places, hx⟩ := reads os enc
  refine returnsInHanded_of_row (C := Tryd.checked) (s := OpenSpec.ofChange Rows.sealBackSpec) own started (by kernel_rfl) Tryd.func9
    (witness_row_at (enc := enc) (C := Tryd.checked) false (laidWorld3 os) #[.string ⟨#[]⟩, .int .i64 0, .agg #[.string ⟨#[]⟩, .string ⟨#[]⟩]] rfl (by kernel_rfl) (by kernel_rfl) (by kernel_rfl)
      (OpenSpec.preRow_of_cond 8 hx (by kernel_rfl) (fun k hk => by cases hk) (by kernel_rfl) (laid_met os))) ?_
  intro W base args ds gs before hval hW _ _ _ hL _ _
  exact contract H enc W base args ds gs before hval hW hL
theorem said : Rows.SealBackSaid :=
  OpenClaim.holds_of_cond 9 Tryd.f9 rfl rfl rfl rfl rfl rfl rfl ⟨rfl, rfl, rfl, rfl, rfl⟩ rfl rfl rfl rfl rfl (by kernel_rfl) Tryd.func9 (by kernel_rfl)
    (of_decide_eq_true (by kernel_rfl)) (by unfold Func.isWrapper; first | (rw [if_pos (by decide +kernel)]; kernel_rfl) | (rw [if_neg (by decide +kernel)]; exact ⟨rfl, rfl⟩))
    (fun os started H enc _ F => by rw [OpenClaim.pre_eq_preRow]; exact lifted os started H enc F)
theorem plain (f : FuncId) (fn : Func) (hf : Tryd.pinned.checked.prog.funcNamed "lockbox/lockboxlaw16.SealBack" = some f) (hfn : Tryd.pinned.checked.prog.funcs[f]? = some fn) :
    false = Tryd.pinned.checked.prog.looks [] ∧ ∀ (j : Nat) t, fn.params[j]? = some t → Tryd.pinned.checked.prog.wantsStandIn t = false := by
  obtain rfl : f = 9 := Option.some.inj ((show Tryd.prog.funcNamed "lockbox/lockboxlaw16.SealBack" = some 9 by kernel_rfl).symm.trans hf) |>.symm
  obtain rfl : fn = Tryd.f9 := (Option.some.inj (Tryd.func9.symm.trans hfn)).symm
  refine ⟨by kernel_rfl, fun j t ht => ?_⟩
  rw [Tryd.params9] at ht
  have hm : t ∈ [9, 3, 47] := by simpa using Array.mem_of_getElem? ht
  have hall : ([9, 3, 47].all fun u => !Tryd.prog.wantsStandIn u) = true := by kernel_rfl
  exact (show Tryd.prog.wantsStandIn t = false by simpa using List.all_eq_true.1 hall t hm)
end Go.Proofs.YtgoimggfpagojaaDoor.sealBackLaw

namespace Go.Proofs.YtgoimggfpagojaaDoor
/-- THE CARD. -/
theorem sealBack_card : Rows.SealBackCardSaid :=
  Claim7.holds_tied_plain_at .later [] _ _ _ _ sealBackLaw.said (fun _ h => by cases h) (by kernel_rfl) (fun _ h => by cases h) sealBack_row_tie rfl ⟨rfl, rfl⟩ (by kernel_rfl) rfl sealBackLaw.plain (by kernel_rfl)
end Go.Proofs.YtgoimggfpagojaaDoor
