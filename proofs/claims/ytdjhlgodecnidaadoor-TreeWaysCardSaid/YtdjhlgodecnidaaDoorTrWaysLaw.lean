/- PROVED HERE: for every list of leaves and every number the law TreeWays returns true (the way of any place, and the bridge from any number, or the error, are the document's). Its conditions: the package-level tables hold what their initialisers lay (tied to the program's text by the card). -/
import Derived.Test.YtdjhlgodecnidaaDoorTrAwake
import Derived.Test.YtdjhlgodecnidaaDoorLaid
namespace Go.Proofs.YtdjhlgodecnidaaDoor
open Go.RowKit
open Tr

set_option maxRecDepth 100000 in
set_option maxHeartbeats 4000000 in
theorem ways_law {w : World} (ss : List ByteArray) (a0 : Option Addr) (cap : Nat) (hT : TextsAt w a0 ss) (hm : ss.length ≤ maxLen) (i : Int) (_ : -9223372036854775808 ≤ i) (_ : i ≤ 9223372036854775807) (hG : Glob w) :
    Calls Tryd.prog 5 #[.slice a0 ss.length cap, .int .i64 i] w fun e w' => e = .returned (.bool true) ∧ Below w.heap.size w w' := by
  have HG := Lib.hid hG
  clear hG
  by_cases hf : FewOf ss 40 100
  · have cd := digests_any ss a0 cap w hT hm hf
    have hD := digs_leaves ss
    have hl : (ss.map leaf).length = ss.length := List.length_map ..
    have h40 : ss.length ≤ 40 := by have := hf.1; omega
    obtain ⟨D, hDD⟩ : ∃ D, D = ss.map leaf := ⟨_, rfl⟩
    rw [← hDD] at cd hD hl
    obtain ⟨n, hn⟩ : ∃ n, n = ss.length := ⟨_, rfl⟩
    rw [← hn] at cd hl h40 ⊢
    have wy := fun (W : World) (a : Option Addr) (c : Nat) hGW hTW (h1 : D.length ≤ c) h2 => bigWay_any D (by omega) hD i a c W hGW hTW h1 h2
    have rw_ := fun (W : World) (a : Option Addr) (c : Nat) hTW (h1 : D.length ≤ c) h2 => rbigWay_any D (by omega) hD i a c W hTW h1 h2
    have br := fun (W : World) (a : Option Addr) (c : Nat) hGW hTW (h1 : D.length ≤ c) h2 => bigBridge_any D (by omega) hD i a c W hGW hTW h1 h2
    have rb := fun (W : World) (a : Option Addr) (c : Nat) hTW (h1 : D.length ≤ c) h2 => rbigBridge_any D (by omega) hD i a c W hTW h1 h2
    have lw : (wayI D i).length ≤ 1000000 := by
      unfold wayI
      split
      · have := Tr.way_length _ D i.toNat rfl; omega
      · exact Nat.zero_le _
    have lb : (brI D i).length ≤ 1000000 := by
      unfold brI
      split
      · have := Tr.bridge_length _ D i.toNat true rfl (by omega) (by omega); omega
      · exact Nat.zero_le _
    obtain ⟨X, hX⟩ : ∃ X, X = wayI D i := ⟨_, rfl⟩
    obtain ⟨Y, hY⟩ : ∃ Y, Y = brI D i := ⟨_, rfl⟩
    obtain ⟨p, hp⟩ : ∃ X, X = wayE D i := ⟨_, rfl⟩
    obtain ⟨q, hq⟩ : ∃ Y, Y = brE D i := ⟨_, rfl⟩
    rw [← hX, ← hp] at wy rw_
    rw [← hY, ← hq] at br rb
    rw [← hX] at lw
    rw [← hY] at lb
    rw [hl] at wy rw_ br rb
    have s1 := fun (W : World) (x y : Option Addr) (c d : Nat) h1 h2 => rsame_any X x y c d W h1 h2 lw
    have s2 := fun (W : World) (x y : Option Addr) (c d : Nat) h1 h2 => rsame_any Y x y c d W h1 h2 lb
    have H := Lib.hid (And.intro cd (And.intro wy (And.intro rw_ (And.intro br (And.intro rb (And.intro s1 (And.intro s2 hl)))))))
    clear cd wy rw_ br rb s1 s2 lw lb hD hDD hX hY hp hq hT hm hf hl hn
    obtain ⟨lx, hlx⟩ : ∃ l, l = X.length := ⟨_, rfl⟩
    obtain ⟨ly, hly⟩ : ∃ l, l = Y.length := ⟨_, rfl⟩
    rw [← hlx, ← hly] at H
    clear hlx hly
    go_enter Tryd.func5, Tryd.ntmps5
    go_wp2_with fail
    refine H.out.1.mono ?_
    rintro e w0 ⟨a, c, rfl, hO, hb0⟩
    have HA := Lib.hid (And.intro hO.texts (And.intro (show n ≤ c ∧ c ≤ maxLen from by have h := hO.capy; rw [H.out.2.2.2.2.2.2.2] at h; exact h) hb0))
    clear hO hb0
    go_wp2_with fail
    refine (H.out.2.1 _ _ _ (HG.out.below HA.out.2.2) HA.out.1 HA.out.2.1.1 HA.out.2.1.2).mono ?_
    rintro e w1 ⟨a1, c1, rfl, hO, hb⟩
    have B1 := Lib.hid (And.intro (HA.out.2.2.trans (hb.mono HA.out.2.2.size)) (And.intro (HA.out.1.below hb) hO.texts))
    clear hb hO
    go_wp2_with fail
    refine (H.out.2.2.1 _ _ _ B1.out.2.1 HA.out.2.1.1 HA.out.2.1.2).mono ?_
    rintro e w2 ⟨a2, c2, rfl, hO, hb⟩
    have B2 := Lib.hid (And.intro (B1.out.1.trans (hb.mono B1.out.1.size)) (And.intro (B1.out.2.1.below hb) (And.intro (B1.out.2.2.below hb) hO.texts)))
    clear hb hO
    go_wp2_with fail
    refine (H.out.2.2.2.1 _ _ _ (HG.out.below B2.out.1) B2.out.2.1 HA.out.2.1.1 HA.out.2.1.2).mono ?_
    rintro e w3 ⟨a3, c3, rfl, hO, hb⟩
    have B3 := Lib.hid (And.intro (B2.out.1.trans (hb.mono B2.out.1.size)) (And.intro (B2.out.2.1.below hb) (And.intro (B2.out.2.2.1.below hb) (And.intro (B2.out.2.2.2.below hb) hO.texts))))
    clear hb hO
    go_wp2_with fail
    refine (H.out.2.2.2.2.1 _ _ _ B3.out.2.1 HA.out.2.1.1 HA.out.2.1.2).mono ?_
    rintro e w4 ⟨a4, c4, rfl, hO, hb⟩
    have B4 := Lib.hid (And.intro (B3.out.1.trans (hb.mono B3.out.1.size)) (And.intro (B3.out.2.2.1.below hb) (And.intro (B3.out.2.2.2.1.below hb) (And.intro (B3.out.2.2.2.2.below hb) hO.texts))))
    clear hb hO
    go_wp2_with fail
    refine (awake13_any _ (HG.out.below B4.out.1)).mono ?_
    rintro e w5 ⟨rfl, hb⟩
    have B5 := Lib.hid (And.intro (B4.out.1.trans (hb.mono B4.out.1.size)) (And.intro (B4.out.2.1.below hb) (And.intro (B4.out.2.2.1.below hb) (And.intro (B4.out.2.2.2.1.below hb) (B4.out.2.2.2.2.below hb)))))
    clear hb
    go_wp2_with fail
    refine (H.out.2.2.2.2.2.1 _ _ _ _ _ B5.out.2.1 B5.out.2.2.1).mono ?_
    rintro e w6 ⟨rfl, hb⟩
    have B6 := Lib.hid (And.intro (B5.out.1.trans (hb.mono B5.out.1.size)) (And.intro (B5.out.2.2.2.1.below hb) (B5.out.2.2.2.2.below hb)))
    clear hb
    go_wp2_with fail
    refine (H.out.2.2.2.2.2.2.1 _ _ _ _ _ B6.out.2.1 B6.out.2.2).mono ?_
    rintro e w7 ⟨rfl, hb⟩
    have B7 := Lib.hid (B6.out.1.trans (hb.mono B6.out.1.size))
    clear hb
    go_wp2_with fail
    go_ret
    exact ⟨rfl, B7.out⟩
  · have cn := nodigests_any ss a0 cap w hT hm hf
    obtain ⟨n, hn⟩ : ∃ n, n = ss.length := ⟨_, rfl⟩
    rw [← hn] at cn ⊢
    have H := Lib.hid cn
    clear cn hf hT hm hn
    go_enter Tryd.func5, Tryd.ntmps5
    go_wp2_with fail
    refine H.out.mono ?_
    rintro e w0 ⟨rfl, rfl⟩
    go_wp2_with fail
    refine (awake13_any _ HG.out).mono ?_
    rintro e w1 ⟨rfl, hb⟩
    have HB := Lib.hid hb
    clear hb
    go_wp2_with fail
    go_ret
    exact ⟨rfl, HB.out⟩
end Go.Proofs.YtdjhlgodecnidaaDoor

namespace Go.Proofs.YtdjhlgodecnidaaDoor.treeWaysLaw
open Go.ChangeShapes Go.WideShapes Go.ChangeAt Go.RowKit
open Go.ChangeMaps (open_string shut_string)

set_option maxRecDepth 100000 in
theorem contract (H : Type) (enc : TypeId × Value → H) (W : World) (base : Nat) (args : Array Value) (ds gs : List (DataW H)) (before : List MemPlace)
    (hval : ∀ (j : Nat) t v, Tryd.f5.params[j]? = some t → args[j]? = some v → Value.okWide Tryd.prog W .any base t v)
    (hW : DataW.Whole enc Tryd.prog Tryd.f5.params.toList Rows.treeWaysSpec.vars false W args.toList ds gs before) (hL : laidMetH Tryd.prog Rows.treeWaysRow.laid W) :
    Calls Tryd.prog 5 args W fun e W' => ∃ v, e = .returned v ∧ Rows.treeWaysSpec.post enc Tryd.prog Tryd.f5 false true false false W args v W' := by
  have hW' := hW
  obtain ⟨p, q, hA0, hV, rfl, hfz, hnd⟩ := hW
  have hA : DataW.TrodAll enc Tryd.prog W 0 (fun _ => true) true Tryd.f5.params.toList args.toList ds p := hA0
  rw [Tryd.params5] at hA hval
  obtain ⟨v0, vs0, d0, ds0, p0, q0, hargs, rfl, rfl, h0, r0⟩ := trodAll_cons hA
  obtain ⟨v1, vs1, d1, ds1, p1, q1, rfl, rfl, rfl, h1, r1⟩ := trodAll_cons r0
  obtain ⟨rfl, rfl, rfl⟩ := trodAll_nil r1
  obtain rfl : args = #[v0, v1] := by cases args; simp_all
  obtain ⟨rfl, rfl⟩ := trodVars_none hV
  obtain ⟨a0, len0, cap0, rfl⟩ := okWide_slice Tryd.underlying22 (hval 0 22 v0 rfl rfl)
  have hk0 := h0
  obtain ⟨fuel0, hf0⟩ := h0
  obtain ⟨n1, rfl, rfl, rfl, ws1⟩ := open_int Tryd.underlying3 (hval 1 3 v1 rfl rfl) h1
  have hbd1 := ws1
  simp only [Lit.wf, Bool.and_eq_true, decide_eq_true_eq] at hbd1
  clear hA0
  simp only [List.append_nil] at hW'
  have hlt0 : ∀ x ∈ p0, x.block < W.heap.size := fun x hx => by simpa using hW'.lt x (by simp [hx])
  obtain ⟨ss0, hlen0, hmax0, hT0⟩ := texts_of hf0 hlt0
  subst hlen0
  refine (ways_law ss0 a0 cap0 hT0 hmax0 n1 hbd1.1 hbd1.2 (w := W) (hG := glob_of_laid hL)).mono fun e W' ⟨he, hb⟩ => ?_
  subst he
  exact ⟨_, rfl, _, _, _, [], _, [], hW', trodAll_cons_mk (shut_bool Tryd.underlying4 _) trodAll_mk0, (trodAll_cons_mk (Below.trod laidOut (by kernel_rfl) (of_decide_eq_true (by kernel_rfl)) hk0 hb hlt0) (trodAll_cons_mk (shut_int Tryd.underlying3 ws1) trodAll_mk0)), rfl, hb.frame _, fun h => by cases h⟩
theorem laid_met (os : Os) : laidMet Tryd.prog Rows.treeWaysRow.laid ((laidWorld os).forCall (fun _ _ => 0) ⟨#[], #[.slice none 0 0, .int .i64 0], []⟩).memory :=
  laidMet_of_run' 8 (by kernel_rfl) (by kernel_rfl)
theorem reads (os : Os) {H : Type} (enc : TypeId × Value → H) : ∃ places, DataW.whole enc Tryd.prog ((laidWorld os).forCall (fun _ _ => 0) ⟨#[], #[.slice none 0 0, .int .i64 0], []⟩).memory Tryd.f5.params.toList Rows.treeWaysSpec.vars false #[Value.slice none 0 0, .int .i64 0].toList 8 = some ([.nil, .lit (.int .i64 0)], [], places) :=
  ⟨[], by kernel_rfl⟩
set_option maxRecDepth 100000 in
theorem lifted (os : Os) (started : os.Started) (H : Type) (enc : TypeId × Value → H) (F : Stop.Interp) :
    ReturnsInHanded {} Tryd.checked os 5 .any ((OpenSpec.ofChange Rows.treeWaysSpec).preRow enc Tryd.prog Tryd.f5 Rows.treeWaysRow.domain false Rows.treeWaysRow.laid) (((OpenSpec.ofChange Rows.treeWaysSpec).at F).post enc Tryd.prog Tryd.f5 false true false false) := by
  obtain ⟨places, hx⟩ := reads os enc
  refine returnsInHanded_of_row (C := Tryd.checked) (s := OpenSpec.ofChange Rows.treeWaysSpec) own started (by kernel_rfl) Tryd.func5
    (witness_row_at (enc := enc) (C := Tryd.checked) false (laidWorld os) #[.slice none 0 0, .int .i64 0] rfl (by kernel_rfl) (by kernel_rfl) (by kernel_rfl)
      (OpenSpec.preRow_of_cond 8 hx (by kernel_rfl) (fun k hk => by cases hk) (by kernel_rfl) (laid_met os))) ?_
  intro W base args ds gs before hval hW _ _ _ hL _ _
  exact contract H enc W base args ds gs before hval hW hL
theorem said : Rows.TreeWaysSaid :=
  OpenClaim.holds_of_cond 5 Tryd.f5 rfl rfl rfl rfl rfl rfl rfl ⟨rfl, rfl, rfl, rfl, rfl⟩ rfl rfl rfl rfl rfl (by kernel_rfl) Tryd.func5 (by kernel_rfl)
    (of_decide_eq_true (by kernel_rfl)) (by unfold Func.isWrapper; first | (rw [if_pos (by decide +kernel)]; kernel_rfl) | (rw [if_neg (by decide +kernel)]; exact ⟨rfl, rfl⟩))
    (fun os started H enc _ F => by rw [OpenClaim.pre_eq_preRow]; exact lifted os started H enc F)
theorem plain (f : FuncId) (fn : Func) (hf : Tryd.pinned.checked.prog.funcNamed "lockbox/lockboxlaw13.TreeWays" = some f) (hfn : Tryd.pinned.checked.prog.funcs[f]? = some fn) :
    false = Tryd.pinned.checked.prog.looks [] ∧ ∀ (j : Nat) t, fn.params[j]? = some t → Tryd.pinned.checked.prog.wantsStandIn t = false := by
  obtain rfl : f = 5 := Option.some.inj ((show Tryd.prog.funcNamed "lockbox/lockboxlaw13.TreeWays" = some 5 by kernel_rfl).symm.trans hf) |>.symm
  obtain rfl : fn = Tryd.f5 := (Option.some.inj (Tryd.func5.symm.trans hfn)).symm
  refine ⟨by kernel_rfl, fun j t ht => ?_⟩
  rw [Tryd.params5] at ht
  have hm : t ∈ [22, 3] := by simpa using Array.mem_of_getElem? ht
  have hall : ([22, 3].all fun u => !Tryd.prog.wantsStandIn u) = true := by kernel_rfl
  exact (show Tryd.prog.wantsStandIn t = false by simpa using List.all_eq_true.1 hall t hm)
end Go.Proofs.YtdjhlgodecnidaaDoor.treeWaysLaw

namespace Go.Proofs.YtdjhlgodecnidaaDoor
/-- THE CARD. -/
theorem treeWays_card : Rows.TreeWaysCardSaid :=
  Claim7.holds_tied_plain_at .later [] _ _ _ _ treeWaysLaw.said (fun _ h => by cases h) (by kernel_rfl) (fun _ h => by cases h) treeWays_row_tie rfl ⟨rfl, rfl⟩ (by kernel_rfl) rfl treeWaysLaw.plain (by kernel_rfl)
end Go.Proofs.YtdjhlgodecnidaaDoor
