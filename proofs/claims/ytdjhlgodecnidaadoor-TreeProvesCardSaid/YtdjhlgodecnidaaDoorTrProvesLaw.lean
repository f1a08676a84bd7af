/- PROVED HERE: for every list of leaves and every number the law TreeProves returns true (the way of each leaf leads to the root, and the bridge from each number of the first leaves). Its conditions: the package-level tables hold what their initialisers lay (tied to the program's text by the card). -/
import Derived.Test.YtdjhlgodecnidaaDoorTrBeg
import Derived.Test.YtdjhlgodecnidaaDoorLaidZ
namespace Go.Proofs.YtdjhlgodecnidaaDoor
open Go.RowKit
open Tr

theorem bridge_len : ∀ (n : Nat) (l : List ByteArray) (m : Nat) (known : Bool), l.length = n → 1 ≤ m → m ≤ n → (bridge l m known).length ≤ n := by
  intro n
  induction n using Nat.strongRecOn with
  | ind n ih =>
    intro l m known hn h0 hm
    by_cases h : m < l.length
    · have p1 := hf_pos l.length
      have p2 := hf_lt (n := l.length) (by omega)
      rw [bridge_two h0 h]
      split
      · have := ih (hf l.length) (by omega) (l.take (hf l.length)) m known (by rw [List.length_take]; omega) h0 (by omega)
        rw [List.length_append, List.length_singleton]; omega
      · have := ih (l.length - hf l.length) (by omega) (l.drop (hf l.length)) (m - hf l.length) false (by rw [List.length_drop]) (by omega) (by omega)
        rw [List.length_append, List.length_singleton]; omega
    · obtain rfl : m = l.length := by omega
      rw [bridge_all h0]
      split
      · simp
      · simp; omega
theorem way_len : ∀ (n : Nat) (l : List ByteArray) (i : Nat), l.length = n → (way l i).length ≤ n := by
  intro n
  induction n using Nat.strongRecOn with
  | ind n ih =>
    intro l i hn
    by_cases h : 2 ≤ l.length
    · have p1 := hf_pos l.length
      have p2 := hf_lt h
      rw [way_two h]
      split
      · have := ih (hf l.length) (by omega) (l.take (hf l.length)) i (by rw [List.length_take]; omega)
        rw [List.length_append, List.length_singleton]; omega
      · have := ih (l.length - hf l.length) (by omega) (l.drop (hf l.length)) (i - hf l.length) (by rw [List.length_drop])
        rw [List.length_append, List.length_singleton]; omega
    · rw [way_one (by omega)]; simp
set_option maxRecDepth 100000 in
set_option maxHeartbeats 8000000 in
theorem proves_law {w : World} (ss : List ByteArray) (a0 : Option Addr) (cap : Nat) (hT : TextsAt w a0 ss) (hm : ss.length ≤ maxLen) (i : Int) (_ : -9223372036854775808 ≤ i) (_ : i ≤ 9223372036854775807) (hG : Glob w ∧ TabZ w) :
    Calls Tryd.prog 6 #[.slice a0 ss.length cap, .int .i64 i] w fun e w' => e = .returned (.bool true) ∧ Below w.heap.size w w' := by
  have HG := Lib.hid hG.1
  have HZ := Lib.hid hG.2
  clear hG
  by_cases hf : FewOf ss 40 100
  · have cd := digests_any ss a0 cap w hT hm hf
    have hl : (ss.map leaf).length = ss.length := List.length_map ..
    have hD := digs_leaves ss
    have h40 : ss.length ≤ 40 := by have := hf.1; omega
    obtain ⟨D, hDD⟩ : ∃ D, D = ss.map leaf := ⟨_, rfl⟩
    rw [← hDD] at cd hl hD
    obtain ⟨n, hn⟩ : ∃ n, n = ss.length := ⟨_, rfl⟩
    rw [← hn] at cd hl h40 ⊢
    have b1 := Int.lt_tmod_of_pos i (show (0 : Int) < (n : Int) + 1 by omega)
    have b2 := Int.tmod_lt_of_pos i (show (0 : Int) < (n : Int) + 1 by omega)
    obtain ⟨ra, hra⟩ : ∃ a, a = i.tmod ((n : Int) + 1) := ⟨_, rfl⟩
    obtain ⟨m, hk⟩ : ∃ k : Nat, (k : Int) = (ra + n + 1) % ((n : Int) + 1) := ⟨((ra + n + 1) % ((n : Int) + 1)).toNat, by rw [Int.toNat_of_nonneg (Int.emod_nonneg _ (by omega))]⟩
    have hmn : m ≤ n := by have := Int.emod_lt_of_pos (ra + n + 1) (show (0 : Int) < (n : Int) + 1 by omega); omega
    rw [← hra] at b1 b2
    have e0 : i.tmod ((n : Int) + 1) = ra := hra.symm
    have e2 : (ra + n + 1).tmod ((n : Int) + 1) = (m : Int) := by rw [Int.tmod_eq_emod_of_nonneg (by omega)]; exact hk.symm
    have e3 : IntKind.i64.wrap (ra + n) = ra + n := IntWalk.i64_in _ (by omega)
    have e4 : IntKind.i64.wrap (ra + n + 1) = ra + n + 1 := IntWalk.i64_in _ (by omega)
    have e5 : ¬ ((n : Int) + 1 = 0) := by omega
    have hz : (root (D.take m)).size = 32 := root_size (fun x hx => hD x (List.mem_of_mem_take hx))
    have hz2 : (root D).size = 32 := root_size hD
    have hbw := begins_way (l := D) (m := m) (by omega) (by omega) hD
    have hbr : brI D m = (if m = 0 then [] else bridge D m true) ∧ brE D m = 0 := by
      unfold brI brE
      refine ⟨?_, if_pos (by omega)⟩
      by_cases h0 : m = 0
      · rw [if_pos h0, if_neg (by omega)]
      · rw [if_neg h0, if_pos (by omega), Int.toNat_natCast]
    have cr := fun W (h : Below w.heap.size w W) (y : Option Addr) (c : Nat) hTW (h1 : D.length ≤ c) h2 => root_any _ D rfl (by omega) hD y c W (HG.out.below h) hTW h1 h2
    have ct := fun W (h : Below w.heap.size w W) (y : Option Addr) (c : Nat) hTW (h1 : (D.take m).length ≤ c) h2 => root_any _ (D.take m) rfl (by rw [List.length_take]; omega) (fun x hx => hD x (List.mem_of_mem_take hx)) y c W (HG.out.below h) hTW h1 h2
    have cb := fun W (h : Below w.heap.size w W) (y : Option Addr) (c : Nat) hTW (h1 : D.length ≤ c) h2 => bigBridge_any D (by omega) hD m y c W (HG.out.below h) hTW h1 h2
    rw [hbr.1, hbr.2] at cb
    obtain ⟨Y, hY⟩ : ∃ Y, Y = (if m = 0 then [] else bridge D m true) := ⟨_, rfl⟩
    rw [← hY] at cb hbw
    have hYl : Y.length ≤ 1000000 := by
      rw [hY]
      by_cases h0 : m = 0
      · rw [if_pos h0]; decide
      · rw [if_neg h0]
        have := bridge_len _ D m true rfl (by omega) (by omega)
        omega
    have cg := fun W (h : Below w.heap.size w W) (y : Option Addr) (c : Nat) hTW (h1 : Y.length ≤ c) (h2 : c ≤ maxLen) => begins_any (root D) m D.length (by omega) (by omega) (root (D.take m)) (by omega) Y hYl y c h1 h2 W (HG.out.below h) (HZ.out.below h) hTW
    rw [hbw] at cg
    have hwy := fun (h : m < n) => stands_way (l := D) (k := m) (by omega) hD
    have cw := fun W (h : Below w.heap.size w W) (y : Option Addr) (c : Nat) hTW (h1 : D.length ≤ c) h2 => bigWay_any D (by omega) hD m y c W (HG.out.below h) hTW h1 h2
    have hw2 : m < n → wayI D m = way D m ∧ wayE D m = 0 := fun h => by
      unfold wayI wayE
      exact ⟨by rw [if_pos (by omega), Int.toNat_natCast], if_pos (by omega)⟩
    obtain ⟨R, hR⟩ : ∃ R, R = root D := ⟨_, rfl⟩
    obtain ⟨R2, hR2⟩ : ∃ R, R = root (D.take m) := ⟨_, rfl⟩
    rw [← hR] at cr cg hwy
    rw [← hR2] at ct cg
    have htl : (D.take m).length = m := by rw [List.length_take]; omega
    rw [hl] at cr cb cg hwy cw
    rw [htl] at ct
    obtain ⟨y, hy⟩ : ∃ y, y = Y.length := ⟨_, rfl⟩
    rw [← hy] at cb cg
    have H := Lib.hid (And.intro cd (And.intro cr (And.intro ct (And.intro cb cg))))
    have HL := Lib.hid (And.intro hl (And.intro hy hwy))
    have HW := Lib.hid (And.intro cw (And.intro hw2 hD))
    clear cd cr ct cb cg cw hw2 hl hy hwy hR hR2 hY hbw hbr hDD hn hf hT hm hz hz2 hra hk hYl htl
    go_enter Tryd.func6, Tryd.ntmps6
    go_wp2_with fail
    refine H.out.1.mono ?_
    rintro e w0 ⟨a, c, rfl, hO, hb0⟩
    have hnc : n ≤ c ∧ c ≤ maxLen := by have h := hO.capy; rw [HL.out.1] at h; exact h
    have hmc : m ≤ c := by omega
    have HA := Lib.hid (And.intro hO.texts (And.intro hnc hb0))
    clear hO hb0 hnc
    go_wp2_with fail
    refine (H.out.2.1 _ HA.out.2.2 _ _ HA.out.1 HA.out.2.1.1 HA.out.2.1.2).mono ?_
    rintro e w1 ⟨rfl, hb⟩
    have HB := Lib.hid (And.intro (HA.out.2.2.trans (hb.mono HA.out.2.2.size)) (HA.out.1.below hb))
    clear hb
    go_wp2_with fail
    refine (H.out.2.2.2.1 _ HB.out.1 _ _ HB.out.2 HA.out.2.1.1 HA.out.2.1.2).mono ?_
    rintro e w2 ⟨a2, c2, rfl, hO, hb⟩
    have HC := Lib.hid (And.intro (HB.out.1.trans (hb.mono HB.out.1.size)) (And.intro (HB.out.2.below hb) (And.intro hO.texts (show y ≤ c2 ∧ c2 ≤ maxLen from by have h := hO.capy; rw [← HL.out.2.1] at h; exact h))))
    clear hb hO
    go_wp2_with fail
    refine (H.out.2.2.1 _ HC.out.1 _ _ (HC.out.2.1.take m) hmc HA.out.2.1.2).mono ?_
    rintro e w3 ⟨rfl, hb⟩
    have HD := Lib.hid (And.intro (HC.out.1.trans (hb.mono HC.out.1.size)) (And.intro (HC.out.2.1.below hb) (HC.out.2.2.1.below hb)))
    clear hb
    go_wp2_with fail
    refine (H.out.2.2.2.2 _ HD.out.1 _ _ HD.out.2.2 HC.out.2.2.2.1 HC.out.2.2.2.2).mono ?_
    rintro e w4 ⟨rfl, hb⟩
    have HE := Lib.hid (And.intro (HD.out.1.trans (hb.mono HD.out.1.size)) (HD.out.2.1.below hb))
    clear hb
    by_cases hmn2 : m = n
    · subst hmn2
      go_wp2_with fail
      refine (awake13_any _ (HG.out.below HE.out.1)).mono ?_
      rintro e w5 ⟨rfl, hb⟩
      have HF := Lib.hid (HE.out.1.trans (hb.mono HE.out.1.size))
      clear hb
      go_wp2_with fail
      go_ret
      exact ⟨rfl, HF.out⟩
    · have f1 : ((m : Int) == (n : Int)) = false := by simp; omega
      have hlt : m < n := by omega
      have hltI : (m : Int) < (n : Int) := by omega
      have hst := HL.out.2.2 hlt
      have cw := HW.out.1
      rw [(HW.out.2.1 hlt).1, (HW.out.2.1 hlt).2] at cw
      have hwl := way_len _ D m HL.out.1
      obtain ⟨V, hV⟩ : ∃ V, V = way D m := ⟨_, rfl⟩
      rw [← hV] at cw hst hwl
      obtain ⟨g, hgl⟩ : ∃ g, g = D.getD m ByteArray.empty := ⟨_, rfl⟩
      rw [← hgl] at hst
      have hg32 : g.size = 32 := by rw [hgl]; exact HW.out.2.2.getD (by rw [HL.out.1]; exact hlt)
      have cs := fun W (h : Below w.heap.size w W) (y : Option Addr) (c : Nat) hTW (h1 : V.length ≤ c) (h2 : c ≤ maxLen) => stands_any R n m (by omega) (by omega) hlt g (by omega) V (by omega) y c h1 h2 W (HG.out.below h) hTW
      rw [hst] at cs
      obtain ⟨v, hv⟩ : ∃ v, v = V.length := ⟨_, rfl⟩
      rw [← hv] at cw cs
      have HS := Lib.hid (And.intro cw (And.intro cs (And.intro hgl hv)))
      clear cw cs hst hV hgl hv hg32 hwl hmn2
      go_wp2_with fail
      refine (HS.out.1 _ HE.out.1 _ _ HE.out.2 HA.out.2.1.1 HA.out.2.1.2).mono ?_
      rintro e w5 ⟨a3, c3, rfl, hO, hb⟩
      have HF := Lib.hid (And.intro (HE.out.1.trans (hb.mono HE.out.1.size)) (And.intro (HE.out.2.below hb) (And.intro hO.texts (show v ≤ c3 ∧ c3 ≤ maxLen from by have h := hO.capy; rw [← HS.out.2.2.2] at h; exact h))))
      clear hb hO
      go_wp2_with fail
      refine (awake13_any _ (HG.out.below HF.out.1)).mono ?_
      rintro e w6 ⟨rfl, hb⟩
      have HI := Lib.hid (And.intro (HF.out.1.trans (hb.mono HF.out.1.size)) (And.intro (HF.out.2.1.below hb) (HF.out.2.2.1.below hb)))
      clear hb
      obtain ⟨lb, lo, hab, hbl, hc⟩ := HI.out.2.1 m (by rw [HL.out.1]; exact hlt)
      cases hab
      rw [← HS.out.2.2.1] at hc
      go_wp2_with fail
      refine (HS.out.2.1 _ HI.out.1 _ _ HI.out.2.2 HF.out.2.2.2.1 HF.out.2.2.2.2).mono ?_
      rintro e w7 ⟨rfl, hb⟩
      have HJ := Lib.hid (HI.out.1.trans (hb.mono HI.out.1.size))
      clear hb
      go_wp2_with fail
      go_ret
      exact ⟨rfl, HJ.out⟩
  · have cn := nodigests_any ss a0 cap w hT hm hf
    obtain ⟨n, hn⟩ : ∃ n, n = ss.length := ⟨_, rfl⟩
    rw [← hn] at cn ⊢
    have H := Lib.hid cn
    clear cn hf hT hm hn
    go_enter Tryd.func6, Tryd.ntmps6
    go_wp2_with fail
    refine H.out.mono ?_
    rintro e w0 ⟨rfl, rfl⟩
    go_wp2_with fail
    refine (awake13_any _ HG.out).mono ?_
    rintro e w1 ⟨rfl, hb⟩
    have HB := Lib.hid hb
    clear hb
    go_wp2_with fail
    go_ret
    exact ⟨rfl, HB.out⟩
end Go.Proofs.YtdjhlgodecnidaaDoor

namespace Go.Proofs.YtdjhlgodecnidaaDoor.treeProvesLaw
open Go.ChangeShapes Go.WideShapes Go.ChangeAt Go.RowKit
open Go.ChangeMaps (open_string shut_string)

set_option maxRecDepth 100000 in
theorem contract (H : Type) (enc : TypeId × Value → H) (W : World) (base : Nat) (args : Array Value) (ds gs : List (DataW H)) (before : List MemPlace)
    (hval : ∀ (j : Nat) t v, Tryd.f6.params[j]? = some t → args[j]? = some v → Value.okWide Tryd.prog W .any base t v)
    (hW : DataW.Whole enc Tryd.prog Tryd.f6.params.toList Rows.treeProvesSpec.vars false W args.toList ds gs before) (hL : laidMetH Tryd.prog Rows.treeProvesRow.laid W) :
    Calls Tryd.prog 6 args W fun e W' => ∃ v, e = .returned v ∧ Rows.treeProvesSpec.post enc Tryd.prog Tryd.f6 false true false false W args v W' := by
  have hW' := hW
  obtain ⟨p, q, hA0, hV, rfl, hfz, hnd⟩ := hW
  have hA : DataW.TrodAll enc Tryd.prog W 0 (fun _ => true) true Tryd.f6.params.toList args.toList ds p := hA0
  rw [Tryd.params6] at hA hval
  obtain ⟨v0, vs0, d0, ds0, p0, q0, hargs, rfl, rfl, h0, r0⟩ := trodAll_cons hA
  obtain ⟨v1, vs1, d1, ds1, p1, q1, rfl, rfl, rfl, h1, r1⟩ := trodAll_cons r0
  obtain ⟨rfl, rfl, rfl⟩ := trodAll_nil r1
  obtain rfl : args = #[v0, v1] := by cases args; simp_all
  obtain ⟨rfl, rfl⟩ := trodVars_none hV
  obtain ⟨a0, len0, cap0, rfl⟩ := okWide_slice Tryd.underlying22 (hval 0 22 v0 rfl rfl)
  have hk0 := h0
  obtain ⟨fuel0, hf0⟩ := h0
  obtain ⟨n1, rfl, rfl, rfl, ws1⟩ := open_int Tryd.underlying3 (hval 1 3 v1 rfl rfl) h1
  have hbd1 := ws1
  simp only [Lit.wf, Bool.and_eq_true, decide_eq_true_eq] at hbd1
  clear hA0
  simp only [List.append_nil] at hW'
  have hlt0 : ∀ x ∈ p0, x.block < W.heap.size := fun x hx => by simpa using hW'.lt x (by simp [hx])
  obtain ⟨ss0, hlen0, hmax0, hT0⟩ := texts_of hf0 hlt0
  subst hlen0
  refine (proves_law ss0 a0 cap0 hT0 hmax0 n1 hbd1.1 hbd1.2 (w := W) (hG := glob_of_laid4 hL)).mono fun e W' ⟨he, hb⟩ => ?_
  subst he
  exact ⟨_, rfl, _, _, _, [], _, [], hW', trodAll_cons_mk (shut_bool Tryd.underlying4 _) trodAll_mk0, (trodAll_cons_mk (Below.trod laidOut (by kernel_rfl) (of_decide_eq_true (by kernel_rfl)) hk0 hb hlt0) (trodAll_cons_mk (shut_int Tryd.underlying3 ws1) trodAll_mk0)), rfl, hb.frame _, fun h => by cases h⟩
theorem laid_met (os : Os) : laidMet Tryd.prog Rows.treeProvesRow.laid ((laidWorld4 os).forCall (fun _ _ => 0) ⟨#[], #[.slice none 0 0, .int .i64 0], []⟩).memory :=
  laidMet_of_run' 8 (by kernel_rfl) (by kernel_rfl)
theorem reads (os : Os) {H : Type} (enc : TypeId × Value → H) : ∃ places, DataW.whole enc Tryd.prog ((laidWorld4 os).forCall (fun _ _ => 0) ⟨#[], #[.slice none 0 0, .int .i64 0], []⟩).memory Tryd.f6.params.toList Rows.treeProvesSpec.vars false #[Value.slice none 0 0, .int .i64 0].toList 8 = some ([.nil, .lit (.int .i64 0)], [], places) :=
  ⟨[], by kernel_rfl⟩
set_option maxRecDepth 100000 in
theorem lifted (os : Os) (started : os.Started) (H : Type) (enc : TypeId × Value → H) (F : Stop.Interp) :
    ReturnsInHanded {} Tryd.checked os 6 .any ((OpenSpec.ofChange Rows.treeProvesSpec).preRow enc Tryd.prog Tryd.f6 Rows.treeProvesRow.domain false Rows.treeProvesRow.laid) (((OpenSpec.ofChange Rows.treeProvesSpec).at F).post enc Tryd.prog Tryd.f6 false true false false) := by
  obtain ⟨places, hx⟩ := reads os enc
  refine returnsInHanded_of_row (C := Tryd.checked) (s := OpenSpec.ofChange Rows.treeProvesSpec) own started (by kernel_rfl) Tryd.func6
    (witness_row_at (enc := enc) (C := Tryd.checked) false (laidWorld4 os) #[.slice none 0 0, .int .i64 0] rfl (by kernel_rfl) (by kernel_rfl) (by kernel_rfl)
      (OpenSpec.preRow_of_cond 8 hx (by kernel_rfl) (fun k hk => by cases hk) (by kernel_rfl) (laid_met os))) ?_
  intro W base args ds gs before hval hW _ _ _ hL _ _
  exact contract H enc W base args ds gs before hval hW hL
theorem said : Rows.TreeProvesSaid :=
  OpenClaim.holds_of_cond 6 Tryd.f6 rfl rfl rfl rfl rfl rfl rfl ⟨rfl, rfl, rfl, rfl, rfl⟩ rfl rfl rfl rfl rfl (by kernel_rfl) Tryd.func6 (by kernel_rfl)
    (of_decide_eq_true (by kernel_rfl)) (by unfold Func.isWrapper; first | (rw [if_pos (by decide +kernel)]; kernel_rfl) | (rw [if_neg (by decide +kernel)]; exact ⟨rfl, rfl⟩))
    (fun os started H enc _ F => by rw [OpenClaim.pre_eq_preRow]; exact lifted os started H enc F)
theorem plain (f : FuncId) (fn : Func) (hf : Tryd.pinned.checked.prog.funcNamed "lockbox/lockboxlaw13.TreeProves" = some f) (hfn : Tryd.pinned.checked.prog.funcs[f]? = some fn) :
    false = Tryd.pinned.checked.prog.looks [] ∧ ∀ (j : Nat) t, fn.params[j]? = some t → Tryd.pinned.checked.prog.wantsStandIn t = false := by
  obtain rfl : f = 6 := Option.some.inj ((show Tryd.prog.funcNamed "lockbox/lockboxlaw13.TreeProves" = some 6 by kernel_rfl).symm.trans hf) |>.symm
  obtain rfl : fn = Tryd.f6 := (Option.some.inj (Tryd.func6.symm.trans hfn)).symm
  refine ⟨by kernel_rfl, fun j t ht => ?_⟩
  rw [Tryd.params6] at ht
  have hm : t ∈ [22, 3] := by simpa using Array.mem_of_getElem? ht
  have hall : ([22, 3].all fun u => !Tryd.prog.wantsStandIn u) = true := by kernel_rfl
  exact (show Tryd.prog.wantsStandIn t = false by simpa using List.all_eq_true.1 hall t hm)
end Go.Proofs.YtdjhlgodecnidaaDoor.treeProvesLaw

namespace Go.Proofs.YtdjhlgodecnidaaDoor
/-- THE CARD. -/
theorem treeProves_card : Rows.TreeProvesCardSaid :=
  Claim7.holds_tied_plain_at .later [] _ _ _ _ treeProvesLaw.said (fun _ h => by cases h) (by kernel_rfl) (fun _ h => by cases h) treeProves_row_tie rfl ⟨rfl, rfl⟩ (by kernel_rfl) rfl treeProvesLaw.plain (by kernel_rfl)
end Go.Proofs.YtdjhlgodecnidaaDoor
