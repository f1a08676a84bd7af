/- PROVED HERE: for every share and all bytes the law ShamirTexts returns true (a share's bytes, and the share of any bytes, are those of the definition; what is written is read as it was). No condition. -/
import Derived.Test.YtefpfedpgedloaaGreatDoorVTxt
import Derived.Test.YtefpfedpgedloaaGreatDoorVOpen
import Derived.Test.YtefpfedpgedloaaGreatDoorMV4
import Derived.Test.YtefpfedpgedloaaGreatDoorPLaidG
namespace Go.Proofs.YtefpfedpgedloaaGreatDoor
open Go.RowKit

/-- The argument's box. -/
structure TxA (w : World) (s : Shr) (W : World) : Prop where
  below : Below w.heap.size w W
  h0 : W.heap[w.heap.size]? = some (.cells #[.int .i64 s.x, .int .i64 s.need, .string s.y] 32 (0, 0))
theorem TxA.step {w : World} {s : Shr} {W W' : World} (h : TxA w s W) (hb : Below W.heap.size W W') : TxA w s W' :=
  ⟨h.below.trans (hb.mono h.below.size), (hb.block _ (lt_of_heap h.h0)).trans h.h0⟩
/-- And those of what was read. -/
structure TxB (w : World) (s v : Shr) (g6 g8 : Nat) (W : World) : Prop where
  a : TxA w s W
  h6 : W.heap[g6]? = some (.cells #[.int .i64 v.x, .int .i64 v.need, .string v.y] 32 (0, 0))
  h8 : W.heap[g8]? = some (.cells #[.int .i64 v.x, .int .i64 v.need, .string v.y] 36 (0, 0))
theorem TxB.step {w : World} {s v : Shr} {g6 g8 : Nat} {W W' : World} (h : TxB w s v g6 g8 W) (hb : Below W.heap.size W W') : TxB w s v g6 g8 W' :=
  ⟨h.a.step hb, (hb.block _ (lt_of_heap h.h6)).trans h.h6, (hb.block _ (lt_of_heap h.h8)).trans h.h8⟩
set_option maxRecDepth 100000 in
set_option maxHeartbeats 2000000 in
theorem texts_law {w : World} (s : Shr) (hs : s.Ok) (t : ByteArray) (ht : t.size ≤ maxLen) : Calls Tryz.prog 4 #[.agg s.cells, .string t] w fun e w' => e = .returned (.bool true) ∧ Below w.heap.size w w' := by
  have hsy := hs.y
  unfold Shr.cells
  obtain ⟨w1, hw1⟩ : ∃ w1, w1 = w.alloc (.cells #[.int .i64 s.x, .int .i64 s.need, .string s.y] 32) := ⟨_, rfl⟩
  have T1 : TxA w s w1 := ⟨by rw [hw1]; exact (Below.refl _ _).alloc (Nat.le_refl _) _, by rw [hw1]; exact heap_alloc_new _ _⟩
  obtain ⟨c0, c1, c2⟩ := share_cell T1.h0
  obtain ⟨m, hm⟩ : ∃ m, m = s.y.size := ⟨_, rfl⟩
  obtain ⟨D, hD⟩ : ∃ D, D = t.size := ⟨_, rfl⟩
  have hmi : (s.y.size : Int) = (m : Int) := by omega
  have hDi : (t.size : Int) = (D : Int) := by omega
  have H := Lib.hid (And.intro T1 (And.intro hsy ht))
  clear T1 hsy ht hs hm hD
  by_cases q1 : (70 : Int) < (m : Int)
  · have q1' : decide ((70 : Int) < (m : Int)) = true := decide_eq_true q1
    go_enter Tryz.func4, Tryz.ntmps4
    go_upto_region 1 with fail
    rw [← hw1]
    clear hw1
    go_wp2_with fail
    refine (awake_any _).mono ?_
    rintro e w2 ⟨rfl, hb⟩
    have H2 := Lib.hid (H.out.1.step hb)
    clear hb
    go_wp2_with fail
    go_ret
    exact ⟨rfl, H2.out.below⟩
  have q1' : decide ((70 : Int) < (m : Int)) = false := decide_eq_false q1
  by_cases q2 : (300 : Int) < (D : Int)
  · have q2' : decide ((300 : Int) < (D : Int)) = true := decide_eq_true q2
    go_enter Tryz.func4, Tryz.ntmps4
    go_upto_region 1 with fail
    rw [← hw1]
    clear hw1
    go_wp2_with fail
    refine (awake_any _).mono ?_
    rintro e w2 ⟨rfl, hb⟩
    have H2 := Lib.hid (H.out.1.step hb)
    clear hb
    go_wp2_with fail
    go_ret
    exact ⟨rfl, H2.out.below⟩
  have q2' : decide ((300 : Int) < (D : Int)) = false := decide_eq_false q2
  obtain ⟨A, hA⟩ : ∃ A, A = txtS s := ⟨_, rfl⟩
  obtain ⟨V, hV⟩ : ∃ V, V = rdS t := ⟨_, rfl⟩
  have hx1 := fun W => stext_any s H.out.2.1 W
  have hx2 := fun W => rtext_any s H.out.2.1 W
  have hr1 := fun W => sread_any t H.out.2.2 W
  have hr2 := fun W => rsread_any t H.out.2.2 W
  have hck := fun W => check_any s H.out.2.1 W
  have hback : V.2 = 0 → txtS V.1 = t := fun e => by rw [hV] at e ⊢; exact txt_rdS e
  obtain ⟨O, hO⟩ : ∃ O, O = okS s := ⟨_, rfl⟩
  rw [← hA] at hx1 hx2
  rw [← hV] at hr1 hr2
  rw [← hO] at hck
  obtain ⟨v, ev⟩ := V
  simp only at hr1 hr2 hback
  have hvy : v.y.size ≤ maxLen := by
    have h1 : v = (rdS t).1 := by rw [← hV]
    rw [h1]
    unfold rdS rdE
    cases decR t.data.toList with
    | error e => exact Nat.zero_le _
    | ok x =>
      simp only
      by_cases h : shapeP x nnt = true ∧ okS (shOf x) = true
      · rw [if_pos h]; exact Nat.le_trans (okS_iff.1 h.2).2.2.2 (by unfold maxLen; decide)
      · rw [if_neg h]; exact Nat.zero_le _
  have HC := Lib.hid (And.intro hx1 (And.intro hx2 (And.intro hr1 (And.intro hr2 (And.intro hck (And.intro hback (And.intro hA (And.intro hO hvy))))))))
  clear hx1 hx2 hr1 hr2 hck hback hA hO hV hvy
  go_enter Tryz.func4, Tryz.ntmps4
  go_upto_region 1 with fail
  rw [← hw1]
  clear hw1
  go_wp2_with fail
  refine (HC.out.1 _).mono ?_
  rintro e w2 ⟨rfl, hb⟩
  have H2 := Lib.hid (H.out.1.step hb)
  clear hb c0 c1 c2
  go_wp2_with fail
  refine (HC.out.2.2.1 _).mono ?_
  rintro e w3 ⟨rfl, hb⟩
  have T3 := H2.out.step hb
  obtain ⟨w4, hw4⟩ : ∃ w4, w4 = w3.alloc (.cells #[.int .i64 v.x, .int .i64 v.need, .string v.y] 32) := ⟨_, rfl⟩
  have hb4 : Below w3.heap.size w3 w4 := by rw [hw4]; exact (Below.refl _ _).alloc (Nat.le_refl _) _
  have hg4 : w4.heap[w3.heap.size]? = some (.cells #[.int .i64 v.x, .int .i64 v.need, .string v.y] 32 (0, 0)) := by rw [hw4]; exact heap_alloc_new _ _
  have T4 := T3.step hb4
  have H4 := Lib.hid (And.intro T4 hg4)
  clear hb hb4 T3 T4 hg4
  go_upto_region 5 with fail
  rw [← hw4]
  clear hw4
  generalize w3.heap.size = g6 at *
  go_wp2_with fail
  refine (HC.out.2.2.2.1 _).mono ?_
  rintro e w5 ⟨rfl, hb⟩
  have T5 := H4.out.1.step hb
  have hg5 := (hb.block _ (lt_of_heap H4.out.2)).trans H4.out.2
  obtain ⟨w6, hw6⟩ : ∃ w6, w6 = w5.alloc (.cells #[.int .i64 v.x, .int .i64 v.need, .string v.y] 36) := ⟨_, rfl⟩
  have hb6 : Below w5.heap.size w5 w6 := by rw [hw6]; exact (Below.refl _ _).alloc (Nat.le_refl _) _
  have hg6 : w6.heap[w5.heap.size]? = some (.cells #[.int .i64 v.x, .int .i64 v.need, .string v.y] 36 (0, 0)) := by rw [hw6]; exact heap_alloc_new _ _
  have T6 : TxB w s v g6 w5.heap.size w6 := ⟨T5.step hb6, (hb6.block _ (lt_of_heap hg5)).trans hg5, hg6⟩
  clear hb hb6 T5 hg5 hg6
  go_upto_region 6 with fail
  rw [← hw6]
  clear hw6
  generalize w5.heap.size = g8 at *
  obtain ⟨c0, c1, c2⟩ := share_cell T6.a.h0
  have HT6 := Lib.hid T6
  clear T6
  go_wp2_with fail
  refine (HC.out.2.1 _).mono ?_
  rintro e w7 ⟨rfl, hb⟩
  have T7 := HT6.out.step hb
  clear c0 c1 c2
  obtain ⟨c0, c1, c2⟩ := share_cell T7.a.h0
  obtain ⟨p0, p1, p2⟩ := share_cell T7.h6
  obtain ⟨r0, r1, r2⟩ := share_cell T7.h8
  have hAA : (A.toList == A.toList) = true := by simp
  have hvv : (v.y.toList == v.y.toList) = true := by simp
  have HT7 := Lib.hid T7
  clear T7 hb
  go_wp2_with fail
  refine (HC.out.2.2.2.2.1 _).mono ?_
  rintro e w8 ⟨rfl, hb⟩
  have T8 := HT7.out.step hb
  clear c0 c1 c2 p0 p1 p2 r0 r1 r2 hb
  cases O with
  | false =>
    have hA0 : A = ⟨#[]⟩ := by rw [HC.out.2.2.2.2.2.2.1]; unfold txtS; rw [← HC.out.2.2.2.2.2.2.2.1]; rfl
    have hA1 : A.toList.isEmpty = true := by rw [hA0, toList_data]; rfl
    clear hA0
    have HT := Lib.hid T8
    clear T8
    go_wp2_with fail
    refine (awake_any _).mono ?_
    rintro e wa ⟨rfl, hb⟩
    have Ta := HT.out.step hb
    clear hb
    by_cases hev : ev = 0
    · subst hev
      have htx := HC.out.2.2.2.2.2.1 rfl
      obtain ⟨p0, p1, p2⟩ := share_cell Ta.h6
      have hst := stext_any v HC.out.2.2.2.2.2.2.2.2 wa
      rw [htx] at hst
      have htt : (t.toList == t.toList) = true := by simp
      have HTa := Lib.hid (And.intro Ta hst)
      clear Ta hst htx
      go_wp2_with fail
      refine HTa.out.2.mono ?_
      rintro e wz ⟨rfl, hb⟩
      have HZ := Lib.hid (HTa.out.1.step hb)
      clear hb p0 p1 p2
      go_wp2_with fail
      go_ret
      exact ⟨rfl, HZ.out.a.below⟩
    · have hev1 : (ev != 0) = true := by simpa using hev
      have hev2 : (ev == 0) = false := by simpa using hev
      have HTa := Lib.hid Ta
      clear Ta
      go_wp2_with fail
      go_ret
      exact ⟨rfl, HTa.out.a.below⟩
  | true =>
    have hA1 : A.toList.isEmpty = false := by
      cases hE : A.toList.isEmpty with
      | false => rfl
      | true =>
        exfalso
        have h3 : A.data.toList = [] := by rw [← toList_data]; simpa using hE
        have h1 := (txtS_empty (s := s)).1 (by
          rw [← HC.out.2.2.2.2.2.2.1]
          have h2 := congrArg List.length h3
          simpa using h2)
        rw [← HC.out.2.2.2.2.2.2.2.1] at h1
        cases h1
    have hAs : A.size ≤ maxLen := by
      rw [HC.out.2.2.2.2.2.2.1]
      unfold txtS
      rw [if_pos HC.out.2.2.2.2.2.2.2.1.symm, Cn.size_toArray]
      exact Nat.le_trans (shT_len HC.out.2.2.2.2.2.2.2.1.symm) (by unfold maxLen; decide)
    have hrd := fun W => sread_any A hAs W
    have hrs : rdS A = (s, 0) := by rw [HC.out.2.2.2.2.2.2.1]; exact rdS_txt HC.out.2.2.2.2.2.2.2.1.symm
    rw [hrs] at hrd
    have HR := Lib.hid (And.intro hrd T8)
    clear hrd hrs hAs T8
    go_wp2_with fail
    refine (HR.out.1 _).mono ?_
    rintro e w9 ⟨rfl, hb⟩
    have T9 := HR.out.2.step hb
    obtain ⟨w10, hw10⟩ : ∃ w10, w10 = w9.alloc (.cells #[.int .i64 s.x, .int .i64 s.need, .string s.y] 32) := ⟨_, rfl⟩
    have hb10 : Below w9.heap.size w9 w10 := by rw [hw10]; exact (Below.refl _ _).alloc (Nat.le_refl _) _
    have hg10 : w10.heap[w9.heap.size]? = some (.cells #[.int .i64 s.x, .int .i64 s.need, .string s.y] 32 (0, 0)) := by rw [hw10]; exact heap_alloc_new _ _
    have T10 := T9.step hb10
    clear hb hb10 T9
    go_upto_region 10 with fail
    rw [← hw10]
    clear hw10
    generalize w9.heap.size = g10 at *
    obtain ⟨c0, c1, c2⟩ := share_cell T10.a.h0
    obtain ⟨p0, p1, p2⟩ := share_cell hg10
    have hss : (s.y.toList == s.y.toList) = true := by simp
    clear hg10
    have HT := Lib.hid T10
    clear T10
    go_wp2_with fail
    refine (awake_any _).mono ?_
    rintro e wa ⟨rfl, hb⟩
    clear c0 c1 c2 p0 p1 p2
    have Ta := HT.out.step hb
    clear hb
    by_cases hev : ev = 0
    · subst hev
      have htx := HC.out.2.2.2.2.2.1 rfl
      obtain ⟨p0, p1, p2⟩ := share_cell Ta.h6
      have hst := stext_any v HC.out.2.2.2.2.2.2.2.2 wa
      rw [htx] at hst
      have htt : (t.toList == t.toList) = true := by simp
      have HTa := Lib.hid (And.intro Ta hst)
      clear Ta hst htx
      go_wp2_with fail
      refine HTa.out.2.mono ?_
      rintro e wz ⟨rfl, hb⟩
      have HZ := Lib.hid (HTa.out.1.step hb)
      clear hb p0 p1 p2
      go_wp2_with fail
      go_ret
      exact ⟨rfl, HZ.out.a.below⟩
    · have hev1 : (ev != 0) = true := by simpa using hev
      have hev2 : (ev == 0) = false := by simpa using hev
      have HTa := Lib.hid Ta
      clear Ta
      go_wp2_with fail
      go_ret
      exact ⟨rfl, HTa.out.a.below⟩
end Go.Proofs.YtefpfedpgedloaaGreatDoor

namespace Go.Proofs.YtefpfedpgedloaaGreatDoor.shamirTextsLaw
open Go.ChangeShapes Go.WideShapes Go.ChangeAt Go.RowKit
open Go.ChangeMaps (open_string shut_string)

set_option maxRecDepth 100000 in
theorem contract (H : Type) (enc : TypeId × Value → H) (W : World) (base : Nat) (args : Array Value) (ds gs : List (DataW H)) (before : List MemPlace)
    (hval : ∀ (j : Nat) t v, Tryz.f4.params[j]? = some t → args[j]? = some v → Value.okWide Tryz.prog W .any base t v)
    (hW : DataW.Whole enc Tryz.prog Tryz.f4.params.toList Rows.shamirTextsSpec.vars false W args.toList ds gs before) (_ : laidMetH Tryz.prog Rows.shamirTextsRow.laid W) :
    Calls Tryz.prog 4 args W fun e W' => ∃ v, e = .returned v ∧ Rows.shamirTextsSpec.post enc Tryz.prog Tryz.f4 false true false false W args v W' := by
  have hW' := hW
  obtain ⟨p, q, hA0, hV, rfl, hfz, hnd⟩ := hW
  have hA : DataW.TrodAll enc Tryz.prog W 0 (fun _ => true) true Tryz.f4.params.toList args.toList ds p := hA0
  rw [Tryz.params4] at hA hval
  obtain ⟨v0, vs0, d0, ds0, p0, q0, hargs, rfl, rfl, h0, r0⟩ := trodAll_cons hA
  obtain ⟨v1, vs1, d1, ds1, p1, q1, rfl, rfl, rfl, h1, r1⟩ := trodAll_cons r0
  obtain ⟨rfl, rfl, rfl⟩ := trodAll_nil r1
  obtain rfl : args = #[v0, v1] := by cases args; simp_all
  obtain ⟨rfl, rfl⟩ := trodVars_none hV
  obtain ⟨cs0, rfl, hcs0⟩ := okWide_struct Tryz.underlying32 (hval 0 32 v0 rfl rfl)
  have hk0 := h0
  obtain ⟨fuel0, hf0⟩ := h0
  obtain ⟨s1, rfl, rfl, rfl, ws1⟩ := open_string Tryz.underlying9 (hval 1 9 v1 rfl rfl) h1
  clear hA0
  simp only [List.append_nil] at hW'
  have hlt0 : ∀ x ∈ p0, x.block < W.heap.size := fun x hx => by simpa using hW'.lt x (by simp [hx])
  obtain ⟨x0a, hit0, hf0a⟩ := open_share hf0
  obtain rfl : cs0 = Shr.cells x0a := Array.toList_inj.1 hit0
  refine (texts_law x0a hf0a s1 (by simpa using ws1) (w := W)).mono fun e W' ⟨he, hb⟩ => ?_
  subst he
  exact ⟨_, rfl, _, _, _, [], _, [], hW', trodAll_cons_mk (shut_bool Tryz.underlying4 _) trodAll_mk0, (trodAll_cons_mk (Below.trod laidOut (by kernel_rfl) (of_decide_eq_true (by kernel_rfl)) hk0 hb hlt0) (trodAll_cons_mk (shut_string Tryz.underlying9 ws1) trodAll_mk0)), rfl, hb.frame _, fun h => by cases h⟩
theorem laid_met (os : Os) : laidMet Tryz.prog Rows.shamirTextsRow.laid ((laidWorld os).forCall (fun _ _ => 0) ⟨#[], #[.agg #[.int .i64 0, .int .i64 0, .string ⟨#[]⟩], .string ⟨#[]⟩], []⟩).memory :=
  laidMet_of_run' 8 (by kernel_rfl) (by kernel_rfl)
theorem reads (os : Os) {H : Type} (enc : TypeId × Value → H) : ∃ places, DataW.whole enc Tryz.prog ((laidWorld os).forCall (fun _ _ => 0) ⟨#[], #[.agg #[.int .i64 0, .int .i64 0, .string ⟨#[]⟩], .string ⟨#[]⟩], []⟩).memory Tryz.f4.params.toList Rows.shamirTextsSpec.vars false #[Value.agg #[.int .i64 0, .int .i64 0, .string ⟨#[]⟩], .string ⟨#[]⟩].toList 8 = some ([.agg [.lit (.int .i64 0), .lit (.int .i64 0), .lit (.string [])], .lit (.string [])], [], places) :=
  ⟨[], by kernel_rfl⟩
set_option maxRecDepth 100000 in
theorem lifted (os : Os) (started : os.Started) (H : Type) (enc : TypeId × Value → H) (F : Stop.Interp) :
    ReturnsInHanded {} Tryz.checked os 4 .any ((OpenSpec.ofChange Rows.shamirTextsSpec).preRow enc Tryz.prog Tryz.f4 Rows.shamirTextsRow.domain false Rows.shamirTextsRow.laid) (((OpenSpec.ofChange Rows.shamirTextsSpec).at F).post enc Tryz.prog Tryz.f4 false true false false) := by
  obtain ⟨places, hx⟩ := reads os enc
  refine returnsInHanded_of_row (C := Tryz.checked) (s := OpenSpec.ofChange Rows.shamirTextsSpec) own started (by kernel_rfl) Tryz.func4
    (witness_row_at (enc := enc) (C := Tryz.checked) false (laidWorld os) #[.agg #[.int .i64 0, .int .i64 0, .string ⟨#[]⟩], .string ⟨#[]⟩] rfl (by kernel_rfl) (by kernel_rfl) (by kernel_rfl)
      (OpenSpec.preRow_of_cond 8 hx (by kernel_rfl) (fun k hk => by cases hk) (by kernel_rfl) (laid_met os))) ?_
  intro W base args ds gs before hval hW _ _ _ hL _ _
  exact contract H enc W base args ds gs before hval hW hL
theorem said : Rows.ShamirTextsSaid :=
  OpenClaim.holds_of_cond 4 Tryz.f4 rfl rfl rfl rfl rfl rfl rfl ⟨rfl, rfl, rfl, rfl, rfl⟩ rfl rfl rfl rfl rfl (by kernel_rfl) Tryz.func4 (by kernel_rfl)
    (of_decide_eq_true (by kernel_rfl)) (by unfold Func.isWrapper; first | (rw [if_pos (by decide +kernel)]; kernel_rfl) | (rw [if_neg (by decide +kernel)]; exact ⟨rfl, rfl⟩))
    (fun os started H enc _ F => by rw [OpenClaim.pre_eq_preRow]; exact lifted os started H enc F)
theorem plain (f : FuncId) (fn : Func) (hf : Tryz.pinned.checked.prog.funcNamed "lockbox/lockboxlaw09.ShamirTexts" = some f) (hfn : Tryz.pinned.checked.prog.funcs[f]? = some fn) :
    false = Tryz.pinned.checked.prog.looks [] ∧ ∀ (j : Nat) t, fn.params[j]? = some t → Tryz.pinned.checked.prog.wantsStandIn t = false := by
  obtain rfl : f = 4 := Option.some.inj ((show Tryz.prog.funcNamed "lockbox/lockboxlaw09.ShamirTexts" = some 4 by kernel_rfl).symm.trans hf) |>.symm
  obtain rfl : fn = Tryz.f4 := (Option.some.inj (Tryz.func4.symm.trans hfn)).symm
  refine ⟨by kernel_rfl, fun j t ht => ?_⟩
  rw [Tryz.params4] at ht
  have hm : t ∈ [32, 9] := by simpa using Array.mem_of_getElem? ht
  have hall : ([32, 9].all fun u => !Tryz.prog.wantsStandIn u) = true := by kernel_rfl
  exact (show Tryz.prog.wantsStandIn t = false by simpa using List.all_eq_true.1 hall t hm)
end Go.Proofs.YtefpfedpgedloaaGreatDoor.shamirTextsLaw

namespace Go.Proofs.YtefpfedpgedloaaGreatDoor
/-- THE CARD. -/
theorem shamirTexts_card : Rows.ShamirTextsCardSaid :=
  Claim7.holds_tied_plain_at .later [] _ _ _ _ shamirTextsLaw.said (fun _ h => by cases h) (by kernel_rfl) (fun _ h => by cases h) shamirTexts_row_tie rfl ⟨rfl, rfl⟩ (by kernel_rfl) rfl shamirTextsLaw.plain (by kernel_rfl)
end Go.Proofs.YtefpfedpgedloaaGreatDoor
