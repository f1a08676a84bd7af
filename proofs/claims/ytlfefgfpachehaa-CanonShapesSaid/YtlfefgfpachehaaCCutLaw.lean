/- PROVED HERE: for every item and number the law CanonCut returns true (any beginning of an item's bytes, but all, has ErrShort), and both read afterwards as they did. No condition. -/
import Derived.Test.YtlfefgfpachehaaCAwake
import Derived.Test.YtlfefgfpachehaaCSize
import Derived.Test.YtlfefgfpachehaaRows
namespace Go.Proofs.Ytlfefgfpachehaa
open Go.RowKit
open Cn

theorem laidOut : laidOutB Try.prog = true := by kernel_rfl
theorem weights_head {H : Type} {ts : List TypeId} {d : DataW H} {ds : List (DataW H)} (h : (DataW.weightsEach Try.prog (24 :: ts) (d :: ds)).all (· ≤ reachBytes) = true) : (d.weights Try.prog 24).all (· ≤ reachBytes) = true := by
  rw [DataW.weightsEach, List.all_append, Bool.and_eq_true] at h
  exact h.1
set_option maxRecDepth 100000 in
set_option maxHeartbeats 800000 in
theorem cut_law (x : It) (n : Int) (w : World) (hin : x.In w (fun _ => True)) (hsm : x.Small) :
    Calls Try.prog 6 #[x.val, .int .i64 n] w fun e w' => e = .returned (.bool true) ∧ Below w.heap.size w w' := by
  have hfew := fun w' (hb : Below w.heap.size w w') => few_any _ 1000 (by decide) x w' (It.In.kept (keptS_any hb) x hin) hsm
  have henc := fun w' (hb : Below w.heap.size w w') => encode_any _ x w' (It.In.kept (keptS_any hb) x hin)
  obtain ⟨P, hP⟩ : ∃ P, P = x.pure := ⟨_, rfl⟩
  rw [← hP] at hfew henc
  obtain ⟨z, hz⟩ : ∃ z, z = decide (sizeP 1000 P 0 ≤ 1000) := ⟨_, rfl⟩
  rw [← hz] at hfew
  obtain ⟨E, hE⟩ : ∃ E, E = encE P := ⟨_, rfl⟩
  obtain ⟨T, hT⟩ : ∃ T, T = encS P := ⟨_, rfl⟩
  rw [← hE, ← hT] at henc
  have H := Lib.hid (And.intro hfew (And.intro henc (And.intro hE hT)))
  clear hfew henc hE hT hP hz hin hsm
  obtain ⟨xk, xn, xs, xa, xc, xl⟩ := x
  simp only [It.val, It.cells, It.k, It.n, It.s, It.a, It.cap, It.l] at H ⊢
  go_enter Try.func6, Try.ntmps6
  go_wp2_with fail
  have hb1 : Below w.heap.size w (w.alloc (.cells #[.int .i64 xk, .int .i64 xn, .string xs, .slice xa xl.length xc] 24)) := (Below.refl _ _).alloc (Nat.le_refl _) _
  have hrow := heap_alloc_new w (.cells #[.int .i64 xk, .int .i64 xn, .string xs, .slice xa xl.length xc] 24)
  generalize World.alloc w _ = w1 at *
  have H1 := Lib.hid (And.intro hb1 hrow)
  clear hb1 hrow
  refine (H.out.1 _ H1.out.1).mono ?_
  rintro e w2 ⟨rfl, hb2⟩
  have hrow2 : w2.heap[w.heap.size]? = some (.cells #[.int .i64 xk, .int .i64 xn, .string xs, .slice xa xl.length xc] 24 (0, 0)) := (hb2.block _ (lt_of_heap H1.out.2)).trans H1.out.2
  have q0 : w2.cell? ⟨w.heap.size, 0, none⟩ = some (.int .i64 xk) := by rw [Lib.cell_of_heap hrow2]; rfl
  have q1 : w2.cell? ⟨w.heap.size, 1, none⟩ = some (.int .i64 xn) := by rw [Lib.cell_of_heap hrow2]; rfl
  have q2 : w2.cell? ⟨w.heap.size, 2, none⟩ = some (.string xs) := by rw [Lib.cell_of_heap hrow2]; rfl
  have q3 : w2.cell? ⟨w.heap.size, 3, none⟩ = some (.slice xa xl.length xc) := by rw [Lib.cell_of_heap hrow2]; rfl
  have H2 := Lib.hid (H1.out.1.trans (hb2.mono H1.out.1.size))
  clear hb2 hrow2
  cases z with
  | false =>
    go_wp2_with fail
    refine (awake_any _).mono ?_
    rintro e w3 ⟨rfl, hb3⟩
    have H3 := Lib.hid (H2.out.trans (hb3.mono H2.out.size))
    clear hb3
    go_wp2_with fail
    go_ret
    exact ⟨rfl, H3.out⟩
  | true =>
    go_wp2_with fail
    refine (H.out.2.1 _ H2.out).mono ?_
    rintro e w3 ⟨rfl, hb3⟩
    have H3 := Lib.hid (H2.out.trans (hb3.mono H2.out.size))
    clear hb3 q0 q1 q2 q3
    by_cases hE0 : E = 0
    · have hEP := H.out.2.2.1
      rw [hE0, encE] at hEP
      obtain ⟨hm, hl⟩ : may P 6 = true ∧ (Cn.bytes P).length ≤ 65536 := by
        by_cases hm : may P 6 = true
        · refine ⟨hm, ?_⟩
          rw [if_pos hm] at hEP
          by_cases hl : (Cn.bytes P).length ≤ 65536
          · exact hl
          · rw [if_neg hl] at hEP; omega
        · rw [if_neg hm] at hEP; omega
      have hTP : T = ⟨(Cn.bytes P).toArray⟩ := by rw [H.out.2.2.2, encS, if_pos ⟨hm, hl⟩]
      have hTs : T.size = (Cn.bytes P).length := by rw [hTP, size_toArray]
      have hpos := bytes_pos P
      obtain ⟨L, hL⟩ : ∃ L, L = T.size := ⟨_, rfl⟩
      have hL0 : (0 : Int) < L := by omega
      have hL1 : (L : Int) ≤ 65536 := by omega
      have b1 := Int.lt_tmod_of_pos n hL0
      have b2 := Int.tmod_lt_of_pos n hL0
      obtain ⟨a, ha⟩ : ∃ a, a = n.tmod L := ⟨_, rfl⟩
      rw [← ha] at b1 b2
      have c1 : 0 ≤ (a + L) % (L : Int) := Int.emod_nonneg _ (by omega)
      have c2 : (a + L) % (L : Int) < L := Int.emod_lt_of_pos _ hL0
      obtain ⟨c, hc⟩ : ∃ c : Nat, (c : Int) = (a + L) % (L : Int) := ⟨((a + L) % (L : Int)).toNat, by omega⟩
      have e0 : n.tmod (L : Int) = a := ha.symm
      have e1 : (a + L) % (L : Int) = (c : Int) := hc.symm
      have e2 : (a + L).tmod (L : Int) = (c : Int) := by rw [Int.tmod_eq_emod_of_nonneg (by omega)]; exact e1
      have hcl : c < L := by omega
      have hci : (c : Int) ≤ L := by omega
      have hcut : item 6 0 0 (T.extract 0 c).data.toList = .error 7 := by
        rw [extract_data, List.drop_zero, Nat.sub_zero, hTP]
        exact item_cut 6 P 0 0 c hm (by omega) (by omega)
      have hdec : decR (T.extract 0 c).data.toList = .error 7 := by rw [decR, hcut]
      have hes : (T.extract 0 c).size ≤ maxLen := by
        have : (T.extract 0 c).data.toList.length = (T.extract 0 c).size := by simp
        rw [← this, extract_data, List.length_take]; unfold maxLen; omega
      have HC := Lib.hid (And.intro hcut (And.intro hdec (And.intro hes hL)))
      have hLn : ((L : Int) == 0) = false := by simp; omega
      have hTL : (T.size : Int) = (L : Int) := by omega
      have ba1 : -65536 ≤ a := by omega
      have ba2 : a ≤ 65536 := by omega
      subst hE0
      clear hEP hm hl hTP hTs hpos hcut hdec hes hL b1 b2 c1 c2 ha hc
      go_wp2_with fail
      have hfr := front_any (T.extract 0 c) HC.out.2.2.1 w3
      rw [HC.out.1] at hfr
      refine hfr.mono ?_
      clear hfr
      rintro e w4 ⟨hb4, -, rfl⟩
      have H4 := Lib.hid (H3.out.trans (hb4.mono H3.out.size))
      clear hb4
      simp only [zeroIt]
      go_wp2_with fail
      have hb5 : Below w.heap.size w (w4.alloc (.cells #[.int .i64 0, .int .i64 0, .string ⟨#[]⟩, .slice none 0 0] 24)) := H4.out.alloc H4.out.size _
      generalize World.alloc w4 _ = w5 at *
      have H5 := Lib.hid hb5
      clear hb5
      have hde := decode_any (T.extract 0 c) HC.out.2.2.1 w5
      rw [HC.out.2.1] at hde
      refine hde.mono ?_
      clear hde
      rintro e w6 ⟨hb6, -, rfl⟩
      have H6 := Lib.hid (H5.out.trans (hb6.mono H5.out.size))
      clear hb6
      simp only [zeroIt]
      go_wp2_with fail
      have hb7 : Below w.heap.size w (w6.alloc (.cells #[.int .i64 0, .int .i64 0, .string ⟨#[]⟩, .slice none 0 0] 24)) := H6.out.alloc H6.out.size _
      generalize World.alloc w6 _ = w7 at *
      have H7 := Lib.hid hb7
      clear hb7
      refine (awake_any _).mono ?_
      rintro e w8 ⟨rfl, hb8⟩
      have H8 := Lib.hid (H7.out.trans (hb8.mono H7.out.size))
      clear hb8
      go_wp2_with fail
      go_ret
      exact ⟨rfl, H8.out⟩
    · have hEx : (E == 0) = false := by simpa using hE0
      have HEx := Lib.hid hE0
      clear hE0
      go_wp2_with fail
      refine (awake_any _).mono ?_
      rintro e w4 ⟨rfl, hb4⟩
      have H4 := Lib.hid (H3.out.trans (hb4.mono H3.out.size))
      clear hb4
      go_wp2_with fail
      go_ret
      exact ⟨ret_bool (by simpa using HEx.out), H4.out⟩
end Go.Proofs.Ytlfefgfpachehaa

namespace Go.Proofs.Ytlfefgfpachehaa.canonCutLaw
open Go.ChangeShapes Go.WideShapes Go.ChangeAt Go.RowKit
open Go.ChangeMaps (open_string shut_string)

theorem own : ownKnob Try.prog.godebug = none := by kernel_rfl
set_option maxRecDepth 100000 in
theorem lifted (os : Os) (started : os.Started) (H : Type) (enc : TypeId × Value → H) :
    ReturnsInHanded {} Try.checked os 6 .any (Rows.canonCutSpec.pre6 enc Try.prog Try.f6 Rows.canonCutRow.domain false) (Rows.canonCutSpec.post enc Try.prog Try.f6 false true false false) := by
  refine returnsInHanded_of_change_sized (C := Try.checked) own started (by kernel_rfl) Try.func6
    (ChangeSpec.witness6 (enc := enc) (C := Try.checked) false ⟨#[], #[.agg #[.int .i64 0, .int .i64 0, .string ⟨#[]⟩, .slice none 0 0], .int .i64 0], []⟩ 8 (by kernel_rfl) (by kernel_rfl) (by kernel_rfl) (by kernel_rfl)) ?_
  intro W base args ds gs before hval0 hW hcnd hsz _
  have hval : ∀ (j : Nat) t v, Try.f6.params[j]? = some t → args[j]? = some v → Value.okWide Try.prog W .any base t v := hval0
  have hW' := hW
  obtain ⟨p, q, hA0, hV, rfl, hfz, hnd⟩ := hW
  have hA : DataW.TrodAll enc Try.prog W 0 (fun _ => true) true Try.f6.params.toList args.toList ds p := hA0
  rw [Try.params6] at hA hval
  obtain ⟨v0, vs0, d0, ds0, p0, q0, hargs, rfl, rfl, h0, r0⟩ := trodAll_cons hA
  obtain ⟨v1, vs1, d1, ds1, p1, q1, rfl, rfl, rfl, h1, r1⟩ := trodAll_cons r0
  obtain ⟨rfl, rfl, rfl⟩ := trodAll_nil r1
  obtain rfl : args = #[v0, v1] := by cases args; simp_all
  obtain ⟨rfl, rfl⟩ := trodVars_none hV
  obtain ⟨n, rfl, rfl, rfl, wn⟩ := open_int Try.underlying3 (hval 1 3 v1 rfl rfl) h1
  obtain ⟨cs, rfl, hcs⟩ := okWide_struct Try.underlying24 (hval 0 24 v0 rfl rfl)
  have h0k := h0
  obtain ⟨fuel, hf⟩ := h0
  clear hA0 hval0
  simp only [List.append_nil] at hW'
  have hlt : ∀ x ∈ p0, x.block < W.heap.size := fun x hx => by simpa using hW'.lt x (by simpa using hx)
  have hw0 : (d0.weights Try.prog 24).all (· ≤ reachBytes) = true := weights_head hsz
  obtain ⟨it, hit, hin, hsm⟩ := open_item fuel _ d0 p0 hf hlt hw0
  obtain rfl : cs = it.cells := Array.toList_inj.1 hit
  refine (cut_law it n W hin hsm).mono fun e W' ⟨he, hb⟩ => ?_
  subst he
  exact ⟨_, rfl, _, _, _, [], _, [], hW', trodAll_cons_mk (shut_bool Try.underlying4 _) trodAll_mk0, trodAll_cons_mk (Below.trod laidOut (by kernel_rfl) (of_decide_eq_true (by kernel_rfl)) h0k hb hlt) (trodAll_cons_mk (shut_int Try.underlying3 wn) trodAll_mk0), rfl, hb.frame _, fun h => by cases h⟩
theorem over : Rows.canonCutRow.holds Try.pinned (OpenSpec.ofChange Rows.canonCutSpec) :=
  OpenClaim.holds_of_wide 6 Try.f6 rfl rfl rfl rfl rfl rfl rfl ⟨rfl, rfl, rfl, rfl, rfl⟩ rfl rfl rfl rfl rfl (by kernel_rfl) Try.func6 (by kernel_rfl)
    (of_decide_eq_true (by kernel_rfl)) (by unfold Func.isWrapper; first | (rw [if_pos (by decide +kernel)]; kernel_rfl) | (rw [if_neg (by decide +kernel)]; exact ⟨rfl, rfl⟩))
    (fun os started H enc _ => lifted os started H enc)
end Go.Proofs.Ytlfefgfpachehaa.canonCutLaw

namespace Go.Proofs.Ytlfefgfpachehaa
theorem canonCut_said : Rows.CanonCutSaid := canonCutLaw.over
end Go.Proofs.Ytlfefgfpachehaa
