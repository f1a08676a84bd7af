/- PROVED HERE: for every item and text the law CanonBack returns true (what is written is read as it was, whatever stands behind it), and both read afterwards as they did. No condition. -/
import Derived.Test.YtlfefgfpachehaaCCutLaw
import Derived.Test.YtlfefgfpachehaaCSame
namespace Go.Proofs.Ytlfefgfpachehaa
open Go.RowKit
open Cn

set_option maxRecDepth 100000 in
set_option maxHeartbeats 800000 in
theorem back_law (x : It) (t : ByteArray) (w : World) (hin : x.In w (fun _ => True)) (hsm : x.Small) :
    Calls Try.prog 4 #[x.val, .string t] w fun e w' => e = .returned (.bool true) ∧ Below w.heap.size w w' := by
  have hfew := fun w' (hb : Below w.heap.size w w') => few_any _ 2000 (by decide) x w' (It.In.kept (keptS_any hb) x hin) hsm
  have henc := fun w' (hb : Below w.heap.size w w') => encode_any _ x w' (It.In.kept (keptS_any hb) x hin)
  have hsame := fun w' (hb : Below w.heap.size w w') (y : It) (hy : y.In w' (fun _ => True)) => same_any x.sz x (Nat.le_refl _) (fun _ => True) y w' (It.In.kept (keptS_any hb) x hin) hy
  obtain ⟨P, hP⟩ : ∃ P, P = x.pure := ⟨_, rfl⟩
  rw [← hP] at hfew henc hsame
  obtain ⟨z, hz⟩ : ∃ z, z = decide (sizeP 2000 P 0 ≤ 2000) := ⟨_, rfl⟩
  rw [← hz] at hfew
  obtain ⟨E, hE⟩ : ∃ E, E = encE P := ⟨_, rfl⟩
  obtain ⟨T, hT⟩ : ∃ T, T = encS P := ⟨_, rfl⟩
  rw [← hE, ← hT] at henc
  have H := Lib.hid (And.intro hfew (And.intro henc (And.intro hE (And.intro hT hsame))))
  clear hfew henc hE hT hP hz hin hsm hsame
  obtain ⟨xk, xn, xs, xa, xc, xl⟩ := x
  simp only [It.val, It.cells, It.k, It.n, It.s, It.a, It.cap, It.l] at H ⊢
  by_cases ht : 500 < t.size
  · have hti : (500 : Int) < t.size := by omega
    have htd : decide ((500 : Int) < t.size) = true := decide_eq_true hti
    go_enter Try.func4, Try.ntmps4
    go_wp2_with fail
    have hb1 : Below w.heap.size w (w.alloc (.cells #[.int .i64 xk, .int .i64 xn, .string xs, .slice xa xl.length xc] 24)) := (Below.refl _ _).alloc (Nat.le_refl _) _
    generalize World.alloc w _ = w1 at *
    have H1 := Lib.hid hb1
    clear hb1
    refine (H.out.1 _ H1.out).mono ?_
    rintro e w2 ⟨rfl, hb2⟩
    have H2 := Lib.hid (H1.out.trans (hb2.mono H1.out.size))
    clear hb2
    cases z with
    | false =>
      go_wp2_with fail
      refine (awake_any _).mono ?_
      rintro e w3 ⟨rfl, hb3⟩
      have H3 := Lib.hid (H2.out.trans (hb3.mono H2.out.size))
      clear hb3
      go_wp2_with fail
      go_ret
      exact ⟨rfl, H3.out⟩
    | true =>
      go_wp2_with fail
      refine (awake_any _).mono ?_
      rintro e w3 ⟨rfl, hb3⟩
      have H3 := Lib.hid (H2.out.trans (hb3.mono H2.out.size))
      clear hb3
      go_wp2_with fail
      go_ret
      exact ⟨rfl, H3.out⟩
  · have hti : (t.size : Int) ≤ 500 := by omega
    have htd : decide ((500 : Int) < t.size) = false := decide_eq_false (by omega)
    go_enter Try.func4, Try.ntmps4
    go_wp2_with fail
    have hb1 : Below w.heap.size w (w.alloc (.cells #[.int .i64 xk, .int .i64 xn, .string xs, .slice xa xl.length xc] 24)) := (Below.refl _ _).alloc (Nat.le_refl _) _
    have hrow := heap_alloc_new w (.cells #[.int .i64 xk, .int .i64 xn, .string xs, .slice xa xl.length xc] 24)
    generalize World.alloc w _ = w1 at *
    have H1 := Lib.hid (And.intro hb1 hrow)
    clear hb1 hrow
    refine (H.out.1 _ H1.out.1).mono ?_
    rintro e w2 ⟨rfl, hb2⟩
    have hrow2 : w2.heap[w.heap.size]? = some (.cells #[.int .i64 xk, .int .i64 xn, .string xs, .slice xa xl.length xc] 24 (0, 0)) := (hb2.block _ (lt_of_heap H1.out.2)).trans H1.out.2
    have q0 : w2.cell? ⟨w.heap.size, 0, none⟩ = some (.int .i64 xk) := by rw [Lib.cell_of_heap hrow2]; rfl
    have q1 : w2.cell? ⟨w.heap.size, 1, none⟩ = some (.int .i64 xn) := by rw [Lib.cell_of_heap hrow2]; rfl
    have q2 : w2.cell? ⟨w.heap.size, 2, none⟩ = some (.string xs) := by rw [Lib.cell_of_heap hrow2]; rfl
    have q3 : w2.cell? ⟨w.heap.size, 3, none⟩ = some (.slice xa xl.length xc) := by rw [Lib.cell_of_heap hrow2]; rfl
    have H2 := Lib.hid (And.intro (H1.out.1.trans (hb2.mono H1.out.1.size)) hrow2)
    clear hb2 hrow2
    cases z with
    | false =>
      go_wp2_with fail
      refine (awake_any _).mono ?_
      rintro e w3 ⟨rfl, hb3⟩
      have H3 := Lib.hid (H2.out.1.trans (hb3.mono H2.out.1.size))
      clear hb3
      go_wp2_with fail
      go_ret
      exact ⟨rfl, H3.out⟩
    | true =>
      go_wp2_with fail
      refine (H.out.2.1 _ H2.out.1).mono ?_
      rintro e w3 ⟨rfl, hb3⟩
      have hrow3 : w3.heap[w.heap.size]? = some (.cells #[.int .i64 xk, .int .i64 xn, .string xs, .slice xa xl.length xc] 24 (0, 0)) := (hb3.block _ (lt_of_heap H2.out.2)).trans H2.out.2
      have H3 := Lib.hid (And.intro (H2.out.1.trans (hb3.mono H2.out.1.size)) hrow3)
      clear hb3 q0 q1 q2 q3 hrow3
      by_cases hE0 : E = 0
      · have hEP := H.out.2.2.1
        rw [hE0, encE] at hEP
        obtain ⟨hm, hl⟩ : may P 6 = true ∧ (Cn.bytes P).length ≤ 65536 := by
          by_cases hm : may P 6 = true
          · refine ⟨hm, ?_⟩
            rw [if_pos hm] at hEP
            by_cases hl : (Cn.bytes P).length ≤ 65536
            · exact hl
            · rw [if_neg hl] at hEP; omega
          · rw [if_neg hm] at hEP; omega
        have hTP : T = ⟨(Cn.bytes P).toArray⟩ := by rw [H.out.2.2.2.1, encS, if_pos ⟨hm, hl⟩]
        have hTs : T.size = (Cn.bytes P).length := by rw [hTP, size_toArray]
        have hcat : ¬ 9223372036854775807 < T.size + t.size := by omega
        have hitem : item 6 0 0 (T ++ t).data.toList = .ok (P, 0 + (Cn.bytes P).length, t.data.toList) := by
          have := item_bytes 6 P 0 0 t.data.toList hm (by omega)
          rw [show (T ++ t).data.toList = Cn.bytes P ++ t.data.toList by rw [hTP]; simp]
          exact this
        have hes : (T ++ t).size ≤ maxLen := by rw [ByteArray.size_append]; unfold maxLen; omega
        have HC := Lib.hid (And.intro hitem hes)
        subst hE0
        clear hEP hm hl hTP hTs hitem hes
        go_wp2_with fail
        have hfr := front_any (T ++ t) HC.out.2 w3
        rw [HC.out.1] at hfr
        refine hfr.mono ?_
        clear hfr
        rintro e w4 ⟨hb4, it, hp, rfl, hinY⟩
        rw [show (⟨t.data.toList.toArray⟩ : ByteArray) = t from str_eta t]
        have hrow4 : w4.heap[w.heap.size]? = some (.cells #[.int .i64 xk, .int .i64 xn, .string xs, .slice xa xl.length xc] 24 (0, 0)) := (hb4.block _ (lt_of_heap H3.out.2)).trans H3.out.2
        have H4 := Lib.hid (And.intro (H3.out.1.trans (hb4.mono H3.out.1.size)) (And.intro hrow4 (And.intro hp hinY)))
        have hsame := fun w' (hb : Below w4.heap.size w4 w') => H.out.2.2.2.2 w' (H4.out.1.trans (hb.mono H4.out.1.size)) it (It.In.kept (S := (w3.heap.size ≤ ·)) (T := fun _ => True) ⟨fun b _ hlt => ⟨trivial, hb.block b hlt⟩, hb.size⟩ it H4.out.2.2.2)
        rw [hp, sameP_refl] at hsame
        have HS := Lib.hid hsame
        clear hb4 hrow4 hp hinY hsame
        obtain ⟨yk, yn, ys, ya, yc, yl⟩ := it
        simp only [It.val, It.cells, It.k, It.n, It.s, It.a, It.cap, It.l] at HS ⊢
        go_wp2_with fail
        have hbx : Below w4.heap.size w4 (w4.alloc (.cells #[.int .i64 yk, .int .i64 yn, .string ys, .slice ya yl.length yc] 24)) := (Below.refl _ _).alloc (Nat.le_refl _) _
        have hrowy := heap_alloc_new w4 (.cells #[.int .i64 yk, .int .i64 yn, .string ys, .slice ya yl.length yc] 24)
        generalize World.alloc w4 _ = w5 at *
        have H5 := Lib.hid (And.intro hbx hrowy)
        clear hbx hrowy
        refine (awake_any _).mono ?_
        rintro e w6 ⟨rfl, hb6⟩
        have hb46 : Below w4.heap.size w4 w6 := H5.out.1.trans (hb6.mono H5.out.1.size)
        have hrowy6 : w6.heap[w4.heap.size]? = some (.cells #[.int .i64 yk, .int .i64 yn, .string ys, .slice ya yl.length yc] 24 (0, 0)) := (hb6.block _ (lt_of_heap H5.out.2)).trans H5.out.2
        have hrow6 : w6.heap[w.heap.size]? = some (.cells #[.int .i64 xk, .int .i64 xn, .string xs, .slice xa xl.length xc] 24 (0, 0)) := (hb46.block _ (lt_of_heap H4.out.2.1)).trans H4.out.2.1
        have q0 : w6.cell? ⟨w.heap.size, 0, none⟩ = some (.int .i64 xk) := by rw [Lib.cell_of_heap hrow6]; rfl
        have q1 : w6.cell? ⟨w.heap.size, 1, none⟩ = some (.int .i64 xn) := by rw [Lib.cell_of_heap hrow6]; rfl
        have q2 : w6.cell? ⟨w.heap.size, 2, none⟩ = some (.string xs) := by rw [Lib.cell_of_heap hrow6]; rfl
        have q3 : w6.cell? ⟨w.heap.size, 3, none⟩ = some (.slice xa xl.length xc) := by rw [Lib.cell_of_heap hrow6]; rfl
        have p0 : w6.cell? ⟨w4.heap.size, 0, none⟩ = some (.int .i64 yk) := by rw [Lib.cell_of_heap hrowy6]; rfl
        have p1 : w6.cell? ⟨w4.heap.size, 1, none⟩ = some (.int .i64 yn) := by rw [Lib.cell_of_heap hrowy6]; rfl
        have p2 : w6.cell? ⟨w4.heap.size, 2, none⟩ = some (.string ys) := by rw [Lib.cell_of_heap hrowy6]; rfl
        have p3 : w6.cell? ⟨w4.heap.size, 3, none⟩ = some (.slice ya yl.length yc) := by rw [Lib.cell_of_heap hrowy6]; rfl
        have H6 := Lib.hid hb46
        clear hb6 hb46 hrowy6 hrow6
        go_wp2_with fail
        refine (HS.out _ H6.out).mono ?_
        rintro e w7 ⟨rfl, hb7⟩
        have H7 := Lib.hid (H4.out.1.trans ((H6.out.trans (hb7.mono H6.out.size)).mono H4.out.1.size))
        clear hb7
        go_wp2_with fail
        go_ret
        exact ⟨rfl, H7.out⟩
      · have hEx : (E == 0) = false := by simpa using hE0
        have hTe : T = ⟨#[]⟩ := by
          rw [H.out.2.2.2.1, encS, if_neg]
          rintro ⟨hm, hl⟩
          exact hE0 (by rw [H.out.2.2.1, encE, if_pos hm, if_pos hl])
        subst hTe
        clear hE0
        go_wp2_with fail
        refine (awake_any _).mono ?_
        rintro e w4 ⟨rfl, hb4⟩
        have H4 := Lib.hid (H3.out.1.trans (hb4.mono H3.out.1.size))
        clear hb4
        go_wp2_with fail
        go_ret
        exact ⟨rfl, H4.out⟩
end Go.Proofs.Ytlfefgfpachehaa

namespace Go.Proofs.Ytlfefgfpachehaa.canonBackLaw
open Go.ChangeShapes Go.WideShapes Go.ChangeAt Go.RowKit
open Go.ChangeMaps (open_string shut_string)

theorem own : ownKnob Try.prog.godebug = none := by kernel_rfl
set_option maxRecDepth 100000 in
theorem lifted (os : Os) (started : os.Started) (H : Type) (enc : TypeId × Value → H) :
    ReturnsInHanded {} Try.checked os 4 .any (Rows.canonBackSpec.pre6 enc Try.prog Try.f4 Rows.canonBackRow.domain false) (Rows.canonBackSpec.post enc Try.prog Try.f4 false true false false) := by
  refine returnsInHanded_of_change_sized (C := Try.checked) own started (by kernel_rfl) Try.func4
    (ChangeSpec.witness6 (enc := enc) (C := Try.checked) false ⟨#[], #[.agg #[.int .i64 0, .int .i64 0, .string ⟨#[]⟩, .slice none 0 0], .string ⟨#[]⟩], []⟩ 8 (by kernel_rfl) (by kernel_rfl) (by kernel_rfl) (by kernel_rfl)) ?_
  intro W base args ds gs before hval0 hW hcnd hsz _
  have hval : ∀ (j : Nat) t v, Try.f4.params[j]? = some t → args[j]? = some v → Value.okWide Try.prog W .any base t v := hval0
  have hW' := hW
  obtain ⟨p, q, hA0, hV, rfl, hfz, hnd⟩ := hW
  have hA : DataW.TrodAll enc Try.prog W 0 (fun _ => true) true Try.f4.params.toList args.toList ds p := hA0
  rw [Try.params4] at hA hval
  obtain ⟨v0, vs0, d0, ds0, p0, q0, hargs, rfl, rfl, h0, r0⟩ := trodAll_cons hA
  obtain ⟨v1, vs1, d1, ds1, p1, q1, rfl, rfl, rfl, h1, r1⟩ := trodAll_cons r0
  obtain ⟨rfl, rfl, rfl⟩ := trodAll_nil r1
  obtain rfl : args = #[v0, v1] := by cases args; simp_all
  obtain ⟨rfl, rfl⟩ := trodVars_none hV
  obtain ⟨n, rfl, rfl, rfl, wn⟩ := open_string Try.underlying9 (hval 1 9 v1 rfl rfl) h1
  obtain ⟨cs, rfl, hcs⟩ := okWide_struct Try.underlying24 (hval 0 24 v0 rfl rfl)
  have h0k := h0
  obtain ⟨fuel, hf⟩ := h0
  clear hA0 hval0
  simp only [List.append_nil] at hW'
  have hlt : ∀ x ∈ p0, x.block < W.heap.size := fun x hx => by simpa using hW'.lt x (by simpa using hx)
  have hw0 : (d0.weights Try.prog 24).all (· ≤ reachBytes) = true := weights_head hsz
  obtain ⟨it, hit, hin, hsm⟩ := open_item fuel _ d0 p0 hf hlt hw0
  obtain rfl : cs = it.cells := Array.toList_inj.1 hit
  refine (back_law it n W hin hsm).mono fun e W' ⟨he, hb⟩ => ?_
  subst he
  exact ⟨_, rfl, _, _, _, [], _, [], hW', trodAll_cons_mk (shut_bool Try.underlying4 _) trodAll_mk0, trodAll_cons_mk (Below.trod laidOut (by kernel_rfl) (of_decide_eq_true (by kernel_rfl)) h0k hb hlt) (trodAll_cons_mk (shut_string Try.underlying9 wn) trodAll_mk0), rfl, hb.frame _, fun h => by cases h⟩
theorem over : Rows.canonBackRow.holds Try.pinned (OpenSpec.ofChange Rows.canonBackSpec) :=
  OpenClaim.holds_of_wide 4 Try.f4 rfl rfl rfl rfl rfl rfl rfl ⟨rfl, rfl, rfl, rfl, rfl⟩ rfl rfl rfl rfl rfl (by kernel_rfl) Try.func4 (by kernel_rfl)
    (of_decide_eq_true (by kernel_rfl)) (by unfold Func.isWrapper; first | (rw [if_pos (by decide +kernel)]; kernel_rfl) | (rw [if_neg (by decide +kernel)]; exact ⟨rfl, rfl⟩))
    (fun os started H enc _ => lifted os started H enc)
end Go.Proofs.Ytlfefgfpachehaa.canonBackLaw

namespace Go.Proofs.Ytlfefgfpachehaa
theorem canonBack_said : Rows.CanonBackSaid := canonBackLaw.over
end Go.Proofs.Ytlfefgfpachehaa
