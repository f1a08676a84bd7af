/- PROVED HERE: for every text the law CanonOnce returns true (what is read at the front of its bytes, written again, are the bytes that stood there, and the item may be), and the text reads afterwards as it did. No condition. -/
import Derived.Test.YtlfefgfpachehaaCAwake
import Derived.Test.YtlfefgfpachehaaRows
import Derived.ProofKit
import Derived.OpenShut
namespace Go.Proofs.Ytlfefgfpachehaa
open Go.RowKit
open Cn

set_option maxRecDepth 100000 in
set_option maxHeartbeats 400000 in
theorem once_off (s : ByteArray) (hsz : s.size ≤ maxLen) (w : World) (hno : 2000 < s.size ∨ ∃ x, item 6 0 0 s.data.toList = .error x) :
    Calls Try.prog 5 #[.string s] w fun e w' => e = .returned (.bool true) ∧ Below w.heap.size w w' := by
  by_cases hbig : (2000 : Int) < s.size
  · go_enter Try.func5, Try.ntmps5
    go_wp2_with fail
    refine (awake_any _).mono ?_
    rintro e w1 ⟨rfl, hb1⟩
    go_wp2_with fail
    go_ret
    exact ⟨rfl, hb1⟩
  · obtain ⟨x, hx⟩ : ∃ x, item 6 0 0 s.data.toList = .error x := hno.resolve_left (by omega)
    have hf := front_any s hsz w
    rw [hx] at hf
    have HF := Lib.hid hf
    clear hno hx hf
    go_enter Try.func5, Try.ntmps5
    go_wp2_with fail
    refine HF.out.mono ?_
    rintro e w1 ⟨hb1, hx0, rfl⟩
    have hxe : (x == 0) = false := by simpa using hx0
    have HB := Lib.hid hb1
    clear hb1 hx0
    simp only [zeroIt]
    go_wp2_with fail
    refine (awake_any _).mono ?_
    rintro e w2 ⟨rfl, hb2⟩
    have HB2 := Lib.hid ((HB.out.alloc HB.out.size (.cells zc 24)).trans (hb2.mono (by have := HB.out.size; simp; omega)))
    clear hb2
    go_wp2_with fail
    go_ret
    exact ⟨rfl, HB2.out⟩
set_option maxRecDepth 100000 in
set_option maxHeartbeats 400000 in
theorem once_on (T R : ByteArray) (x : Pt) (q : Nat) (hs : (T ++ R).size ≤ 2000) (hI : item 6 0 0 (T ++ R).data.toList = .ok (x, q, R.data.toList)) (hT : encS x = T) (hE : encE x = 0) (hM : may x 6 = true) (w : World) :
    Calls Try.prog 5 #[.string (T ++ R)] w fun e w' => e = .returned (.bool true) ∧ Below w.heap.size w w' := by
  have hf := front_any (T ++ R) (by unfold maxLen; omega) w
  rw [hI] at hf
  have hs2 : T.size + R.size ≤ 2000 := by rwa [ByteArray.size_append] at hs
  have hsi : ((T ++ R).size : Int) ≤ 2000 := by omega
  have hcat : ¬ 9223372036854775807 < T.size + R.size := by omega
  obtain ⟨A, hA⟩ : ∃ A, A = T ++ R := ⟨_, rfl⟩
  rw [← hA] at hf hsi ⊢
  have HF := Lib.hid (And.intro hf (And.intro hT (And.intro hE (And.intro hM hA))))
  clear hf hT hE hM hI hs hA
  go_enter Try.func5, Try.ntmps5
  go_wp2_with fail
  refine HF.out.1.mono ?_
  rintro e w1 ⟨hb1, it, hp, rfl, hin⟩
  have henc := fun w' (hb : Below w1.heap.size w1 w') => encode_any _ it w' (It.In.kept (keptS_any hb) it hin)
  have hchk := fun w' (hb : Below w1.heap.size w1 w') => check_any _ it w' (It.In.kept (keptS_any hb) it hin)
  rw [hp, HF.out.2.1, HF.out.2.2.1] at henc
  rw [hp, HF.out.2.2.2.1] at hchk
  rw [show (⟨R.data.toList.toArray⟩ : ByteArray) = R from str_eta R]
  have HX := Lib.hid (And.intro hb1 (And.intro henc hchk))
  clear hb1 henc hchk hp hin
  obtain ⟨xk, xn, xs, xa, xc, xl⟩ := it
  simp only [It.val, It.cells, It.k, It.n, It.s, It.a, It.cap, It.l] at HX ⊢
  go_wp2_with fail
  have hbx : Below w1.heap.size w1 (w1.alloc (.cells #[.int .i64 xk, .int .i64 xn, .string xs, .slice xa xl.length xc] 24)) := (Below.refl _ _).alloc (Nat.le_refl _) _
  have hrow := heap_alloc_new w1 (.cells #[.int .i64 xk, .int .i64 xn, .string xs, .slice xa xl.length xc] 24)
  generalize World.alloc w1 _ = w2 at *
  refine (HX.out.2.1 _ hbx).mono ?_
  rintro e w3 ⟨rfl, hb3⟩
  have hbx3 : Below w1.heap.size w1 w3 := hbx.trans (hb3.mono hbx.size)
  have hrow3 : w3.heap[w1.heap.size]? = some (.cells #[.int .i64 xk, .int .i64 xn, .string xs, .slice xa xl.length xc] 24 (0, 0)) := (hb3.block _ (lt_of_heap hrow)).trans hrow
  have H3 := Lib.hid (And.intro hbx3 hrow3)
  clear hbx hrow hb3 hbx3 hrow3
  go_wp2_with fail
  refine (awake_any _).mono ?_
  rintro e w4 ⟨rfl, hb4⟩
  have hbx4 : Below w1.heap.size w1 w4 := H3.out.1.trans (hb4.mono H3.out.1.size)
  have hrow4 : w4.heap[w1.heap.size]? = some (.cells #[.int .i64 xk, .int .i64 xn, .string xs, .slice xa xl.length xc] 24 (0, 0)) := (hb4.block _ (lt_of_heap H3.out.2)).trans H3.out.2
  have q0 : w4.cell? ⟨w1.heap.size, 0, none⟩ = some (.int .i64 xk) := by rw [Lib.cell_of_heap hrow4]; rfl
  have q1 : w4.cell? ⟨w1.heap.size, 1, none⟩ = some (.int .i64 xn) := by rw [Lib.cell_of_heap hrow4]; rfl
  have q2 : w4.cell? ⟨w1.heap.size, 2, none⟩ = some (.string xs) := by rw [Lib.cell_of_heap hrow4]; rfl
  have q3 : w4.cell? ⟨w1.heap.size, 3, none⟩ = some (.slice xa xl.length xc) := by rw [Lib.cell_of_heap hrow4]; rfl
  have H4 := Lib.hid hbx4
  clear hb4 hbx4 hrow4
  go_wp2_with fail
  refine (HX.out.2.2 _ H4.out).mono ?_
  rintro e w5 ⟨rfl, hb5⟩
  have H5 := Lib.hid (HX.out.1.trans ((H4.out.trans (hb5.mono H4.out.size)).mono HX.out.1.size))
  clear hb5
  have hAA := HF.out.2.2.2.2.symm
  go_wp2_with fail
  go_ret
  exact ⟨rfl, H5.out⟩
theorem once_law (s : ByteArray) (hsz : s.size ≤ maxLen) (w : World) :
    Calls Try.prog 5 #[.string s] w fun e w' => e = .returned (.bool true) ∧ Below w.heap.size w w' := by
  by_cases hbig : 2000 < s.size
  · exact once_off s hsz w (.inl hbig)
  · cases hI : item 6 0 0 s.data.toList with
    | error x => exact once_off s hsz w (.inr ⟨x, hI⟩)
    | ok y =>
      obtain ⟨x, q, r⟩ := y
      obtain ⟨h1, h2, h3, h4⟩ := item_ok _ _ _ _ _ _ _ hI
      have hle : (Cn.bytes x).length ≤ 65536 := by omega
      have hT : encS x = ⟨(Cn.bytes x).toArray⟩ := by rw [encS, if_pos ⟨h2, hle⟩]
      have hcat : s = ⟨(Cn.bytes x).toArray⟩ ++ ⟨r.toArray⟩ := Go.WideShapes.bytes_inj (by rw [h1]; simp)
      subst hcat
      exact once_on _ _ x q (by omega) (by simpa using hI) hT (by rw [encE, if_pos h2, if_pos hle]) h2 w
end Go.Proofs.Ytlfefgfpachehaa

namespace Go.Proofs.Ytlfefgfpachehaa.canonOnceLaw
open Go.ChangeShapes Go.WideShapes Go.ChangeAt Go.RowKit
open Go.ChangeMaps (open_string shut_string)

theorem own : ownKnob Try.prog.godebug = none := by kernel_rfl
set_option maxRecDepth 100000 in
theorem lifted (os : Os) (started : os.Started) (H : Type) (enc : TypeId × Value → H) :
    ReturnsInHanded {} Try.checked os 5 .any (Rows.canonOnceSpec.pre6 enc Try.prog Try.f5 Rows.canonOnceRow.domain false) (Rows.canonOnceSpec.post enc Try.prog Try.f5 false true false false) := by
  refine returnsInHanded_of_change (C := Try.checked) own started (by kernel_rfl) Try.func5
    (ChangeSpec.witness6 (enc := enc) (C := Try.checked) false ⟨#[], #[.string ⟨#[]⟩], []⟩ 8 (by kernel_rfl) (by kernel_rfl) (by kernel_rfl) (by kernel_rfl)) ?_
  intro W base args ds gs before hval0 hW hcnd _
  have hval : ∀ (j : Nat) t v, Try.f5.params[j]? = some t → args[j]? = some v → Value.okWide Try.prog W .any base t v := hval0
  have hW' := hW
  obtain ⟨p, q, hA0, hV, rfl, hfz, hnd⟩ := hW
  have hA : DataW.TrodAll enc Try.prog W 0 (fun _ => true) true Try.f5.params.toList args.toList ds p := hA0
  rw [Try.params5] at hA hval
  obtain ⟨v0, vs0, d0, ds0, p0, q0, hargs, rfl, rfl, h0, r0⟩ := trodAll_cons hA
  obtain ⟨rfl, rfl, rfl⟩ := trodAll_nil r0
  obtain rfl : args = #[v0] := by cases args; simp_all
  obtain ⟨rfl, rfl⟩ := trodVars_none hV
  obtain ⟨s, rfl, rfl, rfl, hs⟩ := open_string Try.underlying9 (hval 0 9 v0 rfl rfl) h0
  clear hA0 hval0
  simp only [List.append_nil] at hW'
  refine (once_law s (by simpa using hs) W).mono fun e W' ⟨he, hb⟩ => ?_
  subst he
  exact ⟨_, rfl, _, _, _, [], [], [], hW', trodAll_cons_mk (shut_bool Try.underlying4 _) trodAll_mk0, trodAll_cons_mk (shut_string Try.underlying9 hs) trodAll_mk0, rfl, hb.frame _, fun h => by cases h⟩

theorem over : Rows.canonOnceRow.holds Try.pinned (OpenSpec.ofChange Rows.canonOnceSpec) :=
  OpenClaim.holds_of_wide 5 Try.f5 rfl rfl rfl rfl rfl rfl rfl ⟨rfl, rfl, rfl, rfl, rfl⟩ rfl rfl rfl rfl rfl (by kernel_rfl) Try.func5 (by kernel_rfl)
    (of_decide_eq_true (by kernel_rfl)) (by unfold Func.isWrapper; first | (rw [if_pos (by decide +kernel)]; kernel_rfl) | (rw [if_neg (by decide +kernel)]; exact ⟨rfl, rfl⟩))
    (fun os started H enc _ => lifted os started H enc)
end Go.Proofs.Ytlfefgfpachehaa.canonOnceLaw

namespace Go.Proofs.Ytlfefgfpachehaa
theorem canonOnce_said : Rows.CanonOnceSaid := canonOnceLaw.over
end Go.Proofs.Ytlfefgfpachehaa
