/- PROVED HERE: for every number the law CanonLong returns true (a text of so many bytes is written as long as its bytes are at most 65,536, alone and in a list, and read again), and the number reads afterwards as it did. No condition. -/
import Derived.Test.YtlfefgfpachehaaCAwake
import Derived.Test.YtlfefgfpachehaaRows
import Derived.ProofKit
import Derived.OpenShut
import Derived.Laws.IdiomStrings
namespace Go.Proofs.Ytlfefgfpachehaa
open Go.RowKit
open Cn

def zeros (N : Nat) : ByteArray := ⟨(List.replicate N (0 : UInt8)).toArray⟩
theorem zeros_size (N : Nat) : (zeros N).size = N := by rw [zeros, size_toArray, List.length_replicate]
def pT (N : Nat) : Pt := .mk 2 0 (zeros N) []
def pL (N : Nat) : Pt := .mk 3 0 ⟨#[]⟩ [pT N]
theorem len_T (N : Nat) : (Cn.bytes (pT N)).length = width N + N + 2 := by
  rw [pT, bytes_text, zeros_size, List.length_cons, List.length_append, num_length]
  have : (zeros N).data.toList.length = N := by simp [zeros]
  omega
theorem len_L (N : Nat) : (Cn.bytes (pL N)).length = width N + N + 5 := by
  rw [pL, bytes_list, List.length_cons, List.length_append, num_length, bytesAll, bytesAll, List.length_append, len_T]
  have : width ([pT N] : List Pt).length = 1 := (by decide : width 1 = 1)
  rw [this]; simp; omega
theorem may_T {N d : Nat} (h : N ≤ 65536) : may (pT N) d = true := by
  rw [pT, may, if_neg (by decide), if_pos rfl, zeros_size]; simp [h]
theorem may_L {N : Nat} (h : N ≤ 65536) : may (pL N) 6 = true := by
  have := may_T (d := 5) h
  rw [pL, may, if_neg (by decide), if_neg (by decide), if_pos rfl]
  simp [mayAll, this]
  rfl
theorem width_mid {N : Nat} (h1 : 65520 ≤ N) (h2 : N ≤ 65535) : width N = 2 := width_of (by decide) (by omega) (fun _ => by omega)
theorem width_top : width 65536 = 3 := by decide
theorem run_make_bytes (N : Nat) (h : N ≤ 65536) (w : World) : (Instr.makeSlice 50 (.int .i64 (N : Int)) (.int .i64 (N : Int))).run Try.prog w = .ok (.slice (some ⟨w.heap.size, 0, none⟩) N N) (w.alloc (.cells (madeCells #[.int .u8 0] N) 5)) := by
  obtain ⟨i, hi, hzz⟩ := Option.map_eq_some_iff.1 info_u8
  simp only [Prod.mk.injEq] at hzz
  obtain ⟨hz, hs, hb⟩ := hzz
  have := run_make (P := Try.prog) w 50 5 i _ Try.underlying50 hi hz .i64 .i64 N N (by omega) (Int.le_refl _) (by rw [hb]; omega) (by omega)
  rw [hs] at this
  simpa [Value.cells] using this
theorem run_back (N : Nat) (w : World) : (convert 50 9 (.slice (some ⟨w.heap.size, 0, none⟩) N N)).run Try.prog (w.alloc (.cells (madeCells #[.int .u8 0] N) 5)) = .ok (.string (zeros N)) (w.alloc (.cells (madeCells #[.int .u8 0] N) 5)) := by
  have := run_convert_bytes_back (P := Try.prog) (w.alloc (.cells (madeCells #[.int .u8 0] N) 5)) 50 9 5 ⟨w.heap.size, 0, none⟩ N (List.replicate N (0 : UInt8)) Try.underlying50 Try.underlying5 Try.underlying9 (fun j hj => by
    have hj' : j < N := by simpa using hj
    rw [show (⟨w.heap.size, 0, none⟩ : Addr).add j = ⟨w.heap.size, j, none⟩ by unfold Addr.add; split <;> simp_all, Lib.cell_of_heap (heap_alloc_new _ _)]
    simp [madeCells, hj', Nat.mod_one])
  simpa [zeros] using this
/-- One item in a row of its own. -/
theorem one_lies {w : World} {b : Nat} {Z : ByteArray} (hz : Z.size ≤ maxLen) (h : w.heap[b]? = some (.cells #[.int .i64 2, .int .i64 0, .string Z, .slice none 0 0] 24 (0, 0))) :
    Lies w (fun _ => True) (some ⟨b, 0, none⟩) [.mk 2 0 Z none 0 []] ∧ It.InAll w (fun _ => True) [.mk 2 0 Z none 0 []] := by
  refine ⟨⟨(by decide : 1 ≤ maxLen), fun _ => ⟨b, 0, rfl, lt_of_heap h, trivial, fun j x hx => ?_⟩⟩, ?_⟩
  · rw [Lib.cell_of_heap h, Lib.cell_of_heap h, Lib.cell_of_heap h, Lib.cell_of_heap h]
    match j, hx with
    | 0, hx => simp at hx; subst hx; exact ⟨rfl, rfl, rfl, rfl⟩
    | j + 1, hx => simp at hx
  · exact ⟨⟨hz, ⟨Nat.zero_le _, fun h => absurd rfl h⟩, trivial⟩, trivial⟩
theorem in_text {w : World} {Z : ByteArray} (hz : Z.size ≤ maxLen) : It.In w (fun _ => True) (.mk 2 0 Z none 0 []) := ⟨hz, ⟨Nat.zero_le _, fun h => absurd rfl h⟩, trivial⟩

/-- The four regions of lengths, and what is written there. -/
def Regime (N : Nat) (E1 E2 h : Int) : Prop := (E1 = 0 ∧ E2 = 0 ∧ h = 4 ∧ N ≤ 65529) ∨ (E1 = 0 ∧ E2 = 2 ∧ h = 4 ∧ 65530 ≤ N ∧ N ≤ 65532) ∨ (E1 = 2 ∧ E2 = 2 ∧ h = 4 ∧ 65533 ≤ N ∧ N ≤ 65535) ∨ (E1 = 2 ∧ E2 = 2 ∧ h = 5 ∧ N = 65536)
theorem regime {N : Nat} (h1 : 65520 ≤ N) (h2 : N ≤ 65536) : ∃ h, Regime N (encE (pT N)) (encE (pL N)) h := by
  rw [encE, encE, if_pos (may_T h2), if_pos (may_L h2), len_T, len_L]
  by_cases h3 : N = 65536
  · subst h3
    rw [width_top]
    exact ⟨5, .inr (.inr (.inr ⟨rfl, rfl, rfl, rfl⟩))⟩
  · rw [width_mid h1 (by omega)]
    refine ⟨4, ?_⟩
    by_cases a : N ≤ 65529
    · exact .inl ⟨if_pos (by omega), if_pos (by omega), rfl, a⟩
    · by_cases b : N ≤ 65532
      · exact .inr (.inl ⟨if_pos (by omega), if_neg (by omega), rfl, by omega, b⟩)
      · exact .inr (.inr (.inl ⟨if_neg (by omega), if_neg (by omega), rfl, by omega, by omega⟩))
theorem back_T {N : Nat} (h1 : 65520 ≤ N) (h : N ≤ 65532) : encS (pT N) = ⟨(Cn.bytes (pT N)).toArray⟩ ∧ decR (encS (pT N)).data.toList = .ok (pT N) := by
  have hl : (Cn.bytes (pT N)).length ≤ 65536 := by rw [len_T, width_mid h1 (by omega)]; omega
  have hm := may_T (N := N) (d := 6) (by omega)
  have he : encS (pT N) = ⟨(Cn.bytes (pT N)).toArray⟩ := by rw [encS, if_pos ⟨hm, hl⟩]
  refine ⟨he, ?_⟩
  have := item_bytes 6 (pT N) 0 0 [] hm (by omega)
  rw [List.append_nil] at this
  rw [he, decR, show (ByteArray.mk (Cn.bytes (pT N)).toArray).data.toList = Cn.bytes (pT N) by simp, this]
  rfl
theorem size_L {N : Nat} (h1 : 65520 ≤ N) (h : N ≤ 65529) : (encS (pL N)).size = N + 7 := by
  have hl : (Cn.bytes (pL N)).length = N + 7 := by rw [len_L, width_mid h1 (by omega)]; omega
  rw [encS, if_pos ⟨may_L (by omega), by omega⟩, size_toArray, hl]
theorem size_T {N : Nat} (h1 : 65520 ≤ N) (h : N ≤ 65532) : (encS (pT N)).size = N + 4 := by
  rw [(back_T h1 h).1, size_toArray, len_T, width_mid h1 (by omega)]; omega
set_option maxRecDepth 100000 in
set_option maxHeartbeats 1600000 in
theorem long_law (n : Int) (w : World) :
    Calls Try.prog 8 #[.int .i64 n] w fun e w' => e = .returned (.bool true) ∧ Below w.heap.size w w' := by
  have q1 : -16 ≤ n.tmod 17 := by have := Int.lt_tmod_of_pos n (show (0 : Int) < 17 by decide); omega
  have q2 : n.tmod 17 ≤ 16 := by have := Int.tmod_lt_of_pos n (show (0 : Int) < 17 by decide); omega
  obtain ⟨a, ha⟩ : ∃ a, a = n.tmod 17 := ⟨_, rfl⟩
  rw [← ha] at q1 q2
  have e0 : n.tmod 17 = a := ha.symm
  clear ha
  obtain ⟨M, hM⟩ : ∃ M : Nat, (M : Int) = (a + 17) % 17 := ⟨((a + 17) % 17).toNat, by omega⟩
  have e1 : (a + 17) % 17 = (M : Int) := hM.symm
  have hM17 : M < 17 := by omega
  clear hM
  obtain ⟨N, hN⟩ : ∃ N, N = 65520 + M := ⟨_, rfl⟩
  have e2 : (65520 : Int) + (M : Int) = (N : Int) := by omega
  have hlo : (65520 : Int) ≤ N := by omega
  have hhi : (N : Int) ≤ 65536 := by omega
  have hlo' : 65520 ≤ N := by omega
  have hhi' : N ≤ 65536 := by omega
  have hz : (zeros N).size ≤ maxLen := by rw [zeros_size]; unfold maxLen; omega
  have hmk := run_make_bytes N hhi'
  have hbk := run_back N w
  have hT := fun w' => encode_any (fun _ => True) (.mk 2 0 (zeros N) none 0 []) w' (in_text hz)
  obtain ⟨h, hreg⟩ := regime hlo' hhi'
  have hS1 := fun h => size_T (N := N) hlo' h
  have hS2 := fun h => size_L (N := N) hlo' h
  have hD := fun h => (back_T (N := N) hlo' h).2
  obtain ⟨E1, hE1⟩ : ∃ E, E = encE (pT N) := ⟨_, rfl⟩
  obtain ⟨E2, hE2⟩ : ∃ E, E = encE (pL N) := ⟨_, rfl⟩
  obtain ⟨S1, hS1e⟩ : ∃ E, E = encS (pT N) := ⟨_, rfl⟩
  obtain ⟨S2, hS2e⟩ : ∃ E, E = encS (pL N) := ⟨_, rfl⟩
  rw [show (It.mk 2 0 (zeros N) none 0 []).pure = pT N from rfl, ← hE1, ← hS1e] at hT
  rw [← hE1, ← hE2] at hreg
  rw [← hS1e] at hS1 hD
  rw [← hS2e] at hS2
  have HT := Lib.hid (And.intro hT (And.intro hz (And.intro hreg (And.intro hS1 (And.intro hS2 (And.intro hD (And.intro hE2 hS2e)))))))
  clear hT hz hN hreg hS1 hS2 hD hE1 hE2 hS1e hS2e
  go_enter Try.func8, Try.ntmps8
  go_wp2_with fail
  have hb1 : Below w.heap.size w (w.alloc (.cells (madeCells #[.int .u8 0] N) 5)) := (Below.refl _ _).alloc (Nat.le_refl _) _
  generalize World.alloc w _ = w1 at *
  clear hbk hmk
  refine (text_any _ _).mono ?_
  rintro e w2 ⟨rfl, hb2⟩
  have HB2 := Lib.hid (hb1.trans (hb2.mono hb1.size))
  clear hb1 hb2
  go_wp2_with fail
  refine (HT.out.1 _).mono ?_
  rintro e w3 ⟨rfl, hb3⟩
  have HB3 := Lib.hid (HB2.out.trans (hb3.mono HB2.out.size))
  clear hb3
  go_wp2_with fail
  refine (text_any _ _).mono ?_
  rintro e w4 ⟨rfl, hb4⟩
  have HB4 := Lib.hid (HB3.out.trans (hb4.mono HB3.out.size))
  clear hb4
  go_wp2_with fail
  have hrow := heap_alloc_new w4 (.cells #[.int .i64 2, .int .i64 0, .string (zeros N), .slice none 0 0] 24)
  have hb5 : Below w.heap.size w (w4.alloc (.cells #[.int .i64 2, .int .i64 0, .string (zeros N), .slice none 0 0] 24)) := HB4.out.alloc HB4.out.size _
  generalize World.alloc w4 _ = w5 at *
  obtain ⟨hl, hi⟩ := one_lies HT.out.2.1 hrow
  have hlist := list_any (fun _ => True) [.mk 2 0 (zeros N) none 0 []] (some ⟨w4.heap.size, 0, none⟩) 1 w5 hl hi (by simp [It.szAll, It.sz])
  have HB5 := Lib.hid hb5
  clear hb5 hrow hl hi
  refine hlist.mono ?_
  clear hlist
  rintro e w6 ⟨x, rfl, hp, hin, hb6⟩
  have HB6 := Lib.hid (HB5.out.trans (hb6.mono HB5.out.size))
  have henc := encode_any _ x w6 hin
  rw [hp, show Pt.mk 3 0 ⟨#[]⟩ (It.pureAll [It.mk 2 0 (zeros N) none 0 []]) = pL N from rfl, ← HT.out.2.2.2.2.2.2.1, ← HT.out.2.2.2.2.2.2.2] at henc
  have HE := Lib.hid henc
  clear hp hin hb6 henc
  obtain ⟨xk, xn, xs, xa, xc, xl⟩ := x
  simp only [It.val, It.cells, It.k, It.n, It.s, It.a, It.cap, It.l] at HE ⊢
  go_wp2_with fail
  refine HE.out.mono ?_
  rintro e w7 ⟨rfl, hb7⟩
  have HB7 := Lib.hid (HB6.out.trans (hb7.mono HB6.out.size))
  clear hb7
  have HM := Lib.hid (And.intro hM17 (And.intro e0 (And.intro e1 e2)))
  clear hM17 e0 e1 e2 q1 q2
  rcases HT.out.2.2.1 with ⟨r1, r2, r3, r4⟩ | ⟨r1, r2, r3, r4, r5⟩ | ⟨r1, r2, r3, r4, r5⟩ | ⟨r1, r2, r3, r4⟩
  · rw [r1, r2]
    have r4i : (N : Int) ≤ 65529 := by omega
    have hsz2 := HT.out.2.2.2.2.1 r4
    have hsz2i : (S2.size : Int) = (N : Int) + 7 := by omega
    have hsz1 := HT.out.2.2.2.1 (by omega)
    have hdec := decode_any S1 (by unfold maxLen; omega)
    rw [HT.out.2.2.2.2.2.1 (by omega)] at hdec
    have HD := Lib.hid hdec
    have HS2 := Lib.hid hsz2i
    clear hsz2 hsz1 hdec r1 r2 r3 r4 hsz2i hlo' hhi'
    go_wp2_with fail
    refine (awake_any _).mono ?_
    rintro e w8 ⟨rfl, hb8⟩
    have HB8 := Lib.hid (HB7.out.trans (hb8.mono HB7.out.size))
    clear hb8
    have hA1 : decide ((N : Int) + 4 ≤ 65536) = true := decide_eq_true (by omega)
    have hA2 : decide ((N : Int) + 4 + 3 ≤ 65536) = true := decide_eq_true (by omega)
    have hA3 : decide ((N : Int) + 7 ≤ 65536) = true := decide_eq_true (by omega)
    go_wp2_with fail
    refine (HD.out _).mono ?_
    rintro e w9 ⟨hb9, it, hp, rfl, -⟩
    have HB9 := Lib.hid (HB8.out.trans (hb9.mono HB8.out.size))
    clear hb9
    obtain ⟨yk, yn, ys, ya, yc, yl⟩ := it
    rw [It.pure_eq, pT] at hp
    injection hp with e1' e2' e3' e4'
    simp only [It.s] at e3'
    subst e3'
    clear e1' e2' e4'
    simp only [It.val, It.cells, It.k, It.n, It.s, It.a, It.cap, It.l]
    go_wp2_with fail
    go_ret
    exact ⟨ret_bool (by rw [HS2.out, beq_iff_eq]; omega), HB9.out.alloc HB9.out.size _⟩
  · rw [r1, r2]
    have r4i : (N : Int) ≤ 65532 := by omega
    have r5i : (65530 : Int) ≤ N := by omega
    have hsz1 := HT.out.2.2.2.1 (by omega)
    have hdec := decode_any S1 (by unfold maxLen; omega)
    rw [HT.out.2.2.2.2.2.1 (by omega)] at hdec
    have HD := Lib.hid hdec
    clear hsz1 hdec r1 r2 r3 r4 r5 hlo' hhi'
    go_wp2_with fail
    refine (awake_any _).mono ?_
    rintro e w8 ⟨rfl, hb8⟩
    have HB8 := Lib.hid (HB7.out.trans (hb8.mono HB7.out.size))
    clear hb8
    have hA1 : decide ((N : Int) + 4 ≤ 65536) = true := decide_eq_true (by omega)
    have hA2 : decide ((N : Int) + 4 + 3 ≤ 65536) = false := decide_eq_false (by omega)
    have hA3 : decide ((N : Int) + 7 ≤ 65536) = false := decide_eq_false (by omega)
    go_wp2_with fail
    refine (HD.out _).mono ?_
    rintro e w9 ⟨hb9, it, hp, rfl, -⟩
    have HB9 := Lib.hid (HB8.out.trans (hb9.mono HB8.out.size))
    clear hb9
    obtain ⟨yk, yn, ys, ya, yc, yl⟩ := it
    rw [It.pure_eq, pT] at hp
    injection hp with e1' e2' e3' e4'
    simp only [It.s] at e3'
    subst e3'
    clear e1' e2' e4'
    simp only [It.val, It.cells, It.k, It.n, It.s, It.a, It.cap, It.l]
    go_wp2_with fail
    go_ret
    exact ⟨rfl, HB9.out.alloc HB9.out.size _⟩
  · rw [r1, r2]
    have r4i : (N : Int) ≤ 65535 := by omega
    have r5i : (65533 : Int) ≤ N := by omega
    clear r1 r2 r3 r4 r5 hlo' hhi'
    go_wp2_with fail
    refine (awake_any _).mono ?_
    rintro e w8 ⟨rfl, hb8⟩
    have HB8 := Lib.hid (HB7.out.trans (hb8.mono HB7.out.size))
    clear hb8
    have hA1 : decide ((N : Int) + 4 ≤ 65536) = false := decide_eq_false (by omega)
    have hA2 : decide ((N : Int) + 4 + 3 ≤ 65536) = false := decide_eq_false (by omega)
    have hA3 : decide ((N : Int) + 7 ≤ 65536) = false := decide_eq_false (by omega)
    go_wp2_with fail
    go_ret
    exact ⟨rfl, HB8.out⟩
  · rw [r1, r2]
    have r4i : (65535 : Int) < N := by omega
    clear r1 r2 r3 r4 hlo' hhi'
    go_wp2_with fail
    refine (awake_any _).mono ?_
    rintro e w8 ⟨rfl, hb8⟩
    have HB8 := Lib.hid (HB7.out.trans (hb8.mono HB7.out.size))
    clear hb8
    have hA1 : decide ((N : Int) + 5 ≤ 65536) = false := decide_eq_false (by omega)
    have hA2 : decide ((N : Int) + 5 + 3 ≤ 65536) = false := decide_eq_false (by omega)
    have hA3 : decide ((N : Int) + 8 ≤ 65536) = false := decide_eq_false (by omega)
    go_wp2_with fail
    go_ret
    exact ⟨rfl, HB8.out⟩
end Go.Proofs.Ytlfefgfpachehaa

namespace Go.Proofs.Ytlfefgfpachehaa.canonLongLaw
open Go.ChangeShapes Go.WideShapes Go.ChangeAt Go.RowKit

theorem own : ownKnob Try.prog.godebug = none := by kernel_rfl
set_option maxRecDepth 100000 in
theorem lifted (os : Os) (started : os.Started) (H : Type) (enc : TypeId × Value → H) :
    ReturnsInHanded {} Try.checked os 8 .any (Rows.canonLongSpec.pre6 enc Try.prog Try.f8 Rows.canonLongRow.domain false) (Rows.canonLongSpec.post enc Try.prog Try.f8 false true false false) := by
  refine returnsInHanded_of_change (C := Try.checked) own started (by kernel_rfl) Try.func8
    (ChangeSpec.witness6 (enc := enc) (C := Try.checked) false ⟨#[], #[.int .i64 0], []⟩ 8 (by kernel_rfl) (by kernel_rfl) (by kernel_rfl) (by kernel_rfl)) ?_
  intro W base args ds gs before hval0 hW hcnd _
  have hval : ∀ (j : Nat) t v, Try.f8.params[j]? = some t → args[j]? = some v → Value.okWide Try.prog W .any base t v := hval0
  have hW' := hW
  obtain ⟨p, q, hA0, hV, rfl, hfz, hnd⟩ := hW
  have hA : DataW.TrodAll enc Try.prog W 0 (fun _ => true) true Try.f8.params.toList args.toList ds p := hA0
  rw [Try.params8] at hA hval
  obtain ⟨v0, vs0, d0, ds0, p0, q0, hargs, rfl, rfl, h0, r0⟩ := trodAll_cons hA
  obtain ⟨rfl, rfl, rfl⟩ := trodAll_nil r0
  obtain rfl : args = #[v0] := by cases args; simp_all
  obtain ⟨rfl, rfl⟩ := trodVars_none hV
  obtain ⟨n, rfl, rfl, rfl, wn⟩ := open_int Try.underlying3 (hval 0 3 v0 rfl rfl) h0
  clear hA0 hval0
  simp only [List.append_nil] at hW'
  refine (long_law n W).mono fun e W' ⟨he, hb⟩ => ?_
  subst he
  exact ⟨_, rfl, _, _, _, [], [], [], hW', trodAll_cons_mk (shut_bool Try.underlying4 _) trodAll_mk0, trodAll_cons_mk (shut_int Try.underlying3 wn) trodAll_mk0, rfl, hb.frame _, fun h => by cases h⟩

theorem over : Rows.canonLongRow.holds Try.pinned (OpenSpec.ofChange Rows.canonLongSpec) :=
  OpenClaim.holds_of_wide 8 Try.f8 rfl rfl rfl rfl rfl rfl rfl ⟨rfl, rfl, rfl, rfl, rfl⟩ rfl rfl rfl rfl rfl (by kernel_rfl) Try.func8 (by kernel_rfl)
    (of_decide_eq_true (by kernel_rfl)) (by unfold Func.isWrapper; first | (rw [if_pos (by decide +kernel)]; kernel_rfl) | (rw [if_neg (by decide +kernel)]; exact ⟨rfl, rfl⟩))
    (fun os started H enc _ => lifted os started H enc)
end Go.Proofs.Ytlfefgfpachehaa.canonLongLaw

namespace Go.Proofs.Ytlfefgfpachehaa
theorem canonLong_said : Rows.CanonLongSaid := canonLongLaw.over
end Go.Proofs.Ytlfefgfpachehaa
