/- policy: Check, Fits, Decide; slices.Index, Contains of texts. -/
import Derived.Test.YtnkkbinbeildmaaPyB
import Derived.Test.YtnkkbinbeildmaaWdOf
import Derived.Deep.RegionHeld
namespace Go.Proofs.Ytnkkbinbeildmaa
open Go.RowKit
theorem pblt_of_heap {w : World} {g : Nat} {o : Obj} (h : w.heap[g]? = some o) : g < w.heap.size := (Array.getElem?_eq_some_iff.1 h).1
/-- Sizes that the walks stand. -/
def RSz (r : Py.R) : Prop := r.who.size ≤ maxLen ∧ r.word.size ≤ 1000000
def QSz (q : Py.Q) : Prop := q.who.size ≤ maxLen ∧ q.reason.size ≤ maxLen
set_option maxRecDepth 100000 in
set_option maxHeartbeats 1000000 in
theorem check_any (l : List Py.R) (a0 : Option Addr) (cap : Nat) (hm : l.length ≤ 1000000) (hsz : ∀ r ∈ l, RSz r) (w : World) (hT : RecsAt 7 ruCs w a0 l) :
    Calls Try.prog 19 #[.slice a0 l.length cap] w fun e w' => e = .returned (.bool (Py.checkB l)) ∧ Below w.heap.size w w' := by
  obtain ⟨n, hn⟩ : ∃ n, n = l.length := ⟨_, rfl⟩
  obtain ⟨Z, hZ⟩ : ∃ Z, Z = Py.checkB l := ⟨_, rfl⟩
  rw [← hZ]
  have H := Lib.hid (And.intro hT (And.intro hn (And.intro hZ hsz)))
  rw [← hn] at hm ⊢
  clear hT hZ hsz hn
  by_cases h20 : n ≤ 20
  rotate_left
  · have g20 : (20 : Int) < (n : Int) := by omega
    have hv : Z = false := by rw [H.out.2.2.1]; unfold Py.checkB; rw [decide_eq_false (by have := H.out.2.1; omega), Bool.false_and]
    have HV := Lib.hid hv
    clear hv h20
    go_enter Try.func19, Try.ntmps19
    go_wp2_with fail
    go_ret
    exact ⟨by rw [HV.out]; rfl, Below.refl _ _⟩
  have g20 : ¬ ((20 : Int) < (n : Int)) := by omega
  have hall : Z = l.all Py.ruleB := by rw [H.out.2.2.1]; unfold Py.checkB; rw [decide_eq_true (by have := H.out.2.1; omega), Bool.true_and]
  have HA := Lib.hid hall
  clear hall h20
  go_enter Try.func19, Try.ntmps19
  go_wp2_with fail
  go_loopw [4, 10] (fun _ c wr => ∃ i : Nat, i ≤ n ∧ c = .int .i64 (i : Int) ∧ (∀ j, j < i → ∀ r, l[j]? = some r → Py.ruleB r = true) ∧ Below w.heap.size w wr) (fun _ c _ => n - (intOf c).toNat)
  case atStart => exact ⟨0, by omega, rfl, fun j hj => absurd hj (by omega), Below.refl _ _⟩
  case round =>
    obtain ⟨i, hi, rfl, hgood, hb⟩ := hrel
    by_cases hlt : i < n
    · obtain ⟨r, hr⟩ : ∃ r, l[i]? = some r := ⟨_, List.getElem?_eq_getElem (by have := H.out.2.1; omega)⟩
      obtain ⟨bb, off, rfl, hbl, hc⟩ := H.out.1.below hb i r hr
      have hrs := H.out.2.2.2 r (List.mem_of_getElem? hr)
      have hcall := fun W => mayBe_any r hrs.1 hrs.2 W
      unfold ruVal at hcall
      have hgood' : Py.ruleB r = true → ∀ j, j < i + 1 → ∀ r, l[j]? = some r → Py.ruleB r = true := fun hf j hj y hy => by
        by_cases e : j = i
        · subst e; rw [hr] at hy; injection hy with hy; subst hy; exact hf
        · exact hgood j (by omega) y hy
      have hbad : Py.ruleB r = false → Z = false := fun hf => by
        rw [HA.out, List.all_eq_false]
        exact ⟨r, List.mem_of_getElem? hr, by rw [hf]; decide⟩
      have m1 : ¬ bb = wr.heap.size := by omega
      have m2 : ¬ wr.heap.size = bb := by omega
      have HG := Lib.hid (And.intro hcall (And.intro hgood' (And.intro hbad hb)))
      clear hcall hgood hgood' hbad hb hr hrs
      have q0 : wr.cell? ⟨bb, off + i * 7, none⟩ = some (.string r.who) := hc 0 (by omega)
      have q1 : wr.cell? ⟨bb, off + i * 7 + 1, none⟩ = some (.string r.word) := hc 1 (by omega)
      have q2 : wr.cell? ⟨bb, off + i * 7 + 2, none⟩ = some (.int .i64 r.fr) := hc 2 (by omega)
      have q3 : wr.cell? ⟨bb, off + i * 7 + 3, none⟩ = some (.int .i64 r.to) := hc 3 (by omega)
      have q4 : wr.cell? ⟨bb, off + i * 7 + 4, none⟩ = some (.int .i64 r.un) := hc 4 (by omega)
      have q5 : wr.cell? ⟨bb, off + i * 7 + 5, none⟩ = some (.int .i64 r.mo) := hc 5 (by omega)
      have q6 : wr.cell? ⟨bb, off + i * 7 + 6, none⟩ = some (.bool r.allow) := hc 6 (by omega)
      clear hc
      cases hf : Py.ruleB r with
      | true =>
        rw [hf] at HG
        clear hf
        go_wp2_with fail
        refine (HG.out.1 _).mono ?_
        rintro e w3 ⟨rfl, hb3⟩
        have HB := Lib.hid ((HG.out.2.2.2.alloc HG.out.2.2.2.size _).trans (hb3.mono (HG.out.2.2.2.alloc HG.out.2.2.2.size _).size))
        clear hb3
        go_wp2_with fail
        go_roundw
        case rel => exact ⟨i + 1, by omega, by go_num, HG.out.2.1 (by first | rfl | trivial), HB.out⟩
        case measure => simp [intOf]; omega
      | false =>
        rw [hf] at HG
        clear hf
        go_wp2_with fail
        refine (HG.out.1 _).mono ?_
        rintro e w3 ⟨rfl, hb3⟩
        have HB := Lib.hid ((HG.out.2.2.2.alloc HG.out.2.2.2.size _).trans (hb3.mono (HG.out.2.2.2.alloc HG.out.2.2.2.size _).size))
        clear hb3
        go_wp2_with fail
        go_ret
        exact ⟨by rw [HG.out.2.2.1 (by first | rfl | trivial)]; rfl, HB.out⟩
    · have hend : Z = true := by
        rw [HA.out, List.all_eq_true]
        intro r hr
        obtain ⟨j, hj⟩ := List.mem_iff_getElem?.1 hr
        exact hgood j (by have := (List.getElem?_eq_some_iff.1 hj).1; have := H.out.2.1; omega) r hj
      have HE := Lib.hid (And.intro hend hb)
      clear hend hb hgood
      go_wp2_with fail
      go_ret
      exact ⟨by rw [HE.out.1]; rfl, HE.out.2⟩
/-- Is a text among others? -/
def inT (l : List ByteArray) (s : ByteArray) : Bool := l.any fun x => decide (x = s)
set_option maxRecDepth 100000 in
set_option maxHeartbeats 1000000 in
theorem tindex_any (ss : List ByteArray) (s : ByteArray) (a0 : Option Addr) (cap : Nat) (w : World) (hT : TextsAt w a0 ss) (hm : ss.length ≤ 1000000) :
    Calls Try.prog 70 #[.slice a0 ss.length cap, .string s] w fun e w' => ∃ k : Int, e = .returned (.int .i64 k) ∧ decide (0 ≤ k) = inT ss s ∧ w' = w := by
  obtain ⟨n, hn⟩ : ∃ n, n = ss.length := ⟨_, rfl⟩
  have HT := Lib.hid (And.intro hT hn)
  rw [← hn] at hm ⊢
  clear hT hn
  go_enter Try.func70, Try.ntmps70
  go_wp2_with fail
  go_loopw [5, 8] (fun _ c wr => ∃ i : Nat, i ≤ n ∧ c = .int .i64 i ∧ wr = w ∧ ∀ j, j < i → ss.getD j ByteArray.empty ≠ s) (fun _ c _ => n - (intOf c).toNat)
  case atStart => exact ⟨0, by omega, rfl, rfl, fun j hj => absurd hj (by omega)⟩
  case round =>
    obtain ⟨i, hi, rfl, rfl, hall⟩ := hrel
    have HA := Lib.hid hall
    clear hall
    by_cases hlt : i < n
    · obtain ⟨b, off, rfl, _, hc⟩ := HT.out.1 i (by have := HT.out.2; omega)
      obtain ⟨x, hx⟩ : ∃ x, x = ss.getD i ByteArray.empty := ⟨_, rfl⟩
      rw [← hx] at hc
      have HX := Lib.hid hx
      clear hx
      by_cases h32 : x = s
      · have e1 : (s.toList == x.toList) = true := peq_toList h32.symm
        have H32 := Lib.hid h32
        clear h32
        go_wp2_with fail
        go_ret
        refine ⟨(i : Int), rfl, ?_, rfl⟩
        rw [decide_eq_true (by omega)]
        symm
        unfold inT
        rw [List.any_eq_true]
        have hlen := HT.out.2
        refine ⟨ss.getD i ByteArray.empty, ?_, by rw [← HX.out, H32.out]; simp⟩
        rw [List.getD_eq_getElem?_getD, List.getElem?_eq_getElem (by omega)]
        exact List.getElem_mem _
      · have e1 : (s.toList == x.toList) = false := pne_toList (fun e => h32 e.symm)
        have H32 := Lib.hid h32
        clear h32
        go_wp2_with fail
        go_roundw
        case rel =>
          refine ⟨i + 1, by omega, by go_num, by first | rfl | trivial, fun j hj => ?_⟩
          by_cases e : j = i
          · rw [e, ← HX.out]; exact H32.out
          · exact HA.out j (by omega)
        case measure => simp [intOf]; omega
    · go_wp2_with fail
      go_ret
      refine ⟨-1, rfl, ?_, rfl⟩
      rw [decide_eq_false (by omega)]
      symm
      unfold inT
      rw [List.any_eq_false]
      intro x hx
      obtain ⟨j, hj⟩ := List.mem_iff_getElem?.1 hx
      have h1 := (List.getElem?_eq_some_iff.1 hj).1
      have h2 := HA.out j (by have := HT.out.2; omega)
      rw [List.getD_eq_getElem?_getD, hj] at h2
      simpa using h2
set_option maxRecDepth 100000 in
theorem tcontains_any (ss : List ByteArray) (s : ByteArray) (a0 : Option Addr) (cap : Nat) (w : World) (hT : TextsAt w a0 ss) (hm : ss.length ≤ 1000000) :
    Calls Try.prog 48 #[.slice a0 ss.length cap, .string s] w fun e w' => e = .returned (.bool (inT ss s)) ∧ w' = w := by
  have hc := tindex_any ss s a0 cap w hT hm
  obtain ⟨n, hn⟩ : ∃ n, n = ss.length := ⟨_, rfl⟩
  obtain ⟨Z, hZ⟩ : ∃ Z, Z = inT ss s := ⟨_, rfl⟩
  rw [← hn] at hc ⊢
  rw [← hZ] at hc ⊢
  have H := Lib.hid hc
  clear hc hT hm hn hZ
  go_enter Try.func48, Try.ntmps48
  go_wp2_with fail
  refine H.out.mono ?_
  rintro e w1 ⟨k, rfl, hk, rfl⟩
  have HK := Lib.hid hk
  clear hk
  by_cases h : 0 ≤ k
  · have hz : Z = true := by rw [← HK.out, decide_eq_true h]
    go_wp2_with fail
    go_ret
    exact ⟨by rw [hz]; rfl, rfl⟩
  · have hz : Z = false := by rw [← HK.out, decide_eq_false h]
    go_wp2_with fail
    go_ret
    exact ⟨by rw [hz]; show Ending.returned (Value.bool (decide (0 ≤ k))) = _; rw [decide_eq_false (by omega)], rfl⟩
set_option maxRecDepth 100000 in
set_option maxHeartbeats 8000000 in
theorem fits_any (r : Py.R) (q : Py.Q) (now : Int) (hr : RSz r) (hq : QSz q) (w : World) : Calls Try.prog 21 #[ruVal r, qVal q, .int .i64 now] w fun e w' => e = .returned (.bool (Py.fitsB r q now)) ∧ Below w.heap.size w w' := by
  obtain ⟨Z, hZ⟩ : ∃ Z, Z = Py.fitsB r q now := ⟨_, rfl⟩
  rw [← hZ]
  obtain ⟨w1, hw1⟩ : ∃ w1, w1 = (w.alloc (.cells (ruCs r) 46)).alloc (.cells (qCs q) 24) := ⟨_, rfl⟩
  obtain ⟨ga, hga⟩ : ∃ ga, ga = w.heap.size := ⟨_, rfl⟩
  obtain ⟨gq, hgq⟩ : ∃ gq, gq = w.heap.size + 1 := ⟨_, rfl⟩
  have hb1 : Below w.heap.size w w1 := by rw [hw1]; exact ((Below.refl _ _).alloc (Nat.le_refl _) _).alloc (by simp) _
  have a1 : w1.heap[ga]? = some (.cells (ruCs r) 46 (0, 0)) := by
    rw [hw1, hga]
    exact (heap_alloc_old _ _ (by simp)).trans (heap_alloc_new _ _)
  have a2 : w1.heap[gq]? = some (.cells (qCs q) 24 (0, 0)) := by
    rw [hw1, hgq]
    have := heap_alloc_new (w.alloc (.cells (ruCs r) 46)) (.cells (qCs q) 24)
    simpa using this
  have hmb := fun W => mayBe_any r hr.1 hr.2 W
  have hrq := fun W => preq_any q hq.1 hq.2 W
  have hof := fun (W : World) (h : q.reason.size ≤ 900000) => wof_any q.reason h W
  have h12 : (Wd.ofW q.reason.data.toList).length ≤ 12 := List.length_take_le _ _
  have hct := fun (W : World) (a : Option Addr) (c : Nat) (hT : TextsAt W a (Wd.ofW q.reason.data.toList)) => tcontains_any (Wd.ofW q.reason.data.toList) r.word a c W hT (by omega)
  unfold ruVal at hmb
  unfold qVal at hrq
  obtain ⟨T, hT⟩ : ∃ T, T = Wd.ofW q.reason.data.toList := ⟨_, rfl⟩
  have hhas : Py.hasW q r.word = inT T r.word := by rw [hT]; rfl
  rw [← hT] at hof hct
  obtain ⟨tn, htn⟩ : ∃ tn, tn = T.length := ⟨_, rfl⟩
  rw [← htn] at hof hct
  have H := Lib.hid (And.intro hmb (And.intro hrq (And.intro hof (And.intro hct hb1))))
  have HA := Lib.hid (And.intro a1 a2)
  unfold Py.fitsB at hZ
  rw [hhas] at hZ
  clear hmb hrq hof hct hb1 a1 a2 hr hhas hT htn h12
  obtain ⟨M, hM⟩ : ∃ M, M = Py.ruleB r := ⟨_, rfl⟩
  obtain ⟨N, hN⟩ : ∃ N, N = Py.mayB q := ⟨_, rfl⟩
  have hreason : N = true → q.reason.size ≤ 900000 := fun h => by
    rw [hN] at h
    simp only [Py.mayB, Bool.and_eq_true, decide_eq_true_eq] at h
    omega
  obtain ⟨V, hV⟩ : ∃ V, V = inT T r.word := ⟨_, rfl⟩
  rw [← hM] at hZ H
  rw [← hN] at hZ H
  rw [← hV] at hZ H
  clear hM hN hV
  unfold ruVal qVal
  unfold ruCs qCs at hw1
  cases M with
  | false =>
    have hz : Z = false := by rw [hZ]; rfl
    clear hZ
    go_enter Try.func21, Try.ntmps21
    go_upto_region 1 with fail
    rw [← hw1, ← hgq, ← hga]
    clear hw1 hga hgq
    have X := HA.out.1
    have c0 : w1.cell? ⟨ga, 0, none⟩ = some (.string r.who) := by rw [cell_of_row _ _ _ _ _ _ X]; rfl
    have c1 : w1.cell? ⟨ga, 1, none⟩ = some (.string r.word) := by rw [cell_of_row _ _ _ _ _ _ X]; rfl
    have c2 : w1.cell? ⟨ga, 2, none⟩ = some (.int .i64 r.fr) := by rw [cell_of_row _ _ _ _ _ _ X]; rfl
    have c3 : w1.cell? ⟨ga, 3, none⟩ = some (.int .i64 r.to) := by rw [cell_of_row _ _ _ _ _ _ X]; rfl
    have c4 : w1.cell? ⟨ga, 4, none⟩ = some (.int .i64 r.un) := by rw [cell_of_row _ _ _ _ _ _ X]; rfl
    have c5 : w1.cell? ⟨ga, 5, none⟩ = some (.int .i64 r.mo) := by rw [cell_of_row _ _ _ _ _ _ X]; rfl
    have c6 : w1.cell? ⟨ga, 6, none⟩ = some (.bool r.allow) := by rw [cell_of_row _ _ _ _ _ _ X]; rfl
    clear X
    have X := HA.out.2
    have d0 : w1.cell? ⟨gq, 0, none⟩ = some (.int .i64 q.id) := by rw [cell_of_row _ _ _ _ _ _ X]; rfl
    have d1 : w1.cell? ⟨gq, 1, none⟩ = some (.string q.who) := by rw [cell_of_row _ _ _ _ _ _ X]; rfl
    have d2 : w1.cell? ⟨gq, 2, none⟩ = some (.int .i64 q.entry) := by rw [cell_of_row _ _ _ _ _ _ X]; rfl
    have d3 : w1.cell? ⟨gq, 3, none⟩ = some (.string q.reason) := by rw [cell_of_row _ _ _ _ _ _ X]; rfl
    have d4 : w1.cell? ⟨gq, 4, none⟩ = some (.int .i64 q.exp) := by rw [cell_of_row _ _ _ _ _ _ X]; rfl
    clear X
    go_wp2_with fail
    refine (H.out.1 _).mono ?_
    rintro e w2 ⟨rfl, hb2⟩
    have H2 := Lib.hid (And.intro ((hb2.block ga (pblt_of_heap HA.out.1)).trans HA.out.1) (And.intro ((hb2.block gq (pblt_of_heap HA.out.2)).trans HA.out.2) (H.out.2.2.2.2.trans (hb2.mono H.out.2.2.2.2.size))))
    clear hb2 c0 c1 c2 c3 c4 c5 c6 d0 d1 d2 d3 d4
    have X := H2.out.1
    have c0 : w2.cell? ⟨ga, 0, none⟩ = some (.string r.who) := by rw [cell_of_row _ _ _ _ _ _ X]; rfl
    have c1 : w2.cell? ⟨ga, 1, none⟩ = some (.string r.word) := by rw [cell_of_row _ _ _ _ _ _ X]; rfl
    have c2 : w2.cell? ⟨ga, 2, none⟩ = some (.int .i64 r.fr) := by rw [cell_of_row _ _ _ _ _ _ X]; rfl
    have c3 : w2.cell? ⟨ga, 3, none⟩ = some (.int .i64 r.to) := by rw [cell_of_row _ _ _ _ _ _ X]; rfl
    have c4 : w2.cell? ⟨ga, 4, none⟩ = some (.int .i64 r.un) := by rw [cell_of_row _ _ _ _ _ _ X]; rfl
    have c5 : w2.cell? ⟨ga, 5, none⟩ = some (.int .i64 r.mo) := by rw [cell_of_row _ _ _ _ _ _ X]; rfl
    have c6 : w2.cell? ⟨ga, 6, none⟩ = some (.bool r.allow) := by rw [cell_of_row _ _ _ _ _ _ X]; rfl
    clear X
    have X := H2.out.2.1
    have d0 : w2.cell? ⟨gq, 0, none⟩ = some (.int .i64 q.id) := by rw [cell_of_row _ _ _ _ _ _ X]; rfl
    have d1 : w2.cell? ⟨gq, 1, none⟩ = some (.string q.who) := by rw [cell_of_row _ _ _ _ _ _ X]; rfl
    have d2 : w2.cell? ⟨gq, 2, none⟩ = some (.int .i64 q.entry) := by rw [cell_of_row _ _ _ _ _ _ X]; rfl
    have d3 : w2.cell? ⟨gq, 3, none⟩ = some (.string q.reason) := by rw [cell_of_row _ _ _ _ _ _ X]; rfl
    have d4 : w2.cell? ⟨gq, 4, none⟩ = some (.int .i64 q.exp) := by rw [cell_of_row _ _ _ _ _ _ X]; rfl
    clear X
    go_wp2_with fail
    go_ret
    exact ⟨by rw [hz]; rfl, H2.out.2.2⟩
  | true =>
  cases N with
  | false =>
    have hz : Z = false := by rw [hZ]; rfl
    clear hZ
    go_enter Try.func21, Try.ntmps21
    go_upto_region 1 with fail
    rw [← hw1, ← hgq, ← hga]
    clear hw1 hga hgq
    have X := HA.out.1
    have c0 : w1.cell? ⟨ga, 0, none⟩ = some (.string r.who) := by rw [cell_of_row _ _ _ _ _ _ X]; rfl
    have c1 : w1.cell? ⟨ga, 1, none⟩ = some (.string r.word) := by rw [cell_of_row _ _ _ _ _ _ X]; rfl
    have c2 : w1.cell? ⟨ga, 2, none⟩ = some (.int .i64 r.fr) := by rw [cell_of_row _ _ _ _ _ _ X]; rfl
    have c3 : w1.cell? ⟨ga, 3, none⟩ = some (.int .i64 r.to) := by rw [cell_of_row _ _ _ _ _ _ X]; rfl
    have c4 : w1.cell? ⟨ga, 4, none⟩ = some (.int .i64 r.un) := by rw [cell_of_row _ _ _ _ _ _ X]; rfl
    have c5 : w1.cell? ⟨ga, 5, none⟩ = some (.int .i64 r.mo) := by rw [cell_of_row _ _ _ _ _ _ X]; rfl
    have c6 : w1.cell? ⟨ga, 6, none⟩ = some (.bool r.allow) := by rw [cell_of_row _ _ _ _ _ _ X]; rfl
    clear X
    have X := HA.out.2
    have d0 : w1.cell? ⟨gq, 0, none⟩ = some (.int .i64 q.id) := by rw [cell_of_row _ _ _ _ _ _ X]; rfl
    have d1 : w1.cell? ⟨gq, 1, none⟩ = some (.string q.who) := by rw [cell_of_row _ _ _ _ _ _ X]; rfl
    have d2 : w1.cell? ⟨gq, 2, none⟩ = some (.int .i64 q.entry) := by rw [cell_of_row _ _ _ _ _ _ X]; rfl
    have d3 : w1.cell? ⟨gq, 3, none⟩ = some (.string q.reason) := by rw [cell_of_row _ _ _ _ _ _ X]; rfl
    have d4 : w1.cell? ⟨gq, 4, none⟩ = some (.int .i64 q.exp) := by rw [cell_of_row _ _ _ _ _ _ X]; rfl
    clear X
    go_wp2_with fail
    refine (H.out.1 _).mono ?_
    rintro e w2 ⟨rfl, hb2⟩
    have H2 := Lib.hid (And.intro ((hb2.block ga (pblt_of_heap HA.out.1)).trans HA.out.1) (And.intro ((hb2.block gq (pblt_of_heap HA.out.2)).trans HA.out.2) (H.out.2.2.2.2.trans (hb2.mono H.out.2.2.2.2.size))))
    clear hb2 c0 c1 c2 c3 c4 c5 c6 d0 d1 d2 d3 d4
    have X := H2.out.1
    have c0 : w2.cell? ⟨ga, 0, none⟩ = some (.string r.who) := by rw [cell_of_row _ _ _ _ _ _ X]; rfl
    have c1 : w2.cell? ⟨ga, 1, none⟩ = some (.string r.word) := by rw [cell_of_row _ _ _ _ _ _ X]; rfl
    have c2 : w2.cell? ⟨ga, 2, none⟩ = some (.int .i64 r.fr) := by rw [cell_of_row _ _ _ _ _ _ X]; rfl
    have c3 : w2.cell? ⟨ga, 3, none⟩ = some (.int .i64 r.to) := by rw [cell_of_row _ _ _ _ _ _ X]; rfl
    have c4 : w2.cell? ⟨ga, 4, none⟩ = some (.int .i64 r.un) := by rw [cell_of_row _ _ _ _ _ _ X]; rfl
    have c5 : w2.cell? ⟨ga, 5, none⟩ = some (.int .i64 r.mo) := by rw [cell_of_row _ _ _ _ _ _ X]; rfl
    have c6 : w2.cell? ⟨ga, 6, none⟩ = some (.bool r.allow) := by rw [cell_of_row _ _ _ _ _ _ X]; rfl
    clear X
    have X := H2.out.2.1
    have d0 : w2.cell? ⟨gq, 0, none⟩ = some (.int .i64 q.id) := by rw [cell_of_row _ _ _ _ _ _ X]; rfl
    have d1 : w2.cell? ⟨gq, 1, none⟩ = some (.string q.who) := by rw [cell_of_row _ _ _ _ _ _ X]; rfl
    have d2 : w2.cell? ⟨gq, 2, none⟩ = some (.int .i64 q.entry) := by rw [cell_of_row _ _ _ _ _ _ X]; rfl
    have d3 : w2.cell? ⟨gq, 3, none⟩ = some (.string q.reason) := by rw [cell_of_row _ _ _ _ _ _ X]; rfl
    have d4 : w2.cell? ⟨gq, 4, none⟩ = some (.int .i64 q.exp) := by rw [cell_of_row _ _ _ _ _ _ X]; rfl
    clear X
    go_wp2_with fail
    refine (H.out.2.1 _).mono ?_
    rintro e w3 ⟨rfl, hb3⟩
    have H3 := Lib.hid (And.intro ((hb3.block ga (pblt_of_heap H2.out.1)).trans H2.out.1) (And.intro ((hb3.block gq (pblt_of_heap H2.out.2.1)).trans H2.out.2.1) (H2.out.2.2.trans (hb3.mono H2.out.2.2.size))))
    clear hb3 c0 c1 c2 c3 c4 c5 c6 d0 d1 d2 d3 d4
    have X := H3.out.1
    have c0 : w3.cell? ⟨ga, 0, none⟩ = some (.string r.who) := by rw [cell_of_row _ _ _ _ _ _ X]; rfl
    clear X
    have X := H3.out.2.1
    have d1 : w3.cell? ⟨gq, 1, none⟩ = some (.string q.who) := by rw [cell_of_row _ _ _ _ _ _ X]; rfl
    clear X
    go_wp2_with fail
    go_ret
    exact ⟨by rw [hz]; rfl, H3.out.2.2⟩
  | true =>
  have hrs := hreason rfl
  rw [Bool.true_and, Bool.true_and] at hZ
  have HZ := Lib.hid hZ
  have HRS := Lib.hid hrs
  clear hZ hreason hrs
  by_cases hA : r.who.size = 0
  · have gA : r.who.toList.isEmpty = true := empty_list hA
    by_cases hC : r.word.size = 0
    · have gC : r.word.toList.isEmpty = true := empty_list hC
      have hz : Z = (decide (r.fr ≤ q.entry) && decide (q.entry < r.to) && decide (now ≤ r.un)) := by rw [HZ.out, decide_eq_true hA, decide_eq_true hC]; simp
      clear hA hC
      go_enter Try.func21, Try.ntmps21
      go_upto_region 1 with fail
      rw [← hw1, ← hgq, ← hga]
      clear hw1 hga hgq
      have X := HA.out.1
      have c0 : w1.cell? ⟨ga, 0, none⟩ = some (.string r.who) := by rw [cell_of_row _ _ _ _ _ _ X]; rfl
      have c1 : w1.cell? ⟨ga, 1, none⟩ = some (.string r.word) := by rw [cell_of_row _ _ _ _ _ _ X]; rfl
      have c2 : w1.cell? ⟨ga, 2, none⟩ = some (.int .i64 r.fr) := by rw [cell_of_row _ _ _ _ _ _ X]; rfl
      have c3 : w1.cell? ⟨ga, 3, none⟩ = some (.int .i64 r.to) := by rw [cell_of_row _ _ _ _ _ _ X]; rfl
      have c4 : w1.cell? ⟨ga, 4, none⟩ = some (.int .i64 r.un) := by rw [cell_of_row _ _ _ _ _ _ X]; rfl
      have c5 : w1.cell? ⟨ga, 5, none⟩ = some (.int .i64 r.mo) := by rw [cell_of_row _ _ _ _ _ _ X]; rfl
      have c6 : w1.cell? ⟨ga, 6, none⟩ = some (.bool r.allow) := by rw [cell_of_row _ _ _ _ _ _ X]; rfl
      clear X
      have X := HA.out.2
      have d0 : w1.cell? ⟨gq, 0, none⟩ = some (.int .i64 q.id) := by rw [cell_of_row _ _ _ _ _ _ X]; rfl
      have d1 : w1.cell? ⟨gq, 1, none⟩ = some (.string q.who) := by rw [cell_of_row _ _ _ _ _ _ X]; rfl
      have d2 : w1.cell? ⟨gq, 2, none⟩ = some (.int .i64 q.entry) := by rw [cell_of_row _ _ _ _ _ _ X]; rfl
      have d3 : w1.cell? ⟨gq, 3, none⟩ = some (.string q.reason) := by rw [cell_of_row _ _ _ _ _ _ X]; rfl
      have d4 : w1.cell? ⟨gq, 4, none⟩ = some (.int .i64 q.exp) := by rw [cell_of_row _ _ _ _ _ _ X]; rfl
      clear X
      go_wp2_with fail
      refine (H.out.1 _).mono ?_
      rintro e w2 ⟨rfl, hb2⟩
      have H2 := Lib.hid (And.intro ((hb2.block ga (pblt_of_heap HA.out.1)).trans HA.out.1) (And.intro ((hb2.block gq (pblt_of_heap HA.out.2)).trans HA.out.2) (H.out.2.2.2.2.trans (hb2.mono H.out.2.2.2.2.size))))
      clear hb2 c0 c1 c2 c3 c4 c5 c6 d0 d1 d2 d3 d4
      have X := H2.out.1
      have c0 : w2.cell? ⟨ga, 0, none⟩ = some (.string r.who) := by rw [cell_of_row _ _ _ _ _ _ X]; rfl
      have c1 : w2.cell? ⟨ga, 1, none⟩ = some (.string r.word) := by rw [cell_of_row _ _ _ _ _ _ X]; rfl
      have c2 : w2.cell? ⟨ga, 2, none⟩ = some (.int .i64 r.fr) := by rw [cell_of_row _ _ _ _ _ _ X]; rfl
      have c3 : w2.cell? ⟨ga, 3, none⟩ = some (.int .i64 r.to) := by rw [cell_of_row _ _ _ _ _ _ X]; rfl
      have c4 : w2.cell? ⟨ga, 4, none⟩ = some (.int .i64 r.un) := by rw [cell_of_row _ _ _ _ _ _ X]; rfl
      have c5 : w2.cell? ⟨ga, 5, none⟩ = some (.int .i64 r.mo) := by rw [cell_of_row _ _ _ _ _ _ X]; rfl
      have c6 : w2.cell? ⟨ga, 6, none⟩ = some (.bool r.allow) := by rw [cell_of_row _ _ _ _ _ _ X]; rfl
      clear X
      have X := H2.out.2.1
      have d0 : w2.cell? ⟨gq, 0, none⟩ = some (.int .i64 q.id) := by rw [cell_of_row _ _ _ _ _ _ X]; rfl
      have d1 : w2.cell? ⟨gq, 1, none⟩ = some (.string q.who) := by rw [cell_of_row _ _ _ _ _ _ X]; rfl
      have d2 : w2.cell? ⟨gq, 2, none⟩ = some (.int .i64 q.entry) := by rw [cell_of_row _ _ _ _ _ _ X]; rfl
      have d3 : w2.cell? ⟨gq, 3, none⟩ = some (.string q.reason) := by rw [cell_of_row _ _ _ _ _ _ X]; rfl
      have d4 : w2.cell? ⟨gq, 4, none⟩ = some (.int .i64 q.exp) := by rw [cell_of_row _ _ _ _ _ _ X]; rfl
      clear X
      go_wp2_with fail
      refine (H.out.2.1 _).mono ?_
      rintro e w3 ⟨rfl, hb3⟩
      have H3 := Lib.hid (And.intro ((hb3.block ga (pblt_of_heap H2.out.1)).trans H2.out.1) (And.intro ((hb3.block gq (pblt_of_heap H2.out.2.1)).trans H2.out.2.1) (H2.out.2.2.trans (hb3.mono H2.out.2.2.size))))
      clear hb3 c0 c1 c2 c3 c4 c5 c6 d0 d1 d2 d3 d4
      have X := H3.out.1
      have c0 : w3.cell? ⟨ga, 0, none⟩ = some (.string r.who) := by rw [cell_of_row _ _ _ _ _ _ X]; rfl
      clear X
      have X := H3.out.2.1
      have d1 : w3.cell? ⟨gq, 1, none⟩ = some (.string q.who) := by rw [cell_of_row _ _ _ _ _ _ X]; rfl
      clear X
      go_upto_region 4 with fail
      clear c0 d1
      refine wp_region_held (S := fun W : World => (W.heap[ga]? = some (.cells (ruCs r) 46 (0, 0)) ∧ W.heap[gq]? = some (.cells (qCs q) 24 (0, 0)))) (by kernel_rfl) ?_
      change wpAnyH _ _ _ _ _ _ _ _ (World.drew _)
      generalize hv0 : World.drew _ = v0
      have E0 : (v0.heap[ga]? = some (.cells (ruCs r) 46 (0, 0)) ∧ v0.heap[gq]? = some (.cells (qCs q) 24 (0, 0))) := by rw [← hv0]; exact ⟨H3.out.1, H3.out.2.1⟩
      have F0 : Below w3.heap.size w3 v0 := by rw [← hv0]; exact ((Below.refl _ _).drew)
      clear hv0
      refine wpAnyH_take (i := 0) (v := ?_) rfl (by kernel_rfl) (by kernel_rfl) (by kernel_rfl) (fun _ _ _ h => h) (Or.inl ⟨by kernel_rfl, ?_⟩) E0 ?_
      rotate_left
      · (intro W hS; have k1 : W.cell? ⟨ga, 1, none⟩ = some (.string r.word) := (by rw [cell_of_row _ _ _ _ _ _ hS.1]; rfl); have k3 : W.cell? ⟨gq, 3, none⟩ = some (.string q.reason) := (by rw [cell_of_row _ _ _ _ _ _ hS.2]; rfl); go_simp; try (with_reducible rfl))
      refine wpAnyH_take (i := 1) (v := ?_) rfl (by kernel_rfl) (by kernel_rfl) (by kernel_rfl) (fun _ _ _ h => h) (Or.inl ⟨by kernel_rfl, ?_⟩) E0 ?_
      rotate_left
      · (intro W hS; have k1 : W.cell? ⟨ga, 1, none⟩ = some (.string r.word) := (by rw [cell_of_row _ _ _ _ _ _ hS.1]; rfl); have k3 : W.cell? ⟨gq, 3, none⟩ = some (.string q.reason) := (by rw [cell_of_row _ _ _ _ _ _ hS.2]; rfl); go_simp; try (with_reducible rfl))
      refine wpAnyH_take (i := 2) (v := ?_) rfl (by kernel_rfl) (by kernel_rfl) (by kernel_rfl) (fun _ _ _ h => h) (Or.inl ⟨by kernel_rfl, ?_⟩) E0 ?_
      rotate_left
      · (intro W hS; have k1 : W.cell? ⟨ga, 1, none⟩ = some (.string r.word) := (by rw [cell_of_row _ _ _ _ _ _ hS.1]; rfl); have k3 : W.cell? ⟨gq, 3, none⟩ = some (.string q.reason) := (by rw [cell_of_row _ _ _ _ _ _ hS.2]; rfl); go_simp; try (with_reducible rfl))
      refine wpAnyH_take (i := 3) (v := ?_) rfl (by kernel_rfl) (by kernel_rfl) (by kernel_rfl) (fun _ _ _ h => h) (Or.inl ⟨by kernel_rfl, ?_⟩) E0 ?_
      rotate_left
      · (intro W hS; have k1 : W.cell? ⟨ga, 1, none⟩ = some (.string r.word) := (by rw [cell_of_row _ _ _ _ _ _ hS.1]; rfl); have k3 : W.cell? ⟨gq, 3, none⟩ = some (.string q.reason) := (by rw [cell_of_row _ _ _ _ _ _ hS.2]; rfl); go_simp; try (with_reducible rfl))
      refine wpAnyH_take (i := 4) (v := undef) rfl (by kernel_rfl) (by kernel_rfl) (by kernel_rfl) (fun _ _ _ h => h) (Or.inr ⟨by kernel_rfl, rfl⟩) E0 ?_
      refine wpAnyH_take (i := 5) (v := undef) rfl (by kernel_rfl) (by kernel_rfl) (by kernel_rfl) (fun _ _ _ h => h) (Or.inr ⟨by kernel_rfl, rfl⟩) E0 ?_
      refine wpAnyH_take (i := 6) (v := undef) rfl (by kernel_rfl) (by kernel_rfl) (by kernel_rfl) (fun _ _ _ h => h) (Or.inr ⟨by kernel_rfl, rfl⟩) E0 ?_
      refine wpAnyH_take (i := 7) (v := undef) rfl (by kernel_rfl) (by kernel_rfl) (by kernel_rfl) (fun _ _ _ h => h) (Or.inr ⟨by kernel_rfl, rfl⟩) E0 ?_
      refine wpAnyH_take (i := 8) (v := undef) rfl (by kernel_rfl) (by kernel_rfl) (by kernel_rfl) (fun _ _ _ h => h) (Or.inr ⟨by kernel_rfl, rfl⟩) E0 ?_
      refine wpAnyH_take (i := 9) (v := undef) rfl (by kernel_rfl) (by kernel_rfl) (by kernel_rfl) (fun _ _ _ h => h) (Or.inr ⟨by kernel_rfl, rfl⟩) E0 ?_
      refine wpAnyH_take (i := 10) (v := ?_) rfl (by kernel_rfl) (by kernel_rfl) (by kernel_rfl) (fun _ _ _ h => h) (Or.inl ⟨by kernel_rfl, ?_⟩) E0 ?_
      rotate_left
      · (intro W hS; have k1 : W.cell? ⟨ga, 1, none⟩ = some (.string r.word) := (by rw [cell_of_row _ _ _ _ _ _ hS.1]; rfl); have k3 : W.cell? ⟨gq, 3, none⟩ = some (.string q.reason) := (by rw [cell_of_row _ _ _ _ _ _ hS.2]; rfl); go_simp; try (with_reducible rfl))
      refine wpAnyH_take (i := 11) (v := ?_) rfl (by kernel_rfl) (by kernel_rfl) (by kernel_rfl) (fun _ _ _ h => h) (Or.inl ⟨by kernel_rfl, ?_⟩) E0 ?_
      rotate_left
      · (intro W hS; have k1 : W.cell? ⟨ga, 1, none⟩ = some (.string r.word) := (by rw [cell_of_row _ _ _ _ _ _ hS.1]; rfl); have k3 : W.cell? ⟨gq, 3, none⟩ = some (.string q.reason) := (by rw [cell_of_row _ _ _ _ _ _ hS.2]; rfl); go_simp; try (with_reducible rfl))
      refine wpAnyH_done (by kernel_rfl) ?_ _
      go_simp
      have HV := Lib.hid (And.intro E0.1 (And.intro E0.2 (H3.out.2.2.trans (F0.mono H3.out.2.2.size))))
      clear F0 E0
      have HE := HV.out
      have X := HE.1
      have c2 : v0.cell? ⟨ga, 2, none⟩ = some (.int .i64 r.fr) := by rw [cell_of_row _ _ _ _ _ _ X]; rfl
      have c3 : v0.cell? ⟨ga, 3, none⟩ = some (.int .i64 r.to) := by rw [cell_of_row _ _ _ _ _ _ X]; rfl
      have c4 : v0.cell? ⟨ga, 4, none⟩ = some (.int .i64 r.un) := by rw [cell_of_row _ _ _ _ _ _ X]; rfl
      clear X
      have X := HE.2.1
      have d2 : v0.cell? ⟨gq, 2, none⟩ = some (.int .i64 q.entry) := by rw [cell_of_row _ _ _ _ _ _ X]; rfl
      clear X
      by_cases h1 : r.fr ≤ q.entry
      rotate_left
      · have hz2 : Z = false := by rw [hz]; simp; omega
        have HZ2 := Lib.hid hz2
        clear hz hz2
        go_wp2_with fail
        go_ret
        exact ⟨by rw [HZ2.out]; rfl, HE.2.2⟩
      by_cases h2 : q.entry < r.to
      rotate_left
      · have hz2 : Z = false := by rw [hz]; simp; omega
        have HZ2 := Lib.hid hz2
        clear hz hz2
        go_wp2_with fail
        go_ret
        exact ⟨by rw [HZ2.out]; rfl, HE.2.2⟩
      by_cases h3 : now ≤ r.un
      rotate_left
      · have hz2 : Z = false := by rw [hz]; simp; omega
        have HZ2 := Lib.hid hz2
        clear hz hz2
        go_wp2_with fail
        go_ret
        exact ⟨by rw [HZ2.out]; first | rfl | (show Ending.returned (Value.bool (decide (now ≤ r.un))) = _; rw [decide_eq_false (by omega)]), HE.2.2⟩
      have hz2 : Z = true := by rw [hz]; simp; omega
      have HZ2 := Lib.hid hz2
      clear hz hz2
      go_wp2_with fail
      go_ret
      exact ⟨by rw [HZ2.out]; rfl, HE.2.2⟩
    have gC : r.word.toList.isEmpty = false := full_list hC
    cases V with
    | true =>
      have hz : Z = (decide (r.fr ≤ q.entry) && decide (q.entry < r.to) && decide (now ≤ r.un)) := by rw [HZ.out, decide_eq_true hA, decide_eq_false hC]; simp
      clear hA hC
      go_enter Try.func21, Try.ntmps21
      go_upto_region 1 with fail
      rw [← hw1, ← hgq, ← hga]
      clear hw1 hga hgq
      have X := HA.out.1
      have c0 : w1.cell? ⟨ga, 0, none⟩ = some (.string r.who) := by rw [cell_of_row _ _ _ _ _ _ X]; rfl
      have c1 : w1.cell? ⟨ga, 1, none⟩ = some (.string r.word) := by rw [cell_of_row _ _ _ _ _ _ X]; rfl
      have c2 : w1.cell? ⟨ga, 2, none⟩ = some (.int .i64 r.fr) := by rw [cell_of_row _ _ _ _ _ _ X]; rfl
      have c3 : w1.cell? ⟨ga, 3, none⟩ = some (.int .i64 r.to) := by rw [cell_of_row _ _ _ _ _ _ X]; rfl
      have c4 : w1.cell? ⟨ga, 4, none⟩ = some (.int .i64 r.un) := by rw [cell_of_row _ _ _ _ _ _ X]; rfl
      have c5 : w1.cell? ⟨ga, 5, none⟩ = some (.int .i64 r.mo) := by rw [cell_of_row _ _ _ _ _ _ X]; rfl
      have c6 : w1.cell? ⟨ga, 6, none⟩ = some (.bool r.allow) := by rw [cell_of_row _ _ _ _ _ _ X]; rfl
      clear X
      have X := HA.out.2
      have d0 : w1.cell? ⟨gq, 0, none⟩ = some (.int .i64 q.id) := by rw [cell_of_row _ _ _ _ _ _ X]; rfl
      have d1 : w1.cell? ⟨gq, 1, none⟩ = some (.string q.who) := by rw [cell_of_row _ _ _ _ _ _ X]; rfl
      have d2 : w1.cell? ⟨gq, 2, none⟩ = some (.int .i64 q.entry) := by rw [cell_of_row _ _ _ _ _ _ X]; rfl
      have d3 : w1.cell? ⟨gq, 3, none⟩ = some (.string q.reason) := by rw [cell_of_row _ _ _ _ _ _ X]; rfl
      have d4 : w1.cell? ⟨gq, 4, none⟩ = some (.int .i64 q.exp) := by rw [cell_of_row _ _ _ _ _ _ X]; rfl
      clear X
      go_wp2_with fail
      refine (H.out.1 _).mono ?_
      rintro e w2 ⟨rfl, hb2⟩
      have H2 := Lib.hid (And.intro ((hb2.block ga (pblt_of_heap HA.out.1)).trans HA.out.1) (And.intro ((hb2.block gq (pblt_of_heap HA.out.2)).trans HA.out.2) (H.out.2.2.2.2.trans (hb2.mono H.out.2.2.2.2.size))))
      clear hb2 c0 c1 c2 c3 c4 c5 c6 d0 d1 d2 d3 d4
      have X := H2.out.1
      have c0 : w2.cell? ⟨ga, 0, none⟩ = some (.string r.who) := by rw [cell_of_row _ _ _ _ _ _ X]; rfl
      have c1 : w2.cell? ⟨ga, 1, none⟩ = some (.string r.word) := by rw [cell_of_row _ _ _ _ _ _ X]; rfl
      have c2 : w2.cell? ⟨ga, 2, none⟩ = some (.int .i64 r.fr) := by rw [cell_of_row _ _ _ _ _ _ X]; rfl
      have c3 : w2.cell? ⟨ga, 3, none⟩ = some (.int .i64 r.to) := by rw [cell_of_row _ _ _ _ _ _ X]; rfl
      have c4 : w2.cell? ⟨ga, 4, none⟩ = some (.int .i64 r.un) := by rw [cell_of_row _ _ _ _ _ _ X]; rfl
      have c5 : w2.cell? ⟨ga, 5, none⟩ = some (.int .i64 r.mo) := by rw [cell_of_row _ _ _ _ _ _ X]; rfl
      have c6 : w2.cell? ⟨ga, 6, none⟩ = some (.bool r.allow) := by rw [cell_of_row _ _ _ _ _ _ X]; rfl
      clear X
      have X := H2.out.2.1
      have d0 : w2.cell? ⟨gq, 0, none⟩ = some (.int .i64 q.id) := by rw [cell_of_row _ _ _ _ _ _ X]; rfl
      have d1 : w2.cell? ⟨gq, 1, none⟩ = some (.string q.who) := by rw [cell_of_row _ _ _ _ _ _ X]; rfl
      have d2 : w2.cell? ⟨gq, 2, none⟩ = some (.int .i64 q.entry) := by rw [cell_of_row _ _ _ _ _ _ X]; rfl
      have d3 : w2.cell? ⟨gq, 3, none⟩ = some (.string q.reason) := by rw [cell_of_row _ _ _ _ _ _ X]; rfl
      have d4 : w2.cell? ⟨gq, 4, none⟩ = some (.int .i64 q.exp) := by rw [cell_of_row _ _ _ _ _ _ X]; rfl
      clear X
      go_wp2_with fail
      refine (H.out.2.1 _).mono ?_
      rintro e w3 ⟨rfl, hb3⟩
      have H3 := Lib.hid (And.intro ((hb3.block ga (pblt_of_heap H2.out.1)).trans H2.out.1) (And.intro ((hb3.block gq (pblt_of_heap H2.out.2.1)).trans H2.out.2.1) (H2.out.2.2.trans (hb3.mono H2.out.2.2.size))))
      clear hb3 c0 c1 c2 c3 c4 c5 c6 d0 d1 d2 d3 d4
      have X := H3.out.1
      have c0 : w3.cell? ⟨ga, 0, none⟩ = some (.string r.who) := by rw [cell_of_row _ _ _ _ _ _ X]; rfl
      clear X
      have X := H3.out.2.1
      have d1 : w3.cell? ⟨gq, 1, none⟩ = some (.string q.who) := by rw [cell_of_row _ _ _ _ _ _ X]; rfl
      clear X
      go_upto_region 4 with fail
      clear c0 d1
      refine wp_region_held (S := fun W : World => (W.heap[ga]? = some (.cells (ruCs r) 46 (0, 0)) ∧ W.heap[gq]? = some (.cells (qCs q) 24 (0, 0)))) (by kernel_rfl) ?_
      change wpAnyH _ _ _ _ _ _ _ _ (World.drew _)
      generalize hv0 : World.drew _ = v0
      have E0 : (v0.heap[ga]? = some (.cells (ruCs r) 46 (0, 0)) ∧ v0.heap[gq]? = some (.cells (qCs q) 24 (0, 0))) := by rw [← hv0]; exact ⟨H3.out.1, H3.out.2.1⟩
      have F0 : Below w3.heap.size w3 v0 := by rw [← hv0]; exact ((Below.refl _ _).drew)
      clear hv0
      refine wpAnyH_take (i := 0) (v := ?_) rfl (by kernel_rfl) (by kernel_rfl) (by kernel_rfl) (fun _ _ _ h => h) (Or.inl ⟨by kernel_rfl, ?_⟩) E0 ?_
      rotate_left
      · (intro W hS; have k1 : W.cell? ⟨ga, 1, none⟩ = some (.string r.word) := (by rw [cell_of_row _ _ _ _ _ _ hS.1]; rfl); have k3 : W.cell? ⟨gq, 3, none⟩ = some (.string q.reason) := (by rw [cell_of_row _ _ _ _ _ _ hS.2]; rfl); go_simp; try (with_reducible rfl))
      refine wpAnyH_take (i := 1) (v := ?_) rfl (by kernel_rfl) (by kernel_rfl) (by kernel_rfl) (fun _ _ _ h => h) (Or.inl ⟨by kernel_rfl, ?_⟩) E0 ?_
      rotate_left
      · (intro W hS; have k1 : W.cell? ⟨ga, 1, none⟩ = some (.string r.word) := (by rw [cell_of_row _ _ _ _ _ _ hS.1]; rfl); have k3 : W.cell? ⟨gq, 3, none⟩ = some (.string q.reason) := (by rw [cell_of_row _ _ _ _ _ _ hS.2]; rfl); go_simp; try (with_reducible rfl))
      refine wpAnyH_take (i := 2) (v := ?_) rfl (by kernel_rfl) (by kernel_rfl) (by kernel_rfl) (fun _ _ _ h => h) (Or.inl ⟨by kernel_rfl, ?_⟩) E0 ?_
      rotate_left
      · (intro W hS; have k1 : W.cell? ⟨ga, 1, none⟩ = some (.string r.word) := (by rw [cell_of_row _ _ _ _ _ _ hS.1]; rfl); have k3 : W.cell? ⟨gq, 3, none⟩ = some (.string q.reason) := (by rw [cell_of_row _ _ _ _ _ _ hS.2]; rfl); go_simp; try (with_reducible rfl))
      refine wpAnyH_take (i := 3) (v := ?_) rfl (by kernel_rfl) (by kernel_rfl) (by kernel_rfl) (fun _ _ _ h => h) (Or.inl ⟨by kernel_rfl, ?_⟩) E0 ?_
      rotate_left
      · (intro W hS; have k1 : W.cell? ⟨ga, 1, none⟩ = some (.string r.word) := (by rw [cell_of_row _ _ _ _ _ _ hS.1]; rfl); have k3 : W.cell? ⟨gq, 3, none⟩ = some (.string q.reason) := (by rw [cell_of_row _ _ _ _ _ _ hS.2]; rfl); go_simp; try (with_reducible rfl))
      refine wpAnyH_take (i := 4) (v := ?_) rfl (by kernel_rfl) (by kernel_rfl) (by kernel_rfl) (fun _ _ _ h => h) (Or.inl ⟨by kernel_rfl, ?_⟩) E0 ?_
      rotate_left
      · (intro W hS; have k1 : W.cell? ⟨ga, 1, none⟩ = some (.string r.word) := (by rw [cell_of_row _ _ _ _ _ _ hS.1]; rfl); have k3 : W.cell? ⟨gq, 3, none⟩ = some (.string q.reason) := (by rw [cell_of_row _ _ _ _ _ _ hS.2]; rfl); go_simp; try (with_reducible rfl))
      refine wpAnyH_take (i := 5) (v := ?_) rfl (by kernel_rfl) (by kernel_rfl) (by kernel_rfl) (fun _ _ _ h => h) (Or.inl ⟨by kernel_rfl, ?_⟩) E0 ?_
      rotate_left
      · (intro W hS; have k1 : W.cell? ⟨ga, 1, none⟩ = some (.string r.word) := (by rw [cell_of_row _ _ _ _ _ _ hS.1]; rfl); have k3 : W.cell? ⟨gq, 3, none⟩ = some (.string q.reason) := (by rw [cell_of_row _ _ _ _ _ _ hS.2]; rfl); go_simp; try (with_reducible rfl))
      refine wpAnyH_take (i := 7) (v := ?_) rfl (by kernel_rfl) (by kernel_rfl) (by kernel_rfl) (fun _ _ _ h => h) (Or.inl ⟨by kernel_rfl, ?_⟩) E0 ?_
      rotate_left
      · (intro W hS; have k1 : W.cell? ⟨ga, 1, none⟩ = some (.string r.word) := (by rw [cell_of_row _ _ _ _ _ _ hS.1]; rfl); have k3 : W.cell? ⟨gq, 3, none⟩ = some (.string q.reason) := (by rw [cell_of_row _ _ _ _ _ _ hS.2]; rfl); go_simp; try (with_reducible rfl))
      refine wpAnyH_take (i := 8) (v := ?_) rfl (by kernel_rfl) (by kernel_rfl) (by kernel_rfl) (fun _ _ _ h => h) (Or.inl ⟨by kernel_rfl, ?_⟩) E0 ?_
      rotate_left
      · (intro W hS; have k1 : W.cell? ⟨ga, 1, none⟩ = some (.string r.word) := (by rw [cell_of_row _ _ _ _ _ _ hS.1]; rfl); have k3 : W.cell? ⟨gq, 3, none⟩ = some (.string q.reason) := (by rw [cell_of_row _ _ _ _ _ _ hS.2]; rfl); go_simp; try (with_reducible rfl))
      refine wpAnyH_ready (rs := [6]) (by kernel_rfl) (by simp) ?_
      refine AllReadyH.cons (i := 6) rfl (fun K hK => ?_) AllReadyH.nil
      go_simp
      refine (H.out.2.2.1 v0 HRS.out).mono ?_
      rintro e v1 ⟨ad, cp, rfl, hO, hb⟩
      have F1 := F0.trans (hb.mono F0.size)
      have E1 : (v1.heap[ga]? = some (.cells (ruCs r) 46 (0, 0)) ∧ v1.heap[gq]? = some (.cells (qCs q) 24 (0, 0))) := ⟨(hb.block _ (pblt_of_heap E0.1)).trans E0.1, (hb.block _ (pblt_of_heap E0.2)).trans E0.2⟩
      have hTx := hO.texts
      clear hO
      refine hK.out _ _ E1 (fun _ => ?_)
      clear hK K hb
      refine wpAnyH_ready (rs := [9]) (by kernel_rfl) (by simp) ?_
      refine AllReadyH.cons (i := 9) rfl (fun K hK => ?_) AllReadyH.nil
      go_simp
      refine ((H.out.2.2.2.1 v1 ad cp hTx).mono (R' := fun e w' => e = .returned (.bool true) ∧ Below v1.heap.size v1 w') (by rintro e w' ⟨rfl, rfl⟩; exact ⟨rfl, Below.refl _ _⟩)).mono ?_
      rintro e v2 ⟨rfl, hb⟩
      have F2 := F1.trans (hb.mono F1.size)
      have E2 : (v2.heap[ga]? = some (.cells (ruCs r) 46 (0, 0)) ∧ v2.heap[gq]? = some (.cells (qCs q) 24 (0, 0))) := ⟨(hb.block _ (pblt_of_heap E1.1)).trans E1.1, (hb.block _ (pblt_of_heap E1.2)).trans E1.2⟩
      clear hTx
      refine hK.out _ _ E2 (fun _ => ?_)
      clear hK K hb
      refine wpAnyH_take (i := 10) (v := ?_) rfl (by kernel_rfl) (by kernel_rfl) (by kernel_rfl) (fun _ _ _ h => h) (Or.inl ⟨by kernel_rfl, ?_⟩) E2 ?_
      rotate_left
      · (intro W hS; have k1 : W.cell? ⟨ga, 1, none⟩ = some (.string r.word) := (by rw [cell_of_row _ _ _ _ _ _ hS.1]; rfl); have k3 : W.cell? ⟨gq, 3, none⟩ = some (.string q.reason) := (by rw [cell_of_row _ _ _ _ _ _ hS.2]; rfl); go_simp; try (with_reducible rfl))
      refine wpAnyH_take (i := 11) (v := ?_) rfl (by kernel_rfl) (by kernel_rfl) (by kernel_rfl) (fun _ _ _ h => h) (Or.inl ⟨by kernel_rfl, ?_⟩) E2 ?_
      rotate_left
      · (intro W hS; have k1 : W.cell? ⟨ga, 1, none⟩ = some (.string r.word) := (by rw [cell_of_row _ _ _ _ _ _ hS.1]; rfl); have k3 : W.cell? ⟨gq, 3, none⟩ = some (.string q.reason) := (by rw [cell_of_row _ _ _ _ _ _ hS.2]; rfl); go_simp; try (with_reducible rfl))
      refine wpAnyH_done (by kernel_rfl) ?_ _
      go_simp
      have HV := Lib.hid (And.intro E2.1 (And.intro E2.2 (H3.out.2.2.trans (F2.mono H3.out.2.2.size))))
      clear F0 F2 E0 E1 E2
      have HE := HV.out
      have X := HE.1
      have c2 : v2.cell? ⟨ga, 2, none⟩ = some (.int .i64 r.fr) := by rw [cell_of_row _ _ _ _ _ _ X]; rfl
      have c3 : v2.cell? ⟨ga, 3, none⟩ = some (.int .i64 r.to) := by rw [cell_of_row _ _ _ _ _ _ X]; rfl
      have c4 : v2.cell? ⟨ga, 4, none⟩ = some (.int .i64 r.un) := by rw [cell_of_row _ _ _ _ _ _ X]; rfl
      clear X
      have X := HE.2.1
      have d2 : v2.cell? ⟨gq, 2, none⟩ = some (.int .i64 q.entry) := by rw [cell_of_row _ _ _ _ _ _ X]; rfl
      clear X
      by_cases h1 : r.fr ≤ q.entry
      rotate_left
      · have hz2 : Z = false := by rw [hz]; simp; omega
        have HZ2 := Lib.hid hz2
        clear hz hz2
        go_wp2_with fail
        go_ret
        exact ⟨by rw [HZ2.out]; rfl, HE.2.2⟩
      by_cases h2 : q.entry < r.to
      rotate_left
      · have hz2 : Z = false := by rw [hz]; simp; omega
        have HZ2 := Lib.hid hz2
        clear hz hz2
        go_wp2_with fail
        go_ret
        exact ⟨by rw [HZ2.out]; rfl, HE.2.2⟩
      by_cases h3 : now ≤ r.un
      rotate_left
      · have hz2 : Z = false := by rw [hz]; simp; omega
        have HZ2 := Lib.hid hz2
        clear hz hz2
        go_wp2_with fail
        go_ret
        exact ⟨by rw [HZ2.out]; first | rfl | (show Ending.returned (Value.bool (decide (now ≤ r.un))) = _; rw [decide_eq_false (by omega)]), HE.2.2⟩
      have hz2 : Z = true := by rw [hz]; simp; omega
      have HZ2 := Lib.hid hz2
      clear hz hz2
      go_wp2_with fail
      go_ret
      exact ⟨by rw [HZ2.out]; rfl, HE.2.2⟩
    | false =>
      have hz : Z = false := by rw [HZ.out, decide_eq_true hA, decide_eq_false hC]; simp
      clear hA hC
      go_enter Try.func21, Try.ntmps21
      go_upto_region 1 with fail
      rw [← hw1, ← hgq, ← hga]
      clear hw1 hga hgq
      have X := HA.out.1
      have c0 : w1.cell? ⟨ga, 0, none⟩ = some (.string r.who) := by rw [cell_of_row _ _ _ _ _ _ X]; rfl
      have c1 : w1.cell? ⟨ga, 1, none⟩ = some (.string r.word) := by rw [cell_of_row _ _ _ _ _ _ X]; rfl
      have c2 : w1.cell? ⟨ga, 2, none⟩ = some (.int .i64 r.fr) := by rw [cell_of_row _ _ _ _ _ _ X]; rfl
      have c3 : w1.cell? ⟨ga, 3, none⟩ = some (.int .i64 r.to) := by rw [cell_of_row _ _ _ _ _ _ X]; rfl
      have c4 : w1.cell? ⟨ga, 4, none⟩ = some (.int .i64 r.un) := by rw [cell_of_row _ _ _ _ _ _ X]; rfl
      have c5 : w1.cell? ⟨ga, 5, none⟩ = some (.int .i64 r.mo) := by rw [cell_of_row _ _ _ _ _ _ X]; rfl
      have c6 : w1.cell? ⟨ga, 6, none⟩ = some (.bool r.allow) := by rw [cell_of_row _ _ _ _ _ _ X]; rfl
      clear X
      have X := HA.out.2
      have d0 : w1.cell? ⟨gq, 0, none⟩ = some (.int .i64 q.id) := by rw [cell_of_row _ _ _ _ _ _ X]; rfl
      have d1 : w1.cell? ⟨gq, 1, none⟩ = some (.string q.who) := by rw [cell_of_row _ _ _ _ _ _ X]; rfl
      have d2 : w1.cell? ⟨gq, 2, none⟩ = some (.int .i64 q.entry) := by rw [cell_of_row _ _ _ _ _ _ X]; rfl
      have d3 : w1.cell? ⟨gq, 3, none⟩ = some (.string q.reason) := by rw [cell_of_row _ _ _ _ _ _ X]; rfl
      have d4 : w1.cell? ⟨gq, 4, none⟩ = some (.int .i64 q.exp) := by rw [cell_of_row _ _ _ _ _ _ X]; rfl
      clear X
      go_wp2_with fail
      refine (H.out.1 _).mono ?_
      rintro e w2 ⟨rfl, hb2⟩
      have H2 := Lib.hid (And.intro ((hb2.block ga (pblt_of_heap HA.out.1)).trans HA.out.1) (And.intro ((hb2.block gq (pblt_of_heap HA.out.2)).trans HA.out.2) (H.out.2.2.2.2.trans (hb2.mono H.out.2.2.2.2.size))))
      clear hb2 c0 c1 c2 c3 c4 c5 c6 d0 d1 d2 d3 d4
      have X := H2.out.1
      have c0 : w2.cell? ⟨ga, 0, none⟩ = some (.string r.who) := by rw [cell_of_row _ _ _ _ _ _ X]; rfl
      have c1 : w2.cell? ⟨ga, 1, none⟩ = some (.string r.word) := by rw [cell_of_row _ _ _ _ _ _ X]; rfl
      have c2 : w2.cell? ⟨ga, 2, none⟩ = some (.int .i64 r.fr) := by rw [cell_of_row _ _ _ _ _ _ X]; rfl
      have c3 : w2.cell? ⟨ga, 3, none⟩ = some (.int .i64 r.to) := by rw [cell_of_row _ _ _ _ _ _ X]; rfl
      have c4 : w2.cell? ⟨ga, 4, none⟩ = some (.int .i64 r.un) := by rw [cell_of_row _ _ _ _ _ _ X]; rfl
      have c5 : w2.cell? ⟨ga, 5, none⟩ = some (.int .i64 r.mo) := by rw [cell_of_row _ _ _ _ _ _ X]; rfl
      have c6 : w2.cell? ⟨ga, 6, none⟩ = some (.bool r.allow) := by rw [cell_of_row _ _ _ _ _ _ X]; rfl
      clear X
      have X := H2.out.2.1
      have d0 : w2.cell? ⟨gq, 0, none⟩ = some (.int .i64 q.id) := by rw [cell_of_row _ _ _ _ _ _ X]; rfl
      have d1 : w2.cell? ⟨gq, 1, none⟩ = some (.string q.who) := by rw [cell_of_row _ _ _ _ _ _ X]; rfl
      have d2 : w2.cell? ⟨gq, 2, none⟩ = some (.int .i64 q.entry) := by rw [cell_of_row _ _ _ _ _ _ X]; rfl
      have d3 : w2.cell? ⟨gq, 3, none⟩ = some (.string q.reason) := by rw [cell_of_row _ _ _ _ _ _ X]; rfl
      have d4 : w2.cell? ⟨gq, 4, none⟩ = some (.int .i64 q.exp) := by rw [cell_of_row _ _ _ _ _ _ X]; rfl
      clear X
      go_wp2_with fail
      refine (H.out.2.1 _).mono ?_
      rintro e w3 ⟨rfl, hb3⟩
      have H3 := Lib.hid (And.intro ((hb3.block ga (pblt_of_heap H2.out.1)).trans H2.out.1) (And.intro ((hb3.block gq (pblt_of_heap H2.out.2.1)).trans H2.out.2.1) (H2.out.2.2.trans (hb3.mono H2.out.2.2.size))))
      clear hb3 c0 c1 c2 c3 c4 c5 c6 d0 d1 d2 d3 d4
      have X := H3.out.1
      have c0 : w3.cell? ⟨ga, 0, none⟩ = some (.string r.who) := by rw [cell_of_row _ _ _ _ _ _ X]; rfl
      clear X
      have X := H3.out.2.1
      have d1 : w3.cell? ⟨gq, 1, none⟩ = some (.string q.who) := by rw [cell_of_row _ _ _ _ _ _ X]; rfl
      clear X
      go_upto_region 4 with fail
      clear c0 d1
      refine wp_region_held (S := fun W : World => (W.heap[ga]? = some (.cells (ruCs r) 46 (0, 0)) ∧ W.heap[gq]? = some (.cells (qCs q) 24 (0, 0)))) (by kernel_rfl) ?_
      change wpAnyH _ _ _ _ _ _ _ _ (World.drew _)
      generalize hv0 : World.drew _ = v0
      have E0 : (v0.heap[ga]? = some (.cells (ruCs r) 46 (0, 0)) ∧ v0.heap[gq]? = some (.cells (qCs q) 24 (0, 0))) := by rw [← hv0]; exact ⟨H3.out.1, H3.out.2.1⟩
      have F0 : Below w3.heap.size w3 v0 := by rw [← hv0]; exact ((Below.refl _ _).drew)
      clear hv0
      refine wpAnyH_take (i := 0) (v := ?_) rfl (by kernel_rfl) (by kernel_rfl) (by kernel_rfl) (fun _ _ _ h => h) (Or.inl ⟨by kernel_rfl, ?_⟩) E0 ?_
      rotate_left
      · (intro W hS; have k1 : W.cell? ⟨ga, 1, none⟩ = some (.string r.word) := (by rw [cell_of_row _ _ _ _ _ _ hS.1]; rfl); have k3 : W.cell? ⟨gq, 3, none⟩ = some (.string q.reason) := (by rw [cell_of_row _ _ _ _ _ _ hS.2]; rfl); go_simp; try (with_reducible rfl))
      refine wpAnyH_take (i := 1) (v := ?_) rfl (by kernel_rfl) (by kernel_rfl) (by kernel_rfl) (fun _ _ _ h => h) (Or.inl ⟨by kernel_rfl, ?_⟩) E0 ?_
      rotate_left
      · (intro W hS; have k1 : W.cell? ⟨ga, 1, none⟩ = some (.string r.word) := (by rw [cell_of_row _ _ _ _ _ _ hS.1]; rfl); have k3 : W.cell? ⟨gq, 3, none⟩ = some (.string q.reason) := (by rw [cell_of_row _ _ _ _ _ _ hS.2]; rfl); go_simp; try (with_reducible rfl))
      refine wpAnyH_take (i := 2) (v := ?_) rfl (by kernel_rfl) (by kernel_rfl) (by kernel_rfl) (fun _ _ _ h => h) (Or.inl ⟨by kernel_rfl, ?_⟩) E0 ?_
      rotate_left
      · (intro W hS; have k1 : W.cell? ⟨ga, 1, none⟩ = some (.string r.word) := (by rw [cell_of_row _ _ _ _ _ _ hS.1]; rfl); have k3 : W.cell? ⟨gq, 3, none⟩ = some (.string q.reason) := (by rw [cell_of_row _ _ _ _ _ _ hS.2]; rfl); go_simp; try (with_reducible rfl))
      refine wpAnyH_take (i := 3) (v := ?_) rfl (by kernel_rfl) (by kernel_rfl) (by kernel_rfl) (fun _ _ _ h => h) (Or.inl ⟨by kernel_rfl, ?_⟩) E0 ?_
      rotate_left
      · (intro W hS; have k1 : W.cell? ⟨ga, 1, none⟩ = some (.string r.word) := (by rw [cell_of_row _ _ _ _ _ _ hS.1]; rfl); have k3 : W.cell? ⟨gq, 3, none⟩ = some (.string q.reason) := (by rw [cell_of_row _ _ _ _ _ _ hS.2]; rfl); go_simp; try (with_reducible rfl))
      refine wpAnyH_take (i := 4) (v := ?_) rfl (by kernel_rfl) (by kernel_rfl) (by kernel_rfl) (fun _ _ _ h => h) (Or.inl ⟨by kernel_rfl, ?_⟩) E0 ?_
      rotate_left
      · (intro W hS; have k1 : W.cell? ⟨ga, 1, none⟩ = some (.string r.word) := (by rw [cell_of_row _ _ _ _ _ _ hS.1]; rfl); have k3 : W.cell? ⟨gq, 3, none⟩ = some (.string q.reason) := (by rw [cell_of_row _ _ _ _ _ _ hS.2]; rfl); go_simp; try (with_reducible rfl))
      refine wpAnyH_take (i := 5) (v := ?_) rfl (by kernel_rfl) (by kernel_rfl) (by kernel_rfl) (fun _ _ _ h => h) (Or.inl ⟨by kernel_rfl, ?_⟩) E0 ?_
      rotate_left
      · (intro W hS; have k1 : W.cell? ⟨ga, 1, none⟩ = some (.string r.word) := (by rw [cell_of_row _ _ _ _ _ _ hS.1]; rfl); have k3 : W.cell? ⟨gq, 3, none⟩ = some (.string q.reason) := (by rw [cell_of_row _ _ _ _ _ _ hS.2]; rfl); go_simp; try (with_reducible rfl))
      refine wpAnyH_take (i := 7) (v := ?_) rfl (by kernel_rfl) (by kernel_rfl) (by kernel_rfl) (fun _ _ _ h => h) (Or.inl ⟨by kernel_rfl, ?_⟩) E0 ?_
      rotate_left
      · (intro W hS; have k1 : W.cell? ⟨ga, 1, none⟩ = some (.string r.word) := (by rw [cell_of_row _ _ _ _ _ _ hS.1]; rfl); have k3 : W.cell? ⟨gq, 3, none⟩ = some (.string q.reason) := (by rw [cell_of_row _ _ _ _ _ _ hS.2]; rfl); go_simp; try (with_reducible rfl))
      refine wpAnyH_take (i := 8) (v := ?_) rfl (by kernel_rfl) (by kernel_rfl) (by kernel_rfl) (fun _ _ _ h => h) (Or.inl ⟨by kernel_rfl, ?_⟩) E0 ?_
      rotate_left
      · (intro W hS; have k1 : W.cell? ⟨ga, 1, none⟩ = some (.string r.word) := (by rw [cell_of_row _ _ _ _ _ _ hS.1]; rfl); have k3 : W.cell? ⟨gq, 3, none⟩ = some (.string q.reason) := (by rw [cell_of_row _ _ _ _ _ _ hS.2]; rfl); go_simp; try (with_reducible rfl))
      refine wpAnyH_ready (rs := [6]) (by kernel_rfl) (by simp) ?_
      refine AllReadyH.cons (i := 6) rfl (fun K hK => ?_) AllReadyH.nil
      go_simp
      refine (H.out.2.2.1 v0 HRS.out).mono ?_
      rintro e v1 ⟨ad, cp, rfl, hO, hb⟩
      have F1 := F0.trans (hb.mono F0.size)
      have E1 : (v1.heap[ga]? = some (.cells (ruCs r) 46 (0, 0)) ∧ v1.heap[gq]? = some (.cells (qCs q) 24 (0, 0))) := ⟨(hb.block _ (pblt_of_heap E0.1)).trans E0.1, (hb.block _ (pblt_of_heap E0.2)).trans E0.2⟩
      have hTx := hO.texts
      clear hO
      refine hK.out _ _ E1 (fun _ => ?_)
      clear hK K hb
      refine wpAnyH_ready (rs := [9]) (by kernel_rfl) (by simp) ?_
      refine AllReadyH.cons (i := 9) rfl (fun K hK => ?_) AllReadyH.nil
      go_simp
      refine ((H.out.2.2.2.1 v1 ad cp hTx).mono (R' := fun e w' => e = .returned (.bool false) ∧ Below v1.heap.size v1 w') (by rintro e w' ⟨rfl, rfl⟩; exact ⟨rfl, Below.refl _ _⟩)).mono ?_
      rintro e v2 ⟨rfl, hb⟩
      have F2 := F1.trans (hb.mono F1.size)
      have E2 : (v2.heap[ga]? = some (.cells (ruCs r) 46 (0, 0)) ∧ v2.heap[gq]? = some (.cells (qCs q) 24 (0, 0))) := ⟨(hb.block _ (pblt_of_heap E1.1)).trans E1.1, (hb.block _ (pblt_of_heap E1.2)).trans E1.2⟩
      clear hTx
      refine hK.out _ _ E2 (fun _ => ?_)
      clear hK K hb
      refine wpAnyH_take (i := 10) (v := ?_) rfl (by kernel_rfl) (by kernel_rfl) (by kernel_rfl) (fun _ _ _ h => h) (Or.inl ⟨by kernel_rfl, ?_⟩) E2 ?_
      rotate_left
      · (intro W hS; have k1 : W.cell? ⟨ga, 1, none⟩ = some (.string r.word) := (by rw [cell_of_row _ _ _ _ _ _ hS.1]; rfl); have k3 : W.cell? ⟨gq, 3, none⟩ = some (.string q.reason) := (by rw [cell_of_row _ _ _ _ _ _ hS.2]; rfl); go_simp; try (with_reducible rfl))
      refine wpAnyH_take (i := 11) (v := ?_) rfl (by kernel_rfl) (by kernel_rfl) (by kernel_rfl) (fun _ _ _ h => h) (Or.inl ⟨by kernel_rfl, ?_⟩) E2 ?_
      rotate_left
      · (intro W hS; have k1 : W.cell? ⟨ga, 1, none⟩ = some (.string r.word) := (by rw [cell_of_row _ _ _ _ _ _ hS.1]; rfl); have k3 : W.cell? ⟨gq, 3, none⟩ = some (.string q.reason) := (by rw [cell_of_row _ _ _ _ _ _ hS.2]; rfl); go_simp; try (with_reducible rfl))
      refine wpAnyH_done (by kernel_rfl) ?_ _
      go_simp
      have HV := Lib.hid (And.intro E2.1 (And.intro E2.2 (H3.out.2.2.trans (F2.mono H3.out.2.2.size))))
      clear F0 F2 E0 E1 E2
      have HE := HV.out
      have X := HE.1
      have c2 : v2.cell? ⟨ga, 2, none⟩ = some (.int .i64 r.fr) := by rw [cell_of_row _ _ _ _ _ _ X]; rfl
      have c3 : v2.cell? ⟨ga, 3, none⟩ = some (.int .i64 r.to) := by rw [cell_of_row _ _ _ _ _ _ X]; rfl
      have c4 : v2.cell? ⟨ga, 4, none⟩ = some (.int .i64 r.un) := by rw [cell_of_row _ _ _ _ _ _ X]; rfl
      clear X
      have X := HE.2.1
      have d2 : v2.cell? ⟨gq, 2, none⟩ = some (.int .i64 q.entry) := by rw [cell_of_row _ _ _ _ _ _ X]; rfl
      clear X
      go_wp2_with fail
      go_ret
      exact ⟨by rw [hz]; rfl, HE.2.2⟩
  have gA : r.who.toList.isEmpty = false := full_list hA
  by_cases hB : r.who = q.who
  · have gB : (r.who.toList == q.who.toList) = true := peq_toList hB
    by_cases hC : r.word.size = 0
    · have gC : r.word.toList.isEmpty = true := empty_list hC
      have hz : Z = (decide (r.fr ≤ q.entry) && decide (q.entry < r.to) && decide (now ≤ r.un)) := by rw [HZ.out, decide_eq_false hA, decide_eq_true hB, decide_eq_true hC]; simp
      clear hA hB hC
      go_enter Try.func21, Try.ntmps21
      go_upto_region 1 with fail
      rw [← hw1, ← hgq, ← hga]
      clear hw1 hga hgq
      have X := HA.out.1
      have c0 : w1.cell? ⟨ga, 0, none⟩ = some (.string r.who) := by rw [cell_of_row _ _ _ _ _ _ X]; rfl
      have c1 : w1.cell? ⟨ga, 1, none⟩ = some (.string r.word) := by rw [cell_of_row _ _ _ _ _ _ X]; rfl
      have c2 : w1.cell? ⟨ga, 2, none⟩ = some (.int .i64 r.fr) := by rw [cell_of_row _ _ _ _ _ _ X]; rfl
      have c3 : w1.cell? ⟨ga, 3, none⟩ = some (.int .i64 r.to) := by rw [cell_of_row _ _ _ _ _ _ X]; rfl
      have c4 : w1.cell? ⟨ga, 4, none⟩ = some (.int .i64 r.un) := by rw [cell_of_row _ _ _ _ _ _ X]; rfl
      have c5 : w1.cell? ⟨ga, 5, none⟩ = some (.int .i64 r.mo) := by rw [cell_of_row _ _ _ _ _ _ X]; rfl
      have c6 : w1.cell? ⟨ga, 6, none⟩ = some (.bool r.allow) := by rw [cell_of_row _ _ _ _ _ _ X]; rfl
      clear X
      have X := HA.out.2
      have d0 : w1.cell? ⟨gq, 0, none⟩ = some (.int .i64 q.id) := by rw [cell_of_row _ _ _ _ _ _ X]; rfl
      have d1 : w1.cell? ⟨gq, 1, none⟩ = some (.string q.who) := by rw [cell_of_row _ _ _ _ _ _ X]; rfl
      have d2 : w1.cell? ⟨gq, 2, none⟩ = some (.int .i64 q.entry) := by rw [cell_of_row _ _ _ _ _ _ X]; rfl
      have d3 : w1.cell? ⟨gq, 3, none⟩ = some (.string q.reason) := by rw [cell_of_row _ _ _ _ _ _ X]; rfl
      have d4 : w1.cell? ⟨gq, 4, none⟩ = some (.int .i64 q.exp) := by rw [cell_of_row _ _ _ _ _ _ X]; rfl
      clear X
      go_wp2_with fail
      refine (H.out.1 _).mono ?_
      rintro e w2 ⟨rfl, hb2⟩
      have H2 := Lib.hid (And.intro ((hb2.block ga (pblt_of_heap HA.out.1)).trans HA.out.1) (And.intro ((hb2.block gq (pblt_of_heap HA.out.2)).trans HA.out.2) (H.out.2.2.2.2.trans (hb2.mono H.out.2.2.2.2.size))))
      clear hb2 c0 c1 c2 c3 c4 c5 c6 d0 d1 d2 d3 d4
      have X := H2.out.1
      have c0 : w2.cell? ⟨ga, 0, none⟩ = some (.string r.who) := by rw [cell_of_row _ _ _ _ _ _ X]; rfl
      have c1 : w2.cell? ⟨ga, 1, none⟩ = some (.string r.word) := by rw [cell_of_row _ _ _ _ _ _ X]; rfl
      have c2 : w2.cell? ⟨ga, 2, none⟩ = some (.int .i64 r.fr) := by rw [cell_of_row _ _ _ _ _ _ X]; rfl
      have c3 : w2.cell? ⟨ga, 3, none⟩ = some (.int .i64 r.to) := by rw [cell_of_row _ _ _ _ _ _ X]; rfl
      have c4 : w2.cell? ⟨ga, 4, none⟩ = some (.int .i64 r.un) := by rw [cell_of_row _ _ _ _ _ _ X]; rfl
      have c5 : w2.cell? ⟨ga, 5, none⟩ = some (.int .i64 r.mo) := by rw [cell_of_row _ _ _ _ _ _ X]; rfl
      have c6 : w2.cell? ⟨ga, 6, none⟩ = some (.bool r.allow) := by rw [cell_of_row _ _ _ _ _ _ X]; rfl
      clear X
      have X := H2.out.2.1
      have d0 : w2.cell? ⟨gq, 0, none⟩ = some (.int .i64 q.id) := by rw [cell_of_row _ _ _ _ _ _ X]; rfl
      have d1 : w2.cell? ⟨gq, 1, none⟩ = some (.string q.who) := by rw [cell_of_row _ _ _ _ _ _ X]; rfl
      have d2 : w2.cell? ⟨gq, 2, none⟩ = some (.int .i64 q.entry) := by rw [cell_of_row _ _ _ _ _ _ X]; rfl
      have d3 : w2.cell? ⟨gq, 3, none⟩ = some (.string q.reason) := by rw [cell_of_row _ _ _ _ _ _ X]; rfl
      have d4 : w2.cell? ⟨gq, 4, none⟩ = some (.int .i64 q.exp) := by rw [cell_of_row _ _ _ _ _ _ X]; rfl
      clear X
      go_wp2_with fail
      refine (H.out.2.1 _).mono ?_
      rintro e w3 ⟨rfl, hb3⟩
      have H3 := Lib.hid (And.intro ((hb3.block ga (pblt_of_heap H2.out.1)).trans H2.out.1) (And.intro ((hb3.block gq (pblt_of_heap H2.out.2.1)).trans H2.out.2.1) (H2.out.2.2.trans (hb3.mono H2.out.2.2.size))))
      clear hb3 c0 c1 c2 c3 c4 c5 c6 d0 d1 d2 d3 d4
      have X := H3.out.1
      have c0 : w3.cell? ⟨ga, 0, none⟩ = some (.string r.who) := by rw [cell_of_row _ _ _ _ _ _ X]; rfl
      clear X
      have X := H3.out.2.1
      have d1 : w3.cell? ⟨gq, 1, none⟩ = some (.string q.who) := by rw [cell_of_row _ _ _ _ _ _ X]; rfl
      clear X
      go_upto_region 4 with fail
      clear c0 d1
      refine wp_region_held (S := fun W : World => (W.heap[ga]? = some (.cells (ruCs r) 46 (0, 0)) ∧ W.heap[gq]? = some (.cells (qCs q) 24 (0, 0)))) (by kernel_rfl) ?_
      change wpAnyH _ _ _ _ _ _ _ _ (World.drew _)
      generalize hv0 : World.drew _ = v0
      have E0 : (v0.heap[ga]? = some (.cells (ruCs r) 46 (0, 0)) ∧ v0.heap[gq]? = some (.cells (qCs q) 24 (0, 0))) := by rw [← hv0]; exact ⟨H3.out.1, H3.out.2.1⟩
      have F0 : Below w3.heap.size w3 v0 := by rw [← hv0]; exact ((Below.refl _ _).drew)
      clear hv0
      refine wpAnyH_take (i := 0) (v := ?_) rfl (by kernel_rfl) (by kernel_rfl) (by kernel_rfl) (fun _ _ _ h => h) (Or.inl ⟨by kernel_rfl, ?_⟩) E0 ?_
      rotate_left
      · (intro W hS; have k1 : W.cell? ⟨ga, 1, none⟩ = some (.string r.word) := (by rw [cell_of_row _ _ _ _ _ _ hS.1]; rfl); have k3 : W.cell? ⟨gq, 3, none⟩ = some (.string q.reason) := (by rw [cell_of_row _ _ _ _ _ _ hS.2]; rfl); go_simp; try (with_reducible rfl))
      refine wpAnyH_take (i := 1) (v := ?_) rfl (by kernel_rfl) (by kernel_rfl) (by kernel_rfl) (fun _ _ _ h => h) (Or.inl ⟨by kernel_rfl, ?_⟩) E0 ?_
      rotate_left
      · (intro W hS; have k1 : W.cell? ⟨ga, 1, none⟩ = some (.string r.word) := (by rw [cell_of_row _ _ _ _ _ _ hS.1]; rfl); have k3 : W.cell? ⟨gq, 3, none⟩ = some (.string q.reason) := (by rw [cell_of_row _ _ _ _ _ _ hS.2]; rfl); go_simp; try (with_reducible rfl))
      refine wpAnyH_take (i := 2) (v := ?_) rfl (by kernel_rfl) (by kernel_rfl) (by kernel_rfl) (fun _ _ _ h => h) (Or.inl ⟨by kernel_rfl, ?_⟩) E0 ?_
      rotate_left
      · (intro W hS; have k1 : W.cell? ⟨ga, 1, none⟩ = some (.string r.word) := (by rw [cell_of_row _ _ _ _ _ _ hS.1]; rfl); have k3 : W.cell? ⟨gq, 3, none⟩ = some (.string q.reason) := (by rw [cell_of_row _ _ _ _ _ _ hS.2]; rfl); go_simp; try (with_reducible rfl))
      refine wpAnyH_take (i := 3) (v := ?_) rfl (by kernel_rfl) (by kernel_rfl) (by kernel_rfl) (fun _ _ _ h => h) (Or.inl ⟨by kernel_rfl, ?_⟩) E0 ?_
      rotate_left
      · (intro W hS; have k1 : W.cell? ⟨ga, 1, none⟩ = some (.string r.word) := (by rw [cell_of_row _ _ _ _ _ _ hS.1]; rfl); have k3 : W.cell? ⟨gq, 3, none⟩ = some (.string q.reason) := (by rw [cell_of_row _ _ _ _ _ _ hS.2]; rfl); go_simp; try (with_reducible rfl))
      refine wpAnyH_take (i := 4) (v := undef) rfl (by kernel_rfl) (by kernel_rfl) (by kernel_rfl) (fun _ _ _ h => h) (Or.inr ⟨by kernel_rfl, rfl⟩) E0 ?_
      refine wpAnyH_take (i := 5) (v := undef) rfl (by kernel_rfl) (by kernel_rfl) (by kernel_rfl) (fun _ _ _ h => h) (Or.inr ⟨by kernel_rfl, rfl⟩) E0 ?_
      refine wpAnyH_take (i := 6) (v := undef) rfl (by kernel_rfl) (by kernel_rfl) (by kernel_rfl) (fun _ _ _ h => h) (Or.inr ⟨by kernel_rfl, rfl⟩) E0 ?_
      refine wpAnyH_take (i := 7) (v := undef) rfl (by kernel_rfl) (by kernel_rfl) (by kernel_rfl) (fun _ _ _ h => h) (Or.inr ⟨by kernel_rfl, rfl⟩) E0 ?_
      refine wpAnyH_take (i := 8) (v := undef) rfl (by kernel_rfl) (by kernel_rfl) (by kernel_rfl) (fun _ _ _ h => h) (Or.inr ⟨by kernel_rfl, rfl⟩) E0 ?_
      refine wpAnyH_take (i := 9) (v := undef) rfl (by kernel_rfl) (by kernel_rfl) (by kernel_rfl) (fun _ _ _ h => h) (Or.inr ⟨by kernel_rfl, rfl⟩) E0 ?_
      refine wpAnyH_take (i := 10) (v := ?_) rfl (by kernel_rfl) (by kernel_rfl) (by kernel_rfl) (fun _ _ _ h => h) (Or.inl ⟨by kernel_rfl, ?_⟩) E0 ?_
      rotate_left
      · (intro W hS; have k1 : W.cell? ⟨ga, 1, none⟩ = some (.string r.word) := (by rw [cell_of_row _ _ _ _ _ _ hS.1]; rfl); have k3 : W.cell? ⟨gq, 3, none⟩ = some (.string q.reason) := (by rw [cell_of_row _ _ _ _ _ _ hS.2]; rfl); go_simp; try (with_reducible rfl))
      refine wpAnyH_take (i := 11) (v := ?_) rfl (by kernel_rfl) (by kernel_rfl) (by kernel_rfl) (fun _ _ _ h => h) (Or.inl ⟨by kernel_rfl, ?_⟩) E0 ?_
      rotate_left
      · (intro W hS; have k1 : W.cell? ⟨ga, 1, none⟩ = some (.string r.word) := (by rw [cell_of_row _ _ _ _ _ _ hS.1]; rfl); have k3 : W.cell? ⟨gq, 3, none⟩ = some (.string q.reason) := (by rw [cell_of_row _ _ _ _ _ _ hS.2]; rfl); go_simp; try (with_reducible rfl))
      refine wpAnyH_done (by kernel_rfl) ?_ _
      go_simp
      have HV := Lib.hid (And.intro E0.1 (And.intro E0.2 (H3.out.2.2.trans (F0.mono H3.out.2.2.size))))
      clear F0 E0
      have HE := HV.out
      have X := HE.1
      have c2 : v0.cell? ⟨ga, 2, none⟩ = some (.int .i64 r.fr) := by rw [cell_of_row _ _ _ _ _ _ X]; rfl
      have c3 : v0.cell? ⟨ga, 3, none⟩ = some (.int .i64 r.to) := by rw [cell_of_row _ _ _ _ _ _ X]; rfl
      have c4 : v0.cell? ⟨ga, 4, none⟩ = some (.int .i64 r.un) := by rw [cell_of_row _ _ _ _ _ _ X]; rfl
      clear X
      have X := HE.2.1
      have d2 : v0.cell? ⟨gq, 2, none⟩ = some (.int .i64 q.entry) := by rw [cell_of_row _ _ _ _ _ _ X]; rfl
      clear X
      by_cases h1 : r.fr ≤ q.entry
      rotate_left
      · have hz2 : Z = false := by rw [hz]; simp; omega
        have HZ2 := Lib.hid hz2
        clear hz hz2
        go_wp2_with fail
        go_ret
        exact ⟨by rw [HZ2.out]; rfl, HE.2.2⟩
      by_cases h2 : q.entry < r.to
      rotate_left
      · have hz2 : Z = false := by rw [hz]; simp; omega
        have HZ2 := Lib.hid hz2
        clear hz hz2
        go_wp2_with fail
        go_ret
        exact ⟨by rw [HZ2.out]; rfl, HE.2.2⟩
      by_cases h3 : now ≤ r.un
      rotate_left
      · have hz2 : Z = false := by rw [hz]; simp; omega
        have HZ2 := Lib.hid hz2
        clear hz hz2
        go_wp2_with fail
        go_ret
        exact ⟨by rw [HZ2.out]; first | rfl | (show Ending.returned (Value.bool (decide (now ≤ r.un))) = _; rw [decide_eq_false (by omega)]), HE.2.2⟩
      have hz2 : Z = true := by rw [hz]; simp; omega
      have HZ2 := Lib.hid hz2
      clear hz hz2
      go_wp2_with fail
      go_ret
      exact ⟨by rw [HZ2.out]; rfl, HE.2.2⟩
    have gC : r.word.toList.isEmpty = false := full_list hC
    cases V with
    | true =>
      have hz : Z = (decide (r.fr ≤ q.entry) && decide (q.entry < r.to) && decide (now ≤ r.un)) := by rw [HZ.out, decide_eq_false hA, decide_eq_true hB, decide_eq_false hC]; simp
      clear hA hB hC
      go_enter Try.func21, Try.ntmps21
      go_upto_region 1 with fail
      rw [← hw1, ← hgq, ← hga]
      clear hw1 hga hgq
      have X := HA.out.1
      have c0 : w1.cell? ⟨ga, 0, none⟩ = some (.string r.who) := by rw [cell_of_row _ _ _ _ _ _ X]; rfl
      have c1 : w1.cell? ⟨ga, 1, none⟩ = some (.string r.word) := by rw [cell_of_row _ _ _ _ _ _ X]; rfl
      have c2 : w1.cell? ⟨ga, 2, none⟩ = some (.int .i64 r.fr) := by rw [cell_of_row _ _ _ _ _ _ X]; rfl
      have c3 : w1.cell? ⟨ga, 3, none⟩ = some (.int .i64 r.to) := by rw [cell_of_row _ _ _ _ _ _ X]; rfl
      have c4 : w1.cell? ⟨ga, 4, none⟩ = some (.int .i64 r.un) := by rw [cell_of_row _ _ _ _ _ _ X]; rfl
      have c5 : w1.cell? ⟨ga, 5, none⟩ = some (.int .i64 r.mo) := by rw [cell_of_row _ _ _ _ _ _ X]; rfl
      have c6 : w1.cell? ⟨ga, 6, none⟩ = some (.bool r.allow) := by rw [cell_of_row _ _ _ _ _ _ X]; rfl
      clear X
      have X := HA.out.2
      have d0 : w1.cell? ⟨gq, 0, none⟩ = some (.int .i64 q.id) := by rw [cell_of_row _ _ _ _ _ _ X]; rfl
      have d1 : w1.cell? ⟨gq, 1, none⟩ = some (.string q.who) := by rw [cell_of_row _ _ _ _ _ _ X]; rfl
      have d2 : w1.cell? ⟨gq, 2, none⟩ = some (.int .i64 q.entry) := by rw [cell_of_row _ _ _ _ _ _ X]; rfl
      have d3 : w1.cell? ⟨gq, 3, none⟩ = some (.string q.reason) := by rw [cell_of_row _ _ _ _ _ _ X]; rfl
      have d4 : w1.cell? ⟨gq, 4, none⟩ = some (.int .i64 q.exp) := by rw [cell_of_row _ _ _ _ _ _ X]; rfl
      clear X
      go_wp2_with fail
      refine (H.out.1 _).mono ?_
      rintro e w2 ⟨rfl, hb2⟩
      have H2 := Lib.hid (And.intro ((hb2.block ga (pblt_of_heap HA.out.1)).trans HA.out.1) (And.intro ((hb2.block gq (pblt_of_heap HA.out.2)).trans HA.out.2) (H.out.2.2.2.2.trans (hb2.mono H.out.2.2.2.2.size))))
      clear hb2 c0 c1 c2 c3 c4 c5 c6 d0 d1 d2 d3 d4
      have X := H2.out.1
      have c0 : w2.cell? ⟨ga, 0, none⟩ = some (.string r.who) := by rw [cell_of_row _ _ _ _ _ _ X]; rfl
      have c1 : w2.cell? ⟨ga, 1, none⟩ = some (.string r.word) := by rw [cell_of_row _ _ _ _ _ _ X]; rfl
      have c2 : w2.cell? ⟨ga, 2, none⟩ = some (.int .i64 r.fr) := by rw [cell_of_row _ _ _ _ _ _ X]; rfl
      have c3 : w2.cell? ⟨ga, 3, none⟩ = some (.int .i64 r.to) := by rw [cell_of_row _ _ _ _ _ _ X]; rfl
      have c4 : w2.cell? ⟨ga, 4, none⟩ = some (.int .i64 r.un) := by rw [cell_of_row _ _ _ _ _ _ X]; rfl
      have c5 : w2.cell? ⟨ga, 5, none⟩ = some (.int .i64 r.mo) := by rw [cell_of_row _ _ _ _ _ _ X]; rfl
      have c6 : w2.cell? ⟨ga, 6, none⟩ = some (.bool r.allow) := by rw [cell_of_row _ _ _ _ _ _ X]; rfl
      clear X
      have X := H2.out.2.1
      have d0 : w2.cell? ⟨gq, 0, none⟩ = some (.int .i64 q.id) := by rw [cell_of_row _ _ _ _ _ _ X]; rfl
      have d1 : w2.cell? ⟨gq, 1, none⟩ = some (.string q.who) := by rw [cell_of_row _ _ _ _ _ _ X]; rfl
      have d2 : w2.cell? ⟨gq, 2, none⟩ = some (.int .i64 q.entry) := by rw [cell_of_row _ _ _ _ _ _ X]; rfl
      have d3 : w2.cell? ⟨gq, 3, none⟩ = some (.string q.reason) := by rw [cell_of_row _ _ _ _ _ _ X]; rfl
      have d4 : w2.cell? ⟨gq, 4, none⟩ = some (.int .i64 q.exp) := by rw [cell_of_row _ _ _ _ _ _ X]; rfl
      clear X
      go_wp2_with fail
      refine (H.out.2.1 _).mono ?_
      rintro e w3 ⟨rfl, hb3⟩
      have H3 := Lib.hid (And.intro ((hb3.block ga (pblt_of_heap H2.out.1)).trans H2.out.1) (And.intro ((hb3.block gq (pblt_of_heap H2.out.2.1)).trans H2.out.2.1) (H2.out.2.2.trans (hb3.mono H2.out.2.2.size))))
      clear hb3 c0 c1 c2 c3 c4 c5 c6 d0 d1 d2 d3 d4
      have X := H3.out.1
      have c0 : w3.cell? ⟨ga, 0, none⟩ = some (.string r.who) := by rw [cell_of_row _ _ _ _ _ _ X]; rfl
      clear X
      have X := H3.out.2.1
      have d1 : w3.cell? ⟨gq, 1, none⟩ = some (.string q.who) := by rw [cell_of_row _ _ _ _ _ _ X]; rfl
      clear X
      go_upto_region 4 with fail
      clear c0 d1
      refine wp_region_held (S := fun W : World => (W.heap[ga]? = some (.cells (ruCs r) 46 (0, 0)) ∧ W.heap[gq]? = some (.cells (qCs q) 24 (0, 0)))) (by kernel_rfl) ?_
      change wpAnyH _ _ _ _ _ _ _ _ (World.drew _)
      generalize hv0 : World.drew _ = v0
      have E0 : (v0.heap[ga]? = some (.cells (ruCs r) 46 (0, 0)) ∧ v0.heap[gq]? = some (.cells (qCs q) 24 (0, 0))) := by rw [← hv0]; exact ⟨H3.out.1, H3.out.2.1⟩
      have F0 : Below w3.heap.size w3 v0 := by rw [← hv0]; exact ((Below.refl _ _).drew)
      clear hv0
      refine wpAnyH_take (i := 0) (v := ?_) rfl (by kernel_rfl) (by kernel_rfl) (by kernel_rfl) (fun _ _ _ h => h) (Or.inl ⟨by kernel_rfl, ?_⟩) E0 ?_
      rotate_left
      · (intro W hS; have k1 : W.cell? ⟨ga, 1, none⟩ = some (.string r.word) := (by rw [cell_of_row _ _ _ _ _ _ hS.1]; rfl); have k3 : W.cell? ⟨gq, 3, none⟩ = some (.string q.reason) := (by rw [cell_of_row _ _ _ _ _ _ hS.2]; rfl); go_simp; try (with_reducible rfl))
      refine wpAnyH_take (i := 1) (v := ?_) rfl (by kernel_rfl) (by kernel_rfl) (by kernel_rfl) (fun _ _ _ h => h) (Or.inl ⟨by kernel_rfl, ?_⟩) E0 ?_
      rotate_left
      · (intro W hS; have k1 : W.cell? ⟨ga, 1, none⟩ = some (.string r.word) := (by rw [cell_of_row _ _ _ _ _ _ hS.1]; rfl); have k3 : W.cell? ⟨gq, 3, none⟩ = some (.string q.reason) := (by rw [cell_of_row _ _ _ _ _ _ hS.2]; rfl); go_simp; try (with_reducible rfl))
      refine wpAnyH_take (i := 2) (v := ?_) rfl (by kernel_rfl) (by kernel_rfl) (by kernel_rfl) (fun _ _ _ h => h) (Or.inl ⟨by kernel_rfl, ?_⟩) E0 ?_
      rotate_left
      · (intro W hS; have k1 : W.cell? ⟨ga, 1, none⟩ = some (.string r.word) := (by rw [cell_of_row _ _ _ _ _ _ hS.1]; rfl); have k3 : W.cell? ⟨gq, 3, none⟩ = some (.string q.reason) := (by rw [cell_of_row _ _ _ _ _ _ hS.2]; rfl); go_simp; try (with_reducible rfl))
      refine wpAnyH_take (i := 3) (v := ?_) rfl (by kernel_rfl) (by kernel_rfl) (by kernel_rfl) (fun _ _ _ h => h) (Or.inl ⟨by kernel_rfl, ?_⟩) E0 ?_
      rotate_left
      · (intro W hS; have k1 : W.cell? ⟨ga, 1, none⟩ = some (.string r.word) := (by rw [cell_of_row _ _ _ _ _ _ hS.1]; rfl); have k3 : W.cell? ⟨gq, 3, none⟩ = some (.string q.reason) := (by rw [cell_of_row _ _ _ _ _ _ hS.2]; rfl); go_simp; try (with_reducible rfl))
      refine wpAnyH_take (i := 4) (v := ?_) rfl (by kernel_rfl) (by kernel_rfl) (by kernel_rfl) (fun _ _ _ h => h) (Or.inl ⟨by kernel_rfl, ?_⟩) E0 ?_
      rotate_left
      · (intro W hS; have k1 : W.cell? ⟨ga, 1, none⟩ = some (.string r.word) := (by rw [cell_of_row _ _ _ _ _ _ hS.1]; rfl); have k3 : W.cell? ⟨gq, 3, none⟩ = some (.string q.reason) := (by rw [cell_of_row _ _ _ _ _ _ hS.2]; rfl); go_simp; try (with_reducible rfl))
      refine wpAnyH_take (i := 5) (v := ?_) rfl (by kernel_rfl) (by kernel_rfl) (by kernel_rfl) (fun _ _ _ h => h) (Or.inl ⟨by kernel_rfl, ?_⟩) E0 ?_
      rotate_left
      · (intro W hS; have k1 : W.cell? ⟨ga, 1, none⟩ = some (.string r.word) := (by rw [cell_of_row _ _ _ _ _ _ hS.1]; rfl); have k3 : W.cell? ⟨gq, 3, none⟩ = some (.string q.reason) := (by rw [cell_of_row _ _ _ _ _ _ hS.2]; rfl); go_simp; try (with_reducible rfl))
      refine wpAnyH_take (i := 7) (v := ?_) rfl (by kernel_rfl) (by kernel_rfl) (by kernel_rfl) (fun _ _ _ h => h) (Or.inl ⟨by kernel_rfl, ?_⟩) E0 ?_
      rotate_left
      · (intro W hS; have k1 : W.cell? ⟨ga, 1, none⟩ = some (.string r.word) := (by rw [cell_of_row _ _ _ _ _ _ hS.1]; rfl); have k3 : W.cell? ⟨gq, 3, none⟩ = some (.string q.reason) := (by rw [cell_of_row _ _ _ _ _ _ hS.2]; rfl); go_simp; try (with_reducible rfl))
      refine wpAnyH_take (i := 8) (v := ?_) rfl (by kernel_rfl) (by kernel_rfl) (by kernel_rfl) (fun _ _ _ h => h) (Or.inl ⟨by kernel_rfl, ?_⟩) E0 ?_
      rotate_left
      · (intro W hS; have k1 : W.cell? ⟨ga, 1, none⟩ = some (.string r.word) := (by rw [cell_of_row _ _ _ _ _ _ hS.1]; rfl); have k3 : W.cell? ⟨gq, 3, none⟩ = some (.string q.reason) := (by rw [cell_of_row _ _ _ _ _ _ hS.2]; rfl); go_simp; try (with_reducible rfl))
      refine wpAnyH_ready (rs := [6]) (by kernel_rfl) (by simp) ?_
      refine AllReadyH.cons (i := 6) rfl (fun K hK => ?_) AllReadyH.nil
      go_simp
      refine (H.out.2.2.1 v0 HRS.out).mono ?_
      rintro e v1 ⟨ad, cp, rfl, hO, hb⟩
      have F1 := F0.trans (hb.mono F0.size)
      have E1 : (v1.heap[ga]? = some (.cells (ruCs r) 46 (0, 0)) ∧ v1.heap[gq]? = some (.cells (qCs q) 24 (0, 0))) := ⟨(hb.block _ (pblt_of_heap E0.1)).trans E0.1, (hb.block _ (pblt_of_heap E0.2)).trans E0.2⟩
      have hTx := hO.texts
      clear hO
      refine hK.out _ _ E1 (fun _ => ?_)
      clear hK K hb
      refine wpAnyH_ready (rs := [9]) (by kernel_rfl) (by simp) ?_
      refine AllReadyH.cons (i := 9) rfl (fun K hK => ?_) AllReadyH.nil
      go_simp
      refine ((H.out.2.2.2.1 v1 ad cp hTx).mono (R' := fun e w' => e = .returned (.bool true) ∧ Below v1.heap.size v1 w') (by rintro e w' ⟨rfl, rfl⟩; exact ⟨rfl, Below.refl _ _⟩)).mono ?_
      rintro e v2 ⟨rfl, hb⟩
      have F2 := F1.trans (hb.mono F1.size)
      have E2 : (v2.heap[ga]? = some (.cells (ruCs r) 46 (0, 0)) ∧ v2.heap[gq]? = some (.cells (qCs q) 24 (0, 0))) := ⟨(hb.block _ (pblt_of_heap E1.1)).trans E1.1, (hb.block _ (pblt_of_heap E1.2)).trans E1.2⟩
      clear hTx
      refine hK.out _ _ E2 (fun _ => ?_)
      clear hK K hb
      refine wpAnyH_take (i := 10) (v := ?_) rfl (by kernel_rfl) (by kernel_rfl) (by kernel_rfl) (fun _ _ _ h => h) (Or.inl ⟨by kernel_rfl, ?_⟩) E2 ?_
      rotate_left
      · (intro W hS; have k1 : W.cell? ⟨ga, 1, none⟩ = some (.string r.word) := (by rw [cell_of_row _ _ _ _ _ _ hS.1]; rfl); have k3 : W.cell? ⟨gq, 3, none⟩ = some (.string q.reason) := (by rw [cell_of_row _ _ _ _ _ _ hS.2]; rfl); go_simp; try (with_reducible rfl))
      refine wpAnyH_take (i := 11) (v := ?_) rfl (by kernel_rfl) (by kernel_rfl) (by kernel_rfl) (fun _ _ _ h => h) (Or.inl ⟨by kernel_rfl, ?_⟩) E2 ?_
      rotate_left
      · (intro W hS; have k1 : W.cell? ⟨ga, 1, none⟩ = some (.string r.word) := (by rw [cell_of_row _ _ _ _ _ _ hS.1]; rfl); have k3 : W.cell? ⟨gq, 3, none⟩ = some (.string q.reason) := (by rw [cell_of_row _ _ _ _ _ _ hS.2]; rfl); go_simp; try (with_reducible rfl))
      refine wpAnyH_done (by kernel_rfl) ?_ _
      go_simp
      have HV := Lib.hid (And.intro E2.1 (And.intro E2.2 (H3.out.2.2.trans (F2.mono H3.out.2.2.size))))
      clear F0 F2 E0 E1 E2
      have HE := HV.out
      have X := HE.1
      have c2 : v2.cell? ⟨ga, 2, none⟩ = some (.int .i64 r.fr) := by rw [cell_of_row _ _ _ _ _ _ X]; rfl
      have c3 : v2.cell? ⟨ga, 3, none⟩ = some (.int .i64 r.to) := by rw [cell_of_row _ _ _ _ _ _ X]; rfl
      have c4 : v2.cell? ⟨ga, 4, none⟩ = some (.int .i64 r.un) := by rw [cell_of_row _ _ _ _ _ _ X]; rfl
      clear X
      have X := HE.2.1
      have d2 : v2.cell? ⟨gq, 2, none⟩ = some (.int .i64 q.entry) := by rw [cell_of_row _ _ _ _ _ _ X]; rfl
      clear X
      by_cases h1 : r.fr ≤ q.entry
      rotate_left
      · have hz2 : Z = false := by rw [hz]; simp; omega
        have HZ2 := Lib.hid hz2
        clear hz hz2
        go_wp2_with fail
        go_ret
        exact ⟨by rw [HZ2.out]; rfl, HE.2.2⟩
      by_cases h2 : q.entry < r.to
      rotate_left
      · have hz2 : Z = false := by rw [hz]; simp; omega
        have HZ2 := Lib.hid hz2
        clear hz hz2
        go_wp2_with fail
        go_ret
        exact ⟨by rw [HZ2.out]; rfl, HE.2.2⟩
      by_cases h3 : now ≤ r.un
      rotate_left
      · have hz2 : Z = false := by rw [hz]; simp; omega
        have HZ2 := Lib.hid hz2
        clear hz hz2
        go_wp2_with fail
        go_ret
        exact ⟨by rw [HZ2.out]; first | rfl | (show Ending.returned (Value.bool (decide (now ≤ r.un))) = _; rw [decide_eq_false (by omega)]), HE.2.2⟩
      have hz2 : Z = true := by rw [hz]; simp; omega
      have HZ2 := Lib.hid hz2
      clear hz hz2
      go_wp2_with fail
      go_ret
      exact ⟨by rw [HZ2.out]; rfl, HE.2.2⟩
    | false =>
      have hz : Z = false := by rw [HZ.out, decide_eq_false hA, decide_eq_true hB, decide_eq_false hC]; simp
      clear hA hB hC
      go_enter Try.func21, Try.ntmps21
      go_upto_region 1 with fail
      rw [← hw1, ← hgq, ← hga]
      clear hw1 hga hgq
      have X := HA.out.1
      have c0 : w1.cell? ⟨ga, 0, none⟩ = some (.string r.who) := by rw [cell_of_row _ _ _ _ _ _ X]; rfl
      have c1 : w1.cell? ⟨ga, 1, none⟩ = some (.string r.word) := by rw [cell_of_row _ _ _ _ _ _ X]; rfl
      have c2 : w1.cell? ⟨ga, 2, none⟩ = some (.int .i64 r.fr) := by rw [cell_of_row _ _ _ _ _ _ X]; rfl
      have c3 : w1.cell? ⟨ga, 3, none⟩ = some (.int .i64 r.to) := by rw [cell_of_row _ _ _ _ _ _ X]; rfl
      have c4 : w1.cell? ⟨ga, 4, none⟩ = some (.int .i64 r.un) := by rw [cell_of_row _ _ _ _ _ _ X]; rfl
      have c5 : w1.cell? ⟨ga, 5, none⟩ = some (.int .i64 r.mo) := by rw [cell_of_row _ _ _ _ _ _ X]; rfl
      have c6 : w1.cell? ⟨ga, 6, none⟩ = some (.bool r.allow) := by rw [cell_of_row _ _ _ _ _ _ X]; rfl
      clear X
      have X := HA.out.2
      have d0 : w1.cell? ⟨gq, 0, none⟩ = some (.int .i64 q.id) := by rw [cell_of_row _ _ _ _ _ _ X]; rfl
      have d1 : w1.cell? ⟨gq, 1, none⟩ = some (.string q.who) := by rw [cell_of_row _ _ _ _ _ _ X]; rfl
      have d2 : w1.cell? ⟨gq, 2, none⟩ = some (.int .i64 q.entry) := by rw [cell_of_row _ _ _ _ _ _ X]; rfl
      have d3 : w1.cell? ⟨gq, 3, none⟩ = some (.string q.reason) := by rw [cell_of_row _ _ _ _ _ _ X]; rfl
      have d4 : w1.cell? ⟨gq, 4, none⟩ = some (.int .i64 q.exp) := by rw [cell_of_row _ _ _ _ _ _ X]; rfl
      clear X
      go_wp2_with fail
      refine (H.out.1 _).mono ?_
      rintro e w2 ⟨rfl, hb2⟩
      have H2 := Lib.hid (And.intro ((hb2.block ga (pblt_of_heap HA.out.1)).trans HA.out.1) (And.intro ((hb2.block gq (pblt_of_heap HA.out.2)).trans HA.out.2) (H.out.2.2.2.2.trans (hb2.mono H.out.2.2.2.2.size))))
      clear hb2 c0 c1 c2 c3 c4 c5 c6 d0 d1 d2 d3 d4
      have X := H2.out.1
      have c0 : w2.cell? ⟨ga, 0, none⟩ = some (.string r.who) := by rw [cell_of_row _ _ _ _ _ _ X]; rfl
      have c1 : w2.cell? ⟨ga, 1, none⟩ = some (.string r.word) := by rw [cell_of_row _ _ _ _ _ _ X]; rfl
      have c2 : w2.cell? ⟨ga, 2, none⟩ = some (.int .i64 r.fr) := by rw [cell_of_row _ _ _ _ _ _ X]; rfl
      have c3 : w2.cell? ⟨ga, 3, none⟩ = some (.int .i64 r.to) := by rw [cell_of_row _ _ _ _ _ _ X]; rfl
      have c4 : w2.cell? ⟨ga, 4, none⟩ = some (.int .i64 r.un) := by rw [cell_of_row _ _ _ _ _ _ X]; rfl
      have c5 : w2.cell? ⟨ga, 5, none⟩ = some (.int .i64 r.mo) := by rw [cell_of_row _ _ _ _ _ _ X]; rfl
      have c6 : w2.cell? ⟨ga, 6, none⟩ = some (.bool r.allow) := by rw [cell_of_row _ _ _ _ _ _ X]; rfl
      clear X
      have X := H2.out.2.1
      have d0 : w2.cell? ⟨gq, 0, none⟩ = some (.int .i64 q.id) := by rw [cell_of_row _ _ _ _ _ _ X]; rfl
      have d1 : w2.cell? ⟨gq, 1, none⟩ = some (.string q.who) := by rw [cell_of_row _ _ _ _ _ _ X]; rfl
      have d2 : w2.cell? ⟨gq, 2, none⟩ = some (.int .i64 q.entry) := by rw [cell_of_row _ _ _ _ _ _ X]; rfl
      have d3 : w2.cell? ⟨gq, 3, none⟩ = some (.string q.reason) := by rw [cell_of_row _ _ _ _ _ _ X]; rfl
      have d4 : w2.cell? ⟨gq, 4, none⟩ = some (.int .i64 q.exp) := by rw [cell_of_row _ _ _ _ _ _ X]; rfl
      clear X
      go_wp2_with fail
      refine (H.out.2.1 _).mono ?_
      rintro e w3 ⟨rfl, hb3⟩
      have H3 := Lib.hid (And.intro ((hb3.block ga (pblt_of_heap H2.out.1)).trans H2.out.1) (And.intro ((hb3.block gq (pblt_of_heap H2.out.2.1)).trans H2.out.2.1) (H2.out.2.2.trans (hb3.mono H2.out.2.2.size))))
      clear hb3 c0 c1 c2 c3 c4 c5 c6 d0 d1 d2 d3 d4
      have X := H3.out.1
      have c0 : w3.cell? ⟨ga, 0, none⟩ = some (.string r.who) := by rw [cell_of_row _ _ _ _ _ _ X]; rfl
      clear X
      have X := H3.out.2.1
      have d1 : w3.cell? ⟨gq, 1, none⟩ = some (.string q.who) := by rw [cell_of_row _ _ _ _ _ _ X]; rfl
      clear X
      go_upto_region 4 with fail
      clear c0 d1
      refine wp_region_held (S := fun W : World => (W.heap[ga]? = some (.cells (ruCs r) 46 (0, 0)) ∧ W.heap[gq]? = some (.cells (qCs q) 24 (0, 0)))) (by kernel_rfl) ?_
      change wpAnyH _ _ _ _ _ _ _ _ (World.drew _)
      generalize hv0 : World.drew _ = v0
      have E0 : (v0.heap[ga]? = some (.cells (ruCs r) 46 (0, 0)) ∧ v0.heap[gq]? = some (.cells (qCs q) 24 (0, 0))) := by rw [← hv0]; exact ⟨H3.out.1, H3.out.2.1⟩
      have F0 : Below w3.heap.size w3 v0 := by rw [← hv0]; exact ((Below.refl _ _).drew)
      clear hv0
      refine wpAnyH_take (i := 0) (v := ?_) rfl (by kernel_rfl) (by kernel_rfl) (by kernel_rfl) (fun _ _ _ h => h) (Or.inl ⟨by kernel_rfl, ?_⟩) E0 ?_
      rotate_left
      · (intro W hS; have k1 : W.cell? ⟨ga, 1, none⟩ = some (.string r.word) := (by rw [cell_of_row _ _ _ _ _ _ hS.1]; rfl); have k3 : W.cell? ⟨gq, 3, none⟩ = some (.string q.reason) := (by rw [cell_of_row _ _ _ _ _ _ hS.2]; rfl); go_simp; try (with_reducible rfl))
      refine wpAnyH_take (i := 1) (v := ?_) rfl (by kernel_rfl) (by kernel_rfl) (by kernel_rfl) (fun _ _ _ h => h) (Or.inl ⟨by kernel_rfl, ?_⟩) E0 ?_
      rotate_left
      · (intro W hS; have k1 : W.cell? ⟨ga, 1, none⟩ = some (.string r.word) := (by rw [cell_of_row _ _ _ _ _ _ hS.1]; rfl); have k3 : W.cell? ⟨gq, 3, none⟩ = some (.string q.reason) := (by rw [cell_of_row _ _ _ _ _ _ hS.2]; rfl); go_simp; try (with_reducible rfl))
      refine wpAnyH_take (i := 2) (v := ?_) rfl (by kernel_rfl) (by kernel_rfl) (by kernel_rfl) (fun _ _ _ h => h) (Or.inl ⟨by kernel_rfl, ?_⟩) E0 ?_
      rotate_left
      · (intro W hS; have k1 : W.cell? ⟨ga, 1, none⟩ = some (.string r.word) := (by rw [cell_of_row _ _ _ _ _ _ hS.1]; rfl); have k3 : W.cell? ⟨gq, 3, none⟩ = some (.string q.reason) := (by rw [cell_of_row _ _ _ _ _ _ hS.2]; rfl); go_simp; try (with_reducible rfl))
      refine wpAnyH_take (i := 3) (v := ?_) rfl (by kernel_rfl) (by kernel_rfl) (by kernel_rfl) (fun _ _ _ h => h) (Or.inl ⟨by kernel_rfl, ?_⟩) E0 ?_
      rotate_left
      · (intro W hS; have k1 : W.cell? ⟨ga, 1, none⟩ = some (.string r.word) := (by rw [cell_of_row _ _ _ _ _ _ hS.1]; rfl); have k3 : W.cell? ⟨gq, 3, none⟩ = some (.string q.reason) := (by rw [cell_of_row _ _ _ _ _ _ hS.2]; rfl); go_simp; try (with_reducible rfl))
      refine wpAnyH_take (i := 4) (v := ?_) rfl (by kernel_rfl) (by kernel_rfl) (by kernel_rfl) (fun _ _ _ h => h) (Or.inl ⟨by kernel_rfl, ?_⟩) E0 ?_
      rotate_left
      · (intro W hS; have k1 : W.cell? ⟨ga, 1, none⟩ = some (.string r.word) := (by rw [cell_of_row _ _ _ _ _ _ hS.1]; rfl); have k3 : W.cell? ⟨gq, 3, none⟩ = some (.string q.reason) := (by rw [cell_of_row _ _ _ _ _ _ hS.2]; rfl); go_simp; try (with_reducible rfl))
      refine wpAnyH_take (i := 5) (v := ?_) rfl (by kernel_rfl) (by kernel_rfl) (by kernel_rfl) (fun _ _ _ h => h) (Or.inl ⟨by kernel_rfl, ?_⟩) E0 ?_
      rotate_left
      · (intro W hS; have k1 : W.cell? ⟨ga, 1, none⟩ = some (.string r.word) := (by rw [cell_of_row _ _ _ _ _ _ hS.1]; rfl); have k3 : W.cell? ⟨gq, 3, none⟩ = some (.string q.reason) := (by rw [cell_of_row _ _ _ _ _ _ hS.2]; rfl); go_simp; try (with_reducible rfl))
      refine wpAnyH_take (i := 7) (v := ?_) rfl (by kernel_rfl) (by kernel_rfl) (by kernel_rfl) (fun _ _ _ h => h) (Or.inl ⟨by kernel_rfl, ?_⟩) E0 ?_
      rotate_left
      · (intro W hS; have k1 : W.cell? ⟨ga, 1, none⟩ = some (.string r.word) := (by rw [cell_of_row _ _ _ _ _ _ hS.1]; rfl); have k3 : W.cell? ⟨gq, 3, none⟩ = some (.string q.reason) := (by rw [cell_of_row _ _ _ _ _ _ hS.2]; rfl); go_simp; try (with_reducible rfl))
      refine wpAnyH_take (i := 8) (v := ?_) rfl (by kernel_rfl) (by kernel_rfl) (by kernel_rfl) (fun _ _ _ h => h) (Or.inl ⟨by kernel_rfl, ?_⟩) E0 ?_
      rotate_left
      · (intro W hS; have k1 : W.cell? ⟨ga, 1, none⟩ = some (.string r.word) := (by rw [cell_of_row _ _ _ _ _ _ hS.1]; rfl); have k3 : W.cell? ⟨gq, 3, none⟩ = some (.string q.reason) := (by rw [cell_of_row _ _ _ _ _ _ hS.2]; rfl); go_simp; try (with_reducible rfl))
      refine wpAnyH_ready (rs := [6]) (by kernel_rfl) (by simp) ?_
      refine AllReadyH.cons (i := 6) rfl (fun K hK => ?_) AllReadyH.nil
      go_simp
      refine (H.out.2.2.1 v0 HRS.out).mono ?_
      rintro e v1 ⟨ad, cp, rfl, hO, hb⟩
      have F1 := F0.trans (hb.mono F0.size)
      have E1 : (v1.heap[ga]? = some (.cells (ruCs r) 46 (0, 0)) ∧ v1.heap[gq]? = some (.cells (qCs q) 24 (0, 0))) := ⟨(hb.block _ (pblt_of_heap E0.1)).trans E0.1, (hb.block _ (pblt_of_heap E0.2)).trans E0.2⟩
      have hTx := hO.texts
      clear hO
      refine hK.out _ _ E1 (fun _ => ?_)
      clear hK K hb
      refine wpAnyH_ready (rs := [9]) (by kernel_rfl) (by simp) ?_
      refine AllReadyH.cons (i := 9) rfl (fun K hK => ?_) AllReadyH.nil
      go_simp
      refine ((H.out.2.2.2.1 v1 ad cp hTx).mono (R' := fun e w' => e = .returned (.bool false) ∧ Below v1.heap.size v1 w') (by rintro e w' ⟨rfl, rfl⟩; exact ⟨rfl, Below.refl _ _⟩)).mono ?_
      rintro e v2 ⟨rfl, hb⟩
      have F2 := F1.trans (hb.mono F1.size)
      have E2 : (v2.heap[ga]? = some (.cells (ruCs r) 46 (0, 0)) ∧ v2.heap[gq]? = some (.cells (qCs q) 24 (0, 0))) := ⟨(hb.block _ (pblt_of_heap E1.1)).trans E1.1, (hb.block _ (pblt_of_heap E1.2)).trans E1.2⟩
      clear hTx
      refine hK.out _ _ E2 (fun _ => ?_)
      clear hK K hb
      refine wpAnyH_take (i := 10) (v := ?_) rfl (by kernel_rfl) (by kernel_rfl) (by kernel_rfl) (fun _ _ _ h => h) (Or.inl ⟨by kernel_rfl, ?_⟩) E2 ?_
      rotate_left
      · (intro W hS; have k1 : W.cell? ⟨ga, 1, none⟩ = some (.string r.word) := (by rw [cell_of_row _ _ _ _ _ _ hS.1]; rfl); have k3 : W.cell? ⟨gq, 3, none⟩ = some (.string q.reason) := (by rw [cell_of_row _ _ _ _ _ _ hS.2]; rfl); go_simp; try (with_reducible rfl))
      refine wpAnyH_take (i := 11) (v := ?_) rfl (by kernel_rfl) (by kernel_rfl) (by kernel_rfl) (fun _ _ _ h => h) (Or.inl ⟨by kernel_rfl, ?_⟩) E2 ?_
      rotate_left
      · (intro W hS; have k1 : W.cell? ⟨ga, 1, none⟩ = some (.string r.word) := (by rw [cell_of_row _ _ _ _ _ _ hS.1]; rfl); have k3 : W.cell? ⟨gq, 3, none⟩ = some (.string q.reason) := (by rw [cell_of_row _ _ _ _ _ _ hS.2]; rfl); go_simp; try (with_reducible rfl))
      refine wpAnyH_done (by kernel_rfl) ?_ _
      go_simp
      have HV := Lib.hid (And.intro E2.1 (And.intro E2.2 (H3.out.2.2.trans (F2.mono H3.out.2.2.size))))
      clear F0 F2 E0 E1 E2
      have HE := HV.out
      have X := HE.1
      have c2 : v2.cell? ⟨ga, 2, none⟩ = some (.int .i64 r.fr) := by rw [cell_of_row _ _ _ _ _ _ X]; rfl
      have c3 : v2.cell? ⟨ga, 3, none⟩ = some (.int .i64 r.to) := by rw [cell_of_row _ _ _ _ _ _ X]; rfl
      have c4 : v2.cell? ⟨ga, 4, none⟩ = some (.int .i64 r.un) := by rw [cell_of_row _ _ _ _ _ _ X]; rfl
      clear X
      have X := HE.2.1
      have d2 : v2.cell? ⟨gq, 2, none⟩ = some (.int .i64 q.entry) := by rw [cell_of_row _ _ _ _ _ _ X]; rfl
      clear X
      go_wp2_with fail
      go_ret
      exact ⟨by rw [hz]; rfl, HE.2.2⟩
  have gB : (r.who.toList == q.who.toList) = false := pne_toList hB
  by_cases hC : r.word.size = 0
  · have gC : r.word.toList.isEmpty = true := empty_list hC
    have hz : Z = false := by rw [HZ.out, decide_eq_false hA, decide_eq_false hB, decide_eq_true hC]; simp
    clear hA hB hC
    go_enter Try.func21, Try.ntmps21
    go_upto_region 1 with fail
    rw [← hw1, ← hgq, ← hga]
    clear hw1 hga hgq
    have X := HA.out.1
    have c0 : w1.cell? ⟨ga, 0, none⟩ = some (.string r.who) := by rw [cell_of_row _ _ _ _ _ _ X]; rfl
    have c1 : w1.cell? ⟨ga, 1, none⟩ = some (.string r.word) := by rw [cell_of_row _ _ _ _ _ _ X]; rfl
    have c2 : w1.cell? ⟨ga, 2, none⟩ = some (.int .i64 r.fr) := by rw [cell_of_row _ _ _ _ _ _ X]; rfl
    have c3 : w1.cell? ⟨ga, 3, none⟩ = some (.int .i64 r.to) := by rw [cell_of_row _ _ _ _ _ _ X]; rfl
    have c4 : w1.cell? ⟨ga, 4, none⟩ = some (.int .i64 r.un) := by rw [cell_of_row _ _ _ _ _ _ X]; rfl
    have c5 : w1.cell? ⟨ga, 5, none⟩ = some (.int .i64 r.mo) := by rw [cell_of_row _ _ _ _ _ _ X]; rfl
    have c6 : w1.cell? ⟨ga, 6, none⟩ = some (.bool r.allow) := by rw [cell_of_row _ _ _ _ _ _ X]; rfl
    clear X
    have X := HA.out.2
    have d0 : w1.cell? ⟨gq, 0, none⟩ = some (.int .i64 q.id) := by rw [cell_of_row _ _ _ _ _ _ X]; rfl
    have d1 : w1.cell? ⟨gq, 1, none⟩ = some (.string q.who) := by rw [cell_of_row _ _ _ _ _ _ X]; rfl
    have d2 : w1.cell? ⟨gq, 2, none⟩ = some (.int .i64 q.entry) := by rw [cell_of_row _ _ _ _ _ _ X]; rfl
    have d3 : w1.cell? ⟨gq, 3, none⟩ = some (.string q.reason) := by rw [cell_of_row _ _ _ _ _ _ X]; rfl
    have d4 : w1.cell? ⟨gq, 4, none⟩ = some (.int .i64 q.exp) := by rw [cell_of_row _ _ _ _ _ _ X]; rfl
    clear X
    go_wp2_with fail
    refine (H.out.1 _).mono ?_
    rintro e w2 ⟨rfl, hb2⟩
    have H2 := Lib.hid (And.intro ((hb2.block ga (pblt_of_heap HA.out.1)).trans HA.out.1) (And.intro ((hb2.block gq (pblt_of_heap HA.out.2)).trans HA.out.2) (H.out.2.2.2.2.trans (hb2.mono H.out.2.2.2.2.size))))
    clear hb2 c0 c1 c2 c3 c4 c5 c6 d0 d1 d2 d3 d4
    have X := H2.out.1
    have c0 : w2.cell? ⟨ga, 0, none⟩ = some (.string r.who) := by rw [cell_of_row _ _ _ _ _ _ X]; rfl
    have c1 : w2.cell? ⟨ga, 1, none⟩ = some (.string r.word) := by rw [cell_of_row _ _ _ _ _ _ X]; rfl
    have c2 : w2.cell? ⟨ga, 2, none⟩ = some (.int .i64 r.fr) := by rw [cell_of_row _ _ _ _ _ _ X]; rfl
    have c3 : w2.cell? ⟨ga, 3, none⟩ = some (.int .i64 r.to) := by rw [cell_of_row _ _ _ _ _ _ X]; rfl
    have c4 : w2.cell? ⟨ga, 4, none⟩ = some (.int .i64 r.un) := by rw [cell_of_row _ _ _ _ _ _ X]; rfl
    have c5 : w2.cell? ⟨ga, 5, none⟩ = some (.int .i64 r.mo) := by rw [cell_of_row _ _ _ _ _ _ X]; rfl
    have c6 : w2.cell? ⟨ga, 6, none⟩ = some (.bool r.allow) := by rw [cell_of_row _ _ _ _ _ _ X]; rfl
    clear X
    have X := H2.out.2.1
    have d0 : w2.cell? ⟨gq, 0, none⟩ = some (.int .i64 q.id) := by rw [cell_of_row _ _ _ _ _ _ X]; rfl
    have d1 : w2.cell? ⟨gq, 1, none⟩ = some (.string q.who) := by rw [cell_of_row _ _ _ _ _ _ X]; rfl
    have d2 : w2.cell? ⟨gq, 2, none⟩ = some (.int .i64 q.entry) := by rw [cell_of_row _ _ _ _ _ _ X]; rfl
    have d3 : w2.cell? ⟨gq, 3, none⟩ = some (.string q.reason) := by rw [cell_of_row _ _ _ _ _ _ X]; rfl
    have d4 : w2.cell? ⟨gq, 4, none⟩ = some (.int .i64 q.exp) := by rw [cell_of_row _ _ _ _ _ _ X]; rfl
    clear X
    go_wp2_with fail
    refine (H.out.2.1 _).mono ?_
    rintro e w3 ⟨rfl, hb3⟩
    have H3 := Lib.hid (And.intro ((hb3.block ga (pblt_of_heap H2.out.1)).trans H2.out.1) (And.intro ((hb3.block gq (pblt_of_heap H2.out.2.1)).trans H2.out.2.1) (H2.out.2.2.trans (hb3.mono H2.out.2.2.size))))
    clear hb3 c0 c1 c2 c3 c4 c5 c6 d0 d1 d2 d3 d4
    have X := H3.out.1
    have c0 : w3.cell? ⟨ga, 0, none⟩ = some (.string r.who) := by rw [cell_of_row _ _ _ _ _ _ X]; rfl
    clear X
    have X := H3.out.2.1
    have d1 : w3.cell? ⟨gq, 1, none⟩ = some (.string q.who) := by rw [cell_of_row _ _ _ _ _ _ X]; rfl
    clear X
    go_upto_region 4 with fail
    clear c0 d1
    refine wp_region_held (S := fun W : World => (W.heap[ga]? = some (.cells (ruCs r) 46 (0, 0)) ∧ W.heap[gq]? = some (.cells (qCs q) 24 (0, 0)))) (by kernel_rfl) ?_
    change wpAnyH _ _ _ _ _ _ _ _ (World.drew _)
    generalize hv0 : World.drew _ = v0
    have E0 : (v0.heap[ga]? = some (.cells (ruCs r) 46 (0, 0)) ∧ v0.heap[gq]? = some (.cells (qCs q) 24 (0, 0))) := by rw [← hv0]; exact ⟨H3.out.1, H3.out.2.1⟩
    have F0 : Below w3.heap.size w3 v0 := by rw [← hv0]; exact ((Below.refl _ _).drew)
    clear hv0
    refine wpAnyH_take (i := 0) (v := ?_) rfl (by kernel_rfl) (by kernel_rfl) (by kernel_rfl) (fun _ _ _ h => h) (Or.inl ⟨by kernel_rfl, ?_⟩) E0 ?_
    rotate_left
    · (intro W hS; have k1 : W.cell? ⟨ga, 1, none⟩ = some (.string r.word) := (by rw [cell_of_row _ _ _ _ _ _ hS.1]; rfl); have k3 : W.cell? ⟨gq, 3, none⟩ = some (.string q.reason) := (by rw [cell_of_row _ _ _ _ _ _ hS.2]; rfl); go_simp; try (with_reducible rfl))
    refine wpAnyH_take (i := 1) (v := ?_) rfl (by kernel_rfl) (by kernel_rfl) (by kernel_rfl) (fun _ _ _ h => h) (Or.inl ⟨by kernel_rfl, ?_⟩) E0 ?_
    rotate_left
    · (intro W hS; have k1 : W.cell? ⟨ga, 1, none⟩ = some (.string r.word) := (by rw [cell_of_row _ _ _ _ _ _ hS.1]; rfl); have k3 : W.cell? ⟨gq, 3, none⟩ = some (.string q.reason) := (by rw [cell_of_row _ _ _ _ _ _ hS.2]; rfl); go_simp; try (with_reducible rfl))
    refine wpAnyH_take (i := 2) (v := ?_) rfl (by kernel_rfl) (by kernel_rfl) (by kernel_rfl) (fun _ _ _ h => h) (Or.inl ⟨by kernel_rfl, ?_⟩) E0 ?_
    rotate_left
    · (intro W hS; have k1 : W.cell? ⟨ga, 1, none⟩ = some (.string r.word) := (by rw [cell_of_row _ _ _ _ _ _ hS.1]; rfl); have k3 : W.cell? ⟨gq, 3, none⟩ = some (.string q.reason) := (by rw [cell_of_row _ _ _ _ _ _ hS.2]; rfl); go_simp; try (with_reducible rfl))
    refine wpAnyH_take (i := 3) (v := ?_) rfl (by kernel_rfl) (by kernel_rfl) (by kernel_rfl) (fun _ _ _ h => h) (Or.inl ⟨by kernel_rfl, ?_⟩) E0 ?_
    rotate_left
    · (intro W hS; have k1 : W.cell? ⟨ga, 1, none⟩ = some (.string r.word) := (by rw [cell_of_row _ _ _ _ _ _ hS.1]; rfl); have k3 : W.cell? ⟨gq, 3, none⟩ = some (.string q.reason) := (by rw [cell_of_row _ _ _ _ _ _ hS.2]; rfl); go_simp; try (with_reducible rfl))
    refine wpAnyH_take (i := 4) (v := undef) rfl (by kernel_rfl) (by kernel_rfl) (by kernel_rfl) (fun _ _ _ h => h) (Or.inr ⟨by kernel_rfl, rfl⟩) E0 ?_
    refine wpAnyH_take (i := 5) (v := undef) rfl (by kernel_rfl) (by kernel_rfl) (by kernel_rfl) (fun _ _ _ h => h) (Or.inr ⟨by kernel_rfl, rfl⟩) E0 ?_
    refine wpAnyH_take (i := 6) (v := undef) rfl (by kernel_rfl) (by kernel_rfl) (by kernel_rfl) (fun _ _ _ h => h) (Or.inr ⟨by kernel_rfl, rfl⟩) E0 ?_
    refine wpAnyH_take (i := 7) (v := undef) rfl (by kernel_rfl) (by kernel_rfl) (by kernel_rfl) (fun _ _ _ h => h) (Or.inr ⟨by kernel_rfl, rfl⟩) E0 ?_
    refine wpAnyH_take (i := 8) (v := undef) rfl (by kernel_rfl) (by kernel_rfl) (by kernel_rfl) (fun _ _ _ h => h) (Or.inr ⟨by kernel_rfl, rfl⟩) E0 ?_
    refine wpAnyH_take (i := 9) (v := undef) rfl (by kernel_rfl) (by kernel_rfl) (by kernel_rfl) (fun _ _ _ h => h) (Or.inr ⟨by kernel_rfl, rfl⟩) E0 ?_
    refine wpAnyH_take (i := 10) (v := ?_) rfl (by kernel_rfl) (by kernel_rfl) (by kernel_rfl) (fun _ _ _ h => h) (Or.inl ⟨by kernel_rfl, ?_⟩) E0 ?_
    rotate_left
    · (intro W hS; have k1 : W.cell? ⟨ga, 1, none⟩ = some (.string r.word) := (by rw [cell_of_row _ _ _ _ _ _ hS.1]; rfl); have k3 : W.cell? ⟨gq, 3, none⟩ = some (.string q.reason) := (by rw [cell_of_row _ _ _ _ _ _ hS.2]; rfl); go_simp; try (with_reducible rfl))
    refine wpAnyH_take (i := 11) (v := ?_) rfl (by kernel_rfl) (by kernel_rfl) (by kernel_rfl) (fun _ _ _ h => h) (Or.inl ⟨by kernel_rfl, ?_⟩) E0 ?_
    rotate_left
    · (intro W hS; have k1 : W.cell? ⟨ga, 1, none⟩ = some (.string r.word) := (by rw [cell_of_row _ _ _ _ _ _ hS.1]; rfl); have k3 : W.cell? ⟨gq, 3, none⟩ = some (.string q.reason) := (by rw [cell_of_row _ _ _ _ _ _ hS.2]; rfl); go_simp; try (with_reducible rfl))
    refine wpAnyH_done (by kernel_rfl) ?_ _
    go_simp
    have HV := Lib.hid (And.intro E0.1 (And.intro E0.2 (H3.out.2.2.trans (F0.mono H3.out.2.2.size))))
    clear F0 E0
    have HE := HV.out
    have X := HE.1
    have c2 : v0.cell? ⟨ga, 2, none⟩ = some (.int .i64 r.fr) := by rw [cell_of_row _ _ _ _ _ _ X]; rfl
    have c3 : v0.cell? ⟨ga, 3, none⟩ = some (.int .i64 r.to) := by rw [cell_of_row _ _ _ _ _ _ X]; rfl
    have c4 : v0.cell? ⟨ga, 4, none⟩ = some (.int .i64 r.un) := by rw [cell_of_row _ _ _ _ _ _ X]; rfl
    clear X
    have X := HE.2.1
    have d2 : v0.cell? ⟨gq, 2, none⟩ = some (.int .i64 q.entry) := by rw [cell_of_row _ _ _ _ _ _ X]; rfl
    clear X
    go_wp2_with fail
    go_ret
    exact ⟨by rw [hz]; rfl, HE.2.2⟩
  have gC : r.word.toList.isEmpty = false := full_list hC
  cases V with
  | true =>
    have hz : Z = false := by rw [HZ.out, decide_eq_false hA, decide_eq_false hB, decide_eq_false hC]; simp
    clear hA hB hC
    go_enter Try.func21, Try.ntmps21
    go_upto_region 1 with fail
    rw [← hw1, ← hgq, ← hga]
    clear hw1 hga hgq
    have X := HA.out.1
    have c0 : w1.cell? ⟨ga, 0, none⟩ = some (.string r.who) := by rw [cell_of_row _ _ _ _ _ _ X]; rfl
    have c1 : w1.cell? ⟨ga, 1, none⟩ = some (.string r.word) := by rw [cell_of_row _ _ _ _ _ _ X]; rfl
    have c2 : w1.cell? ⟨ga, 2, none⟩ = some (.int .i64 r.fr) := by rw [cell_of_row _ _ _ _ _ _ X]; rfl
    have c3 : w1.cell? ⟨ga, 3, none⟩ = some (.int .i64 r.to) := by rw [cell_of_row _ _ _ _ _ _ X]; rfl
    have c4 : w1.cell? ⟨ga, 4, none⟩ = some (.int .i64 r.un) := by rw [cell_of_row _ _ _ _ _ _ X]; rfl
    have c5 : w1.cell? ⟨ga, 5, none⟩ = some (.int .i64 r.mo) := by rw [cell_of_row _ _ _ _ _ _ X]; rfl
    have c6 : w1.cell? ⟨ga, 6, none⟩ = some (.bool r.allow) := by rw [cell_of_row _ _ _ _ _ _ X]; rfl
    clear X
    have X := HA.out.2
    have d0 : w1.cell? ⟨gq, 0, none⟩ = some (.int .i64 q.id) := by rw [cell_of_row _ _ _ _ _ _ X]; rfl
    have d1 : w1.cell? ⟨gq, 1, none⟩ = some (.string q.who) := by rw [cell_of_row _ _ _ _ _ _ X]; rfl
    have d2 : w1.cell? ⟨gq, 2, none⟩ = some (.int .i64 q.entry) := by rw [cell_of_row _ _ _ _ _ _ X]; rfl
    have d3 : w1.cell? ⟨gq, 3, none⟩ = some (.string q.reason) := by rw [cell_of_row _ _ _ _ _ _ X]; rfl
    have d4 : w1.cell? ⟨gq, 4, none⟩ = some (.int .i64 q.exp) := by rw [cell_of_row _ _ _ _ _ _ X]; rfl
    clear X
    go_wp2_with fail
    refine (H.out.1 _).mono ?_
    rintro e w2 ⟨rfl, hb2⟩
    have H2 := Lib.hid (And.intro ((hb2.block ga (pblt_of_heap HA.out.1)).trans HA.out.1) (And.intro ((hb2.block gq (pblt_of_heap HA.out.2)).trans HA.out.2) (H.out.2.2.2.2.trans (hb2.mono H.out.2.2.2.2.size))))
    clear hb2 c0 c1 c2 c3 c4 c5 c6 d0 d1 d2 d3 d4
    have X := H2.out.1
    have c0 : w2.cell? ⟨ga, 0, none⟩ = some (.string r.who) := by rw [cell_of_row _ _ _ _ _ _ X]; rfl
    have c1 : w2.cell? ⟨ga, 1, none⟩ = some (.string r.word) := by rw [cell_of_row _ _ _ _ _ _ X]; rfl
    have c2 : w2.cell? ⟨ga, 2, none⟩ = some (.int .i64 r.fr) := by rw [cell_of_row _ _ _ _ _ _ X]; rfl
    have c3 : w2.cell? ⟨ga, 3, none⟩ = some (.int .i64 r.to) := by rw [cell_of_row _ _ _ _ _ _ X]; rfl
    have c4 : w2.cell? ⟨ga, 4, none⟩ = some (.int .i64 r.un) := by rw [cell_of_row _ _ _ _ _ _ X]; rfl
    have c5 : w2.cell? ⟨ga, 5, none⟩ = some (.int .i64 r.mo) := by rw [cell_of_row _ _ _ _ _ _ X]; rfl
    have c6 : w2.cell? ⟨ga, 6, none⟩ = some (.bool r.allow) := by rw [cell_of_row _ _ _ _ _ _ X]; rfl
    clear X
    have X := H2.out.2.1
    have d0 : w2.cell? ⟨gq, 0, none⟩ = some (.int .i64 q.id) := by rw [cell_of_row _ _ _ _ _ _ X]; rfl
    have d1 : w2.cell? ⟨gq, 1, none⟩ = some (.string q.who) := by rw [cell_of_row _ _ _ _ _ _ X]; rfl
    have d2 : w2.cell? ⟨gq, 2, none⟩ = some (.int .i64 q.entry) := by rw [cell_of_row _ _ _ _ _ _ X]; rfl
    have d3 : w2.cell? ⟨gq, 3, none⟩ = some (.string q.reason) := by rw [cell_of_row _ _ _ _ _ _ X]; rfl
    have d4 : w2.cell? ⟨gq, 4, none⟩ = some (.int .i64 q.exp) := by rw [cell_of_row _ _ _ _ _ _ X]; rfl
    clear X
    go_wp2_with fail
    refine (H.out.2.1 _).mono ?_
    rintro e w3 ⟨rfl, hb3⟩
    have H3 := Lib.hid (And.intro ((hb3.block ga (pblt_of_heap H2.out.1)).trans H2.out.1) (And.intro ((hb3.block gq (pblt_of_heap H2.out.2.1)).trans H2.out.2.1) (H2.out.2.2.trans (hb3.mono H2.out.2.2.size))))
    clear hb3 c0 c1 c2 c3 c4 c5 c6 d0 d1 d2 d3 d4
    have X := H3.out.1
    have c0 : w3.cell? ⟨ga, 0, none⟩ = some (.string r.who) := by rw [cell_of_row _ _ _ _ _ _ X]; rfl
    clear X
    have X := H3.out.2.1
    have d1 : w3.cell? ⟨gq, 1, none⟩ = some (.string q.who) := by rw [cell_of_row _ _ _ _ _ _ X]; rfl
    clear X
    go_upto_region 4 with fail
    clear c0 d1
    refine wp_region_held (S := fun W : World => (W.heap[ga]? = some (.cells (ruCs r) 46 (0, 0)) ∧ W.heap[gq]? = some (.cells (qCs q) 24 (0, 0)))) (by kernel_rfl) ?_
    change wpAnyH _ _ _ _ _ _ _ _ (World.drew _)
    generalize hv0 : World.drew _ = v0
    have E0 : (v0.heap[ga]? = some (.cells (ruCs r) 46 (0, 0)) ∧ v0.heap[gq]? = some (.cells (qCs q) 24 (0, 0))) := by rw [← hv0]; exact ⟨H3.out.1, H3.out.2.1⟩
    have F0 : Below w3.heap.size w3 v0 := by rw [← hv0]; exact ((Below.refl _ _).drew)
    clear hv0
    refine wpAnyH_take (i := 0) (v := ?_) rfl (by kernel_rfl) (by kernel_rfl) (by kernel_rfl) (fun _ _ _ h => h) (Or.inl ⟨by kernel_rfl, ?_⟩) E0 ?_
    rotate_left
    · (intro W hS; have k1 : W.cell? ⟨ga, 1, none⟩ = some (.string r.word) := (by rw [cell_of_row _ _ _ _ _ _ hS.1]; rfl); have k3 : W.cell? ⟨gq, 3, none⟩ = some (.string q.reason) := (by rw [cell_of_row _ _ _ _ _ _ hS.2]; rfl); go_simp; try (with_reducible rfl))
    refine wpAnyH_take (i := 1) (v := ?_) rfl (by kernel_rfl) (by kernel_rfl) (by kernel_rfl) (fun _ _ _ h => h) (Or.inl ⟨by kernel_rfl, ?_⟩) E0 ?_
    rotate_left
    · (intro W hS; have k1 : W.cell? ⟨ga, 1, none⟩ = some (.string r.word) := (by rw [cell_of_row _ _ _ _ _ _ hS.1]; rfl); have k3 : W.cell? ⟨gq, 3, none⟩ = some (.string q.reason) := (by rw [cell_of_row _ _ _ _ _ _ hS.2]; rfl); go_simp; try (with_reducible rfl))
    refine wpAnyH_take (i := 2) (v := ?_) rfl (by kernel_rfl) (by kernel_rfl) (by kernel_rfl) (fun _ _ _ h => h) (Or.inl ⟨by kernel_rfl, ?_⟩) E0 ?_
    rotate_left
    · (intro W hS; have k1 : W.cell? ⟨ga, 1, none⟩ = some (.string r.word) := (by rw [cell_of_row _ _ _ _ _ _ hS.1]; rfl); have k3 : W.cell? ⟨gq, 3, none⟩ = some (.string q.reason) := (by rw [cell_of_row _ _ _ _ _ _ hS.2]; rfl); go_simp; try (with_reducible rfl))
    refine wpAnyH_take (i := 3) (v := ?_) rfl (by kernel_rfl) (by kernel_rfl) (by kernel_rfl) (fun _ _ _ h => h) (Or.inl ⟨by kernel_rfl, ?_⟩) E0 ?_
    rotate_left
    · (intro W hS; have k1 : W.cell? ⟨ga, 1, none⟩ = some (.string r.word) := (by rw [cell_of_row _ _ _ _ _ _ hS.1]; rfl); have k3 : W.cell? ⟨gq, 3, none⟩ = some (.string q.reason) := (by rw [cell_of_row _ _ _ _ _ _ hS.2]; rfl); go_simp; try (with_reducible rfl))
    refine wpAnyH_take (i := 4) (v := ?_) rfl (by kernel_rfl) (by kernel_rfl) (by kernel_rfl) (fun _ _ _ h => h) (Or.inl ⟨by kernel_rfl, ?_⟩) E0 ?_
    rotate_left
    · (intro W hS; have k1 : W.cell? ⟨ga, 1, none⟩ = some (.string r.word) := (by rw [cell_of_row _ _ _ _ _ _ hS.1]; rfl); have k3 : W.cell? ⟨gq, 3, none⟩ = some (.string q.reason) := (by rw [cell_of_row _ _ _ _ _ _ hS.2]; rfl); go_simp; try (with_reducible rfl))
    refine wpAnyH_take (i := 5) (v := ?_) rfl (by kernel_rfl) (by kernel_rfl) (by kernel_rfl) (fun _ _ _ h => h) (Or.inl ⟨by kernel_rfl, ?_⟩) E0 ?_
    rotate_left
    · (intro W hS; have k1 : W.cell? ⟨ga, 1, none⟩ = some (.string r.word) := (by rw [cell_of_row _ _ _ _ _ _ hS.1]; rfl); have k3 : W.cell? ⟨gq, 3, none⟩ = some (.string q.reason) := (by rw [cell_of_row _ _ _ _ _ _ hS.2]; rfl); go_simp; try (with_reducible rfl))
    refine wpAnyH_take (i := 7) (v := ?_) rfl (by kernel_rfl) (by kernel_rfl) (by kernel_rfl) (fun _ _ _ h => h) (Or.inl ⟨by kernel_rfl, ?_⟩) E0 ?_
    rotate_left
    · (intro W hS; have k1 : W.cell? ⟨ga, 1, none⟩ = some (.string r.word) := (by rw [cell_of_row _ _ _ _ _ _ hS.1]; rfl); have k3 : W.cell? ⟨gq, 3, none⟩ = some (.string q.reason) := (by rw [cell_of_row _ _ _ _ _ _ hS.2]; rfl); go_simp; try (with_reducible rfl))
    refine wpAnyH_take (i := 8) (v := ?_) rfl (by kernel_rfl) (by kernel_rfl) (by kernel_rfl) (fun _ _ _ h => h) (Or.inl ⟨by kernel_rfl, ?_⟩) E0 ?_
    rotate_left
    · (intro W hS; have k1 : W.cell? ⟨ga, 1, none⟩ = some (.string r.word) := (by rw [cell_of_row _ _ _ _ _ _ hS.1]; rfl); have k3 : W.cell? ⟨gq, 3, none⟩ = some (.string q.reason) := (by rw [cell_of_row _ _ _ _ _ _ hS.2]; rfl); go_simp; try (with_reducible rfl))
    refine wpAnyH_ready (rs := [6]) (by kernel_rfl) (by simp) ?_
    refine AllReadyH.cons (i := 6) rfl (fun K hK => ?_) AllReadyH.nil
    go_simp
    refine (H.out.2.2.1 v0 HRS.out).mono ?_
    rintro e v1 ⟨ad, cp, rfl, hO, hb⟩
    have F1 := F0.trans (hb.mono F0.size)
    have E1 : (v1.heap[ga]? = some (.cells (ruCs r) 46 (0, 0)) ∧ v1.heap[gq]? = some (.cells (qCs q) 24 (0, 0))) := ⟨(hb.block _ (pblt_of_heap E0.1)).trans E0.1, (hb.block _ (pblt_of_heap E0.2)).trans E0.2⟩
    have hTx := hO.texts
    clear hO
    refine hK.out _ _ E1 (fun _ => ?_)
    clear hK K hb
    refine wpAnyH_ready (rs := [9]) (by kernel_rfl) (by simp) ?_
    refine AllReadyH.cons (i := 9) rfl (fun K hK => ?_) AllReadyH.nil
    go_simp
    refine ((H.out.2.2.2.1 v1 ad cp hTx).mono (R' := fun e w' => e = .returned (.bool true) ∧ Below v1.heap.size v1 w') (by rintro e w' ⟨rfl, rfl⟩; exact ⟨rfl, Below.refl _ _⟩)).mono ?_
    rintro e v2 ⟨rfl, hb⟩
    have F2 := F1.trans (hb.mono F1.size)
    have E2 : (v2.heap[ga]? = some (.cells (ruCs r) 46 (0, 0)) ∧ v2.heap[gq]? = some (.cells (qCs q) 24 (0, 0))) := ⟨(hb.block _ (pblt_of_heap E1.1)).trans E1.1, (hb.block _ (pblt_of_heap E1.2)).trans E1.2⟩
    clear hTx
    refine hK.out _ _ E2 (fun _ => ?_)
    clear hK K hb
    refine wpAnyH_take (i := 10) (v := ?_) rfl (by kernel_rfl) (by kernel_rfl) (by kernel_rfl) (fun _ _ _ h => h) (Or.inl ⟨by kernel_rfl, ?_⟩) E2 ?_
    rotate_left
    · (intro W hS; have k1 : W.cell? ⟨ga, 1, none⟩ = some (.string r.word) := (by rw [cell_of_row _ _ _ _ _ _ hS.1]; rfl); have k3 : W.cell? ⟨gq, 3, none⟩ = some (.string q.reason) := (by rw [cell_of_row _ _ _ _ _ _ hS.2]; rfl); go_simp; try (with_reducible rfl))
    refine wpAnyH_take (i := 11) (v := ?_) rfl (by kernel_rfl) (by kernel_rfl) (by kernel_rfl) (fun _ _ _ h => h) (Or.inl ⟨by kernel_rfl, ?_⟩) E2 ?_
    rotate_left
    · (intro W hS; have k1 : W.cell? ⟨ga, 1, none⟩ = some (.string r.word) := (by rw [cell_of_row _ _ _ _ _ _ hS.1]; rfl); have k3 : W.cell? ⟨gq, 3, none⟩ = some (.string q.reason) := (by rw [cell_of_row _ _ _ _ _ _ hS.2]; rfl); go_simp; try (with_reducible rfl))
    refine wpAnyH_done (by kernel_rfl) ?_ _
    go_simp
    have HV := Lib.hid (And.intro E2.1 (And.intro E2.2 (H3.out.2.2.trans (F2.mono H3.out.2.2.size))))
    clear F0 F2 E0 E1 E2
    have HE := HV.out
    have X := HE.1
    have c2 : v2.cell? ⟨ga, 2, none⟩ = some (.int .i64 r.fr) := by rw [cell_of_row _ _ _ _ _ _ X]; rfl
    have c3 : v2.cell? ⟨ga, 3, none⟩ = some (.int .i64 r.to) := by rw [cell_of_row _ _ _ _ _ _ X]; rfl
    have c4 : v2.cell? ⟨ga, 4, none⟩ = some (.int .i64 r.un) := by rw [cell_of_row _ _ _ _ _ _ X]; rfl
    clear X
    have X := HE.2.1
    have d2 : v2.cell? ⟨gq, 2, none⟩ = some (.int .i64 q.entry) := by rw [cell_of_row _ _ _ _ _ _ X]; rfl
    clear X
    go_wp2_with fail
    go_ret
    exact ⟨by rw [hz]; rfl, HE.2.2⟩
  | false =>
    have hz : Z = false := by rw [HZ.out, decide_eq_false hA, decide_eq_false hB, decide_eq_false hC]; simp
    clear hA hB hC
    go_enter Try.func21, Try.ntmps21
    go_upto_region 1 with fail
    rw [← hw1, ← hgq, ← hga]
    clear hw1 hga hgq
    have X := HA.out.1
    have c0 : w1.cell? ⟨ga, 0, none⟩ = some (.string r.who) := by rw [cell_of_row _ _ _ _ _ _ X]; rfl
    have c1 : w1.cell? ⟨ga, 1, none⟩ = some (.string r.word) := by rw [cell_of_row _ _ _ _ _ _ X]; rfl
    have c2 : w1.cell? ⟨ga, 2, none⟩ = some (.int .i64 r.fr) := by rw [cell_of_row _ _ _ _ _ _ X]; rfl
    have c3 : w1.cell? ⟨ga, 3, none⟩ = some (.int .i64 r.to) := by rw [cell_of_row _ _ _ _ _ _ X]; rfl
    have c4 : w1.cell? ⟨ga, 4, none⟩ = some (.int .i64 r.un) := by rw [cell_of_row _ _ _ _ _ _ X]; rfl
    have c5 : w1.cell? ⟨ga, 5, none⟩ = some (.int .i64 r.mo) := by rw [cell_of_row _ _ _ _ _ _ X]; rfl
    have c6 : w1.cell? ⟨ga, 6, none⟩ = some (.bool r.allow) := by rw [cell_of_row _ _ _ _ _ _ X]; rfl
    clear X
    have X := HA.out.2
    have d0 : w1.cell? ⟨gq, 0, none⟩ = some (.int .i64 q.id) := by rw [cell_of_row _ _ _ _ _ _ X]; rfl
    have d1 : w1.cell? ⟨gq, 1, none⟩ = some (.string q.who) := by rw [cell_of_row _ _ _ _ _ _ X]; rfl
    have d2 : w1.cell? ⟨gq, 2, none⟩ = some (.int .i64 q.entry) := by rw [cell_of_row _ _ _ _ _ _ X]; rfl
    have d3 : w1.cell? ⟨gq, 3, none⟩ = some (.string q.reason) := by rw [cell_of_row _ _ _ _ _ _ X]; rfl
    have d4 : w1.cell? ⟨gq, 4, none⟩ = some (.int .i64 q.exp) := by rw [cell_of_row _ _ _ _ _ _ X]; rfl
    clear X
    go_wp2_with fail
    refine (H.out.1 _).mono ?_
    rintro e w2 ⟨rfl, hb2⟩
    have H2 := Lib.hid (And.intro ((hb2.block ga (pblt_of_heap HA.out.1)).trans HA.out.1) (And.intro ((hb2.block gq (pblt_of_heap HA.out.2)).trans HA.out.2) (H.out.2.2.2.2.trans (hb2.mono H.out.2.2.2.2.size))))
    clear hb2 c0 c1 c2 c3 c4 c5 c6 d0 d1 d2 d3 d4
    have X := H2.out.1
    have c0 : w2.cell? ⟨ga, 0, none⟩ = some (.string r.who) := by rw [cell_of_row _ _ _ _ _ _ X]; rfl
    have c1 : w2.cell? ⟨ga, 1, none⟩ = some (.string r.word) := by rw [cell_of_row _ _ _ _ _ _ X]; rfl
    have c2 : w2.cell? ⟨ga, 2, none⟩ = some (.int .i64 r.fr) := by rw [cell_of_row _ _ _ _ _ _ X]; rfl
    have c3 : w2.cell? ⟨ga, 3, none⟩ = some (.int .i64 r.to) := by rw [cell_of_row _ _ _ _ _ _ X]; rfl
    have c4 : w2.cell? ⟨ga, 4, none⟩ = some (.int .i64 r.un) := by rw [cell_of_row _ _ _ _ _ _ X]; rfl
    have c5 : w2.cell? ⟨ga, 5, none⟩ = some (.int .i64 r.mo) := by rw [cell_of_row _ _ _ _ _ _ X]; rfl
    have c6 : w2.cell? ⟨ga, 6, none⟩ = some (.bool r.allow) := by rw [cell_of_row _ _ _ _ _ _ X]; rfl
    clear X
    have X := H2.out.2.1
    have d0 : w2.cell? ⟨gq, 0, none⟩ = some (.int .i64 q.id) := by rw [cell_of_row _ _ _ _ _ _ X]; rfl
    have d1 : w2.cell? ⟨gq, 1, none⟩ = some (.string q.who) := by rw [cell_of_row _ _ _ _ _ _ X]; rfl
    have d2 : w2.cell? ⟨gq, 2, none⟩ = some (.int .i64 q.entry) := by rw [cell_of_row _ _ _ _ _ _ X]; rfl
    have d3 : w2.cell? ⟨gq, 3, none⟩ = some (.string q.reason) := by rw [cell_of_row _ _ _ _ _ _ X]; rfl
    have d4 : w2.cell? ⟨gq, 4, none⟩ = some (.int .i64 q.exp) := by rw [cell_of_row _ _ _ _ _ _ X]; rfl
    clear X
    go_wp2_with fail
    refine (H.out.2.1 _).mono ?_
    rintro e w3 ⟨rfl, hb3⟩
    have H3 := Lib.hid (And.intro ((hb3.block ga (pblt_of_heap H2.out.1)).trans H2.out.1) (And.intro ((hb3.block gq (pblt_of_heap H2.out.2.1)).trans H2.out.2.1) (H2.out.2.2.trans (hb3.mono H2.out.2.2.size))))
    clear hb3 c0 c1 c2 c3 c4 c5 c6 d0 d1 d2 d3 d4
    have X := H3.out.1
    have c0 : w3.cell? ⟨ga, 0, none⟩ = some (.string r.who) := by rw [cell_of_row _ _ _ _ _ _ X]; rfl
    clear X
    have X := H3.out.2.1
    have d1 : w3.cell? ⟨gq, 1, none⟩ = some (.string q.who) := by rw [cell_of_row _ _ _ _ _ _ X]; rfl
    clear X
    go_upto_region 4 with fail
    clear c0 d1
    refine wp_region_held (S := fun W : World => (W.heap[ga]? = some (.cells (ruCs r) 46 (0, 0)) ∧ W.heap[gq]? = some (.cells (qCs q) 24 (0, 0)))) (by kernel_rfl) ?_
    change wpAnyH _ _ _ _ _ _ _ _ (World.drew _)
    generalize hv0 : World.drew _ = v0
    have E0 : (v0.heap[ga]? = some (.cells (ruCs r) 46 (0, 0)) ∧ v0.heap[gq]? = some (.cells (qCs q) 24 (0, 0))) := by rw [← hv0]; exact ⟨H3.out.1, H3.out.2.1⟩
    have F0 : Below w3.heap.size w3 v0 := by rw [← hv0]; exact ((Below.refl _ _).drew)
    clear hv0
    refine wpAnyH_take (i := 0) (v := ?_) rfl (by kernel_rfl) (by kernel_rfl) (by kernel_rfl) (fun _ _ _ h => h) (Or.inl ⟨by kernel_rfl, ?_⟩) E0 ?_
    rotate_left
    · (intro W hS; have k1 : W.cell? ⟨ga, 1, none⟩ = some (.string r.word) := (by rw [cell_of_row _ _ _ _ _ _ hS.1]; rfl); have k3 : W.cell? ⟨gq, 3, none⟩ = some (.string q.reason) := (by rw [cell_of_row _ _ _ _ _ _ hS.2]; rfl); go_simp; try (with_reducible rfl))
    refine wpAnyH_take (i := 1) (v := ?_) rfl (by kernel_rfl) (by kernel_rfl) (by kernel_rfl) (fun _ _ _ h => h) (Or.inl ⟨by kernel_rfl, ?_⟩) E0 ?_
    rotate_left
    · (intro W hS; have k1 : W.cell? ⟨ga, 1, none⟩ = some (.string r.word) := (by rw [cell_of_row _ _ _ _ _ _ hS.1]; rfl); have k3 : W.cell? ⟨gq, 3, none⟩ = some (.string q.reason) := (by rw [cell_of_row _ _ _ _ _ _ hS.2]; rfl); go_simp; try (with_reducible rfl))
    refine wpAnyH_take (i := 2) (v := ?_) rfl (by kernel_rfl) (by kernel_rfl) (by kernel_rfl) (fun _ _ _ h => h) (Or.inl ⟨by kernel_rfl, ?_⟩) E0 ?_
    rotate_left
    · (intro W hS; have k1 : W.cell? ⟨ga, 1, none⟩ = some (.string r.word) := (by rw [cell_of_row _ _ _ _ _ _ hS.1]; rfl); have k3 : W.cell? ⟨gq, 3, none⟩ = some (.string q.reason) := (by rw [cell_of_row _ _ _ _ _ _ hS.2]; rfl); go_simp; try (with_reducible rfl))
    refine wpAnyH_take (i := 3) (v := ?_) rfl (by kernel_rfl) (by kernel_rfl) (by kernel_rfl) (fun _ _ _ h => h) (Or.inl ⟨by kernel_rfl, ?_⟩) E0 ?_
    rotate_left
    · (intro W hS; have k1 : W.cell? ⟨ga, 1, none⟩ = some (.string r.word) := (by rw [cell_of_row _ _ _ _ _ _ hS.1]; rfl); have k3 : W.cell? ⟨gq, 3, none⟩ = some (.string q.reason) := (by rw [cell_of_row _ _ _ _ _ _ hS.2]; rfl); go_simp; try (with_reducible rfl))
    refine wpAnyH_take (i := 4) (v := ?_) rfl (by kernel_rfl) (by kernel_rfl) (by kernel_rfl) (fun _ _ _ h => h) (Or.inl ⟨by kernel_rfl, ?_⟩) E0 ?_
    rotate_left
    · (intro W hS; have k1 : W.cell? ⟨ga, 1, none⟩ = some (.string r.word) := (by rw [cell_of_row _ _ _ _ _ _ hS.1]; rfl); have k3 : W.cell? ⟨gq, 3, none⟩ = some (.string q.reason) := (by rw [cell_of_row _ _ _ _ _ _ hS.2]; rfl); go_simp; try (with_reducible rfl))
    refine wpAnyH_take (i := 5) (v := ?_) rfl (by kernel_rfl) (by kernel_rfl) (by kernel_rfl) (fun _ _ _ h => h) (Or.inl ⟨by kernel_rfl, ?_⟩) E0 ?_
    rotate_left
    · (intro W hS; have k1 : W.cell? ⟨ga, 1, none⟩ = some (.string r.word) := (by rw [cell_of_row _ _ _ _ _ _ hS.1]; rfl); have k3 : W.cell? ⟨gq, 3, none⟩ = some (.string q.reason) := (by rw [cell_of_row _ _ _ _ _ _ hS.2]; rfl); go_simp; try (with_reducible rfl))
    refine wpAnyH_take (i := 7) (v := ?_) rfl (by kernel_rfl) (by kernel_rfl) (by kernel_rfl) (fun _ _ _ h => h) (Or.inl ⟨by kernel_rfl, ?_⟩) E0 ?_
    rotate_left
    · (intro W hS; have k1 : W.cell? ⟨ga, 1, none⟩ = some (.string r.word) := (by rw [cell_of_row _ _ _ _ _ _ hS.1]; rfl); have k3 : W.cell? ⟨gq, 3, none⟩ = some (.string q.reason) := (by rw [cell_of_row _ _ _ _ _ _ hS.2]; rfl); go_simp; try (with_reducible rfl))
    refine wpAnyH_take (i := 8) (v := ?_) rfl (by kernel_rfl) (by kernel_rfl) (by kernel_rfl) (fun _ _ _ h => h) (Or.inl ⟨by kernel_rfl, ?_⟩) E0 ?_
    rotate_left
    · (intro W hS; have k1 : W.cell? ⟨ga, 1, none⟩ = some (.string r.word) := (by rw [cell_of_row _ _ _ _ _ _ hS.1]; rfl); have k3 : W.cell? ⟨gq, 3, none⟩ = some (.string q.reason) := (by rw [cell_of_row _ _ _ _ _ _ hS.2]; rfl); go_simp; try (with_reducible rfl))
    refine wpAnyH_ready (rs := [6]) (by kernel_rfl) (by simp) ?_
    refine AllReadyH.cons (i := 6) rfl (fun K hK => ?_) AllReadyH.nil
    go_simp
    refine (H.out.2.2.1 v0 HRS.out).mono ?_
    rintro e v1 ⟨ad, cp, rfl, hO, hb⟩
    have F1 := F0.trans (hb.mono F0.size)
    have E1 : (v1.heap[ga]? = some (.cells (ruCs r) 46 (0, 0)) ∧ v1.heap[gq]? = some (.cells (qCs q) 24 (0, 0))) := ⟨(hb.block _ (pblt_of_heap E0.1)).trans E0.1, (hb.block _ (pblt_of_heap E0.2)).trans E0.2⟩
    have hTx := hO.texts
    clear hO
    refine hK.out _ _ E1 (fun _ => ?_)
    clear hK K hb
    refine wpAnyH_ready (rs := [9]) (by kernel_rfl) (by simp) ?_
    refine AllReadyH.cons (i := 9) rfl (fun K hK => ?_) AllReadyH.nil
    go_simp
    refine ((H.out.2.2.2.1 v1 ad cp hTx).mono (R' := fun e w' => e = .returned (.bool false) ∧ Below v1.heap.size v1 w') (by rintro e w' ⟨rfl, rfl⟩; exact ⟨rfl, Below.refl _ _⟩)).mono ?_
    rintro e v2 ⟨rfl, hb⟩
    have F2 := F1.trans (hb.mono F1.size)
    have E2 : (v2.heap[ga]? = some (.cells (ruCs r) 46 (0, 0)) ∧ v2.heap[gq]? = some (.cells (qCs q) 24 (0, 0))) := ⟨(hb.block _ (pblt_of_heap E1.1)).trans E1.1, (hb.block _ (pblt_of_heap E1.2)).trans E1.2⟩
    clear hTx
    refine hK.out _ _ E2 (fun _ => ?_)
    clear hK K hb
    refine wpAnyH_take (i := 10) (v := ?_) rfl (by kernel_rfl) (by kernel_rfl) (by kernel_rfl) (fun _ _ _ h => h) (Or.inl ⟨by kernel_rfl, ?_⟩) E2 ?_
    rotate_left
    · (intro W hS; have k1 : W.cell? ⟨ga, 1, none⟩ = some (.string r.word) := (by rw [cell_of_row _ _ _ _ _ _ hS.1]; rfl); have k3 : W.cell? ⟨gq, 3, none⟩ = some (.string q.reason) := (by rw [cell_of_row _ _ _ _ _ _ hS.2]; rfl); go_simp; try (with_reducible rfl))
    refine wpAnyH_take (i := 11) (v := ?_) rfl (by kernel_rfl) (by kernel_rfl) (by kernel_rfl) (fun _ _ _ h => h) (Or.inl ⟨by kernel_rfl, ?_⟩) E2 ?_
    rotate_left
    · (intro W hS; have k1 : W.cell? ⟨ga, 1, none⟩ = some (.string r.word) := (by rw [cell_of_row _ _ _ _ _ _ hS.1]; rfl); have k3 : W.cell? ⟨gq, 3, none⟩ = some (.string q.reason) := (by rw [cell_of_row _ _ _ _ _ _ hS.2]; rfl); go_simp; try (with_reducible rfl))
    refine wpAnyH_done (by kernel_rfl) ?_ _
    go_simp
    have HV := Lib.hid (And.intro E2.1 (And.intro E2.2 (H3.out.2.2.trans (F2.mono H3.out.2.2.size))))
    clear F0 F2 E0 E1 E2
    have HE := HV.out
    have X := HE.1
    have c2 : v2.cell? ⟨ga, 2, none⟩ = some (.int .i64 r.fr) := by rw [cell_of_row _ _ _ _ _ _ X]; rfl
    have c3 : v2.cell? ⟨ga, 3, none⟩ = some (.int .i64 r.to) := by rw [cell_of_row _ _ _ _ _ _ X]; rfl
    have c4 : v2.cell? ⟨ga, 4, none⟩ = some (.int .i64 r.un) := by rw [cell_of_row _ _ _ _ _ _ X]; rfl
    clear X
    have X := HE.2.1
    have d2 : v2.cell? ⟨gq, 2, none⟩ = some (.int .i64 q.entry) := by rw [cell_of_row _ _ _ _ _ _ X]; rfl
    clear X
    go_wp2_with fail
    go_ret
    exact ⟨by rw [hz]; rfl, HE.2.2⟩
end Go.Proofs.Ytnkkbinbeildmaa
