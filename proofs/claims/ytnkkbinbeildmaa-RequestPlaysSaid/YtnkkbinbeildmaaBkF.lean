/- lockboxlaw20.Few, Ref; lockboxlaw21.Few, Do, awake. -/
import Derived.Test.YtnkkbinbeildmaaBkE
namespace Go.Proofs.Ytnkkbinbeildmaa
open Go.RowKit
def acVal (a : Bk.Act) : Value := .agg #[.int .i64 a.kind, .int .i64 a.id, .int .i64 a.now, .int .i64 a.q.id, .string a.q.who, .int .i64 a.q.entry, .string a.q.reason, .int .i64 a.q.exp, .string a.who]
/-- Not more than statements go through. -/
def fewR (r : Py.R) : Bool := decide (r.who.size ≤ 100) && decide (r.word.size ≤ 100)
def fewQ (q : Py.Q) : Bool := decide (q.who.size ≤ 100) && decide (q.reason.size ≤ 300)
def fewL (l : List Py.R) (q : Py.Q) : Bool := decide (l.length ≤ 25) && fewQ q && l.all fewR
def fewA (a : Bk.Act) : Bool := fewQ a.q && decide (a.who.size ≤ 100)
/-- The kind of an act, as the document has it. -/
def nk (a : Bk.Act) : Bk.Act := ⟨if a.kind < 0 ∨ 3 < a.kind then 3 else a.kind, a.q, a.id, a.who, a.now⟩
theorem nk_kind (a : Bk.Act) : 0 ≤ (nk a).kind ∧ (nk a).kind ≤ 3 := by
  unfold nk; dsimp only; split <;> omega
set_option maxRecDepth 100000 in
set_option maxHeartbeats 1000000 in
theorem few20_any (l : List Py.R) (a0 : Option Addr) (cap : Nat) (q : Py.Q) (hq : q.Ok) (hl : l.length ≤ maxLen) (hok : ∀ r ∈ l, r.who.size ≤ maxLen ∧ r.word.size ≤ maxLen) (w : World) (hT : RecsAt 7 ruCs w a0 l) : Calls Try.prog 10 #[.slice a0 l.length cap, qVal q] w fun e w' => e = .returned (.bool (fewL l q)) ∧ Below w.heap.size w w' := by
  have hqw := hq.who
  have hqr := hq.reason
  clear hq
  unfold maxLen at hqw hqr hl hok
  obtain ⟨Rz, hR⟩ : ∃ Rz, Rz = fewL l q := ⟨_, rfl⟩
  obtain ⟨n, hn⟩ : ∃ n, n = l.length := ⟨_, rfl⟩
  rw [← hR, ← hn]
  rw [← hn] at hl
  have H := Lib.hid (And.intro hT (And.intro hn (And.intro hR hok)))
  clear hT hR hok hn
  unfold qVal
  by_cases h1 : n ≤ 25
  rotate_left
  · have g1 : (25 : Int) < (n : Int) := by omega
    have hv : Rz = false := by rw [H.out.2.2.1]; unfold fewL; rw [decide_eq_false (by have := H.out.2.1; omega), Bool.false_and, Bool.false_and]
    have HV := Lib.hid hv
    clear h1 hv
    go_enter Try.func10, Try.ntmps10
    go_wp2_with fail
    go_ret
    exact ⟨by rw [HV.out]; rfl, (Below.refl _ _).alloc (Nat.le_refl _) _⟩
  have g1 : ¬ ((25 : Int) < (n : Int)) := by omega
  by_cases h2 : q.who.size ≤ 100
  rotate_left
  · have g2 : (100 : Int) < (q.who.size : Int) := by omega
    have hv : Rz = false := by rw [H.out.2.2.1]; unfold fewL fewQ; rw [decide_eq_false h2, Bool.false_and, Bool.and_false, Bool.false_and]
    have HV := Lib.hid hv
    clear h1 h2 hv
    go_enter Try.func10, Try.ntmps10
    go_wp2_with fail
    go_ret
    exact ⟨by rw [HV.out]; rfl, (Below.refl _ _).alloc (Nat.le_refl _) _⟩
  have g2 : ¬ ((100 : Int) < (q.who.size : Int)) := by omega
  by_cases h3 : q.reason.size ≤ 300
  rotate_left
  · have g3 : (300 : Int) < (q.reason.size : Int) := by omega
    have hv : Rz = false := by rw [H.out.2.2.1]; unfold fewL fewQ; rw [decide_eq_false h3, Bool.and_false, Bool.and_false, Bool.false_and]
    have HV := Lib.hid hv
    clear h1 h2 h3 hv
    go_enter Try.func10, Try.ntmps10
    go_wp2_with fail
    go_ret
    exact ⟨by rw [HV.out]; rfl, (Below.refl _ _).alloc (Nat.le_refl _) _⟩
  have g3 : ¬ ((300 : Int) < (q.reason.size : Int)) := by omega
  have hall : Rz = l.all fewR := by rw [H.out.2.2.1]; unfold fewL fewQ; rw [decide_eq_true h2, decide_eq_true h3, decide_eq_true (by have := H.out.2.1; omega)]; rfl
  have HA := Lib.hid hall
  clear h1 h2 h3 hall
  go_enter Try.func10, Try.ntmps10
  go_wp2_with fail
  go_loopw [5] (fun c wr => ∃ i : Nat, i ≤ n ∧ c = .int .i64 (i : Int) ∧ (∀ j, j < i → ∀ r, l[j]? = some r → fewR r = true) ∧ Below w.heap.size w wr) (fun c _ => n - (intOf c).toNat)
  case atStart => exact ⟨0, by omega, rfl, fun j hj => absurd hj (by omega), (Below.refl _ _).alloc (Nat.le_refl _) _⟩
  case round =>
    obtain ⟨i, hi, rfl, hgood, hb⟩ := hrel
    by_cases hlt : i < n
    · obtain ⟨r, hr⟩ : ∃ r, l[i]? = some r := ⟨_, List.getElem?_eq_getElem (by have := H.out.2.1; omega)⟩
      obtain ⟨bb, off, rfl, hbl, hc⟩ := H.out.1.below hb i r hr
      have hok := H.out.2.2.2 r (List.mem_of_getElem? hr)
      have q0 : wr.cell? ⟨bb, off + i * 7, none⟩ = some (.string r.who) := hc 0 (by omega)
      have q1 : wr.cell? ⟨bb, off + i * 7 + 1, none⟩ = some (.string r.word) := hc 1 (by omega)
      have hw1 := hok.1
      have hw2 := hok.2
      have hgood' : fewR r = true → ∀ j, j < i + 1 → ∀ r, l[j]? = some r → fewR r = true := fun hf j hj y hy => by
        by_cases e : j = i
        · subst e; rw [hr] at hy; injection hy with hy; subst hy; exact hf
        · exact hgood j (by omega) y hy
      have hbad : fewR r = false → Rz = false := fun hf => by
        rw [HA.out, List.all_eq_false]
        exact ⟨r, List.mem_of_getElem? hr, by rw [hf]; decide⟩
      have HG := Lib.hid (And.intro hgood' (And.intro hbad hb))
      clear hgood hgood' hbad hb hr hc hok
      by_cases k1 : r.who.size ≤ 100
      · have y1 : ¬ ((100 : Int) < (r.who.size : Int)) := by omega
        by_cases k2 : r.word.size ≤ 100
        · have y2 : ¬ ((100 : Int) < (r.word.size : Int)) := by omega
          have hf : fewR r = true := by unfold fewR; rw [decide_eq_true k1, decide_eq_true k2]; rfl
          have HF := Lib.hid hf
          clear k1 k2 hf
          go_wp2_with fail
          go_roundw
          case rel => exact ⟨i + 1, by omega, by go_num, HG.out.1 HF.out, HG.out.2.2⟩
          case measure => simp [intOf]; omega
        · have y2 : (100 : Int) < (r.word.size : Int) := by omega
          have hf : fewR r = false := by unfold fewR; rw [decide_eq_false k2, Bool.and_false]
          have HF := Lib.hid hf
          clear k1 k2 hf
          go_wp2_with fail
          go_ret
          exact ⟨by rw [HG.out.2.1 HF.out]; rfl, HG.out.2.2⟩
      · have y1 : (100 : Int) < (r.who.size : Int) := by omega
        have hf : fewR r = false := by unfold fewR; rw [decide_eq_false k1, Bool.false_and]
        have HF := Lib.hid hf
        clear k1 hf
        go_wp2_with fail
        go_ret
        exact ⟨by rw [HG.out.2.1 HF.out]; rfl, HG.out.2.2⟩
    · have hend : Rz = true := by
        rw [HA.out, List.all_eq_true]
        intro r hr
        obtain ⟨j, hj⟩ := List.mem_iff_getElem?.1 hr
        exact hgood j (by have := (List.getElem?_eq_some_iff.1 hj).1; have := H.out.2.1; omega) r hj
      have HE := Lib.hid (And.intro hend hb)
      clear hend hb hgood
      go_wp2_with fail
      go_ret
      exact ⟨by rw [HE.out.1]; rfl, HE.out.2⟩
set_option maxRecDepth 100000 in
theorem few21_any (a : Bk.Act) (ha : a.Ok) (w : World) : Calls Try.prog 25 #[acVal a] w fun e w' => e = .returned (.bool (fewA a)) ∧ Below w.heap.size w w' := by
  obtain ⟨w1, hw1⟩ : ∃ w1, w1 = w.alloc (.cells (acCs a) 57) := ⟨_, rfl⟩
  obtain ⟨ga, hga⟩ : ∃ ga, ga = w.heap.size := ⟨_, rfl⟩
  have hb1 := box_below hw1
  have a1 : w1.heap[ga]? = some (.cells (acCs a) 57 (0, 0)) := by rw [hw1, hga]; exact heap_alloc_new _ _
  have hcall := few20_any [] none 0 a.q ha.q (by simp) (by simp) w1 (RecsAt.nil _ _ _ _)
  have hwho := ha.who
  unfold maxLen at hwho
  have hfl : fewL [] a.q = fewQ a.q := by unfold fewL; simp
  rw [hfl] at hcall
  unfold fewA
  have hbx := fun (W : World) (hb : Below w1.heap.size w1 W) => (hb.block ga (blt_of_heap a1)).trans a1
  unfold qVal at hcall
  have H := Lib.hid (And.intro hcall (And.intro hbx hb1))
  have HA := Lib.hid a1
  clear hcall hbx hb1 a1 hfl ha
  unfold acVal
  unfold acCs at hw1
  simp only [List.length_nil] at H
  cases hf : fewQ a.q with
  | false =>
    rw [hf] at H
    go_enter Try.func25, Try.ntmps25
    go_upto_region 1 with fail
    rw [← hw1, ← hga]
    clear hw1 hga
    have X := HA.out
    have c3 : w1.cell? ⟨ga, 3, none⟩ = some (.int .i64 a.q.id) := by rw [cell_of_row _ _ _ _ _ _ X]; rfl
    have c4 : w1.cell? ⟨ga, 4, none⟩ = some (.string a.q.who) := by rw [cell_of_row _ _ _ _ _ _ X]; rfl
    have c5 : w1.cell? ⟨ga, 5, none⟩ = some (.int .i64 a.q.entry) := by rw [cell_of_row _ _ _ _ _ _ X]; rfl
    have c6 : w1.cell? ⟨ga, 6, none⟩ = some (.string a.q.reason) := by rw [cell_of_row _ _ _ _ _ _ X]; rfl
    have c7 : w1.cell? ⟨ga, 7, none⟩ = some (.int .i64 a.q.exp) := by rw [cell_of_row _ _ _ _ _ _ X]; rfl
    clear X
    go_wp2_with fail
    refine H.out.1.mono ?_
    rintro e w2 ⟨rfl, hb⟩
    go_wp2_with fail
    go_ret
    exact ⟨rfl, H.out.2.2.trans (hb.mono H.out.2.2.size)⟩
  | true =>
    rw [hf] at H
    rw [Bool.true_and]
    by_cases hw : a.who.size ≤ 100
    · have gw : (a.who.size : Int) ≤ 100 := by omega
      rw [decide_eq_true hw]
      clear hw hf
      go_enter Try.func25, Try.ntmps25
      go_upto_region 1 with fail
      rw [← hw1, ← hga]
      clear hw1 hga
      have X := HA.out
      have c3 : w1.cell? ⟨ga, 3, none⟩ = some (.int .i64 a.q.id) := by rw [cell_of_row _ _ _ _ _ _ X]; rfl
      have c4 : w1.cell? ⟨ga, 4, none⟩ = some (.string a.q.who) := by rw [cell_of_row _ _ _ _ _ _ X]; rfl
      have c5 : w1.cell? ⟨ga, 5, none⟩ = some (.int .i64 a.q.entry) := by rw [cell_of_row _ _ _ _ _ _ X]; rfl
      have c6 : w1.cell? ⟨ga, 6, none⟩ = some (.string a.q.reason) := by rw [cell_of_row _ _ _ _ _ _ X]; rfl
      have c7 : w1.cell? ⟨ga, 7, none⟩ = some (.int .i64 a.q.exp) := by rw [cell_of_row _ _ _ _ _ _ X]; rfl
      clear X
      go_wp2_with fail
      refine H.out.1.mono ?_
      rintro e w2 ⟨rfl, hb⟩
      have X := H.out.2.1 w2 hb
      have d8 : w2.cell? ⟨ga, 8, none⟩ = some (.string a.who) := by rw [cell_of_row _ _ _ _ _ _ X]; rfl
      clear X
      go_wp2_with fail
      go_ret
      exact ⟨rfl, H.out.2.2.trans (hb.mono H.out.2.2.size)⟩
    · have gw : ¬ ((a.who.size : Int) ≤ 100) := by omega
      rw [decide_eq_false hw]
      clear hw hf
      go_enter Try.func25, Try.ntmps25
      go_upto_region 1 with fail
      rw [← hw1, ← hga]
      clear hw1 hga
      have X := HA.out
      have c3 : w1.cell? ⟨ga, 3, none⟩ = some (.int .i64 a.q.id) := by rw [cell_of_row _ _ _ _ _ _ X]; rfl
      have c4 : w1.cell? ⟨ga, 4, none⟩ = some (.string a.q.who) := by rw [cell_of_row _ _ _ _ _ _ X]; rfl
      have c5 : w1.cell? ⟨ga, 5, none⟩ = some (.int .i64 a.q.entry) := by rw [cell_of_row _ _ _ _ _ _ X]; rfl
      have c6 : w1.cell? ⟨ga, 6, none⟩ = some (.string a.q.reason) := by rw [cell_of_row _ _ _ _ _ _ X]; rfl
      have c7 : w1.cell? ⟨ga, 7, none⟩ = some (.int .i64 a.q.exp) := by rw [cell_of_row _ _ _ _ _ _ X]; rfl
      clear X
      go_wp2_with fail
      refine H.out.1.mono ?_
      rintro e w2 ⟨rfl, hb⟩
      have X := H.out.2.1 w2 hb
      have d8 : w2.cell? ⟨ga, 8, none⟩ = some (.string a.who) := by rw [cell_of_row _ _ _ _ _ _ X]; rfl
      clear X
      go_wp2_with fail
      go_ret
      exact ⟨by show Ending.returned (Value.bool (decide ((a.who.size : Int) ≤ 100))) = _; rw [decide_eq_false (by omega)], H.out.2.2.trans (hb.mono H.out.2.2.size)⟩
theorem DoPost.pre {B b : Nat} {R : Option Nat} {w w1 : World} {l : List En} {a : Bk.Act} {e : Ending} {w' : World} (hb : Below w.heap.size w w1) (h : DoPost B b R w1 l a e w') : DoPost B b R w l a e w' := by
  obtain ⟨v, R', h1, h2, h3, h4, h5⟩ := h
  refine ⟨v, R', h1, h2, h3, KeptB.pre hb h4, ?_⟩
  rcases h5 with h5 | h5
  · exact .inl h5
  · exact .inr fun g hg => Nat.le_trans hb.size (h5 g hg)
set_option maxRecDepth 100000 in
set_option maxHeartbeats 1000000 in
theorem do21_any {B b : Nat} {w : World} {R : Option Nat} {l : List En} (h : BkAt B w b R l) (hsts : ∀ x ∈ l, 1 ≤ x.st ∧ x.st ≤ 4) (hlen : l.length ≤ 200) (a : Bk.Act) (hw : a.q.who.size ≤ 281474976710656) (hr : a.q.reason.size ≤ 281474976710656) (hB : B ≤ w.heap.size) :
    Calls Try.prog 28 #[.pointer (some ⟨b, 0, none⟩), acVal a] w fun e w' => DoPost B b R w l (nk a) e w' := by
  obtain ⟨w1, hw1⟩ : ∃ w1, w1 = w.alloc (.cells (acCs a) 57) := ⟨_, rfl⟩
  obtain ⟨ga, hga⟩ : ∃ ga, ga = w.heap.size := ⟨_, rfl⟩
  have hb1 := box_below hw1
  have a1 : w1.heap[ga]? = some (.cells (acCs a) 57 (0, 0)) := by rw [hw1, hga]; exact heap_alloc_new _ _
  have h1 := h.below hb1
  have cput := h1.putq hlen a.q hw hr a.id a.who a.now (Nat.le_trans hB hb1.size)
  have capp := h1.approve a.q a.who a.id a.now
  have cden := h1.deny a.q a.who a.id a.now
  have crev := h1.revoke hsts a.q a.who a.id a.now
  unfold qVal at cput
  have H := Lib.hid (And.intro cput (And.intro capp (And.intro cden (And.intro crev hb1))))
  have HA := Lib.hid a1
  clear cput capp cden crev hb1 a1 h1 h hsts
  unfold acVal
  unfold acCs at hw1
  by_cases h0 : a.kind = 0
  · have hnk : nk a = ⟨0, a.q, a.id, a.who, a.now⟩ := by unfold nk; rw [if_neg (by omega), h0]
    have g0 : (a.kind == 0) = true := by simpa using h0
    have HK := Lib.hid hnk
    clear hnk h0
    go_enter Try.func28, Try.ntmps28
    go_upto_region 1 with fail
    rw [← hw1, ← hga]
    clear hw1 hga
    have X := HA.out
    have c0 : w1.cell? ⟨ga, 0, none⟩ = some (.int .i64 a.kind) := by rw [cell_of_row _ _ _ _ _ _ X]; rfl
    have c1 : w1.cell? ⟨ga, 1, none⟩ = some (.int .i64 a.id) := by rw [cell_of_row _ _ _ _ _ _ X]; rfl
    have c2 : w1.cell? ⟨ga, 2, none⟩ = some (.int .i64 a.now) := by rw [cell_of_row _ _ _ _ _ _ X]; rfl
    have c3 : w1.cell? ⟨ga, 3, none⟩ = some (.int .i64 a.q.id) := by rw [cell_of_row _ _ _ _ _ _ X]; rfl
    have c4 : w1.cell? ⟨ga, 4, none⟩ = some (.string a.q.who) := by rw [cell_of_row _ _ _ _ _ _ X]; rfl
    have c5 : w1.cell? ⟨ga, 5, none⟩ = some (.int .i64 a.q.entry) := by rw [cell_of_row _ _ _ _ _ _ X]; rfl
    have c6 : w1.cell? ⟨ga, 6, none⟩ = some (.string a.q.reason) := by rw [cell_of_row _ _ _ _ _ _ X]; rfl
    have c7 : w1.cell? ⟨ga, 7, none⟩ = some (.int .i64 a.q.exp) := by rw [cell_of_row _ _ _ _ _ _ X]; rfl
    have c8 : w1.cell? ⟨ga, 8, none⟩ = some (.string a.who) := by rw [cell_of_row _ _ _ _ _ _ X]; rfl
    clear X
    go_wp2_with fail
    refine H.out.1.mono ?_
    rintro e w2 hp
    have hq := hp
    clear hp
    obtain ⟨v, R', rfl, hp⟩ := hq
    go_wp2_with fail
    go_ret
    rw [HK.out]
    exact DoPost.pre H.out.2.2.2.2 ⟨v, R', rfl, hp⟩
  by_cases h1 : a.kind = 1
  · have hnk : nk a = ⟨1, a.q, a.id, a.who, a.now⟩ := by unfold nk; rw [if_neg (by omega), h1]
    have g0 : (a.kind == 0) = false := by simpa using h0
    have g1 : (a.kind == 1) = true := by simpa using h1
    have HK := Lib.hid hnk
    clear hnk h0 h1
    go_enter Try.func28, Try.ntmps28
    go_upto_region 1 with fail
    rw [← hw1, ← hga]
    clear hw1 hga
    have X := HA.out
    have c0 : w1.cell? ⟨ga, 0, none⟩ = some (.int .i64 a.kind) := by rw [cell_of_row _ _ _ _ _ _ X]; rfl
    have c1 : w1.cell? ⟨ga, 1, none⟩ = some (.int .i64 a.id) := by rw [cell_of_row _ _ _ _ _ _ X]; rfl
    have c2 : w1.cell? ⟨ga, 2, none⟩ = some (.int .i64 a.now) := by rw [cell_of_row _ _ _ _ _ _ X]; rfl
    have c3 : w1.cell? ⟨ga, 3, none⟩ = some (.int .i64 a.q.id) := by rw [cell_of_row _ _ _ _ _ _ X]; rfl
    have c4 : w1.cell? ⟨ga, 4, none⟩ = some (.string a.q.who) := by rw [cell_of_row _ _ _ _ _ _ X]; rfl
    have c5 : w1.cell? ⟨ga, 5, none⟩ = some (.int .i64 a.q.entry) := by rw [cell_of_row _ _ _ _ _ _ X]; rfl
    have c6 : w1.cell? ⟨ga, 6, none⟩ = some (.string a.q.reason) := by rw [cell_of_row _ _ _ _ _ _ X]; rfl
    have c7 : w1.cell? ⟨ga, 7, none⟩ = some (.int .i64 a.q.exp) := by rw [cell_of_row _ _ _ _ _ _ X]; rfl
    have c8 : w1.cell? ⟨ga, 8, none⟩ = some (.string a.who) := by rw [cell_of_row _ _ _ _ _ _ X]; rfl
    clear X
    go_wp2_with fail
    refine H.out.2.1.mono ?_
    rintro e w2 hp
    have hq := hp.does
    clear hp
    obtain ⟨v, R', rfl, hp⟩ := hq
    go_wp2_with fail
    go_ret
    rw [HK.out]
    exact DoPost.pre H.out.2.2.2.2 ⟨v, R', rfl, hp⟩
  by_cases h2 : a.kind = 2
  · have hnk : nk a = ⟨2, a.q, a.id, a.who, a.now⟩ := by unfold nk; rw [if_neg (by omega), h2]
    have g0 : (a.kind == 0) = false := by simpa using h0
    have g1 : (a.kind == 1) = false := by simpa using h1
    have g2 : (a.kind == 2) = true := by simpa using h2
    have HK := Lib.hid hnk
    clear hnk h0 h1 h2
    go_enter Try.func28, Try.ntmps28
    go_upto_region 1 with fail
    rw [← hw1, ← hga]
    clear hw1 hga
    have X := HA.out
    have c0 : w1.cell? ⟨ga, 0, none⟩ = some (.int .i64 a.kind) := by rw [cell_of_row _ _ _ _ _ _ X]; rfl
    have c1 : w1.cell? ⟨ga, 1, none⟩ = some (.int .i64 a.id) := by rw [cell_of_row _ _ _ _ _ _ X]; rfl
    have c2 : w1.cell? ⟨ga, 2, none⟩ = some (.int .i64 a.now) := by rw [cell_of_row _ _ _ _ _ _ X]; rfl
    have c3 : w1.cell? ⟨ga, 3, none⟩ = some (.int .i64 a.q.id) := by rw [cell_of_row _ _ _ _ _ _ X]; rfl
    have c4 : w1.cell? ⟨ga, 4, none⟩ = some (.string a.q.who) := by rw [cell_of_row _ _ _ _ _ _ X]; rfl
    have c5 : w1.cell? ⟨ga, 5, none⟩ = some (.int .i64 a.q.entry) := by rw [cell_of_row _ _ _ _ _ _ X]; rfl
    have c6 : w1.cell? ⟨ga, 6, none⟩ = some (.string a.q.reason) := by rw [cell_of_row _ _ _ _ _ _ X]; rfl
    have c7 : w1.cell? ⟨ga, 7, none⟩ = some (.int .i64 a.q.exp) := by rw [cell_of_row _ _ _ _ _ _ X]; rfl
    have c8 : w1.cell? ⟨ga, 8, none⟩ = some (.string a.who) := by rw [cell_of_row _ _ _ _ _ _ X]; rfl
    clear X
    go_wp2_with fail
    refine H.out.2.2.1.mono ?_
    rintro e w2 hp
    have hq := hp.does
    clear hp
    obtain ⟨v, R', rfl, hp⟩ := hq
    go_wp2_with fail
    go_ret
    rw [HK.out]
    exact DoPost.pre H.out.2.2.2.2 ⟨v, R', rfl, hp⟩
  have hnk : nk a = ⟨3, a.q, a.id, a.who, a.now⟩ := by
    unfold nk
    split
    · rfl
    · have : a.kind = 3 := by omega
      rw [this]
  have g0 : (a.kind == 0) = false := by simpa using h0
  have g1 : (a.kind == 1) = false := by simpa using h1
  have g2 : (a.kind == 2) = false := by simpa using h2
  have HK := Lib.hid hnk
  clear hnk h0 h1 h2
  go_enter Try.func28, Try.ntmps28
  go_upto_region 1 with fail
  rw [← hw1, ← hga]
  clear hw1 hga
  have X := HA.out
  have c0 : w1.cell? ⟨ga, 0, none⟩ = some (.int .i64 a.kind) := by rw [cell_of_row _ _ _ _ _ _ X]; rfl
  have c1 : w1.cell? ⟨ga, 1, none⟩ = some (.int .i64 a.id) := by rw [cell_of_row _ _ _ _ _ _ X]; rfl
  have c2 : w1.cell? ⟨ga, 2, none⟩ = some (.int .i64 a.now) := by rw [cell_of_row _ _ _ _ _ _ X]; rfl
  have c3 : w1.cell? ⟨ga, 3, none⟩ = some (.int .i64 a.q.id) := by rw [cell_of_row _ _ _ _ _ _ X]; rfl
  have c4 : w1.cell? ⟨ga, 4, none⟩ = some (.string a.q.who) := by rw [cell_of_row _ _ _ _ _ _ X]; rfl
  have c5 : w1.cell? ⟨ga, 5, none⟩ = some (.int .i64 a.q.entry) := by rw [cell_of_row _ _ _ _ _ _ X]; rfl
  have c6 : w1.cell? ⟨ga, 6, none⟩ = some (.string a.q.reason) := by rw [cell_of_row _ _ _ _ _ _ X]; rfl
  have c7 : w1.cell? ⟨ga, 7, none⟩ = some (.int .i64 a.q.exp) := by rw [cell_of_row _ _ _ _ _ _ X]; rfl
  have c8 : w1.cell? ⟨ga, 8, none⟩ = some (.string a.who) := by rw [cell_of_row _ _ _ _ _ _ X]; rfl
  clear X
  go_wp2_with fail
  refine H.out.2.2.2.1.mono ?_
  rintro e w2 hp
  have hq := hp.does
  clear hp
  obtain ⟨v, R', rfl, hp⟩ := hq
  go_wp2_with fail
  go_ret
  rw [HK.out]
  exact DoPost.pre H.out.2.2.2.2 ⟨v, R', rfl, hp⟩
theorem ErrAt.zero {w : World} {v : Value} (h : ErrAt w v 0) : v = .nilIface := by
  rcases h with ⟨-, h⟩ | ⟨h, -⟩
  · exact h
  · exact absurd rfl h
theorem ErrAt.some {w : World} {v : Value} {c : Int} (h : ErrAt w v c) (hc : c ≠ 0) : ∃ b op n, v = .iface 109 (.pointer (some ⟨b, 0, none⟩)) ∧ FaultAt w b op n c := by
  rcases h with ⟨h, -⟩ | ⟨-, h⟩
  · exact absurd h hc
  · exact h
/-- The page's request. -/
def bobQ : Py.Q := ⟨1, ⟨#[98, 111, 98]⟩, 0, ⟨#[]⟩, 9⟩
theorem bob_put : Bk.doI [] ⟨0, bobQ, 0, ⟨#[]⟩, 0⟩ = (some [⟨bobQ, 1⟩], 0) := by kernel_rfl
theorem bob_app : Bk.doI [⟨bobQ, 1⟩] ⟨1, bobQ, 1, ⟨#[]⟩, 5⟩ = (some [⟨bobQ, 2⟩], 0) := by kernel_rfl
theorem bob_den : Bk.doI [⟨bobQ, 2⟩] ⟨2, bobQ, 1, ⟨#[]⟩, 6⟩ = (none, 10) := by kernel_rfl
theorem bob_st9 : Bk.stateI [⟨bobQ, 2⟩] 1 9 = 2 := by kernel_rfl
theorem bob_st10 : Bk.stateI [⟨bobQ, 2⟩] 1 10 = 5 := by kernel_rfl
set_option maxRecDepth 100000 in
set_option maxHeartbeats 1000000 in
theorem awake21_any (w : World) : Calls Try.prog 24 #[] w fun e w' => e = .returned (.bool true) ∧ Below w.heap.size w w' := by
  obtain ⟨nb, hnb⟩ : ∃ nb, nb = w.heap.size := ⟨_, rfl⟩
  have hnew := bnew_any w
  rw [← hnb] at hnew
  have HN := Lib.hid (And.intro hnew hnb.symm)
  clear hnew hnb
  have hsz : ∀ W, Below nb w W → nb ≤ W.heap.size := fun W h => Nat.le_trans (Nat.le_of_eq HN.out.2.symm) h.size
  have HS := Lib.hid hsz
  clear hsz
  go_enter Try.func24, Try.ntmps24
  go_wp2_with fail
  refine HN.out.1.mono ?_
  rintro e w1 ⟨rfl, hbk1, hb1, -⟩
  have hput := hbk1.putq (by simp) bobQ (by decide) (by decide) 0 ⟨#[]⟩ 0 (HS.out _ hb1)
  have HB1 := Lib.hid (And.intro hbk1 (And.intro hb1 hput))
  clear hbk1 hb1 hput
  go_wp2_with fail
  refine HB1.out.2.2.mono ?_
  rintro e w2 ⟨v2, R2, rfl, hE2, hbk2, hk2, hR2⟩
  unfold Bk.after at hbk2
  rw [bob_put] at hE2 hbk2
  obtain rfl := hE2.zero
  have hb2 : Below nb w w2 := hk2.below HB1.out.2.1 (HS.out _ HB1.out.2.1) (Nat.le_refl _) (fun g hg => by cases hg)
  have happ := hbk2.approve bobQ ⟨#[]⟩ 1 5
  have HB2 := Lib.hid (And.intro hbk2 (And.intro hb2 happ))
  clear hbk2 hb2 hk2 hR2 hE2 happ
  go_wp2_with fail
  refine HB2.out.2.2.mono ?_
  rintro e w3 ⟨v3, rfl, hE3, hbk3, hk3⟩
  simp only [Option.getD_some] at hE3
  unfold Bk.after at hbk3
  simp only [Option.getD_some] at hbk3
  rw [bob_app] at hE3 hbk3
  obtain rfl := hE3.zero
  have hb3 : Below nb w w3 := hk3.below HB2.out.2.1 (HS.out _ HB2.out.2.1) (Nat.le_refl _) (fun g hg => (HB2.out.1.row g hg).1)
  have hden := hbk3.deny bobQ ⟨#[]⟩ 1 6
  have HB3 := Lib.hid (And.intro hbk3 (And.intro hb3 hden))
  clear hbk3 hb3 hk3 hE3 hden
  go_wp2_with fail
  refine HB3.out.2.2.mono ?_
  rintro e w4 ⟨v4, rfl, hE4, hbk4, hk4⟩
  simp only [Option.getD_some] at hE4
  unfold Bk.after at hbk4
  simp only [Option.getD_some] at hbk4
  rw [bob_den] at hE4 hbk4
  simp only [Option.getD_none] at hbk4
  obtain ⟨fb, op, m, rfl, hf⟩ := hE4.some (by decide)
  have hb4 : Below nb w w4 := hk4.below HB3.out.2.1 (HS.out _ HB3.out.2.1) (Nat.le_refl _) (fun g hg => (HB3.out.1.row g hg).1)
  have hcode := code_fault hf (by decide) (by decide)
  have hs9 := hbk4.state 1 9
  rw [bob_st9] at hs9
  have hs10 := fun W (hb : Below w4.heap.size w4 W) => (hbk4.below hb).state 1 10
  rw [bob_st10] at hs10
  have HB4 := Lib.hid (And.intro hb4 (And.intro hcode (And.intro hs9 hs10)))
  clear hb4 hcode hs9 hs10 hbk4 hk4 hE4 hf
  go_wp2_with fail
  refine HB4.out.2.1.mono ?_
  rintro e w5 ⟨rfl, hww⟩
  cases hww
  go_wp2_with fail
  refine HB4.out.2.2.1.mono ?_
  rintro e w6 ⟨rfl, hb6⟩
  go_wp2_with fail
  refine (HB4.out.2.2.2 _ hb6).mono ?_
  rintro e w7 ⟨rfl, hb7⟩
  have HE := Lib.hid (HB4.out.1.trans ((hb6.trans (hb7.mono hb6.size)).mono (HS.out _ HB4.out.1)))
  clear hb6 hb7
  go_wp2_with fail
  go_ret
  exact ⟨rfl, by have := HE.out; rw [← HN.out.2] at this; exact this⟩
end Go.Proofs.Ytnkkbinbeildmaa
