/- PROVED HERE: for every list of rules, every request and every two numbers (a time, how many are open) the law PolicyDecides returns true (which requests are allowed is what the document says, or the error). No condition. -/
import Derived.Test.YtnkkbinbeildmaaPyF
import Derived.Test.YtnkkbinbeildmaaPyT
import Derived.Test.YtnkkbinbeildmaaPyOpen
import Derived.Test.YtnkkbinbeildmaaRows
import Derived.ProofKit
import Derived.OpenShut
namespace Go.Proofs.Ytnkkbinbeildmaa
open Go.RowKit
theorem okWide_array {P : Program} {w : World} {r : Reach} {base : Nat} {t e : TypeId} {n : Nat} {v : Value} (ht : P.underlying t = some (.array n e)) (h : Value.okWide P w r base t v) : ∃ cs, v = .agg cs ∧ cs.size = P.cellsOf t := by
  simp only [Value.okWide, ht] at h
  obtain ⟨cs, h1, h2, _⟩ := h
  exact ⟨cs, h1, h2⟩
theorem few_many {l : List Py.R} {q : Py.Q} (h : fewL l q = true) : l.length ≤ 25 ∧ q.who.size ≤ 100 ∧ q.reason.size ≤ 300 ∧ ∀ r ∈ l, r.who.size ≤ 100 ∧ r.word.size ≤ 100 := by
  simp only [fewL, fewQ, Bool.and_eq_true, decide_eq_true_eq, List.all_eq_true, fewR] at h
  exact ⟨h.1.1, h.1.2.1, h.1.2.2, h.2⟩
theorem decI_code (l : List Py.R) (q : Py.Q) (now opn : Int) : 0 ≤ (Py.decI l q now opn).2 ∧ (Py.decI l q now opn).2 ≤ 13 := by
  unfold Py.decI
  split
  · exact ⟨by decide, by decide⟩
  · split
    · exact ⟨by decide, by decide⟩
    · split
      · exact ⟨by decide, by decide⟩
      · exact allow_code _ _
set_option maxRecDepth 100000 in
set_option maxHeartbeats 8000000 in
theorem pdec_law {w : World} (l : List Py.R) (a0 : Option Addr) (cap : Nat) (hT : RecsAt 7 ruCs w a0 l) (hO : ∀ r ∈ l, r.Ok) (hm : l.length ≤ maxLen) (q : Py.Q) (hq : q.Ok) (t : Two21) (_ : t.Ok) :
    Calls Try.prog 3 #[.slice a0 l.length cap, .agg (qCs q), .agg t.cs] w fun e w' => e = .returned (.bool true) ∧ Below w.heap.size w w' := by
  obtain ⟨w1, hw1⟩ : ∃ w1, w1 = (w.alloc (.cells (qCs q) 24)).alloc (.cells t.cs 25) := ⟨_, rfl⟩
  obtain ⟨g0, hg0⟩ : ∃ g0, g0 = w.heap.size := ⟨_, rfl⟩
  obtain ⟨g1, hg1⟩ : ∃ g1, g1 = w.heap.size + 1 := ⟨_, rfl⟩
  have hb1 : Below w.heap.size w w1 := by rw [hw1]; exact ((Below.refl _ _).alloc (Nat.le_refl _) _).alloc (by simp) _
  have a1 : w1.heap[g0]? = some (.cells (qCs q) 24 (0, 0)) := by
    rw [hw1, hg0]
    exact (heap_alloc_old _ _ (by simp)).trans (heap_alloc_new _ _)
  have a2 : w1.heap[g1]? = some (.cells t.cs 25 (0, 0)) := by rw [hw1, hg1]; exact alloc2_new _ _ _
  have hfw := few20_any l a0 cap q hq hm (fun r hr => ⟨(hO r hr).who, (hO r hr).word⟩) w1 (hT.below hb1)
  have hbw := fun (W : World) (hb : Below w1.heap.size w1 W) => hb1.trans (hb.mono hb1.size)
  have hbq := fun (W : World) (hb : Below w1.heap.size w1 W) => (hb.block g0 (pblt_of_heap a1)).trans a1
  have hbt := fun (W : World) (hb : Below w1.heap.size w1 W) => (hb.block g1 (pblt_of_heap a2)).trans a2
  unfold qVal at hfw
  have H := Lib.hid (And.intro hfw (And.intro hbw (And.intro hbq hbt)))
  have hTT := fun (W : World) (hb : Below w1.heap.size w1 W) => hT.below (hb1.trans (hb.mono hb1.size))
  obtain ⟨t0, t1⟩ := t
  unfold Two21.cs at hw1 H ⊢
  unfold qCs at hw1 ⊢
  simp only at hw1 H ⊢
  have HT := Lib.hid hTT
  clear hfw hbw hbq hbt hTT hT hb1 a1 a2 hO hq
  cases hf : fewL l q with
  | false =>
    rw [hf] at H
    clear hf
    go_enter Try.func3, Try.ntmps3
    go_upto_region 1 with fail
    rw [← hw1, ← hg1, ← hg0]
    clear hw1 hg0 hg1
    have X0 := H.out.2.2.1 w1 (Below.refl _ _)
    have d0 : w1.cell? ⟨g0, 0, none⟩ = some (.int .i64 q.id) := by rw [cell_of_row _ _ _ _ _ _ X0]; rfl
    have d1 : w1.cell? ⟨g0, 1, none⟩ = some (.string q.who) := by rw [cell_of_row _ _ _ _ _ _ X0]; rfl
    have d2 : w1.cell? ⟨g0, 2, none⟩ = some (.int .i64 q.entry) := by rw [cell_of_row _ _ _ _ _ _ X0]; rfl
    have d3 : w1.cell? ⟨g0, 3, none⟩ = some (.string q.reason) := by rw [cell_of_row _ _ _ _ _ _ X0]; rfl
    have d4 : w1.cell? ⟨g0, 4, none⟩ = some (.int .i64 q.exp) := by rw [cell_of_row _ _ _ _ _ _ X0]; rfl
    clear X0
    go_wp2_with fail
    refine H.out.1.mono ?_
    rintro e w2 ⟨rfl, hb2⟩
    have H2 := Lib.hid hb2
    clear hb2 d0 d1 d2 d3 d4
    go_wp2_with fail
    refine (awake20_any _).mono ?_
    rintro e w4 ⟨rfl, hb4⟩
    go_wp2_with fail
    go_ret
    exact ⟨rfl, H.out.2.1 _ (H2.out.trans (hb4.mono H2.out.size))⟩
  | true =>
    obtain ⟨hs1, hs2, hs3, hs4⟩ := few_many hf
    have hsz : ∀ r ∈ l, RSz r := fun r hr => ⟨by have := (hs4 r hr).1; unfold maxLen; omega, by have := (hs4 r hr).2; omega⟩
    have hqz : QSz q := ⟨by unfold maxLen; omega, by unfold maxLen; omega⟩
    have hde := fun (W : World) (hb : Below w1.heap.size w1 W) => decide_any l a0 cap q t0 t1 hsz hqz W (HT.out W hb) (by omega)
    have hrd := fun (W : World) (ad : Option Addr) (cp : Nat) (h : RecsAt 7 ruCs W ad l) => rdecide_any20 l ad cp q t0 t1 hsz hqz (by omega) W h (by omega)
    have hre := fun (W : World) (hb : Below w1.heap.size w1 W) => refs20_any l a0 cap W (HT.out W hb) (by omega)
    have hrf := fun W => lref20_any q W
    have hpq := fun W => preq_any q hqz.1 hqz.2 W
    have hrm := fun W => rmay_any q hqz.1 hqz.2 W
    have hck := fun (W : World) (hb : Below w1.heap.size w1 W) => check_any l a0 cap (by omega) hsz W (HT.out W hb)
    have hrc := fun (W : World) (ad : Option Addr) (cp : Nat) (h : RecsAt 7 ruCs W ad l) => rcheck_any20 l ad cp (by omega) hsz W h
    have hcd := decI_code l q t0 t1
    obtain ⟨I, hI⟩ : ∃ I, I = (Py.decI l q t0 t1).1 := ⟨_, rfl⟩
    obtain ⟨D, hD⟩ : ∃ D, D = (Py.decI l q t0 t1).2 := ⟨_, rfl⟩
    obtain ⟨M, hM⟩ : ∃ M, M = Py.mayB q := ⟨_, rfl⟩
    obtain ⟨C, hC⟩ : ∃ C, C = Py.checkB l := ⟨_, rfl⟩
    obtain ⟨n, hn⟩ : ∃ n, n = l.length := ⟨_, rfl⟩
    unfold DecPost at hde
    rw [← hI, ← hD] at hde hrd
    rw [← hD] at hcd
    rw [← hM] at hpq hrm
    rw [← hC] at hck hrc
    rw [← hn] at hde hrd hre hck hrc H hm ⊢
    unfold qVal at hde hrd hrf hpq hrm
    have HQ := Lib.hid (And.intro hde (And.intro hrd (And.intro hre (And.intro hrf (And.intro hpq (And.intro hrm (And.intro hck (And.intro hrc hcd))))))))
    rw [hf] at H
    have hii : (I == I) = true := by simp
    have hdd : (D == D) = true := by simp
    have hmm : (M == M) = true := by simp
    have hcc : (C == C) = true := by simp
    clear hf hde hrd hre hrf hpq hrm hck hrc hcd hI hD hM hC hn hsz hqz hs1 hs2 hs3 hs4
    go_enter Try.func3, Try.ntmps3
    go_upto_region 1 with fail
    rw [← hw1, ← hg1, ← hg0]
    clear hw1 hg0 hg1
    have X0 := H.out.2.2.1 w1 (Below.refl _ _)
    have d0 : w1.cell? ⟨g0, 0, none⟩ = some (.int .i64 q.id) := by rw [cell_of_row _ _ _ _ _ _ X0]; rfl
    have d1 : w1.cell? ⟨g0, 1, none⟩ = some (.string q.who) := by rw [cell_of_row _ _ _ _ _ _ X0]; rfl
    have d2 : w1.cell? ⟨g0, 2, none⟩ = some (.int .i64 q.entry) := by rw [cell_of_row _ _ _ _ _ _ X0]; rfl
    have d3 : w1.cell? ⟨g0, 3, none⟩ = some (.string q.reason) := by rw [cell_of_row _ _ _ _ _ _ X0]; rfl
    have d4 : w1.cell? ⟨g0, 4, none⟩ = some (.int .i64 q.exp) := by rw [cell_of_row _ _ _ _ _ _ X0]; rfl
    clear X0
    go_wp2_with fail
    refine H.out.1.mono ?_
    rintro e w2 ⟨rfl, hb2⟩
    have H2 := Lib.hid hb2
    clear hb2 d0 d1 d2 d3 d4
    have X0 := H.out.2.2.1 w2 (H2.out)
    have d0 : w2.cell? ⟨g0, 0, none⟩ = some (.int .i64 q.id) := by rw [cell_of_row _ _ _ _ _ _ X0]; rfl
    have d1 : w2.cell? ⟨g0, 1, none⟩ = some (.string q.who) := by rw [cell_of_row _ _ _ _ _ _ X0]; rfl
    have d2 : w2.cell? ⟨g0, 2, none⟩ = some (.int .i64 q.entry) := by rw [cell_of_row _ _ _ _ _ _ X0]; rfl
    have d3 : w2.cell? ⟨g0, 3, none⟩ = some (.string q.reason) := by rw [cell_of_row _ _ _ _ _ _ X0]; rfl
    have d4 : w2.cell? ⟨g0, 4, none⟩ = some (.int .i64 q.exp) := by rw [cell_of_row _ _ _ _ _ _ X0]; rfl
    clear X0
    have X0 := H.out.2.2.2 w2 (H2.out)
    have t0' : w2.cell? ⟨g1, 0, none⟩ = some (.int .i64 t0) := by rw [cell_of_row _ _ _ _ _ _ X0]; rfl
    have t1' : w2.cell? ⟨g1, 1, none⟩ = some (.int .i64 t1) := by rw [cell_of_row _ _ _ _ _ _ X0]; rfl
    clear X0
    go_wp2_with fail
    refine (HQ.out.1 _ H2.out).mono ?_
    rintro e w3 ⟨v3, rfl, hE3, hb3⟩
    have H3 := Lib.hid (And.intro (H2.out.trans (hb3.mono H2.out.size)) hE3)
    clear hb3 hE3 t0' t1' d0 d1 d2 d3 d4
    go_upto_region 4 with fail
    refine wp_region_held (S := fun W : World => (W.heap[g0]? = some (.cells (qCs q) 24 (0, 0)) ∧ W.heap[g1]? = some (.cells #[.int .i64 t0, .int .i64 t1] 25 (0, 0)))) (by kernel_rfl) ?_
    change wpAnyH _ _ _ _ _ _ _ _ (World.drew _)
    generalize hv0 : World.drew _ = v0
    have E0 : (v0.heap[g0]? = some (.cells (qCs q) 24 (0, 0)) ∧ v0.heap[g1]? = some (.cells #[.int .i64 t0, .int .i64 t1] 25 (0, 0))) := by rw [← hv0]; exact ⟨H.out.2.2.1 w3 H3.out.1, H.out.2.2.2 w3 H3.out.1⟩
    have F0 : Below w3.heap.size w3 v0 := by rw [← hv0]; exact ((Below.refl _ _).drew)
    clear hv0
    refine wpAnyH_take (i := 0) (v := ?_) rfl (by kernel_rfl) (by kernel_rfl) (by kernel_rfl) (fun _ _ _ h => h) (Or.inl ⟨by kernel_rfl, ?_⟩) E0 ?_
    rotate_left
    · (intro W hS; have d0 : W.cell? ⟨g0, 0, none⟩ = some (.int .i64 q.id) := (by rw [cell_of_row _ _ _ _ _ _ hS.1]; rfl); have d1 : W.cell? ⟨g0, 1, none⟩ = some (.string q.who) := (by rw [cell_of_row _ _ _ _ _ _ hS.1]; rfl); have d2 : W.cell? ⟨g0, 2, none⟩ = some (.int .i64 q.entry) := (by rw [cell_of_row _ _ _ _ _ _ hS.1]; rfl); have d3 : W.cell? ⟨g0, 3, none⟩ = some (.string q.reason) := (by rw [cell_of_row _ _ _ _ _ _ hS.1]; rfl); have d4 : W.cell? ⟨g0, 4, none⟩ = some (.int .i64 q.exp) := (by rw [cell_of_row _ _ _ _ _ _ hS.1]; rfl); have x0 : W.cell? ⟨g1, 0, none⟩ = some (.int .i64 t0) := (by rw [cell_of_row _ _ _ _ _ _ hS.2]; rfl); have x1 : W.cell? ⟨g1, 1, none⟩ = some (.int .i64 t1) := (by rw [cell_of_row _ _ _ _ _ _ hS.2]; rfl); go_simp; try (with_reducible rfl))
    refine wpAnyH_take (i := 2) (v := ?_) rfl (by kernel_rfl) (by kernel_rfl) (by kernel_rfl) (fun _ _ _ h => h) (Or.inl ⟨by kernel_rfl, ?_⟩) E0 ?_
    rotate_left
    · (intro W hS; have d0 : W.cell? ⟨g0, 0, none⟩ = some (.int .i64 q.id) := (by rw [cell_of_row _ _ _ _ _ _ hS.1]; rfl); have d1 : W.cell? ⟨g0, 1, none⟩ = some (.string q.who) := (by rw [cell_of_row _ _ _ _ _ _ hS.1]; rfl); have d2 : W.cell? ⟨g0, 2, none⟩ = some (.int .i64 q.entry) := (by rw [cell_of_row _ _ _ _ _ _ hS.1]; rfl); have d3 : W.cell? ⟨g0, 3, none⟩ = some (.string q.reason) := (by rw [cell_of_row _ _ _ _ _ _ hS.1]; rfl); have d4 : W.cell? ⟨g0, 4, none⟩ = some (.int .i64 q.exp) := (by rw [cell_of_row _ _ _ _ _ _ hS.1]; rfl); have x0 : W.cell? ⟨g1, 0, none⟩ = some (.int .i64 t0) := (by rw [cell_of_row _ _ _ _ _ _ hS.2]; rfl); have x1 : W.cell? ⟨g1, 1, none⟩ = some (.int .i64 t1) := (by rw [cell_of_row _ _ _ _ _ _ hS.2]; rfl); go_simp; try (with_reducible rfl))
    refine wpAnyH_take (i := 4) (v := ?_) rfl (by kernel_rfl) (by kernel_rfl) (by kernel_rfl) (fun _ _ _ h => h) (Or.inl ⟨by kernel_rfl, ?_⟩) E0 ?_
    rotate_left
    · (intro W hS; have d0 : W.cell? ⟨g0, 0, none⟩ = some (.int .i64 q.id) := (by rw [cell_of_row _ _ _ _ _ _ hS.1]; rfl); have d1 : W.cell? ⟨g0, 1, none⟩ = some (.string q.who) := (by rw [cell_of_row _ _ _ _ _ _ hS.1]; rfl); have d2 : W.cell? ⟨g0, 2, none⟩ = some (.int .i64 q.entry) := (by rw [cell_of_row _ _ _ _ _ _ hS.1]; rfl); have d3 : W.cell? ⟨g0, 3, none⟩ = some (.string q.reason) := (by rw [cell_of_row _ _ _ _ _ _ hS.1]; rfl); have d4 : W.cell? ⟨g0, 4, none⟩ = some (.int .i64 q.exp) := (by rw [cell_of_row _ _ _ _ _ _ hS.1]; rfl); have x0 : W.cell? ⟨g1, 0, none⟩ = some (.int .i64 t0) := (by rw [cell_of_row _ _ _ _ _ _ hS.2]; rfl); have x1 : W.cell? ⟨g1, 1, none⟩ = some (.int .i64 t1) := (by rw [cell_of_row _ _ _ _ _ _ hS.2]; rfl); go_simp; try (with_reducible rfl))
    refine wpAnyH_take (i := 5) (v := ?_) rfl (by kernel_rfl) (by kernel_rfl) (by kernel_rfl) (fun _ _ _ h => h) (Or.inl ⟨by kernel_rfl, ?_⟩) E0 ?_
    rotate_left
    · (intro W hS; have d0 : W.cell? ⟨g0, 0, none⟩ = some (.int .i64 q.id) := (by rw [cell_of_row _ _ _ _ _ _ hS.1]; rfl); have d1 : W.cell? ⟨g0, 1, none⟩ = some (.string q.who) := (by rw [cell_of_row _ _ _ _ _ _ hS.1]; rfl); have d2 : W.cell? ⟨g0, 2, none⟩ = some (.int .i64 q.entry) := (by rw [cell_of_row _ _ _ _ _ _ hS.1]; rfl); have d3 : W.cell? ⟨g0, 3, none⟩ = some (.string q.reason) := (by rw [cell_of_row _ _ _ _ _ _ hS.1]; rfl); have d4 : W.cell? ⟨g0, 4, none⟩ = some (.int .i64 q.exp) := (by rw [cell_of_row _ _ _ _ _ _ hS.1]; rfl); have x0 : W.cell? ⟨g1, 0, none⟩ = some (.int .i64 t0) := (by rw [cell_of_row _ _ _ _ _ _ hS.2]; rfl); have x1 : W.cell? ⟨g1, 1, none⟩ = some (.int .i64 t1) := (by rw [cell_of_row _ _ _ _ _ _ hS.2]; rfl); go_simp; try (with_reducible rfl))
    refine wpAnyH_take (i := 6) (v := ?_) rfl (by kernel_rfl) (by kernel_rfl) (by kernel_rfl) (fun _ _ _ h => h) (Or.inl ⟨by kernel_rfl, ?_⟩) E0 ?_
    rotate_left
    · (intro W hS; have d0 : W.cell? ⟨g0, 0, none⟩ = some (.int .i64 q.id) := (by rw [cell_of_row _ _ _ _ _ _ hS.1]; rfl); have d1 : W.cell? ⟨g0, 1, none⟩ = some (.string q.who) := (by rw [cell_of_row _ _ _ _ _ _ hS.1]; rfl); have d2 : W.cell? ⟨g0, 2, none⟩ = some (.int .i64 q.entry) := (by rw [cell_of_row _ _ _ _ _ _ hS.1]; rfl); have d3 : W.cell? ⟨g0, 3, none⟩ = some (.string q.reason) := (by rw [cell_of_row _ _ _ _ _ _ hS.1]; rfl); have d4 : W.cell? ⟨g0, 4, none⟩ = some (.int .i64 q.exp) := (by rw [cell_of_row _ _ _ _ _ _ hS.1]; rfl); have x0 : W.cell? ⟨g1, 0, none⟩ = some (.int .i64 t0) := (by rw [cell_of_row _ _ _ _ _ _ hS.2]; rfl); have x1 : W.cell? ⟨g1, 1, none⟩ = some (.int .i64 t1) := (by rw [cell_of_row _ _ _ _ _ _ hS.2]; rfl); go_simp; try (with_reducible rfl))
    refine wpAnyH_take (i := 7) (v := ?_) rfl (by kernel_rfl) (by kernel_rfl) (by kernel_rfl) (fun _ _ _ h => h) (Or.inl ⟨by kernel_rfl, ?_⟩) E0 ?_
    rotate_left
    · (intro W hS; have d0 : W.cell? ⟨g0, 0, none⟩ = some (.int .i64 q.id) := (by rw [cell_of_row _ _ _ _ _ _ hS.1]; rfl); have d1 : W.cell? ⟨g0, 1, none⟩ = some (.string q.who) := (by rw [cell_of_row _ _ _ _ _ _ hS.1]; rfl); have d2 : W.cell? ⟨g0, 2, none⟩ = some (.int .i64 q.entry) := (by rw [cell_of_row _ _ _ _ _ _ hS.1]; rfl); have d3 : W.cell? ⟨g0, 3, none⟩ = some (.string q.reason) := (by rw [cell_of_row _ _ _ _ _ _ hS.1]; rfl); have d4 : W.cell? ⟨g0, 4, none⟩ = some (.int .i64 q.exp) := (by rw [cell_of_row _ _ _ _ _ _ hS.1]; rfl); have x0 : W.cell? ⟨g1, 0, none⟩ = some (.int .i64 t0) := (by rw [cell_of_row _ _ _ _ _ _ hS.2]; rfl); have x1 : W.cell? ⟨g1, 1, none⟩ = some (.int .i64 t1) := (by rw [cell_of_row _ _ _ _ _ _ hS.2]; rfl); go_simp; try (with_reducible rfl))
    refine wpAnyH_ready (rs := [1]) (by kernel_rfl) (by simp) ?_
    refine AllReadyH.cons (i := 1) rfl (fun K hK => ?_) AllReadyH.nil
    go_simp
    refine (HQ.out.2.2.1 v0 (H3.out.1.trans (F0.mono H3.out.1.size))).mono ?_
    rintro e v1 ⟨ad, cp, rfl, hR, hb⟩
    have F1 := F0.trans (hb.mono F0.size)
    have E1 : (v1.heap[g0]? = some (.cells (qCs q) 24 (0, 0)) ∧ v1.heap[g1]? = some (.cells #[.int .i64 t0, .int .i64 t1] 25 (0, 0))) := ⟨(hb.block _ (pblt_of_heap E0.1)).trans E0.1, (hb.block _ (pblt_of_heap E0.2)).trans E0.2⟩
    refine hK.out _ _ E1 (fun _ => ?_)
    clear hK K hb
    refine wpAnyH_ready (rs := [3]) (by kernel_rfl) (by simp) ?_
    refine AllReadyH.cons (i := 3) rfl (fun K hK => ?_) AllReadyH.nil
    go_simp
    refine (HQ.out.2.2.2.1 v1).mono ?_
    rintro e v2 ⟨rfl, hb⟩
    have F2 := F1.trans (hb.mono F1.size)
    have E2 : (v2.heap[g0]? = some (.cells (qCs q) 24 (0, 0)) ∧ v2.heap[g1]? = some (.cells #[.int .i64 t0, .int .i64 t1] 25 (0, 0))) := ⟨(hb.block _ (pblt_of_heap E1.1)).trans E1.1, (hb.block _ (pblt_of_heap E1.2)).trans E1.2⟩
    have hR2 := hR.below hb
    clear hR
    have hR := hR2
    clear hR2
    refine hK.out _ _ E2 (fun _ => ?_)
    clear hK K hb
    refine wpAnyH_ready (rs := [8]) (by kernel_rfl) (by simp) ?_
    refine AllReadyH.cons (i := 8) rfl (fun K hK => ?_) AllReadyH.nil
    go_simp
    refine (HQ.out.2.1 v2 ad cp hR).mono ?_
    rintro e v3 ⟨rfl, hb⟩
    have F3 := F2.trans (hb.mono F2.size)
    have E3 : (v3.heap[g0]? = some (.cells (qCs q) 24 (0, 0)) ∧ v3.heap[g1]? = some (.cells #[.int .i64 t0, .int .i64 t1] 25 (0, 0))) := ⟨(hb.block _ (pblt_of_heap E2.1)).trans E2.1, (hb.block _ (pblt_of_heap E2.2)).trans E2.2⟩
    clear hR
    refine hK.out _ _ E3 (fun _ => ?_)
    clear hK K hb
    refine wpAnyH_take (i := 9) (v := ?_) rfl (by kernel_rfl) (by kernel_rfl) (by kernel_rfl) (fun _ _ _ h => h) (Or.inl ⟨by kernel_rfl, ?_⟩) E3 ?_
    rotate_left
    · (intro W hS; have d0 : W.cell? ⟨g0, 0, none⟩ = some (.int .i64 q.id) := (by rw [cell_of_row _ _ _ _ _ _ hS.1]; rfl); have d1 : W.cell? ⟨g0, 1, none⟩ = some (.string q.who) := (by rw [cell_of_row _ _ _ _ _ _ hS.1]; rfl); have d2 : W.cell? ⟨g0, 2, none⟩ = some (.int .i64 q.entry) := (by rw [cell_of_row _ _ _ _ _ _ hS.1]; rfl); have d3 : W.cell? ⟨g0, 3, none⟩ = some (.string q.reason) := (by rw [cell_of_row _ _ _ _ _ _ hS.1]; rfl); have d4 : W.cell? ⟨g0, 4, none⟩ = some (.int .i64 q.exp) := (by rw [cell_of_row _ _ _ _ _ _ hS.1]; rfl); have x0 : W.cell? ⟨g1, 0, none⟩ = some (.int .i64 t0) := (by rw [cell_of_row _ _ _ _ _ _ hS.2]; rfl); have x1 : W.cell? ⟨g1, 1, none⟩ = some (.int .i64 t1) := (by rw [cell_of_row _ _ _ _ _ _ hS.2]; rfl); go_simp; try (with_reducible rfl))
    refine wpAnyH_take (i := 10) (v := ?_) rfl (by kernel_rfl) (by kernel_rfl) (by kernel_rfl) (fun _ _ _ h => h) (Or.inl ⟨by kernel_rfl, ?_⟩) E3 ?_
    rotate_left
    · (intro W hS; have d0 : W.cell? ⟨g0, 0, none⟩ = some (.int .i64 q.id) := (by rw [cell_of_row _ _ _ _ _ _ hS.1]; rfl); have d1 : W.cell? ⟨g0, 1, none⟩ = some (.string q.who) := (by rw [cell_of_row _ _ _ _ _ _ hS.1]; rfl); have d2 : W.cell? ⟨g0, 2, none⟩ = some (.int .i64 q.entry) := (by rw [cell_of_row _ _ _ _ _ _ hS.1]; rfl); have d3 : W.cell? ⟨g0, 3, none⟩ = some (.string q.reason) := (by rw [cell_of_row _ _ _ _ _ _ hS.1]; rfl); have d4 : W.cell? ⟨g0, 4, none⟩ = some (.int .i64 q.exp) := (by rw [cell_of_row _ _ _ _ _ _ hS.1]; rfl); have x0 : W.cell? ⟨g1, 0, none⟩ = some (.int .i64 t0) := (by rw [cell_of_row _ _ _ _ _ _ hS.2]; rfl); have x1 : W.cell? ⟨g1, 1, none⟩ = some (.int .i64 t1) := (by rw [cell_of_row _ _ _ _ _ _ hS.2]; rfl); go_simp; try (with_reducible rfl))
    refine wpAnyH_take (i := 11) (v := ?_) rfl (by kernel_rfl) (by kernel_rfl) (by kernel_rfl) (fun _ _ _ h => h) (Or.inl ⟨by kernel_rfl, ?_⟩) E3 ?_
    rotate_left
    · (intro W hS; have d0 : W.cell? ⟨g0, 0, none⟩ = some (.int .i64 q.id) := (by rw [cell_of_row _ _ _ _ _ _ hS.1]; rfl); have d1 : W.cell? ⟨g0, 1, none⟩ = some (.string q.who) := (by rw [cell_of_row _ _ _ _ _ _ hS.1]; rfl); have d2 : W.cell? ⟨g0, 2, none⟩ = some (.int .i64 q.entry) := (by rw [cell_of_row _ _ _ _ _ _ hS.1]; rfl); have d3 : W.cell? ⟨g0, 3, none⟩ = some (.string q.reason) := (by rw [cell_of_row _ _ _ _ _ _ hS.1]; rfl); have d4 : W.cell? ⟨g0, 4, none⟩ = some (.int .i64 q.exp) := (by rw [cell_of_row _ _ _ _ _ _ hS.1]; rfl); have x0 : W.cell? ⟨g1, 0, none⟩ = some (.int .i64 t0) := (by rw [cell_of_row _ _ _ _ _ _ hS.2]; rfl); have x1 : W.cell? ⟨g1, 1, none⟩ = some (.int .i64 t1) := (by rw [cell_of_row _ _ _ _ _ _ hS.2]; rfl); go_simp; try (with_reducible rfl))
    refine wpAnyH_take (i := 12) (v := ?_) rfl (by kernel_rfl) (by kernel_rfl) (by kernel_rfl) (fun _ _ _ h => h) (Or.inl ⟨by kernel_rfl, ?_⟩) E3 ?_
    rotate_left
    · (intro W hS; have d0 : W.cell? ⟨g0, 0, none⟩ = some (.int .i64 q.id) := (by rw [cell_of_row _ _ _ _ _ _ hS.1]; rfl); have d1 : W.cell? ⟨g0, 1, none⟩ = some (.string q.who) := (by rw [cell_of_row _ _ _ _ _ _ hS.1]; rfl); have d2 : W.cell? ⟨g0, 2, none⟩ = some (.int .i64 q.entry) := (by rw [cell_of_row _ _ _ _ _ _ hS.1]; rfl); have d3 : W.cell? ⟨g0, 3, none⟩ = some (.string q.reason) := (by rw [cell_of_row _ _ _ _ _ _ hS.1]; rfl); have d4 : W.cell? ⟨g0, 4, none⟩ = some (.int .i64 q.exp) := (by rw [cell_of_row _ _ _ _ _ _ hS.1]; rfl); have x0 : W.cell? ⟨g1, 0, none⟩ = some (.int .i64 t0) := (by rw [cell_of_row _ _ _ _ _ _ hS.2]; rfl); have x1 : W.cell? ⟨g1, 1, none⟩ = some (.int .i64 t1) := (by rw [cell_of_row _ _ _ _ _ _ hS.2]; rfl); go_simp; try (with_reducible rfl))
    refine wpAnyH_take (i := 13) (v := ?_) rfl (by kernel_rfl) (by kernel_rfl) (by kernel_rfl) (fun _ _ _ h => h) (Or.inl ⟨by kernel_rfl, ?_⟩) E3 ?_
    rotate_left
    · (intro W hS; have d0 : W.cell? ⟨g0, 0, none⟩ = some (.int .i64 q.id) := (by rw [cell_of_row _ _ _ _ _ _ hS.1]; rfl); have d1 : W.cell? ⟨g0, 1, none⟩ = some (.string q.who) := (by rw [cell_of_row _ _ _ _ _ _ hS.1]; rfl); have d2 : W.cell? ⟨g0, 2, none⟩ = some (.int .i64 q.entry) := (by rw [cell_of_row _ _ _ _ _ _ hS.1]; rfl); have d3 : W.cell? ⟨g0, 3, none⟩ = some (.string q.reason) := (by rw [cell_of_row _ _ _ _ _ _ hS.1]; rfl); have d4 : W.cell? ⟨g0, 4, none⟩ = some (.int .i64 q.exp) := (by rw [cell_of_row _ _ _ _ _ _ hS.1]; rfl); have x0 : W.cell? ⟨g1, 0, none⟩ = some (.int .i64 t0) := (by rw [cell_of_row _ _ _ _ _ _ hS.2]; rfl); have x1 : W.cell? ⟨g1, 1, none⟩ = some (.int .i64 t1) := (by rw [cell_of_row _ _ _ _ _ _ hS.2]; rfl); go_simp; try (with_reducible rfl))
    refine wpAnyH_done (by kernel_rfl) ?_ _
    go_simp
    have HE := Lib.hid (And.intro (H3.out.1.trans (F3.mono H3.out.1.size)) (And.intro E3 (H3.out.2.below F3)))
    obtain ⟨w5, hw5⟩ : ∃ w5, w5 = v3 := ⟨_, rfl⟩
    rw [← hw5] at HE
    try rw [← hw5]
    clear F0 F3 E0 E1 E2 E3
    clear hw5
    have hE5 := HE.out.2.2
    have hcode := fun (W : World) (hb : Below w5.heap.size w5 W) => (code_any (hE5.below hb) HQ.out.2.2.2.2.2.2.2.2.1 HQ.out.2.2.2.2.2.2.2.2.2).mono (R' := fun e w' => e = .returned (.int .i64 D) ∧ Below W.heap.size W w') (by rintro e w' ⟨rfl, rfl⟩; exact ⟨rfl, Below.refl _ _⟩)
    have HCD := Lib.hid hcode
    clear hcode
    rcases hE5 with ⟨hD0, rfl⟩ | ⟨hD0, fb, op, m, rfl, -⟩
    · have gD : (D == 0) = true := by simpa using hD0
      clear hD0
      go_upto_region 5 with fail
      refine wp_region_held (S := fun W : World => (W.heap[g0]? = some (.cells (qCs q) 24 (0, 0)) ∧ W.heap[g1]? = some (.cells #[.int .i64 t0, .int .i64 t1] 25 (0, 0)))) (by kernel_rfl) ?_
      change wpAnyH _ _ _ _ _ _ _ _ (World.drew _)
      generalize hv0 : World.drew _ = v0
      have E0 : (v0.heap[g0]? = some (.cells (qCs q) 24 (0, 0)) ∧ v0.heap[g1]? = some (.cells #[.int .i64 t0, .int .i64 t1] 25 (0, 0))) := by rw [← hv0]; exact HE.out.2.1
      have F0 : Below w5.heap.size w5 v0 := by rw [← hv0]; exact ((Below.refl _ _).drew)
      clear hv0
      refine wpAnyH_ready (rs := [0]) (by kernel_rfl) (by simp) ?_
      refine AllReadyH.cons (i := 0) rfl (fun K hK => ?_) AllReadyH.nil
      go_simp
      refine (awake20_any v0).mono ?_
      rintro e v1 ⟨rfl, hb⟩
      have F1 := F0.trans (hb.mono F0.size)
      have E1 : (v1.heap[g0]? = some (.cells (qCs q) 24 (0, 0)) ∧ v1.heap[g1]? = some (.cells #[.int .i64 t0, .int .i64 t1] 25 (0, 0))) := ⟨(hb.block _ (pblt_of_heap E0.1)).trans E0.1, (hb.block _ (pblt_of_heap E0.2)).trans E0.2⟩
      refine hK.out _ _ E1 (fun _ => ?_)
      clear hK K hb
      refine wpAnyH_take (i := 1) (v := ?_) rfl (by kernel_rfl) (by kernel_rfl) (by kernel_rfl) (fun _ _ _ h => h) (Or.inl ⟨by kernel_rfl, ?_⟩) E1 ?_
      rotate_left
      · (intro W hS; have d0 : W.cell? ⟨g0, 0, none⟩ = some (.int .i64 q.id) := (by rw [cell_of_row _ _ _ _ _ _ hS.1]; rfl); have d1 : W.cell? ⟨g0, 1, none⟩ = some (.string q.who) := (by rw [cell_of_row _ _ _ _ _ _ hS.1]; rfl); have d2 : W.cell? ⟨g0, 2, none⟩ = some (.int .i64 q.entry) := (by rw [cell_of_row _ _ _ _ _ _ hS.1]; rfl); have d3 : W.cell? ⟨g0, 3, none⟩ = some (.string q.reason) := (by rw [cell_of_row _ _ _ _ _ _ hS.1]; rfl); have d4 : W.cell? ⟨g0, 4, none⟩ = some (.int .i64 q.exp) := (by rw [cell_of_row _ _ _ _ _ _ hS.1]; rfl); have x0 : W.cell? ⟨g1, 0, none⟩ = some (.int .i64 t0) := (by rw [cell_of_row _ _ _ _ _ _ hS.2]; rfl); have x1 : W.cell? ⟨g1, 1, none⟩ = some (.int .i64 t1) := (by rw [cell_of_row _ _ _ _ _ _ hS.2]; rfl); go_simp; try (with_reducible rfl))
      refine wpAnyH_take (i := 2) (v := ?_) rfl (by kernel_rfl) (by kernel_rfl) (by kernel_rfl) (fun _ _ _ h => h) (Or.inl ⟨by kernel_rfl, ?_⟩) E1 ?_
      rotate_left
      · (intro W hS; have d0 : W.cell? ⟨g0, 0, none⟩ = some (.int .i64 q.id) := (by rw [cell_of_row _ _ _ _ _ _ hS.1]; rfl); have d1 : W.cell? ⟨g0, 1, none⟩ = some (.string q.who) := (by rw [cell_of_row _ _ _ _ _ _ hS.1]; rfl); have d2 : W.cell? ⟨g0, 2, none⟩ = some (.int .i64 q.entry) := (by rw [cell_of_row _ _ _ _ _ _ hS.1]; rfl); have d3 : W.cell? ⟨g0, 3, none⟩ = some (.string q.reason) := (by rw [cell_of_row _ _ _ _ _ _ hS.1]; rfl); have d4 : W.cell? ⟨g0, 4, none⟩ = some (.int .i64 q.exp) := (by rw [cell_of_row _ _ _ _ _ _ hS.1]; rfl); have x0 : W.cell? ⟨g1, 0, none⟩ = some (.int .i64 t0) := (by rw [cell_of_row _ _ _ _ _ _ hS.2]; rfl); have x1 : W.cell? ⟨g1, 1, none⟩ = some (.int .i64 t1) := (by rw [cell_of_row _ _ _ _ _ _ hS.2]; rfl); go_simp; try (with_reducible rfl))
      refine wpAnyH_take (i := 3) (v := ?_) rfl (by kernel_rfl) (by kernel_rfl) (by kernel_rfl) (fun _ _ _ h => h) (Or.inl ⟨by kernel_rfl, ?_⟩) E1 ?_
      rotate_left
      · (intro W hS; have d0 : W.cell? ⟨g0, 0, none⟩ = some (.int .i64 q.id) := (by rw [cell_of_row _ _ _ _ _ _ hS.1]; rfl); have d1 : W.cell? ⟨g0, 1, none⟩ = some (.string q.who) := (by rw [cell_of_row _ _ _ _ _ _ hS.1]; rfl); have d2 : W.cell? ⟨g0, 2, none⟩ = some (.int .i64 q.entry) := (by rw [cell_of_row _ _ _ _ _ _ hS.1]; rfl); have d3 : W.cell? ⟨g0, 3, none⟩ = some (.string q.reason) := (by rw [cell_of_row _ _ _ _ _ _ hS.1]; rfl); have d4 : W.cell? ⟨g0, 4, none⟩ = some (.int .i64 q.exp) := (by rw [cell_of_row _ _ _ _ _ _ hS.1]; rfl); have x0 : W.cell? ⟨g1, 0, none⟩ = some (.int .i64 t0) := (by rw [cell_of_row _ _ _ _ _ _ hS.2]; rfl); have x1 : W.cell? ⟨g1, 1, none⟩ = some (.int .i64 t1) := (by rw [cell_of_row _ _ _ _ _ _ hS.2]; rfl); go_simp; try (with_reducible rfl))
      refine wpAnyH_take (i := 4) (v := ?_) rfl (by kernel_rfl) (by kernel_rfl) (by kernel_rfl) (fun _ _ _ h => h) (Or.inl ⟨by kernel_rfl, ?_⟩) E1 ?_
      rotate_left
      · (intro W hS; have d0 : W.cell? ⟨g0, 0, none⟩ = some (.int .i64 q.id) := (by rw [cell_of_row _ _ _ _ _ _ hS.1]; rfl); have d1 : W.cell? ⟨g0, 1, none⟩ = some (.string q.who) := (by rw [cell_of_row _ _ _ _ _ _ hS.1]; rfl); have d2 : W.cell? ⟨g0, 2, none⟩ = some (.int .i64 q.entry) := (by rw [cell_of_row _ _ _ _ _ _ hS.1]; rfl); have d3 : W.cell? ⟨g0, 3, none⟩ = some (.string q.reason) := (by rw [cell_of_row _ _ _ _ _ _ hS.1]; rfl); have d4 : W.cell? ⟨g0, 4, none⟩ = some (.int .i64 q.exp) := (by rw [cell_of_row _ _ _ _ _ _ hS.1]; rfl); have x0 : W.cell? ⟨g1, 0, none⟩ = some (.int .i64 t0) := (by rw [cell_of_row _ _ _ _ _ _ hS.2]; rfl); have x1 : W.cell? ⟨g1, 1, none⟩ = some (.int .i64 t1) := (by rw [cell_of_row _ _ _ _ _ _ hS.2]; rfl); go_simp; try (with_reducible rfl))
      refine wpAnyH_take (i := 5) (v := ?_) rfl (by kernel_rfl) (by kernel_rfl) (by kernel_rfl) (fun _ _ _ h => h) (Or.inl ⟨by kernel_rfl, ?_⟩) E1 ?_
      rotate_left
      · (intro W hS; have d0 : W.cell? ⟨g0, 0, none⟩ = some (.int .i64 q.id) := (by rw [cell_of_row _ _ _ _ _ _ hS.1]; rfl); have d1 : W.cell? ⟨g0, 1, none⟩ = some (.string q.who) := (by rw [cell_of_row _ _ _ _ _ _ hS.1]; rfl); have d2 : W.cell? ⟨g0, 2, none⟩ = some (.int .i64 q.entry) := (by rw [cell_of_row _ _ _ _ _ _ hS.1]; rfl); have d3 : W.cell? ⟨g0, 3, none⟩ = some (.string q.reason) := (by rw [cell_of_row _ _ _ _ _ _ hS.1]; rfl); have d4 : W.cell? ⟨g0, 4, none⟩ = some (.int .i64 q.exp) := (by rw [cell_of_row _ _ _ _ _ _ hS.1]; rfl); have x0 : W.cell? ⟨g1, 0, none⟩ = some (.int .i64 t0) := (by rw [cell_of_row _ _ _ _ _ _ hS.2]; rfl); have x1 : W.cell? ⟨g1, 1, none⟩ = some (.int .i64 t1) := (by rw [cell_of_row _ _ _ _ _ _ hS.2]; rfl); go_simp; try (with_reducible rfl))
      refine wpAnyH_take (i := 6) (v := ?_) rfl (by kernel_rfl) (by kernel_rfl) (by kernel_rfl) (fun _ _ _ h => h) (Or.inl ⟨by kernel_rfl, ?_⟩) E1 ?_
      rotate_left
      · (intro W hS; have d0 : W.cell? ⟨g0, 0, none⟩ = some (.int .i64 q.id) := (by rw [cell_of_row _ _ _ _ _ _ hS.1]; rfl); have d1 : W.cell? ⟨g0, 1, none⟩ = some (.string q.who) := (by rw [cell_of_row _ _ _ _ _ _ hS.1]; rfl); have d2 : W.cell? ⟨g0, 2, none⟩ = some (.int .i64 q.entry) := (by rw [cell_of_row _ _ _ _ _ _ hS.1]; rfl); have d3 : W.cell? ⟨g0, 3, none⟩ = some (.string q.reason) := (by rw [cell_of_row _ _ _ _ _ _ hS.1]; rfl); have d4 : W.cell? ⟨g0, 4, none⟩ = some (.int .i64 q.exp) := (by rw [cell_of_row _ _ _ _ _ _ hS.1]; rfl); have x0 : W.cell? ⟨g1, 0, none⟩ = some (.int .i64 t0) := (by rw [cell_of_row _ _ _ _ _ _ hS.2]; rfl); have x1 : W.cell? ⟨g1, 1, none⟩ = some (.int .i64 t1) := (by rw [cell_of_row _ _ _ _ _ _ hS.2]; rfl); go_simp; try (with_reducible rfl))
      refine wpAnyH_take (i := 7) (v := ?_) rfl (by kernel_rfl) (by kernel_rfl) (by kernel_rfl) (fun _ _ _ h => h) (Or.inl ⟨by kernel_rfl, ?_⟩) E1 ?_
      rotate_left
      · (intro W hS; have d0 : W.cell? ⟨g0, 0, none⟩ = some (.int .i64 q.id) := (by rw [cell_of_row _ _ _ _ _ _ hS.1]; rfl); have d1 : W.cell? ⟨g0, 1, none⟩ = some (.string q.who) := (by rw [cell_of_row _ _ _ _ _ _ hS.1]; rfl); have d2 : W.cell? ⟨g0, 2, none⟩ = some (.int .i64 q.entry) := (by rw [cell_of_row _ _ _ _ _ _ hS.1]; rfl); have d3 : W.cell? ⟨g0, 3, none⟩ = some (.string q.reason) := (by rw [cell_of_row _ _ _ _ _ _ hS.1]; rfl); have d4 : W.cell? ⟨g0, 4, none⟩ = some (.int .i64 q.exp) := (by rw [cell_of_row _ _ _ _ _ _ hS.1]; rfl); have x0 : W.cell? ⟨g1, 0, none⟩ = some (.int .i64 t0) := (by rw [cell_of_row _ _ _ _ _ _ hS.2]; rfl); have x1 : W.cell? ⟨g1, 1, none⟩ = some (.int .i64 t1) := (by rw [cell_of_row _ _ _ _ _ _ hS.2]; rfl); go_simp; try (with_reducible rfl))
      refine wpAnyH_take (i := 9) (v := ?_) rfl (by kernel_rfl) (by kernel_rfl) (by kernel_rfl) (fun _ _ _ h => h) (Or.inl ⟨by kernel_rfl, ?_⟩) E1 ?_
      rotate_left
      · (intro W hS; have d0 : W.cell? ⟨g0, 0, none⟩ = some (.int .i64 q.id) := (by rw [cell_of_row _ _ _ _ _ _ hS.1]; rfl); have d1 : W.cell? ⟨g0, 1, none⟩ = some (.string q.who) := (by rw [cell_of_row _ _ _ _ _ _ hS.1]; rfl); have d2 : W.cell? ⟨g0, 2, none⟩ = some (.int .i64 q.entry) := (by rw [cell_of_row _ _ _ _ _ _ hS.1]; rfl); have d3 : W.cell? ⟨g0, 3, none⟩ = some (.string q.reason) := (by rw [cell_of_row _ _ _ _ _ _ hS.1]; rfl); have d4 : W.cell? ⟨g0, 4, none⟩ = some (.int .i64 q.exp) := (by rw [cell_of_row _ _ _ _ _ _ hS.1]; rfl); have x0 : W.cell? ⟨g1, 0, none⟩ = some (.int .i64 t0) := (by rw [cell_of_row _ _ _ _ _ _ hS.2]; rfl); have x1 : W.cell? ⟨g1, 1, none⟩ = some (.int .i64 t1) := (by rw [cell_of_row _ _ _ _ _ _ hS.2]; rfl); go_simp; try (with_reducible rfl))
      refine wpAnyH_ready (rs := [8]) (by kernel_rfl) (by simp) ?_
      refine AllReadyH.cons (i := 8) rfl (fun K hK => ?_) AllReadyH.nil
      go_simp
      refine (HCD.out v1 F1).mono ?_
      rintro e v2 ⟨rfl, hb⟩
      have F2 := F1.trans (hb.mono F1.size)
      have E2 : (v2.heap[g0]? = some (.cells (qCs q) 24 (0, 0)) ∧ v2.heap[g1]? = some (.cells #[.int .i64 t0, .int .i64 t1] 25 (0, 0))) := ⟨(hb.block _ (pblt_of_heap E1.1)).trans E1.1, (hb.block _ (pblt_of_heap E1.2)).trans E1.2⟩
      refine hK.out _ _ E2 (fun _ => ?_)
      clear hK K hb
      refine wpAnyH_take (i := 10) (v := ?_) rfl (by kernel_rfl) (by kernel_rfl) (by kernel_rfl) (fun _ _ _ h => h) (Or.inl ⟨by kernel_rfl, ?_⟩) E2 ?_
      rotate_left
      · (intro W hS; have d0 : W.cell? ⟨g0, 0, none⟩ = some (.int .i64 q.id) := (by rw [cell_of_row _ _ _ _ _ _ hS.1]; rfl); have d1 : W.cell? ⟨g0, 1, none⟩ = some (.string q.who) := (by rw [cell_of_row _ _ _ _ _ _ hS.1]; rfl); have d2 : W.cell? ⟨g0, 2, none⟩ = some (.int .i64 q.entry) := (by rw [cell_of_row _ _ _ _ _ _ hS.1]; rfl); have d3 : W.cell? ⟨g0, 3, none⟩ = some (.string q.reason) := (by rw [cell_of_row _ _ _ _ _ _ hS.1]; rfl); have d4 : W.cell? ⟨g0, 4, none⟩ = some (.int .i64 q.exp) := (by rw [cell_of_row _ _ _ _ _ _ hS.1]; rfl); have x0 : W.cell? ⟨g1, 0, none⟩ = some (.int .i64 t0) := (by rw [cell_of_row _ _ _ _ _ _ hS.2]; rfl); have x1 : W.cell? ⟨g1, 1, none⟩ = some (.int .i64 t1) := (by rw [cell_of_row _ _ _ _ _ _ hS.2]; rfl); go_simp; try (with_reducible rfl))
      refine wpAnyH_take (i := 11) (v := ?_) rfl (by kernel_rfl) (by kernel_rfl) (by kernel_rfl) (fun _ _ _ h => h) (Or.inl ⟨by kernel_rfl, ?_⟩) E2 ?_
      rotate_left
      · (intro W hS; have d0 : W.cell? ⟨g0, 0, none⟩ = some (.int .i64 q.id) := (by rw [cell_of_row _ _ _ _ _ _ hS.1]; rfl); have d1 : W.cell? ⟨g0, 1, none⟩ = some (.string q.who) := (by rw [cell_of_row _ _ _ _ _ _ hS.1]; rfl); have d2 : W.cell? ⟨g0, 2, none⟩ = some (.int .i64 q.entry) := (by rw [cell_of_row _ _ _ _ _ _ hS.1]; rfl); have d3 : W.cell? ⟨g0, 3, none⟩ = some (.string q.reason) := (by rw [cell_of_row _ _ _ _ _ _ hS.1]; rfl); have d4 : W.cell? ⟨g0, 4, none⟩ = some (.int .i64 q.exp) := (by rw [cell_of_row _ _ _ _ _ _ hS.1]; rfl); have x0 : W.cell? ⟨g1, 0, none⟩ = some (.int .i64 t0) := (by rw [cell_of_row _ _ _ _ _ _ hS.2]; rfl); have x1 : W.cell? ⟨g1, 1, none⟩ = some (.int .i64 t1) := (by rw [cell_of_row _ _ _ _ _ _ hS.2]; rfl); go_simp; try (with_reducible rfl))
      refine wpAnyH_take (i := 12) (v := ?_) rfl (by kernel_rfl) (by kernel_rfl) (by kernel_rfl) (fun _ _ _ h => h) (Or.inl ⟨by kernel_rfl, ?_⟩) E2 ?_
      rotate_left
      · (intro W hS; have d0 : W.cell? ⟨g0, 0, none⟩ = some (.int .i64 q.id) := (by rw [cell_of_row _ _ _ _ _ _ hS.1]; rfl); have d1 : W.cell? ⟨g0, 1, none⟩ = some (.string q.who) := (by rw [cell_of_row _ _ _ _ _ _ hS.1]; rfl); have d2 : W.cell? ⟨g0, 2, none⟩ = some (.int .i64 q.entry) := (by rw [cell_of_row _ _ _ _ _ _ hS.1]; rfl); have d3 : W.cell? ⟨g0, 3, none⟩ = some (.string q.reason) := (by rw [cell_of_row _ _ _ _ _ _ hS.1]; rfl); have d4 : W.cell? ⟨g0, 4, none⟩ = some (.int .i64 q.exp) := (by rw [cell_of_row _ _ _ _ _ _ hS.1]; rfl); have x0 : W.cell? ⟨g1, 0, none⟩ = some (.int .i64 t0) := (by rw [cell_of_row _ _ _ _ _ _ hS.2]; rfl); have x1 : W.cell? ⟨g1, 1, none⟩ = some (.int .i64 t1) := (by rw [cell_of_row _ _ _ _ _ _ hS.2]; rfl); go_simp; try (with_reducible rfl))
      refine wpAnyH_take (i := 13) (v := ?_) rfl (by kernel_rfl) (by kernel_rfl) (by kernel_rfl) (fun _ _ _ h => h) (Or.inl ⟨by kernel_rfl, ?_⟩) E2 ?_
      rotate_left
      · (intro W hS; have d0 : W.cell? ⟨g0, 0, none⟩ = some (.int .i64 q.id) := (by rw [cell_of_row _ _ _ _ _ _ hS.1]; rfl); have d1 : W.cell? ⟨g0, 1, none⟩ = some (.string q.who) := (by rw [cell_of_row _ _ _ _ _ _ hS.1]; rfl); have d2 : W.cell? ⟨g0, 2, none⟩ = some (.int .i64 q.entry) := (by rw [cell_of_row _ _ _ _ _ _ hS.1]; rfl); have d3 : W.cell? ⟨g0, 3, none⟩ = some (.string q.reason) := (by rw [cell_of_row _ _ _ _ _ _ hS.1]; rfl); have d4 : W.cell? ⟨g0, 4, none⟩ = some (.int .i64 q.exp) := (by rw [cell_of_row _ _ _ _ _ _ hS.1]; rfl); have x0 : W.cell? ⟨g1, 0, none⟩ = some (.int .i64 t0) := (by rw [cell_of_row _ _ _ _ _ _ hS.2]; rfl); have x1 : W.cell? ⟨g1, 1, none⟩ = some (.int .i64 t1) := (by rw [cell_of_row _ _ _ _ _ _ hS.2]; rfl); go_simp; try (with_reducible rfl))
      refine wpAnyH_take (i := 14) (v := ?_) rfl (by kernel_rfl) (by kernel_rfl) (by kernel_rfl) (fun _ _ _ h => h) (Or.inl ⟨by kernel_rfl, ?_⟩) E2 ?_
      rotate_left
      · (intro W hS; have d0 : W.cell? ⟨g0, 0, none⟩ = some (.int .i64 q.id) := (by rw [cell_of_row _ _ _ _ _ _ hS.1]; rfl); have d1 : W.cell? ⟨g0, 1, none⟩ = some (.string q.who) := (by rw [cell_of_row _ _ _ _ _ _ hS.1]; rfl); have d2 : W.cell? ⟨g0, 2, none⟩ = some (.int .i64 q.entry) := (by rw [cell_of_row _ _ _ _ _ _ hS.1]; rfl); have d3 : W.cell? ⟨g0, 3, none⟩ = some (.string q.reason) := (by rw [cell_of_row _ _ _ _ _ _ hS.1]; rfl); have d4 : W.cell? ⟨g0, 4, none⟩ = some (.int .i64 q.exp) := (by rw [cell_of_row _ _ _ _ _ _ hS.1]; rfl); have x0 : W.cell? ⟨g1, 0, none⟩ = some (.int .i64 t0) := (by rw [cell_of_row _ _ _ _ _ _ hS.2]; rfl); have x1 : W.cell? ⟨g1, 1, none⟩ = some (.int .i64 t1) := (by rw [cell_of_row _ _ _ _ _ _ hS.2]; rfl); go_simp; try (with_reducible rfl))
      refine wpAnyH_take (i := 15) (v := ?_) rfl (by kernel_rfl) (by kernel_rfl) (by kernel_rfl) (fun _ _ _ h => h) (Or.inl ⟨by kernel_rfl, ?_⟩) E2 ?_
      rotate_left
      · (intro W hS; have d0 : W.cell? ⟨g0, 0, none⟩ = some (.int .i64 q.id) := (by rw [cell_of_row _ _ _ _ _ _ hS.1]; rfl); have d1 : W.cell? ⟨g0, 1, none⟩ = some (.string q.who) := (by rw [cell_of_row _ _ _ _ _ _ hS.1]; rfl); have d2 : W.cell? ⟨g0, 2, none⟩ = some (.int .i64 q.entry) := (by rw [cell_of_row _ _ _ _ _ _ hS.1]; rfl); have d3 : W.cell? ⟨g0, 3, none⟩ = some (.string q.reason) := (by rw [cell_of_row _ _ _ _ _ _ hS.1]; rfl); have d4 : W.cell? ⟨g0, 4, none⟩ = some (.int .i64 q.exp) := (by rw [cell_of_row _ _ _ _ _ _ hS.1]; rfl); have x0 : W.cell? ⟨g1, 0, none⟩ = some (.int .i64 t0) := (by rw [cell_of_row _ _ _ _ _ _ hS.2]; rfl); have x1 : W.cell? ⟨g1, 1, none⟩ = some (.int .i64 t1) := (by rw [cell_of_row _ _ _ _ _ _ hS.2]; rfl); go_simp; try (with_reducible rfl))
      refine wpAnyH_take (i := 16) (v := ?_) rfl (by kernel_rfl) (by kernel_rfl) (by kernel_rfl) (fun _ _ _ h => h) (Or.inl ⟨by kernel_rfl, ?_⟩) E2 ?_
      rotate_left
      · (intro W hS; have d0 : W.cell? ⟨g0, 0, none⟩ = some (.int .i64 q.id) := (by rw [cell_of_row _ _ _ _ _ _ hS.1]; rfl); have d1 : W.cell? ⟨g0, 1, none⟩ = some (.string q.who) := (by rw [cell_of_row _ _ _ _ _ _ hS.1]; rfl); have d2 : W.cell? ⟨g0, 2, none⟩ = some (.int .i64 q.entry) := (by rw [cell_of_row _ _ _ _ _ _ hS.1]; rfl); have d3 : W.cell? ⟨g0, 3, none⟩ = some (.string q.reason) := (by rw [cell_of_row _ _ _ _ _ _ hS.1]; rfl); have d4 : W.cell? ⟨g0, 4, none⟩ = some (.int .i64 q.exp) := (by rw [cell_of_row _ _ _ _ _ _ hS.1]; rfl); have x0 : W.cell? ⟨g1, 0, none⟩ = some (.int .i64 t0) := (by rw [cell_of_row _ _ _ _ _ _ hS.2]; rfl); have x1 : W.cell? ⟨g1, 1, none⟩ = some (.int .i64 t1) := (by rw [cell_of_row _ _ _ _ _ _ hS.2]; rfl); go_simp; try (with_reducible rfl))
      refine wpAnyH_take (i := 17) (v := ?_) rfl (by kernel_rfl) (by kernel_rfl) (by kernel_rfl) (fun _ _ _ h => h) (Or.inl ⟨by kernel_rfl, ?_⟩) E2 ?_
      rotate_left
      · (intro W hS; have d0 : W.cell? ⟨g0, 0, none⟩ = some (.int .i64 q.id) := (by rw [cell_of_row _ _ _ _ _ _ hS.1]; rfl); have d1 : W.cell? ⟨g0, 1, none⟩ = some (.string q.who) := (by rw [cell_of_row _ _ _ _ _ _ hS.1]; rfl); have d2 : W.cell? ⟨g0, 2, none⟩ = some (.int .i64 q.entry) := (by rw [cell_of_row _ _ _ _ _ _ hS.1]; rfl); have d3 : W.cell? ⟨g0, 3, none⟩ = some (.string q.reason) := (by rw [cell_of_row _ _ _ _ _ _ hS.1]; rfl); have d4 : W.cell? ⟨g0, 4, none⟩ = some (.int .i64 q.exp) := (by rw [cell_of_row _ _ _ _ _ _ hS.1]; rfl); have x0 : W.cell? ⟨g1, 0, none⟩ = some (.int .i64 t0) := (by rw [cell_of_row _ _ _ _ _ _ hS.2]; rfl); have x1 : W.cell? ⟨g1, 1, none⟩ = some (.int .i64 t1) := (by rw [cell_of_row _ _ _ _ _ _ hS.2]; rfl); go_simp; try (with_reducible rfl))
      refine wpAnyH_take (i := 18) (v := ?_) rfl (by kernel_rfl) (by kernel_rfl) (by kernel_rfl) (fun _ _ _ h => h) (Or.inl ⟨by kernel_rfl, ?_⟩) E2 ?_
      rotate_left
      · (intro W hS; have d0 : W.cell? ⟨g0, 0, none⟩ = some (.int .i64 q.id) := (by rw [cell_of_row _ _ _ _ _ _ hS.1]; rfl); have d1 : W.cell? ⟨g0, 1, none⟩ = some (.string q.who) := (by rw [cell_of_row _ _ _ _ _ _ hS.1]; rfl); have d2 : W.cell? ⟨g0, 2, none⟩ = some (.int .i64 q.entry) := (by rw [cell_of_row _ _ _ _ _ _ hS.1]; rfl); have d3 : W.cell? ⟨g0, 3, none⟩ = some (.string q.reason) := (by rw [cell_of_row _ _ _ _ _ _ hS.1]; rfl); have d4 : W.cell? ⟨g0, 4, none⟩ = some (.int .i64 q.exp) := (by rw [cell_of_row _ _ _ _ _ _ hS.1]; rfl); have x0 : W.cell? ⟨g1, 0, none⟩ = some (.int .i64 t0) := (by rw [cell_of_row _ _ _ _ _ _ hS.2]; rfl); have x1 : W.cell? ⟨g1, 1, none⟩ = some (.int .i64 t1) := (by rw [cell_of_row _ _ _ _ _ _ hS.2]; rfl); go_simp; try (with_reducible rfl))
      refine wpAnyH_take (i := 19) (v := ?_) rfl (by kernel_rfl) (by kernel_rfl) (by kernel_rfl) (fun _ _ _ h => h) (Or.inl ⟨by kernel_rfl, ?_⟩) E2 ?_
      rotate_left
      · (intro W hS; have d0 : W.cell? ⟨g0, 0, none⟩ = some (.int .i64 q.id) := (by rw [cell_of_row _ _ _ _ _ _ hS.1]; rfl); have d1 : W.cell? ⟨g0, 1, none⟩ = some (.string q.who) := (by rw [cell_of_row _ _ _ _ _ _ hS.1]; rfl); have d2 : W.cell? ⟨g0, 2, none⟩ = some (.int .i64 q.entry) := (by rw [cell_of_row _ _ _ _ _ _ hS.1]; rfl); have d3 : W.cell? ⟨g0, 3, none⟩ = some (.string q.reason) := (by rw [cell_of_row _ _ _ _ _ _ hS.1]; rfl); have d4 : W.cell? ⟨g0, 4, none⟩ = some (.int .i64 q.exp) := (by rw [cell_of_row _ _ _ _ _ _ hS.1]; rfl); have x0 : W.cell? ⟨g1, 0, none⟩ = some (.int .i64 t0) := (by rw [cell_of_row _ _ _ _ _ _ hS.2]; rfl); have x1 : W.cell? ⟨g1, 1, none⟩ = some (.int .i64 t1) := (by rw [cell_of_row _ _ _ _ _ _ hS.2]; rfl); go_simp; try (with_reducible rfl))
      refine wpAnyH_take (i := 20) (v := ?_) rfl (by kernel_rfl) (by kernel_rfl) (by kernel_rfl) (fun _ _ _ h => h) (Or.inl ⟨by kernel_rfl, ?_⟩) E2 ?_
      rotate_left
      · (intro W hS; have d0 : W.cell? ⟨g0, 0, none⟩ = some (.int .i64 q.id) := (by rw [cell_of_row _ _ _ _ _ _ hS.1]; rfl); have d1 : W.cell? ⟨g0, 1, none⟩ = some (.string q.who) := (by rw [cell_of_row _ _ _ _ _ _ hS.1]; rfl); have d2 : W.cell? ⟨g0, 2, none⟩ = some (.int .i64 q.entry) := (by rw [cell_of_row _ _ _ _ _ _ hS.1]; rfl); have d3 : W.cell? ⟨g0, 3, none⟩ = some (.string q.reason) := (by rw [cell_of_row _ _ _ _ _ _ hS.1]; rfl); have d4 : W.cell? ⟨g0, 4, none⟩ = some (.int .i64 q.exp) := (by rw [cell_of_row _ _ _ _ _ _ hS.1]; rfl); have x0 : W.cell? ⟨g1, 0, none⟩ = some (.int .i64 t0) := (by rw [cell_of_row _ _ _ _ _ _ hS.2]; rfl); have x1 : W.cell? ⟨g1, 1, none⟩ = some (.int .i64 t1) := (by rw [cell_of_row _ _ _ _ _ _ hS.2]; rfl); go_simp; try (with_reducible rfl))
      refine wpAnyH_take (i := 22) (v := ?_) rfl (by kernel_rfl) (by kernel_rfl) (by kernel_rfl) (fun _ _ _ h => h) (Or.inl ⟨by kernel_rfl, ?_⟩) E2 ?_
      rotate_left
      · (intro W hS; have d0 : W.cell? ⟨g0, 0, none⟩ = some (.int .i64 q.id) := (by rw [cell_of_row _ _ _ _ _ _ hS.1]; rfl); have d1 : W.cell? ⟨g0, 1, none⟩ = some (.string q.who) := (by rw [cell_of_row _ _ _ _ _ _ hS.1]; rfl); have d2 : W.cell? ⟨g0, 2, none⟩ = some (.int .i64 q.entry) := (by rw [cell_of_row _ _ _ _ _ _ hS.1]; rfl); have d3 : W.cell? ⟨g0, 3, none⟩ = some (.string q.reason) := (by rw [cell_of_row _ _ _ _ _ _ hS.1]; rfl); have d4 : W.cell? ⟨g0, 4, none⟩ = some (.int .i64 q.exp) := (by rw [cell_of_row _ _ _ _ _ _ hS.1]; rfl); have x0 : W.cell? ⟨g1, 0, none⟩ = some (.int .i64 t0) := (by rw [cell_of_row _ _ _ _ _ _ hS.2]; rfl); have x1 : W.cell? ⟨g1, 1, none⟩ = some (.int .i64 t1) := (by rw [cell_of_row _ _ _ _ _ _ hS.2]; rfl); go_simp; try (with_reducible rfl))
      refine wpAnyH_ready (rs := [21]) (by kernel_rfl) (by simp) ?_
      refine AllReadyH.cons (i := 21) rfl (fun K hK => ?_) AllReadyH.nil
      go_simp
      refine (HQ.out.2.2.2.2.1 v2).mono ?_
      rintro e v3 ⟨rfl, hb⟩
      have F3 := F2.trans (hb.mono F2.size)
      have E3 : (v3.heap[g0]? = some (.cells (qCs q) 24 (0, 0)) ∧ v3.heap[g1]? = some (.cells #[.int .i64 t0, .int .i64 t1] 25 (0, 0))) := ⟨(hb.block _ (pblt_of_heap E2.1)).trans E2.1, (hb.block _ (pblt_of_heap E2.2)).trans E2.2⟩
      refine hK.out _ _ E3 (fun _ => ?_)
      clear hK K hb
      refine wpAnyH_ready (rs := [23]) (by kernel_rfl) (by simp) ?_
      refine AllReadyH.cons (i := 23) rfl (fun K hK => ?_) AllReadyH.nil
      go_simp
      refine (HQ.out.2.2.2.1 v3).mono ?_
      rintro e v4 ⟨rfl, hb⟩
      have F4 := F3.trans (hb.mono F3.size)
      have E4 : (v4.heap[g0]? = some (.cells (qCs q) 24 (0, 0)) ∧ v4.heap[g1]? = some (.cells #[.int .i64 t0, .int .i64 t1] 25 (0, 0))) := ⟨(hb.block _ (pblt_of_heap E3.1)).trans E3.1, (hb.block _ (pblt_of_heap E3.2)).trans E3.2⟩
      refine hK.out _ _ E4 (fun _ => ?_)
      clear hK K hb
      refine wpAnyH_ready (rs := [24]) (by kernel_rfl) (by simp) ?_
      refine AllReadyH.cons (i := 24) rfl (fun K hK => ?_) AllReadyH.nil
      go_simp
      refine (HQ.out.2.2.2.2.2.1 v4).mono ?_
      rintro e v5 ⟨rfl, hb⟩
      have F5 := F4.trans (hb.mono F4.size)
      have E5 : (v5.heap[g0]? = some (.cells (qCs q) 24 (0, 0)) ∧ v5.heap[g1]? = some (.cells #[.int .i64 t0, .int .i64 t1] 25 (0, 0))) := ⟨(hb.block _ (pblt_of_heap E4.1)).trans E4.1, (hb.block _ (pblt_of_heap E4.2)).trans E4.2⟩
      refine hK.out _ _ E5 (fun _ => ?_)
      clear hK K hb
      refine wpAnyH_take (i := 25) (v := ?_) rfl (by kernel_rfl) (by kernel_rfl) (by kernel_rfl) (fun _ _ _ h => h) (Or.inl ⟨by kernel_rfl, ?_⟩) E5 ?_
      rotate_left
      · (intro W hS; have d0 : W.cell? ⟨g0, 0, none⟩ = some (.int .i64 q.id) := (by rw [cell_of_row _ _ _ _ _ _ hS.1]; rfl); have d1 : W.cell? ⟨g0, 1, none⟩ = some (.string q.who) := (by rw [cell_of_row _ _ _ _ _ _ hS.1]; rfl); have d2 : W.cell? ⟨g0, 2, none⟩ = some (.int .i64 q.entry) := (by rw [cell_of_row _ _ _ _ _ _ hS.1]; rfl); have d3 : W.cell? ⟨g0, 3, none⟩ = some (.string q.reason) := (by rw [cell_of_row _ _ _ _ _ _ hS.1]; rfl); have d4 : W.cell? ⟨g0, 4, none⟩ = some (.int .i64 q.exp) := (by rw [cell_of_row _ _ _ _ _ _ hS.1]; rfl); have x0 : W.cell? ⟨g1, 0, none⟩ = some (.int .i64 t0) := (by rw [cell_of_row _ _ _ _ _ _ hS.2]; rfl); have x1 : W.cell? ⟨g1, 1, none⟩ = some (.int .i64 t1) := (by rw [cell_of_row _ _ _ _ _ _ hS.2]; rfl); go_simp; try (with_reducible rfl))
      refine wpAnyH_take (i := 26) (v := ?_) rfl (by kernel_rfl) (by kernel_rfl) (by kernel_rfl) (fun _ _ _ h => h) (Or.inl ⟨by kernel_rfl, ?_⟩) E5 ?_
      rotate_left
      · (intro W hS; have d0 : W.cell? ⟨g0, 0, none⟩ = some (.int .i64 q.id) := (by rw [cell_of_row _ _ _ _ _ _ hS.1]; rfl); have d1 : W.cell? ⟨g0, 1, none⟩ = some (.string q.who) := (by rw [cell_of_row _ _ _ _ _ _ hS.1]; rfl); have d2 : W.cell? ⟨g0, 2, none⟩ = some (.int .i64 q.entry) := (by rw [cell_of_row _ _ _ _ _ _ hS.1]; rfl); have d3 : W.cell? ⟨g0, 3, none⟩ = some (.string q.reason) := (by rw [cell_of_row _ _ _ _ _ _ hS.1]; rfl); have d4 : W.cell? ⟨g0, 4, none⟩ = some (.int .i64 q.exp) := (by rw [cell_of_row _ _ _ _ _ _ hS.1]; rfl); have x0 : W.cell? ⟨g1, 0, none⟩ = some (.int .i64 t0) := (by rw [cell_of_row _ _ _ _ _ _ hS.2]; rfl); have x1 : W.cell? ⟨g1, 1, none⟩ = some (.int .i64 t1) := (by rw [cell_of_row _ _ _ _ _ _ hS.2]; rfl); go_simp; try (with_reducible rfl))
      refine wpAnyH_take (i := 27) (v := ?_) rfl (by kernel_rfl) (by kernel_rfl) (by kernel_rfl) (fun _ _ _ h => h) (Or.inl ⟨by kernel_rfl, ?_⟩) E5 ?_
      rotate_left
      · (intro W hS; have d0 : W.cell? ⟨g0, 0, none⟩ = some (.int .i64 q.id) := (by rw [cell_of_row _ _ _ _ _ _ hS.1]; rfl); have d1 : W.cell? ⟨g0, 1, none⟩ = some (.string q.who) := (by rw [cell_of_row _ _ _ _ _ _ hS.1]; rfl); have d2 : W.cell? ⟨g0, 2, none⟩ = some (.int .i64 q.entry) := (by rw [cell_of_row _ _ _ _ _ _ hS.1]; rfl); have d3 : W.cell? ⟨g0, 3, none⟩ = some (.string q.reason) := (by rw [cell_of_row _ _ _ _ _ _ hS.1]; rfl); have d4 : W.cell? ⟨g0, 4, none⟩ = some (.int .i64 q.exp) := (by rw [cell_of_row _ _ _ _ _ _ hS.1]; rfl); have x0 : W.cell? ⟨g1, 0, none⟩ = some (.int .i64 t0) := (by rw [cell_of_row _ _ _ _ _ _ hS.2]; rfl); have x1 : W.cell? ⟨g1, 1, none⟩ = some (.int .i64 t1) := (by rw [cell_of_row _ _ _ _ _ _ hS.2]; rfl); go_simp; try (with_reducible rfl))
      refine wpAnyH_take (i := 28) (v := ?_) rfl (by kernel_rfl) (by kernel_rfl) (by kernel_rfl) (fun _ _ _ h => h) (Or.inl ⟨by kernel_rfl, ?_⟩) E5 ?_
      rotate_left
      · (intro W hS; have d0 : W.cell? ⟨g0, 0, none⟩ = some (.int .i64 q.id) := (by rw [cell_of_row _ _ _ _ _ _ hS.1]; rfl); have d1 : W.cell? ⟨g0, 1, none⟩ = some (.string q.who) := (by rw [cell_of_row _ _ _ _ _ _ hS.1]; rfl); have d2 : W.cell? ⟨g0, 2, none⟩ = some (.int .i64 q.entry) := (by rw [cell_of_row _ _ _ _ _ _ hS.1]; rfl); have d3 : W.cell? ⟨g0, 3, none⟩ = some (.string q.reason) := (by rw [cell_of_row _ _ _ _ _ _ hS.1]; rfl); have d4 : W.cell? ⟨g0, 4, none⟩ = some (.int .i64 q.exp) := (by rw [cell_of_row _ _ _ _ _ _ hS.1]; rfl); have x0 : W.cell? ⟨g1, 0, none⟩ = some (.int .i64 t0) := (by rw [cell_of_row _ _ _ _ _ _ hS.2]; rfl); have x1 : W.cell? ⟨g1, 1, none⟩ = some (.int .i64 t1) := (by rw [cell_of_row _ _ _ _ _ _ hS.2]; rfl); go_simp; try (with_reducible rfl))
      refine wpAnyH_take (i := 30) (v := ?_) rfl (by kernel_rfl) (by kernel_rfl) (by kernel_rfl) (fun _ _ _ h => h) (Or.inl ⟨by kernel_rfl, ?_⟩) E5 ?_
      rotate_left
      · (intro W hS; have d0 : W.cell? ⟨g0, 0, none⟩ = some (.int .i64 q.id) := (by rw [cell_of_row _ _ _ _ _ _ hS.1]; rfl); have d1 : W.cell? ⟨g0, 1, none⟩ = some (.string q.who) := (by rw [cell_of_row _ _ _ _ _ _ hS.1]; rfl); have d2 : W.cell? ⟨g0, 2, none⟩ = some (.int .i64 q.entry) := (by rw [cell_of_row _ _ _ _ _ _ hS.1]; rfl); have d3 : W.cell? ⟨g0, 3, none⟩ = some (.string q.reason) := (by rw [cell_of_row _ _ _ _ _ _ hS.1]; rfl); have d4 : W.cell? ⟨g0, 4, none⟩ = some (.int .i64 q.exp) := (by rw [cell_of_row _ _ _ _ _ _ hS.1]; rfl); have x0 : W.cell? ⟨g1, 0, none⟩ = some (.int .i64 t0) := (by rw [cell_of_row _ _ _ _ _ _ hS.2]; rfl); have x1 : W.cell? ⟨g1, 1, none⟩ = some (.int .i64 t1) := (by rw [cell_of_row _ _ _ _ _ _ hS.2]; rfl); go_simp; try (with_reducible rfl))
      refine wpAnyH_ready (rs := [29]) (by kernel_rfl) (by simp) ?_
      refine AllReadyH.cons (i := 29) rfl (fun K hK => ?_) AllReadyH.nil
      go_simp
      refine (HQ.out.2.2.2.2.2.2.1 v5 (HE.out.1.trans (F5.mono HE.out.1.size))).mono ?_
      rintro e v6 ⟨rfl, hb⟩
      have F6 := F5.trans (hb.mono F5.size)
      have E6 : (v6.heap[g0]? = some (.cells (qCs q) 24 (0, 0)) ∧ v6.heap[g1]? = some (.cells #[.int .i64 t0, .int .i64 t1] 25 (0, 0))) := ⟨(hb.block _ (pblt_of_heap E5.1)).trans E5.1, (hb.block _ (pblt_of_heap E5.2)).trans E5.2⟩
      refine hK.out _ _ E6 (fun _ => ?_)
      clear hK K hb
      refine wpAnyH_ready (rs := [31]) (by kernel_rfl) (by simp) ?_
      refine AllReadyH.cons (i := 31) rfl (fun K hK => ?_) AllReadyH.nil
      go_simp
      refine (HQ.out.2.2.1 v6 (HE.out.1.trans (F6.mono HE.out.1.size))).mono ?_
      rintro e v7 ⟨ad2, cp2, rfl, hR, hb⟩
      have F7 := F6.trans (hb.mono F6.size)
      have E7 : (v7.heap[g0]? = some (.cells (qCs q) 24 (0, 0)) ∧ v7.heap[g1]? = some (.cells #[.int .i64 t0, .int .i64 t1] 25 (0, 0))) := ⟨(hb.block _ (pblt_of_heap E6.1)).trans E6.1, (hb.block _ (pblt_of_heap E6.2)).trans E6.2⟩
      refine hK.out _ _ E7 (fun _ => ?_)
      clear hK K hb
      refine wpAnyH_ready (rs := [32]) (by kernel_rfl) (by simp) ?_
      refine AllReadyH.cons (i := 32) rfl (fun K hK => ?_) AllReadyH.nil
      go_simp
      refine (HQ.out.2.2.2.2.2.2.2.1 v7 ad2 cp2 hR).mono ?_
      rintro e v8 ⟨rfl, hb⟩
      have F8 := F7.trans (hb.mono F7.size)
      have E8 : (v8.heap[g0]? = some (.cells (qCs q) 24 (0, 0)) ∧ v8.heap[g1]? = some (.cells #[.int .i64 t0, .int .i64 t1] 25 (0, 0))) := ⟨(hb.block _ (pblt_of_heap E7.1)).trans E7.1, (hb.block _ (pblt_of_heap E7.2)).trans E7.2⟩
      clear hR
      refine hK.out _ _ E8 (fun _ => ?_)
      clear hK K hb
      refine wpAnyH_take (i := 33) (v := ?_) rfl (by kernel_rfl) (by kernel_rfl) (by kernel_rfl) (fun _ _ _ h => h) (Or.inl ⟨by kernel_rfl, ?_⟩) E8 ?_
      rotate_left
      · (intro W hS; have d0 : W.cell? ⟨g0, 0, none⟩ = some (.int .i64 q.id) := (by rw [cell_of_row _ _ _ _ _ _ hS.1]; rfl); have d1 : W.cell? ⟨g0, 1, none⟩ = some (.string q.who) := (by rw [cell_of_row _ _ _ _ _ _ hS.1]; rfl); have d2 : W.cell? ⟨g0, 2, none⟩ = some (.int .i64 q.entry) := (by rw [cell_of_row _ _ _ _ _ _ hS.1]; rfl); have d3 : W.cell? ⟨g0, 3, none⟩ = some (.string q.reason) := (by rw [cell_of_row _ _ _ _ _ _ hS.1]; rfl); have d4 : W.cell? ⟨g0, 4, none⟩ = some (.int .i64 q.exp) := (by rw [cell_of_row _ _ _ _ _ _ hS.1]; rfl); have x0 : W.cell? ⟨g1, 0, none⟩ = some (.int .i64 t0) := (by rw [cell_of_row _ _ _ _ _ _ hS.2]; rfl); have x1 : W.cell? ⟨g1, 1, none⟩ = some (.int .i64 t1) := (by rw [cell_of_row _ _ _ _ _ _ hS.2]; rfl); go_simp; try (with_reducible rfl))
      refine wpAnyH_take (i := 34) (v := ?_) rfl (by kernel_rfl) (by kernel_rfl) (by kernel_rfl) (fun _ _ _ h => h) (Or.inl ⟨by kernel_rfl, ?_⟩) E8 ?_
      rotate_left
      · (intro W hS; have d0 : W.cell? ⟨g0, 0, none⟩ = some (.int .i64 q.id) := (by rw [cell_of_row _ _ _ _ _ _ hS.1]; rfl); have d1 : W.cell? ⟨g0, 1, none⟩ = some (.string q.who) := (by rw [cell_of_row _ _ _ _ _ _ hS.1]; rfl); have d2 : W.cell? ⟨g0, 2, none⟩ = some (.int .i64 q.entry) := (by rw [cell_of_row _ _ _ _ _ _ hS.1]; rfl); have d3 : W.cell? ⟨g0, 3, none⟩ = some (.string q.reason) := (by rw [cell_of_row _ _ _ _ _ _ hS.1]; rfl); have d4 : W.cell? ⟨g0, 4, none⟩ = some (.int .i64 q.exp) := (by rw [cell_of_row _ _ _ _ _ _ hS.1]; rfl); have x0 : W.cell? ⟨g1, 0, none⟩ = some (.int .i64 t0) := (by rw [cell_of_row _ _ _ _ _ _ hS.2]; rfl); have x1 : W.cell? ⟨g1, 1, none⟩ = some (.int .i64 t1) := (by rw [cell_of_row _ _ _ _ _ _ hS.2]; rfl); go_simp; try (with_reducible rfl))
      refine wpAnyH_take (i := 35) (v := ?_) rfl (by kernel_rfl) (by kernel_rfl) (by kernel_rfl) (fun _ _ _ h => h) (Or.inl ⟨by kernel_rfl, ?_⟩) E8 ?_
      rotate_left
      · (intro W hS; have d0 : W.cell? ⟨g0, 0, none⟩ = some (.int .i64 q.id) := (by rw [cell_of_row _ _ _ _ _ _ hS.1]; rfl); have d1 : W.cell? ⟨g0, 1, none⟩ = some (.string q.who) := (by rw [cell_of_row _ _ _ _ _ _ hS.1]; rfl); have d2 : W.cell? ⟨g0, 2, none⟩ = some (.int .i64 q.entry) := (by rw [cell_of_row _ _ _ _ _ _ hS.1]; rfl); have d3 : W.cell? ⟨g0, 3, none⟩ = some (.string q.reason) := (by rw [cell_of_row _ _ _ _ _ _ hS.1]; rfl); have d4 : W.cell? ⟨g0, 4, none⟩ = some (.int .i64 q.exp) := (by rw [cell_of_row _ _ _ _ _ _ hS.1]; rfl); have x0 : W.cell? ⟨g1, 0, none⟩ = some (.int .i64 t0) := (by rw [cell_of_row _ _ _ _ _ _ hS.2]; rfl); have x1 : W.cell? ⟨g1, 1, none⟩ = some (.int .i64 t1) := (by rw [cell_of_row _ _ _ _ _ _ hS.2]; rfl); go_simp; try (with_reducible rfl))
      refine wpAnyH_done (by kernel_rfl) ?_ _
      go_simp
      have HZ := Lib.hid F8
      clear F0 F8 E0 E1 E2 E3 E4 E5 E6 E7 E8
      go_wp2_with fail
      go_ret
      exact ⟨rfl, H.out.2.1 _ (HE.out.1.trans (HZ.out.mono HE.out.1.size))⟩
    · have gD : (D == 0) = false := by simpa using hD0
      clear hD0
      go_upto_region 5 with fail
      refine wp_region_held (S := fun W : World => (W.heap[g0]? = some (.cells (qCs q) 24 (0, 0)) ∧ W.heap[g1]? = some (.cells #[.int .i64 t0, .int .i64 t1] 25 (0, 0)))) (by kernel_rfl) ?_
      change wpAnyH _ _ _ _ _ _ _ _ (World.drew _)
      generalize hv0 : World.drew _ = v0
      have E0 : (v0.heap[g0]? = some (.cells (qCs q) 24 (0, 0)) ∧ v0.heap[g1]? = some (.cells #[.int .i64 t0, .int .i64 t1] 25 (0, 0))) := by rw [← hv0]; exact HE.out.2.1
      have F0 : Below w5.heap.size w5 v0 := by rw [← hv0]; exact ((Below.refl _ _).drew)
      clear hv0
      refine wpAnyH_ready (rs := [0]) (by kernel_rfl) (by simp) ?_
      refine AllReadyH.cons (i := 0) rfl (fun K hK => ?_) AllReadyH.nil
      go_simp
      refine (awake20_any v0).mono ?_
      rintro e v1 ⟨rfl, hb⟩
      have F1 := F0.trans (hb.mono F0.size)
      have E1 : (v1.heap[g0]? = some (.cells (qCs q) 24 (0, 0)) ∧ v1.heap[g1]? = some (.cells #[.int .i64 t0, .int .i64 t1] 25 (0, 0))) := ⟨(hb.block _ (pblt_of_heap E0.1)).trans E0.1, (hb.block _ (pblt_of_heap E0.2)).trans E0.2⟩
      refine hK.out _ _ E1 (fun _ => ?_)
      clear hK K hb
      refine wpAnyH_take (i := 1) (v := ?_) rfl (by kernel_rfl) (by kernel_rfl) (by kernel_rfl) (fun _ _ _ h => h) (Or.inl ⟨by kernel_rfl, ?_⟩) E1 ?_
      rotate_left
      · (intro W hS; have d0 : W.cell? ⟨g0, 0, none⟩ = some (.int .i64 q.id) := (by rw [cell_of_row _ _ _ _ _ _ hS.1]; rfl); have d1 : W.cell? ⟨g0, 1, none⟩ = some (.string q.who) := (by rw [cell_of_row _ _ _ _ _ _ hS.1]; rfl); have d2 : W.cell? ⟨g0, 2, none⟩ = some (.int .i64 q.entry) := (by rw [cell_of_row _ _ _ _ _ _ hS.1]; rfl); have d3 : W.cell? ⟨g0, 3, none⟩ = some (.string q.reason) := (by rw [cell_of_row _ _ _ _ _ _ hS.1]; rfl); have d4 : W.cell? ⟨g0, 4, none⟩ = some (.int .i64 q.exp) := (by rw [cell_of_row _ _ _ _ _ _ hS.1]; rfl); have x0 : W.cell? ⟨g1, 0, none⟩ = some (.int .i64 t0) := (by rw [cell_of_row _ _ _ _ _ _ hS.2]; rfl); have x1 : W.cell? ⟨g1, 1, none⟩ = some (.int .i64 t1) := (by rw [cell_of_row _ _ _ _ _ _ hS.2]; rfl); go_simp; try (with_reducible rfl))
      refine wpAnyH_take (i := 2) (v := ?_) rfl (by kernel_rfl) (by kernel_rfl) (by kernel_rfl) (fun _ _ _ h => h) (Or.inl ⟨by kernel_rfl, ?_⟩) E1 ?_
      rotate_left
      · (intro W hS; have d0 : W.cell? ⟨g0, 0, none⟩ = some (.int .i64 q.id) := (by rw [cell_of_row _ _ _ _ _ _ hS.1]; rfl); have d1 : W.cell? ⟨g0, 1, none⟩ = some (.string q.who) := (by rw [cell_of_row _ _ _ _ _ _ hS.1]; rfl); have d2 : W.cell? ⟨g0, 2, none⟩ = some (.int .i64 q.entry) := (by rw [cell_of_row _ _ _ _ _ _ hS.1]; rfl); have d3 : W.cell? ⟨g0, 3, none⟩ = some (.string q.reason) := (by rw [cell_of_row _ _ _ _ _ _ hS.1]; rfl); have d4 : W.cell? ⟨g0, 4, none⟩ = some (.int .i64 q.exp) := (by rw [cell_of_row _ _ _ _ _ _ hS.1]; rfl); have x0 : W.cell? ⟨g1, 0, none⟩ = some (.int .i64 t0) := (by rw [cell_of_row _ _ _ _ _ _ hS.2]; rfl); have x1 : W.cell? ⟨g1, 1, none⟩ = some (.int .i64 t1) := (by rw [cell_of_row _ _ _ _ _ _ hS.2]; rfl); go_simp; try (with_reducible rfl))
      refine wpAnyH_take (i := 3) (v := ?_) rfl (by kernel_rfl) (by kernel_rfl) (by kernel_rfl) (fun _ _ _ h => h) (Or.inl ⟨by kernel_rfl, ?_⟩) E1 ?_
      rotate_left
      · (intro W hS; have d0 : W.cell? ⟨g0, 0, none⟩ = some (.int .i64 q.id) := (by rw [cell_of_row _ _ _ _ _ _ hS.1]; rfl); have d1 : W.cell? ⟨g0, 1, none⟩ = some (.string q.who) := (by rw [cell_of_row _ _ _ _ _ _ hS.1]; rfl); have d2 : W.cell? ⟨g0, 2, none⟩ = some (.int .i64 q.entry) := (by rw [cell_of_row _ _ _ _ _ _ hS.1]; rfl); have d3 : W.cell? ⟨g0, 3, none⟩ = some (.string q.reason) := (by rw [cell_of_row _ _ _ _ _ _ hS.1]; rfl); have d4 : W.cell? ⟨g0, 4, none⟩ = some (.int .i64 q.exp) := (by rw [cell_of_row _ _ _ _ _ _ hS.1]; rfl); have x0 : W.cell? ⟨g1, 0, none⟩ = some (.int .i64 t0) := (by rw [cell_of_row _ _ _ _ _ _ hS.2]; rfl); have x1 : W.cell? ⟨g1, 1, none⟩ = some (.int .i64 t1) := (by rw [cell_of_row _ _ _ _ _ _ hS.2]; rfl); go_simp; try (with_reducible rfl))
      refine wpAnyH_take (i := 4) (v := ?_) rfl (by kernel_rfl) (by kernel_rfl) (by kernel_rfl) (fun _ _ _ h => h) (Or.inl ⟨by kernel_rfl, ?_⟩) E1 ?_
      rotate_left
      · (intro W hS; have d0 : W.cell? ⟨g0, 0, none⟩ = some (.int .i64 q.id) := (by rw [cell_of_row _ _ _ _ _ _ hS.1]; rfl); have d1 : W.cell? ⟨g0, 1, none⟩ = some (.string q.who) := (by rw [cell_of_row _ _ _ _ _ _ hS.1]; rfl); have d2 : W.cell? ⟨g0, 2, none⟩ = some (.int .i64 q.entry) := (by rw [cell_of_row _ _ _ _ _ _ hS.1]; rfl); have d3 : W.cell? ⟨g0, 3, none⟩ = some (.string q.reason) := (by rw [cell_of_row _ _ _ _ _ _ hS.1]; rfl); have d4 : W.cell? ⟨g0, 4, none⟩ = some (.int .i64 q.exp) := (by rw [cell_of_row _ _ _ _ _ _ hS.1]; rfl); have x0 : W.cell? ⟨g1, 0, none⟩ = some (.int .i64 t0) := (by rw [cell_of_row _ _ _ _ _ _ hS.2]; rfl); have x1 : W.cell? ⟨g1, 1, none⟩ = some (.int .i64 t1) := (by rw [cell_of_row _ _ _ _ _ _ hS.2]; rfl); go_simp; try (with_reducible rfl))
      refine wpAnyH_take (i := 5) (v := ?_) rfl (by kernel_rfl) (by kernel_rfl) (by kernel_rfl) (fun _ _ _ h => h) (Or.inl ⟨by kernel_rfl, ?_⟩) E1 ?_
      rotate_left
      · (intro W hS; have d0 : W.cell? ⟨g0, 0, none⟩ = some (.int .i64 q.id) := (by rw [cell_of_row _ _ _ _ _ _ hS.1]; rfl); have d1 : W.cell? ⟨g0, 1, none⟩ = some (.string q.who) := (by rw [cell_of_row _ _ _ _ _ _ hS.1]; rfl); have d2 : W.cell? ⟨g0, 2, none⟩ = some (.int .i64 q.entry) := (by rw [cell_of_row _ _ _ _ _ _ hS.1]; rfl); have d3 : W.cell? ⟨g0, 3, none⟩ = some (.string q.reason) := (by rw [cell_of_row _ _ _ _ _ _ hS.1]; rfl); have d4 : W.cell? ⟨g0, 4, none⟩ = some (.int .i64 q.exp) := (by rw [cell_of_row _ _ _ _ _ _ hS.1]; rfl); have x0 : W.cell? ⟨g1, 0, none⟩ = some (.int .i64 t0) := (by rw [cell_of_row _ _ _ _ _ _ hS.2]; rfl); have x1 : W.cell? ⟨g1, 1, none⟩ = some (.int .i64 t1) := (by rw [cell_of_row _ _ _ _ _ _ hS.2]; rfl); go_simp; try (with_reducible rfl))
      refine wpAnyH_take (i := 6) (v := ?_) rfl (by kernel_rfl) (by kernel_rfl) (by kernel_rfl) (fun _ _ _ h => h) (Or.inl ⟨by kernel_rfl, ?_⟩) E1 ?_
      rotate_left
      · (intro W hS; have d0 : W.cell? ⟨g0, 0, none⟩ = some (.int .i64 q.id) := (by rw [cell_of_row _ _ _ _ _ _ hS.1]; rfl); have d1 : W.cell? ⟨g0, 1, none⟩ = some (.string q.who) := (by rw [cell_of_row _ _ _ _ _ _ hS.1]; rfl); have d2 : W.cell? ⟨g0, 2, none⟩ = some (.int .i64 q.entry) := (by rw [cell_of_row _ _ _ _ _ _ hS.1]; rfl); have d3 : W.cell? ⟨g0, 3, none⟩ = some (.string q.reason) := (by rw [cell_of_row _ _ _ _ _ _ hS.1]; rfl); have d4 : W.cell? ⟨g0, 4, none⟩ = some (.int .i64 q.exp) := (by rw [cell_of_row _ _ _ _ _ _ hS.1]; rfl); have x0 : W.cell? ⟨g1, 0, none⟩ = some (.int .i64 t0) := (by rw [cell_of_row _ _ _ _ _ _ hS.2]; rfl); have x1 : W.cell? ⟨g1, 1, none⟩ = some (.int .i64 t1) := (by rw [cell_of_row _ _ _ _ _ _ hS.2]; rfl); go_simp; try (with_reducible rfl))
      refine wpAnyH_take (i := 7) (v := ?_) rfl (by kernel_rfl) (by kernel_rfl) (by kernel_rfl) (fun _ _ _ h => h) (Or.inl ⟨by kernel_rfl, ?_⟩) E1 ?_
      rotate_left
      · (intro W hS; have d0 : W.cell? ⟨g0, 0, none⟩ = some (.int .i64 q.id) := (by rw [cell_of_row _ _ _ _ _ _ hS.1]; rfl); have d1 : W.cell? ⟨g0, 1, none⟩ = some (.string q.who) := (by rw [cell_of_row _ _ _ _ _ _ hS.1]; rfl); have d2 : W.cell? ⟨g0, 2, none⟩ = some (.int .i64 q.entry) := (by rw [cell_of_row _ _ _ _ _ _ hS.1]; rfl); have d3 : W.cell? ⟨g0, 3, none⟩ = some (.string q.reason) := (by rw [cell_of_row _ _ _ _ _ _ hS.1]; rfl); have d4 : W.cell? ⟨g0, 4, none⟩ = some (.int .i64 q.exp) := (by rw [cell_of_row _ _ _ _ _ _ hS.1]; rfl); have x0 : W.cell? ⟨g1, 0, none⟩ = some (.int .i64 t0) := (by rw [cell_of_row _ _ _ _ _ _ hS.2]; rfl); have x1 : W.cell? ⟨g1, 1, none⟩ = some (.int .i64 t1) := (by rw [cell_of_row _ _ _ _ _ _ hS.2]; rfl); go_simp; try (with_reducible rfl))
      refine wpAnyH_take (i := 9) (v := ?_) rfl (by kernel_rfl) (by kernel_rfl) (by kernel_rfl) (fun _ _ _ h => h) (Or.inl ⟨by kernel_rfl, ?_⟩) E1 ?_
      rotate_left
      · (intro W hS; have d0 : W.cell? ⟨g0, 0, none⟩ = some (.int .i64 q.id) := (by rw [cell_of_row _ _ _ _ _ _ hS.1]; rfl); have d1 : W.cell? ⟨g0, 1, none⟩ = some (.string q.who) := (by rw [cell_of_row _ _ _ _ _ _ hS.1]; rfl); have d2 : W.cell? ⟨g0, 2, none⟩ = some (.int .i64 q.entry) := (by rw [cell_of_row _ _ _ _ _ _ hS.1]; rfl); have d3 : W.cell? ⟨g0, 3, none⟩ = some (.string q.reason) := (by rw [cell_of_row _ _ _ _ _ _ hS.1]; rfl); have d4 : W.cell? ⟨g0, 4, none⟩ = some (.int .i64 q.exp) := (by rw [cell_of_row _ _ _ _ _ _ hS.1]; rfl); have x0 : W.cell? ⟨g1, 0, none⟩ = some (.int .i64 t0) := (by rw [cell_of_row _ _ _ _ _ _ hS.2]; rfl); have x1 : W.cell? ⟨g1, 1, none⟩ = some (.int .i64 t1) := (by rw [cell_of_row _ _ _ _ _ _ hS.2]; rfl); go_simp; try (with_reducible rfl))
      refine wpAnyH_ready (rs := [8]) (by kernel_rfl) (by simp) ?_
      refine AllReadyH.cons (i := 8) rfl (fun K hK => ?_) AllReadyH.nil
      go_simp
      refine (HCD.out v1 F1).mono ?_
      rintro e v2 ⟨rfl, hb⟩
      have F2 := F1.trans (hb.mono F1.size)
      have E2 : (v2.heap[g0]? = some (.cells (qCs q) 24 (0, 0)) ∧ v2.heap[g1]? = some (.cells #[.int .i64 t0, .int .i64 t1] 25 (0, 0))) := ⟨(hb.block _ (pblt_of_heap E1.1)).trans E1.1, (hb.block _ (pblt_of_heap E1.2)).trans E1.2⟩
      refine hK.out _ _ E2 (fun _ => ?_)
      clear hK K hb
      refine wpAnyH_take (i := 10) (v := ?_) rfl (by kernel_rfl) (by kernel_rfl) (by kernel_rfl) (fun _ _ _ h => h) (Or.inl ⟨by kernel_rfl, ?_⟩) E2 ?_
      rotate_left
      · (intro W hS; have d0 : W.cell? ⟨g0, 0, none⟩ = some (.int .i64 q.id) := (by rw [cell_of_row _ _ _ _ _ _ hS.1]; rfl); have d1 : W.cell? ⟨g0, 1, none⟩ = some (.string q.who) := (by rw [cell_of_row _ _ _ _ _ _ hS.1]; rfl); have d2 : W.cell? ⟨g0, 2, none⟩ = some (.int .i64 q.entry) := (by rw [cell_of_row _ _ _ _ _ _ hS.1]; rfl); have d3 : W.cell? ⟨g0, 3, none⟩ = some (.string q.reason) := (by rw [cell_of_row _ _ _ _ _ _ hS.1]; rfl); have d4 : W.cell? ⟨g0, 4, none⟩ = some (.int .i64 q.exp) := (by rw [cell_of_row _ _ _ _ _ _ hS.1]; rfl); have x0 : W.cell? ⟨g1, 0, none⟩ = some (.int .i64 t0) := (by rw [cell_of_row _ _ _ _ _ _ hS.2]; rfl); have x1 : W.cell? ⟨g1, 1, none⟩ = some (.int .i64 t1) := (by rw [cell_of_row _ _ _ _ _ _ hS.2]; rfl); go_simp; try (with_reducible rfl))
      refine wpAnyH_take (i := 11) (v := ?_) rfl (by kernel_rfl) (by kernel_rfl) (by kernel_rfl) (fun _ _ _ h => h) (Or.inl ⟨by kernel_rfl, ?_⟩) E2 ?_
      rotate_left
      · (intro W hS; have d0 : W.cell? ⟨g0, 0, none⟩ = some (.int .i64 q.id) := (by rw [cell_of_row _ _ _ _ _ _ hS.1]; rfl); have d1 : W.cell? ⟨g0, 1, none⟩ = some (.string q.who) := (by rw [cell_of_row _ _ _ _ _ _ hS.1]; rfl); have d2 : W.cell? ⟨g0, 2, none⟩ = some (.int .i64 q.entry) := (by rw [cell_of_row _ _ _ _ _ _ hS.1]; rfl); have d3 : W.cell? ⟨g0, 3, none⟩ = some (.string q.reason) := (by rw [cell_of_row _ _ _ _ _ _ hS.1]; rfl); have d4 : W.cell? ⟨g0, 4, none⟩ = some (.int .i64 q.exp) := (by rw [cell_of_row _ _ _ _ _ _ hS.1]; rfl); have x0 : W.cell? ⟨g1, 0, none⟩ = some (.int .i64 t0) := (by rw [cell_of_row _ _ _ _ _ _ hS.2]; rfl); have x1 : W.cell? ⟨g1, 1, none⟩ = some (.int .i64 t1) := (by rw [cell_of_row _ _ _ _ _ _ hS.2]; rfl); go_simp; try (with_reducible rfl))
      refine wpAnyH_take (i := 12) (v := ?_) rfl (by kernel_rfl) (by kernel_rfl) (by kernel_rfl) (fun _ _ _ h => h) (Or.inl ⟨by kernel_rfl, ?_⟩) E2 ?_
      rotate_left
      · (intro W hS; have d0 : W.cell? ⟨g0, 0, none⟩ = some (.int .i64 q.id) := (by rw [cell_of_row _ _ _ _ _ _ hS.1]; rfl); have d1 : W.cell? ⟨g0, 1, none⟩ = some (.string q.who) := (by rw [cell_of_row _ _ _ _ _ _ hS.1]; rfl); have d2 : W.cell? ⟨g0, 2, none⟩ = some (.int .i64 q.entry) := (by rw [cell_of_row _ _ _ _ _ _ hS.1]; rfl); have d3 : W.cell? ⟨g0, 3, none⟩ = some (.string q.reason) := (by rw [cell_of_row _ _ _ _ _ _ hS.1]; rfl); have d4 : W.cell? ⟨g0, 4, none⟩ = some (.int .i64 q.exp) := (by rw [cell_of_row _ _ _ _ _ _ hS.1]; rfl); have x0 : W.cell? ⟨g1, 0, none⟩ = some (.int .i64 t0) := (by rw [cell_of_row _ _ _ _ _ _ hS.2]; rfl); have x1 : W.cell? ⟨g1, 1, none⟩ = some (.int .i64 t1) := (by rw [cell_of_row _ _ _ _ _ _ hS.2]; rfl); go_simp; try (with_reducible rfl))
      refine wpAnyH_take (i := 13) (v := ?_) rfl (by kernel_rfl) (by kernel_rfl) (by kernel_rfl) (fun _ _ _ h => h) (Or.inl ⟨by kernel_rfl, ?_⟩) E2 ?_
      rotate_left
      · (intro W hS; have d0 : W.cell? ⟨g0, 0, none⟩ = some (.int .i64 q.id) := (by rw [cell_of_row _ _ _ _ _ _ hS.1]; rfl); have d1 : W.cell? ⟨g0, 1, none⟩ = some (.string q.who) := (by rw [cell_of_row _ _ _ _ _ _ hS.1]; rfl); have d2 : W.cell? ⟨g0, 2, none⟩ = some (.int .i64 q.entry) := (by rw [cell_of_row _ _ _ _ _ _ hS.1]; rfl); have d3 : W.cell? ⟨g0, 3, none⟩ = some (.string q.reason) := (by rw [cell_of_row _ _ _ _ _ _ hS.1]; rfl); have d4 : W.cell? ⟨g0, 4, none⟩ = some (.int .i64 q.exp) := (by rw [cell_of_row _ _ _ _ _ _ hS.1]; rfl); have x0 : W.cell? ⟨g1, 0, none⟩ = some (.int .i64 t0) := (by rw [cell_of_row _ _ _ _ _ _ hS.2]; rfl); have x1 : W.cell? ⟨g1, 1, none⟩ = some (.int .i64 t1) := (by rw [cell_of_row _ _ _ _ _ _ hS.2]; rfl); go_simp; try (with_reducible rfl))
      refine wpAnyH_take (i := 14) (v := ?_) rfl (by kernel_rfl) (by kernel_rfl) (by kernel_rfl) (fun _ _ _ h => h) (Or.inl ⟨by kernel_rfl, ?_⟩) E2 ?_
      rotate_left
      · (intro W hS; have d0 : W.cell? ⟨g0, 0, none⟩ = some (.int .i64 q.id) := (by rw [cell_of_row _ _ _ _ _ _ hS.1]; rfl); have d1 : W.cell? ⟨g0, 1, none⟩ = some (.string q.who) := (by rw [cell_of_row _ _ _ _ _ _ hS.1]; rfl); have d2 : W.cell? ⟨g0, 2, none⟩ = some (.int .i64 q.entry) := (by rw [cell_of_row _ _ _ _ _ _ hS.1]; rfl); have d3 : W.cell? ⟨g0, 3, none⟩ = some (.string q.reason) := (by rw [cell_of_row _ _ _ _ _ _ hS.1]; rfl); have d4 : W.cell? ⟨g0, 4, none⟩ = some (.int .i64 q.exp) := (by rw [cell_of_row _ _ _ _ _ _ hS.1]; rfl); have x0 : W.cell? ⟨g1, 0, none⟩ = some (.int .i64 t0) := (by rw [cell_of_row _ _ _ _ _ _ hS.2]; rfl); have x1 : W.cell? ⟨g1, 1, none⟩ = some (.int .i64 t1) := (by rw [cell_of_row _ _ _ _ _ _ hS.2]; rfl); go_simp; try (with_reducible rfl))
      refine wpAnyH_take (i := 15) (v := ?_) rfl (by kernel_rfl) (by kernel_rfl) (by kernel_rfl) (fun _ _ _ h => h) (Or.inl ⟨by kernel_rfl, ?_⟩) E2 ?_
      rotate_left
      · (intro W hS; have d0 : W.cell? ⟨g0, 0, none⟩ = some (.int .i64 q.id) := (by rw [cell_of_row _ _ _ _ _ _ hS.1]; rfl); have d1 : W.cell? ⟨g0, 1, none⟩ = some (.string q.who) := (by rw [cell_of_row _ _ _ _ _ _ hS.1]; rfl); have d2 : W.cell? ⟨g0, 2, none⟩ = some (.int .i64 q.entry) := (by rw [cell_of_row _ _ _ _ _ _ hS.1]; rfl); have d3 : W.cell? ⟨g0, 3, none⟩ = some (.string q.reason) := (by rw [cell_of_row _ _ _ _ _ _ hS.1]; rfl); have d4 : W.cell? ⟨g0, 4, none⟩ = some (.int .i64 q.exp) := (by rw [cell_of_row _ _ _ _ _ _ hS.1]; rfl); have x0 : W.cell? ⟨g1, 0, none⟩ = some (.int .i64 t0) := (by rw [cell_of_row _ _ _ _ _ _ hS.2]; rfl); have x1 : W.cell? ⟨g1, 1, none⟩ = some (.int .i64 t1) := (by rw [cell_of_row _ _ _ _ _ _ hS.2]; rfl); go_simp; try (with_reducible rfl))
      refine wpAnyH_take (i := 16) (v := ?_) rfl (by kernel_rfl) (by kernel_rfl) (by kernel_rfl) (fun _ _ _ h => h) (Or.inl ⟨by kernel_rfl, ?_⟩) E2 ?_
      rotate_left
      · (intro W hS; have d0 : W.cell? ⟨g0, 0, none⟩ = some (.int .i64 q.id) := (by rw [cell_of_row _ _ _ _ _ _ hS.1]; rfl); have d1 : W.cell? ⟨g0, 1, none⟩ = some (.string q.who) := (by rw [cell_of_row _ _ _ _ _ _ hS.1]; rfl); have d2 : W.cell? ⟨g0, 2, none⟩ = some (.int .i64 q.entry) := (by rw [cell_of_row _ _ _ _ _ _ hS.1]; rfl); have d3 : W.cell? ⟨g0, 3, none⟩ = some (.string q.reason) := (by rw [cell_of_row _ _ _ _ _ _ hS.1]; rfl); have d4 : W.cell? ⟨g0, 4, none⟩ = some (.int .i64 q.exp) := (by rw [cell_of_row _ _ _ _ _ _ hS.1]; rfl); have x0 : W.cell? ⟨g1, 0, none⟩ = some (.int .i64 t0) := (by rw [cell_of_row _ _ _ _ _ _ hS.2]; rfl); have x1 : W.cell? ⟨g1, 1, none⟩ = some (.int .i64 t1) := (by rw [cell_of_row _ _ _ _ _ _ hS.2]; rfl); go_simp; try (with_reducible rfl))
      refine wpAnyH_take (i := 17) (v := ?_) rfl (by kernel_rfl) (by kernel_rfl) (by kernel_rfl) (fun _ _ _ h => h) (Or.inl ⟨by kernel_rfl, ?_⟩) E2 ?_
      rotate_left
      · (intro W hS; have d0 : W.cell? ⟨g0, 0, none⟩ = some (.int .i64 q.id) := (by rw [cell_of_row _ _ _ _ _ _ hS.1]; rfl); have d1 : W.cell? ⟨g0, 1, none⟩ = some (.string q.who) := (by rw [cell_of_row _ _ _ _ _ _ hS.1]; rfl); have d2 : W.cell? ⟨g0, 2, none⟩ = some (.int .i64 q.entry) := (by rw [cell_of_row _ _ _ _ _ _ hS.1]; rfl); have d3 : W.cell? ⟨g0, 3, none⟩ = some (.string q.reason) := (by rw [cell_of_row _ _ _ _ _ _ hS.1]; rfl); have d4 : W.cell? ⟨g0, 4, none⟩ = some (.int .i64 q.exp) := (by rw [cell_of_row _ _ _ _ _ _ hS.1]; rfl); have x0 : W.cell? ⟨g1, 0, none⟩ = some (.int .i64 t0) := (by rw [cell_of_row _ _ _ _ _ _ hS.2]; rfl); have x1 : W.cell? ⟨g1, 1, none⟩ = some (.int .i64 t1) := (by rw [cell_of_row _ _ _ _ _ _ hS.2]; rfl); go_simp; try (with_reducible rfl))
      refine wpAnyH_take (i := 18) (v := ?_) rfl (by kernel_rfl) (by kernel_rfl) (by kernel_rfl) (fun _ _ _ h => h) (Or.inl ⟨by kernel_rfl, ?_⟩) E2 ?_
      rotate_left
      · (intro W hS; have d0 : W.cell? ⟨g0, 0, none⟩ = some (.int .i64 q.id) := (by rw [cell_of_row _ _ _ _ _ _ hS.1]; rfl); have d1 : W.cell? ⟨g0, 1, none⟩ = some (.string q.who) := (by rw [cell_of_row _ _ _ _ _ _ hS.1]; rfl); have d2 : W.cell? ⟨g0, 2, none⟩ = some (.int .i64 q.entry) := (by rw [cell_of_row _ _ _ _ _ _ hS.1]; rfl); have d3 : W.cell? ⟨g0, 3, none⟩ = some (.string q.reason) := (by rw [cell_of_row _ _ _ _ _ _ hS.1]; rfl); have d4 : W.cell? ⟨g0, 4, none⟩ = some (.int .i64 q.exp) := (by rw [cell_of_row _ _ _ _ _ _ hS.1]; rfl); have x0 : W.cell? ⟨g1, 0, none⟩ = some (.int .i64 t0) := (by rw [cell_of_row _ _ _ _ _ _ hS.2]; rfl); have x1 : W.cell? ⟨g1, 1, none⟩ = some (.int .i64 t1) := (by rw [cell_of_row _ _ _ _ _ _ hS.2]; rfl); go_simp; try (with_reducible rfl))
      refine wpAnyH_take (i := 19) (v := ?_) rfl (by kernel_rfl) (by kernel_rfl) (by kernel_rfl) (fun _ _ _ h => h) (Or.inl ⟨by kernel_rfl, ?_⟩) E2 ?_
      rotate_left
      · (intro W hS; have d0 : W.cell? ⟨g0, 0, none⟩ = some (.int .i64 q.id) := (by rw [cell_of_row _ _ _ _ _ _ hS.1]; rfl); have d1 : W.cell? ⟨g0, 1, none⟩ = some (.string q.who) := (by rw [cell_of_row _ _ _ _ _ _ hS.1]; rfl); have d2 : W.cell? ⟨g0, 2, none⟩ = some (.int .i64 q.entry) := (by rw [cell_of_row _ _ _ _ _ _ hS.1]; rfl); have d3 : W.cell? ⟨g0, 3, none⟩ = some (.string q.reason) := (by rw [cell_of_row _ _ _ _ _ _ hS.1]; rfl); have d4 : W.cell? ⟨g0, 4, none⟩ = some (.int .i64 q.exp) := (by rw [cell_of_row _ _ _ _ _ _ hS.1]; rfl); have x0 : W.cell? ⟨g1, 0, none⟩ = some (.int .i64 t0) := (by rw [cell_of_row _ _ _ _ _ _ hS.2]; rfl); have x1 : W.cell? ⟨g1, 1, none⟩ = some (.int .i64 t1) := (by rw [cell_of_row _ _ _ _ _ _ hS.2]; rfl); go_simp; try (with_reducible rfl))
      refine wpAnyH_take (i := 20) (v := ?_) rfl (by kernel_rfl) (by kernel_rfl) (by kernel_rfl) (fun _ _ _ h => h) (Or.inl ⟨by kernel_rfl, ?_⟩) E2 ?_
      rotate_left
      · (intro W hS; have d0 : W.cell? ⟨g0, 0, none⟩ = some (.int .i64 q.id) := (by rw [cell_of_row _ _ _ _ _ _ hS.1]; rfl); have d1 : W.cell? ⟨g0, 1, none⟩ = some (.string q.who) := (by rw [cell_of_row _ _ _ _ _ _ hS.1]; rfl); have d2 : W.cell? ⟨g0, 2, none⟩ = some (.int .i64 q.entry) := (by rw [cell_of_row _ _ _ _ _ _ hS.1]; rfl); have d3 : W.cell? ⟨g0, 3, none⟩ = some (.string q.reason) := (by rw [cell_of_row _ _ _ _ _ _ hS.1]; rfl); have d4 : W.cell? ⟨g0, 4, none⟩ = some (.int .i64 q.exp) := (by rw [cell_of_row _ _ _ _ _ _ hS.1]; rfl); have x0 : W.cell? ⟨g1, 0, none⟩ = some (.int .i64 t0) := (by rw [cell_of_row _ _ _ _ _ _ hS.2]; rfl); have x1 : W.cell? ⟨g1, 1, none⟩ = some (.int .i64 t1) := (by rw [cell_of_row _ _ _ _ _ _ hS.2]; rfl); go_simp; try (with_reducible rfl))
      refine wpAnyH_take (i := 22) (v := ?_) rfl (by kernel_rfl) (by kernel_rfl) (by kernel_rfl) (fun _ _ _ h => h) (Or.inl ⟨by kernel_rfl, ?_⟩) E2 ?_
      rotate_left
      · (intro W hS; have d0 : W.cell? ⟨g0, 0, none⟩ = some (.int .i64 q.id) := (by rw [cell_of_row _ _ _ _ _ _ hS.1]; rfl); have d1 : W.cell? ⟨g0, 1, none⟩ = some (.string q.who) := (by rw [cell_of_row _ _ _ _ _ _ hS.1]; rfl); have d2 : W.cell? ⟨g0, 2, none⟩ = some (.int .i64 q.entry) := (by rw [cell_of_row _ _ _ _ _ _ hS.1]; rfl); have d3 : W.cell? ⟨g0, 3, none⟩ = some (.string q.reason) := (by rw [cell_of_row _ _ _ _ _ _ hS.1]; rfl); have d4 : W.cell? ⟨g0, 4, none⟩ = some (.int .i64 q.exp) := (by rw [cell_of_row _ _ _ _ _ _ hS.1]; rfl); have x0 : W.cell? ⟨g1, 0, none⟩ = some (.int .i64 t0) := (by rw [cell_of_row _ _ _ _ _ _ hS.2]; rfl); have x1 : W.cell? ⟨g1, 1, none⟩ = some (.int .i64 t1) := (by rw [cell_of_row _ _ _ _ _ _ hS.2]; rfl); go_simp; try (with_reducible rfl))
      refine wpAnyH_ready (rs := [21]) (by kernel_rfl) (by simp) ?_
      refine AllReadyH.cons (i := 21) rfl (fun K hK => ?_) AllReadyH.nil
      go_simp
      refine (HQ.out.2.2.2.2.1 v2).mono ?_
      rintro e v3 ⟨rfl, hb⟩
      have F3 := F2.trans (hb.mono F2.size)
      have E3 : (v3.heap[g0]? = some (.cells (qCs q) 24 (0, 0)) ∧ v3.heap[g1]? = some (.cells #[.int .i64 t0, .int .i64 t1] 25 (0, 0))) := ⟨(hb.block _ (pblt_of_heap E2.1)).trans E2.1, (hb.block _ (pblt_of_heap E2.2)).trans E2.2⟩
      refine hK.out _ _ E3 (fun _ => ?_)
      clear hK K hb
      refine wpAnyH_ready (rs := [23]) (by kernel_rfl) (by simp) ?_
      refine AllReadyH.cons (i := 23) rfl (fun K hK => ?_) AllReadyH.nil
      go_simp
      refine (HQ.out.2.2.2.1 v3).mono ?_
      rintro e v4 ⟨rfl, hb⟩
      have F4 := F3.trans (hb.mono F3.size)
      have E4 : (v4.heap[g0]? = some (.cells (qCs q) 24 (0, 0)) ∧ v4.heap[g1]? = some (.cells #[.int .i64 t0, .int .i64 t1] 25 (0, 0))) := ⟨(hb.block _ (pblt_of_heap E3.1)).trans E3.1, (hb.block _ (pblt_of_heap E3.2)).trans E3.2⟩
      refine hK.out _ _ E4 (fun _ => ?_)
      clear hK K hb
      refine wpAnyH_ready (rs := [24]) (by kernel_rfl) (by simp) ?_
      refine AllReadyH.cons (i := 24) rfl (fun K hK => ?_) AllReadyH.nil
      go_simp
      refine (HQ.out.2.2.2.2.2.1 v4).mono ?_
      rintro e v5 ⟨rfl, hb⟩
      have F5 := F4.trans (hb.mono F4.size)
      have E5 : (v5.heap[g0]? = some (.cells (qCs q) 24 (0, 0)) ∧ v5.heap[g1]? = some (.cells #[.int .i64 t0, .int .i64 t1] 25 (0, 0))) := ⟨(hb.block _ (pblt_of_heap E4.1)).trans E4.1, (hb.block _ (pblt_of_heap E4.2)).trans E4.2⟩
      refine hK.out _ _ E5 (fun _ => ?_)
      clear hK K hb
      refine wpAnyH_take (i := 25) (v := ?_) rfl (by kernel_rfl) (by kernel_rfl) (by kernel_rfl) (fun _ _ _ h => h) (Or.inl ⟨by kernel_rfl, ?_⟩) E5 ?_
      rotate_left
      · (intro W hS; have d0 : W.cell? ⟨g0, 0, none⟩ = some (.int .i64 q.id) := (by rw [cell_of_row _ _ _ _ _ _ hS.1]; rfl); have d1 : W.cell? ⟨g0, 1, none⟩ = some (.string q.who) := (by rw [cell_of_row _ _ _ _ _ _ hS.1]; rfl); have d2 : W.cell? ⟨g0, 2, none⟩ = some (.int .i64 q.entry) := (by rw [cell_of_row _ _ _ _ _ _ hS.1]; rfl); have d3 : W.cell? ⟨g0, 3, none⟩ = some (.string q.reason) := (by rw [cell_of_row _ _ _ _ _ _ hS.1]; rfl); have d4 : W.cell? ⟨g0, 4, none⟩ = some (.int .i64 q.exp) := (by rw [cell_of_row _ _ _ _ _ _ hS.1]; rfl); have x0 : W.cell? ⟨g1, 0, none⟩ = some (.int .i64 t0) := (by rw [cell_of_row _ _ _ _ _ _ hS.2]; rfl); have x1 : W.cell? ⟨g1, 1, none⟩ = some (.int .i64 t1) := (by rw [cell_of_row _ _ _ _ _ _ hS.2]; rfl); go_simp; try (with_reducible rfl))
      refine wpAnyH_take (i := 26) (v := ?_) rfl (by kernel_rfl) (by kernel_rfl) (by kernel_rfl) (fun _ _ _ h => h) (Or.inl ⟨by kernel_rfl, ?_⟩) E5 ?_
      rotate_left
      · (intro W hS; have d0 : W.cell? ⟨g0, 0, none⟩ = some (.int .i64 q.id) := (by rw [cell_of_row _ _ _ _ _ _ hS.1]; rfl); have d1 : W.cell? ⟨g0, 1, none⟩ = some (.string q.who) := (by rw [cell_of_row _ _ _ _ _ _ hS.1]; rfl); have d2 : W.cell? ⟨g0, 2, none⟩ = some (.int .i64 q.entry) := (by rw [cell_of_row _ _ _ _ _ _ hS.1]; rfl); have d3 : W.cell? ⟨g0, 3, none⟩ = some (.string q.reason) := (by rw [cell_of_row _ _ _ _ _ _ hS.1]; rfl); have d4 : W.cell? ⟨g0, 4, none⟩ = some (.int .i64 q.exp) := (by rw [cell_of_row _ _ _ _ _ _ hS.1]; rfl); have x0 : W.cell? ⟨g1, 0, none⟩ = some (.int .i64 t0) := (by rw [cell_of_row _ _ _ _ _ _ hS.2]; rfl); have x1 : W.cell? ⟨g1, 1, none⟩ = some (.int .i64 t1) := (by rw [cell_of_row _ _ _ _ _ _ hS.2]; rfl); go_simp; try (with_reducible rfl))
      refine wpAnyH_take (i := 27) (v := ?_) rfl (by kernel_rfl) (by kernel_rfl) (by kernel_rfl) (fun _ _ _ h => h) (Or.inl ⟨by kernel_rfl, ?_⟩) E5 ?_
      rotate_left
      · (intro W hS; have d0 : W.cell? ⟨g0, 0, none⟩ = some (.int .i64 q.id) := (by rw [cell_of_row _ _ _ _ _ _ hS.1]; rfl); have d1 : W.cell? ⟨g0, 1, none⟩ = some (.string q.who) := (by rw [cell_of_row _ _ _ _ _ _ hS.1]; rfl); have d2 : W.cell? ⟨g0, 2, none⟩ = some (.int .i64 q.entry) := (by rw [cell_of_row _ _ _ _ _ _ hS.1]; rfl); have d3 : W.cell? ⟨g0, 3, none⟩ = some (.string q.reason) := (by rw [cell_of_row _ _ _ _ _ _ hS.1]; rfl); have d4 : W.cell? ⟨g0, 4, none⟩ = some (.int .i64 q.exp) := (by rw [cell_of_row _ _ _ _ _ _ hS.1]; rfl); have x0 : W.cell? ⟨g1, 0, none⟩ = some (.int .i64 t0) := (by rw [cell_of_row _ _ _ _ _ _ hS.2]; rfl); have x1 : W.cell? ⟨g1, 1, none⟩ = some (.int .i64 t1) := (by rw [cell_of_row _ _ _ _ _ _ hS.2]; rfl); go_simp; try (with_reducible rfl))
      refine wpAnyH_take (i := 28) (v := ?_) rfl (by kernel_rfl) (by kernel_rfl) (by kernel_rfl) (fun _ _ _ h => h) (Or.inl ⟨by kernel_rfl, ?_⟩) E5 ?_
      rotate_left
      · (intro W hS; have d0 : W.cell? ⟨g0, 0, none⟩ = some (.int .i64 q.id) := (by rw [cell_of_row _ _ _ _ _ _ hS.1]; rfl); have d1 : W.cell? ⟨g0, 1, none⟩ = some (.string q.who) := (by rw [cell_of_row _ _ _ _ _ _ hS.1]; rfl); have d2 : W.cell? ⟨g0, 2, none⟩ = some (.int .i64 q.entry) := (by rw [cell_of_row _ _ _ _ _ _ hS.1]; rfl); have d3 : W.cell? ⟨g0, 3, none⟩ = some (.string q.reason) := (by rw [cell_of_row _ _ _ _ _ _ hS.1]; rfl); have d4 : W.cell? ⟨g0, 4, none⟩ = some (.int .i64 q.exp) := (by rw [cell_of_row _ _ _ _ _ _ hS.1]; rfl); have x0 : W.cell? ⟨g1, 0, none⟩ = some (.int .i64 t0) := (by rw [cell_of_row _ _ _ _ _ _ hS.2]; rfl); have x1 : W.cell? ⟨g1, 1, none⟩ = some (.int .i64 t1) := (by rw [cell_of_row _ _ _ _ _ _ hS.2]; rfl); go_simp; try (with_reducible rfl))
      refine wpAnyH_take (i := 30) (v := ?_) rfl (by kernel_rfl) (by kernel_rfl) (by kernel_rfl) (fun _ _ _ h => h) (Or.inl ⟨by kernel_rfl, ?_⟩) E5 ?_
      rotate_left
      · (intro W hS; have d0 : W.cell? ⟨g0, 0, none⟩ = some (.int .i64 q.id) := (by rw [cell_of_row _ _ _ _ _ _ hS.1]; rfl); have d1 : W.cell? ⟨g0, 1, none⟩ = some (.string q.who) := (by rw [cell_of_row _ _ _ _ _ _ hS.1]; rfl); have d2 : W.cell? ⟨g0, 2, none⟩ = some (.int .i64 q.entry) := (by rw [cell_of_row _ _ _ _ _ _ hS.1]; rfl); have d3 : W.cell? ⟨g0, 3, none⟩ = some (.string q.reason) := (by rw [cell_of_row _ _ _ _ _ _ hS.1]; rfl); have d4 : W.cell? ⟨g0, 4, none⟩ = some (.int .i64 q.exp) := (by rw [cell_of_row _ _ _ _ _ _ hS.1]; rfl); have x0 : W.cell? ⟨g1, 0, none⟩ = some (.int .i64 t0) := (by rw [cell_of_row _ _ _ _ _ _ hS.2]; rfl); have x1 : W.cell? ⟨g1, 1, none⟩ = some (.int .i64 t1) := (by rw [cell_of_row _ _ _ _ _ _ hS.2]; rfl); go_simp; try (with_reducible rfl))
      refine wpAnyH_ready (rs := [29]) (by kernel_rfl) (by simp) ?_
      refine AllReadyH.cons (i := 29) rfl (fun K hK => ?_) AllReadyH.nil
      go_simp
      refine (HQ.out.2.2.2.2.2.2.1 v5 (HE.out.1.trans (F5.mono HE.out.1.size))).mono ?_
      rintro e v6 ⟨rfl, hb⟩
      have F6 := F5.trans (hb.mono F5.size)
      have E6 : (v6.heap[g0]? = some (.cells (qCs q) 24 (0, 0)) ∧ v6.heap[g1]? = some (.cells #[.int .i64 t0, .int .i64 t1] 25 (0, 0))) := ⟨(hb.block _ (pblt_of_heap E5.1)).trans E5.1, (hb.block _ (pblt_of_heap E5.2)).trans E5.2⟩
      refine hK.out _ _ E6 (fun _ => ?_)
      clear hK K hb
      refine wpAnyH_ready (rs := [31]) (by kernel_rfl) (by simp) ?_
      refine AllReadyH.cons (i := 31) rfl (fun K hK => ?_) AllReadyH.nil
      go_simp
      refine (HQ.out.2.2.1 v6 (HE.out.1.trans (F6.mono HE.out.1.size))).mono ?_
      rintro e v7 ⟨ad2, cp2, rfl, hR, hb⟩
      have F7 := F6.trans (hb.mono F6.size)
      have E7 : (v7.heap[g0]? = some (.cells (qCs q) 24 (0, 0)) ∧ v7.heap[g1]? = some (.cells #[.int .i64 t0, .int .i64 t1] 25 (0, 0))) := ⟨(hb.block _ (pblt_of_heap E6.1)).trans E6.1, (hb.block _ (pblt_of_heap E6.2)).trans E6.2⟩
      refine hK.out _ _ E7 (fun _ => ?_)
      clear hK K hb
      refine wpAnyH_ready (rs := [32]) (by kernel_rfl) (by simp) ?_
      refine AllReadyH.cons (i := 32) rfl (fun K hK => ?_) AllReadyH.nil
      go_simp
      refine (HQ.out.2.2.2.2.2.2.2.1 v7 ad2 cp2 hR).mono ?_
      rintro e v8 ⟨rfl, hb⟩
      have F8 := F7.trans (hb.mono F7.size)
      have E8 : (v8.heap[g0]? = some (.cells (qCs q) 24 (0, 0)) ∧ v8.heap[g1]? = some (.cells #[.int .i64 t0, .int .i64 t1] 25 (0, 0))) := ⟨(hb.block _ (pblt_of_heap E7.1)).trans E7.1, (hb.block _ (pblt_of_heap E7.2)).trans E7.2⟩
      clear hR
      refine hK.out _ _ E8 (fun _ => ?_)
      clear hK K hb
      refine wpAnyH_take (i := 33) (v := ?_) rfl (by kernel_rfl) (by kernel_rfl) (by kernel_rfl) (fun _ _ _ h => h) (Or.inl ⟨by kernel_rfl, ?_⟩) E8 ?_
      rotate_left
      · (intro W hS; have d0 : W.cell? ⟨g0, 0, none⟩ = some (.int .i64 q.id) := (by rw [cell_of_row _ _ _ _ _ _ hS.1]; rfl); have d1 : W.cell? ⟨g0, 1, none⟩ = some (.string q.who) := (by rw [cell_of_row _ _ _ _ _ _ hS.1]; rfl); have d2 : W.cell? ⟨g0, 2, none⟩ = some (.int .i64 q.entry) := (by rw [cell_of_row _ _ _ _ _ _ hS.1]; rfl); have d3 : W.cell? ⟨g0, 3, none⟩ = some (.string q.reason) := (by rw [cell_of_row _ _ _ _ _ _ hS.1]; rfl); have d4 : W.cell? ⟨g0, 4, none⟩ = some (.int .i64 q.exp) := (by rw [cell_of_row _ _ _ _ _ _ hS.1]; rfl); have x0 : W.cell? ⟨g1, 0, none⟩ = some (.int .i64 t0) := (by rw [cell_of_row _ _ _ _ _ _ hS.2]; rfl); have x1 : W.cell? ⟨g1, 1, none⟩ = some (.int .i64 t1) := (by rw [cell_of_row _ _ _ _ _ _ hS.2]; rfl); go_simp; try (with_reducible rfl))
      refine wpAnyH_take (i := 34) (v := ?_) rfl (by kernel_rfl) (by kernel_rfl) (by kernel_rfl) (fun _ _ _ h => h) (Or.inl ⟨by kernel_rfl, ?_⟩) E8 ?_
      rotate_left
      · (intro W hS; have d0 : W.cell? ⟨g0, 0, none⟩ = some (.int .i64 q.id) := (by rw [cell_of_row _ _ _ _ _ _ hS.1]; rfl); have d1 : W.cell? ⟨g0, 1, none⟩ = some (.string q.who) := (by rw [cell_of_row _ _ _ _ _ _ hS.1]; rfl); have d2 : W.cell? ⟨g0, 2, none⟩ = some (.int .i64 q.entry) := (by rw [cell_of_row _ _ _ _ _ _ hS.1]; rfl); have d3 : W.cell? ⟨g0, 3, none⟩ = some (.string q.reason) := (by rw [cell_of_row _ _ _ _ _ _ hS.1]; rfl); have d4 : W.cell? ⟨g0, 4, none⟩ = some (.int .i64 q.exp) := (by rw [cell_of_row _ _ _ _ _ _ hS.1]; rfl); have x0 : W.cell? ⟨g1, 0, none⟩ = some (.int .i64 t0) := (by rw [cell_of_row _ _ _ _ _ _ hS.2]; rfl); have x1 : W.cell? ⟨g1, 1, none⟩ = some (.int .i64 t1) := (by rw [cell_of_row _ _ _ _ _ _ hS.2]; rfl); go_simp; try (with_reducible rfl))
      refine wpAnyH_take (i := 35) (v := ?_) rfl (by kernel_rfl) (by kernel_rfl) (by kernel_rfl) (fun _ _ _ h => h) (Or.inl ⟨by kernel_rfl, ?_⟩) E8 ?_
      rotate_left
      · (intro W hS; have d0 : W.cell? ⟨g0, 0, none⟩ = some (.int .i64 q.id) := (by rw [cell_of_row _ _ _ _ _ _ hS.1]; rfl); have d1 : W.cell? ⟨g0, 1, none⟩ = some (.string q.who) := (by rw [cell_of_row _ _ _ _ _ _ hS.1]; rfl); have d2 : W.cell? ⟨g0, 2, none⟩ = some (.int .i64 q.entry) := (by rw [cell_of_row _ _ _ _ _ _ hS.1]; rfl); have d3 : W.cell? ⟨g0, 3, none⟩ = some (.string q.reason) := (by rw [cell_of_row _ _ _ _ _ _ hS.1]; rfl); have d4 : W.cell? ⟨g0, 4, none⟩ = some (.int .i64 q.exp) := (by rw [cell_of_row _ _ _ _ _ _ hS.1]; rfl); have x0 : W.cell? ⟨g1, 0, none⟩ = some (.int .i64 t0) := (by rw [cell_of_row _ _ _ _ _ _ hS.2]; rfl); have x1 : W.cell? ⟨g1, 1, none⟩ = some (.int .i64 t1) := (by rw [cell_of_row _ _ _ _ _ _ hS.2]; rfl); go_simp; try (with_reducible rfl))
      refine wpAnyH_done (by kernel_rfl) ?_ _
      go_simp
      have HZ := Lib.hid F8
      clear F0 F8 E0 E1 E2 E3 E4 E5 E6 E7 E8
      go_wp2_with fail
      go_ret
      exact ⟨rfl, H.out.2.1 _ (HE.out.1.trans (HZ.out.mono HE.out.1.size))⟩
end Go.Proofs.Ytnkkbinbeildmaa

namespace Go.Proofs.Ytnkkbinbeildmaa.policyDecidesLaw
open Go.ChangeShapes Go.WideShapes Go.ChangeAt Go.RowKit
open Go.ChangeMaps (open_string shut_string)

theorem own : ownKnob Try.prog.godebug = none := by kernel_rfl
set_option maxRecDepth 100000 in
theorem lifted (os : Os) (started : os.Started) (H : Type) (enc : TypeId × Value → H) :
    ReturnsInHanded {} Try.checked os 3 .any (Rows.policyDecidesSpec.pre6 enc Try.prog Try.f3 Rows.policyDecidesRow.domain false) (Rows.policyDecidesSpec.post enc Try.prog Try.f3 false true false false) := by
  refine returnsInHanded_of_change (C := Try.checked) own started (by kernel_rfl) Try.func3
    (ChangeSpec.witness6 (enc := enc) (C := Try.checked) false ⟨#[], #[.slice none 0 0, .agg #[.int .i64 0, .string ⟨#[]⟩, .int .i64 0, .string ⟨#[]⟩, .int .i64 0], .agg #[.int .i64 0, .int .i64 0]], []⟩ 8 (by kernel_rfl) (by kernel_rfl) (by kernel_rfl) (by kernel_rfl)) ?_
  intro W base args ds gs before hval0 hW hcnd _
  have hval : ∀ (j : Nat) t v, Try.f3.params[j]? = some t → args[j]? = some v → Value.okWide Try.prog W .any base t v := hval0
  have hW' := hW
  obtain ⟨p, q, hA0, hV, rfl, hfz, hnd⟩ := hW
  have hA : DataW.TrodAll enc Try.prog W 0 (fun _ => true) true Try.f3.params.toList args.toList ds p := hA0
  rw [Try.params3] at hA hval
  obtain ⟨v0, vs0, d0, ds0, p0, q0, hargs, rfl, rfl, h0, r0⟩ := trodAll_cons hA
  obtain ⟨v1, vs1, d1, ds1, p1, q1, rfl, rfl, rfl, h1, r1⟩ := trodAll_cons r0
  obtain ⟨v2, vs2, d2, ds2, p2, q2, rfl, rfl, rfl, h2, r2⟩ := trodAll_cons r1
  obtain ⟨rfl, rfl, rfl⟩ := trodAll_nil r2
  obtain rfl : args = #[v0, v1, v2] := by cases args; simp_all
  obtain ⟨rfl, rfl⟩ := trodVars_none hV
  obtain ⟨a0, len0, cap0, rfl⟩ := okWide_slice Try.underlying22 (hval 0 22 v0 rfl rfl)
  have hk0 := h0
  obtain ⟨fuel0, hf0⟩ := h0
  obtain ⟨cs1, rfl, hcs1⟩ := okWide_struct Try.underlying24 (hval 1 24 v1 rfl rfl)
  have hk1 := h1
  obtain ⟨fuel1, hf1⟩ := h1
  obtain ⟨cs2, rfl, hcs2⟩ := okWide_array Try.underlying25 (hval 2 25 v2 rfl rfl)
  have hk2 := h2
  obtain ⟨fuel2, hf2⟩ := h2
  clear hA0 hval0
  simp only [List.append_nil] at hW'
  have hlt0 : ∀ x ∈ p0, x.block < W.heap.size := fun x hx => by simpa using hW'.lt x (by simp [hx])
  obtain ⟨ss0, hlen0, hmax0, hT0, hO0⟩ := rules_of hf0 hlt0
  subst hlen0
  have hlt1 : ∀ x ∈ p1, x.block < W.heap.size := fun x hx => by simpa using hW'.lt x (by simp [hx])
  obtain ⟨x1a, hit1, hf1a⟩ := open_req hf1
  obtain rfl : cs1 = qCs x1a := Array.toList_inj.1 hit1
  have hlt2 : ∀ x ∈ p2, x.block < W.heap.size := fun x hx => by simpa using hW'.lt x (by simp [hx])
  obtain ⟨x2a, hit2, hf2a⟩ := open_two21 hf2
  obtain rfl : cs2 = Two21.cs x2a := Array.toList_inj.1 hit2
  refine (pdec_law ss0 a0 cap0 hT0 hO0 hmax0 x1a hf1a x2a hf2a (w := W)).mono fun e W' ⟨he, hb⟩ => ?_
  subst he
  exact ⟨_, rfl, _, _, _, [], _, [], hW', trodAll_cons_mk (shut_bool Try.underlying4 _) trodAll_mk0, (trodAll_cons_mk (Below.trod laidOut (by kernel_rfl) (of_decide_eq_true (by kernel_rfl)) hk0 hb hlt0) (trodAll_cons_mk (Below.trod laidOut (by kernel_rfl) (of_decide_eq_true (by kernel_rfl)) hk1 hb hlt1) (trodAll_cons_mk (Below.trod laidOut (by kernel_rfl) (of_decide_eq_true (by kernel_rfl)) hk2 hb hlt2) trodAll_mk0))), rfl, hb.frame _, fun h => by cases h⟩
theorem over : Rows.policyDecidesRow.holds Try.pinned (OpenSpec.ofChange Rows.policyDecidesSpec) :=
  OpenClaim.holds_of_wide 3 Try.f3 rfl rfl rfl rfl rfl rfl rfl ⟨rfl, rfl, rfl, rfl, rfl⟩ rfl rfl rfl rfl rfl (by kernel_rfl) Try.func3 (by kernel_rfl)
    (of_decide_eq_true (by kernel_rfl)) (by unfold Func.isWrapper; first | (rw [if_pos (by decide +kernel)]; kernel_rfl) | (rw [if_neg (by decide +kernel)]; exact ⟨rfl, rfl⟩))
    (fun os started H enc _ => lifted os started H enc)
end Go.Proofs.Ytnkkbinbeildmaa.policyDecidesLaw

namespace Go.Proofs.Ytnkkbinbeildmaa
theorem policyDecides_said : Rows.PolicyDecidesSaid := policyDecidesLaw.over
end Go.Proofs.Ytnkkbinbeildmaa
