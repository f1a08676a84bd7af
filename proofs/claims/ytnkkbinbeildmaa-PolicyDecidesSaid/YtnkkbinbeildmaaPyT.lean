/- lockboxref20: Decide. -/
import Derived.Test.YtnkkbinbeildmaaPyS
import Derived.Test.YtnkkbinbeildmaaPyD
namespace Go.Proofs.Ytnkkbinbeildmaa
open Go.RowKit
set_option maxRecDepth 100000 in
set_option maxHeartbeats 8000000 in
theorem rdecide_any20 (l : List Py.R) (a0 : Option Addr) (cap : Nat) (q : Py.Q) (now opn : Int) (hsz : ∀ r ∈ l, RSz r) (hq : QSz q) (hqr : q.reason.size ≤ 900000) (w : World) (hT : RecsAt 7 ruCs w a0 l) (hm : l.length ≤ 1000000) :
    Calls Try.prog 13 #[.slice a0 l.length cap, qVal q, .int .i64 now, .int .i64 opn] w fun e w' => e = .returned (.tuple #[.int .i64 (Py.decI l q now opn).1, .int .i64 (Py.decI l q now opn).2]) ∧ Below w.heap.size w w' := by
  obtain ⟨P, hP⟩ : ∃ P, P = Py.decI l q now opn := ⟨_, rfl⟩
  rw [← hP]
  obtain ⟨w1, hw1⟩ : ∃ w1, w1 = w.alloc (.cells (qCs q) 36) := ⟨_, rfl⟩
  obtain ⟨gq, hgq⟩ : ∃ gq, gq = w.heap.size := ⟨_, rfl⟩
  have hb1 := box_below hw1
  have a1 : w1.heap[gq]? = some (.cells (qCs q) 36 (0, 0)) := by rw [hw1, hgq]; exact heap_alloc_new _ _
  have hck := rcheck_any20 l a0 cap hm hsz w1 (hT.below hb1)
  have hmay := fun W => rmay_any q hq.1 hq.2 W
  have hbx := fun (W : World) (hb : Below w1.heap.size w1 W) => (hb.block gq (pblt_of_heap a1)).trans a1
  have hrl := fun (W : World) (hb : Below w1.heap.size w1 W) => hT.below (hb1.trans (hb.mono hb1.size))
  have hbw := fun (W : World) (hb : Below w1.heap.size w1 W) => hb1.trans (hb.mono hb1.size)
  have hfit := fun (r : Py.R) (hr : r ∈ l) (W : World) => rfits_any r q now (hsz r hr) hq hqr W
  unfold qVal at hmay
  unfold Py.decI at hP
  obtain ⟨C, hC⟩ : ∃ C, C = Py.checkB l := ⟨_, rfl⟩
  obtain ⟨M, hM⟩ : ∃ M, M = Py.mayB q := ⟨_, rfl⟩
  obtain ⟨n, hn⟩ : ∃ n, n = l.length := ⟨_, rfl⟩
  rw [← hC] at hP hck
  rw [← hM] at hP hmay
  rw [← hn] at hck hm ⊢
  have H := Lib.hid (And.intro hck (And.intro hmay (And.intro hbx (And.intro hfit (And.intro hrl (And.intro hbw hn))))))
  have HA := Lib.hid a1
  clear hck hmay hbx hfit hrl hbw hn a1 hb1 hT hsz hq hqr hC hM
  unfold qVal
  unfold qCs at hw1
  cases C with
  | false =>
    have hP : P = (-1, 1) := hP
    have HP := Lib.hid hP
    clear hP
    go_enter Try.func13, Try.ntmps13
    go_upto_region 1 with fail
    rw [← hw1, ← hgq]
    clear hw1 hgq
    go_wp2_with fail
    refine H.out.1.mono ?_
    rintro e w2 ⟨rfl, hb2⟩
    have H2 := Lib.hid hb2
    clear hb2
    have X0 := H.out.2.2.1 w2 (H2.out)
    have d0 : w2.cell? ⟨gq, 0, none⟩ = some (.int .i64 q.id) := by rw [cell_of_row _ _ _ _ _ _ X0]; rfl
    have d1 : w2.cell? ⟨gq, 1, none⟩ = some (.string q.who) := by rw [cell_of_row _ _ _ _ _ _ X0]; rfl
    have d2 : w2.cell? ⟨gq, 2, none⟩ = some (.int .i64 q.entry) := by rw [cell_of_row _ _ _ _ _ _ X0]; rfl
    have d3 : w2.cell? ⟨gq, 3, none⟩ = some (.string q.reason) := by rw [cell_of_row _ _ _ _ _ _ X0]; rfl
    have d4 : w2.cell? ⟨gq, 4, none⟩ = some (.int .i64 q.exp) := by rw [cell_of_row _ _ _ _ _ _ X0]; rfl
    clear X0
    go_wp2_with fail
    go_ret2
    exact ⟨by rw [HP.out]; rfl, H.out.2.2.2.2.2.1 _ H2.out⟩
  | true =>
  cases M with
  | false =>
    have hP : P = (-1, 1) := hP
    have HP := Lib.hid hP
    clear hP
    go_enter Try.func13, Try.ntmps13
    go_upto_region 1 with fail
    rw [← hw1, ← hgq]
    clear hw1 hgq
    go_wp2_with fail
    refine H.out.1.mono ?_
    rintro e w2 ⟨rfl, hb2⟩
    have H2 := Lib.hid hb2
    clear hb2
    have X0 := H.out.2.2.1 w2 (H2.out)
    have d0 : w2.cell? ⟨gq, 0, none⟩ = some (.int .i64 q.id) := by rw [cell_of_row _ _ _ _ _ _ X0]; rfl
    have d1 : w2.cell? ⟨gq, 1, none⟩ = some (.string q.who) := by rw [cell_of_row _ _ _ _ _ _ X0]; rfl
    have d2 : w2.cell? ⟨gq, 2, none⟩ = some (.int .i64 q.entry) := by rw [cell_of_row _ _ _ _ _ _ X0]; rfl
    have d3 : w2.cell? ⟨gq, 3, none⟩ = some (.string q.reason) := by rw [cell_of_row _ _ _ _ _ _ X0]; rfl
    have d4 : w2.cell? ⟨gq, 4, none⟩ = some (.int .i64 q.exp) := by rw [cell_of_row _ _ _ _ _ _ X0]; rfl
    clear X0
    go_wp2_with fail
    refine (H.out.2.1 _).mono ?_
    rintro e w3 ⟨rfl, hb3⟩
    have H3 := Lib.hid (H2.out.trans (hb3.mono H2.out.size))
    clear hb3 d0 d1 d2 d3 d4
    have X0 := H.out.2.2.1 w3 (H3.out)
    have d4 : w3.cell? ⟨gq, 4, none⟩ = some (.int .i64 q.exp) := by rw [cell_of_row _ _ _ _ _ _ X0]; rfl
    clear X0
    go_wp2_with fail
    go_ret2
    exact ⟨by rw [HP.out]; rfl, H.out.2.2.2.2.2.1 _ H3.out⟩
  | true =>
  by_cases h0 : now < 0
  · have hP : P = (-1, 1) := by rw [hP, if_pos (by unfold Py.inB; rw [decide_eq_false (by omega)]; rfl)]
    have HP := Lib.hid hP
    clear hP
    go_enter Try.func13, Try.ntmps13
    go_upto_region 1 with fail
    rw [← hw1, ← hgq]
    clear hw1 hgq
    go_wp2_with fail
    refine H.out.1.mono ?_
    rintro e w2 ⟨rfl, hb2⟩
    have H2 := Lib.hid hb2
    clear hb2
    have X0 := H.out.2.2.1 w2 (H2.out)
    have d0 : w2.cell? ⟨gq, 0, none⟩ = some (.int .i64 q.id) := by rw [cell_of_row _ _ _ _ _ _ X0]; rfl
    have d1 : w2.cell? ⟨gq, 1, none⟩ = some (.string q.who) := by rw [cell_of_row _ _ _ _ _ _ X0]; rfl
    have d2 : w2.cell? ⟨gq, 2, none⟩ = some (.int .i64 q.entry) := by rw [cell_of_row _ _ _ _ _ _ X0]; rfl
    have d3 : w2.cell? ⟨gq, 3, none⟩ = some (.string q.reason) := by rw [cell_of_row _ _ _ _ _ _ X0]; rfl
    have d4 : w2.cell? ⟨gq, 4, none⟩ = some (.int .i64 q.exp) := by rw [cell_of_row _ _ _ _ _ _ X0]; rfl
    clear X0
    go_wp2_with fail
    refine (H.out.2.1 _).mono ?_
    rintro e w3 ⟨rfl, hb3⟩
    have H3 := Lib.hid (H2.out.trans (hb3.mono H2.out.size))
    clear hb3 d0 d1 d2 d3 d4
    have X0 := H.out.2.2.1 w3 (H3.out)
    have d4 : w3.cell? ⟨gq, 4, none⟩ = some (.int .i64 q.exp) := by rw [cell_of_row _ _ _ _ _ _ X0]; rfl
    clear X0
    go_wp2_with fail
    go_ret2
    exact ⟨by rw [HP.out]; rfl, H.out.2.2.2.2.2.1 _ H3.out⟩
  have g0 : ¬ (now < 0) := h0
  by_cases h1 : 1099511627776 < now
  · have hP : P = (-1, 1) := by rw [hP, if_pos (by unfold Py.inB; rw [decide_eq_false (show ¬ (now ≤ 1099511627776) by omega), Bool.and_false, Bool.and_false]; rfl)]
    clear h0
    have HP := Lib.hid hP
    clear hP
    go_enter Try.func13, Try.ntmps13
    go_upto_region 1 with fail
    rw [← hw1, ← hgq]
    clear hw1 hgq
    go_wp2_with fail
    refine H.out.1.mono ?_
    rintro e w2 ⟨rfl, hb2⟩
    have H2 := Lib.hid hb2
    clear hb2
    have X0 := H.out.2.2.1 w2 (H2.out)
    have d0 : w2.cell? ⟨gq, 0, none⟩ = some (.int .i64 q.id) := by rw [cell_of_row _ _ _ _ _ _ X0]; rfl
    have d1 : w2.cell? ⟨gq, 1, none⟩ = some (.string q.who) := by rw [cell_of_row _ _ _ _ _ _ X0]; rfl
    have d2 : w2.cell? ⟨gq, 2, none⟩ = some (.int .i64 q.entry) := by rw [cell_of_row _ _ _ _ _ _ X0]; rfl
    have d3 : w2.cell? ⟨gq, 3, none⟩ = some (.string q.reason) := by rw [cell_of_row _ _ _ _ _ _ X0]; rfl
    have d4 : w2.cell? ⟨gq, 4, none⟩ = some (.int .i64 q.exp) := by rw [cell_of_row _ _ _ _ _ _ X0]; rfl
    clear X0
    go_wp2_with fail
    refine (H.out.2.1 _).mono ?_
    rintro e w3 ⟨rfl, hb3⟩
    have H3 := Lib.hid (H2.out.trans (hb3.mono H2.out.size))
    clear hb3 d0 d1 d2 d3 d4
    have X0 := H.out.2.2.1 w3 (H3.out)
    have d4 : w3.cell? ⟨gq, 4, none⟩ = some (.int .i64 q.exp) := by rw [cell_of_row _ _ _ _ _ _ X0]; rfl
    clear X0
    go_wp2_with fail
    go_ret2
    exact ⟨by rw [HP.out]; rfl, H.out.2.2.2.2.2.1 _ H3.out⟩
  have g1 : ¬ (1099511627776 < now) := h1
  have hI : Py.inB now 0 1099511627776 = true := by unfold Py.inB; rw [decide_eq_true (by omega), decide_eq_true (by omega)]; rfl
  rw [hI] at hP
  clear h0 h1 hI
  by_cases ho : opn < 0
  · have hP : P = (-1, 1) := by rw [hP, decide_eq_false (by omega)]; rfl
    have HP := Lib.hid hP
    clear hP
    go_enter Try.func13, Try.ntmps13
    go_upto_region 1 with fail
    rw [← hw1, ← hgq]
    clear hw1 hgq
    go_wp2_with fail
    refine H.out.1.mono ?_
    rintro e w2 ⟨rfl, hb2⟩
    have H2 := Lib.hid hb2
    clear hb2
    have X0 := H.out.2.2.1 w2 (H2.out)
    have d0 : w2.cell? ⟨gq, 0, none⟩ = some (.int .i64 q.id) := by rw [cell_of_row _ _ _ _ _ _ X0]; rfl
    have d1 : w2.cell? ⟨gq, 1, none⟩ = some (.string q.who) := by rw [cell_of_row _ _ _ _ _ _ X0]; rfl
    have d2 : w2.cell? ⟨gq, 2, none⟩ = some (.int .i64 q.entry) := by rw [cell_of_row _ _ _ _ _ _ X0]; rfl
    have d3 : w2.cell? ⟨gq, 3, none⟩ = some (.string q.reason) := by rw [cell_of_row _ _ _ _ _ _ X0]; rfl
    have d4 : w2.cell? ⟨gq, 4, none⟩ = some (.int .i64 q.exp) := by rw [cell_of_row _ _ _ _ _ _ X0]; rfl
    clear X0
    go_wp2_with fail
    refine (H.out.2.1 _).mono ?_
    rintro e w3 ⟨rfl, hb3⟩
    have H3 := Lib.hid (H2.out.trans (hb3.mono H2.out.size))
    clear hb3 d0 d1 d2 d3 d4
    have X0 := H.out.2.2.1 w3 (H3.out)
    have d4 : w3.cell? ⟨gq, 4, none⟩ = some (.int .i64 q.exp) := by rw [cell_of_row _ _ _ _ _ _ X0]; rfl
    clear X0
    go_wp2_with fail
    go_ret2
    exact ⟨by rw [HP.out]; rfl, H.out.2.2.2.2.2.1 _ H3.out⟩
  have go : ¬ (opn < 0) := ho
  rw [decide_eq_true (by omega), if_neg (show ¬ ((true && true && true && true) = false) by decide)] at hP
  clear ho
  by_cases hx : q.exp < now
  · rw [if_pos hx] at hP
    have HP := Lib.hid hP
    clear hP
    go_enter Try.func13, Try.ntmps13
    go_upto_region 1 with fail
    rw [← hw1, ← hgq]
    clear hw1 hgq
    go_wp2_with fail
    refine H.out.1.mono ?_
    rintro e w2 ⟨rfl, hb2⟩
    have H2 := Lib.hid hb2
    clear hb2
    have X0 := H.out.2.2.1 w2 (H2.out)
    have d0 : w2.cell? ⟨gq, 0, none⟩ = some (.int .i64 q.id) := by rw [cell_of_row _ _ _ _ _ _ X0]; rfl
    have d1 : w2.cell? ⟨gq, 1, none⟩ = some (.string q.who) := by rw [cell_of_row _ _ _ _ _ _ X0]; rfl
    have d2 : w2.cell? ⟨gq, 2, none⟩ = some (.int .i64 q.entry) := by rw [cell_of_row _ _ _ _ _ _ X0]; rfl
    have d3 : w2.cell? ⟨gq, 3, none⟩ = some (.string q.reason) := by rw [cell_of_row _ _ _ _ _ _ X0]; rfl
    have d4 : w2.cell? ⟨gq, 4, none⟩ = some (.int .i64 q.exp) := by rw [cell_of_row _ _ _ _ _ _ X0]; rfl
    clear X0
    go_wp2_with fail
    refine (H.out.2.1 _).mono ?_
    rintro e w3 ⟨rfl, hb3⟩
    have H3 := Lib.hid (H2.out.trans (hb3.mono H2.out.size))
    clear hb3 d0 d1 d2 d3 d4
    have X0 := H.out.2.2.1 w3 (H3.out)
    have d4 : w3.cell? ⟨gq, 4, none⟩ = some (.int .i64 q.exp) := by rw [cell_of_row _ _ _ _ _ _ X0]; rfl
    clear X0
    go_wp2_with fail
    go_ret2
    exact ⟨by rw [HP.out]; rfl, H.out.2.2.2.2.2.1 _ H3.out⟩
  rw [if_neg hx] at hP
  have gx : ¬ (q.exp < now) := hx
  clear hx
  have HP := Lib.hid hP
  clear hP
  go_enter Try.func13, Try.ntmps13
  go_upto_region 1 with fail
  rw [← hw1, ← hgq]
  clear hw1 hgq
  go_wp2_with fail
  refine H.out.1.mono ?_
  rintro e w2 ⟨rfl, hb2⟩
  have H2 := Lib.hid hb2
  clear hb2
  have X0 := H.out.2.2.1 w2 (H2.out)
  have d0 : w2.cell? ⟨gq, 0, none⟩ = some (.int .i64 q.id) := by rw [cell_of_row _ _ _ _ _ _ X0]; rfl
  have d1 : w2.cell? ⟨gq, 1, none⟩ = some (.string q.who) := by rw [cell_of_row _ _ _ _ _ _ X0]; rfl
  have d2 : w2.cell? ⟨gq, 2, none⟩ = some (.int .i64 q.entry) := by rw [cell_of_row _ _ _ _ _ _ X0]; rfl
  have d3 : w2.cell? ⟨gq, 3, none⟩ = some (.string q.reason) := by rw [cell_of_row _ _ _ _ _ _ X0]; rfl
  have d4 : w2.cell? ⟨gq, 4, none⟩ = some (.int .i64 q.exp) := by rw [cell_of_row _ _ _ _ _ _ X0]; rfl
  clear X0
  go_wp2_with fail
  refine (H.out.2.1 _).mono ?_
  rintro e w3 ⟨rfl, hb3⟩
  have H3 := Lib.hid (H2.out.trans (hb3.mono H2.out.size))
  clear hb3 d0 d1 d2 d3 d4
  have X0 := H.out.2.2.1 w3 (H3.out)
  have d4 : w3.cell? ⟨gq, 4, none⟩ = some (.int .i64 q.exp) := by rw [cell_of_row _ _ _ _ _ _ X0]; rfl
  clear X0
  go_wp2_with fail
  clear d4
  go_loopw [10] (fun v wr => ∃ i : Nat, i ≤ n ∧ v = .int .i64 (i : Int) ∧ Below w3.heap.size w3 wr ∧ ∀ j, j < i → ∀ y, l[j]? = some y → Py.fitsB y q now = false) (fun v _ => n - (intOf v).toNat)
  case atStart => exact ⟨0, by omega, rfl, Below.refl _ _, fun j hj => absurd hj (by omega)⟩
  case round =>
    obtain ⟨i, hi, rfl, hb, hall⟩ := hrel
    by_cases hlt : i < n
    rotate_left
    · obtain rfl : n = i := by omega
      have hf : P = (-1, 10) := by
        have h5 : Py.first (fun r => Py.fitsB r q now) l = l.length := Py.first_none fun y hy => by
          obtain ⟨j, hj⟩ := List.mem_iff_getElem?.1 hy
          exact hall j (by have := (List.getElem?_eq_some_iff.1 hj).1; have := H.out.2.2.2.2.2.2; omega) y hj
        rw [HP.out, h5, List.getElem?_eq_none (Nat.le_refl _)]
      have HF := Lib.hid (And.intro hf hb)
      clear hb hall hf
      go_wp2_with fail
      go_ret2
      exact ⟨by rw [HF.out.1]; rfl, H.out.2.2.2.2.2.1 _ (H3.out.trans (HF.out.2.mono H3.out.size))⟩
    obtain ⟨r, hr⟩ : ∃ r, l[i]? = some r := ⟨_, List.getElem?_eq_getElem (by have := H.out.2.2.2.2.2.2; omega)⟩
    have hbr := H3.out.trans (hb.mono H3.out.size)
    obtain ⟨bb, off, rfl, hbl, hc⟩ := H.out.2.2.2.2.1 wr hbr i r hr
    have hfr := fun W => H.out.2.2.2.1 r (List.mem_of_getElem? hr) W
    unfold ruVal qVal at hfr
    have hone : Py.fitsB r q now = true → P = ((i : Int), Py.allowI r opn) := fun hd => by
      have h5 : Py.first (fun r => Py.fitsB r q now) l = i := Py.first_is hall hr hd
      rw [HP.out, h5, hr]
    have hall' : Py.fitsB r q now = false → ∀ j, j < i + 1 → ∀ y, l[j]? = some y → Py.fitsB y q now = false := fun hd j hj y hy => by
      by_cases e : j = i
      · subst e; rw [hr] at hy; injection hy with hy; subst hy; exact hd
      · exact hall j (by omega) y hy
    have hcc := fun (W : World) (hb2 : Below wr.heap.size wr W) (m : Nat) (hm : m < 7) => (hb2.cell (p := ⟨bb, off + i * 7 + m, none⟩) hbl).trans (hc m hm)
    have HX := Lib.hid (And.intro hfr (And.intro hone (And.intro hall' (And.intro hcc (And.intro hbr (And.intro hb (And.intro hbl hc)))))))
    clear hfr hone hall hall' hcc hbr hb hbl hc hr
    obtain ⟨V, hV⟩ : ∃ V, V = Py.fitsB r q now := ⟨_, rfl⟩
    rw [← hV] at HX
    clear hV
    cases V with
    | false =>
      go_upto_region 8 with fail
      refine wp_region_held (S := fun W : World => ((W.heap[gq]? = some (.cells (qCs q) 36 (0, 0)) ∧ bb < W.heap.size) ∧ ∀ m, m < 7 → W.cell? ⟨bb, off + i * 7 + m, none⟩ = (ruCs r)[m]?)) (by kernel_rfl) ?_
      change wpAnyH _ _ _ _ _ _ _ _ (World.drew _)
      generalize hv0 : World.drew _ = v0
      have E0 : ((v0.heap[gq]? = some (.cells (qCs q) 36 (0, 0)) ∧ bb < v0.heap.size) ∧ ∀ m, m < 7 → v0.cell? ⟨bb, off + i * 7 + m, none⟩ = (ruCs r)[m]?) := by rw [← hv0]; exact ⟨⟨H.out.2.2.1 wr HX.out.2.2.2.2.1, HX.out.2.2.2.2.2.2.1⟩, HX.out.2.2.2.2.2.2.2⟩
      have F0 : Below wr.heap.size wr v0 := by rw [← hv0]; exact ((Below.refl _ _).drew)
      clear hv0
      refine wpAnyH_take (i := 0) (v := ?_) rfl (by kernel_rfl) (by kernel_rfl) (by kernel_rfl) (fun _ _ _ h => h) (Or.inl ⟨by kernel_rfl, ?_⟩) E0 ?_
      rotate_left
      · (intro W hS; have d0 : W.cell? ⟨gq, 0, none⟩ = some (.int .i64 q.id) := (by rw [cell_of_row _ _ _ _ _ _ hS.1.1]; rfl); have d1 : W.cell? ⟨gq, 1, none⟩ = some (.string q.who) := (by rw [cell_of_row _ _ _ _ _ _ hS.1.1]; rfl); have d2 : W.cell? ⟨gq, 2, none⟩ = some (.int .i64 q.entry) := (by rw [cell_of_row _ _ _ _ _ _ hS.1.1]; rfl); have d3 : W.cell? ⟨gq, 3, none⟩ = some (.string q.reason) := (by rw [cell_of_row _ _ _ _ _ _ hS.1.1]; rfl); have d4 : W.cell? ⟨gq, 4, none⟩ = some (.int .i64 q.exp) := (by rw [cell_of_row _ _ _ _ _ _ hS.1.1]; rfl); have j0 : W.cell? ⟨bb, off + i * 7, none⟩ = some (.string r.who) := hS.2 0 (by omega); have j1 : W.cell? ⟨bb, off + i * 7 + 1, none⟩ = some (.string r.word) := hS.2 1 (by omega); have j2 : W.cell? ⟨bb, off + i * 7 + 2, none⟩ = some (.int .i64 r.fr) := hS.2 2 (by omega); have j3 : W.cell? ⟨bb, off + i * 7 + 3, none⟩ = some (.int .i64 r.to) := hS.2 3 (by omega); have j4 : W.cell? ⟨bb, off + i * 7 + 4, none⟩ = some (.int .i64 r.un) := hS.2 4 (by omega); have j5 : W.cell? ⟨bb, off + i * 7 + 5, none⟩ = some (.int .i64 r.mo) := hS.2 5 (by omega); have j6 : W.cell? ⟨bb, off + i * 7 + 6, none⟩ = some (.bool r.allow) := hS.2 6 (by omega); clear hS; go_simp; try (with_reducible rfl))
      refine wpAnyH_take (i := 1) (v := ?_) rfl (by kernel_rfl) (by kernel_rfl) (by kernel_rfl) (fun _ _ _ h => h) (Or.inl ⟨by kernel_rfl, ?_⟩) E0 ?_
      rotate_left
      · (intro W hS; have d0 : W.cell? ⟨gq, 0, none⟩ = some (.int .i64 q.id) := (by rw [cell_of_row _ _ _ _ _ _ hS.1.1]; rfl); have d1 : W.cell? ⟨gq, 1, none⟩ = some (.string q.who) := (by rw [cell_of_row _ _ _ _ _ _ hS.1.1]; rfl); have d2 : W.cell? ⟨gq, 2, none⟩ = some (.int .i64 q.entry) := (by rw [cell_of_row _ _ _ _ _ _ hS.1.1]; rfl); have d3 : W.cell? ⟨gq, 3, none⟩ = some (.string q.reason) := (by rw [cell_of_row _ _ _ _ _ _ hS.1.1]; rfl); have d4 : W.cell? ⟨gq, 4, none⟩ = some (.int .i64 q.exp) := (by rw [cell_of_row _ _ _ _ _ _ hS.1.1]; rfl); have j0 : W.cell? ⟨bb, off + i * 7, none⟩ = some (.string r.who) := hS.2 0 (by omega); have j1 : W.cell? ⟨bb, off + i * 7 + 1, none⟩ = some (.string r.word) := hS.2 1 (by omega); have j2 : W.cell? ⟨bb, off + i * 7 + 2, none⟩ = some (.int .i64 r.fr) := hS.2 2 (by omega); have j3 : W.cell? ⟨bb, off + i * 7 + 3, none⟩ = some (.int .i64 r.to) := hS.2 3 (by omega); have j4 : W.cell? ⟨bb, off + i * 7 + 4, none⟩ = some (.int .i64 r.un) := hS.2 4 (by omega); have j5 : W.cell? ⟨bb, off + i * 7 + 5, none⟩ = some (.int .i64 r.mo) := hS.2 5 (by omega); have j6 : W.cell? ⟨bb, off + i * 7 + 6, none⟩ = some (.bool r.allow) := hS.2 6 (by omega); clear hS; go_simp; try (with_reducible rfl))
      refine wpAnyH_take (i := 2) (v := ?_) rfl (by kernel_rfl) (by kernel_rfl) (by kernel_rfl) (fun _ _ _ h => h) (Or.inl ⟨by kernel_rfl, ?_⟩) E0 ?_
      rotate_left
      · (intro W hS; have d0 : W.cell? ⟨gq, 0, none⟩ = some (.int .i64 q.id) := (by rw [cell_of_row _ _ _ _ _ _ hS.1.1]; rfl); have d1 : W.cell? ⟨gq, 1, none⟩ = some (.string q.who) := (by rw [cell_of_row _ _ _ _ _ _ hS.1.1]; rfl); have d2 : W.cell? ⟨gq, 2, none⟩ = some (.int .i64 q.entry) := (by rw [cell_of_row _ _ _ _ _ _ hS.1.1]; rfl); have d3 : W.cell? ⟨gq, 3, none⟩ = some (.string q.reason) := (by rw [cell_of_row _ _ _ _ _ _ hS.1.1]; rfl); have d4 : W.cell? ⟨gq, 4, none⟩ = some (.int .i64 q.exp) := (by rw [cell_of_row _ _ _ _ _ _ hS.1.1]; rfl); have j0 : W.cell? ⟨bb, off + i * 7, none⟩ = some (.string r.who) := hS.2 0 (by omega); have j1 : W.cell? ⟨bb, off + i * 7 + 1, none⟩ = some (.string r.word) := hS.2 1 (by omega); have j2 : W.cell? ⟨bb, off + i * 7 + 2, none⟩ = some (.int .i64 r.fr) := hS.2 2 (by omega); have j3 : W.cell? ⟨bb, off + i * 7 + 3, none⟩ = some (.int .i64 r.to) := hS.2 3 (by omega); have j4 : W.cell? ⟨bb, off + i * 7 + 4, none⟩ = some (.int .i64 r.un) := hS.2 4 (by omega); have j5 : W.cell? ⟨bb, off + i * 7 + 5, none⟩ = some (.int .i64 r.mo) := hS.2 5 (by omega); have j6 : W.cell? ⟨bb, off + i * 7 + 6, none⟩ = some (.bool r.allow) := hS.2 6 (by omega); clear hS; go_simp; try (with_reducible rfl))
      refine wpAnyH_take (i := 3) (v := ?_) rfl (by kernel_rfl) (by kernel_rfl) (by kernel_rfl) (fun _ _ _ h => h) (Or.inl ⟨by kernel_rfl, ?_⟩) E0 ?_
      rotate_left
      · (intro W hS; have d0 : W.cell? ⟨gq, 0, none⟩ = some (.int .i64 q.id) := (by rw [cell_of_row _ _ _ _ _ _ hS.1.1]; rfl); have d1 : W.cell? ⟨gq, 1, none⟩ = some (.string q.who) := (by rw [cell_of_row _ _ _ _ _ _ hS.1.1]; rfl); have d2 : W.cell? ⟨gq, 2, none⟩ = some (.int .i64 q.entry) := (by rw [cell_of_row _ _ _ _ _ _ hS.1.1]; rfl); have d3 : W.cell? ⟨gq, 3, none⟩ = some (.string q.reason) := (by rw [cell_of_row _ _ _ _ _ _ hS.1.1]; rfl); have d4 : W.cell? ⟨gq, 4, none⟩ = some (.int .i64 q.exp) := (by rw [cell_of_row _ _ _ _ _ _ hS.1.1]; rfl); have j0 : W.cell? ⟨bb, off + i * 7, none⟩ = some (.string r.who) := hS.2 0 (by omega); have j1 : W.cell? ⟨bb, off + i * 7 + 1, none⟩ = some (.string r.word) := hS.2 1 (by omega); have j2 : W.cell? ⟨bb, off + i * 7 + 2, none⟩ = some (.int .i64 r.fr) := hS.2 2 (by omega); have j3 : W.cell? ⟨bb, off + i * 7 + 3, none⟩ = some (.int .i64 r.to) := hS.2 3 (by omega); have j4 : W.cell? ⟨bb, off + i * 7 + 4, none⟩ = some (.int .i64 r.un) := hS.2 4 (by omega); have j5 : W.cell? ⟨bb, off + i * 7 + 5, none⟩ = some (.int .i64 r.mo) := hS.2 5 (by omega); have j6 : W.cell? ⟨bb, off + i * 7 + 6, none⟩ = some (.bool r.allow) := hS.2 6 (by omega); clear hS; go_simp; try (with_reducible rfl))
      refine wpAnyH_take (i := 4) (v := ?_) rfl (by kernel_rfl) (by kernel_rfl) (by kernel_rfl) (fun _ _ _ h => h) (Or.inl ⟨by kernel_rfl, ?_⟩) E0 ?_
      rotate_left
      · (intro W hS; have d0 : W.cell? ⟨gq, 0, none⟩ = some (.int .i64 q.id) := (by rw [cell_of_row _ _ _ _ _ _ hS.1.1]; rfl); have d1 : W.cell? ⟨gq, 1, none⟩ = some (.string q.who) := (by rw [cell_of_row _ _ _ _ _ _ hS.1.1]; rfl); have d2 : W.cell? ⟨gq, 2, none⟩ = some (.int .i64 q.entry) := (by rw [cell_of_row _ _ _ _ _ _ hS.1.1]; rfl); have d3 : W.cell? ⟨gq, 3, none⟩ = some (.string q.reason) := (by rw [cell_of_row _ _ _ _ _ _ hS.1.1]; rfl); have d4 : W.cell? ⟨gq, 4, none⟩ = some (.int .i64 q.exp) := (by rw [cell_of_row _ _ _ _ _ _ hS.1.1]; rfl); have j0 : W.cell? ⟨bb, off + i * 7, none⟩ = some (.string r.who) := hS.2 0 (by omega); have j1 : W.cell? ⟨bb, off + i * 7 + 1, none⟩ = some (.string r.word) := hS.2 1 (by omega); have j2 : W.cell? ⟨bb, off + i * 7 + 2, none⟩ = some (.int .i64 r.fr) := hS.2 2 (by omega); have j3 : W.cell? ⟨bb, off + i * 7 + 3, none⟩ = some (.int .i64 r.to) := hS.2 3 (by omega); have j4 : W.cell? ⟨bb, off + i * 7 + 4, none⟩ = some (.int .i64 r.un) := hS.2 4 (by omega); have j5 : W.cell? ⟨bb, off + i * 7 + 5, none⟩ = some (.int .i64 r.mo) := hS.2 5 (by omega); have j6 : W.cell? ⟨bb, off + i * 7 + 6, none⟩ = some (.bool r.allow) := hS.2 6 (by omega); clear hS; go_simp; try (with_reducible rfl))
      refine wpAnyH_take (i := 5) (v := ?_) rfl (by kernel_rfl) (by kernel_rfl) (by kernel_rfl) (fun _ _ _ h => h) (Or.inl ⟨by kernel_rfl, ?_⟩) E0 ?_
      rotate_left
      · (intro W hS; have d0 : W.cell? ⟨gq, 0, none⟩ = some (.int .i64 q.id) := (by rw [cell_of_row _ _ _ _ _ _ hS.1.1]; rfl); have d1 : W.cell? ⟨gq, 1, none⟩ = some (.string q.who) := (by rw [cell_of_row _ _ _ _ _ _ hS.1.1]; rfl); have d2 : W.cell? ⟨gq, 2, none⟩ = some (.int .i64 q.entry) := (by rw [cell_of_row _ _ _ _ _ _ hS.1.1]; rfl); have d3 : W.cell? ⟨gq, 3, none⟩ = some (.string q.reason) := (by rw [cell_of_row _ _ _ _ _ _ hS.1.1]; rfl); have d4 : W.cell? ⟨gq, 4, none⟩ = some (.int .i64 q.exp) := (by rw [cell_of_row _ _ _ _ _ _ hS.1.1]; rfl); have j0 : W.cell? ⟨bb, off + i * 7, none⟩ = some (.string r.who) := hS.2 0 (by omega); have j1 : W.cell? ⟨bb, off + i * 7 + 1, none⟩ = some (.string r.word) := hS.2 1 (by omega); have j2 : W.cell? ⟨bb, off + i * 7 + 2, none⟩ = some (.int .i64 r.fr) := hS.2 2 (by omega); have j3 : W.cell? ⟨bb, off + i * 7 + 3, none⟩ = some (.int .i64 r.to) := hS.2 3 (by omega); have j4 : W.cell? ⟨bb, off + i * 7 + 4, none⟩ = some (.int .i64 r.un) := hS.2 4 (by omega); have j5 : W.cell? ⟨bb, off + i * 7 + 5, none⟩ = some (.int .i64 r.mo) := hS.2 5 (by omega); have j6 : W.cell? ⟨bb, off + i * 7 + 6, none⟩ = some (.bool r.allow) := hS.2 6 (by omega); clear hS; go_simp; try (with_reducible rfl))
      refine wpAnyH_ready (rs := [6]) (by kernel_rfl) (by simp) ?_
      refine AllReadyH.cons (i := 6) rfl (fun K hK => ?_) AllReadyH.nil
      go_simp
      refine (HX.out.1 v0).mono ?_
      rintro e v1 ⟨rfl, hb⟩
      have F1 := F0.trans (hb.mono F0.size)
      have E1 : ((v1.heap[gq]? = some (.cells (qCs q) 36 (0, 0)) ∧ bb < v1.heap.size) ∧ ∀ m, m < 7 → v1.cell? ⟨bb, off + i * 7 + m, none⟩ = (ruCs r)[m]?) := ⟨⟨(hb.block _ (pblt_of_heap E0.1.1)).trans E0.1.1, Nat.lt_of_lt_of_le E0.1.2 hb.size⟩, fun m hm => (hb.cell (p := ⟨bb, off + i * 7 + m, none⟩) E0.1.2).trans (E0.2 m hm)⟩
      refine hK.out _ _ E1 (fun hE => ?_)
      clear hE hK K hb
      refine wpAnyH_take (i := 7) (v := ?_) rfl (by kernel_rfl) (by kernel_rfl) (by kernel_rfl) (fun _ _ _ h => h) (Or.inl ⟨by kernel_rfl, ?_⟩) E1 ?_
      rotate_left
      · (intro W hS; have d0 : W.cell? ⟨gq, 0, none⟩ = some (.int .i64 q.id) := (by rw [cell_of_row _ _ _ _ _ _ hS.1.1]; rfl); have d1 : W.cell? ⟨gq, 1, none⟩ = some (.string q.who) := (by rw [cell_of_row _ _ _ _ _ _ hS.1.1]; rfl); have d2 : W.cell? ⟨gq, 2, none⟩ = some (.int .i64 q.entry) := (by rw [cell_of_row _ _ _ _ _ _ hS.1.1]; rfl); have d3 : W.cell? ⟨gq, 3, none⟩ = some (.string q.reason) := (by rw [cell_of_row _ _ _ _ _ _ hS.1.1]; rfl); have d4 : W.cell? ⟨gq, 4, none⟩ = some (.int .i64 q.exp) := (by rw [cell_of_row _ _ _ _ _ _ hS.1.1]; rfl); have j0 : W.cell? ⟨bb, off + i * 7, none⟩ = some (.string r.who) := hS.2 0 (by omega); have j1 : W.cell? ⟨bb, off + i * 7 + 1, none⟩ = some (.string r.word) := hS.2 1 (by omega); have j2 : W.cell? ⟨bb, off + i * 7 + 2, none⟩ = some (.int .i64 r.fr) := hS.2 2 (by omega); have j3 : W.cell? ⟨bb, off + i * 7 + 3, none⟩ = some (.int .i64 r.to) := hS.2 3 (by omega); have j4 : W.cell? ⟨bb, off + i * 7 + 4, none⟩ = some (.int .i64 r.un) := hS.2 4 (by omega); have j5 : W.cell? ⟨bb, off + i * 7 + 5, none⟩ = some (.int .i64 r.mo) := hS.2 5 (by omega); have j6 : W.cell? ⟨bb, off + i * 7 + 6, none⟩ = some (.bool r.allow) := hS.2 6 (by omega); clear hS; go_simp; try (with_reducible rfl))
      refine wpAnyH_done (by kernel_rfl) ?_ _
      have HF := Lib.hid (And.intro F1 E1.2)
      clear E0 E1 F0 F1
      go_simp
      go_wp2_with fail
      go_roundw
      case rel => exact ⟨i + 1, by omega, by go_num, HX.out.2.2.2.2.2.1.trans (HF.out.1.mono HX.out.2.2.2.2.2.1.size), HX.out.2.2.1 (by first | rfl | trivial)⟩
      case measure => simp [intOf]; omega
    | true =>
      go_upto_region 8 with fail
      refine wp_region_held (S := fun W : World => ((W.heap[gq]? = some (.cells (qCs q) 36 (0, 0)) ∧ bb < W.heap.size) ∧ ∀ m, m < 7 → W.cell? ⟨bb, off + i * 7 + m, none⟩ = (ruCs r)[m]?)) (by kernel_rfl) ?_
      change wpAnyH _ _ _ _ _ _ _ _ (World.drew _)
      generalize hv0 : World.drew _ = v0
      have E0 : ((v0.heap[gq]? = some (.cells (qCs q) 36 (0, 0)) ∧ bb < v0.heap.size) ∧ ∀ m, m < 7 → v0.cell? ⟨bb, off + i * 7 + m, none⟩ = (ruCs r)[m]?) := by rw [← hv0]; exact ⟨⟨H.out.2.2.1 wr HX.out.2.2.2.2.1, HX.out.2.2.2.2.2.2.1⟩, HX.out.2.2.2.2.2.2.2⟩
      have F0 : Below wr.heap.size wr v0 := by rw [← hv0]; exact ((Below.refl _ _).drew)
      clear hv0
      refine wpAnyH_take (i := 0) (v := ?_) rfl (by kernel_rfl) (by kernel_rfl) (by kernel_rfl) (fun _ _ _ h => h) (Or.inl ⟨by kernel_rfl, ?_⟩) E0 ?_
      rotate_left
      · (intro W hS; have d0 : W.cell? ⟨gq, 0, none⟩ = some (.int .i64 q.id) := (by rw [cell_of_row _ _ _ _ _ _ hS.1.1]; rfl); have d1 : W.cell? ⟨gq, 1, none⟩ = some (.string q.who) := (by rw [cell_of_row _ _ _ _ _ _ hS.1.1]; rfl); have d2 : W.cell? ⟨gq, 2, none⟩ = some (.int .i64 q.entry) := (by rw [cell_of_row _ _ _ _ _ _ hS.1.1]; rfl); have d3 : W.cell? ⟨gq, 3, none⟩ = some (.string q.reason) := (by rw [cell_of_row _ _ _ _ _ _ hS.1.1]; rfl); have d4 : W.cell? ⟨gq, 4, none⟩ = some (.int .i64 q.exp) := (by rw [cell_of_row _ _ _ _ _ _ hS.1.1]; rfl); have j0 : W.cell? ⟨bb, off + i * 7, none⟩ = some (.string r.who) := hS.2 0 (by omega); have j1 : W.cell? ⟨bb, off + i * 7 + 1, none⟩ = some (.string r.word) := hS.2 1 (by omega); have j2 : W.cell? ⟨bb, off + i * 7 + 2, none⟩ = some (.int .i64 r.fr) := hS.2 2 (by omega); have j3 : W.cell? ⟨bb, off + i * 7 + 3, none⟩ = some (.int .i64 r.to) := hS.2 3 (by omega); have j4 : W.cell? ⟨bb, off + i * 7 + 4, none⟩ = some (.int .i64 r.un) := hS.2 4 (by omega); have j5 : W.cell? ⟨bb, off + i * 7 + 5, none⟩ = some (.int .i64 r.mo) := hS.2 5 (by omega); have j6 : W.cell? ⟨bb, off + i * 7 + 6, none⟩ = some (.bool r.allow) := hS.2 6 (by omega); clear hS; go_simp; try (with_reducible rfl))
      refine wpAnyH_take (i := 1) (v := ?_) rfl (by kernel_rfl) (by kernel_rfl) (by kernel_rfl) (fun _ _ _ h => h) (Or.inl ⟨by kernel_rfl, ?_⟩) E0 ?_
      rotate_left
      · (intro W hS; have d0 : W.cell? ⟨gq, 0, none⟩ = some (.int .i64 q.id) := (by rw [cell_of_row _ _ _ _ _ _ hS.1.1]; rfl); have d1 : W.cell? ⟨gq, 1, none⟩ = some (.string q.who) := (by rw [cell_of_row _ _ _ _ _ _ hS.1.1]; rfl); have d2 : W.cell? ⟨gq, 2, none⟩ = some (.int .i64 q.entry) := (by rw [cell_of_row _ _ _ _ _ _ hS.1.1]; rfl); have d3 : W.cell? ⟨gq, 3, none⟩ = some (.string q.reason) := (by rw [cell_of_row _ _ _ _ _ _ hS.1.1]; rfl); have d4 : W.cell? ⟨gq, 4, none⟩ = some (.int .i64 q.exp) := (by rw [cell_of_row _ _ _ _ _ _ hS.1.1]; rfl); have j0 : W.cell? ⟨bb, off + i * 7, none⟩ = some (.string r.who) := hS.2 0 (by omega); have j1 : W.cell? ⟨bb, off + i * 7 + 1, none⟩ = some (.string r.word) := hS.2 1 (by omega); have j2 : W.cell? ⟨bb, off + i * 7 + 2, none⟩ = some (.int .i64 r.fr) := hS.2 2 (by omega); have j3 : W.cell? ⟨bb, off + i * 7 + 3, none⟩ = some (.int .i64 r.to) := hS.2 3 (by omega); have j4 : W.cell? ⟨bb, off + i * 7 + 4, none⟩ = some (.int .i64 r.un) := hS.2 4 (by omega); have j5 : W.cell? ⟨bb, off + i * 7 + 5, none⟩ = some (.int .i64 r.mo) := hS.2 5 (by omega); have j6 : W.cell? ⟨bb, off + i * 7 + 6, none⟩ = some (.bool r.allow) := hS.2 6 (by omega); clear hS; go_simp; try (with_reducible rfl))
      refine wpAnyH_take (i := 2) (v := ?_) rfl (by kernel_rfl) (by kernel_rfl) (by kernel_rfl) (fun _ _ _ h => h) (Or.inl ⟨by kernel_rfl, ?_⟩) E0 ?_
      rotate_left
      · (intro W hS; have d0 : W.cell? ⟨gq, 0, none⟩ = some (.int .i64 q.id) := (by rw [cell_of_row _ _ _ _ _ _ hS.1.1]; rfl); have d1 : W.cell? ⟨gq, 1, none⟩ = some (.string q.who) := (by rw [cell_of_row _ _ _ _ _ _ hS.1.1]; rfl); have d2 : W.cell? ⟨gq, 2, none⟩ = some (.int .i64 q.entry) := (by rw [cell_of_row _ _ _ _ _ _ hS.1.1]; rfl); have d3 : W.cell? ⟨gq, 3, none⟩ = some (.string q.reason) := (by rw [cell_of_row _ _ _ _ _ _ hS.1.1]; rfl); have d4 : W.cell? ⟨gq, 4, none⟩ = some (.int .i64 q.exp) := (by rw [cell_of_row _ _ _ _ _ _ hS.1.1]; rfl); have j0 : W.cell? ⟨bb, off + i * 7, none⟩ = some (.string r.who) := hS.2 0 (by omega); have j1 : W.cell? ⟨bb, off + i * 7 + 1, none⟩ = some (.string r.word) := hS.2 1 (by omega); have j2 : W.cell? ⟨bb, off + i * 7 + 2, none⟩ = some (.int .i64 r.fr) := hS.2 2 (by omega); have j3 : W.cell? ⟨bb, off + i * 7 + 3, none⟩ = some (.int .i64 r.to) := hS.2 3 (by omega); have j4 : W.cell? ⟨bb, off + i * 7 + 4, none⟩ = some (.int .i64 r.un) := hS.2 4 (by omega); have j5 : W.cell? ⟨bb, off + i * 7 + 5, none⟩ = some (.int .i64 r.mo) := hS.2 5 (by omega); have j6 : W.cell? ⟨bb, off + i * 7 + 6, none⟩ = some (.bool r.allow) := hS.2 6 (by omega); clear hS; go_simp; try (with_reducible rfl))
      refine wpAnyH_take (i := 3) (v := ?_) rfl (by kernel_rfl) (by kernel_rfl) (by kernel_rfl) (fun _ _ _ h => h) (Or.inl ⟨by kernel_rfl, ?_⟩) E0 ?_
      rotate_left
      · (intro W hS; have d0 : W.cell? ⟨gq, 0, none⟩ = some (.int .i64 q.id) := (by rw [cell_of_row _ _ _ _ _ _ hS.1.1]; rfl); have d1 : W.cell? ⟨gq, 1, none⟩ = some (.string q.who) := (by rw [cell_of_row _ _ _ _ _ _ hS.1.1]; rfl); have d2 : W.cell? ⟨gq, 2, none⟩ = some (.int .i64 q.entry) := (by rw [cell_of_row _ _ _ _ _ _ hS.1.1]; rfl); have d3 : W.cell? ⟨gq, 3, none⟩ = some (.string q.reason) := (by rw [cell_of_row _ _ _ _ _ _ hS.1.1]; rfl); have d4 : W.cell? ⟨gq, 4, none⟩ = some (.int .i64 q.exp) := (by rw [cell_of_row _ _ _ _ _ _ hS.1.1]; rfl); have j0 : W.cell? ⟨bb, off + i * 7, none⟩ = some (.string r.who) := hS.2 0 (by omega); have j1 : W.cell? ⟨bb, off + i * 7 + 1, none⟩ = some (.string r.word) := hS.2 1 (by omega); have j2 : W.cell? ⟨bb, off + i * 7 + 2, none⟩ = some (.int .i64 r.fr) := hS.2 2 (by omega); have j3 : W.cell? ⟨bb, off + i * 7 + 3, none⟩ = some (.int .i64 r.to) := hS.2 3 (by omega); have j4 : W.cell? ⟨bb, off + i * 7 + 4, none⟩ = some (.int .i64 r.un) := hS.2 4 (by omega); have j5 : W.cell? ⟨bb, off + i * 7 + 5, none⟩ = some (.int .i64 r.mo) := hS.2 5 (by omega); have j6 : W.cell? ⟨bb, off + i * 7 + 6, none⟩ = some (.bool r.allow) := hS.2 6 (by omega); clear hS; go_simp; try (with_reducible rfl))
      refine wpAnyH_take (i := 4) (v := ?_) rfl (by kernel_rfl) (by kernel_rfl) (by kernel_rfl) (fun _ _ _ h => h) (Or.inl ⟨by kernel_rfl, ?_⟩) E0 ?_
      rotate_left
      · (intro W hS; have d0 : W.cell? ⟨gq, 0, none⟩ = some (.int .i64 q.id) := (by rw [cell_of_row _ _ _ _ _ _ hS.1.1]; rfl); have d1 : W.cell? ⟨gq, 1, none⟩ = some (.string q.who) := (by rw [cell_of_row _ _ _ _ _ _ hS.1.1]; rfl); have d2 : W.cell? ⟨gq, 2, none⟩ = some (.int .i64 q.entry) := (by rw [cell_of_row _ _ _ _ _ _ hS.1.1]; rfl); have d3 : W.cell? ⟨gq, 3, none⟩ = some (.string q.reason) := (by rw [cell_of_row _ _ _ _ _ _ hS.1.1]; rfl); have d4 : W.cell? ⟨gq, 4, none⟩ = some (.int .i64 q.exp) := (by rw [cell_of_row _ _ _ _ _ _ hS.1.1]; rfl); have j0 : W.cell? ⟨bb, off + i * 7, none⟩ = some (.string r.who) := hS.2 0 (by omega); have j1 : W.cell? ⟨bb, off + i * 7 + 1, none⟩ = some (.string r.word) := hS.2 1 (by omega); have j2 : W.cell? ⟨bb, off + i * 7 + 2, none⟩ = some (.int .i64 r.fr) := hS.2 2 (by omega); have j3 : W.cell? ⟨bb, off + i * 7 + 3, none⟩ = some (.int .i64 r.to) := hS.2 3 (by omega); have j4 : W.cell? ⟨bb, off + i * 7 + 4, none⟩ = some (.int .i64 r.un) := hS.2 4 (by omega); have j5 : W.cell? ⟨bb, off + i * 7 + 5, none⟩ = some (.int .i64 r.mo) := hS.2 5 (by omega); have j6 : W.cell? ⟨bb, off + i * 7 + 6, none⟩ = some (.bool r.allow) := hS.2 6 (by omega); clear hS; go_simp; try (with_reducible rfl))
      refine wpAnyH_take (i := 5) (v := ?_) rfl (by kernel_rfl) (by kernel_rfl) (by kernel_rfl) (fun _ _ _ h => h) (Or.inl ⟨by kernel_rfl, ?_⟩) E0 ?_
      rotate_left
      · (intro W hS; have d0 : W.cell? ⟨gq, 0, none⟩ = some (.int .i64 q.id) := (by rw [cell_of_row _ _ _ _ _ _ hS.1.1]; rfl); have d1 : W.cell? ⟨gq, 1, none⟩ = some (.string q.who) := (by rw [cell_of_row _ _ _ _ _ _ hS.1.1]; rfl); have d2 : W.cell? ⟨gq, 2, none⟩ = some (.int .i64 q.entry) := (by rw [cell_of_row _ _ _ _ _ _ hS.1.1]; rfl); have d3 : W.cell? ⟨gq, 3, none⟩ = some (.string q.reason) := (by rw [cell_of_row _ _ _ _ _ _ hS.1.1]; rfl); have d4 : W.cell? ⟨gq, 4, none⟩ = some (.int .i64 q.exp) := (by rw [cell_of_row _ _ _ _ _ _ hS.1.1]; rfl); have j0 : W.cell? ⟨bb, off + i * 7, none⟩ = some (.string r.who) := hS.2 0 (by omega); have j1 : W.cell? ⟨bb, off + i * 7 + 1, none⟩ = some (.string r.word) := hS.2 1 (by omega); have j2 : W.cell? ⟨bb, off + i * 7 + 2, none⟩ = some (.int .i64 r.fr) := hS.2 2 (by omega); have j3 : W.cell? ⟨bb, off + i * 7 + 3, none⟩ = some (.int .i64 r.to) := hS.2 3 (by omega); have j4 : W.cell? ⟨bb, off + i * 7 + 4, none⟩ = some (.int .i64 r.un) := hS.2 4 (by omega); have j5 : W.cell? ⟨bb, off + i * 7 + 5, none⟩ = some (.int .i64 r.mo) := hS.2 5 (by omega); have j6 : W.cell? ⟨bb, off + i * 7 + 6, none⟩ = some (.bool r.allow) := hS.2 6 (by omega); clear hS; go_simp; try (with_reducible rfl))
      refine wpAnyH_ready (rs := [6]) (by kernel_rfl) (by simp) ?_
      refine AllReadyH.cons (i := 6) rfl (fun K hK => ?_) AllReadyH.nil
      go_simp
      refine (HX.out.1 v0).mono ?_
      rintro e v1 ⟨rfl, hb⟩
      have F1 := F0.trans (hb.mono F0.size)
      have E1 : ((v1.heap[gq]? = some (.cells (qCs q) 36 (0, 0)) ∧ bb < v1.heap.size) ∧ ∀ m, m < 7 → v1.cell? ⟨bb, off + i * 7 + m, none⟩ = (ruCs r)[m]?) := ⟨⟨(hb.block _ (pblt_of_heap E0.1.1)).trans E0.1.1, Nat.lt_of_lt_of_le E0.1.2 hb.size⟩, fun m hm => (hb.cell (p := ⟨bb, off + i * 7 + m, none⟩) E0.1.2).trans (E0.2 m hm)⟩
      refine hK.out _ _ E1 (fun hE => ?_)
      clear hE hK K hb
      refine wpAnyH_take (i := 7) (v := ?_) rfl (by kernel_rfl) (by kernel_rfl) (by kernel_rfl) (fun _ _ _ h => h) (Or.inl ⟨by kernel_rfl, ?_⟩) E1 ?_
      rotate_left
      · (intro W hS; have d0 : W.cell? ⟨gq, 0, none⟩ = some (.int .i64 q.id) := (by rw [cell_of_row _ _ _ _ _ _ hS.1.1]; rfl); have d1 : W.cell? ⟨gq, 1, none⟩ = some (.string q.who) := (by rw [cell_of_row _ _ _ _ _ _ hS.1.1]; rfl); have d2 : W.cell? ⟨gq, 2, none⟩ = some (.int .i64 q.entry) := (by rw [cell_of_row _ _ _ _ _ _ hS.1.1]; rfl); have d3 : W.cell? ⟨gq, 3, none⟩ = some (.string q.reason) := (by rw [cell_of_row _ _ _ _ _ _ hS.1.1]; rfl); have d4 : W.cell? ⟨gq, 4, none⟩ = some (.int .i64 q.exp) := (by rw [cell_of_row _ _ _ _ _ _ hS.1.1]; rfl); have j0 : W.cell? ⟨bb, off + i * 7, none⟩ = some (.string r.who) := hS.2 0 (by omega); have j1 : W.cell? ⟨bb, off + i * 7 + 1, none⟩ = some (.string r.word) := hS.2 1 (by omega); have j2 : W.cell? ⟨bb, off + i * 7 + 2, none⟩ = some (.int .i64 r.fr) := hS.2 2 (by omega); have j3 : W.cell? ⟨bb, off + i * 7 + 3, none⟩ = some (.int .i64 r.to) := hS.2 3 (by omega); have j4 : W.cell? ⟨bb, off + i * 7 + 4, none⟩ = some (.int .i64 r.un) := hS.2 4 (by omega); have j5 : W.cell? ⟨bb, off + i * 7 + 5, none⟩ = some (.int .i64 r.mo) := hS.2 5 (by omega); have j6 : W.cell? ⟨bb, off + i * 7 + 6, none⟩ = some (.bool r.allow) := hS.2 6 (by omega); clear hS; go_simp; try (with_reducible rfl))
      refine wpAnyH_done (by kernel_rfl) ?_ _
      have HF := Lib.hid (And.intro F1 E1.2)
      clear E0 E1 F0 F1
      go_simp
      have j5 : v1.cell? ⟨bb, off + i * 7 + 5, none⟩ = some (.int .i64 r.mo) := HF.out.2 5 (by omega)
      have j6 : v1.cell? ⟨bb, off + i * 7 + 6, none⟩ = some (.bool r.allow) := HF.out.2 6 (by omega)
      have hPv := HX.out.2.1 (by first | rfl | trivial)
      have hbz := H.out.2.2.2.2.2.1 _ (HX.out.2.2.2.2.1.trans (HF.out.1.mono HX.out.2.2.2.2.1.size))
      unfold Py.allowI at hPv
      have HZ := Lib.hid hbz
      clear hbz
      cases ha : r.allow with
      | false =>
        rw [ha] at j6 hPv
        have HPv := Lib.hid hPv
        clear hPv ha
        go_wp2_with fail
        go_ret2
        exact ⟨by rw [HPv.out]; rfl, HZ.out⟩
      | true =>
        rw [ha, if_neg (by decide)] at hPv
        rw [ha] at j6
        by_cases hmo : r.mo ≤ opn
        · rw [if_pos hmo] at hPv
          have HPv := Lib.hid hPv
          clear hPv ha
          go_wp2_with fail
          go_ret2
          exact ⟨by rw [HPv.out]; rfl, HZ.out⟩
        · rw [if_neg hmo] at hPv
          have HPv := Lib.hid hPv
          clear hPv ha
          go_wp2_with fail
          go_ret2
          exact ⟨by rw [HPv.out]; rfl, HZ.out⟩
end Go.Proofs.Ytnkkbinbeildmaa
