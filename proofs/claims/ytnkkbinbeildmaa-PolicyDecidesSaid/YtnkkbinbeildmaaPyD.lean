/- policy: Decide. -/
import Derived.Test.YtnkkbinbeildmaaPyC
namespace Go.Proofs.Ytnkkbinbeildmaa
open Go.RowKit
set_option maxRecDepth 100000 in
theorem dfits_any (r : Py.R) (q : Py.Q) (now : Int) (gq gn : Nat) (hr : RSz r) (hq : QSz q) (w : World) (h1 : w.heap[gq]? = some (.cells (qCs q) 24 (0, 0))) (h2 : w.heap[gn]? = some (.cells #[.int .i64 now] 3 (0, 0))) :
    Calls Try.prog 40 #[ruVal r, .pointer (some ⟨gq, 0, none⟩), .pointer (some ⟨gn, 0, none⟩)] w fun e w' => e = .returned (.bool (Py.fitsB r q now)) ∧ Below w.heap.size w w' := by
  obtain ⟨w1, hw1⟩ : ∃ w1, w1 = w.alloc (.cells (ruCs r) 46) := ⟨_, rfl⟩
  obtain ⟨ga, hga⟩ : ∃ ga, ga = w.heap.size := ⟨_, rfl⟩
  have hb1 := box_below hw1
  have a1 : w1.heap[ga]? = some (.cells (ruCs r) 46 (0, 0)) := by rw [hw1, hga]; exact heap_alloc_new _ _
  have k1 := (hb1.block gq (pblt_of_heap h1)).trans h1
  have k2 := (hb1.block gn (pblt_of_heap h2)).trans h2
  have hf := fun W => fits_any r q now hr hq W
  unfold ruVal qVal at hf
  have c0 : w1.cell? ⟨ga, 0, none⟩ = some (.string r.who) := by rw [cell_of_row _ _ _ _ _ _ a1]; rfl
  have c1 : w1.cell? ⟨ga, 1, none⟩ = some (.string r.word) := by rw [cell_of_row _ _ _ _ _ _ a1]; rfl
  have c2 : w1.cell? ⟨ga, 2, none⟩ = some (.int .i64 r.fr) := by rw [cell_of_row _ _ _ _ _ _ a1]; rfl
  have c3 : w1.cell? ⟨ga, 3, none⟩ = some (.int .i64 r.to) := by rw [cell_of_row _ _ _ _ _ _ a1]; rfl
  have c4 : w1.cell? ⟨ga, 4, none⟩ = some (.int .i64 r.un) := by rw [cell_of_row _ _ _ _ _ _ a1]; rfl
  have c5 : w1.cell? ⟨ga, 5, none⟩ = some (.int .i64 r.mo) := by rw [cell_of_row _ _ _ _ _ _ a1]; rfl
  have c6 : w1.cell? ⟨ga, 6, none⟩ = some (.bool r.allow) := by rw [cell_of_row _ _ _ _ _ _ a1]; rfl
  have d0 : w1.cell? ⟨gq, 0, none⟩ = some (.int .i64 q.id) := by rw [cell_of_row _ _ _ _ _ _ k1]; rfl
  have d1 : w1.cell? ⟨gq, 1, none⟩ = some (.string q.who) := by rw [cell_of_row _ _ _ _ _ _ k1]; rfl
  have d2 : w1.cell? ⟨gq, 2, none⟩ = some (.int .i64 q.entry) := by rw [cell_of_row _ _ _ _ _ _ k1]; rfl
  have d3 : w1.cell? ⟨gq, 3, none⟩ = some (.string q.reason) := by rw [cell_of_row _ _ _ _ _ _ k1]; rfl
  have d4 : w1.cell? ⟨gq, 4, none⟩ = some (.int .i64 q.exp) := by rw [cell_of_row _ _ _ _ _ _ k1]; rfl
  have e0 : w1.cell? ⟨gn, 0, none⟩ = some (.int .i64 now) := by rw [cell_of_row _ _ _ _ _ _ k2]; rfl
  have H := Lib.hid (And.intro hf hb1)
  clear hf hb1 a1 k1 k2 h1 h2
  unfold ruVal
  unfold ruCs at hw1
  go_enter Try.func40, Try.ntmps40
  go_upto_region 1 with fail
  rw [← hw1, ← hga]
  clear hw1 hga
  go_wp2_with fail
  refine (H.out.1 _).mono ?_
  rintro e w2 ⟨rfl, hb⟩
  go_wp2_with fail
  go_ret
  exact ⟨rfl, H.out.2.trans (hb.mono H.out.2.size)⟩
/-- The place of the first rule that fits; -1: none. -/
def pIdx (l : List Py.R) (q : Py.Q) (now : Int) : Int := if Py.first (fun r => Py.fitsB r q now) l < l.length then ((Py.first (fun r => Py.fitsB r q now) l : Nat) : Int) else -1
set_option maxRecDepth 100000 in
set_option maxHeartbeats 1000000 in
theorem pidx_any (l : List Py.R) (a0 : Option Addr) (cap : Nat) (q : Py.Q) (now : Int) (gq gn : Nat) (hsz : ∀ r ∈ l, RSz r) (hq : QSz q) (w : World) (hT : RecsAt 7 ruCs w a0 l) (hm : l.length ≤ 1000000) (h1 : w.heap[gq]? = some (.cells (qCs q) 24 (0, 0))) (h2 : w.heap[gn]? = some (.cells #[.int .i64 now] 3 (0, 0))) :
    Calls Try.prog 39 #[.slice a0 l.length cap, .func (Fn.func 40) #[] #[.pointer (some ⟨gq, 0, none⟩), .pointer (some ⟨gn, 0, none⟩)]] w fun e w' => e = .returned (.int .i64 (pIdx l q now)) ∧ Below w.heap.size w w' := by
  obtain ⟨n, hn⟩ : ∃ n, n = l.length := ⟨_, rfl⟩
  obtain ⟨Z, hZ⟩ : ∃ Z, Z = pIdx l q now := ⟨_, rfl⟩
  rw [← hZ]
  have HT := Lib.hid (And.intro hT (And.intro hn (And.intro hZ (And.intro h1 (And.intro h2 hsz)))))
  rw [← hn] at hm ⊢
  clear hT hn hZ h1 h2 hsz
  go_enter Try.func39, Try.ntmps39
  go_wp2_with fail
  go_loopw [5, 8] (fun _ c wr => ∃ i : Nat, i ≤ n ∧ c = .int .i64 i ∧ Below w.heap.size w wr ∧ ∀ j, j < i → ∀ y, l[j]? = some y → Py.fitsB y q now = false) (fun _ c _ => n - (intOf c).toNat)
  case atStart => exact ⟨0, by omega, rfl, Below.refl _ _, fun j hj => absurd hj (by omega)⟩
  case round =>
    obtain ⟨i, hi, rfl, hb, hall⟩ := hrel
    by_cases hlt : i < n
    · obtain ⟨r, hx⟩ : ∃ r, l[i]? = some r := ⟨_, List.getElem?_eq_getElem (by have := HT.out.2.1; omega)⟩
      obtain ⟨bb, off, rfl, hbl, hc⟩ := HT.out.1.below hb i r hx
      have q0 : wr.cell? ⟨bb, off + i * 7, none⟩ = some (.string r.who) := hc 0 (by omega)
      have q1 : wr.cell? ⟨bb, off + i * 7 + 1, none⟩ = some (.string r.word) := hc 1 (by omega)
      have q2 : wr.cell? ⟨bb, off + i * 7 + 2, none⟩ = some (.int .i64 r.fr) := hc 2 (by omega)
      have q3 : wr.cell? ⟨bb, off + i * 7 + 3, none⟩ = some (.int .i64 r.to) := hc 3 (by omega)
      have q4 : wr.cell? ⟨bb, off + i * 7 + 4, none⟩ = some (.int .i64 r.un) := hc 4 (by omega)
      have q5 : wr.cell? ⟨bb, off + i * 7 + 5, none⟩ = some (.int .i64 r.mo) := hc 5 (by omega)
      have q6 : wr.cell? ⟨bb, off + i * 7 + 6, none⟩ = some (.bool r.allow) := hc 6 (by omega)
      have hcall := dfits_any r q now gq gn (HT.out.2.2.2.2.2 r (List.mem_of_getElem? hx)) hq wr ((hb.block gq (pblt_of_heap HT.out.2.2.2.1)).trans HT.out.2.2.2.1) ((hb.block gn (pblt_of_heap HT.out.2.2.2.2.1)).trans HT.out.2.2.2.2.1)
      unfold ruVal at hcall
      cases hd : Py.fitsB r q now with
      | false =>
        have hall' : ∀ j, j < i + 1 → ∀ y, l[j]? = some y → Py.fitsB y q now = false := fun j hj y hy => by
          by_cases e : j = i
          · subst e; rw [hx] at hy; injection hy with hy; subst hy; exact hd
          · exact hall j (by omega) y hy
        rw [hd] at hcall
        have HM := Lib.hid (And.intro hcall (And.intro hb hall'))
        clear hcall hb hall hall' hd hc
        go_wp2_with fail
        refine HM.out.1.mono ?_
        rintro e w1 ⟨rfl, hb1⟩
        go_wp2_with fail
        go_roundw
        case rel => exact ⟨i + 1, by omega, by go_num, HM.out.2.1.trans (hb1.mono HM.out.2.1.size), HM.out.2.2⟩
        case measure => simp [intOf]; omega
      | true =>
        have hf : Z = (i : Int) := by
          rw [HT.out.2.2.1]; unfold pIdx
          have : Py.first (fun r => Py.fitsB r q now) l = i := Py.first_is hall hx hd
          rw [this, if_pos (by have := HT.out.2.1; omega)]
        rw [hd] at hcall
        have HM := Lib.hid (And.intro hcall (And.intro hb hf))
        clear hcall hb hall hd hc
        go_wp2_with fail
        refine HM.out.1.mono ?_
        rintro e w1 ⟨rfl, hb1⟩
        go_wp2_with fail
        go_ret
        exact ⟨by rw [HM.out.2.2]; rfl, HM.out.2.1.trans (hb1.mono HM.out.2.1.size)⟩
    · have hf : Z = -1 := by
        rw [HT.out.2.2.1]; unfold pIdx
        have : Py.first (fun r => Py.fitsB r q now) l = l.length := Py.first_none fun y hy => by
          obtain ⟨j, hj⟩ := List.mem_iff_getElem?.1 hy
          exact hall j (by have := (List.getElem?_eq_some_iff.1 hj).1; have := HT.out.2.1; omega) y hj
        rw [this, if_neg (by omega)]
      have HM := Lib.hid (And.intro hb hf)
      clear hb hall hf
      go_wp2_with fail
      go_ret
      exact ⟨by rw [HM.out.2]; rfl, HM.out.1⟩
set_option maxRecDepth 100000 in
theorem allows_any (r : Py.R) (opn : Int) (w : World) : Calls Try.prog 41 #[ruVal r, .int .i64 opn] w fun e w' => e = .returned (.int .i64 (Py.allowI r opn)) ∧ Below w.heap.size w w' := by
  unfold ruVal Py.allowI
  cases ha : r.allow with
  | false =>
    rw [if_pos rfl]
    go_enter Try.func41, Try.ntmps41
    go_wp2_with fail
    go_ret
    exact ⟨rfl, (Below.refl _ _).alloc (Nat.le_refl _) _⟩
  | true =>
    rw [if_neg (by decide)]
    by_cases h : r.mo ≤ opn
    · rw [if_pos h]
      go_enter Try.func41, Try.ntmps41
      go_wp2_with fail
      go_ret
      exact ⟨rfl, (Below.refl _ _).alloc (Nat.le_refl _) _⟩
    · rw [if_neg h]
      go_enter Try.func41, Try.ntmps41
      go_wp2_with fail
      go_ret
      exact ⟨rfl, (Below.refl _ _).alloc (Nat.le_refl _) _⟩
/-- How Decide ends. -/
def DecPost (P : Int × Int) (w : World) (e : Ending) (w' : World) : Prop := ∃ v, e = .returned (.tuple #[.int .i64 P.1, v]) ∧ ErrAt w' v P.2 ∧ Below w.heap.size w w'
theorem allow_code (r : Py.R) (opn : Int) : 0 ≤ Py.allowI r opn ∧ Py.allowI r opn ≤ 13 := by
  unfold Py.allowI; split
  · omega
  · split <;> omega
set_option maxRecDepth 100000 in
set_option maxHeartbeats 4000000 in
theorem decide_any (l : List Py.R) (a0 : Option Addr) (cap : Nat) (q : Py.Q) (now opn : Int) (hsz : ∀ r ∈ l, RSz r) (hq : QSz q) (w : World) (hT : RecsAt 7 ruCs w a0 l) (hm : l.length ≤ 1000000) :
    Calls Try.prog 12 #[.slice a0 l.length cap, qVal q, .int .i64 now, .int .i64 opn] w fun e w' => DecPost (Py.decI l q now opn) w e w' := by
  obtain ⟨P, hP⟩ : ∃ P, P = Py.decI l q now opn := ⟨_, rfl⟩
  rw [← hP]
  obtain ⟨w1, hw1⟩ : ∃ w1, w1 = (w.alloc (.cells (qCs q) 24)).alloc (.cells #[.int .i64 now] 3) := ⟨_, rfl⟩
  obtain ⟨gq, hgq⟩ : ∃ gq, gq = w.heap.size := ⟨_, rfl⟩
  obtain ⟨gn, hgn⟩ : ∃ gn, gn = w.heap.size + 1 := ⟨_, rfl⟩
  have hb1 : Below w.heap.size w w1 := by rw [hw1]; exact ((Below.refl _ _).alloc (Nat.le_refl _) _).alloc (by simp) _
  have a1 : w1.heap[gq]? = some (.cells (qCs q) 24 (0, 0)) := by
    rw [hw1, hgq]
    exact (heap_alloc_old _ _ (by simp)).trans (heap_alloc_new _ _)
  have a2 : w1.heap[gn]? = some (.cells #[.int .i64 now] 3 (0, 0)) := by
    rw [hw1, hgn]
    have := heap_alloc_new (w.alloc (.cells (qCs q) 24)) (.cells #[.int .i64 now] 3)
    simpa using this
  have hck := check_any l a0 cap hm hsz w1 (hT.below hb1)
  have hmay := fun W => preq_any q hq.1 hq.2 W
  have hbx := fun (W : World) (hb : Below w1.heap.size w1 W) => And.intro ((hb.block gq (pblt_of_heap a1)).trans a1) ((hb.block gn (pblt_of_heap a2)).trans a2)
  have hix := fun (W : World) (hb : Below w1.heap.size w1 W) => pidx_any l a0 cap q now gq gn hsz hq W (hT.below (hb1.trans (hb.mono hb1.size))) hm (hbx W hb).1 (hbx W hb).2
  have hrl := fun (W : World) (hb : Below w1.heap.size w1 W) => hT.below (hb1.trans (hb.mono hb1.size))
  have hbw := fun (W : World) (hb : Below w1.heap.size w1 W) => hb1.trans (hb.mono hb1.size)
  unfold qVal at hmay
  unfold Py.decI at hP
  obtain ⟨C, hC⟩ : ∃ C, C = Py.checkB l := ⟨_, rfl⟩
  obtain ⟨M, hM⟩ : ∃ M, M = Py.mayB q := ⟨_, rfl⟩
  obtain ⟨I, hI⟩ : ∃ I, I = Py.inB now 0 1099511627776 := ⟨_, rfl⟩
  obtain ⟨n, hn⟩ : ∃ n, n = l.length := ⟨_, rfl⟩
  rw [← hC] at hP hck
  rw [← hM] at hP hmay
  rw [← hI] at hP
  rw [← hn] at hck hix hm ⊢
  have H := Lib.hid (And.intro hck (And.intro hmay (And.intro hbx (And.intro hix (And.intro hrl (And.intro hbw hn))))))
  have HA := Lib.hid (And.intro a1 a2)
  have HI := Lib.hid hI
  clear hck hmay hbx hix hrl hbw hn a1 a2 hb1 hT hsz hq hC hM hI
  unfold qVal
  unfold qCs at hw1
  cases C with
  | false =>
    have hP : P = (-1, 1) := hP
    have HP := Lib.hid hP
    clear hP
    go_enter Try.func12, Try.ntmps12
    go_upto_region 1 with fail
    rw [← hw1, ← hgn, ← hgq]
    clear hw1 hgq hgn
    go_wp2_with fail
    refine H.out.1.mono ?_
    rintro e w2 ⟨rfl, hb2⟩
    have H2 := Lib.hid hb2
    clear hb2
    have X := H.out.2.2.1 w2 (H2.out)
    have d0 : w2.cell? ⟨gq, 0, none⟩ = some (.int .i64 q.id) := by rw [cell_of_row _ _ _ _ _ _ X.1]; rfl
    have d1 : w2.cell? ⟨gq, 1, none⟩ = some (.string q.who) := by rw [cell_of_row _ _ _ _ _ _ X.1]; rfl
    have d2 : w2.cell? ⟨gq, 2, none⟩ = some (.int .i64 q.entry) := by rw [cell_of_row _ _ _ _ _ _ X.1]; rfl
    have d3 : w2.cell? ⟨gq, 3, none⟩ = some (.string q.reason) := by rw [cell_of_row _ _ _ _ _ _ X.1]; rfl
    have d4 : w2.cell? ⟨gq, 4, none⟩ = some (.int .i64 q.exp) := by rw [cell_of_row _ _ _ _ _ _ X.1]; rfl
    have e0 : w2.cell? ⟨gn, 0, none⟩ = some (.int .i64 now) := by rw [cell_of_row _ _ _ _ _ _ X.2]; rfl
    clear X
    go_wp2_with fail
    refine (pfault_any _ 1 (by decide) _).mono ?_
    rintro e w9 ⟨fb, op, rfl, hf, hb9⟩
    go_wp2_with fail
    go_ret2
    rw [HP.out]
    exact ⟨_, rfl, .inr ⟨by decide, fb, op, _, rfl, hf⟩, H.out.2.2.2.2.2.1 _ (H2.out.trans (hb9.mono H2.out.size))⟩
  | true =>
  cases M with
  | false =>
    have hP : P = (-1, 1) := hP
    have HP := Lib.hid hP
    clear hP
    go_enter Try.func12, Try.ntmps12
    go_upto_region 1 with fail
    rw [← hw1, ← hgn, ← hgq]
    clear hw1 hgq hgn
    go_wp2_with fail
    refine H.out.1.mono ?_
    rintro e w2 ⟨rfl, hb2⟩
    have H2 := Lib.hid hb2
    clear hb2
    have X := H.out.2.2.1 w2 (H2.out)
    have d0 : w2.cell? ⟨gq, 0, none⟩ = some (.int .i64 q.id) := by rw [cell_of_row _ _ _ _ _ _ X.1]; rfl
    have d1 : w2.cell? ⟨gq, 1, none⟩ = some (.string q.who) := by rw [cell_of_row _ _ _ _ _ _ X.1]; rfl
    have d2 : w2.cell? ⟨gq, 2, none⟩ = some (.int .i64 q.entry) := by rw [cell_of_row _ _ _ _ _ _ X.1]; rfl
    have d3 : w2.cell? ⟨gq, 3, none⟩ = some (.string q.reason) := by rw [cell_of_row _ _ _ _ _ _ X.1]; rfl
    have d4 : w2.cell? ⟨gq, 4, none⟩ = some (.int .i64 q.exp) := by rw [cell_of_row _ _ _ _ _ _ X.1]; rfl
    have e0 : w2.cell? ⟨gn, 0, none⟩ = some (.int .i64 now) := by rw [cell_of_row _ _ _ _ _ _ X.2]; rfl
    clear X
    go_wp2_with fail
    refine (H.out.2.1 _).mono ?_
    rintro e w3 ⟨rfl, hb3⟩
    have H3 := Lib.hid (H2.out.trans (hb3.mono H2.out.size))
    clear hb3 d0 d1 d2 d3 d4 e0
    have X := H.out.2.2.1 w3 (H3.out)
    have d0 : w3.cell? ⟨gq, 0, none⟩ = some (.int .i64 q.id) := by rw [cell_of_row _ _ _ _ _ _ X.1]; rfl
    have d1 : w3.cell? ⟨gq, 1, none⟩ = some (.string q.who) := by rw [cell_of_row _ _ _ _ _ _ X.1]; rfl
    have d2 : w3.cell? ⟨gq, 2, none⟩ = some (.int .i64 q.entry) := by rw [cell_of_row _ _ _ _ _ _ X.1]; rfl
    have d3 : w3.cell? ⟨gq, 3, none⟩ = some (.string q.reason) := by rw [cell_of_row _ _ _ _ _ _ X.1]; rfl
    have d4 : w3.cell? ⟨gq, 4, none⟩ = some (.int .i64 q.exp) := by rw [cell_of_row _ _ _ _ _ _ X.1]; rfl
    have e0 : w3.cell? ⟨gn, 0, none⟩ = some (.int .i64 now) := by rw [cell_of_row _ _ _ _ _ _ X.2]; rfl
    clear X
    go_wp2_with fail
    refine (pfault_any _ 1 (by decide) _).mono ?_
    rintro e w9 ⟨fb, op, rfl, hf, hb9⟩
    go_wp2_with fail
    go_ret2
    rw [HP.out]
    exact ⟨_, rfl, .inr ⟨by decide, fb, op, _, rfl, hf⟩, H.out.2.2.2.2.2.1 _ (H3.out.trans (hb9.mono H3.out.size))⟩
  | true =>
  cases I with
  | false =>
    have hP : P = (-1, 1) := hP
    have HP := Lib.hid hP
    clear hP
    go_enter Try.func12, Try.ntmps12
    go_upto_region 1 with fail
    rw [← hw1, ← hgn, ← hgq]
    clear hw1 hgq hgn
    go_wp2_with fail
    refine H.out.1.mono ?_
    rintro e w2 ⟨rfl, hb2⟩
    have H2 := Lib.hid hb2
    clear hb2
    have X := H.out.2.2.1 w2 (H2.out)
    have d0 : w2.cell? ⟨gq, 0, none⟩ = some (.int .i64 q.id) := by rw [cell_of_row _ _ _ _ _ _ X.1]; rfl
    have d1 : w2.cell? ⟨gq, 1, none⟩ = some (.string q.who) := by rw [cell_of_row _ _ _ _ _ _ X.1]; rfl
    have d2 : w2.cell? ⟨gq, 2, none⟩ = some (.int .i64 q.entry) := by rw [cell_of_row _ _ _ _ _ _ X.1]; rfl
    have d3 : w2.cell? ⟨gq, 3, none⟩ = some (.string q.reason) := by rw [cell_of_row _ _ _ _ _ _ X.1]; rfl
    have d4 : w2.cell? ⟨gq, 4, none⟩ = some (.int .i64 q.exp) := by rw [cell_of_row _ _ _ _ _ _ X.1]; rfl
    have e0 : w2.cell? ⟨gn, 0, none⟩ = some (.int .i64 now) := by rw [cell_of_row _ _ _ _ _ _ X.2]; rfl
    clear X
    go_wp2_with fail
    refine (H.out.2.1 _).mono ?_
    rintro e w3 ⟨rfl, hb3⟩
    have H3 := Lib.hid (H2.out.trans (hb3.mono H2.out.size))
    clear hb3 d0 d1 d2 d3 d4 e0
    have X := H.out.2.2.1 w3 (H3.out)
    have d0 : w3.cell? ⟨gq, 0, none⟩ = some (.int .i64 q.id) := by rw [cell_of_row _ _ _ _ _ _ X.1]; rfl
    have d1 : w3.cell? ⟨gq, 1, none⟩ = some (.string q.who) := by rw [cell_of_row _ _ _ _ _ _ X.1]; rfl
    have d2 : w3.cell? ⟨gq, 2, none⟩ = some (.int .i64 q.entry) := by rw [cell_of_row _ _ _ _ _ _ X.1]; rfl
    have d3 : w3.cell? ⟨gq, 3, none⟩ = some (.string q.reason) := by rw [cell_of_row _ _ _ _ _ _ X.1]; rfl
    have d4 : w3.cell? ⟨gq, 4, none⟩ = some (.int .i64 q.exp) := by rw [cell_of_row _ _ _ _ _ _ X.1]; rfl
    have e0 : w3.cell? ⟨gn, 0, none⟩ = some (.int .i64 now) := by rw [cell_of_row _ _ _ _ _ _ X.2]; rfl
    clear X
    go_wp2_with fail
    refine (isTime_any _ _).mono ?_
    rintro e w4 ⟨rfl, hww⟩
    cases hww
    rw [← HI.out]
    go_wp2_with fail
    refine (pfault_any _ 1 (by decide) _).mono ?_
    rintro e w9 ⟨fb, op, rfl, hf, hb9⟩
    go_wp2_with fail
    go_ret2
    rw [HP.out]
    exact ⟨_, rfl, .inr ⟨by decide, fb, op, _, rfl, hf⟩, H.out.2.2.2.2.2.1 _ (H3.out.trans (hb9.mono H3.out.size))⟩
  | true =>
  by_cases ho : 0 ≤ opn
  rotate_left
  · have go : opn < 0 := by omega
    rw [decide_eq_false ho] at hP
    have hP : P = (-1, 1) := hP
    clear ho
    have HP := Lib.hid hP
    clear hP
    go_enter Try.func12, Try.ntmps12
    go_upto_region 1 with fail
    rw [← hw1, ← hgn, ← hgq]
    clear hw1 hgq hgn
    go_wp2_with fail
    refine H.out.1.mono ?_
    rintro e w2 ⟨rfl, hb2⟩
    have H2 := Lib.hid hb2
    clear hb2
    have X := H.out.2.2.1 w2 (H2.out)
    have d0 : w2.cell? ⟨gq, 0, none⟩ = some (.int .i64 q.id) := by rw [cell_of_row _ _ _ _ _ _ X.1]; rfl
    have d1 : w2.cell? ⟨gq, 1, none⟩ = some (.string q.who) := by rw [cell_of_row _ _ _ _ _ _ X.1]; rfl
    have d2 : w2.cell? ⟨gq, 2, none⟩ = some (.int .i64 q.entry) := by rw [cell_of_row _ _ _ _ _ _ X.1]; rfl
    have d3 : w2.cell? ⟨gq, 3, none⟩ = some (.string q.reason) := by rw [cell_of_row _ _ _ _ _ _ X.1]; rfl
    have d4 : w2.cell? ⟨gq, 4, none⟩ = some (.int .i64 q.exp) := by rw [cell_of_row _ _ _ _ _ _ X.1]; rfl
    have e0 : w2.cell? ⟨gn, 0, none⟩ = some (.int .i64 now) := by rw [cell_of_row _ _ _ _ _ _ X.2]; rfl
    clear X
    go_wp2_with fail
    refine (H.out.2.1 _).mono ?_
    rintro e w3 ⟨rfl, hb3⟩
    have H3 := Lib.hid (H2.out.trans (hb3.mono H2.out.size))
    clear hb3 d0 d1 d2 d3 d4 e0
    have X := H.out.2.2.1 w3 (H3.out)
    have d0 : w3.cell? ⟨gq, 0, none⟩ = some (.int .i64 q.id) := by rw [cell_of_row _ _ _ _ _ _ X.1]; rfl
    have d1 : w3.cell? ⟨gq, 1, none⟩ = some (.string q.who) := by rw [cell_of_row _ _ _ _ _ _ X.1]; rfl
    have d2 : w3.cell? ⟨gq, 2, none⟩ = some (.int .i64 q.entry) := by rw [cell_of_row _ _ _ _ _ _ X.1]; rfl
    have d3 : w3.cell? ⟨gq, 3, none⟩ = some (.string q.reason) := by rw [cell_of_row _ _ _ _ _ _ X.1]; rfl
    have d4 : w3.cell? ⟨gq, 4, none⟩ = some (.int .i64 q.exp) := by rw [cell_of_row _ _ _ _ _ _ X.1]; rfl
    have e0 : w3.cell? ⟨gn, 0, none⟩ = some (.int .i64 now) := by rw [cell_of_row _ _ _ _ _ _ X.2]; rfl
    clear X
    go_wp2_with fail
    refine (isTime_any _ _).mono ?_
    rintro e w4 ⟨rfl, hww⟩
    cases hww
    rw [← HI.out]
    go_wp2_with fail
    refine (pfault_any _ 1 (by decide) _).mono ?_
    rintro e w9 ⟨fb, op, rfl, hf, hb9⟩
    go_wp2_with fail
    go_ret2
    rw [HP.out]
    exact ⟨_, rfl, .inr ⟨by decide, fb, op, _, rfl, hf⟩, H.out.2.2.2.2.2.1 _ (H3.out.trans (hb9.mono H3.out.size))⟩
  have go : ¬ (opn < 0) := by omega
  rw [decide_eq_true ho, if_neg (show ¬ ((true && true && true && true) = false) by decide)] at hP
  clear ho
  by_cases hx : q.exp < now
  · rw [if_pos hx] at hP
    have HP := Lib.hid hP
    clear hP
    go_enter Try.func12, Try.ntmps12
    go_upto_region 1 with fail
    rw [← hw1, ← hgn, ← hgq]
    clear hw1 hgq hgn
    go_wp2_with fail
    refine H.out.1.mono ?_
    rintro e w2 ⟨rfl, hb2⟩
    have H2 := Lib.hid hb2
    clear hb2
    have X := H.out.2.2.1 w2 (H2.out)
    have d0 : w2.cell? ⟨gq, 0, none⟩ = some (.int .i64 q.id) := by rw [cell_of_row _ _ _ _ _ _ X.1]; rfl
    have d1 : w2.cell? ⟨gq, 1, none⟩ = some (.string q.who) := by rw [cell_of_row _ _ _ _ _ _ X.1]; rfl
    have d2 : w2.cell? ⟨gq, 2, none⟩ = some (.int .i64 q.entry) := by rw [cell_of_row _ _ _ _ _ _ X.1]; rfl
    have d3 : w2.cell? ⟨gq, 3, none⟩ = some (.string q.reason) := by rw [cell_of_row _ _ _ _ _ _ X.1]; rfl
    have d4 : w2.cell? ⟨gq, 4, none⟩ = some (.int .i64 q.exp) := by rw [cell_of_row _ _ _ _ _ _ X.1]; rfl
    have e0 : w2.cell? ⟨gn, 0, none⟩ = some (.int .i64 now) := by rw [cell_of_row _ _ _ _ _ _ X.2]; rfl
    clear X
    go_wp2_with fail
    refine (H.out.2.1 _).mono ?_
    rintro e w3 ⟨rfl, hb3⟩
    have H3 := Lib.hid (H2.out.trans (hb3.mono H2.out.size))
    clear hb3 d0 d1 d2 d3 d4 e0
    have X := H.out.2.2.1 w3 (H3.out)
    have d0 : w3.cell? ⟨gq, 0, none⟩ = some (.int .i64 q.id) := by rw [cell_of_row _ _ _ _ _ _ X.1]; rfl
    have d1 : w3.cell? ⟨gq, 1, none⟩ = some (.string q.who) := by rw [cell_of_row _ _ _ _ _ _ X.1]; rfl
    have d2 : w3.cell? ⟨gq, 2, none⟩ = some (.int .i64 q.entry) := by rw [cell_of_row _ _ _ _ _ _ X.1]; rfl
    have d3 : w3.cell? ⟨gq, 3, none⟩ = some (.string q.reason) := by rw [cell_of_row _ _ _ _ _ _ X.1]; rfl
    have d4 : w3.cell? ⟨gq, 4, none⟩ = some (.int .i64 q.exp) := by rw [cell_of_row _ _ _ _ _ _ X.1]; rfl
    have e0 : w3.cell? ⟨gn, 0, none⟩ = some (.int .i64 now) := by rw [cell_of_row _ _ _ _ _ _ X.2]; rfl
    clear X
    go_wp2_with fail
    refine (isTime_any _ _).mono ?_
    rintro e w4 ⟨rfl, hww⟩
    cases hww
    rw [← HI.out]
    go_wp2_with fail
    refine (pfault_any _ 11 (by decide) _).mono ?_
    rintro e w9 ⟨fb, op, rfl, hf, hb9⟩
    go_wp2_with fail
    go_ret2
    rw [HP.out]
    exact ⟨_, rfl, .inr ⟨by decide, fb, op, _, rfl, hf⟩, H.out.2.2.2.2.2.1 _ (H3.out.trans (hb9.mono H3.out.size))⟩
  rw [if_neg hx] at hP
  have gx : ¬ (q.exp < now) := hx
  clear hx
  cases hr : l[Py.first (fun r => Py.fitsB r q now) l]? with
  | none =>
    rw [hr] at hP
    simp only at hP
    have hix : pIdx l q now = -1 := by unfold pIdx; rw [if_neg (by rw [List.getElem?_eq_none_iff] at hr; omega)]
    clear hr
    have HP := Lib.hid hP
    clear hP
    go_enter Try.func12, Try.ntmps12
    go_upto_region 1 with fail
    rw [← hw1, ← hgn, ← hgq]
    clear hw1 hgq hgn
    go_wp2_with fail
    refine H.out.1.mono ?_
    rintro e w2 ⟨rfl, hb2⟩
    have H2 := Lib.hid hb2
    clear hb2
    have X := H.out.2.2.1 w2 (H2.out)
    have d0 : w2.cell? ⟨gq, 0, none⟩ = some (.int .i64 q.id) := by rw [cell_of_row _ _ _ _ _ _ X.1]; rfl
    have d1 : w2.cell? ⟨gq, 1, none⟩ = some (.string q.who) := by rw [cell_of_row _ _ _ _ _ _ X.1]; rfl
    have d2 : w2.cell? ⟨gq, 2, none⟩ = some (.int .i64 q.entry) := by rw [cell_of_row _ _ _ _ _ _ X.1]; rfl
    have d3 : w2.cell? ⟨gq, 3, none⟩ = some (.string q.reason) := by rw [cell_of_row _ _ _ _ _ _ X.1]; rfl
    have d4 : w2.cell? ⟨gq, 4, none⟩ = some (.int .i64 q.exp) := by rw [cell_of_row _ _ _ _ _ _ X.1]; rfl
    have e0 : w2.cell? ⟨gn, 0, none⟩ = some (.int .i64 now) := by rw [cell_of_row _ _ _ _ _ _ X.2]; rfl
    clear X
    go_wp2_with fail
    refine (H.out.2.1 _).mono ?_
    rintro e w3 ⟨rfl, hb3⟩
    have H3 := Lib.hid (H2.out.trans (hb3.mono H2.out.size))
    clear hb3 d0 d1 d2 d3 d4 e0
    have X := H.out.2.2.1 w3 (H3.out)
    have d0 : w3.cell? ⟨gq, 0, none⟩ = some (.int .i64 q.id) := by rw [cell_of_row _ _ _ _ _ _ X.1]; rfl
    have d1 : w3.cell? ⟨gq, 1, none⟩ = some (.string q.who) := by rw [cell_of_row _ _ _ _ _ _ X.1]; rfl
    have d2 : w3.cell? ⟨gq, 2, none⟩ = some (.int .i64 q.entry) := by rw [cell_of_row _ _ _ _ _ _ X.1]; rfl
    have d3 : w3.cell? ⟨gq, 3, none⟩ = some (.string q.reason) := by rw [cell_of_row _ _ _ _ _ _ X.1]; rfl
    have d4 : w3.cell? ⟨gq, 4, none⟩ = some (.int .i64 q.exp) := by rw [cell_of_row _ _ _ _ _ _ X.1]; rfl
    have e0 : w3.cell? ⟨gn, 0, none⟩ = some (.int .i64 now) := by rw [cell_of_row _ _ _ _ _ _ X.2]; rfl
    clear X
    go_wp2_with fail
    refine (isTime_any _ _).mono ?_
    rintro e w4 ⟨rfl, hww⟩
    cases hww
    rw [← HI.out]
    go_wp2_with fail
    clear d0 d1 d2 d3 d4 e0
    refine (H.out.2.2.2.1 _ H3.out).mono ?_
    rintro e w5 ⟨rfl, hb5⟩
    rw [hix]
    have H5 := Lib.hid (H3.out.trans (hb5.mono H3.out.size))
    clear hb5
    have X := H.out.2.2.1 w5 (H5.out)
    have d0 : w5.cell? ⟨gq, 0, none⟩ = some (.int .i64 q.id) := by rw [cell_of_row _ _ _ _ _ _ X.1]; rfl
    clear X
    go_wp2_with fail
    refine (pfault_any _ 10 (by decide) _).mono ?_
    rintro e w9 ⟨fb, op, rfl, hf, hb9⟩
    go_wp2_with fail
    go_ret2
    rw [HP.out]
    exact ⟨_, rfl, .inr ⟨by decide, fb, op, _, rfl, hf⟩, H.out.2.2.2.2.2.1 _ (H5.out.trans (hb9.mono H5.out.size))⟩
  | some r =>
    rw [hr] at hP
    simp only at hP
    have hlt := (List.getElem?_eq_some_iff.1 hr).1
    obtain ⟨i, hi⟩ : ∃ i, i = Py.first (fun r => Py.fitsB r q now) l := ⟨_, rfl⟩
    have hix : pIdx l q now = (i : Int) := by unfold pIdx; rw [← hi, if_pos (by omega)]
    rw [← hi] at hP hr hlt
    have hlt : i < n := by have := H.out.2.2.2.2.2.2; omega
    have hal := fun W => allows_any r opn W
    unfold ruVal at hal
    have hcd := allow_code r opn
    obtain ⟨A, hA⟩ : ∃ A, A = Py.allowI r opn := ⟨_, rfl⟩
    rw [← hA] at hP hal hcd
    have HL := Lib.hid (And.intro hal hr)
    clear hal hr hi hA
    have HP := Lib.hid hP
    clear hP
    go_enter Try.func12, Try.ntmps12
    go_upto_region 1 with fail
    rw [← hw1, ← hgn, ← hgq]
    clear hw1 hgq hgn
    go_wp2_with fail
    refine H.out.1.mono ?_
    rintro e w2 ⟨rfl, hb2⟩
    have H2 := Lib.hid hb2
    clear hb2
    have X := H.out.2.2.1 w2 (H2.out)
    have d0 : w2.cell? ⟨gq, 0, none⟩ = some (.int .i64 q.id) := by rw [cell_of_row _ _ _ _ _ _ X.1]; rfl
    have d1 : w2.cell? ⟨gq, 1, none⟩ = some (.string q.who) := by rw [cell_of_row _ _ _ _ _ _ X.1]; rfl
    have d2 : w2.cell? ⟨gq, 2, none⟩ = some (.int .i64 q.entry) := by rw [cell_of_row _ _ _ _ _ _ X.1]; rfl
    have d3 : w2.cell? ⟨gq, 3, none⟩ = some (.string q.reason) := by rw [cell_of_row _ _ _ _ _ _ X.1]; rfl
    have d4 : w2.cell? ⟨gq, 4, none⟩ = some (.int .i64 q.exp) := by rw [cell_of_row _ _ _ _ _ _ X.1]; rfl
    have e0 : w2.cell? ⟨gn, 0, none⟩ = some (.int .i64 now) := by rw [cell_of_row _ _ _ _ _ _ X.2]; rfl
    clear X
    go_wp2_with fail
    refine (H.out.2.1 _).mono ?_
    rintro e w3 ⟨rfl, hb3⟩
    have H3 := Lib.hid (H2.out.trans (hb3.mono H2.out.size))
    clear hb3 d0 d1 d2 d3 d4 e0
    have X := H.out.2.2.1 w3 (H3.out)
    have d0 : w3.cell? ⟨gq, 0, none⟩ = some (.int .i64 q.id) := by rw [cell_of_row _ _ _ _ _ _ X.1]; rfl
    have d1 : w3.cell? ⟨gq, 1, none⟩ = some (.string q.who) := by rw [cell_of_row _ _ _ _ _ _ X.1]; rfl
    have d2 : w3.cell? ⟨gq, 2, none⟩ = some (.int .i64 q.entry) := by rw [cell_of_row _ _ _ _ _ _ X.1]; rfl
    have d3 : w3.cell? ⟨gq, 3, none⟩ = some (.string q.reason) := by rw [cell_of_row _ _ _ _ _ _ X.1]; rfl
    have d4 : w3.cell? ⟨gq, 4, none⟩ = some (.int .i64 q.exp) := by rw [cell_of_row _ _ _ _ _ _ X.1]; rfl
    have e0 : w3.cell? ⟨gn, 0, none⟩ = some (.int .i64 now) := by rw [cell_of_row _ _ _ _ _ _ X.2]; rfl
    clear X
    go_wp2_with fail
    refine (isTime_any _ _).mono ?_
    rintro e w4 ⟨rfl, hww⟩
    cases hww
    rw [← HI.out]
    go_wp2_with fail
    clear d0 d1 d2 d3 d4 e0
    refine (H.out.2.2.2.1 _ H3.out).mono ?_
    rintro e w5 ⟨rfl, hb5⟩
    rw [hix]
    have H5 := Lib.hid (H3.out.trans (hb5.mono H3.out.size))
    clear hb5
    obtain ⟨bb, off, rfl, -, hc⟩ := H.out.2.2.2.2.1 w5 H5.out i r HL.out.2
    have q0 : w5.cell? ⟨bb, off + i * 7, none⟩ = some (.string r.who) := hc 0 (by omega)
    have q1 : w5.cell? ⟨bb, off + i * 7 + 1, none⟩ = some (.string r.word) := hc 1 (by omega)
    have q2 : w5.cell? ⟨bb, off + i * 7 + 2, none⟩ = some (.int .i64 r.fr) := hc 2 (by omega)
    have q3 : w5.cell? ⟨bb, off + i * 7 + 3, none⟩ = some (.int .i64 r.to) := hc 3 (by omega)
    have q4 : w5.cell? ⟨bb, off + i * 7 + 4, none⟩ = some (.int .i64 r.un) := hc 4 (by omega)
    have q5 : w5.cell? ⟨bb, off + i * 7 + 5, none⟩ = some (.int .i64 r.mo) := hc 5 (by omega)
    have q6 : w5.cell? ⟨bb, off + i * 7 + 6, none⟩ = some (.bool r.allow) := hc 6 (by omega)
    clear hc
    go_wp2_with fail
    refine (HL.out.1 _).mono ?_
    rintro e w6 ⟨rfl, hb6⟩
    have H6 := Lib.hid (H5.out.trans (hb6.mono H5.out.size))
    clear hb6
    go_wp2_with fail
    by_cases h0 : A = 0
    · subst h0
      refine (pfault_ok _ _).mono ?_
      rintro e w9 ⟨rfl, hb9⟩
      go_wp2_with fail
      go_ret2
      rw [HP.out]
      exact ⟨_, rfl, .inl ⟨rfl, rfl⟩, H.out.2.2.2.2.2.1 _ (H6.out.trans (hb9.mono H6.out.size))⟩
    · refine (pfault_any _ A h0 _).mono ?_
      rintro e w9 ⟨fb, op, rfl, hf, hb9⟩
      go_wp2_with fail
      go_ret2
      rw [HP.out]
      exact ⟨_, rfl, .inr ⟨h0, fb, op, _, rfl, hf⟩, H.out.2.2.2.2.2.1 _ (H6.out.trans (hb9.mono H6.out.size))⟩
end Go.Proofs.Ytnkkbinbeildmaa
