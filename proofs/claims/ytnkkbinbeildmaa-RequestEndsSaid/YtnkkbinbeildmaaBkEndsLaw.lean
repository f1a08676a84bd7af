/- PROVED HERE: for every list of acts the law RequestEnds returns true (what was denied or revoked is never approved, and never open again; what is approved stays so, or is revoked, or its time is over). No condition. -/
import Derived.Test.YtnkkbinbeildmaaBkF
import Derived.Test.YtnkkbinbeildmaaPyOpen
import Derived.Test.YtnkkbinbeildmaaRows
import Derived.ProofKit
import Derived.OpenShut
namespace Go.Proofs.Ytnkkbinbeildmaa
open Go.RowKit
theorem may_sizes {q : Py.Q} (h : Py.mayB q = true) : q.who.size ≤ 24 ∧ q.reason.size ≤ 120 := by
  simp only [Py.mayB, Py.nameB, Py.inB, Bool.and_eq_true, decide_eq_true_eq] at h
  omega
theorem late_no {y : En} (h : y.q.exp < 1099511627776) : Bk.atI y 1099511627776 ≠ 1 ∧ Bk.atI y 1099511627776 ≠ 2 := by
  unfold Bk.atI
  split
  · omega
  · omega
theorem few_sizes {a : Bk.Act} (h : fewA a = true) : a.q.who.size ≤ 100 ∧ a.q.reason.size ≤ 300 ∧ a.who.size ≤ 100 := by
  simp only [fewA, fewQ, Bool.and_eq_true, decide_eq_true_eq] at h
  omega
set_option maxRecDepth 100000 in
set_option maxHeartbeats 8000000 in
theorem bends_law {w : World} (l : List Bk.Act) (a0 : Option Addr) (cap : Nat) (hT : RecsAt 9 acCs w a0 l) (hO : ∀ x ∈ l, x.Ok) (hm : l.length ≤ maxLen) :
    Calls Try.prog 7 #[.slice a0 l.length cap] w fun e w' => e = .returned (.bool true) ∧ Below w.heap.size w w' := by
  unfold maxLen at hm
  obtain ⟨n, hn⟩ : ∃ n, n = l.length := ⟨_, rfl⟩
  rw [← hn] at hm ⊢
  obtain ⟨nb, hnb⟩ : ∃ nb, nb = w.heap.size := ⟨_, rfl⟩
  have hnew := bnew_any w
  rw [← hnb] at hnew
  have HN := Lib.hid (And.intro hnew (And.intro hnb.symm (And.intro hT (And.intro hO hn))))
  clear hnew hnb hT hO hn
  have hsz : ∀ W, Below nb w W → nb ≤ W.heap.size := fun W h => Nat.le_trans (Nat.le_of_eq HN.out.2.1.symm) h.size
  have hin : ∀ W, Below nb w W → RecsAt 9 acCs W a0 l := fun W h => HN.out.2.2.1.below (by have := h; rw [← HN.out.2.1] at this; exact this)
  have HS := Lib.hid (And.intro hsz hin)
  clear hsz hin
  go_enter Try.func7, Try.ntmps7
  go_wp2_with fail
  refine HN.out.1.mono ?_
  rintro e w1 ⟨rfl, hbk1, hb1, -⟩
  have HB1 := Lib.hid (And.intro hbk1 hb1)
  clear hbk1 hb1
  go_wp2_with fail
  refine (awake21_any _).mono ?_
  rintro e w2 ⟨rfl, hb2⟩
  have HB2 := Lib.hid (And.intro (HB1.out.1.below hb2) (HB1.out.2.trans (hb2.mono (HS.out.1 _ HB1.out.2))))
  clear hb2
  go_wp2_with fail
  go_loopw [4, 5, 6, 7, 8, 9, 10, 11, 12] (fun v4 _ _ _ _ _ _ _ _ wr => ∃ (i : Nat) (R : Option Nat) (lst : List En), i ≤ n ∧ v4 = .int .i64 (i : Int) ∧ BkAt nb wr nb R lst ∧ Bk.Good lst ∧ Below nb w wr) (fun v4 _ _ _ _ _ _ _ _ _ => n - (intOf v4).toNat)
  case atStart => exact ⟨0, none, [], by omega, rfl, HB2.out.1, Bk.Good.nil, HB2.out.2⟩
  case round =>
    rename World => wo
    obtain ⟨i, R, lst, hi, rfl, hbk, hgd, hb⟩ := hrel
    by_cases hlt : i < n
    rotate_left
    · have HZ := Lib.hid hb
      clear hb hbk hgd
      go_wp2_with fail
      go_ret
      exact ⟨rfl, by have := HZ.out; rw [← HN.out.2.1] at this; exact this⟩
    by_cases h60 : i < 60
    rotate_left
    · have HZ := Lib.hid hb
      clear hb hbk hgd
      go_wp2_with fail
      go_ret
      exact ⟨rfl, by have := HZ.out; rw [← HN.out.2.1] at this; exact this⟩
    obtain ⟨x, hx⟩ : ∃ x, l[i]? = some x := ⟨_, List.getElem?_eq_getElem (by have := HN.out.2.2.2.2; omega)⟩
    have hxo := HN.out.2.2.2.1 x (List.mem_of_getElem? hx)
    obtain ⟨bb, off, rfl, hbl, hc⟩ := HS.out.2 wo hb i x hx
    have hfc := fun W => few21_any x hxo W
    unfold acVal at hfc
    have HX := Lib.hid (And.intro hx (And.intro hxo (And.intro hbk (And.intro hgd (And.intro hb hfc)))))
    have hcx := fun W (hb2 : Below wo.heap.size wo W) (m : Nat) (hm : m < 9) => (hb2.cell (p := ⟨bb, off + i * 9 + m, none⟩) hbl).trans (hc m hm)
    have HCX := Lib.hid hcx
    clear hx hxo hbk hgd hb hfc hcx hc
    have c0 : wo.cell? ⟨bb, off + i * 9, none⟩ = some (.int .i64 x.kind) := HCX.out wo (Below.refl _ _) 0 (by omega)
    have c1 : wo.cell? ⟨bb, off + i * 9 + 1, none⟩ = some (.int .i64 x.id) := HCX.out wo (Below.refl _ _) 1 (by omega)
    have c2 : wo.cell? ⟨bb, off + i * 9 + 2, none⟩ = some (.int .i64 x.now) := HCX.out wo (Below.refl _ _) 2 (by omega)
    have c3 : wo.cell? ⟨bb, off + i * 9 + 3, none⟩ = some (.int .i64 x.q.id) := HCX.out wo (Below.refl _ _) 3 (by omega)
    have c4 : wo.cell? ⟨bb, off + i * 9 + 4, none⟩ = some (.string x.q.who) := HCX.out wo (Below.refl _ _) 4 (by omega)
    have c5 : wo.cell? ⟨bb, off + i * 9 + 5, none⟩ = some (.int .i64 x.q.entry) := HCX.out wo (Below.refl _ _) 5 (by omega)
    have c6 : wo.cell? ⟨bb, off + i * 9 + 6, none⟩ = some (.string x.q.reason) := HCX.out wo (Below.refl _ _) 6 (by omega)
    have c7 : wo.cell? ⟨bb, off + i * 9 + 7, none⟩ = some (.int .i64 x.q.exp) := HCX.out wo (Below.refl _ _) 7 (by omega)
    have c8 : wo.cell? ⟨bb, off + i * 9 + 8, none⟩ = some (.string x.who) := HCX.out wo (Below.refl _ _) 8 (by omega)
    cases hf : fewA x with
    | false =>
      rw [hf] at HX
      go_wp2_with fail
      refine (HX.out.2.2.2.2.2 _).mono ?_
      rintro e w3 ⟨rfl, hb3⟩
      have H3 := Lib.hid hb3
      clear hb3
      go_wp2_with fail
      go_roundw
      case rel => exact ⟨i + 1, R, lst, by omega, by go_num, HX.out.2.2.1.below H3.out, HX.out.2.2.2.1, HX.out.2.2.2.2.1.trans (H3.out.mono (HS.out.1 _ HX.out.2.2.2.2.1))⟩
      case measure => simp [intOf]; omega
    | true =>
      have hfs := few_sizes hf
      rw [hf] at HX
      have HF := Lib.hid hfs
      clear hf hfs
      go_wp2_with fail
      refine (HX.out.2.2.2.2.2 _).mono ?_
      rintro e w3 ⟨rfl, hb3⟩
      have hgd := HX.out.2.2.2.1
      have hcl := (HX.out.2.2.1.below hb3).clone (by have := hgd.few; omega) (fun y hy => by have := may_sizes (hgd.may y hy); omega)
      have H3 := Lib.hid (And.intro hb3 (And.intro hcl (HX.out.2.2.1.below hb3)))
      clear hb3 hcl hgd c0 c1 c2 c3 c4 c5 c6 c7 c8
      go_wp2_with fail
      refine H3.out.2.1.mono ?_
      rintro e w4 ⟨gc, Rc, rfl, hcl4, hb4⟩
      have hbk4 := H3.out.2.2.below hb4
      have hdo := do21_any hbk4 HX.out.2.2.2.1.st HX.out.2.2.2.1.few x (by have := HF.out; omega) (by have := HF.out; omega) (HS.out.1 _ (HX.out.2.2.2.2.1.trans ((H3.out.1.trans (hb4.mono H3.out.1.size)).mono (HS.out.1 _ HX.out.2.2.2.2.1))))
      unfold acVal at hdo
      have H4 := Lib.hid (And.intro hcl4 (And.intro hb4 (And.intro hbk4 (And.intro hdo (H3.out.1.trans (hb4.mono H3.out.1.size))))))
      clear hcl4 hb4 hbk4 hdo
      have c0 : w4.cell? ⟨bb, off + i * 9, none⟩ = some (.int .i64 x.kind) := HCX.out w4 (H4.out.2.2.2.2) 0 (by omega)
      have c1 : w4.cell? ⟨bb, off + i * 9 + 1, none⟩ = some (.int .i64 x.id) := HCX.out w4 (H4.out.2.2.2.2) 1 (by omega)
      have c2 : w4.cell? ⟨bb, off + i * 9 + 2, none⟩ = some (.int .i64 x.now) := HCX.out w4 (H4.out.2.2.2.2) 2 (by omega)
      have c3 : w4.cell? ⟨bb, off + i * 9 + 3, none⟩ = some (.int .i64 x.q.id) := HCX.out w4 (H4.out.2.2.2.2) 3 (by omega)
      have c4 : w4.cell? ⟨bb, off + i * 9 + 4, none⟩ = some (.string x.q.who) := HCX.out w4 (H4.out.2.2.2.2) 4 (by omega)
      have c5 : w4.cell? ⟨bb, off + i * 9 + 5, none⟩ = some (.int .i64 x.q.entry) := HCX.out w4 (H4.out.2.2.2.2) 5 (by omega)
      have c6 : w4.cell? ⟨bb, off + i * 9 + 6, none⟩ = some (.string x.q.reason) := HCX.out w4 (H4.out.2.2.2.2) 6 (by omega)
      have c7 : w4.cell? ⟨bb, off + i * 9 + 7, none⟩ = some (.int .i64 x.q.exp) := HCX.out w4 (H4.out.2.2.2.2) 7 (by omega)
      have c8 : w4.cell? ⟨bb, off + i * 9 + 8, none⟩ = some (.string x.who) := HCX.out w4 (H4.out.2.2.2.2) 8 (by omega)
      go_wp2_with fail
      refine H4.out.2.2.2.1.mono ?_
      rintro e w5 ⟨v5, R5, rfl, -, hbk5, hk5, hR5⟩
      have hrow := H4.out.2.2.1.row
      have hrc := H4.out.1.row
      have hgcl : w3.heap.size ≤ gc := H4.out.1.1
      have hcl5 := H4.out.1.kept hk5 (by have := H3.out.2.2.lt; omega) (fun e => by have := (H3.out.2.2.row gc e).2.1; omega) (fun e => by have := (hrc nb e).1; have := H3.out.2.2.lt; omega) (by
        cases Rc with
        | none => exact .inl rfl
        | some g => exact .inr fun e => by have := (hrc g rfl).1; have := (H3.out.2.2.row g e.symm).2.1; omega)
      have hb5 := hk5.below (B := nb) (HX.out.2.2.2.2.1.trans (H4.out.2.2.2.2.mono (HS.out.1 _ HX.out.2.2.2.2.1))) (HS.out.1 _ (HX.out.2.2.2.2.1.trans (H4.out.2.2.2.2.mono (HS.out.1 _ HX.out.2.2.2.2.1)))) (Nat.le_refl _) (fun g hg => (hrow g hg).1)
      have hids := hcl5.ids (by have := HX.out.2.2.2.1.few; omega)
      obtain ⟨m, hmm⟩ : ∃ m, m = lst.length := ⟨_, rfl⟩
      obtain ⟨L', hL'⟩ : ∃ L', L' = Bk.after lst (nk x) := ⟨_, rfl⟩
      have hg5 : Bk.Good L' := by rw [hL']; exact HX.out.2.2.2.1.behind (nk_kind x)
      have hends := fun (k : Nat) (y : En) (hy : lst[k]? = some y) => Bk.ends (nk_kind x) hy
      rw [← hL'] at hbk5 hends
      rw [← hmm] at hids
      have hm200 : m ≤ 200 := by rw [hmm]; exact HX.out.2.2.2.1.few
      have H5 := Lib.hid (And.intro hcl5 (And.intro hbk5 (And.intro hb5 (And.intro hids (And.intro hg5 (And.intro hends hmm))))))
      clear hrow hrc hgcl hcl5 hbk5 hk5 hR5 hb5 hids hg5 hends hmm hL' c0 c1 c2 c3 c4 c5 c6 c7 c8
      go_wp2_with fail
      refine H5.out.2.2.2.1.mono ?_
      rintro e w6 ⟨ad, cp, rfl, hids, hb6⟩
      have H6 := Lib.hid (And.intro hids hb6)
      clear hids hb6
      go_wp2_with fail
      go_loopw [7, 8, 9, 10, 11, 12] (fun v7 _ _ _ _ _ wi => ∃ k : Nat, k ≤ m ∧ v7 = .int .i64 (k : Int) ∧ Below w5.heap.size w5 wi ∧ Below w6.heap.size w6 wi) (fun v7 _ _ _ _ _ _ => m - (intOf v7).toNat)
      case atStart => exact ⟨0, by omega, rfl, H6.out.2, Below.refl _ _⟩
      case round =>
        obtain ⟨k, hk, rfl, hbi, hbi6⟩ := hrel
        by_cases hkm : k < m
        rotate_left
        · have HI := Lib.hid hbi
          clear hbi hbi6
          go_wp2_with fail
          go_roundw
          case rel => exact ⟨i + 1, R5, L', by omega, by go_num, H5.out.2.1.below HI.out, H5.out.2.2.2.2.1, H5.out.2.2.1.trans (HI.out.mono (HS.out.1 _ H5.out.2.2.1))⟩
          case measure => simp [intOf]; omega
        obtain ⟨y0, hy0⟩ : ∃ y, lst[k]? = some y := ⟨_, List.getElem?_eq_getElem (by have := H5.out.2.2.2.2.2.2; omega)⟩
        have hgd := HX.out.2.2.2.1
        have hy0m := List.mem_of_getElem? hy0
        obtain ⟨y, hy, hyq, hy34, hy2⟩ := H5.out.2.2.2.2.2.1 k y0 hy0
        obtain ⟨gi, hgi, hgil, hgib, hcell⟩ := H6.out.1.at icl_size (j := k) (x := y0.q.id) (by rw [List.getElem?_map, hy0]; rfl)
        subst hgi
        have hq0 := hcell 0 (by omega)
        have hqi : wr.cell? ⟨gi, k, none⟩ = some (.int .i64 y0.q.id) := (hbi6.cell (p := ⟨gi, k, none⟩) hgib).trans (by simpa [icl] using hq0)
        have hgii : gi < wr.heap.size := Nat.lt_of_lt_of_le hgib hbi6.size
        have hget := (H5.out.1.below hbi).getAt y0.q.id (x := y0) (by rw [Bk.find_of hgd hy0]; exact hy0) (by have := may_sizes (hgd.may y0 hy0m); omega) (by have := may_sizes (hgd.may y0 hy0m); omega)
        have hstc := fun W (hb : Below w5.heap.size w5 W) => (H5.out.1.below hb).state y0.q.id 0
        have hstb := fun W (hb : Below w5.heap.size w5 W) => (H5.out.2.1.below hb).state y0.q.id 0
        have hstl := fun W (hb : Below w5.heap.size w5 W) => (H5.out.2.1.below hb).state y0.q.id 1099511627776
        have hym := List.mem_of_getElem? hy
        rw [Bk.state_of hgd hy0, Bk.at_zero (hgd.may y0 hy0m)] at hstc
        rw [← hyq, Bk.state_of H5.out.2.2.2.2.1 hy, Bk.at_zero (H5.out.2.2.2.2.1.may y hym), hyq] at hstb
        rw [← hyq, Bk.state_of H5.out.2.2.2.2.1 hy, hyq] at hstl
        obtain ⟨s, hs⟩ : ∃ s, s = y0.st := ⟨_, rfl⟩
        obtain ⟨t, ht⟩ : ∃ t, t = y.st := ⟨_, rfl⟩
        obtain ⟨z, hz⟩ : ∃ z, z = Bk.atI y 1099511627776 := ⟨_, rfl⟩
        have hlate : y0.q.exp < 1099511627776 → z ≠ 1 ∧ z ≠ 2 := fun h => by rw [hz]; exact late_no (by rw [hyq]; exact h)
        have hs14 := hgd.st y0 hy0m
        rw [← hs] at hstc hs14 hy34 hy2
        rw [← ht] at hstb hy34 hy2
        rw [← hz] at hstl
        unfold qVal at hget
        have HK := Lib.hid (And.intro hget (And.intro hstc (And.intro hstb (And.intro hstl (And.intro hbi hbi6)))))
        have HL := Lib.hid hlate
        have hcs : (s = 1) ∨ (s = 2 ∧ t = 2) ∨ (s = 2 ∧ t = 4) ∨ (s = 3 ∧ t = 3) ∨ (s = 4 ∧ t = 4) := by
          rcases (show s = 1 ∨ s = 2 ∨ s = 3 ∨ s = 4 by omega) with e | e | e | e
          · exact .inl e
          · rcases hy2 e with e2 | e2
            · exact .inr (.inl ⟨e, e2⟩)
            · exact .inr (.inr (.inl ⟨e, e2⟩))
          · exact .inr (.inr (.inr (.inl ⟨e, by rw [hy34 (.inl e), e]⟩)))
          · exact .inr (.inr (.inr (.inr ⟨e, by rw [hy34 (.inr e), e]⟩)))
        have HCS := Lib.hid hcs
        clear hget hstc hstb hstl hlate hs14 hy34 hy2 hs ht hz hbi hbi6 hy0 hgd hy0m hy hyq hym hcell hq0 hgil hcs
        go_wp2_with fail
        refine HK.out.1.mono ?_
        rintro e w7 ⟨rfl, hb7⟩
        have HQ := Lib.hid (And.intro ((hb7.cell (p := ⟨gi, k, none⟩) hgii).trans hqi) (And.intro (Nat.lt_of_lt_of_le hgii hb7.size) (HK.out.2.2.2.2.1.trans (hb7.mono HK.out.2.2.2.2.1.size))))
        have HQ6 := Lib.hid (HK.out.2.2.2.2.2.trans (hb7.mono HK.out.2.2.2.2.2.size))
        clear hb7 hqi hgii
        obtain ⟨w8, hw8⟩ : ∃ w8, w8 = w7.alloc (.cells (qCs y0.q) 24) := ⟨_, rfl⟩
        obtain ⟨gq, hgq⟩ : ∃ gq, gq = w7.heap.size := ⟨_, rfl⟩
        have hb8 := box_below hw8
        have a8 : w8.heap[gq]? = some (.cells (qCs y0.q) 24 (0, 0)) := by rw [hw8, hgq]; exact heap_alloc_new _ _
        have H8 := Lib.hid (And.intro ((hb8.cell (p := ⟨gi, k, none⟩) HQ.out.2.1).trans HQ.out.1) (And.intro (Nat.lt_of_lt_of_le HQ.out.2.1 hb8.size) (And.intro (HQ.out.2.2.trans (hb8.mono HQ.out.2.2.size)) (And.intro a8 (HQ6.out.trans (hb8.mono HQ6.out.size))))))
        clear hb8 a8
        unfold qCs at hw8
        go_upto_region 15 with fail
        rw [← hw8, ← hgq]
        clear hw8 hgq
        refine wp_region_held (S := fun W : World => (W.cell? ⟨gi, k, none⟩ = some (.int .i64 y0.q.id) ∧ gi < W.heap.size)) (by kernel_rfl) ?_
        change wpAnyH _ _ _ _ _ _ _ _ (World.drew _)
        generalize hv0 : World.drew _ = v0
        have E0 : (v0.cell? ⟨gi, k, none⟩ = some (.int .i64 y0.q.id) ∧ gi < v0.heap.size) := by rw [← hv0]; exact ⟨H8.out.1, H8.out.2.1⟩
        have F0 : Below w8.heap.size w8 v0 := by rw [← hv0]; exact ((Below.refl _ _).drew)
        clear hv0
        refine wpAnyH_take (i := 0) (v := ?_) rfl (by kernel_rfl) (by kernel_rfl) (by kernel_rfl) (fun _ _ _ h => h) (Or.inl ⟨by kernel_rfl, ?_⟩) E0 ?_
        rotate_left
        · (intro W hS; have k1 := hS.1; go_simp; try (with_reducible rfl))
        refine wpAnyH_take (i := 1) (v := ?_) rfl (by kernel_rfl) (by kernel_rfl) (by kernel_rfl) (fun _ _ _ h => h) (Or.inl ⟨by kernel_rfl, ?_⟩) E0 ?_
        rotate_left
        · (intro W hS; have k1 := hS.1; go_simp; try (with_reducible rfl))
        refine wpAnyH_take (i := 2) (v := ?_) rfl (by kernel_rfl) (by kernel_rfl) (by kernel_rfl) (fun _ _ _ h => h) (Or.inl ⟨by kernel_rfl, ?_⟩) E0 ?_
        rotate_left
        · (intro W hS; have k1 := hS.1; go_simp; try (with_reducible rfl))
        refine wpAnyH_take (i := 3) (v := ?_) rfl (by kernel_rfl) (by kernel_rfl) (by kernel_rfl) (fun _ _ _ h => h) (Or.inl ⟨by kernel_rfl, ?_⟩) E0 ?_
        rotate_left
        · (intro W hS; have k1 := hS.1; go_simp; try (with_reducible rfl))
        refine wpAnyH_take (i := 4) (v := ?_) rfl (by kernel_rfl) (by kernel_rfl) (by kernel_rfl) (fun _ _ _ h => h) (Or.inl ⟨by kernel_rfl, ?_⟩) E0 ?_
        rotate_left
        · (intro W hS; have k1 := hS.1; go_simp; try (with_reducible rfl))
        refine wpAnyH_take (i := 6) (v := ?_) rfl (by kernel_rfl) (by kernel_rfl) (by kernel_rfl) (fun _ _ _ h => h) (Or.inl ⟨by kernel_rfl, ?_⟩) E0 ?_
        rotate_left
        · (intro W hS; have k1 := hS.1; go_simp; try (with_reducible rfl))
        refine wpAnyH_take (i := 7) (v := ?_) rfl (by kernel_rfl) (by kernel_rfl) (by kernel_rfl) (fun _ _ _ h => h) (Or.inl ⟨by kernel_rfl, ?_⟩) E0 ?_
        rotate_left
        · (intro W hS; have k1 := hS.1; go_simp; try (with_reducible rfl))
        refine wpAnyH_take (i := 8) (v := ?_) rfl (by kernel_rfl) (by kernel_rfl) (by kernel_rfl) (fun _ _ _ h => h) (Or.inl ⟨by kernel_rfl, ?_⟩) E0 ?_
        rotate_left
        · (intro W hS; have k1 := hS.1; go_simp; try (with_reducible rfl))
        refine wpAnyH_take (i := 9) (v := ?_) rfl (by kernel_rfl) (by kernel_rfl) (by kernel_rfl) (fun _ _ _ h => h) (Or.inl ⟨by kernel_rfl, ?_⟩) E0 ?_
        rotate_left
        · (intro W hS; have k1 := hS.1; go_simp; try (with_reducible rfl))
        refine wpAnyH_take (i := 10) (v := ?_) rfl (by kernel_rfl) (by kernel_rfl) (by kernel_rfl) (fun _ _ _ h => h) (Or.inl ⟨by kernel_rfl, ?_⟩) E0 ?_
        rotate_left
        · (intro W hS; have k1 := hS.1; go_simp; try (with_reducible rfl))
        refine wpAnyH_ready (rs := [5]) (by kernel_rfl) (by simp) ?_
        refine AllReadyH.cons (i := 5) rfl (fun K hK => ?_) AllReadyH.nil
        go_simp
        refine (HK.out.2.1 v0 (H8.out.2.2.1.trans (F0.mono H8.out.2.2.1.size))).mono ?_
        rintro e v1 ⟨rfl, hb⟩
        have F1 := F0.trans (hb.mono F0.size)
        have E1 : (v1.cell? ⟨gi, k, none⟩ = some (.int .i64 y0.q.id) ∧ gi < v1.heap.size) := ⟨(hb.cell (p := ⟨gi, k, none⟩) E0.2).trans E0.1, Nat.lt_of_lt_of_le E0.2 hb.size⟩
        refine hK.out _ _ E1 (fun _ => ?_)
        clear hK K hb
        refine wpAnyH_ready (rs := [11]) (by kernel_rfl) (by simp) ?_
        refine AllReadyH.cons (i := 11) rfl (fun K hK => ?_) AllReadyH.nil
        go_simp
        refine (HK.out.2.2.1 v1 (H8.out.2.2.1.trans (F1.mono H8.out.2.2.1.size))).mono ?_
        rintro e v2 ⟨rfl, hb⟩
        have F2 := F1.trans (hb.mono F1.size)
        have E2 : (v2.cell? ⟨gi, k, none⟩ = some (.int .i64 y0.q.id) ∧ gi < v2.heap.size) := ⟨(hb.cell (p := ⟨gi, k, none⟩) E1.2).trans E1.1, Nat.lt_of_lt_of_le E1.2 hb.size⟩
        refine hK.out _ _ E2 (fun _ => ?_)
        clear hK K hb
        refine wpAnyH_take (i := 12) (v := ?_) rfl (by kernel_rfl) (by kernel_rfl) (by kernel_rfl) (fun _ _ _ h => h) (Or.inl ⟨by kernel_rfl, ?_⟩) E2 ?_
        rotate_left
        · (intro W hS; have k1 := hS.1; go_simp; try (with_reducible rfl))
        refine wpAnyH_take (i := 13) (v := ?_) rfl (by kernel_rfl) (by kernel_rfl) (by kernel_rfl) (fun _ _ _ h => h) (Or.inl ⟨by kernel_rfl, ?_⟩) E2 ?_
        rotate_left
        · (intro W hS; have k1 := hS.1; go_simp; try (with_reducible rfl))
        refine wpAnyH_done (by kernel_rfl) ?_ _
        go_simp
        have HE := Lib.hid (And.intro (H8.out.2.2.1.trans (F2.mono H8.out.2.2.1.size)) (And.intro E2 (And.intro ((F2.block gq (blt_of_heap H8.out.2.2.2.1)).trans H8.out.2.2.2.1) (H8.out.2.2.2.2.trans (F2.mono H8.out.2.2.2.2.size)))))
        clear F0 F2 E0 E1
        have hcs := HCS.out
        have hqe := HE.out.2.1.1
        have e4 : v2.cell? ⟨gq, 4, none⟩ = some (.int .i64 y0.q.exp) := by rw [cell_of_row _ _ _ _ _ _ HE.out.2.2.1]; rfl
        rcases hcs with rfl | ⟨rfl, rfl⟩ | ⟨rfl, rfl⟩ | ⟨rfl, rfl⟩ | ⟨rfl, rfl⟩
        · clear HCS
          go_wp2_with fail
          refine (HK.out.2.2.2.1 _ HE.out.1).mono ?_
          rintro e w11 ⟨rfl, hb11⟩
          have e5 : w11.cell? ⟨gq, 4, none⟩ = some (.int .i64 y0.q.exp) := (hb11.cell (p := ⟨gq, 4, none⟩) (blt_of_heap HE.out.2.2.1)).trans e4
          have H11 := Lib.hid (And.intro (HE.out.1.trans (hb11.mono HE.out.1.size)) (HE.out.2.2.2.trans (hb11.mono HE.out.2.2.2.size)))
          clear hb11 hqe e4
          by_cases hex : y0.q.exp < 1099511627776
          · obtain ⟨z1, z2⟩ := HL.out hex
            have y1 : (z == 1) = false := by simpa using z1
            have y2 : (z == 2) = false := by simpa using z2
            clear z1 z2
            go_wp2_with fail
            go_roundw
            case rel => exact ⟨k + 1, by omega, by go_num, H11.out.1, H11.out.2⟩
            case measure => simp [intOf]; omega
          · skip
            go_wp2_with fail
            go_roundw
            case rel => exact ⟨k + 1, by omega, by go_num, H11.out.1, H11.out.2⟩
            case measure => simp [intOf]; omega
        · clear HCS
          go_wp2_with fail
          refine (HK.out.2.2.2.1 _ HE.out.1).mono ?_
          rintro e w11 ⟨rfl, hb11⟩
          have e5 : w11.cell? ⟨gq, 4, none⟩ = some (.int .i64 y0.q.exp) := (hb11.cell (p := ⟨gq, 4, none⟩) (blt_of_heap HE.out.2.2.1)).trans e4
          have H11 := Lib.hid (And.intro (HE.out.1.trans (hb11.mono HE.out.1.size)) (HE.out.2.2.2.trans (hb11.mono HE.out.2.2.2.size)))
          clear hb11 hqe e4
          by_cases hex : y0.q.exp < 1099511627776
          · obtain ⟨z1, z2⟩ := HL.out hex
            have y1 : (z == 1) = false := by simpa using z1
            have y2 : (z == 2) = false := by simpa using z2
            clear z1 z2
            go_wp2_with fail
            go_roundw
            case rel => exact ⟨k + 1, by omega, by go_num, H11.out.1, H11.out.2⟩
            case measure => simp [intOf]; omega
          · skip
            go_wp2_with fail
            go_roundw
            case rel => exact ⟨k + 1, by omega, by go_num, H11.out.1, H11.out.2⟩
            case measure => simp [intOf]; omega
        · clear HCS
          go_wp2_with fail
          refine (HK.out.2.2.2.1 _ HE.out.1).mono ?_
          rintro e w11 ⟨rfl, hb11⟩
          have e5 : w11.cell? ⟨gq, 4, none⟩ = some (.int .i64 y0.q.exp) := (hb11.cell (p := ⟨gq, 4, none⟩) (blt_of_heap HE.out.2.2.1)).trans e4
          have H11 := Lib.hid (And.intro (HE.out.1.trans (hb11.mono HE.out.1.size)) (HE.out.2.2.2.trans (hb11.mono HE.out.2.2.2.size)))
          clear hb11 hqe e4
          by_cases hex : y0.q.exp < 1099511627776
          · obtain ⟨z1, z2⟩ := HL.out hex
            have y1 : (z == 1) = false := by simpa using z1
            have y2 : (z == 2) = false := by simpa using z2
            clear z1 z2
            go_wp2_with fail
            go_roundw
            case rel => exact ⟨k + 1, by omega, by go_num, H11.out.1, H11.out.2⟩
            case measure => simp [intOf]; omega
          · skip
            go_wp2_with fail
            go_roundw
            case rel => exact ⟨k + 1, by omega, by go_num, H11.out.1, H11.out.2⟩
            case measure => simp [intOf]; omega
        · clear HCS
          go_wp2_with fail
          refine (HK.out.2.2.2.1 _ HE.out.1).mono ?_
          rintro e w11 ⟨rfl, hb11⟩
          have e5 : w11.cell? ⟨gq, 4, none⟩ = some (.int .i64 y0.q.exp) := (hb11.cell (p := ⟨gq, 4, none⟩) (blt_of_heap HE.out.2.2.1)).trans e4
          have H11 := Lib.hid (And.intro (HE.out.1.trans (hb11.mono HE.out.1.size)) (HE.out.2.2.2.trans (hb11.mono HE.out.2.2.2.size)))
          clear hb11 hqe e4
          by_cases hex : y0.q.exp < 1099511627776
          · obtain ⟨z1, z2⟩ := HL.out hex
            have y1 : (z == 1) = false := by simpa using z1
            have y2 : (z == 2) = false := by simpa using z2
            clear z1 z2
            go_wp2_with fail
            go_roundw
            case rel => exact ⟨k + 1, by omega, by go_num, H11.out.1, H11.out.2⟩
            case measure => simp [intOf]; omega
          · skip
            go_wp2_with fail
            go_roundw
            case rel => exact ⟨k + 1, by omega, by go_num, H11.out.1, H11.out.2⟩
            case measure => simp [intOf]; omega
        · clear HCS
          go_wp2_with fail
          refine (HK.out.2.2.2.1 _ HE.out.1).mono ?_
          rintro e w11 ⟨rfl, hb11⟩
          have e5 : w11.cell? ⟨gq, 4, none⟩ = some (.int .i64 y0.q.exp) := (hb11.cell (p := ⟨gq, 4, none⟩) (blt_of_heap HE.out.2.2.1)).trans e4
          have H11 := Lib.hid (And.intro (HE.out.1.trans (hb11.mono HE.out.1.size)) (HE.out.2.2.2.trans (hb11.mono HE.out.2.2.2.size)))
          clear hb11 hqe e4
          by_cases hex : y0.q.exp < 1099511627776
          · obtain ⟨z1, z2⟩ := HL.out hex
            have y1 : (z == 1) = false := by simpa using z1
            have y2 : (z == 2) = false := by simpa using z2
            clear z1 z2
            go_wp2_with fail
            go_roundw
            case rel => exact ⟨k + 1, by omega, by go_num, H11.out.1, H11.out.2⟩
            case measure => simp [intOf]; omega
          · skip
            go_wp2_with fail
            go_roundw
            case rel => exact ⟨k + 1, by omega, by go_num, H11.out.1, H11.out.2⟩
            case measure => simp [intOf]; omega
end Go.Proofs.Ytnkkbinbeildmaa

namespace Go.Proofs.Ytnkkbinbeildmaa.requestEndsLaw
open Go.ChangeShapes Go.WideShapes Go.ChangeAt Go.RowKit
open Go.ChangeMaps (open_string shut_string)

theorem own : ownKnob Try.prog.godebug = none := by kernel_rfl
set_option maxRecDepth 100000 in
theorem lifted (os : Os) (started : os.Started) (H : Type) (enc : TypeId × Value → H) :
    ReturnsInHanded {} Try.checked os 7 .any (Rows.requestEndsSpec.pre6 enc Try.prog Try.f7 Rows.requestEndsRow.domain false) (Rows.requestEndsSpec.post enc Try.prog Try.f7 false true false false) := by
  refine returnsInHanded_of_change (C := Try.checked) own started (by kernel_rfl) Try.func7
    (ChangeSpec.witness6 (enc := enc) (C := Try.checked) false ⟨#[], #[.slice none 0 0], []⟩ 8 (by kernel_rfl) (by kernel_rfl) (by kernel_rfl) (by kernel_rfl)) ?_
  intro W base args ds gs before hval0 hW hcnd _
  have hval : ∀ (j : Nat) t v, Try.f7.params[j]? = some t → args[j]? = some v → Value.okWide Try.prog W .any base t v := hval0
  have hW' := hW
  obtain ⟨p, q, hA0, hV, rfl, hfz, hnd⟩ := hW
  have hA : DataW.TrodAll enc Try.prog W 0 (fun _ => true) true Try.f7.params.toList args.toList ds p := hA0
  rw [Try.params7] at hA hval
  obtain ⟨v0, vs0, d0, ds0, p0, q0, hargs, rfl, rfl, h0, r0⟩ := trodAll_cons hA
  obtain ⟨rfl, rfl, rfl⟩ := trodAll_nil r0
  obtain rfl : args = #[v0] := by cases args; simp_all
  obtain ⟨rfl, rfl⟩ := trodVars_none hV
  obtain ⟨a0, len0, cap0, rfl⟩ := okWide_slice Try.underlying51 (hval 0 51 v0 rfl rfl)
  have hk0 := h0
  obtain ⟨fuel0, hf0⟩ := h0
  clear hA0 hval0
  simp only [List.append_nil] at hW'
  have hlt0 : ∀ x ∈ p0, x.block < W.heap.size := fun x hx => by simpa using hW'.lt x (by simp [hx])
  obtain ⟨ss0, hlen0, hmax0, hT0, hO0⟩ := acts21_of hf0 hlt0
  subst hlen0
  refine (bends_law ss0 a0 cap0 hT0 hO0 hmax0 (w := W)).mono fun e W' ⟨he, hb⟩ => ?_
  subst he
  exact ⟨_, rfl, _, _, _, [], _, [], hW', trodAll_cons_mk (shut_bool Try.underlying4 _) trodAll_mk0, (trodAll_cons_mk (Below.trod laidOut (by kernel_rfl) (of_decide_eq_true (by kernel_rfl)) hk0 hb hlt0) trodAll_mk0), rfl, hb.frame _, fun h => by cases h⟩
theorem over : Rows.requestEndsRow.holds Try.pinned (OpenSpec.ofChange Rows.requestEndsSpec) :=
  OpenClaim.holds_of_wide 7 Try.f7 rfl rfl rfl rfl rfl rfl rfl ⟨rfl, rfl, rfl, rfl, rfl⟩ rfl rfl rfl rfl rfl (by kernel_rfl) Try.func7 (by kernel_rfl)
    (of_decide_eq_true (by kernel_rfl)) (by unfold Func.isWrapper; first | (rw [if_pos (by decide +kernel)]; kernel_rfl) | (rw [if_neg (by decide +kernel)]; exact ⟨rfl, rfl⟩))
    (fun os started H enc _ => lifted os started H enc)
end Go.Proofs.Ytnkkbinbeildmaa.requestEndsLaw

namespace Go.Proofs.Ytnkkbinbeildmaa
theorem requestEnds_said : Rows.RequestEndsSaid := requestEndsLaw.over
end Go.Proofs.Ytnkkbinbeildmaa
