/- The reference's Check (lockboxref17). -/
import Derived.Test.YtgoimggfpagojaaLfMem
import Derived.Laws.Cover1
import Derived.BigQuiet
import Derived.Deep.QuietTactic
namespace Go.Proofs.Ytgoimggfpagojaa
open Go.RowKit

theorem lfB_head {l : Lf} (h : headB l = false) : lfB l = false := by unfold lfB; rw [h]; rfl
theorem head_false {l : Lf} (e : ¬ ((0 ≤ l.n ∧ l.n ≤ 4095) ∧ (l.k = 1 ∨ l.k = 2) ∧ l.d.size = 32 ∧ l.x.size = 32 ∧ l.tags.length ≤ 12 ∧ (l.k ≠ 2 ∨ l.tags = []))) : headB l = false := by
  cases hb : headB l with
  | false => rfl
  | true => exact absurd (headB_iff.1 hb) e
theorem tagAt_bad {n : Int} {l : List Po} {i : Nat} (hi : i < l.length) (h : tagAt n l i = false) {b : Lf} (hn : b.n = n) (hl : b.tags = l) : lfB b = false := by
  cases e : lfB b with
  | false => rfl
  | true =>
    have h2 := (lfB_iff.1 e).2 i (by rw [hl]; exact hi)
    rw [hn, hl, h] at h2
    cases h2
/-- Does the tag ahead of the i-th stand ahead of it? -/
def prevOk (l : List Po) (i : Nat) (p : Po) : Bool := match i with
  | 0 => true
  | j + 1 => match l[j]? with
    | none => true
    | some q => Wd.less q.tag p.tag
theorem tagAt_eq {n : Int} {l : List Po} {i : Nat} {p : Po} (h : l[i]? = some p) : tagAt n l i = (poB n p && prevOk l i p) := by unfold tagAt; rw [h]; rfl
set_option maxRecDepth 100000 in
set_option maxHeartbeats 4000000 in
theorem rcheck17_any (l : Lf) (a0 : Option Addr) (cap : Nat) (hl : l.tags.length ≤ 1000000) (w : World) (hT : PoAt w a0 l.tags) :
    Calls Try.prog 10 #[.agg (lfCs l a0 cap)] w fun e w' => e = .returned (.bool (lfB l)) ∧ Below w.heap.size w w' := by
  obtain ⟨w1, hw1⟩ : ∃ w1, w1 = w.alloc (.cells (lfCs l a0 cap) 30) := ⟨_, rfl⟩
  have hb1 : Below w.heap.size w w1 := by rw [hw1]; exact (Below.refl _ _).alloc (Nat.le_refl _) _
  have hg1 : w1.heap[w.heap.size]? = some (.cells (lfCs l a0 cap) 30 (0, 0)) := by rw [hw1]; exact heap_alloc_new _ _
  obtain ⟨R, hR⟩ : ∃ R, R = lfB l := ⟨_, rfl⟩
  rw [← hR]
  have hT1 := hT.below hb1
  obtain ⟨c0, c1, c2, c3, c4⟩ := lf_cell hg1
  obtain ⟨n, k, d, tags, x⟩ := l
  unfold lfCs at *
  simp only at *
  obtain ⟨N, hN⟩ : ∃ N, N = tags.length := ⟨_, rfl⟩
  rw [← hN] at hw1 hg1 c3 ⊢
  have H := Lib.hid (And.intro hb1 (And.intro hT1 (And.intro hg1 (And.intro hN hR))))
  clear hb1 hT1 hg1 hT
  by_cases h0 : ¬ (n < 0)
  rotate_left
  · obtain rfl : R = false := by rw [hR]; exact lfB_head (head_false (by simp only; omega))
    have e0 : decide (n < 0) = true := decide_eq_true (by omega)
    clear hR hN
    subst hw1
    go_enter Try.func10, Try.ntmps10
    go_wp2_with fail
    go_ret
    exact ⟨rfl, H.out.1⟩
  by_cases h1 : ¬ (4095 < n)
  rotate_left
  · obtain rfl : R = false := by rw [hR]; exact lfB_head (head_false (by simp only; omega))
    have e0 : decide (n < 0) = false := decide_eq_false (by omega)
    have e1 : decide (4095 < n) = true := decide_eq_true (by omega)
    clear hR hN
    subst hw1
    go_enter Try.func10, Try.ntmps10
    go_wp2_with fail
    go_ret
    exact ⟨rfl, H.out.1⟩
  by_cases h2 : ¬ (k < 1)
  rotate_left
  · obtain rfl : R = false := by rw [hR]; exact lfB_head (head_false (by simp only; omega))
    have e0 : decide (n < 0) = false := decide_eq_false (by omega)
    have e1 : decide (4095 < n) = false := decide_eq_false (by omega)
    have e2 : decide (k < 1) = true := decide_eq_true (by omega)
    clear hR hN
    subst hw1
    go_enter Try.func10, Try.ntmps10
    go_wp2_with fail
    go_ret
    exact ⟨rfl, H.out.1⟩
  by_cases h3 : ¬ (2 < k)
  rotate_left
  · obtain rfl : R = false := by rw [hR]; exact lfB_head (head_false (by simp only; omega))
    have e0 : decide (n < 0) = false := decide_eq_false (by omega)
    have e1 : decide (4095 < n) = false := decide_eq_false (by omega)
    have e2 : decide (k < 1) = false := decide_eq_false (by omega)
    have e3 : decide (2 < k) = true := decide_eq_true (by omega)
    clear hR hN
    subst hw1
    go_enter Try.func10, Try.ntmps10
    go_wp2_with fail
    go_ret
    exact ⟨rfl, H.out.1⟩
  by_cases h4 : d.size = 32
  rotate_left
  · obtain rfl : R = false := by rw [hR]; exact lfB_head (head_false (by simp only; omega))
    have e0 : decide (n < 0) = false := decide_eq_false (by omega)
    have e1 : decide (4095 < n) = false := decide_eq_false (by omega)
    have e2 : decide (k < 1) = false := decide_eq_false (by omega)
    have e3 : decide (2 < k) = false := decide_eq_false (by omega)
    have e4a : ((d.size : Int) != 32) = true := by simp; omega
    have e4b : ((d.size : Int) == 32) = false := by simp; omega
    clear hR hN
    subst hw1
    go_enter Try.func10, Try.ntmps10
    go_wp2_with fail
    go_ret
    exact ⟨rfl, H.out.1⟩
  by_cases h5 : x.size = 32
  rotate_left
  · obtain rfl : R = false := by rw [hR]; exact lfB_head (head_false (by simp only; omega))
    have e0 : decide (n < 0) = false := decide_eq_false (by omega)
    have e1 : decide (4095 < n) = false := decide_eq_false (by omega)
    have e2 : decide (k < 1) = false := decide_eq_false (by omega)
    have e3 : decide (2 < k) = false := decide_eq_false (by omega)
    have e4a : ((d.size : Int) != 32) = false := by simp; omega
    have e4b : ((d.size : Int) == 32) = true := by simp; omega
    have e5a : ((x.size : Int) != 32) = true := by simp; omega
    have e5b : ((x.size : Int) == 32) = false := by simp; omega
    clear hR hN
    subst hw1
    go_enter Try.func10, Try.ntmps10
    go_wp2_with fail
    go_ret
    exact ⟨rfl, H.out.1⟩
  by_cases h6 : ¬ ((12 : Int) < (N : Int))
  rotate_left
  · obtain rfl : R = false := by rw [hR]; exact lfB_head (head_false (by simp only; omega))
    have e0 : decide (n < 0) = false := decide_eq_false (by omega)
    have e1 : decide (4095 < n) = false := decide_eq_false (by omega)
    have e2 : decide (k < 1) = false := decide_eq_false (by omega)
    have e3 : decide (2 < k) = false := decide_eq_false (by omega)
    have e4a : ((d.size : Int) != 32) = false := by simp; omega
    have e4b : ((d.size : Int) == 32) = true := by simp; omega
    have e5a : ((x.size : Int) != 32) = false := by simp; omega
    have e5b : ((x.size : Int) == 32) = true := by simp; omega
    have e6 : decide ((12 : Int) < (N : Int)) = true := decide_eq_true (by omega)
    clear hR hN
    subst hw1
    go_enter Try.func10, Try.ntmps10
    go_wp2_with fail
    go_ret
    exact ⟨rfl, H.out.1⟩
  by_cases h7 : k = 2 ∧ 0 < N
  · obtain ⟨rfl, h7⟩ := h7
    have hne : tags ≠ [] := fun e => by rw [e] at hN; simp at hN; omega
    obtain rfl : R = false := by
      rw [hR]
      refine lfB_head (head_false (fun h => ?_))
      simp only at h
      rcases h.2.2.2.2.2 with e | e
      · exact e rfl
      · exact hne e
    have e0 : decide (n < 0) = false := decide_eq_false (by omega)
    have e1 : decide (4095 < n) = false := decide_eq_false (by omega)
    have e4a : ((d.size : Int) != 32) = false := by simp; omega
    have e4b : ((d.size : Int) == 32) = true := by simp; omega
    have e5a : ((x.size : Int) != 32) = false := by simp; omega
    have e5b : ((x.size : Int) == 32) = true := by simp; omega
    have e6 : decide ((12 : Int) < (N : Int)) = false := decide_eq_false (by omega)
    have e8 : decide ((0 : Int) < (N : Int)) = true := decide_eq_true (by omega)
    clear hR hN hne
    subst hw1
    go_enter Try.func10, Try.ntmps10
    go_wp2_with fail
    go_ret
    exact ⟨rfl, H.out.1⟩
  by_cases h8 : k = 2
  · obtain rfl : k = 2 := h8
    have e8 : decide ((0 : Int) < (N : Int)) = false := decide_eq_false (by omega)
    have e9 : decide (0 < N) = false := decide_eq_false (by omega)
    have e0 : decide (n < 0) = false := decide_eq_false (by omega)
    have e1 : decide (4095 < n) = false := decide_eq_false (by omega)
    have e4a : ((d.size : Int) != 32) = false := by simp; omega
    have e4b : ((d.size : Int) == 32) = true := by simp; omega
    have e5a : ((x.size : Int) != 32) = false := by simp; omega
    have e5b : ((x.size : Int) == 32) = true := by simp; omega
    have e6 : decide ((12 : Int) < (N : Int)) = false := decide_eq_false (by omega)
    have hNl : N = tags.length := hN
    have hhead : headB ⟨n, 2, d, tags, x⟩ = true := headB_iff.2 ⟨⟨by show 0 ≤ n; omega, by show n ≤ 4095; omega⟩, Or.inr rfl, h4, h5, by show tags.length ≤ 12; omega, Or.inr (List.length_eq_zero_iff.1 (by show tags.length = 0; omega))⟩
    have HH := Lib.hid (And.intro hhead hR)
    clear hR hN hNl hhead h7
    go_enter Try.func10, Try.ntmps10
    go_wp2_with fail
    rw [← hw1]
    clear hw1
    go_loopw [3, 4] (fun i _ wr => ∃ j : Nat, j ≤ N ∧ i = .int .i64 (j : Int) ∧ (∀ q, q < j → tagAt n tags q = true) ∧ Below w1.heap.size w1 wr) (fun i _ _ => N - (intOf i).toNat)
    case atStart => exact ⟨0, by omega, rfl, fun q hq => absurd hq (by omega), Below.refl _ _⟩
    case round =>
      obtain ⟨j, hj, rfl, hgood, hbe⟩ := hrel
      have hr1 := (hbe.block _ (Array.getElem?_eq_some_iff.1 H.out.2.2.1).1).trans H.out.2.2.1
      obtain ⟨c0, c1, c2, c3, c4⟩ : wr.cell? ⟨w.heap.size, 0, none⟩ = some (.int .i64 n) ∧ wr.cell? ⟨w.heap.size, 1, none⟩ = some (.int .i64 2) ∧ wr.cell? ⟨w.heap.size, 2, none⟩ = some (.string d) ∧ wr.cell? ⟨w.heap.size, 3, none⟩ = some (.slice a0 N cap) ∧ wr.cell? ⟨w.heap.size, 4, none⟩ = some (.string x) := by refine ⟨?_, ?_, ?_, ?_, ?_⟩ <;> (rw [cell_of_row _ _ _ _ _ _ hr1]; rfl)
      by_cases hlt : j < N
      · have hjl : j < tags.length := by have := H.out.2.2.2.1; omega
        obtain ⟨p, hp⟩ : ∃ p, tags[j]? = some p := ⟨_, List.getElem?_eq_getElem hjl⟩
        obtain ⟨b, off, rfl, hbl, q0, q1⟩ := H.out.2.1.below hbe j p hp
        have hta := tagAt_eq (n := n) hp
        have hlw : w.heap.size < wr.heap.size := (Array.getElem?_eq_some_iff.1 hr1).1
        have n1 : ¬ w.heap.size = wr.heap.size := by omega
        have n2 : ¬ wr.heap.size = w.heap.size := by omega
        have m1 : ¬ b = wr.heap.size := by omega
        have m2 : ¬ wr.heap.size = b := by omega
        by_cases g1 : p.tag.size = 32
        rotate_left
        · have e1 : ((p.tag.size : Int) != 32) = true := by simp; omega
          have hbad : lfB ⟨n, 2, d, tags, x⟩ = false := tagAt_bad hjl (by rw [hta]; simp [poB, g1]) rfl rfl
          have hw2 := hbe.size
          have HM := Lib.hid (And.intro (H.out.1.trans (hbe.mono H.out.1.size)) hbad)
          have hsz := HM.out.1.size
          clear hta hgood hbad hbe hr1
          go_wp2_with fail
          go_quiet (fail)
          go_wp2_with fail
          go_ret
          exact ⟨by rw [HH.out.2, HM.out.2]; rfl, below_drewN (HM.out.1.alloc hsz _) _⟩
        by_cases g2 : 0 ≤ p.prev
        rotate_left
        · have g1a : ((p.tag.size : Int) != 32) = false := by simp; omega
          have g1b : ((p.tag.size : Int) == 32) = true := by simp; omega
          have g2a : decide (p.prev < 0) = true := decide_eq_true (by omega)
          have hbad : lfB ⟨n, 2, d, tags, x⟩ = false := tagAt_bad hjl (by rw [hta]; simp [poB, g2]) rfl rfl
          have hw2 := hbe.size
          have HM := Lib.hid (And.intro (H.out.1.trans (hbe.mono H.out.1.size)) hbad)
          have hsz := HM.out.1.size
          clear hta hgood hbad hbe hr1
          go_wp2_with fail
          go_quiet (fail)
          go_wp2_with fail
          go_ret
          exact ⟨by rw [HH.out.2, HM.out.2]; rfl, below_drewN (HM.out.1.alloc hsz _) _⟩
        by_cases g3 : p.prev ≤ n
        rotate_left
        · have g1a : ((p.tag.size : Int) != 32) = false := by simp; omega
          have g1b : ((p.tag.size : Int) == 32) = true := by simp; omega
          have g2a : decide (p.prev < 0) = false := decide_eq_false (by omega)
          have g3a : decide (n < p.prev) = true := decide_eq_true (by omega)
          have hbad : lfB ⟨n, 2, d, tags, x⟩ = false := tagAt_bad hjl (by rw [hta]; simp [poB, g3]) rfl rfl
          have hw2 := hbe.size
          have HM := Lib.hid (And.intro (H.out.1.trans (hbe.mono H.out.1.size)) hbad)
          have hsz := HM.out.1.size
          clear hta hgood hbad hbe hr1
          go_wp2_with fail
          go_quiet (fail)
          go_wp2_with fail
          go_ret
          exact ⟨by rw [HH.out.2, HM.out.2]; rfl, below_drewN (HM.out.1.alloc hsz _) _⟩
        have hpo : poB n p = true := by simp [poB, g1, g2, g3]
        by_cases hj0 : j = 0
        · have hpv : prevOk tags j p = true := by rw [hj0]; rfl
          have g4a : decide ((0 : Int) < (j : Int)) = false := decide_eq_false (by omega)
          have g4b : decide (0 < j) = false := decide_eq_false (by omega)
          have g1a : ((p.tag.size : Int) != 32) = false := by simp; omega
          have g1b : ((p.tag.size : Int) == 32) = true := by simp; omega
          have g2a : decide (p.prev < 0) = false := decide_eq_false (by omega)
          have g3a : decide (n < p.prev) = false := decide_eq_false (by omega)
          have hok : ∀ q, q < j + 1 → tagAt n tags q = true := fun q hq => by
            rcases Nat.lt_succ_iff_lt_or_eq.1 hq with h | h
            · exact hgood q h
            · subst h; rw [hta]; rw [hpo, hpv]; rfl
          have HM := Lib.hid (And.intro hbe hok)
          have hsz := hbe.size
          clear hta hgood hok hbe hr1 hj0 hpv
          go_wp2_with fail
          go_quiet (fail)
          go_wp2_with fail
          go_roundw
          case rel => exact ⟨j + 1, by omega, by go_num, HM.out.2, below_drewN (HM.out.1.alloc hsz _) _⟩
          case measure => simp [intOf]; omega
        · obtain ⟨i, rfl⟩ : ∃ i, j = i + 1 := ⟨j - 1, by omega⟩
          have hil : i < tags.length := by omega
          have hiN : i < N := by omega
          have hix : (i : Int) + 1 - 1 = (i : Int) := by omega
          have hiw : IntKind.i64.wrap ((i : Int) + 1 - 1) = (i : Int) := by rw [IntWalk.i64_in _ (by omega)]; omega
          have hiw2 : IntKind.i64.wrap (i : Int) = (i : Int) := IntWalk.i64_in _ (by omega)
          obtain ⟨q, hq⟩ : ∃ q, tags[i]? = some q := ⟨_, List.getElem?_eq_getElem hil⟩
          obtain ⟨s0, s1⟩ := (H.out.2.1.below hbe).cells hq
          have hpr : prevOk tags (i + 1) p = Wd.less q.tag p.tag := by unfold prevOk; simp only [hq]
          by_cases g4 : Wd.less q.tag p.tag = true
          rotate_left
          · have g1a : ((p.tag.size : Int) != 32) = false := by simp; omega
            have g1b : ((p.tag.size : Int) == 32) = true := by simp; omega
            have g2a : decide (p.prev < 0) = false := decide_eq_false (by omega)
            have g3a : decide (n < p.prev) = false := decide_eq_false (by omega)
            have g4b : (Op.bytesLess p.tag.toList q.tag.toList || p.tag.toList == q.tag.toList) = true := by
              by_cases e : p.tag = q.tag
              · rw [e]; simp
              · rcases Wd.less_total e with h | h
                · rw [show Op.bytesLess p.tag.toList q.tag.toList = true from h]; rfl
                · exact absurd h g4
            have hbad : lfB ⟨n, 2, d, tags, x⟩ = false := tagAt_bad hjl (by rw [hta]; rw [hpr]; simp [g4]) rfl rfl
            have hw2 := hbe.size
            have HM := Lib.hid (And.intro (H.out.1.trans (hbe.mono H.out.1.size)) hbad)
            have hsz := HM.out.1.size
            clear hta hgood hbad hbe hr1
            go_wp2_with fail
            go_quiet (fail)
            go_wp2_with fail
            go_ret
            exact ⟨by rw [HH.out.2, HM.out.2]; rfl, below_drewN (HM.out.1.alloc hsz _) _⟩
          have g1a : ((p.tag.size : Int) != 32) = false := by simp; omega
          have g1b : ((p.tag.size : Int) == 32) = true := by simp; omega
          have g2a : decide (p.prev < 0) = false := decide_eq_false (by omega)
          have g3a : decide (n < p.prev) = false := decide_eq_false (by omega)
          have g4b : Op.bytesLess p.tag.toList q.tag.toList = false := Wd.less_asymm g4
          have g4c : (p.tag.toList == q.tag.toList) = false := text_ne (fun e => by rw [e, Wd.less_irrefl] at g4; cases g4)
          have hok : ∀ q, q < (i + 1) + 1 → tagAt n tags q = true := fun q hq => by
            rcases Nat.lt_succ_iff_lt_or_eq.1 hq with h | h
            · exact hgood q h
            · subst h; rw [hta]; rw [hpo, hpr, g4]; rfl
          have HM := Lib.hid (And.intro hbe hok)
          have hsz := hbe.size
          clear hta hgood hok hbe hr1
          go_wp2_with fail
          go_quiet (fail)
          go_wp2_with fail
          go_roundw
          case rel => exact ⟨(i + 1) + 1, by omega, by go_num, HM.out.2, below_drewN (HM.out.1.alloc hsz _) _⟩
          case measure => simp [intOf]; omega
      · obtain rfl : j = N := by omega
        have hall : lfB ⟨n, 2, d, tags, x⟩ = true := lfB_iff.2 ⟨HH.out.1, fun q hq => hgood q (by have := H.out.2.2.2.1; simp only at hq; omega)⟩
        have HM := Lib.hid (And.intro (H.out.1.trans (hbe.mono H.out.1.size)) hall)
        clear hgood hall hbe hr1
        go_wp2_with fail
        go_ret
        exact ⟨by rw [HH.out.2, HM.out.2]; rfl, HM.out.1⟩
  · obtain rfl : k = 1 := by omega
    have e0 : decide (n < 0) = false := decide_eq_false (by omega)
    have e1 : decide (4095 < n) = false := decide_eq_false (by omega)
    have e4a : ((d.size : Int) != 32) = false := by simp; omega
    have e4b : ((d.size : Int) == 32) = true := by simp; omega
    have e5a : ((x.size : Int) != 32) = false := by simp; omega
    have e5b : ((x.size : Int) == 32) = true := by simp; omega
    have e6 : decide ((12 : Int) < (N : Int)) = false := decide_eq_false (by omega)
    have hNl : N = tags.length := hN
    have hhead : headB ⟨n, 1, d, tags, x⟩ = true := headB_iff.2 ⟨⟨by show 0 ≤ n; omega, by show n ≤ 4095; omega⟩, Or.inl rfl, h4, h5, by show tags.length ≤ 12; omega, Or.inl (by show (1 : Int) ≠ 2; decide)⟩
    have HH := Lib.hid (And.intro hhead hR)
    clear hR hN hNl hhead h7
    go_enter Try.func10, Try.ntmps10
    go_wp2_with fail
    rw [← hw1]
    clear hw1
    go_loopw [3, 4] (fun i _ wr => ∃ j : Nat, j ≤ N ∧ i = .int .i64 (j : Int) ∧ (∀ q, q < j → tagAt n tags q = true) ∧ Below w1.heap.size w1 wr) (fun i _ _ => N - (intOf i).toNat)
    case atStart => exact ⟨0, by omega, rfl, fun q hq => absurd hq (by omega), Below.refl _ _⟩
    case round =>
      obtain ⟨j, hj, rfl, hgood, hbe⟩ := hrel
      have hr1 := (hbe.block _ (Array.getElem?_eq_some_iff.1 H.out.2.2.1).1).trans H.out.2.2.1
      obtain ⟨c0, c1, c2, c3, c4⟩ : wr.cell? ⟨w.heap.size, 0, none⟩ = some (.int .i64 n) ∧ wr.cell? ⟨w.heap.size, 1, none⟩ = some (.int .i64 1) ∧ wr.cell? ⟨w.heap.size, 2, none⟩ = some (.string d) ∧ wr.cell? ⟨w.heap.size, 3, none⟩ = some (.slice a0 N cap) ∧ wr.cell? ⟨w.heap.size, 4, none⟩ = some (.string x) := by refine ⟨?_, ?_, ?_, ?_, ?_⟩ <;> (rw [cell_of_row _ _ _ _ _ _ hr1]; rfl)
      by_cases hlt : j < N
      · have hjl : j < tags.length := by have := H.out.2.2.2.1; omega
        obtain ⟨p, hp⟩ : ∃ p, tags[j]? = some p := ⟨_, List.getElem?_eq_getElem hjl⟩
        obtain ⟨b, off, rfl, hbl, q0, q1⟩ := H.out.2.1.below hbe j p hp
        have hta := tagAt_eq (n := n) hp
        have hlw : w.heap.size < wr.heap.size := (Array.getElem?_eq_some_iff.1 hr1).1
        have n1 : ¬ w.heap.size = wr.heap.size := by omega
        have n2 : ¬ wr.heap.size = w.heap.size := by omega
        have m1 : ¬ b = wr.heap.size := by omega
        have m2 : ¬ wr.heap.size = b := by omega
        by_cases g1 : p.tag.size = 32
        rotate_left
        · have e1 : ((p.tag.size : Int) != 32) = true := by simp; omega
          have hbad : lfB ⟨n, 1, d, tags, x⟩ = false := tagAt_bad hjl (by rw [hta]; simp [poB, g1]) rfl rfl
          have hw2 := hbe.size
          have HM := Lib.hid (And.intro (H.out.1.trans (hbe.mono H.out.1.size)) hbad)
          have hsz := HM.out.1.size
          clear hta hgood hbad hbe hr1
          go_wp2_with fail
          go_quiet (fail)
          go_wp2_with fail
          go_ret
          exact ⟨by rw [HH.out.2, HM.out.2]; rfl, below_drewN (HM.out.1.alloc hsz _) _⟩
        by_cases g2 : 0 ≤ p.prev
        rotate_left
        · have g1a : ((p.tag.size : Int) != 32) = false := by simp; omega
          have g1b : ((p.tag.size : Int) == 32) = true := by simp; omega
          have g2a : decide (p.prev < 0) = true := decide_eq_true (by omega)
          have hbad : lfB ⟨n, 1, d, tags, x⟩ = false := tagAt_bad hjl (by rw [hta]; simp [poB, g2]) rfl rfl
          have hw2 := hbe.size
          have HM := Lib.hid (And.intro (H.out.1.trans (hbe.mono H.out.1.size)) hbad)
          have hsz := HM.out.1.size
          clear hta hgood hbad hbe hr1
          go_wp2_with fail
          go_quiet (fail)
          go_wp2_with fail
          go_ret
          exact ⟨by rw [HH.out.2, HM.out.2]; rfl, below_drewN (HM.out.1.alloc hsz _) _⟩
        by_cases g3 : p.prev ≤ n
        rotate_left
        · have g1a : ((p.tag.size : Int) != 32) = false := by simp; omega
          have g1b : ((p.tag.size : Int) == 32) = true := by simp; omega
          have g2a : decide (p.prev < 0) = false := decide_eq_false (by omega)
          have g3a : decide (n < p.prev) = true := decide_eq_true (by omega)
          have hbad : lfB ⟨n, 1, d, tags, x⟩ = false := tagAt_bad hjl (by rw [hta]; simp [poB, g3]) rfl rfl
          have hw2 := hbe.size
          have HM := Lib.hid (And.intro (H.out.1.trans (hbe.mono H.out.1.size)) hbad)
          have hsz := HM.out.1.size
          clear hta hgood hbad hbe hr1
          go_wp2_with fail
          go_quiet (fail)
          go_wp2_with fail
          go_ret
          exact ⟨by rw [HH.out.2, HM.out.2]; rfl, below_drewN (HM.out.1.alloc hsz _) _⟩
        have hpo : poB n p = true := by simp [poB, g1, g2, g3]
        by_cases hj0 : j = 0
        · have hpv : prevOk tags j p = true := by rw [hj0]; rfl
          have g4a : decide ((0 : Int) < (j : Int)) = false := decide_eq_false (by omega)
          have g4b : decide (0 < j) = false := decide_eq_false (by omega)
          have g1a : ((p.tag.size : Int) != 32) = false := by simp; omega
          have g1b : ((p.tag.size : Int) == 32) = true := by simp; omega
          have g2a : decide (p.prev < 0) = false := decide_eq_false (by omega)
          have g3a : decide (n < p.prev) = false := decide_eq_false (by omega)
          have hok : ∀ q, q < j + 1 → tagAt n tags q = true := fun q hq => by
            rcases Nat.lt_succ_iff_lt_or_eq.1 hq with h | h
            · exact hgood q h
            · subst h; rw [hta]; rw [hpo, hpv]; rfl
          have HM := Lib.hid (And.intro hbe hok)
          have hsz := hbe.size
          clear hta hgood hok hbe hr1 hj0 hpv
          go_wp2_with fail
          go_quiet (fail)
          go_wp2_with fail
          go_roundw
          case rel => exact ⟨j + 1, by omega, by go_num, HM.out.2, below_drewN (HM.out.1.alloc hsz _) _⟩
          case measure => simp [intOf]; omega
        · obtain ⟨i, rfl⟩ : ∃ i, j = i + 1 := ⟨j - 1, by omega⟩
          have hil : i < tags.length := by omega
          have hiN : i < N := by omega
          have hix : (i : Int) + 1 - 1 = (i : Int) := by omega
          have hiw : IntKind.i64.wrap ((i : Int) + 1 - 1) = (i : Int) := by rw [IntWalk.i64_in _ (by omega)]; omega
          have hiw2 : IntKind.i64.wrap (i : Int) = (i : Int) := IntWalk.i64_in _ (by omega)
          obtain ⟨q, hq⟩ : ∃ q, tags[i]? = some q := ⟨_, List.getElem?_eq_getElem hil⟩
          obtain ⟨s0, s1⟩ := (H.out.2.1.below hbe).cells hq
          have hpr : prevOk tags (i + 1) p = Wd.less q.tag p.tag := by unfold prevOk; simp only [hq]
          by_cases g4 : Wd.less q.tag p.tag = true
          rotate_left
          · have g1a : ((p.tag.size : Int) != 32) = false := by simp; omega
            have g1b : ((p.tag.size : Int) == 32) = true := by simp; omega
            have g2a : decide (p.prev < 0) = false := decide_eq_false (by omega)
            have g3a : decide (n < p.prev) = false := decide_eq_false (by omega)
            have g4b : (Op.bytesLess p.tag.toList q.tag.toList || p.tag.toList == q.tag.toList) = true := by
              by_cases e : p.tag = q.tag
              · rw [e]; simp
              · rcases Wd.less_total e with h | h
                · rw [show Op.bytesLess p.tag.toList q.tag.toList = true from h]; rfl
                · exact absurd h g4
            have hbad : lfB ⟨n, 1, d, tags, x⟩ = false := tagAt_bad hjl (by rw [hta]; rw [hpr]; simp [g4]) rfl rfl
            have hw2 := hbe.size
            have HM := Lib.hid (And.intro (H.out.1.trans (hbe.mono H.out.1.size)) hbad)
            have hsz := HM.out.1.size
            clear hta hgood hbad hbe hr1
            go_wp2_with fail
            go_quiet (fail)
            go_wp2_with fail
            go_ret
            exact ⟨by rw [HH.out.2, HM.out.2]; rfl, below_drewN (HM.out.1.alloc hsz _) _⟩
          have g1a : ((p.tag.size : Int) != 32) = false := by simp; omega
          have g1b : ((p.tag.size : Int) == 32) = true := by simp; omega
          have g2a : decide (p.prev < 0) = false := decide_eq_false (by omega)
          have g3a : decide (n < p.prev) = false := decide_eq_false (by omega)
          have g4b : Op.bytesLess p.tag.toList q.tag.toList = false := Wd.less_asymm g4
          have g4c : (p.tag.toList == q.tag.toList) = false := text_ne (fun e => by rw [e, Wd.less_irrefl] at g4; cases g4)
          have hok : ∀ q, q < (i + 1) + 1 → tagAt n tags q = true := fun q hq => by
            rcases Nat.lt_succ_iff_lt_or_eq.1 hq with h | h
            · exact hgood q h
            · subst h; rw [hta]; rw [hpo, hpr, g4]; rfl
          have HM := Lib.hid (And.intro hbe hok)
          have hsz := hbe.size
          clear hta hgood hok hbe hr1
          go_wp2_with fail
          go_quiet (fail)
          go_wp2_with fail
          go_roundw
          case rel => exact ⟨(i + 1) + 1, by omega, by go_num, HM.out.2, below_drewN (HM.out.1.alloc hsz _) _⟩
          case measure => simp [intOf]; omega
      · obtain rfl : j = N := by omega
        have hall : lfB ⟨n, 1, d, tags, x⟩ = true := lfB_iff.2 ⟨HH.out.1, fun q hq => hgood q (by have := H.out.2.2.2.1; simp only at hq; omega)⟩
        have HM := Lib.hid (And.intro (H.out.1.trans (hbe.mono H.out.1.size)) hall)
        clear hgood hall hbe hr1
        go_wp2_with fail
        go_ret
        exact ⟨by rw [HH.out.2, HM.out.2]; rfl, HM.out.1⟩
end Go.Proofs.Ytgoimggfpagojaa
