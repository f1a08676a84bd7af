/- leaf.isDigest, mayHave, Check. -/
import Derived.Test.YtgoimggfpagojaaLfRChk
import Derived.Test.YtgoimggfpagojaaMC3
namespace Go.Proofs.Ytgoimggfpagojaa
open Go.RowKit

theorem isDigest_any (s : ByteArray) (w : World) : Calls Try.prog 21 #[.string s] w fun e w' => e = .returned (.bool (decide (s.size = 32))) ∧ w' = w := by
  by_cases h : s.size = 32
  · have e : ((s.size : Int) == 32) = true := by simp; omega
    rw [decide_eq_true h]
    clear h
    go_enter Try.func21, Try.ntmps21
    go_wp2_with fail
    go_ret
    exact ⟨rfl, rfl⟩
  · have e : ((s.size : Int) == 32) = false := by simp; omega
    rw [decide_eq_false h]
    clear h
    go_enter Try.func21, Try.ntmps21
    go_wp2_with fail
    go_ret
    exact ⟨rfl, rfl⟩
/-- May a leaf of a number have tags? -/
def hvB (n : Int) (tags : List Po) : Bool := decide (tags.length ≤ 12) && decide (TagsOk n tags)
theorem hvB_bad {n : Int} {l : List Po} {i : Nat} (hi : i < l.length) (h : tagAt n l i = false) : hvB n l = false := by
  cases e : hvB n l with
  | false => rfl
  | true =>
    unfold hvB at e
    simp only [Bool.and_eq_true, decide_eq_true_eq] at e
    have := e.2 i hi
    rw [h] at this; cases this
set_option maxRecDepth 100000 in
set_option maxHeartbeats 4000000 in
theorem mayHave_any (n : Int) (tags : List Po) (a0 : Option Addr) (cap : Nat) (hl : tags.length ≤ 1000000000) (w : World) (hT : PoAt w a0 tags) :
    Calls Try.prog 22 #[.slice a0 tags.length cap, .int .i64 n] w fun e w' => e = .returned (.bool (hvB n tags)) ∧ Below w.heap.size w w' := by
  obtain ⟨N, hN⟩ : ∃ N, N = tags.length := ⟨_, rfl⟩
  obtain ⟨R, hR⟩ : ∃ R, R = hvB n tags := ⟨_, rfl⟩
  rw [← hR]
  have H := Lib.hid (And.intro hT (And.intro hN hR))
  rw [← hN] at hl ⊢
  clear hT hR
  by_cases h12 : 12 < N
  · have e1 : decide ((12 : Int) < (N : Int)) = true := decide_eq_true (by omega)
    have hRf : R = false := by rw [H.out.2.2]; unfold hvB; rw [decide_eq_false (by omega)]; rfl
    have HR := Lib.hid hRf
    clear hN hRf
    go_enter Try.func22, Try.ntmps22
    go_wp2_with fail
    go_ret
    exact ⟨by rw [HR.out]; rfl, Below.refl _ _⟩
  have e1 : decide ((12 : Int) < (N : Int)) = false := decide_eq_false (by omega)
  have hRt : (∀ q, q < N → tagAt n tags q = true) → R = true := fun h => by
    rw [H.out.2.2]; unfold hvB
    rw [decide_eq_true (by omega), decide_eq_true (show TagsOk n tags from fun q hq => h q (by omega))]; rfl
  have hRf : ∀ q, q < N → tagAt n tags q = false → R = false := fun q hq h => by
    rw [H.out.2.2]; exact hvB_bad (by omega) h
  have HR := Lib.hid (And.intro hRt hRf)
  clear hN hRt hRf
  go_enter Try.func22, Try.ntmps22
  go_wp2_with fail
  go_loopw [5, 6, 12] (fun _ _ i wr => ∃ j : Nat, j ≤ N ∧ i = .int .i64 (j : Int) ∧ (∀ q, q < j → tagAt n tags q = true) ∧ Below w.heap.size w wr) (fun _ _ i _ => N - (intOf i).toNat)
  case atStart => exact ⟨0, by omega, rfl, fun q hq => absurd hq (by omega), Below.refl _ _⟩
  case round =>
    obtain ⟨j, hj, rfl, hgood, hbe⟩ := hrel
    by_cases hlt : j < N
    · have hjl : j < tags.length := by have := H.out.2.1; omega
      obtain ⟨p, hp⟩ : ∃ p, tags[j]? = some p := ⟨_, List.getElem?_eq_getElem hjl⟩
      obtain ⟨b, off, rfl, hbl, q0, q1⟩ := H.out.1.below hbe j p hp
      have hta := tagAt_eq (n := n) hp
      have m1 : ¬ b = wr.heap.size := by omega
      have m2 : ¬ wr.heap.size = b := by omega
      have hsz := hbe.size
      by_cases g1 : p.tag.size = 32
      rotate_left
      · have q2 := True.intro
        have hdg := fun W => isDigest_any p.tag W
        rw [decide_eq_false g1] at hdg
        have HD := Lib.hid hdg
        clear hdg
        have hbad : R = false := HR.out.2 j hlt (by rw [hta]; simp [poB, g1])
        have HM := Lib.hid (And.intro hbe hbad)
        clear hta hgood hbad hbe
        go_wp2_with fail
        go_quiet ((go_at_call 21; exact Calls.quiet_of_same (HD.out _)))
        go_wp2_with fail
        go_ret
        exact ⟨by rw [HM.out.2]; rfl, below_drewN (HM.out.1.alloc hsz _) _⟩
      have hdg := fun W => isDigest_any p.tag W
      rw [decide_eq_true g1] at hdg
      have HD := Lib.hid hdg
      clear hdg
      by_cases g2 : 0 ≤ p.prev
      rotate_left
      · have g2a : decide (p.prev < 0) = true := decide_eq_true (by omega)
        have hbad : R = false := HR.out.2 j hlt (by rw [hta]; simp [poB, g2])
        have HM := Lib.hid (And.intro hbe hbad)
        clear hta hgood hbad hbe
        go_wp2_with fail
        go_quiet ((go_at_call 21; exact Calls.quiet_of_same (HD.out _)))
        go_wp2_with fail
        go_ret
        exact ⟨by rw [HM.out.2]; rfl, below_drewN (HM.out.1.alloc hsz _) _⟩
      by_cases g3 : p.prev ≤ n
      rotate_left
      · have g2a : decide (p.prev < 0) = false := decide_eq_false (by omega)
        have g3a : decide (n < p.prev) = true := decide_eq_true (by omega)
        have hbad : R = false := HR.out.2 j hlt (by rw [hta]; simp [poB, g3])
        have HM := Lib.hid (And.intro hbe hbad)
        clear hta hgood hbad hbe
        go_wp2_with fail
        go_quiet ((go_at_call 21; exact Calls.quiet_of_same (HD.out _)))
        go_wp2_with fail
        go_ret
        exact ⟨by rw [HM.out.2]; rfl, below_drewN (HM.out.1.alloc hsz _) _⟩
      have hpo : poB n p = true := by simp [poB, g1, g2, g3]
      have g2a : decide (p.prev < 0) = false := decide_eq_false (by omega)
      have g3a : decide (n < p.prev) = false := decide_eq_false (by omega)
      by_cases hj0 : j = 0
      · have hpv : prevOk tags j p = true := by rw [hj0]; rfl
        have g4a : decide ((0 : Int) < (j : Int)) = false := decide_eq_false (by omega)
        have g4b : decide (0 < j) = false := decide_eq_false (by omega)
        have hok : ∀ q, q < j + 1 → tagAt n tags q = true := fun q hq => by
          rcases Nat.lt_succ_iff_lt_or_eq.1 hq with h | h
          · exact hgood q h
          · subst h; rw [hta]; rw [hpo, hpv]; rfl
        have HM := Lib.hid (And.intro hbe hok)
        clear hta hgood hok hbe hj0 hpv
        go_wp2_with fail
        go_quiet ((go_at_call 21; exact Calls.quiet_of_same (HD.out _)))
        go_wp2_with fail
        go_roundw
        case rel => exact ⟨j + 1, by omega, by go_num, HM.out.2, below_drewN (HM.out.1.alloc hsz _) _⟩
        case measure => simp [intOf]; omega
      · obtain ⟨i, rfl⟩ : ∃ i, j = i + 1 := ⟨j - 1, by omega⟩
        have hil : i < tags.length := by omega
        have hiN : i < N := by omega
        have hix : (i : Int) + 1 - 1 = (i : Int) := by omega
        have hiw : IntKind.i64.wrap ((i : Int) + 1 - 1) = (i : Int) := by rw [IntWalk.i64_in _ (by omega)]; omega
        have hiw2 : IntKind.i64.wrap (i : Int) = (i : Int) := IntWalk.i64_in _ (by omega)
        obtain ⟨q, hq⟩ : ∃ q, tags[i]? = some q := ⟨_, List.getElem?_eq_getElem hil⟩
        obtain ⟨s0, s1⟩ := (H.out.1.below hbe).cells hq
        have hpr : prevOk tags (i + 1) p = Wd.less q.tag p.tag := by unfold prevOk; simp only [hq]
        by_cases g4 : Wd.less q.tag p.tag = true
        rotate_left
        · have g4b : (Op.bytesLess p.tag.toList q.tag.toList || p.tag.toList == q.tag.toList) = true := by
            by_cases e : p.tag = q.tag
            · rw [e]; simp
            · rcases Wd.less_total e with h | h
              · rw [show Op.bytesLess p.tag.toList q.tag.toList = true from h]; rfl
              · exact absurd h g4
          have hbad : R = false := HR.out.2 _ hlt (by rw [hta]; rw [hpr]; simp [g4])
          have HM := Lib.hid (And.intro hbe hbad)
          clear hta hgood hbad hbe
          go_wp2_with fail
          go_quiet ((go_at_call 21; exact Calls.quiet_of_same (HD.out _)))
          go_wp2_with fail
          go_ret
          exact ⟨by rw [HM.out.2]; rfl, below_drewN (HM.out.1.alloc hsz _) _⟩
        have g4b : Op.bytesLess p.tag.toList q.tag.toList = false := Wd.less_asymm g4
        have g4c : (p.tag.toList == q.tag.toList) = false := text_ne (fun e => by rw [e, Wd.less_irrefl] at g4; cases g4)
        have hok : ∀ q, q < (i + 1) + 1 → tagAt n tags q = true := fun q hq => by
          rcases Nat.lt_succ_iff_lt_or_eq.1 hq with h | h
          · exact hgood q h
          · subst h; rw [hta]; rw [hpo, hpr, g4]; rfl
        have HM := Lib.hid (And.intro hbe hok)
        clear hta hgood hok hbe
        go_wp2_with fail
        go_quiet ((go_at_call 21; exact Calls.quiet_of_same (HD.out _)))
        go_wp2_with fail
        go_roundw
        case rel => exact ⟨(i + 1) + 1, by omega, by go_num, HM.out.2, below_drewN (HM.out.1.alloc hsz _) _⟩
        case measure => simp [intOf]; omega
    · obtain rfl : j = N := by omega
      have hall : R = true := HR.out.1 hgood
      have HM := Lib.hid (And.intro hbe hall)
      clear hgood hall hbe
      go_wp2_with fail
      go_ret
      exact ⟨by rw [HM.out.2]; rfl, HM.out.1⟩
end Go.Proofs.Ytgoimggfpagojaa
