/- lockboxref20's Name and May; the faults of request and policy. -/
import Derived.Test.YtnkkbinbeildmaaPyA
import Derived.Test.YtnkkbinbeildmaaErr
namespace Go.Proofs.Ytnkkbinbeildmaa
open Go.RowKit
set_option maxRecDepth 100000 in
set_option maxHeartbeats 1000000 in
theorem rname_any (s : ByteArray) (hs : s.size ≤ maxLen) (w : World) : Calls Try.prog 45 #[.string s] w fun e w' => e = .returned (.bool (Py.nameB s)) ∧ w' = w := by
  unfold maxLen at hs
  obtain ⟨R, hR⟩ : ∃ R, R = Py.nameB s := ⟨_, rfl⟩
  rw [← hR]
  have HR := Lib.hid hR
  clear hR
  go_enter Try.func45, Try.ntmps45
  go_wp2_with fail
  go_loopw [3, 4] (fun i _ wr => ∃ k : Nat, k ≤ s.size ∧ i = .int .i64 (k : Int) ∧ (∀ j (hj : j < k) (hk : j < s.size), Py.nameC s[j] = true) ∧ wr = w) (fun i _ _ => s.size - (intOf i).toNat)
  case atStart => exact ⟨0, by omega, rfl, fun j hj => absurd hj (by omega), rfl⟩
  case round =>
    obtain ⟨k, hk, rfl, hgood, rfl⟩ := hrel
    by_cases hlt : k < s.size
    · have hgood' : Py.nameC s[k] = true → ∀ j (hj : j < k + 1) (hk2 : j < s.size), Py.nameC s[j] = true := fun hc j hj hk2 => by
        rcases Nat.lt_succ_iff_lt_or_eq.1 hj with h | h
        · exact hgood j h hk2
        · subst h; exact hc
      have HG := Lib.hid hgood'
      clear hgood hgood'
      have hcase : (97 ≤ s[k].toNat ∧ s[k].toNat ≤ 122) ∨ (48 ≤ s[k].toNat ∧ s[k].toNat ≤ 57) ∨ s[k].toNat = 45 ∨ s[k].toNat = 46 ∨ (s[k].toNat < 48 ∧ s[k].toNat ≠ 45 ∧ s[k].toNat ≠ 46) ∨ (57 < s[k].toNat ∧ s[k].toNat < 97) ∨ 122 < s[k].toNat := by omega

      rcases hcase with hc | hc | hc | hc | hc | hc | hc
      · have hn : Py.nameC s[k] = true := by
          unfold Py.nameC Py.inB
          simp only [Bool.or_eq_true, Bool.and_eq_true, decide_eq_true_eq, beq_iff_eq]
          omega
        have ga : (97 : Int) ≤ (s[k].toNat : Int) := by omega
        have gb : (s[k].toNat : Int) ≤ 122 := by omega
        have HN := Lib.hid hn
        clear hn hc
        go_wp2_with fail
        go_roundw
        case rel => exact ⟨k + 1, by omega, by go_num, HG.out HN.out, by first | rfl | trivial⟩
        case measure => simp [intOf]; omega
      · have hn : Py.nameC s[k] = true := by
          unfold Py.nameC Py.inB
          simp only [Bool.or_eq_true, Bool.and_eq_true, decide_eq_true_eq, beq_iff_eq]
          omega
        have ga : ¬ ((97 : Int) ≤ (s[k].toNat : Int)) := by omega
        have gc : (48 : Int) ≤ (s[k].toNat : Int) := by omega
        have gd : (s[k].toNat : Int) ≤ 57 := by omega
        have HN := Lib.hid hn
        clear hn hc
        go_wp2_with fail
        go_roundw
        case rel => exact ⟨k + 1, by omega, by go_num, HG.out HN.out, by first | rfl | trivial⟩
        case measure => simp [intOf]; omega
      · have hn : Py.nameC s[k] = true := by
          unfold Py.nameC Py.inB
          simp only [Bool.or_eq_true, Bool.and_eq_true, decide_eq_true_eq, beq_iff_eq]
          omega
        have ga : ¬ ((97 : Int) ≤ (s[k].toNat : Int)) := by omega
        have gc : ¬ ((48 : Int) ≤ (s[k].toNat : Int)) := by omega
        have ge : ((s[k].toNat : Int) == 45) = true := by simp; omega
        have HN := Lib.hid hn
        clear hn hc
        go_wp2_with fail
        go_roundw
        case rel => exact ⟨k + 1, by omega, by go_num, HG.out HN.out, by first | rfl | trivial⟩
        case measure => simp [intOf]; omega
      · have hn : Py.nameC s[k] = true := by
          unfold Py.nameC Py.inB
          simp only [Bool.or_eq_true, Bool.and_eq_true, decide_eq_true_eq, beq_iff_eq]
          omega
        have ga : ¬ ((97 : Int) ≤ (s[k].toNat : Int)) := by omega
        have gc : ¬ ((48 : Int) ≤ (s[k].toNat : Int)) := by omega
        have ge : ((s[k].toNat : Int) == 45) = false := by simp; omega
        have gf : ((s[k].toNat : Int) == 46) = true := by simp; omega
        have HN := Lib.hid hn
        clear hn hc
        go_wp2_with fail
        go_roundw
        case rel => exact ⟨k + 1, by omega, by go_num, HG.out HN.out, by first | rfl | trivial⟩
        case measure => simp [intOf]; omega
      · have hn : Py.nameC s[k] = false := by
          unfold Py.nameC Py.inB
          simp only [Bool.or_eq_false_iff, Bool.and_eq_false_iff, decide_eq_false_iff_not, beq_eq_false_iff_ne]
          omega
        have ga : ¬ ((97 : Int) ≤ (s[k].toNat : Int)) := by omega
        have gc : ¬ ((48 : Int) ≤ (s[k].toNat : Int)) := by omega
        have ge : ((s[k].toNat : Int) == 45) = false := by simp; omega
        have gf : ((s[k].toNat : Int) == 46) = false := by simp; omega
        have HN := Lib.hid hn
        clear hn hc
        go_wp2_with fail
        go_ret
        exact ⟨by rw [HR.out, Py.nameB, no_name hlt HN.out, Bool.and_false]; rfl, rfl⟩
      · have hn : Py.nameC s[k] = false := by
          unfold Py.nameC Py.inB
          simp only [Bool.or_eq_false_iff, Bool.and_eq_false_iff, decide_eq_false_iff_not, beq_eq_false_iff_ne]
          omega
        have ga : ¬ ((97 : Int) ≤ (s[k].toNat : Int)) := by omega
        have gc : (48 : Int) ≤ (s[k].toNat : Int) := by omega
        have gd : ¬ ((s[k].toNat : Int) ≤ 57) := by omega
        have ge : ((s[k].toNat : Int) == 45) = false := by simp; omega
        have gf : ((s[k].toNat : Int) == 46) = false := by simp; omega
        have HN := Lib.hid hn
        clear hn hc
        go_wp2_with fail
        go_ret
        exact ⟨by rw [HR.out, Py.nameB, no_name hlt HN.out, Bool.and_false]; rfl, rfl⟩
      · have hn : Py.nameC s[k] = false := by
          unfold Py.nameC Py.inB
          simp only [Bool.or_eq_false_iff, Bool.and_eq_false_iff, decide_eq_false_iff_not, beq_eq_false_iff_ne]
          omega
        have ga : (97 : Int) ≤ (s[k].toNat : Int) := by omega
        have gb : ¬ ((s[k].toNat : Int) ≤ 122) := by omega
        have gc : (48 : Int) ≤ (s[k].toNat : Int) := by omega
        have gd : ¬ ((s[k].toNat : Int) ≤ 57) := by omega
        have ge : ((s[k].toNat : Int) == 45) = false := by simp; omega
        have gf : ((s[k].toNat : Int) == 46) = false := by simp; omega
        have HN := Lib.hid hn
        clear hn hc
        go_wp2_with fail
        go_ret
        exact ⟨by rw [HR.out, Py.nameB, no_name hlt HN.out, Bool.and_false]; rfl, rfl⟩
    · obtain rfl : k = s.size := by omega
      have hall := all_names (fun k hk => hgood k hk hk)
      have HG := Lib.hid hall
      clear hgood hall
      by_cases h1 : 1 ≤ s.size
      · by_cases h2 : s.size ≤ 24
        · have g1 : (1 : Int) ≤ (s.size : Int) := by omega
          have g2 : (s.size : Int) ≤ 24 := by omega
          go_wp2_with fail
          go_ret
          exact ⟨by rw [HR.out, Py.nameB, HG.out, Py.inB, decide_eq_true g1, decide_eq_true g2]; rfl, rfl⟩
        · have g1 : (1 : Int) ≤ (s.size : Int) := by omega
          have g2 : ¬ ((s.size : Int) ≤ 24) := by omega
          go_wp2_with fail
          go_ret
          exact ⟨by rw [HR.out, Py.nameB, HG.out, Py.inB, decide_eq_true (show (1 : Int) ≤ (s.size : Int) by omega), decide_eq_false (show ¬ ((s.size : Int) ≤ 24) by omega)]; rfl, rfl⟩
      · have g1 : ¬ ((1 : Int) ≤ (s.size : Int)) := by omega
        go_wp2_with fail
        go_ret
        exact ⟨by rw [HR.out, Py.nameB, HG.out, Py.inB, decide_eq_false (show ¬ ((1 : Int) ≤ (s.size : Int)) by omega)]; rfl, rfl⟩
set_option maxRecDepth 100000 in
set_option maxHeartbeats 1000000 in
theorem rmay_any (q : Py.Q) (hw : q.who.size ≤ maxLen) (hr : q.reason.size ≤ maxLen) (w : World) : Calls Try.prog 18 #[qVal q] w fun e w' => e = .returned (.bool (Py.mayB q)) ∧ Below w.heap.size w w' := by
  unfold qVal
  unfold maxLen at hr
  have hN := fun W => rname_any q.who hw W
  have HN := Lib.hid hN
  clear hN hw
  by_cases h1 : 1 ≤ q.id
  rotate_left
  · skip
    have hv : Py.mayB q = false := by
      cases hb : Py.mayB q with
      | false => rfl
      | true =>
        simp only [Py.mayB, Py.inB, Bool.and_eq_true, decide_eq_true_eq] at hb
        exact absurd (show 1 ≤ q.id from hb.1.1.1.1.1) h1
    rw [hv]
    clear hv
    go_enter Try.func18, Try.ntmps18
    go_wp2_with fail
    go_ret
    exact ⟨rfl, (Below.refl _ _).alloc (Nat.le_refl _) _⟩
  by_cases h2 : q.id ≤ 1048576
  rotate_left
  · skip
    have hv : Py.mayB q = false := by
      cases hb : Py.mayB q with
      | false => rfl
      | true =>
        simp only [Py.mayB, Py.inB, Bool.and_eq_true, decide_eq_true_eq] at hb
        exact absurd (show q.id ≤ 1048576 from hb.1.1.1.1.2) h2
    rw [hv]
    clear hv
    go_enter Try.func18, Try.ntmps18
    go_wp2_with fail
    go_ret
    exact ⟨rfl, (Below.refl _ _).alloc (Nat.le_refl _) _⟩
  by_cases h3 : Py.nameB q.who = true
  rotate_left
  · skip
    have hv : Py.mayB q = false := by
      cases hb : Py.mayB q with
      | false => rfl
      | true =>
        simp only [Py.mayB, Py.inB, Bool.and_eq_true, decide_eq_true_eq] at hb
        exact absurd (show Py.nameB q.who = true from hb.1.1.1.2) h3
    rw [hv]
    clear hv
    have h3 : Py.nameB q.who = false := by simpa using h3
    go_enter Try.func18, Try.ntmps18
    go_wp2_with fail
    refine (HN.out _).mono ?_
    rintro e w1 ⟨rfl, rfl⟩
    rw [h3]
    go_wp2_with fail
    go_ret
    exact ⟨rfl, (Below.refl _ _).alloc (Nat.le_refl _) _⟩
  by_cases h4 : 0 ≤ q.entry
  rotate_left
  · skip
    have hv : Py.mayB q = false := by
      cases hb : Py.mayB q with
      | false => rfl
      | true =>
        simp only [Py.mayB, Py.inB, Bool.and_eq_true, decide_eq_true_eq] at hb
        exact absurd (show 0 ≤ q.entry from hb.1.1.2.1) h4
    rw [hv]
    clear hv
    go_enter Try.func18, Try.ntmps18
    go_wp2_with fail
    refine (HN.out _).mono ?_
    rintro e w1 ⟨rfl, rfl⟩
    rw [h3]
    go_wp2_with fail
    go_ret
    exact ⟨rfl, (Below.refl _ _).alloc (Nat.le_refl _) _⟩
  by_cases h5 : q.entry ≤ 4095
  rotate_left
  · skip
    have hv : Py.mayB q = false := by
      cases hb : Py.mayB q with
      | false => rfl
      | true =>
        simp only [Py.mayB, Py.inB, Bool.and_eq_true, decide_eq_true_eq] at hb
        exact absurd (show q.entry ≤ 4095 from hb.1.1.2.2) h5
    rw [hv]
    clear hv
    go_enter Try.func18, Try.ntmps18
    go_wp2_with fail
    refine (HN.out _).mono ?_
    rintro e w1 ⟨rfl, rfl⟩
    rw [h3]
    go_wp2_with fail
    go_ret
    exact ⟨rfl, (Below.refl _ _).alloc (Nat.le_refl _) _⟩
  by_cases h6 : (q.reason.size : Int) ≤ 120
  rotate_left
  · skip
    have hv : Py.mayB q = false := by
      cases hb : Py.mayB q with
      | false => rfl
      | true =>
        simp only [Py.mayB, Py.inB, Bool.and_eq_true, decide_eq_true_eq] at hb
        exact absurd (show (q.reason.size : Int) ≤ 120 from by omega) h6
    rw [hv]
    clear hv
    go_enter Try.func18, Try.ntmps18
    go_wp2_with fail
    refine (HN.out _).mono ?_
    rintro e w1 ⟨rfl, rfl⟩
    rw [h3]
    go_wp2_with fail
    go_ret
    exact ⟨rfl, (Below.refl _ _).alloc (Nat.le_refl _) _⟩
  by_cases h7 : 0 ≤ q.exp
  rotate_left
  · skip
    have hv : Py.mayB q = false := by
      cases hb : Py.mayB q with
      | false => rfl
      | true =>
        simp only [Py.mayB, Py.inB, Bool.and_eq_true, decide_eq_true_eq] at hb
        exact absurd (show 0 ≤ q.exp from hb.2.1) h7
    rw [hv]
    clear hv
    go_enter Try.func18, Try.ntmps18
    go_wp2_with fail
    refine (HN.out _).mono ?_
    rintro e w1 ⟨rfl, rfl⟩
    rw [h3]
    go_wp2_with fail
    go_ret
    exact ⟨rfl, (Below.refl _ _).alloc (Nat.le_refl _) _⟩
  by_cases h8 : q.exp ≤ 1099511627776
  rotate_left
  · skip
    have hv : Py.mayB q = false := by
      cases hb : Py.mayB q with
      | false => rfl
      | true =>
        simp only [Py.mayB, Py.inB, Bool.and_eq_true, decide_eq_true_eq] at hb
        exact absurd (show q.exp ≤ 1099511627776 from hb.2.2) h8
    rw [hv]
    clear hv
    go_enter Try.func18, Try.ntmps18
    go_wp2_with fail
    refine (HN.out _).mono ?_
    rintro e w1 ⟨rfl, rfl⟩
    rw [h3]
    go_wp2_with fail
    go_ret
    exact ⟨by show Ending.returned (Value.bool (decide (q.exp ≤ 1099511627776))) = _; rw [decide_eq_false (by omega)], (Below.refl _ _).alloc (Nat.le_refl _) _⟩
  have hv : Py.mayB q = true := by
    simp only [Py.mayB, Py.inB, Bool.and_eq_true, decide_eq_true_eq]
    exact ⟨⟨⟨⟨⟨h1, h2⟩, h3⟩, h4, h5⟩, by omega⟩, h7, h8⟩
  rw [hv]
  clear hv
  go_enter Try.func18, Try.ntmps18
  go_wp2_with fail
  refine (HN.out _).mono ?_
  rintro e w1 ⟨rfl, rfl⟩
  rw [h3]
  go_wp2_with fail
  go_ret
  exact ⟨rfl, (Below.refl _ _).alloc (Nat.le_refl _) _⟩
set_option maxRecDepth 100000 in
theorem rqfault_any (id c : Int) (w : World) : Calls Try.prog 64 #[.int .i64 id, .int .i64 c] w fun e w' => ∃ b op, e = .returned (.iface 109 (.pointer (some ⟨b, 0, none⟩))) ∧ FaultAt w' b op id c ∧ Below w.heap.size w w' := by
  go_enter Try.func64, Try.ntmps64
  go_wp2_with fail
  go_ret
  exact ⟨_, _, rfl, heap_alloc_new _ _, (Below.refl _ _).alloc (Nat.le_refl _) _⟩
set_option maxRecDepth 100000 in
theorem pfault_any (id c : Int) (hc : c ≠ 0) (w : World) : Calls Try.prog 38 #[.int .i64 id, .iface 38 (.int .i64 c)] w fun e w' => ∃ b op, e = .returned (.iface 109 (.pointer (some ⟨b, 0, none⟩))) ∧ FaultAt w' b op id c ∧ Below w.heap.size w w' := by
  have hb : (c == (0 : Int)) = false := by simpa using hc
  clear hc
  go_enter Try.func38, Try.ntmps38
  go_wp2_with fail
  refine (is_no _ _).mono ?_
  rintro e w1 ⟨rfl, rfl⟩
  rw [hb]
  clear hb
  go_wp2_with fail
  go_ret
  exact ⟨_, _, rfl, heap_alloc_new _ _, (Below.refl _ _).alloc (Nat.le_refl _) _⟩
set_option maxRecDepth 100000 in
theorem pfault_ok (id : Int) (w : World) : Calls Try.prog 38 #[.int .i64 id, .iface 38 (.int .i64 0)] w fun e w' => e = .returned .nilIface ∧ Below w.heap.size w w' := by
  go_enter Try.func38, Try.ntmps38
  go_wp2_with fail
  refine (is_no _ _).mono ?_
  rintro e w1 ⟨rfl, rfl⟩
  go_wp2_with fail
  go_ret
  exact ⟨rfl, Below.refl _ _⟩
end Go.Proofs.Ytnkkbinbeildmaa
