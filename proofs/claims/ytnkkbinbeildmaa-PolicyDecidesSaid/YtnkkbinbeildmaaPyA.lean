/- policy's small functions: within, isTime, isName, isWord, Request, mayBe. -/
import Derived.Test.YtnkkbinbeildmaaPyMem
import Derived.Test.YtnkkbinbeildmaaWdLet
import Derived.Deep.Cut
namespace Go.Proofs.Ytnkkbinbeildmaa
open Go.RowKit

theorem within_any (x a b : Int) (w : World) : Calls Try.prog 43 #[.int .i64 x, .int .i64 a, .int .i64 b] w fun e w' => e = .returned (.bool (Py.inB x a b)) ∧ w' = w := by
  by_cases h1 : a ≤ x
  · by_cases h2 : x ≤ b
    · rw [show Py.inB x a b = true by simp [Py.inB, h1, h2]]
      go_enter Try.func43, Try.ntmps43
      go_wp2_with fail
      go_ret
      exact ⟨rfl, rfl⟩
    · rw [show Py.inB x a b = false by simp [Py.inB, h1, h2]]
      go_enter Try.func43, Try.ntmps43
      go_wp2_with fail
      go_ret
      exact ⟨rfl, rfl⟩
  · rw [show Py.inB x a b = false by simp [Py.inB, h1]]
    go_enter Try.func43, Try.ntmps43
    go_wp2_with fail
    go_ret
    exact ⟨rfl, rfl⟩
theorem within8_any (x a b : Int) (w : World) : Calls Try.prog 67 #[.int .u8 x, .int .u8 a, .int .u8 b] w fun e w' => e = .returned (.bool (Py.inB x a b)) ∧ w' = w := by
  by_cases h1 : a ≤ x
  · by_cases h2 : x ≤ b
    · rw [show Py.inB x a b = true by simp [Py.inB, h1, h2]]
      go_enter Try.func67, Try.ntmps67
      go_wp2_with fail
      go_ret
      exact ⟨rfl, rfl⟩
    · rw [show Py.inB x a b = false by simp [Py.inB, h1, h2]]
      go_enter Try.func67, Try.ntmps67
      go_wp2_with fail
      go_ret
      exact ⟨rfl, rfl⟩
  · rw [show Py.inB x a b = false by simp [Py.inB, h1]]
    go_enter Try.func67, Try.ntmps67
    go_wp2_with fail
    go_ret
    exact ⟨rfl, rfl⟩
theorem isTime_any (x : Int) (w : World) : Calls Try.prog 37 #[.int .i64 x] w fun e w' => e = .returned (.bool (Py.inB x 0 1099511627776)) ∧ w' = w := by
  go_enter Try.func37, Try.ntmps37
  go_wp2_with fail
  refine (within_any _ _ _ _).mono ?_
  rintro e w1 ⟨rfl, rfl⟩
  go_wp2_with fail
  go_ret
  exact ⟨rfl, rfl⟩
theorem all_names {s : ByteArray} (h : ∀ k (hk : k < s.size), Py.nameC s[k] = true) : s.data.toList.all Py.nameC = true := by
  rw [List.all_eq_true]
  intro c hc
  obtain ⟨k, hk, e⟩ := List.mem_iff_getElem.1 hc
  have := h k (by simpa using hk)
  rw [← e, Array.getElem_toList]; exact this
theorem no_name {s : ByteArray} {k : Nat} (hk : k < s.size) (h : Py.nameC s[k] = false) : s.data.toList.all Py.nameC = false := by
  rw [List.all_eq_false]
  exact ⟨s[k], List.mem_iff_getElem.2 ⟨k, by simpa using hk, rfl⟩, by rw [h]; decide⟩
set_option maxRecDepth 100000 in
set_option maxHeartbeats 1000000 in
theorem name_any (s : ByteArray) (hs : s.size ≤ maxLen) (w : World) : Calls Try.prog 44 #[.string s] w fun e w' => e = .returned (.bool (Py.nameB s)) ∧ w' = w := by
  unfold maxLen at hs
  obtain ⟨R, hR⟩ : ∃ R, R = Py.nameB s := ⟨_, rfl⟩
  rw [← hR]
  have HR := Lib.hid hR
  clear hR
  cases hin : Py.inB (s.size : Int) 1 24 with
  | false =>
    go_enter Try.func44, Try.ntmps44
    go_wp2_with fail
    refine (within_any _ _ _ _).mono ?_
    rintro e w1 ⟨rfl, rfl⟩
    rw [hin]
    go_wp2_with fail
    go_ret
    exact ⟨by rw [HR.out, Py.nameB, hin]; rfl, rfl⟩
  | true =>
    go_enter Try.func44, Try.ntmps44
    go_wp2_with fail
    refine (within_any _ _ _ _).mono ?_
    rintro e w1 ⟨rfl, rfl⟩
    rw [hin]
    go_wp2_with fail
    have HI := Lib.hid hin
    clear hin
    go_loopw [3, 4, 11] (fun _ _ i wr => ∃ k : Nat, k ≤ s.size ∧ i = .int .i64 (k : Int) ∧ (∀ j (hj : j < k) (hk : j < s.size), Py.nameC s[j] = true) ∧ wr = w1) (fun _ _ i _ => s.size - (intOf i).toNat)
    case atStart => exact ⟨0, by omega, rfl, fun j hj => absurd hj (by omega), rfl⟩
    case round =>
      obtain ⟨k, hk, rfl, hgood, rfl⟩ := hrel
      by_cases hlt : k < s.size
      · have hcase : (Py.nameC s[k] = true ∧ Py.inB (s[k].toNat : Int) 97 122 = true) ∨ (Py.nameC s[k] = true ∧ Py.inB (s[k].toNat : Int) 97 122 = false ∧ Py.inB (s[k].toNat : Int) 48 57 = true) ∨
            (Py.nameC s[k] = true ∧ Py.inB (s[k].toNat : Int) 97 122 = false ∧ Py.inB (s[k].toNat : Int) 48 57 = false ∧ ((s[k].toNat : Int) != 45) = false) ∨
            (Py.nameC s[k] = true ∧ Py.inB (s[k].toNat : Int) 97 122 = false ∧ Py.inB (s[k].toNat : Int) 48 57 = false ∧ ((s[k].toNat : Int) != 45) = true ∧ ((s[k].toNat : Int) != 46) = false) ∨
            (Py.nameC s[k] = false ∧ Py.inB (s[k].toNat : Int) 97 122 = false ∧ Py.inB (s[k].toNat : Int) 48 57 = false ∧ ((s[k].toNat : Int) != 45) = true ∧ ((s[k].toNat : Int) != 46) = true) := by
          unfold Py.nameC
          cases Py.inB (s[k].toNat : Int) 97 122 <;> cases Py.inB (s[k].toNat : Int) 48 57 <;> by_cases e5 : s[k].toNat = 45 <;> by_cases e6 : s[k].toNat = 46 <;> simp_all <;> omega
        have hgood' : Py.nameC s[k] = true → ∀ j (hj : j < k + 1) (hk2 : j < s.size), Py.nameC s[j] = true := fun hc j hj hk2 => by
          rcases Nat.lt_succ_iff_lt_or_eq.1 hj with h | h
          · exact hgood j h hk2
          · subst h; exact hc
        have HG := Lib.hid hgood'
        clear hgood hgood'

        rcases hcase with ⟨hc, f1⟩ | ⟨hc, f1, f2⟩ | ⟨hc, f1, f2, f3⟩ | ⟨hc, f1, f2, f3, f4⟩ | ⟨hc, f1, f2, f3, f4⟩
        · have HC := Lib.hid hc
          clear hc
          go_wp2_with fail
          refine (within8_any _ _ _ _).mono ?_
          rintro e w2 ⟨rfl, rfl⟩
          rw [f1]
          go_wp2_with fail
          go_roundw
          case rel => exact ⟨k + 1, by omega, by go_num, HG.out HC.out, by first | rfl | trivial⟩
          case measure => simp [intOf]; omega
        · have HC := Lib.hid hc
          clear hc
          go_wp2_with fail
          refine (within8_any _ _ _ _).mono ?_
          rintro e w2 ⟨rfl, rfl⟩
          rw [f1]
          go_wp2_with fail
          refine (within8_any _ _ _ _).mono ?_
          rintro e w3 ⟨rfl, rfl⟩
          rw [f2]
          go_wp2_with fail
          go_roundw
          case rel => exact ⟨k + 1, by omega, by go_num, HG.out HC.out, by first | rfl | trivial⟩
          case measure => simp [intOf]; omega
        · have HC := Lib.hid hc
          clear hc
          go_wp2_with fail
          refine (within8_any _ _ _ _).mono ?_
          rintro e w2 ⟨rfl, rfl⟩
          rw [f1]
          go_wp2_with fail
          refine (within8_any _ _ _ _).mono ?_
          rintro e w3 ⟨rfl, rfl⟩
          rw [f2]
          go_wp2_with fail
          go_roundw
          case rel => exact ⟨k + 1, by omega, by go_num, HG.out HC.out, by first | rfl | trivial⟩
          case measure => simp [intOf]; omega
        · have HC := Lib.hid hc
          clear hc
          go_wp2_with fail
          refine (within8_any _ _ _ _).mono ?_
          rintro e w2 ⟨rfl, rfl⟩
          rw [f1]
          go_wp2_with fail
          refine (within8_any _ _ _ _).mono ?_
          rintro e w3 ⟨rfl, rfl⟩
          rw [f2]
          go_wp2_with fail
          go_roundw
          case rel => exact ⟨k + 1, by omega, by go_num, HG.out HC.out, by first | rfl | trivial⟩
          case measure => simp [intOf]; omega
        · have HC := Lib.hid hc
          clear hc
          go_wp2_with fail
          refine (within8_any _ _ _ _).mono ?_
          rintro e w2 ⟨rfl, rfl⟩
          rw [f1]
          go_wp2_with fail
          refine (within8_any _ _ _ _).mono ?_
          rintro e w3 ⟨rfl, rfl⟩
          rw [f2]
          go_wp2_with fail
          go_ret
          exact ⟨by rw [HR.out, Py.nameB, no_name hlt HC.out, Bool.and_false]; rfl, rfl⟩
      · obtain rfl : k = s.size := by omega
        have HG := Lib.hid hgood
        clear hgood
        go_wp2_with fail
        go_ret
        exact ⟨by rw [HR.out, Py.nameB, HI.out, all_names (fun k hk => HG.out k hk hk)]; rfl, rfl⟩
theorem pbeq_texts (a b : ByteArray) : (a.toList == b.toList) = decide (a = b) := by
  by_cases h : a = b
  · subst h; simp
  · rw [decide_eq_false h]
    cases hb : a.toList == b.toList with
    | false => rfl
    | true =>
      have := eq_of_beq hb
      rw [toList_data, toList_data] at this
      exact absurd (Go.WideShapes.bytes_inj this) h
theorem peq_toList {a b : ByteArray} (h : a = b) : (a.toList == b.toList) = true := by rw [pbeq_texts, decide_eq_true h]
theorem pne_toList {a b : ByteArray} (h : a ≠ b) : (a.toList == b.toList) = false := by rw [pbeq_texts, decide_eq_false h]
theorem pnorm_err {l : List UInt8} {k : Int} (h : Wd.norm l = .error k) : k ≠ 0 := by
  unfold Wd.norm at h
  split at h
  · injection h with h; omega
  split at h
  · injection h with h; omega
  split at h
  · injection h with h; omega
  · cases h
set_option maxRecDepth 100000 in
theorem word_any (s : ByteArray) (hs : s.size ≤ 1000000) (w : World) : Calls Try.prog 68 #[.string s] w fun e w' => e = .returned (.bool (Py.wordB s)) ∧ Below w.heap.size w w' := by
  obtain ⟨R, hR⟩ : ∃ R, R = Py.wordB s := ⟨_, rfl⟩
  rw [← hR]
  unfold Py.wordB at hR
  have hN := norm15_any s hs w
  unfold normR at hN
  cases hn : Wd.norm s.data.toList with
  | ok x =>
    rw [hn] at hN hR
    simp only at hN hR
    by_cases hx : str x = s
    · have hRe : R = true := by rw [hR, ← hx]; simp [str]
      clear hR hn
      subst hRe
      have HX := Lib.hid hx
      go_enter Try.func68, Try.ntmps68
      go_wp2_with fail
      refine hN.mono ?_
      rintro e w1 ⟨rfl, hb⟩
      rw [hx]
      clear hx
      go_wp2_with fail
      go_ret
      exact ⟨rfl, hb⟩
    · have hRe : R = false := by
        rw [hR]
        apply decide_eq_false
        intro e
        apply hx
        rw [e]; apply ByteArray.ext; simp [str]
      clear hR hn
      subst hRe
      have hxb : ((str x).toList == s.toList) = false := pne_toList hx
      go_enter Try.func68, Try.ntmps68
      go_wp2_with fail
      refine hN.mono ?_
      rintro e w1 ⟨rfl, hb⟩
      go_wp2_with fail
      go_ret
      exact ⟨rfl, hb⟩
  | error k =>
    have hk := pnorm_err hn
    rw [hn] at hN hR
    simp only at hN hR
    subst hR
    have hk0 : (k == (0 : Int)) = false := by simpa using hk
    go_enter Try.func68, Try.ntmps68
    go_wp2_with fail
    refine hN.mono ?_
    rintro e w1 ⟨rfl, hb⟩
    go_wp2_with fail
    go_ret
    exact ⟨rfl, hb⟩

theorem cell_lit {w : World} {g : Nat} {cs : Array Value} {T : TypeId} {r : Nat × Nat} (h : w.heap[g]? = some (.cells cs T r)) (m : Nat) : w.cell? ⟨g, m, none⟩ = cs[m]? := by simp [World.cell?, h]
/-- A box in memory: where it lies. -/
theorem box_below {w w1 : World} {o : Obj} (h : w1 = w.alloc o) : Below w.heap.size w w1 := by rw [h]; exact (Below.refl _ _).alloc (Nat.le_refl _) _

set_option maxRecDepth 100000 in
theorem preq_any (q : Py.Q) (hw : q.who.size ≤ maxLen) (hr : q.reason.size ≤ maxLen) (w : World) : Calls Try.prog 17 #[qVal q] w fun e w' => e = .returned (.bool (Py.mayB q)) ∧ Below w.heap.size w w' := by
  unfold qVal
  unfold maxLen at hr
  cases h1 : Py.inB q.id 1 1048576 with
  | false =>
    rw [show Py.mayB q = false by simp [Py.mayB, h1]]
    go_enter Try.func17, Try.ntmps17
    go_wp2_with fail
    refine (within_any _ _ _ _).mono ?_
    rintro e w1 ⟨rfl, rfl⟩
    rw [h1]
    go_wp2_with fail
    go_ret
    exact ⟨rfl, (Below.refl _ _).alloc (Nat.le_refl _) _⟩
  | true =>
    cases h2 : Py.nameB q.who with
    | false =>
      rw [show Py.mayB q = false by simp [Py.mayB, h1, h2]]
      go_enter Try.func17, Try.ntmps17
      go_wp2_with fail
      refine (within_any _ _ _ _).mono ?_
      rintro e w1 ⟨rfl, rfl⟩
      rw [h1]
      go_wp2_with fail
      refine (name_any q.who hw _).mono ?_
      rintro e w2 ⟨rfl, rfl⟩
      rw [h2]
      go_wp2_with fail
      go_ret
      exact ⟨rfl, (Below.refl _ _).alloc (Nat.le_refl _) _⟩
    | true =>
      cases h3 : Py.inB q.entry 0 4095 with
      | false =>
        rw [show Py.mayB q = false by simp [Py.mayB, h1, h2, h3]]
        go_enter Try.func17, Try.ntmps17
        go_wp2_with fail
        refine (within_any _ _ _ _).mono ?_
        rintro e w1 ⟨rfl, rfl⟩
        rw [h1]
        go_wp2_with fail
        refine (name_any q.who hw _).mono ?_
        rintro e w2 ⟨rfl, rfl⟩
        rw [h2]
        go_wp2_with fail
        refine (within_any _ _ _ _).mono ?_
        rintro e w3 ⟨rfl, rfl⟩
        rw [h3]
        go_wp2_with fail
        go_ret
        exact ⟨rfl, (Below.refl _ _).alloc (Nat.le_refl _) _⟩
      | true =>
        cases h4 : decide (q.reason.size ≤ 120) with
        | false =>
          rw [show Py.mayB q = false by simp [Py.mayB, h1, h2, h3, h4]]
          have g4 : ¬ ((q.reason.size : Int) ≤ 120) := by have := of_decide_eq_false h4; omega
          go_enter Try.func17, Try.ntmps17
          go_wp2_with fail
          refine (within_any _ _ _ _).mono ?_
          rintro e w1 ⟨rfl, rfl⟩
          rw [h1]
          go_wp2_with fail
          refine (name_any q.who hw _).mono ?_
          rintro e w2 ⟨rfl, rfl⟩
          rw [h2]
          go_wp2_with fail
          refine (within_any _ _ _ _).mono ?_
          rintro e w3 ⟨rfl, rfl⟩
          rw [h3]
          go_wp2_with fail
          go_ret
          exact ⟨rfl, (Below.refl _ _).alloc (Nat.le_refl _) _⟩
        | true =>
          cases h5 : Py.inB q.exp 0 1099511627776 with
          | false =>
            rw [show Py.mayB q = false by simp [Py.mayB, h1, h2, h3, h4, h5]]
            have g4 : (q.reason.size : Int) ≤ 120 := by have := of_decide_eq_true h4; omega
            go_enter Try.func17, Try.ntmps17
            go_wp2_with fail
            refine (within_any _ _ _ _).mono ?_
            rintro e w1 ⟨rfl, rfl⟩
            rw [h1]
            go_wp2_with fail
            refine (name_any q.who hw _).mono ?_
            rintro e w2 ⟨rfl, rfl⟩
            rw [h2]
            go_wp2_with fail
            refine (within_any _ _ _ _).mono ?_
            rintro e w3 ⟨rfl, rfl⟩
            rw [h3]
            go_wp2_with fail
            refine (isTime_any _ _).mono ?_
            rintro e w4 ⟨rfl, rfl⟩
            rw [h5]
            go_wp2_with fail
            go_ret
            exact ⟨rfl, (Below.refl _ _).alloc (Nat.le_refl _) _⟩
          | true =>
            rw [show Py.mayB q = true by simp [Py.mayB, h1, h2, h3, h4, h5]]
            have g4 : (q.reason.size : Int) ≤ 120 := by have := of_decide_eq_true h4; omega
            go_enter Try.func17, Try.ntmps17
            go_wp2_with fail
            refine (within_any _ _ _ _).mono ?_
            rintro e w1 ⟨rfl, rfl⟩
            rw [h1]
            go_wp2_with fail
            refine (name_any q.who hw _).mono ?_
            rintro e w2 ⟨rfl, rfl⟩
            rw [h2]
            go_wp2_with fail
            refine (within_any _ _ _ _).mono ?_
            rintro e w3 ⟨rfl, rfl⟩
            rw [h3]
            go_wp2_with fail
            refine (isTime_any _ _).mono ?_
            rintro e w4 ⟨rfl, rfl⟩
            rw [h5]
            go_wp2_with fail
            go_ret
            exact ⟨rfl, (Below.refl _ _).alloc (Nat.le_refl _) _⟩
theorem empty_list {s : ByteArray} (h : s.size = 0) : s.toList.isEmpty = true := by
  have h2 : s.toList.length = s.size := by rw [toList_data]; simp
  exact List.isEmpty_iff.2 (List.eq_nil_of_length_eq_zero (h2.trans h))
theorem full_list {s : ByteArray} (h : ¬ s.size = 0) : s.toList.isEmpty = false := by
  cases hl : s.toList with
  | nil => exact absurd (by have : s.toList.length = s.size := by rw [toList_data]; simp
                            rw [← this, hl]; rfl) h
  | cons a l => rfl
set_option maxRecDepth 100000 in
set_option maxHeartbeats 4000000 in
theorem mayBe_any (r : Py.R) (hw : r.who.size ≤ maxLen) (hv : r.word.size ≤ 1000000) (w : World) : Calls Try.prog 46 #[ruVal r] w fun e w' => e = .returned (.bool (Py.ruleB r)) ∧ Below w.heap.size w w' := by
  obtain ⟨w1, hw1⟩ : ∃ w1, w1 = w.alloc (.cells (ruCs r) 46) := ⟨_, rfl⟩
  have hb1 := box_below hw1
  have hg1 : w1.heap[w.heap.size]? = some (.cells (ruCs r) 46 (0, 0)) := by rw [hw1]; exact heap_alloc_new _ _
  have hlt1 : w.heap.size < w1.heap.size := (Array.getElem?_eq_some_iff.1 hg1).1
  obtain ⟨g, hgg⟩ : ∃ g, g = w.heap.size := ⟨_, rfl⟩
  have H := Lib.hid (And.intro hb1 hg1)
  have hcl := fun (W : World) (hb : Below w1.heap.size w1 W) (m : Nat) => (hb.cell (p := ⟨w.heap.size, m, none⟩) hlt1).trans (cell_lit hg1 m)
  rw [← hgg] at hcl
  have HC := Lib.hid hcl
  have hcw := fun W => word_any r.word hv W
  clear hb1 hg1 hcl hlt1
  unfold ruCs at hw1 HC
  unfold ruVal
  have hN := fun W => name_any r.who hw W
  have HN := Lib.hid (And.intro hN hcw)
  clear hN hcw hw
  cases hA : decide (r.who.size = 0) with
  | true =>
    cases hC : decide (r.word.size = 0) with
    | true =>
      cases h1 : Py.inB r.fr 0 4096 with
      | false =>
        rw [show Py.ruleB r = false by simp only [Py.ruleB, hA, hC, h1] <;> rfl]
        have gA : r.who.toList.isEmpty = true := empty_list (of_decide_eq_true hA)
        have gC : r.word.toList.isEmpty = true := empty_list (of_decide_eq_true hC)
        go_enter Try.func46, Try.ntmps46
        go_upto_region 1 with fail
        rw [← hw1, ← hgg]
        clear hw1 hgg
        have c0 : w1.cell? ⟨g, 0, none⟩ = some (.string r.who) := HC.out w1 (Below.refl _ _) 0
        have c1 : w1.cell? ⟨g, 1, none⟩ = some (.string r.word) := HC.out w1 (Below.refl _ _) 1
        have c2 : w1.cell? ⟨g, 2, none⟩ = some (.int .i64 r.fr) := HC.out w1 (Below.refl _ _) 2
        have c3 : w1.cell? ⟨g, 3, none⟩ = some (.int .i64 r.to) := HC.out w1 (Below.refl _ _) 3
        have c4 : w1.cell? ⟨g, 4, none⟩ = some (.int .i64 r.un) := HC.out w1 (Below.refl _ _) 4
        have c5 : w1.cell? ⟨g, 5, none⟩ = some (.int .i64 r.mo) := HC.out w1 (Below.refl _ _) 5
        go_wp2_with fail
        refine (within_any _ _ _ _).mono ?_
        rintro e w4 ⟨rfl, rfl⟩
        rw [h1]
        go_wp2_with fail
        go_ret
        exact ⟨rfl, H.out.1⟩
      | true =>
        cases h2 : Py.inB r.to 0 4096 with
        | false =>
          rw [show Py.ruleB r = false by simp only [Py.ruleB, hA, hC, h1, h2] <;> rfl]
          have gA : r.who.toList.isEmpty = true := empty_list (of_decide_eq_true hA)
          have gC : r.word.toList.isEmpty = true := empty_list (of_decide_eq_true hC)
          go_enter Try.func46, Try.ntmps46
          go_upto_region 1 with fail
          rw [← hw1, ← hgg]
          clear hw1 hgg
          have c0 : w1.cell? ⟨g, 0, none⟩ = some (.string r.who) := HC.out w1 (Below.refl _ _) 0
          have c1 : w1.cell? ⟨g, 1, none⟩ = some (.string r.word) := HC.out w1 (Below.refl _ _) 1
          have c2 : w1.cell? ⟨g, 2, none⟩ = some (.int .i64 r.fr) := HC.out w1 (Below.refl _ _) 2
          have c3 : w1.cell? ⟨g, 3, none⟩ = some (.int .i64 r.to) := HC.out w1 (Below.refl _ _) 3
          have c4 : w1.cell? ⟨g, 4, none⟩ = some (.int .i64 r.un) := HC.out w1 (Below.refl _ _) 4
          have c5 : w1.cell? ⟨g, 5, none⟩ = some (.int .i64 r.mo) := HC.out w1 (Below.refl _ _) 5
          go_wp2_with fail
          refine (within_any _ _ _ _).mono ?_
          rintro e w4 ⟨rfl, rfl⟩
          rw [h1]
          go_wp2_with fail
          refine (within_any _ _ _ _).mono ?_
          rintro e w5 ⟨rfl, rfl⟩
          rw [h2]
          go_wp2_with fail
          go_ret
          exact ⟨rfl, H.out.1⟩
        | true =>
          cases h3 : Py.inB r.un 0 1099511627776 with
          | false =>
            rw [show Py.ruleB r = false by simp only [Py.ruleB, hA, hC, h1, h2, h3] <;> rfl]
            have gA : r.who.toList.isEmpty = true := empty_list (of_decide_eq_true hA)
            have gC : r.word.toList.isEmpty = true := empty_list (of_decide_eq_true hC)
            go_enter Try.func46, Try.ntmps46
            go_upto_region 1 with fail
            rw [← hw1, ← hgg]
            clear hw1 hgg
            have c0 : w1.cell? ⟨g, 0, none⟩ = some (.string r.who) := HC.out w1 (Below.refl _ _) 0
            have c1 : w1.cell? ⟨g, 1, none⟩ = some (.string r.word) := HC.out w1 (Below.refl _ _) 1
            have c2 : w1.cell? ⟨g, 2, none⟩ = some (.int .i64 r.fr) := HC.out w1 (Below.refl _ _) 2
            have c3 : w1.cell? ⟨g, 3, none⟩ = some (.int .i64 r.to) := HC.out w1 (Below.refl _ _) 3
            have c4 : w1.cell? ⟨g, 4, none⟩ = some (.int .i64 r.un) := HC.out w1 (Below.refl _ _) 4
            have c5 : w1.cell? ⟨g, 5, none⟩ = some (.int .i64 r.mo) := HC.out w1 (Below.refl _ _) 5
            go_wp2_with fail
            refine (within_any _ _ _ _).mono ?_
            rintro e w4 ⟨rfl, rfl⟩
            rw [h1]
            go_wp2_with fail
            refine (within_any _ _ _ _).mono ?_
            rintro e w5 ⟨rfl, rfl⟩
            rw [h2]
            go_wp2_with fail
            refine (isTime_any _ _).mono ?_
            rintro e w6 ⟨rfl, rfl⟩
            rw [h3]
            go_wp2_with fail
            go_ret
            exact ⟨rfl, H.out.1⟩
          | true =>
            cases h4 : Py.inB r.mo 0 50 with
            | false =>
              rw [show Py.ruleB r = false by simp only [Py.ruleB, hA, hC, h1, h2, h3, h4] <;> rfl]
              have gA : r.who.toList.isEmpty = true := empty_list (of_decide_eq_true hA)
              have gC : r.word.toList.isEmpty = true := empty_list (of_decide_eq_true hC)
              go_enter Try.func46, Try.ntmps46
              go_upto_region 1 with fail
              rw [← hw1, ← hgg]
              clear hw1 hgg
              have c0 : w1.cell? ⟨g, 0, none⟩ = some (.string r.who) := HC.out w1 (Below.refl _ _) 0
              have c1 : w1.cell? ⟨g, 1, none⟩ = some (.string r.word) := HC.out w1 (Below.refl _ _) 1
              have c2 : w1.cell? ⟨g, 2, none⟩ = some (.int .i64 r.fr) := HC.out w1 (Below.refl _ _) 2
              have c3 : w1.cell? ⟨g, 3, none⟩ = some (.int .i64 r.to) := HC.out w1 (Below.refl _ _) 3
              have c4 : w1.cell? ⟨g, 4, none⟩ = some (.int .i64 r.un) := HC.out w1 (Below.refl _ _) 4
              have c5 : w1.cell? ⟨g, 5, none⟩ = some (.int .i64 r.mo) := HC.out w1 (Below.refl _ _) 5
              go_wp2_with fail
              refine (within_any _ _ _ _).mono ?_
              rintro e w4 ⟨rfl, rfl⟩
              rw [h1]
              go_wp2_with fail
              refine (within_any _ _ _ _).mono ?_
              rintro e w5 ⟨rfl, rfl⟩
              rw [h2]
              go_wp2_with fail
              refine (isTime_any _ _).mono ?_
              rintro e w6 ⟨rfl, rfl⟩
              rw [h3]
              go_wp2_with fail
              refine (within_any _ _ _ _).mono ?_
              rintro e w7 ⟨rfl, rfl⟩
              rw [h4]
              go_wp2_with fail
              go_ret
              exact ⟨rfl, H.out.1⟩
            | true =>
              rw [show Py.ruleB r = true by simp only [Py.ruleB, hA, hC, h1, h2, h3, h4] <;> rfl]
              have gA : r.who.toList.isEmpty = true := empty_list (of_decide_eq_true hA)
              have gC : r.word.toList.isEmpty = true := empty_list (of_decide_eq_true hC)
              go_enter Try.func46, Try.ntmps46
              go_upto_region 1 with fail
              rw [← hw1, ← hgg]
              clear hw1 hgg
              have c0 : w1.cell? ⟨g, 0, none⟩ = some (.string r.who) := HC.out w1 (Below.refl _ _) 0
              have c1 : w1.cell? ⟨g, 1, none⟩ = some (.string r.word) := HC.out w1 (Below.refl _ _) 1
              have c2 : w1.cell? ⟨g, 2, none⟩ = some (.int .i64 r.fr) := HC.out w1 (Below.refl _ _) 2
              have c3 : w1.cell? ⟨g, 3, none⟩ = some (.int .i64 r.to) := HC.out w1 (Below.refl _ _) 3
              have c4 : w1.cell? ⟨g, 4, none⟩ = some (.int .i64 r.un) := HC.out w1 (Below.refl _ _) 4
              have c5 : w1.cell? ⟨g, 5, none⟩ = some (.int .i64 r.mo) := HC.out w1 (Below.refl _ _) 5
              go_wp2_with fail
              refine (within_any _ _ _ _).mono ?_
              rintro e w4 ⟨rfl, rfl⟩
              rw [h1]
              go_wp2_with fail
              refine (within_any _ _ _ _).mono ?_
              rintro e w5 ⟨rfl, rfl⟩
              rw [h2]
              go_wp2_with fail
              refine (isTime_any _ _).mono ?_
              rintro e w6 ⟨rfl, rfl⟩
              rw [h3]
              go_wp2_with fail
              refine (within_any _ _ _ _).mono ?_
              rintro e w7 ⟨rfl, rfl⟩
              rw [h4]
              go_wp2_with fail
              go_ret
              exact ⟨rfl, H.out.1⟩
    | false =>
      cases hD : Py.wordB r.word with
      | true =>
        cases h1 : Py.inB r.fr 0 4096 with
        | false =>
          rw [show Py.ruleB r = false by simp only [Py.ruleB, hA, hC, hD, h1] <;> rfl]
          have gA : r.who.toList.isEmpty = true := empty_list (of_decide_eq_true hA)
          have gC : r.word.toList.isEmpty = false := full_list (of_decide_eq_false hC)
          go_enter Try.func46, Try.ntmps46
          go_upto_region 1 with fail
          rw [← hw1, ← hgg]
          clear hw1 hgg
          have c0 : w1.cell? ⟨g, 0, none⟩ = some (.string r.who) := HC.out w1 (Below.refl _ _) 0
          have c1 : w1.cell? ⟨g, 1, none⟩ = some (.string r.word) := HC.out w1 (Below.refl _ _) 1
          go_wp2_with fail
          refine (HN.out.2 _).mono ?_
          rintro e w3 ⟨rfl, hb3⟩
          rw [hD]
          have d2 : w3.cell? ⟨g, 2, none⟩ = some (.int .i64 r.fr) := HC.out w3 hb3 2
          have d3 : w3.cell? ⟨g, 3, none⟩ = some (.int .i64 r.to) := HC.out w3 hb3 3
          have d4 : w3.cell? ⟨g, 4, none⟩ = some (.int .i64 r.un) := HC.out w3 hb3 4
          have d5 : w3.cell? ⟨g, 5, none⟩ = some (.int .i64 r.mo) := HC.out w3 hb3 5
          go_wp2_with fail
          refine (within_any _ _ _ _).mono ?_
          rintro e w4 ⟨rfl, rfl⟩
          rw [h1]
          go_wp2_with fail
          go_ret
          exact ⟨rfl, H.out.1.trans (hb3.mono H.out.1.size)⟩
        | true =>
          cases h2 : Py.inB r.to 0 4096 with
          | false =>
            rw [show Py.ruleB r = false by simp only [Py.ruleB, hA, hC, hD, h1, h2] <;> rfl]
            have gA : r.who.toList.isEmpty = true := empty_list (of_decide_eq_true hA)
            have gC : r.word.toList.isEmpty = false := full_list (of_decide_eq_false hC)
            go_enter Try.func46, Try.ntmps46
            go_upto_region 1 with fail
            rw [← hw1, ← hgg]
            clear hw1 hgg
            have c0 : w1.cell? ⟨g, 0, none⟩ = some (.string r.who) := HC.out w1 (Below.refl _ _) 0
            have c1 : w1.cell? ⟨g, 1, none⟩ = some (.string r.word) := HC.out w1 (Below.refl _ _) 1
            go_wp2_with fail
            refine (HN.out.2 _).mono ?_
            rintro e w3 ⟨rfl, hb3⟩
            rw [hD]
            have d2 : w3.cell? ⟨g, 2, none⟩ = some (.int .i64 r.fr) := HC.out w3 hb3 2
            have d3 : w3.cell? ⟨g, 3, none⟩ = some (.int .i64 r.to) := HC.out w3 hb3 3
            have d4 : w3.cell? ⟨g, 4, none⟩ = some (.int .i64 r.un) := HC.out w3 hb3 4
            have d5 : w3.cell? ⟨g, 5, none⟩ = some (.int .i64 r.mo) := HC.out w3 hb3 5
            go_wp2_with fail
            refine (within_any _ _ _ _).mono ?_
            rintro e w4 ⟨rfl, rfl⟩
            rw [h1]
            go_wp2_with fail
            refine (within_any _ _ _ _).mono ?_
            rintro e w5 ⟨rfl, rfl⟩
            rw [h2]
            go_wp2_with fail
            go_ret
            exact ⟨rfl, H.out.1.trans (hb3.mono H.out.1.size)⟩
          | true =>
            cases h3 : Py.inB r.un 0 1099511627776 with
            | false =>
              rw [show Py.ruleB r = false by simp only [Py.ruleB, hA, hC, hD, h1, h2, h3] <;> rfl]
              have gA : r.who.toList.isEmpty = true := empty_list (of_decide_eq_true hA)
              have gC : r.word.toList.isEmpty = false := full_list (of_decide_eq_false hC)
              go_enter Try.func46, Try.ntmps46
              go_upto_region 1 with fail
              rw [← hw1, ← hgg]
              clear hw1 hgg
              have c0 : w1.cell? ⟨g, 0, none⟩ = some (.string r.who) := HC.out w1 (Below.refl _ _) 0
              have c1 : w1.cell? ⟨g, 1, none⟩ = some (.string r.word) := HC.out w1 (Below.refl _ _) 1
              go_wp2_with fail
              refine (HN.out.2 _).mono ?_
              rintro e w3 ⟨rfl, hb3⟩
              rw [hD]
              have d2 : w3.cell? ⟨g, 2, none⟩ = some (.int .i64 r.fr) := HC.out w3 hb3 2
              have d3 : w3.cell? ⟨g, 3, none⟩ = some (.int .i64 r.to) := HC.out w3 hb3 3
              have d4 : w3.cell? ⟨g, 4, none⟩ = some (.int .i64 r.un) := HC.out w3 hb3 4
              have d5 : w3.cell? ⟨g, 5, none⟩ = some (.int .i64 r.mo) := HC.out w3 hb3 5
              go_wp2_with fail
              refine (within_any _ _ _ _).mono ?_
              rintro e w4 ⟨rfl, rfl⟩
              rw [h1]
              go_wp2_with fail
              refine (within_any _ _ _ _).mono ?_
              rintro e w5 ⟨rfl, rfl⟩
              rw [h2]
              go_wp2_with fail
              refine (isTime_any _ _).mono ?_
              rintro e w6 ⟨rfl, rfl⟩
              rw [h3]
              go_wp2_with fail
              go_ret
              exact ⟨rfl, H.out.1.trans (hb3.mono H.out.1.size)⟩
            | true =>
              cases h4 : Py.inB r.mo 0 50 with
              | false =>
                rw [show Py.ruleB r = false by simp only [Py.ruleB, hA, hC, hD, h1, h2, h3, h4] <;> rfl]
                have gA : r.who.toList.isEmpty = true := empty_list (of_decide_eq_true hA)
                have gC : r.word.toList.isEmpty = false := full_list (of_decide_eq_false hC)
                go_enter Try.func46, Try.ntmps46
                go_upto_region 1 with fail
                rw [← hw1, ← hgg]
                clear hw1 hgg
                have c0 : w1.cell? ⟨g, 0, none⟩ = some (.string r.who) := HC.out w1 (Below.refl _ _) 0
                have c1 : w1.cell? ⟨g, 1, none⟩ = some (.string r.word) := HC.out w1 (Below.refl _ _) 1
                go_wp2_with fail
                refine (HN.out.2 _).mono ?_
                rintro e w3 ⟨rfl, hb3⟩
                rw [hD]
                have d2 : w3.cell? ⟨g, 2, none⟩ = some (.int .i64 r.fr) := HC.out w3 hb3 2
                have d3 : w3.cell? ⟨g, 3, none⟩ = some (.int .i64 r.to) := HC.out w3 hb3 3
                have d4 : w3.cell? ⟨g, 4, none⟩ = some (.int .i64 r.un) := HC.out w3 hb3 4
                have d5 : w3.cell? ⟨g, 5, none⟩ = some (.int .i64 r.mo) := HC.out w3 hb3 5
                go_wp2_with fail
                refine (within_any _ _ _ _).mono ?_
                rintro e w4 ⟨rfl, rfl⟩
                rw [h1]
                go_wp2_with fail
                refine (within_any _ _ _ _).mono ?_
                rintro e w5 ⟨rfl, rfl⟩
                rw [h2]
                go_wp2_with fail
                refine (isTime_any _ _).mono ?_
                rintro e w6 ⟨rfl, rfl⟩
                rw [h3]
                go_wp2_with fail
                refine (within_any _ _ _ _).mono ?_
                rintro e w7 ⟨rfl, rfl⟩
                rw [h4]
                go_wp2_with fail
                go_ret
                exact ⟨rfl, H.out.1.trans (hb3.mono H.out.1.size)⟩
              | true =>
                rw [show Py.ruleB r = true by simp only [Py.ruleB, hA, hC, hD, h1, h2, h3, h4] <;> rfl]
                have gA : r.who.toList.isEmpty = true := empty_list (of_decide_eq_true hA)
                have gC : r.word.toList.isEmpty = false := full_list (of_decide_eq_false hC)
                go_enter Try.func46, Try.ntmps46
                go_upto_region 1 with fail
                rw [← hw1, ← hgg]
                clear hw1 hgg
                have c0 : w1.cell? ⟨g, 0, none⟩ = some (.string r.who) := HC.out w1 (Below.refl _ _) 0
                have c1 : w1.cell? ⟨g, 1, none⟩ = some (.string r.word) := HC.out w1 (Below.refl _ _) 1
                go_wp2_with fail
                refine (HN.out.2 _).mono ?_
                rintro e w3 ⟨rfl, hb3⟩
                rw [hD]
                have d2 : w3.cell? ⟨g, 2, none⟩ = some (.int .i64 r.fr) := HC.out w3 hb3 2
                have d3 : w3.cell? ⟨g, 3, none⟩ = some (.int .i64 r.to) := HC.out w3 hb3 3
                have d4 : w3.cell? ⟨g, 4, none⟩ = some (.int .i64 r.un) := HC.out w3 hb3 4
                have d5 : w3.cell? ⟨g, 5, none⟩ = some (.int .i64 r.mo) := HC.out w3 hb3 5
                go_wp2_with fail
                refine (within_any _ _ _ _).mono ?_
                rintro e w4 ⟨rfl, rfl⟩
                rw [h1]
                go_wp2_with fail
                refine (within_any _ _ _ _).mono ?_
                rintro e w5 ⟨rfl, rfl⟩
                rw [h2]
                go_wp2_with fail
                refine (isTime_any _ _).mono ?_
                rintro e w6 ⟨rfl, rfl⟩
                rw [h3]
                go_wp2_with fail
                refine (within_any _ _ _ _).mono ?_
                rintro e w7 ⟨rfl, rfl⟩
                rw [h4]
                go_wp2_with fail
                go_ret
                exact ⟨rfl, H.out.1.trans (hb3.mono H.out.1.size)⟩
      | false =>
        rw [show Py.ruleB r = false by simp only [Py.ruleB, hA, hC, hD] <;> rfl]
        have gA : r.who.toList.isEmpty = true := empty_list (of_decide_eq_true hA)
        have gC : r.word.toList.isEmpty = false := full_list (of_decide_eq_false hC)
        go_enter Try.func46, Try.ntmps46
        go_upto_region 1 with fail
        rw [← hw1, ← hgg]
        clear hw1 hgg
        have c0 : w1.cell? ⟨g, 0, none⟩ = some (.string r.who) := HC.out w1 (Below.refl _ _) 0
        have c1 : w1.cell? ⟨g, 1, none⟩ = some (.string r.word) := HC.out w1 (Below.refl _ _) 1
        go_wp2_with fail
        refine (HN.out.2 _).mono ?_
        rintro e w3 ⟨rfl, hb3⟩
        rw [hD]
        have d2 : w3.cell? ⟨g, 2, none⟩ = some (.int .i64 r.fr) := HC.out w3 hb3 2
        have d3 : w3.cell? ⟨g, 3, none⟩ = some (.int .i64 r.to) := HC.out w3 hb3 3
        have d4 : w3.cell? ⟨g, 4, none⟩ = some (.int .i64 r.un) := HC.out w3 hb3 4
        have d5 : w3.cell? ⟨g, 5, none⟩ = some (.int .i64 r.mo) := HC.out w3 hb3 5
        go_wp2_with fail
        go_ret
        exact ⟨rfl, H.out.1.trans (hb3.mono H.out.1.size)⟩
  | false =>
    cases hB : Py.nameB r.who with
    | true =>
      cases hC : decide (r.word.size = 0) with
      | true =>
        cases h1 : Py.inB r.fr 0 4096 with
        | false =>
          rw [show Py.ruleB r = false by simp only [Py.ruleB, hA, hB, hC, h1] <;> rfl]
          have gA : r.who.toList.isEmpty = false := full_list (of_decide_eq_false hA)
          have gC : r.word.toList.isEmpty = true := empty_list (of_decide_eq_true hC)
          go_enter Try.func46, Try.ntmps46
          go_upto_region 1 with fail
          rw [← hw1, ← hgg]
          clear hw1 hgg
          have c0 : w1.cell? ⟨g, 0, none⟩ = some (.string r.who) := HC.out w1 (Below.refl _ _) 0
          have c1 : w1.cell? ⟨g, 1, none⟩ = some (.string r.word) := HC.out w1 (Below.refl _ _) 1
          have c2 : w1.cell? ⟨g, 2, none⟩ = some (.int .i64 r.fr) := HC.out w1 (Below.refl _ _) 2
          have c3 : w1.cell? ⟨g, 3, none⟩ = some (.int .i64 r.to) := HC.out w1 (Below.refl _ _) 3
          have c4 : w1.cell? ⟨g, 4, none⟩ = some (.int .i64 r.un) := HC.out w1 (Below.refl _ _) 4
          have c5 : w1.cell? ⟨g, 5, none⟩ = some (.int .i64 r.mo) := HC.out w1 (Below.refl _ _) 5
          go_wp2_with fail
          refine (HN.out.1 _).mono ?_
          rintro e w2 ⟨rfl, rfl⟩
          rw [hB]
          go_wp2_with fail
          refine (within_any _ _ _ _).mono ?_
          rintro e w4 ⟨rfl, rfl⟩
          rw [h1]
          go_wp2_with fail
          go_ret
          exact ⟨rfl, H.out.1⟩
        | true =>
          cases h2 : Py.inB r.to 0 4096 with
          | false =>
            rw [show Py.ruleB r = false by simp only [Py.ruleB, hA, hB, hC, h1, h2] <;> rfl]
            have gA : r.who.toList.isEmpty = false := full_list (of_decide_eq_false hA)
            have gC : r.word.toList.isEmpty = true := empty_list (of_decide_eq_true hC)
            go_enter Try.func46, Try.ntmps46
            go_upto_region 1 with fail
            rw [← hw1, ← hgg]
            clear hw1 hgg
            have c0 : w1.cell? ⟨g, 0, none⟩ = some (.string r.who) := HC.out w1 (Below.refl _ _) 0
            have c1 : w1.cell? ⟨g, 1, none⟩ = some (.string r.word) := HC.out w1 (Below.refl _ _) 1
            have c2 : w1.cell? ⟨g, 2, none⟩ = some (.int .i64 r.fr) := HC.out w1 (Below.refl _ _) 2
            have c3 : w1.cell? ⟨g, 3, none⟩ = some (.int .i64 r.to) := HC.out w1 (Below.refl _ _) 3
            have c4 : w1.cell? ⟨g, 4, none⟩ = some (.int .i64 r.un) := HC.out w1 (Below.refl _ _) 4
            have c5 : w1.cell? ⟨g, 5, none⟩ = some (.int .i64 r.mo) := HC.out w1 (Below.refl _ _) 5
            go_wp2_with fail
            refine (HN.out.1 _).mono ?_
            rintro e w2 ⟨rfl, rfl⟩
            rw [hB]
            go_wp2_with fail
            refine (within_any _ _ _ _).mono ?_
            rintro e w4 ⟨rfl, rfl⟩
            rw [h1]
            go_wp2_with fail
            refine (within_any _ _ _ _).mono ?_
            rintro e w5 ⟨rfl, rfl⟩
            rw [h2]
            go_wp2_with fail
            go_ret
            exact ⟨rfl, H.out.1⟩
          | true =>
            cases h3 : Py.inB r.un 0 1099511627776 with
            | false =>
              rw [show Py.ruleB r = false by simp only [Py.ruleB, hA, hB, hC, h1, h2, h3] <;> rfl]
              have gA : r.who.toList.isEmpty = false := full_list (of_decide_eq_false hA)
              have gC : r.word.toList.isEmpty = true := empty_list (of_decide_eq_true hC)
              go_enter Try.func46, Try.ntmps46
              go_upto_region 1 with fail
              rw [← hw1, ← hgg]
              clear hw1 hgg
              have c0 : w1.cell? ⟨g, 0, none⟩ = some (.string r.who) := HC.out w1 (Below.refl _ _) 0
              have c1 : w1.cell? ⟨g, 1, none⟩ = some (.string r.word) := HC.out w1 (Below.refl _ _) 1
              have c2 : w1.cell? ⟨g, 2, none⟩ = some (.int .i64 r.fr) := HC.out w1 (Below.refl _ _) 2
              have c3 : w1.cell? ⟨g, 3, none⟩ = some (.int .i64 r.to) := HC.out w1 (Below.refl _ _) 3
              have c4 : w1.cell? ⟨g, 4, none⟩ = some (.int .i64 r.un) := HC.out w1 (Below.refl _ _) 4
              have c5 : w1.cell? ⟨g, 5, none⟩ = some (.int .i64 r.mo) := HC.out w1 (Below.refl _ _) 5
              go_wp2_with fail
              refine (HN.out.1 _).mono ?_
              rintro e w2 ⟨rfl, rfl⟩
              rw [hB]
              go_wp2_with fail
              refine (within_any _ _ _ _).mono ?_
              rintro e w4 ⟨rfl, rfl⟩
              rw [h1]
              go_wp2_with fail
              refine (within_any _ _ _ _).mono ?_
              rintro e w5 ⟨rfl, rfl⟩
              rw [h2]
              go_wp2_with fail
              refine (isTime_any _ _).mono ?_
              rintro e w6 ⟨rfl, rfl⟩
              rw [h3]
              go_wp2_with fail
              go_ret
              exact ⟨rfl, H.out.1⟩
            | true =>
              cases h4 : Py.inB r.mo 0 50 with
              | false =>
                rw [show Py.ruleB r = false by simp only [Py.ruleB, hA, hB, hC, h1, h2, h3, h4] <;> rfl]
                have gA : r.who.toList.isEmpty = false := full_list (of_decide_eq_false hA)
                have gC : r.word.toList.isEmpty = true := empty_list (of_decide_eq_true hC)
                go_enter Try.func46, Try.ntmps46
                go_upto_region 1 with fail
                rw [← hw1, ← hgg]
                clear hw1 hgg
                have c0 : w1.cell? ⟨g, 0, none⟩ = some (.string r.who) := HC.out w1 (Below.refl _ _) 0
                have c1 : w1.cell? ⟨g, 1, none⟩ = some (.string r.word) := HC.out w1 (Below.refl _ _) 1
                have c2 : w1.cell? ⟨g, 2, none⟩ = some (.int .i64 r.fr) := HC.out w1 (Below.refl _ _) 2
                have c3 : w1.cell? ⟨g, 3, none⟩ = some (.int .i64 r.to) := HC.out w1 (Below.refl _ _) 3
                have c4 : w1.cell? ⟨g, 4, none⟩ = some (.int .i64 r.un) := HC.out w1 (Below.refl _ _) 4
                have c5 : w1.cell? ⟨g, 5, none⟩ = some (.int .i64 r.mo) := HC.out w1 (Below.refl _ _) 5
                go_wp2_with fail
                refine (HN.out.1 _).mono ?_
                rintro e w2 ⟨rfl, rfl⟩
                rw [hB]
                go_wp2_with fail
                refine (within_any _ _ _ _).mono ?_
                rintro e w4 ⟨rfl, rfl⟩
                rw [h1]
                go_wp2_with fail
                refine (within_any _ _ _ _).mono ?_
                rintro e w5 ⟨rfl, rfl⟩
                rw [h2]
                go_wp2_with fail
                refine (isTime_any _ _).mono ?_
                rintro e w6 ⟨rfl, rfl⟩
                rw [h3]
                go_wp2_with fail
                refine (within_any _ _ _ _).mono ?_
                rintro e w7 ⟨rfl, rfl⟩
                rw [h4]
                go_wp2_with fail
                go_ret
                exact ⟨rfl, H.out.1⟩
              | true =>
                rw [show Py.ruleB r = true by simp only [Py.ruleB, hA, hB, hC, h1, h2, h3, h4] <;> rfl]
                have gA : r.who.toList.isEmpty = false := full_list (of_decide_eq_false hA)
                have gC : r.word.toList.isEmpty = true := empty_list (of_decide_eq_true hC)
                go_enter Try.func46, Try.ntmps46
                go_upto_region 1 with fail
                rw [← hw1, ← hgg]
                clear hw1 hgg
                have c0 : w1.cell? ⟨g, 0, none⟩ = some (.string r.who) := HC.out w1 (Below.refl _ _) 0
                have c1 : w1.cell? ⟨g, 1, none⟩ = some (.string r.word) := HC.out w1 (Below.refl _ _) 1
                have c2 : w1.cell? ⟨g, 2, none⟩ = some (.int .i64 r.fr) := HC.out w1 (Below.refl _ _) 2
                have c3 : w1.cell? ⟨g, 3, none⟩ = some (.int .i64 r.to) := HC.out w1 (Below.refl _ _) 3
                have c4 : w1.cell? ⟨g, 4, none⟩ = some (.int .i64 r.un) := HC.out w1 (Below.refl _ _) 4
                have c5 : w1.cell? ⟨g, 5, none⟩ = some (.int .i64 r.mo) := HC.out w1 (Below.refl _ _) 5
                go_wp2_with fail
                refine (HN.out.1 _).mono ?_
                rintro e w2 ⟨rfl, rfl⟩
                rw [hB]
                go_wp2_with fail
                refine (within_any _ _ _ _).mono ?_
                rintro e w4 ⟨rfl, rfl⟩
                rw [h1]
                go_wp2_with fail
                refine (within_any _ _ _ _).mono ?_
                rintro e w5 ⟨rfl, rfl⟩
                rw [h2]
                go_wp2_with fail
                refine (isTime_any _ _).mono ?_
                rintro e w6 ⟨rfl, rfl⟩
                rw [h3]
                go_wp2_with fail
                refine (within_any _ _ _ _).mono ?_
                rintro e w7 ⟨rfl, rfl⟩
                rw [h4]
                go_wp2_with fail
                go_ret
                exact ⟨rfl, H.out.1⟩
      | false =>
        cases hD : Py.wordB r.word with
        | true =>
          cases h1 : Py.inB r.fr 0 4096 with
          | false =>
            rw [show Py.ruleB r = false by simp only [Py.ruleB, hA, hB, hC, hD, h1] <;> rfl]
            have gA : r.who.toList.isEmpty = false := full_list (of_decide_eq_false hA)
            have gC : r.word.toList.isEmpty = false := full_list (of_decide_eq_false hC)
            go_enter Try.func46, Try.ntmps46
            go_upto_region 1 with fail
            rw [← hw1, ← hgg]
            clear hw1 hgg
            have c0 : w1.cell? ⟨g, 0, none⟩ = some (.string r.who) := HC.out w1 (Below.refl _ _) 0
            have c1 : w1.cell? ⟨g, 1, none⟩ = some (.string r.word) := HC.out w1 (Below.refl _ _) 1
            go_wp2_with fail
            refine (HN.out.1 _).mono ?_
            rintro e w2 ⟨rfl, rfl⟩
            rw [hB]
            go_wp2_with fail
            refine (HN.out.2 _).mono ?_
            rintro e w3 ⟨rfl, hb3⟩
            rw [hD]
            have d2 : w3.cell? ⟨g, 2, none⟩ = some (.int .i64 r.fr) := HC.out w3 hb3 2
            have d3 : w3.cell? ⟨g, 3, none⟩ = some (.int .i64 r.to) := HC.out w3 hb3 3
            have d4 : w3.cell? ⟨g, 4, none⟩ = some (.int .i64 r.un) := HC.out w3 hb3 4
            have d5 : w3.cell? ⟨g, 5, none⟩ = some (.int .i64 r.mo) := HC.out w3 hb3 5
            go_wp2_with fail
            refine (within_any _ _ _ _).mono ?_
            rintro e w4 ⟨rfl, rfl⟩
            rw [h1]
            go_wp2_with fail
            go_ret
            exact ⟨rfl, H.out.1.trans (hb3.mono H.out.1.size)⟩
          | true =>
            cases h2 : Py.inB r.to 0 4096 with
            | false =>
              rw [show Py.ruleB r = false by simp only [Py.ruleB, hA, hB, hC, hD, h1, h2] <;> rfl]
              have gA : r.who.toList.isEmpty = false := full_list (of_decide_eq_false hA)
              have gC : r.word.toList.isEmpty = false := full_list (of_decide_eq_false hC)
              go_enter Try.func46, Try.ntmps46
              go_upto_region 1 with fail
              rw [← hw1, ← hgg]
              clear hw1 hgg
              have c0 : w1.cell? ⟨g, 0, none⟩ = some (.string r.who) := HC.out w1 (Below.refl _ _) 0
              have c1 : w1.cell? ⟨g, 1, none⟩ = some (.string r.word) := HC.out w1 (Below.refl _ _) 1
              go_wp2_with fail
              refine (HN.out.1 _).mono ?_
              rintro e w2 ⟨rfl, rfl⟩
              rw [hB]
              go_wp2_with fail
              refine (HN.out.2 _).mono ?_
              rintro e w3 ⟨rfl, hb3⟩
              rw [hD]
              have d2 : w3.cell? ⟨g, 2, none⟩ = some (.int .i64 r.fr) := HC.out w3 hb3 2
              have d3 : w3.cell? ⟨g, 3, none⟩ = some (.int .i64 r.to) := HC.out w3 hb3 3
              have d4 : w3.cell? ⟨g, 4, none⟩ = some (.int .i64 r.un) := HC.out w3 hb3 4
              have d5 : w3.cell? ⟨g, 5, none⟩ = some (.int .i64 r.mo) := HC.out w3 hb3 5
              go_wp2_with fail
              refine (within_any _ _ _ _).mono ?_
              rintro e w4 ⟨rfl, rfl⟩
              rw [h1]
              go_wp2_with fail
              refine (within_any _ _ _ _).mono ?_
              rintro e w5 ⟨rfl, rfl⟩
              rw [h2]
              go_wp2_with fail
              go_ret
              exact ⟨rfl, H.out.1.trans (hb3.mono H.out.1.size)⟩
            | true =>
              cases h3 : Py.inB r.un 0 1099511627776 with
              | false =>
                rw [show Py.ruleB r = false by simp only [Py.ruleB, hA, hB, hC, hD, h1, h2, h3] <;> rfl]
                have gA : r.who.toList.isEmpty = false := full_list (of_decide_eq_false hA)
                have gC : r.word.toList.isEmpty = false := full_list (of_decide_eq_false hC)
                go_enter Try.func46, Try.ntmps46
                go_upto_region 1 with fail
                rw [← hw1, ← hgg]
                clear hw1 hgg
                have c0 : w1.cell? ⟨g, 0, none⟩ = some (.string r.who) := HC.out w1 (Below.refl _ _) 0
                have c1 : w1.cell? ⟨g, 1, none⟩ = some (.string r.word) := HC.out w1 (Below.refl _ _) 1
                go_wp2_with fail
                refine (HN.out.1 _).mono ?_
                rintro e w2 ⟨rfl, rfl⟩
                rw [hB]
                go_wp2_with fail
                refine (HN.out.2 _).mono ?_
                rintro e w3 ⟨rfl, hb3⟩
                rw [hD]
                have d2 : w3.cell? ⟨g, 2, none⟩ = some (.int .i64 r.fr) := HC.out w3 hb3 2
                have d3 : w3.cell? ⟨g, 3, none⟩ = some (.int .i64 r.to) := HC.out w3 hb3 3
                have d4 : w3.cell? ⟨g, 4, none⟩ = some (.int .i64 r.un) := HC.out w3 hb3 4
                have d5 : w3.cell? ⟨g, 5, none⟩ = some (.int .i64 r.mo) := HC.out w3 hb3 5
                go_wp2_with fail
                refine (within_any _ _ _ _).mono ?_
                rintro e w4 ⟨rfl, rfl⟩
                rw [h1]
                go_wp2_with fail
                refine (within_any _ _ _ _).mono ?_
                rintro e w5 ⟨rfl, rfl⟩
                rw [h2]
                go_wp2_with fail
                refine (isTime_any _ _).mono ?_
                rintro e w6 ⟨rfl, rfl⟩
                rw [h3]
                go_wp2_with fail
                go_ret
                exact ⟨rfl, H.out.1.trans (hb3.mono H.out.1.size)⟩
              | true =>
                cases h4 : Py.inB r.mo 0 50 with
                | false =>
                  rw [show Py.ruleB r = false by simp only [Py.ruleB, hA, hB, hC, hD, h1, h2, h3, h4] <;> rfl]
                  have gA : r.who.toList.isEmpty = false := full_list (of_decide_eq_false hA)
                  have gC : r.word.toList.isEmpty = false := full_list (of_decide_eq_false hC)
                  go_enter Try.func46, Try.ntmps46
                  go_upto_region 1 with fail
                  rw [← hw1, ← hgg]
                  clear hw1 hgg
                  have c0 : w1.cell? ⟨g, 0, none⟩ = some (.string r.who) := HC.out w1 (Below.refl _ _) 0
                  have c1 : w1.cell? ⟨g, 1, none⟩ = some (.string r.word) := HC.out w1 (Below.refl _ _) 1
                  go_wp2_with fail
                  refine (HN.out.1 _).mono ?_
                  rintro e w2 ⟨rfl, rfl⟩
                  rw [hB]
                  go_wp2_with fail
                  refine (HN.out.2 _).mono ?_
                  rintro e w3 ⟨rfl, hb3⟩
                  rw [hD]
                  have d2 : w3.cell? ⟨g, 2, none⟩ = some (.int .i64 r.fr) := HC.out w3 hb3 2
                  have d3 : w3.cell? ⟨g, 3, none⟩ = some (.int .i64 r.to) := HC.out w3 hb3 3
                  have d4 : w3.cell? ⟨g, 4, none⟩ = some (.int .i64 r.un) := HC.out w3 hb3 4
                  have d5 : w3.cell? ⟨g, 5, none⟩ = some (.int .i64 r.mo) := HC.out w3 hb3 5
                  go_wp2_with fail
                  refine (within_any _ _ _ _).mono ?_
                  rintro e w4 ⟨rfl, rfl⟩
                  rw [h1]
                  go_wp2_with fail
                  refine (within_any _ _ _ _).mono ?_
                  rintro e w5 ⟨rfl, rfl⟩
                  rw [h2]
                  go_wp2_with fail
                  refine (isTime_any _ _).mono ?_
                  rintro e w6 ⟨rfl, rfl⟩
                  rw [h3]
                  go_wp2_with fail
                  refine (within_any _ _ _ _).mono ?_
                  rintro e w7 ⟨rfl, rfl⟩
                  rw [h4]
                  go_wp2_with fail
                  go_ret
                  exact ⟨rfl, H.out.1.trans (hb3.mono H.out.1.size)⟩
                | true =>
                  rw [show Py.ruleB r = true by simp only [Py.ruleB, hA, hB, hC, hD, h1, h2, h3, h4] <;> rfl]
                  have gA : r.who.toList.isEmpty = false := full_list (of_decide_eq_false hA)
                  have gC : r.word.toList.isEmpty = false := full_list (of_decide_eq_false hC)
                  go_enter Try.func46, Try.ntmps46
                  go_upto_region 1 with fail
                  rw [← hw1, ← hgg]
                  clear hw1 hgg
                  have c0 : w1.cell? ⟨g, 0, none⟩ = some (.string r.who) := HC.out w1 (Below.refl _ _) 0
                  have c1 : w1.cell? ⟨g, 1, none⟩ = some (.string r.word) := HC.out w1 (Below.refl _ _) 1
                  go_wp2_with fail
                  refine (HN.out.1 _).mono ?_
                  rintro e w2 ⟨rfl, rfl⟩
                  rw [hB]
                  go_wp2_with fail
                  refine (HN.out.2 _).mono ?_
                  rintro e w3 ⟨rfl, hb3⟩
                  rw [hD]
                  have d2 : w3.cell? ⟨g, 2, none⟩ = some (.int .i64 r.fr) := HC.out w3 hb3 2
                  have d3 : w3.cell? ⟨g, 3, none⟩ = some (.int .i64 r.to) := HC.out w3 hb3 3
                  have d4 : w3.cell? ⟨g, 4, none⟩ = some (.int .i64 r.un) := HC.out w3 hb3 4
                  have d5 : w3.cell? ⟨g, 5, none⟩ = some (.int .i64 r.mo) := HC.out w3 hb3 5
                  go_wp2_with fail
                  refine (within_any _ _ _ _).mono ?_
                  rintro e w4 ⟨rfl, rfl⟩
                  rw [h1]
                  go_wp2_with fail
                  refine (within_any _ _ _ _).mono ?_
                  rintro e w5 ⟨rfl, rfl⟩
                  rw [h2]
                  go_wp2_with fail
                  refine (isTime_any _ _).mono ?_
                  rintro e w6 ⟨rfl, rfl⟩
                  rw [h3]
                  go_wp2_with fail
                  refine (within_any _ _ _ _).mono ?_
                  rintro e w7 ⟨rfl, rfl⟩
                  rw [h4]
                  go_wp2_with fail
                  go_ret
                  exact ⟨rfl, H.out.1.trans (hb3.mono H.out.1.size)⟩
        | false =>
          rw [show Py.ruleB r = false by simp only [Py.ruleB, hA, hB, hC, hD] <;> rfl]
          have gA : r.who.toList.isEmpty = false := full_list (of_decide_eq_false hA)
          have gC : r.word.toList.isEmpty = false := full_list (of_decide_eq_false hC)
          go_enter Try.func46, Try.ntmps46
          go_upto_region 1 with fail
          rw [← hw1, ← hgg]
          clear hw1 hgg
          have c0 : w1.cell? ⟨g, 0, none⟩ = some (.string r.who) := HC.out w1 (Below.refl _ _) 0
          have c1 : w1.cell? ⟨g, 1, none⟩ = some (.string r.word) := HC.out w1 (Below.refl _ _) 1
          go_wp2_with fail
          refine (HN.out.1 _).mono ?_
          rintro e w2 ⟨rfl, rfl⟩
          rw [hB]
          go_wp2_with fail
          refine (HN.out.2 _).mono ?_
          rintro e w3 ⟨rfl, hb3⟩
          rw [hD]
          have d2 : w3.cell? ⟨g, 2, none⟩ = some (.int .i64 r.fr) := HC.out w3 hb3 2
          have d3 : w3.cell? ⟨g, 3, none⟩ = some (.int .i64 r.to) := HC.out w3 hb3 3
          have d4 : w3.cell? ⟨g, 4, none⟩ = some (.int .i64 r.un) := HC.out w3 hb3 4
          have d5 : w3.cell? ⟨g, 5, none⟩ = some (.int .i64 r.mo) := HC.out w3 hb3 5
          go_wp2_with fail
          go_ret
          exact ⟨rfl, H.out.1.trans (hb3.mono H.out.1.size)⟩
    | false =>
      cases hC : decide (r.word.size = 0) with
      | true =>
        rw [show Py.ruleB r = false by simp only [Py.ruleB, hA, hB, hC] <;> rfl]
        have gA : r.who.toList.isEmpty = false := full_list (of_decide_eq_false hA)
        have gC : r.word.toList.isEmpty = true := empty_list (of_decide_eq_true hC)
        go_enter Try.func46, Try.ntmps46
        go_upto_region 1 with fail
        rw [← hw1, ← hgg]
        clear hw1 hgg
        have c0 : w1.cell? ⟨g, 0, none⟩ = some (.string r.who) := HC.out w1 (Below.refl _ _) 0
        have c1 : w1.cell? ⟨g, 1, none⟩ = some (.string r.word) := HC.out w1 (Below.refl _ _) 1
        go_wp2_with fail
        refine (HN.out.1 _).mono ?_
        rintro e w2 ⟨rfl, rfl⟩
        rw [hB]
        go_wp2_with fail
        go_ret
        exact ⟨rfl, H.out.1⟩
      | false =>
        cases hD : Py.wordB r.word with
        | true =>
          rw [show Py.ruleB r = false by simp only [Py.ruleB, hA, hB, hC, hD] <;> rfl]
          have gA : r.who.toList.isEmpty = false := full_list (of_decide_eq_false hA)
          have gC : r.word.toList.isEmpty = false := full_list (of_decide_eq_false hC)
          go_enter Try.func46, Try.ntmps46
          go_upto_region 1 with fail
          rw [← hw1, ← hgg]
          clear hw1 hgg
          have c0 : w1.cell? ⟨g, 0, none⟩ = some (.string r.who) := HC.out w1 (Below.refl _ _) 0
          have c1 : w1.cell? ⟨g, 1, none⟩ = some (.string r.word) := HC.out w1 (Below.refl _ _) 1
          go_wp2_with fail
          refine (HN.out.1 _).mono ?_
          rintro e w2 ⟨rfl, rfl⟩
          rw [hB]
          go_wp2_with fail
          refine (HN.out.2 _).mono ?_
          rintro e w3 ⟨rfl, hb3⟩
          rw [hD]
          have d2 : w3.cell? ⟨g, 2, none⟩ = some (.int .i64 r.fr) := HC.out w3 hb3 2
          have d3 : w3.cell? ⟨g, 3, none⟩ = some (.int .i64 r.to) := HC.out w3 hb3 3
          have d4 : w3.cell? ⟨g, 4, none⟩ = some (.int .i64 r.un) := HC.out w3 hb3 4
          have d5 : w3.cell? ⟨g, 5, none⟩ = some (.int .i64 r.mo) := HC.out w3 hb3 5
          go_wp2_with fail
          go_ret
          exact ⟨rfl, H.out.1.trans (hb3.mono H.out.1.size)⟩
        | false =>
          rw [show Py.ruleB r = false by simp only [Py.ruleB, hA, hB, hC, hD] <;> rfl]
          have gA : r.who.toList.isEmpty = false := full_list (of_decide_eq_false hA)
          have gC : r.word.toList.isEmpty = false := full_list (of_decide_eq_false hC)
          go_enter Try.func46, Try.ntmps46
          go_upto_region 1 with fail
          rw [← hw1, ← hgg]
          clear hw1 hgg
          have c0 : w1.cell? ⟨g, 0, none⟩ = some (.string r.who) := HC.out w1 (Below.refl _ _) 0
          have c1 : w1.cell? ⟨g, 1, none⟩ = some (.string r.word) := HC.out w1 (Below.refl _ _) 1
          go_wp2_with fail
          refine (HN.out.1 _).mono ?_
          rintro e w2 ⟨rfl, rfl⟩
          rw [hB]
          go_wp2_with fail
          refine (HN.out.2 _).mono ?_
          rintro e w3 ⟨rfl, hb3⟩
          rw [hD]
          have d2 : w3.cell? ⟨g, 2, none⟩ = some (.int .i64 r.fr) := HC.out w3 hb3 2
          have d3 : w3.cell? ⟨g, 3, none⟩ = some (.int .i64 r.to) := HC.out w3 hb3 3
          have d4 : w3.cell? ⟨g, 4, none⟩ = some (.int .i64 r.un) := HC.out w3 hb3 4
          have d5 : w3.cell? ⟨g, 5, none⟩ = some (.int .i64 r.mo) := HC.out w3 hb3 5
          go_wp2_with fail
          go_ret
          exact ⟨rfl, H.out.1.trans (hb3.mono H.out.1.size)⟩
end Go.Proofs.Ytnkkbinbeildmaa
