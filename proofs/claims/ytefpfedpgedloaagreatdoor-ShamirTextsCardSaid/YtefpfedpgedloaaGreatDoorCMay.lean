/- mayBe, Check: which items may be. -/
import Derived.Test.YtefpfedpgedloaaGreatDoorCTree
namespace Go.Proofs.YtefpfedpgedloaaGreatDoor
open Go.RowKit
open Cn

theorem ret_bool {a b : Bool} (h : a = b) : Ending.returned (.bool a) = .returned (.bool b) := by rw [h]
theorem c_toList_data (s : ByteArray) : s.toList = s.data.toList := ByteArray.toList_eq s
theorem toList_nil (s : ByteArray) : s.toList = [] ↔ s.size = 0 := by
  rw [c_toList_data]; exact ⟨fun h => by have := congrArg List.length h; simpa using this, fun h => List.eq_nil_of_length_eq_zero (by simpa using h)⟩
theorem mayAll_mem {d : Nat} : ∀ {l : List Pt}, mayAll l d = true → ∀ x ∈ l, may x d = true
  | y :: r, h, x, hx => by
    rw [mayAll, Bool.and_eq_true] at h
    rcases List.mem_cons.1 hx with rfl | hx
    · exact h.1
    · exact mayAll_mem h.2 x hx
theorem may1_eq (n : Int) (s : ByteArray) (l : List It) (d : Nat) : may (.mk 1 n s (It.pureAll l)) d = true ↔ (0 ≤ n ∧ n ≤ 72057594037927935 ∧ s.size = 0 ∧ l.length = 0) := by
  simp [may, It.pureAll_length, and_assoc]
theorem may2_eq (n : Int) (s : ByteArray) (l : List It) (d : Nat) : may (.mk 2 n s (It.pureAll l)) d = true ↔ (n = 0 ∧ s.size ≤ 65536 ∧ l.length = 0) := by
  simp [may, It.pureAll_length, and_assoc]
theorem may3_eq (n : Int) (s : ByteArray) (l : List It) (d : Nat) : may (.mk 3 n s (It.pureAll l)) d = true ↔ (n = 0 ∧ s.size = 0 ∧ l.length ≤ 1024 ∧ 0 < d ∧ mayAll (It.pureAll l) (d - 1) = true) := by
  simp [may, It.pureAll_length, and_assoc]
theorem may0_eq {k n : Int} {s : ByteArray} {l : List Pt} {d : Nat} (h1 : k ≠ 1) (h2 : k ≠ 2) (h3 : k ≠ 3) : may (.mk k n s l) d = false := by
  simp [may, h1, h2, h3]
set_option maxRecDepth 100000 in
set_option maxHeartbeats 400000 in
theorem mayBe_flat (x : It) (d : Nat) (w : World) (h3 : x.k ≠ 3) :
    Calls Tryz.prog 65 #[x.val, .int .i64 (6 - d)] w fun e w' => e = .returned (.bool (may x.pure d)) ∧ Below w.heap.size w w' := by
  obtain ⟨k, n, s, a, cap, l⟩ := x
  simp only [It.k] at h3
  simp only [It.val, It.cells, It.k, It.n, It.s, It.a, It.cap, It.l]
  have hB : ∀ o, Below w.heap.size w (w.alloc o) := fun o => (Below.refl _ _).alloc (Nat.le_refl _) o
  obtain ⟨M, hM⟩ : ∃ M, M = may (It.mk k n s a cap l).pure d := ⟨_, rfl⟩
  rw [← hM]
  have HM := Lib.hid (show M = may (.mk k n s (It.pureAll l)) d from hM)
  clear hM
  by_cases h1 : k = 1
  · subst h1
    go_enter Tryz.func65, Tryz.ntmps65
    go_wp2_with fail
    all_goals
      go_ret
      refine ⟨ret_bool ?_, hB _⟩
      rw [Bool.eq_iff_iff, HM.out, may1_eq]
      simp only [beq_iff_eq, Bool.false_eq_true, false_iff]
      first
        | (have hs := (toList_nil s).1 ‹s.toList = []›; omega)
        | (have hs : ¬ s.size = 0 := fun h => (‹¬ s.toList = []› : ¬ s.toList = []) ((toList_nil s).2 h); omega)
        | omega
  · by_cases h2 : k = 2
    · subst h2
      go_enter Tryz.func65, Tryz.ntmps65
      go_wp2_with fail
      all_goals
        go_ret
        refine ⟨ret_bool ?_, hB _⟩
        rw [Bool.eq_iff_iff, HM.out, may2_eq]
        simp only [beq_iff_eq, Bool.false_eq_true, false_iff]
        omega
    · go_enter Tryz.func65, Tryz.ntmps65
      go_wp2_with fail
      go_ret
      refine ⟨ret_bool ?_, hB _⟩
      rw [HM.out, may0_eq h1 h2 h3]
set_option maxRecDepth 100000 in
set_option maxHeartbeats 400000 in
theorem mayBe_list (x : It) (d : Nat) (hd : d ≤ 6) (S : Nat → Prop) (w : World) (h3 : x.k = 3) (hin : x.In w S)
    (ih : ∀ y ∈ x.l, ∀ d' w', d' ≤ 6 → y.In w' S → Calls Tryz.prog 65 #[y.val, .int .i64 (6 - (d' : Nat))] w' fun e w'' => e = .returned (.bool (may y.pure d')) ∧ Below w'.heap.size w' w'') :
    Calls Tryz.prog 65 #[x.val, .int .i64 (6 - d)] w fun e w' => e = .returned (.bool (may x.pure d)) ∧ Below w.heap.size w w' := by
  obtain ⟨k, n, s, a, cap, l⟩ := x
  simp only [It.k] at h3
  subst h3
  simp only [It.val, It.cells, It.k, It.n, It.s, It.a, It.cap, It.l]
  have hB : ∀ o, Below w.heap.size w (w.alloc o) := fun o => (Below.refl _ _).alloc (Nat.le_refl _) o
  obtain ⟨M, hM⟩ : ∃ M, M = may (It.mk 3 n s a cap l).pure d := ⟨_, rfl⟩
  rw [← hM]
  have HM := Lib.hid (show M = may (.mk 3 n s (It.pureAll l)) d from hM)
  clear hM
  have HI := Lib.hid (And.intro hin ih)
  clear hin ih
  by_cases hd0 : 0 < d
  · have hd6 : ((6 - (d : Int)) == 6) = false := by simp; omega
    by_cases hg : n = 0 ∧ s.toList = [] ∧ l.length ≤ 1024
    · obtain ⟨rfl, hs, hl⟩ := hg
      have hli : (l.length : Int) ≤ 1024 := by omega
      have hld : decide (1024 < (l.length : Int)) = false := decide_eq_false (by omega)
      have hM2 : M = mayAll (It.pureAll l) (d - 1) := by
        rw [HM.out]
        simp [may, It.pureAll_length, (toList_nil s).1 hs, hl, hd0]
      have HM2 := Lib.hid hM2
      clear hM2
      have hdi : (6 : Int) - d + 1 = 6 - ((d - 1 : Nat) : Int) := by omega
      have HDI := Lib.hid hdi
      clear hdi
      obtain ⟨N, hN⟩ : ∃ N, N = l.length := ⟨_, rfl⟩
      rw [← hN] at hli hld ⊢
      have HN := Lib.hid (And.intro hN hl)
      clear hN hl
      go_enter Tryz.func65, Tryz.ntmps65
      go_wp2_with fail
      have hb1 := hB (Obj.cells #[Value.int IntKind.i64 3, Value.int IntKind.i64 0, Value.string s, Value.slice a N cap] 60)
      generalize World.alloc w _ = w1 at *
      go_loopw [70] (fun c wr => ∃ i : Nat, i ≤ N ∧ c = .int .i64 i ∧ Below w.heap.size w wr ∧ mayAll (It.pureAll (l.take i)) (d - 1) = true) (fun c _ => N - (intOf c).toNat)
      case atStart => exact ⟨0, by omega, rfl, hb1, rfl⟩
      case round =>
        clear hb1
        obtain ⟨i, hi, rfl, hb, hall⟩ := hrel
        have HA := Lib.hid (And.intro hb hall)
        clear hb hall
        by_cases hlt : i < N
        · have hin := It.In.kept (keptS_any HA.out.1) _ HI.out.1
          have hil : i < l.length := by have := HN.out.1; omega
          obtain ⟨b, o, x, ha, hbl, -, hx, hmem, c0, c1, c2, c3⟩ := hin.2.1.at hil
          have ha' : a = some ⟨b, o, none⟩ := ha
          subst ha'
          clear ha
          have HX := Lib.hid (And.intro hx (And.intro hmem hin))
          clear hx hmem hin
          have ihx := HI.out.2 x HX.out.2.1 (d - 1)
          rw [← HDI.out] at ihx
          have hc := fun w' (h : Below wr.heap.size wr w') => ihx w' (by omega) (It.In.kept (keptS_any h) _ (It.inAll_mem HX.out.2.2.2.2 x HX.out.2.1))
          obtain ⟨p, hp⟩ : ∃ p, p = x.pure := ⟨_, rfl⟩
          rw [← hp] at hc
          have HX2 := Lib.hid hp
          clear ihx hp
          obtain ⟨xk, xn, xs, xa, xc, xl⟩ := x
          simp only [It.val, It.cells, It.k, It.n, It.s, It.a, It.cap, It.l] at hc c0 c1 c2 c3
          have HC := Lib.hid hc
          clear hc
          go_wp2_with fail
          refine (HC.out _ (((Below.refl _ _).alloc (Nat.le_refl _) _))).mono ?_
          rintro e w2 ⟨rfl, hb2⟩
          obtain ⟨m, hm⟩ : ∃ m, m = may p (d - 1) := ⟨_, rfl⟩
          rw [← hm]
          have HB := Lib.hid (And.intro hm hb2)
          clear hm hb2
          have hb3 : Below w.heap.size w w2 := HA.out.1.trans ((((Below.refl _ wr).alloc (Nat.le_refl _) _).trans (HB.out.2.mono (by simp))).mono HA.out.1.size)
          cases m with
          | true =>
            have HB3 := Lib.hid hb3
            clear hb3
            go_wp2_with fail
            go_roundw
            case rel =>
              refine ⟨i + 1, by omega, by go_num, HB3.out, ?_⟩
              rw [List.take_add_one, HX.out.1, It.pureAll_eq, Option.toList_some, List.map_append, mayAll_append, ← It.pureAll_eq, HA.out.2, List.map_cons, List.map_nil, mayAll, mayAll, ← HX2.out, ← HB.out.1]
              rfl
            case measure => simp [intOf]; omega
          | false =>
            have hMf : M = false := by
              rw [HM2.out, Bool.eq_false_iff]
              intro h
              have h2 := mayAll_mem h _ (by rw [It.pureAll_eq]; exact List.mem_map_of_mem HX.out.2.1)
              rw [← HX2.out, ← HB.out.1] at h2
              exact absurd h2 (by simp)
            have HB3 := Lib.hid (And.intro hb3 hMf)
            clear hb3 hMf
            go_wp2_with fail
            go_ret
            exact ⟨ret_bool HB3.out.2.symm, HB3.out.1⟩
        · obtain rfl : i = N := by omega
          have hMt : M = true := by
            rw [HM2.out]
            have := HA.out.2
            rw [HN.out.1, List.take_length] at this
            exact this
          have HMt := Lib.hid hMt
          clear hMt
          go_wp2_with fail
          go_ret
          exact ⟨ret_bool HMt.out.symm, HA.out.1⟩
    · go_enter Tryz.func65, Tryz.ntmps65
      go_wp2_with fail
      all_goals first
        | (exfalso; exact hg ⟨‹_›, ‹_›, by omega⟩)
        | (go_ret
           refine ⟨ret_bool ?_, hB _⟩
           rw [Bool.eq_iff_iff, HM.out, may3_eq]
           simp only [Bool.false_eq_true, false_iff]
           first
             | (have hs : ¬ s.size = 0 := fun h => (‹¬ s.toList = []› : ¬ s.toList = []) ((toList_nil s).2 h); omega)
             | omega)
  · obtain rfl : d = 0 := by omega
    go_enter Tryz.func65, Tryz.ntmps65
    go_wp2_with fail
    all_goals
      go_ret
      refine ⟨ret_bool ?_, hB _⟩
      rw [Bool.eq_iff_iff, HM.out, may3_eq]
      simp only [Bool.false_eq_true, false_iff]
      omega

theorem mayBe_any (S : Nat → Prop) : ∀ (N : Nat) (x : It), x.sz ≤ N → ∀ (d : Nat) (w : World), d ≤ 6 → x.In w S →
    Calls Tryz.prog 65 #[x.val, .int .i64 (6 - d)] w fun e w' => e = .returned (.bool (may x.pure d)) ∧ Below w.heap.size w w'
  | 0, x, hx, d, w, hd, hin => by rw [It.sz_eq] at hx; omega
  | N + 1, x, hx, d, w, hd, hin => by
    by_cases h3 : x.k = 3
    · exact mayBe_list x d hd S w h3 hin fun y hy d' w' hd' hin' => mayBe_any S N y (by have := It.sz_lt hy; omega) d' w' hd' hin'
    · exact mayBe_flat x d w h3
set_option maxRecDepth 100000 in
theorem ccheck_any (S : Nat → Prop) (x : It) (w : World) (hin : x.In w S) :
    Calls Tryz.prog 47 #[x.val] w fun e w' => e = .returned (.bool (may x.pure 6)) ∧ Below w.heap.size w w' := by
  have h := fun w' (hb : Below w.heap.size w w') => mayBe_any S x.sz x (Nat.le_refl _) 6 w' (by decide) (It.In.kept (keptS_any hb) x hin)
  have H := Lib.hid h
  clear h hin
  obtain ⟨k, n, s, a, cap, l⟩ := x
  simp only [It.val, It.cells, It.k, It.n, It.s, It.a, It.cap, It.l] at H ⊢
  go_enter Tryz.func47, Tryz.ntmps47
  go_wp2_with fail
  refine (H.out _ ((Below.refl _ _).alloc (Nat.le_refl _) _)).mono ?_
  rintro e w2 ⟨rfl, hb2⟩
  go_wp2_with fail
  go_ret
  exact ⟨rfl, ((Below.refl _ _).alloc (Nat.le_refl _) _).trans (hb2.mono (by simp))⟩
end Go.Proofs.YtefpfedpgedloaaGreatDoor
