/- fits, Shape: which items have a shape. -/
import Derived.Test.YtefpfedpgedloaaGreatDoorCMay
import Derived.Test.YtefpfedpgedloaaGreatDoorCSize
import Derived.Deep.RegionWith
import Derived.Deep.QuietTactic
import Derived.BigQuiet
namespace Go.Proofs.YtefpfedpgedloaaGreatDoor
open Go.RowKit
open Cn

/-- Does an item fit a letter? -/
def fitP (x : Pt) (c : Nat) : Bool := match x with
  | .mk k _ s _ => if c = 110 then decide (k = 1) else if c = 108 then decide (k = 3) else if c = 100 then decide (s.size = 32) && decide (k = 2) else if c = 116 then decide (k = 2) else false
def fitAll : List Pt → List UInt8 → Bool
  | [], [] => true
  | x :: r, c :: t => fitP x c.toNat && fitAll r t
  | _, _ => false
def shapeP (x : Pt) (t : List UInt8) : Bool := match x with
  | .mk k _ _ l => decide (k = 3) && fitAll l t
theorem fitAll_len : ∀ {l : List Pt} {t : List UInt8}, l.length ≠ t.length → fitAll l t = false
  | [], [], h => absurd rfl h
  | [], _ :: _, _ => rfl
  | _ :: _, [], _ => rfl
  | x :: r, c :: t, h => by rw [fitAll, fitAll_len (by simpa using h)]; simp
set_option maxRecDepth 100000 in
set_option maxHeartbeats 400000 in
theorem fits_any (x : It) (c : Nat) (w : World) : Calls Tryz.prog 51 #[x.val, .int .u8 c] w fun e w' => e = .returned (.bool (fitP x.pure c)) ∧ Below w.heap.size w w' := by
  obtain ⟨k, n, s, a, cap, l⟩ := x
  simp only [It.val, It.cells, It.k, It.n, It.s, It.a, It.cap, It.l]
  have hB : ∀ o, Below w.heap.size w (w.alloc o) := fun o => (Below.refl _ _).alloc (Nat.le_refl _) o
  obtain ⟨M, hM⟩ : ∃ M, M = fitP (It.mk k n s a cap l).pure c := ⟨_, rfl⟩
  rw [← hM]
  have hMe : M = (if c = 110 then decide (k = 1) else if c = 108 then decide (k = 3) else if c = 100 then decide (s.size = 32) && decide (k = 2) else if c = 116 then decide (k = 2) else false) := hM
  clear hM
  have beqd : ∀ x : Int, (k == x) = decide (k = x) := fun x => rfl
  by_cases q1 : c = 110
  · subst q1
    have HM := Lib.hid (show M = decide (k = 1) by rw [hMe, if_pos rfl])
    have HD := Lib.hid beqd
    clear hMe beqd
    go_enter Tryz.func51, Tryz.ntmps51
    go_wp2_with fail
    go_ret
    exact ⟨ret_bool (by rw [HM.out]; rfl), hB _⟩
  · have q1' : ((c : Int) == 110) = false := by simp; omega
    by_cases q2 : c = 108
    · subst q2
      have HM := Lib.hid (show M = decide (k = 3) by rw [hMe, if_neg q1, if_pos rfl])
      clear hMe beqd q1
      go_enter Tryz.func51, Tryz.ntmps51
      go_wp2_with fail
      go_ret
      exact ⟨ret_bool (by rw [HM.out]; rfl), hB _⟩
    · have q2' : ((c : Int) == 108) = false := by simp; omega
      by_cases q3 : c = 100
      · subst q3
        by_cases q4 : s.size = 32
        · have q4' : ((s.size : Int) == 32) = true := by simp; omega
          have HM := Lib.hid (show M = decide (k = 2) by rw [hMe, if_neg q1, if_neg q2, if_pos rfl, decide_eq_true q4, Bool.true_and])
          clear hMe beqd q1 q2 q4
          go_enter Tryz.func51, Tryz.ntmps51
          go_wp2_with fail
          go_ret
          exact ⟨ret_bool (by rw [HM.out]; rfl), hB _⟩
        · have q4' : ((s.size : Int) == 32) = false := by simp; omega
          have HM := Lib.hid (show M = false by rw [hMe, if_neg q1, if_neg q2, if_pos rfl, decide_eq_false q4, Bool.false_and])
          clear hMe beqd q1 q2 q4
          go_enter Tryz.func51, Tryz.ntmps51
          go_wp2_with fail
          go_ret
          exact ⟨ret_bool HM.out.symm, hB _⟩
      · have q3' : ((c : Int) == 100) = false := by simp; omega
        by_cases q5 : c = 116
        · subst q5
          have HM := Lib.hid (show M = decide (k = 2) by rw [hMe, if_neg q1, if_neg q2, if_neg q3, if_pos rfl])
          clear hMe beqd q1 q2 q3
          go_enter Tryz.func51, Tryz.ntmps51
          go_wp2_with fail
          go_ret
          exact ⟨ret_bool (by rw [HM.out]; rfl), hB _⟩
        · have q5' : ((c : Int) == 116) = false := by simp; omega
          have HM := Lib.hid (show M = false by rw [hMe, if_neg q1, if_neg q2, if_neg q3, if_neg q5])
          clear hMe beqd q1 q2 q3 q5
          go_enter Tryz.func51, Tryz.ntmps51
          go_wp2_with fail
          go_ret
          exact ⟨ret_bool HM.out.symm, hB _⟩
theorem drop_text {t : ByteArray} {i : Nat} (h : i < t.size) : t.data.toList.drop i = t[i] :: t.data.toList.drop (i + 1) := by
  rw [List.drop_eq_getElem_cons (by simpa using h)]; rfl
set_option maxRecDepth 100000 in
set_option maxHeartbeats 400000 in
theorem shape_any (S : Nat → Prop) (x : It) (t : ByteArray) (w : World) (hin : x.In w S) :
    Calls Tryz.prog 30 #[x.val, .string t] w fun e w' => e = .returned (.bool (shapeP x.pure t.data.toList)) ∧ Below w.heap.size w w' := by
  obtain ⟨k, n, s, a, cap, l⟩ := x
  simp only [It.val, It.cells, It.k, It.n, It.s, It.a, It.cap, It.l]
  have hB : ∀ o, Below w.heap.size w (w.alloc o) := fun o => (Below.refl _ _).alloc (Nat.le_refl _) o
  obtain ⟨M, hM⟩ : ∃ M, M = shapeP (It.mk k n s a cap l).pure t.data.toList := ⟨_, rfl⟩
  rw [← hM]
  have hMe : M = (decide (k = 3) && fitAll (It.pureAll l) t.data.toList) := hM
  clear hM
  obtain ⟨N, hN⟩ : ∃ N, N = l.length := ⟨_, rfl⟩
  have hNm : N ≤ 9223372036854775807 := by have := hin.2.1.1; unfold maxLen at this; omega
  have htl : t.data.toList.length = t.size := by simp
  rw [← hN]
  by_cases hg : k = 3 ∧ N = t.size
  · obtain ⟨rfl, hNt⟩ := hg
    have hnt : ((N : Int) == t.size) = true := by simp; omega
    have HM := Lib.hid (show M = fitAll (It.pureAll l) t.data.toList by rw [hMe]; simp)
    have HI := Lib.hid (And.intro hin (And.intro hN hNt))
    clear hMe hin hN hNt htl
    go_enter Tryz.func30, Tryz.ntmps30
    go_wp2_with fail
    have hb1 := hB (.cells #[.int .i64 3, .int .i64 n, .string s, .slice a N cap] 60)
    generalize World.alloc w _ = w1 at *
    go_loopw [21] (fun c wr => ∃ i : Nat, i ≤ N ∧ c = .int .i64 i ∧ Below w.heap.size w wr ∧ M = fitAll (It.pureAll (l.drop i)) (t.data.toList.drop i)) (fun c _ => N - (intOf c).toNat)
    case atStart => exact ⟨0, by omega, rfl, hb1, HM.out⟩
    case round =>
      clear hb1
      obtain ⟨i, hi, rfl, hb, hMi⟩ := hrel
      have HR := Lib.hid (And.intro hb hMi)
      clear hb hMi
      by_cases hlt : i < N
      · have hin := It.In.kept (keptS_any HR.out.1) _ HI.out.1
        obtain ⟨b, o, x, ha, hbl, -, hx, hmem, c0, c1, c2, c3⟩ := hin.2.1.at (show i < l.length by have := HI.out.2.1; omega)
        have ha' : a = some ⟨b, o, none⟩ := ha
        subst ha'
        clear ha
        have hti : i < t.size := by have := HI.out.2.2; omega
        have hfit := fits_any x (t[i]).toNat
        have hnext := HR.out.2
        rw [drop_at hx, drop_text hti, fitAll] at hnext
        obtain ⟨z, hz⟩ : ∃ z, z = fitP x.pure (t[i]).toNat := ⟨_, rfl⟩
        rw [← hz] at hnext hfit
        have HX := Lib.hid (And.intro hfit hnext)
        clear hx hmem hin hfit hnext hz
        obtain ⟨xk, xn, xs, xa, xc, xl⟩ := x
        simp only [It.val, It.cells, It.k, It.n, It.s, It.a, It.cap, It.l] at HX c0 c1 c2 c3
        have hi0 : (0 : Int) ≤ (i : Int) := by omega
        have hiT : (i : Int) < t.size := by omega
        go_wp2_with fail
        go_region_with (go_at_call 51; refine (HX.out.1 _).mono ?_; rintro e w4 ⟨rfl, hb4⟩; have HB4 := Lib.hid hb4; clear hb4)
        all_goals
          have hb4 : Below w.heap.size w w4 := by
            have h1 := (HR.out.1.alloc HR.out.1.size (.cells #[.int .i64 xk, .int .i64 xn, .string xs, .slice xa xl.length xc] 60)).drew
            exact h1.trans (HB4.out.mono h1.size)
          have HB5 := Lib.hid hb4
          clear hb4 HB4
          obtain ⟨z', hz'⟩ : ∃ z', z' = z := ⟨_, rfl⟩
          have HM5 := Lib.hid HX.out.2
          clear HX c0 c1 c2 c3 HR
          cases z with
          | true =>
            go_wp2_with fail
            go_roundw
            case rel =>
              have hne : ((N : Int) != t.size) = false := by have := HI.out.2.2; simp; omega
              rw [hne]
              exact ⟨_, _, _, _, _, _, _, _, _, _, _, _, _, _, _, ⟨i + 1, by omega, by go_num, HB5.out, by rw [HM5.out]; rfl⟩, rfl⟩
            case measure => simp [intOf]; omega
          | false =>
            go_wp2_with fail
            go_ret
            exact ⟨ret_bool (by rw [HM5.out]; rfl), HB5.out⟩
      · obtain rfl : i = N := by omega
        have hMt : M = true := by
          have h1 : l.drop i = [] := List.drop_eq_nil_of_le (by have := HI.out.2.1; omega)
          have h2 : t.data.toList.drop i = [] := List.drop_eq_nil_of_le (by have := HI.out.2.2; simp; omega)
          rw [HR.out.2, h1, h2]; rfl
        have HM2 := Lib.hid hMt
        clear hMt
        go_wp2_with fail
        go_ret
        exact ⟨ret_bool HM2.out.symm, HR.out.1⟩
  · have hMf : M = false := by
      rw [hMe]
      by_cases h1 : k = 3
      · rw [fitAll_len (by rw [It.pureAll_length, ← hN, htl]; exact fun h => hg ⟨h1, h⟩), Bool.and_false]
      · rw [decide_eq_false h1, Bool.false_and]
    have HM := Lib.hid hMf
    clear hMf hMe hin hN htl
    by_cases h1 : k = 3
    · subst h1
      have hnt : ((N : Int) == t.size) = false := by simp; intro h; exact hg ⟨rfl, by omega⟩
      clear hg
      go_enter Tryz.func30, Tryz.ntmps30
      go_wp2_with fail
      go_ret
      exact ⟨ret_bool HM.out.symm, hB _⟩
    · have hk3 : (k == 3) = false := by simpa using h1
      clear hg
      go_enter Tryz.func30, Tryz.ntmps30
      go_wp2_with fail
      go_ret
      exact ⟨ret_bool HM.out.symm, hB _⟩
end Go.Proofs.YtefpfedpgedloaaGreatDoor
