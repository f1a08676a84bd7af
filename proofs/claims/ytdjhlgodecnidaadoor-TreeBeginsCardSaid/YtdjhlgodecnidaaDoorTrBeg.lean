/- tree.Cross, Begins: where a bridge leads; whether a log is the beginning of another one. -/
import Derived.Test.YtdjhlgodecnidaaDoorTrCross
namespace Go.Proofs.YtdjhlgodecnidaaDoor
open Go.RowKit
open Tr

set_option maxRecDepth 100000 in
set_option maxHeartbeats 4000000 in
theorem bigCross_any (m n : Nat) (hmn : m ≤ n) (hn : n ≤ 4096) (old : ByteArray) (hold : old.size ≤ 100000) (br : List ByteArray) (hbr : br.length ≤ 1000000) (b0 : Option Addr) (cap : Nat) (hcap : br.length ≤ cap) (hmax : cap ≤ maxLen) (w : World) (hG : Glob w) (hZ : TabZ w) (hT : TextsAt w b0 br) :
    Calls Tryd.prog 37 #[.int .i64 m, .int .i64 n, .string old, .slice b0 br.length cap] w fun e w' => ∃ a c, e = .returned (.tuple #[.string (crossA m n old br).1, .slice a (crossA m n old br).2.1.length c, .int .i64 (crossA m n old br).2.2]) ∧ OwnT w.heap.size w' a c (crossA m n old br).2.1 ∧ Below w.heap.size w w' := by
  have g1 : ¬ ((m : Int) < 0) := by omega
  have g2 : ¬ ((n : Int) < (m : Int)) := by omega
  have g3 : ¬ ((4096 : Int) < (n : Int)) := by omega
  have cf := containsFunc_any br b0 cap w hT (by unfold maxLen; omega)
  have cc := fun (h : 1 ≤ m ∧ m < n) (hDg : Digs br) => cross_any m n h.1 h.2 hn old hold br hbr hDg b0 cap hcap hmax w hG hZ hT
  have cr := fun W (h : Below w.heap.size w W) => root_any 0 [] rfl (by decide) (fun x hx => by cases hx) none 0 W (hG.below h) (fun j hj => by cases hj) (Nat.le_refl _) (by unfold maxLen; decide)
  obtain ⟨Z, hZZ⟩ : ∃ Z, Z = crossA m n old br := ⟨_, rfl⟩
  rw [← hZZ]
  unfold crossA at hZZ
  obtain ⟨B, hB⟩ : ∃ B, B = badB br := ⟨_, rfl⟩
  rw [← hB] at cf hZZ
  have hBD : B = false → Digs br := fun e => badB_false.1 (hB.symm.trans e)
  obtain ⟨N, hN⟩ : ∃ N, N = br.length := ⟨_, rfl⟩
  rw [← hN] at cf cc ⊢
  have hnil : br = [] ↔ N = 0 := by rw [hN]; exact List.length_eq_zero_iff.symm
  obtain ⟨RN, hRN⟩ : ∃ R, R = root [] := ⟨_, rfl⟩
  rw [← hRN] at cr hZZ
  simp only [List.length_nil] at cr
  have hro : (old.toList == RN.toList) = decide (old = RN) := twin_beq old RN
  have cl := fun W => clone_any old W (by omega)
  by_cases h32 : old.size = 32
  rotate_left
  · have n1 : ((old.size : Int) != 32) = true := by simp; omega
    have hZ2 := Lib.hid (show Z = (⟨#[]⟩, [], 1) from by rw [hZZ, if_neg (fun e => h32 e.1)])
    clear h32 cf cc cr hZZ hB hBD hN hnil hRN hro cl hG hZ hT hcap hmax hbr hold hmn hn
    go_enter Tryd.func37, Tryd.ntmps37
    go_wp2_with fail
    refine (noDigest_any old _).mono ?_
    rintro e w1 ⟨rfl, rfl⟩
    rw [n1]
    go_wp2_with fail
    go_ret3
    exact ⟨none, 0, by rw [hZ2.out]; rfl, by rw [hZ2.out]; exact OwnT.nil _ _, Below.refl _ _⟩
  have n1 : ((old.size : Int) != 32) = false := by simp; omega
  cases B with
  | true =>
    have hZ2 := Lib.hid (show Z = (⟨#[]⟩, [], 1) from by rw [hZZ, if_neg (fun e => by cases e.2)])
    have H := Lib.hid cf
    clear h32 cf cc cr hZZ hB hBD hN hnil hRN hro cl hG hZ hT hcap hmax hbr hold hmn hn
    go_enter Tryd.func37, Tryd.ntmps37
    go_wp2_with fail
    refine (noDigest_any old _).mono ?_
    rintro e w1 ⟨rfl, rfl⟩
    rw [n1]
    go_wp2_with fail
    refine H.out.mono ?_
    rintro e w2 ⟨rfl, rfl⟩
    go_wp2_with fail
    go_ret3
    exact ⟨none, 0, by rw [hZ2.out]; rfl, by rw [hZ2.out]; exact OwnT.nil _ _, Below.refl _ _⟩
  | false =>
    rw [if_pos ⟨h32, rfl⟩] at hZZ
    have hDg := hBD rfl
    by_cases hc : 1 ≤ m ∧ m < n
    · rw [if_pos hc] at hZZ
      have f1 : (0 : Int) < (m : Int) := by omega
      have f1' : 0 < m := by omega
      have f2 : (m : Int) < (n : Int) := by omega
      have hZ2 := Lib.hid (show Z = crE (crossP (od m) ((n - 1) / 2 ^ lv m) old br) from hZZ)
      have H := Lib.hid (And.intro cf (cc hc hDg))
      clear h32 cf cc cr hZZ hB hBD hN hnil hRN hro cl hG hZ hT hcap hmax hbr hold hmn hn hDg hc
      go_enter Tryd.func37, Tryd.ntmps37
      go_wp2_with fail
      refine (noDigest_any old _).mono ?_
      rintro e w1 ⟨rfl, hw1⟩
      rw [hw1]
      clear hw1 w1
      rw [n1]
      go_wp2_with fail
      refine H.out.1.mono ?_
      rintro e w2 ⟨rfl, hw1⟩
      rw [hw1]
      clear hw1 w2
      go_wp2_with fail
      refine H.out.2.mono ?_
      rintro e w3 ⟨a, c, rfl, hO, hb⟩
      have HB := Lib.hid (And.intro hO hb)
      clear hO hb
      go_wp2_with fail
      go_ret3
      exact ⟨a, c, by rw [hZ2.out]; rfl, by rw [hZ2.out]; exact HB.out.1, HB.out.2⟩
    · rw [if_neg hc] at hZZ
      have f0 : ¬ ((0 : Int) < (m : Int)) ∨ ¬ ((m : Int) < (n : Int)) := by omega
      by_cases hN0 : N = 0
      rotate_left
      · have f3 : (0 : Int) < (N : Int) := by omega
        have f3' : 0 < N := by omega
        have hZ2 := Lib.hid (show Z = (⟨#[]⟩, [], 12) from by rw [hZZ, if_pos (Or.inl (fun e => hN0 (hnil.1 e)))])
        have H := Lib.hid cf
        by_cases hm0 : 0 < m
        · have f1 : (0 : Int) < (m : Int) := by omega
          have f2 : ¬ ((m : Int) < (n : Int)) := by omega
          clear h32 cf cc cr hZZ hB hBD hN hnil hRN hro cl hG hZ hT hcap hmax hbr hold hmn hn hDg hc f0
          go_enter Tryd.func37, Tryd.ntmps37
          go_wp2_with fail
          refine (noDigest_any old _).mono ?_
          rintro e w1 ⟨rfl, rfl⟩
          rw [n1]
          go_wp2_with fail
          refine H.out.mono ?_
          rintro e w2 ⟨rfl, rfl⟩
          go_wp2_with fail
          go_ret3
          exact ⟨none, 0, by rw [hZ2.out]; rfl, by rw [hZ2.out]; exact OwnT.nil _ _, Below.refl _ _⟩
        · have f1 : ¬ ((0 : Int) < (m : Int)) := by omega
          clear h32 cf cc cr hZZ hB hBD hN hnil hRN hro cl hG hZ hT hcap hmax hbr hold hmn hn hDg hc f0
          go_enter Tryd.func37, Tryd.ntmps37
          go_wp2_with fail
          refine (noDigest_any old _).mono ?_
          rintro e w1 ⟨rfl, rfl⟩
          rw [n1]
          go_wp2_with fail
          refine H.out.mono ?_
          rintro e w2 ⟨rfl, rfl⟩
          go_wp2_with fail
          go_ret3
          exact ⟨none, 0, by rw [hZ2.out]; rfl, by rw [hZ2.out]; exact OwnT.nil _ _, Below.refl _ _⟩
      · have f3 : ¬ ((0 : Int) < (N : Int)) := by omega
        have f3' : ¬ (0 < N) := by omega
        by_cases hm0 : m = 0
        · subst hm0
          by_cases hor : old = RN
          · have hZ2 := Lib.hid (show Z = (⟨#[]⟩, [], 0) from by rw [hZZ, if_neg (fun h => by
              rcases h with h | h
              · exact h (hnil.2 hN0)
              · exact h.2 hor), if_pos rfl])
            rw [decide_eq_true hor] at hro
            have H := Lib.hid (And.intro cf cr)
            clear h32 cf cc cr hZZ hB hBD hN hnil hRN cl hG hZ hT hcap hmax hbr hold hmn hn hDg hc f0 hN0
            subst hor
            go_enter Tryd.func37, Tryd.ntmps37
            go_wp2_with fail
            refine (noDigest_any old _).mono ?_
            rintro e w1 ⟨rfl, hw1⟩
            rw [hw1]
            clear hw1 w1
            rw [n1]
            go_wp2_with fail
            refine H.out.1.mono ?_
            rintro e w2 ⟨rfl, hw1⟩
            rw [hw1]
            clear hw1 w2
            go_wp2_with fail
            refine (H.out.2 _ (Below.refl _ _)).mono ?_
            rintro e w3 ⟨rfl, hb⟩
            have HB := Lib.hid hb
            clear hb
            go_wp2_with fail
            go_ret3
            exact ⟨none, 0, by rw [hZ2.out]; rfl, by rw [hZ2.out]; exact OwnT.nil _ _, HB.out⟩
          · have hZ2 := Lib.hid (show Z = (⟨#[]⟩, [], 12) from by rw [hZZ, if_pos (Or.inr ⟨rfl, hor⟩)])
            rw [decide_eq_false hor] at hro
            have H := Lib.hid (And.intro cf cr)
            clear h32 cf cc cr hZZ hB hBD hN hnil hRN cl hG hZ hT hcap hmax hbr hold hmn hn hDg hc f0 hN0
            go_enter Tryd.func37, Tryd.ntmps37
            go_wp2_with fail
            refine (noDigest_any old _).mono ?_
            rintro e w1 ⟨rfl, hw1⟩
            rw [hw1]
            clear hw1 w1
            rw [n1]
            go_wp2_with fail
            refine H.out.1.mono ?_
            rintro e w2 ⟨rfl, hw1⟩
            rw [hw1]
            clear hw1 w2
            go_wp2_with fail
            refine (H.out.2 _ (Below.refl _ _)).mono ?_
            rintro e w3 ⟨rfl, hb⟩
            have HB := Lib.hid hb
            clear hb
            go_wp2_with fail
            go_ret3
            exact ⟨none, 0, by rw [hZ2.out]; rfl, by rw [hZ2.out]; exact OwnT.nil _ _, HB.out⟩
        · have f1 : (0 : Int) < (m : Int) := by omega
          have f1' : 0 < m := by omega
          have f2 : ¬ ((m : Int) < (n : Int)) := by omega
          have f4 : ((m : Int) == 0) = false := by simp; omega
          have hZ2 := Lib.hid (show Z = (old, [], 0) from by rw [hZZ, if_neg (fun h => by
              rcases h with h | h
              · exact h (hnil.2 hN0)
              · exact hm0 h.1), if_neg hm0])
          have H := Lib.hid (And.intro cf cl)
          clear h32 cf cc cr hZZ hB hBD hN hnil hRN cl hro hG hZ hT hcap hmax hbr hold hmn hn hDg hc f0 hN0
          go_enter Tryd.func37, Tryd.ntmps37
          go_wp2_with fail
          refine (noDigest_any old _).mono ?_
          rintro e w1 ⟨rfl, hw1⟩
          rw [hw1]
          clear hw1 w1
          rw [n1]
          go_wp2_with fail
          refine H.out.1.mono ?_
          rintro e w2 ⟨rfl, hw1⟩
          rw [hw1]
          clear hw1 w2
          go_wp2_with fail
          refine (H.out.2 _).mono ?_
          rintro e w3 ⟨rfl, hb⟩
          have HB := Lib.hid hb
          clear hb
          go_wp2_with fail
          go_ret3
          exact ⟨none, 0, by rw [hZ2.out]; rfl, by rw [hZ2.out]; exact OwnT.nil _ _, HB.out⟩
set_option maxRecDepth 100000 in
set_option maxHeartbeats 2000000 in
theorem begins_any (r : ByteArray) (m n : Nat) (hmn : m ≤ n) (hn : n ≤ 4096) (old : ByteArray) (hold : old.size ≤ 100000) (br : List ByteArray) (hbr : br.length ≤ 1000000) (b0 : Option Addr) (cap : Nat) (hcap : br.length ≤ cap) (hmax : cap ≤ maxLen) (w : World) (hG : Glob w) (hZ : TabZ w) (hT : TextsAt w b0 br) :
    Calls Tryd.prog 31 #[.string old, .int .i64 m, .string r, .int .i64 n, .slice b0 br.length cap] w fun e w' => e = .returned (.bool (beginsB old m r n br)) ∧ Below w.heap.size w w' := by
  have cl := bigCross_any m n hmn hn old hold br hbr b0 cap hcap hmax w hG hZ hT
  unfold beginsB
  obtain ⟨Z, hZ1⟩ : ∃ Z, Z = crossA m n old br := ⟨_, rfl⟩
  rw [← hZ1] at cl ⊢
  obtain ⟨R, T, E⟩ := Z
  simp only at cl ⊢
  have hRr : (R.toList == r.toList) = decide (R = r) := twin_beq R r
  obtain ⟨B, hB⟩ : ∃ B, B = decide (R = r) := ⟨_, rfl⟩
  rw [← hB] at hRr ⊢
  obtain ⟨N, hN⟩ : ∃ m, m = br.length := ⟨_, rfl⟩
  rw [← hN] at cl ⊢
  have H := Lib.hid cl
  clear cl hZ1 hB hN hT hG hZ hbr hcap hmax hold hn hmn
  by_cases hE : E = 0
  · subst hE
    rw [decide_eq_true rfl, Bool.true_and]
    by_cases hm0 : m = 0
    · subst hm0
      rw [decide_eq_true rfl, Bool.true_or]
      go_enter Tryd.func31, Tryd.ntmps31
      go_wp2_with fail
      refine H.out.mono ?_
      rintro e w1 ⟨a, c, rfl, -, hb⟩
      have HB := Lib.hid hb
      clear hb
      go_wp2_with fail
      go_ret
      exact ⟨rfl, HB.out⟩
    · rw [decide_eq_false hm0, Bool.false_or]
      have f4 : ((m : Int) == 0) = false := by simp; omega
      clear hm0
      go_enter Tryd.func31, Tryd.ntmps31
      go_wp2_with fail
      refine H.out.mono ?_
      rintro e w1 ⟨a, c, rfl, -, hb⟩
      have HB := Lib.hid hb
      clear hb
      go_wp2_with fail
      go_ret
      exact ⟨rfl, HB.out⟩
  · rw [decide_eq_false hE, Bool.false_and]
    have hE2 : (E == 0) = false := by simp [hE]
    have HE := Lib.hid hE
    clear hE
    go_enter Tryd.func31, Tryd.ntmps31
    go_wp2_with fail
    refine H.out.mono ?_
    rintro e w1 ⟨a, c, rfl, -, hb⟩
    have HB := Lib.hid hb
    clear hb
    go_wp2_with fail
    go_ret
    exact ⟨rfl, HB.out⟩
end Go.Proofs.YtdjhlgodecnidaaDoor
