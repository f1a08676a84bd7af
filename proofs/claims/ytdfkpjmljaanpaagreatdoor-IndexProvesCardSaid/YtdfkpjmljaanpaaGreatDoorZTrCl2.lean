/- TrCl2, what is wanted of it. -/
import Derived.Test.YtdfkpjmljaanpaaGreatDoorZTrCl
namespace Go.Proofs.YtdfkpjmljaanpaaGreatDoor
open Go.RowKit
open Tr
/-- Has one not 32 bytes? -/
def badB (ss : List ByteArray) : Bool := ss.any fun x => decide (x.size ≠ 32)
theorem badB_false {ss : List ByteArray} : badB ss = false ↔ Digs ss := by
  unfold badB Digs
  rw [List.any_eq_false]
  constructor
  · intro h x hx
    have := h x hx
    simpa using this
  · intro h x hx
    have := h x hx
    simpa using this
set_option maxRecDepth 100000 in
theorem noDigest_any (s : ByteArray) (w : World) : Calls Tryz.prog 204 #[.string s] w fun e w' => e = .returned (.bool ((s.size : Int) != 32)) ∧ w' = w := by
  go_enter Tryz.func204, Tryz.ntmps204
  go_wp2_with fail
  go_ret
  exact ⟨rfl, rfl⟩
set_option maxRecDepth 100000 in
set_option maxHeartbeats 1000000 in
theorem indexFunc_any (ss : List ByteArray) (a0 : Option Addr) (cap : Nat) (w : World) (hT : TextsAt w a0 ss) (hm : ss.length ≤ maxLen) :
    Calls Tryz.prog 222 #[.slice a0 ss.length cap, .func (Fn.func 204) #[] #[]] w fun e w' => ∃ k : Int, e = .returned (.int .i64 k) ∧ decide (0 ≤ k) = badB ss ∧ w' = w := by
  unfold maxLen at hm
  obtain ⟨n, hn⟩ : ∃ n, n = ss.length := ⟨_, rfl⟩
  have HT := Lib.hid (And.intro hT hn)
  rw [← hn] at hm ⊢
  clear hT hn
  go_enter Tryz.func222, Tryz.ntmps222
  go_wp2_with fail
  go_loopw [5, 8] (fun _ c wr => ∃ i : Nat, i ≤ n ∧ c = .int .i64 i ∧ wr = w ∧ ∀ j, j < i → (ss.getD j ByteArray.empty).size = 32) (fun _ c _ => n - (intOf c).toNat)
  case atStart => exact ⟨0, by omega, rfl, rfl, fun j hj => absurd hj (by omega)⟩
  case round =>
    obtain ⟨i, hi, rfl, rfl, hall⟩ := hrel
    have HA := Lib.hid hall
    clear hall
    by_cases hlt : i < n
    · obtain ⟨b, off, rfl, _, hc⟩ := HT.out.1 i (by have := HT.out.2; omega)
      obtain ⟨x, hx⟩ : ∃ x, x = ss.getD i ByteArray.empty := ⟨_, rfl⟩
      rw [← hx] at hc
      have HX := Lib.hid hx
      clear hx
      by_cases h32 : x.size = 32
      · have e1 : ((x.size : Int) != 32) = false := by simp; omega
        have H32 := Lib.hid h32
        clear h32
        go_wp2_with fail
        refine (noDigest_any x _).mono ?_
        rintro e w1 ⟨rfl, rfl⟩
        rw [e1]
        go_wp2_with fail
        go_roundw
        case rel =>
          refine ⟨i + 1, by omega, by go_num, trivial, fun j hj => ?_⟩
          by_cases e : j = i
          · rw [e, ← HX.out]; exact H32.out
          · exact HA.out j (by omega)
        case measure => simp [intOf]; omega
      · have e1 : ((x.size : Int) != 32) = true := by simp; omega
        have H32 := Lib.hid h32
        clear h32
        go_wp2_with fail
        refine (noDigest_any x _).mono ?_
        rintro e w1 ⟨rfl, rfl⟩
        rw [e1]
        go_wp2_with fail
        go_ret
        refine ⟨(i : Int), rfl, ?_, rfl⟩
        rw [decide_eq_true (by omega)]
        symm
        cases hbb : badB ss with
        | true => rfl
        | false =>
          have hlen := HT.out.2
          have h1 := badB_false.1 hbb x (by
            rw [HX.out, List.getD_eq_getElem?_getD, List.getElem?_eq_getElem (by omega)]
            exact List.getElem_mem _)
          exact absurd h1 H32.out
    · obtain rfl : i = n := by omega
      go_wp2_with fail
      go_ret
      refine ⟨-1, rfl, ?_, rfl⟩
      rw [decide_eq_false (by omega)]
      symm
      refine badB_false.2 fun x hx => ?_
      obtain ⟨j, hj, rfl⟩ := List.mem_iff_getElem.1 hx
      have := HA.out j (by have := HT.out.2; omega)
      rwa [List.getD_eq_getElem?_getD, List.getElem?_eq_getElem hj] at this
set_option maxRecDepth 100000 in
set_option maxHeartbeats 1000000 in
theorem containsFunc_any (ss : List ByteArray) (a0 : Option Addr) (cap : Nat) (w : World) (hT : TextsAt w a0 ss) (hm : ss.length ≤ maxLen) :
    Calls Tryz.prog 205 #[.slice a0 ss.length cap, .func (Fn.func 204) #[] #[]] w fun e w' => e = .returned (.bool (badB ss)) ∧ w' = w := by
  have h := indexFunc_any ss a0 cap w hT hm
  obtain ⟨n, hn⟩ : ∃ n, n = ss.length := ⟨_, rfl⟩
  rw [← hn] at h ⊢
  obtain ⟨B, hB⟩ : ∃ B, B = badB ss := ⟨_, rfl⟩
  rw [← hB] at h ⊢
  have H := Lib.hid h
  clear h hT hm hn hB
  go_enter Tryz.func205, Tryz.ntmps205
  go_wp2_with fail
  refine H.out.mono ?_
  rintro e w1 ⟨k, rfl, hk, rfl⟩
  cases B with
  | true =>
    have hk2 : 0 ≤ k := by simpa using hk
    go_wp2_with fail
    go_ret
    exact ⟨rfl, rfl⟩
  | false =>
    have hk2 : ¬ (0 ≤ k) := by simpa using hk
    go_wp2_with fail
    go_ret
    exact ⟨rfl, rfl⟩
theorem climb_size : ∀ (i p : Nat) (d : ByteArray) (ws : List ByteArray) (x : ByteArray × List ByteArray × List ByteArray), climb i p d ws = some x → x.1.size ≤ d.size + 32 := by
  intro i p
  induction p using Nat.strongRecOn generalizing i with
  | ind p ih =>
    intro d ws x hc
    by_cases h0 : p = 0
    · subst h0
      rw [climb_zero] at hc
      by_cases hwn : ws = []
      · rw [if_pos hwn] at hc
        injection hc with hc
        subst hc
        exact Nat.le_add_right _ _
      · rw [if_neg hwn] at hc; cases hc
    · rw [climb_step _ _ h0] at hc
      by_cases hal : i = p ∧ i % 2 = 0
      · rw [if_pos hal] at hc; exact ih _ (by omega) _ _ _ _ hc
      · rw [if_neg hal] at hc
        cases ws with
        | nil => cases hc
        | cons y r =>
          simp only at hc
          have key2 : ∀ (p i : Nat) (r : List ByteArray) (z : ByteArray × List ByteArray × List ByteArray) (t : ByteArray), climb i p (sumE t) r = some z → z.1.size = 32 := by
            intro p
            induction p using Nat.strongRecOn with
            | ind p ih2 =>
              intro i r z t h
              by_cases h0 : p = 0
              · subst h0
                rw [climb_zero] at h
                by_cases hwn : r = []
                · rw [if_pos hwn] at h
                  injection h with h
                  subst h
                  exact sumE_size t
                · rw [if_neg hwn] at h; cases h
              · rw [climb_step _ _ h0] at h
                by_cases hal : i = p ∧ i % 2 = 0
                · rw [if_pos hal] at h; exact ih2 _ (by omega) _ _ _ _ h
                · rw [if_neg hal] at h
                  cases r with
                  | nil => cases h
                  | cons y r =>
                    simp only at h
                    split at h
                    · cases hcc : climb (i / 2) (p / 2) (node (sumE t) y) r with
                      | none => rw [hcc] at h; cases h
                      | some q =>
                        rw [hcc] at h
                        simp only [Option.map_some, Option.some.injEq] at h
                        subst h
                        exact ih2 _ (by omega) _ _ q _ hcc
                    · cases hcc : climb (i / 2) (p / 2) (node y (sumE t)) r with
                      | none => rw [hcc] at h; cases h
                      | some q =>
                        rw [hcc] at h
                        simp only [Option.map_some, Option.some.injEq] at h
                        subst h
                        exact ih2 _ (by omega) _ _ q _ hcc
          split at hc
          · cases hcc : climb (i / 2) (p / 2) (node d y) r with
            | none => rw [hcc] at hc; cases hc
            | some q =>
              rw [hcc] at hc
              simp only [Option.map_some, Option.some.injEq] at hc
              subst hc
              have := key2 _ _ _ _ _ hcc
              simp only; omega
          · cases hcc : climb (i / 2) (p / 2) (node y d) r with
            | none => rw [hcc] at hc; cases hc
            | some q =>
              rw [hcc] at hc
              simp only [Option.map_some, Option.some.injEq] at hc
              subst hc
              have := key2 _ _ _ _ _ hcc
              simp only; omega
theorem lt_obj {w : World} {g : Nat} {o : Obj} (h : w.heap[g]? = some o) : g < w.heap.size := (Array.getElem?_eq_some_iff.1 h).1
/-- What Climb answers: the root, the texts, the error. -/
def clE : Option (ByteArray × List ByteArray × List ByteArray) → ByteArray × List ByteArray × Int
  | some x => (x.1, x.2.1, 0)
  | none => (⟨#[]⟩, [], 12)
def climbA (n i : Nat) (d : ByteArray) (ws : List ByteArray) : ByteArray × List ByteArray × Int :=
  if d.size = 32 ∧ badB ws = false then clE (climb i (n - 1) d ws) else (⟨#[]⟩, [], 1)
set_option maxRecDepth 100000 in
set_option maxHeartbeats 2000000 in
theorem bigClimb_any (n i : Nat) (hn1 : 1 ≤ n) (hn2 : n ≤ 4096) (hi : i < n) (d : ByteArray) (hd : d.size ≤ 100000) (ws : List ByteArray) (hws : ws.length ≤ 1000000) (b0 : Option Addr) (cap : Nat) (hcap : ws.length ≤ cap) (hmax : cap ≤ maxLen) (w : World) (hG : Glob w) (hT : TextsAt w b0 ws) :
    Calls Tryz.prog 163 #[.int .i64 n, .int .i64 i, .string d, .slice b0 ws.length cap] w fun e w' => ∃ a c, e = .returned (.tuple #[.string (climbA n i d ws).1, .slice a (climbA n i d ws).2.1.length c, .int .i64 (climbA n i d ws).2.2]) ∧ OwnT w.heap.size w' a c (climbA n i d ws).2.1 ∧ Below w.heap.size w w' := by
  have h1 : ¬ ((n : Int) < 1) := by omega
  have h2 : ¬ ((4096 : Int) < n) := by omega
  have h3 : ¬ ((n : Int) ≤ (i : Int)) := by omega
  have h4 : ¬ ((i : Int) < 0) := by omega
  obtain ⟨Z, hZ⟩ : ∃ Z, Z = climbA n i d ws := ⟨_, rfl⟩
  rw [← hZ]
  unfold climbA at hZ
  have cf := containsFunc_any ws b0 cap w hT (by unfold maxLen; omega)
  obtain ⟨B, hB⟩ : ∃ B, B = badB ws := ⟨_, rfl⟩
  rw [← hB] at cf hZ
  obtain ⟨p, hp⟩ : ∃ p, p = n - 1 := ⟨_, rfl⟩
  have cl := fun (hDg : Digs ws) => climb_any i p (by omega) (by omega) d hd ws hws hDg b0 cap hcap hmax w hG hT
  rw [← hp] at hZ
  have hBD : B = false → Digs ws := fun e => badB_false.1 (hB.symm.trans e)
  obtain ⟨G, hGG⟩ : ∃ G, G = climb i p d ws := ⟨_, rfl⟩
  rw [← hGG] at cl hZ
  have e1 : IntKind.i64.wrap ((n : Int) - 1) = (p : Int) := by rw [show (n : Int) - 1 = (p : Int) by omega]; exact IntWalk.i64_in _ (by omega)
  have e2 : (n : Int) - 1 = (p : Int) := by omega
  obtain ⟨m, hm⟩ : ∃ m, m = ws.length := ⟨_, rfl⟩
  rw [← hm] at cf cl ⊢
  have H := Lib.hid (And.intro cf (And.intro cl (And.intro hZ hBD)))
  have HGG := Lib.hid hGG
  have Hd := Lib.hid hd
  clear cf cl hZ hBD hB hp hGG hm hT hws hcap hmax hn1 hn2 hi
  by_cases h32 : d.size = 32
  rotate_left
  · have n1 : ((d.size : Int) != 32) = true := by simp; omega
    have hZ2 := Lib.hid (show Z = (⟨#[]⟩, [], 1) from by rw [H.out.2.2.1, if_neg (fun e => h32 e.1)])
    clear h32 e1
    go_enter Tryz.func163, Tryz.ntmps163
    go_wp2_with fail
    refine (noDigest_any d _).mono ?_
    rintro e w1 ⟨rfl, rfl⟩
    rw [n1]
    go_wp2_with fail
    go_ret3
    exact ⟨none, 0, by rw [hZ2.out]; rfl, by rw [hZ2.out]; exact OwnT.nil _ _, Below.refl _ _⟩
  have n1 : ((d.size : Int) != 32) = false := by simp; omega
  have H32 := Lib.hid h32
  clear h32
  cases B with
  | true =>
    have hZ2 := Lib.hid (show Z = (⟨#[]⟩, [], 1) from by rw [H.out.2.2.1, if_neg (fun e => by cases e.2)])
    clear e1
    go_enter Tryz.func163, Tryz.ntmps163
    go_wp2_with fail
    refine (noDigest_any d _).mono ?_
    rintro e w1 ⟨rfl, rfl⟩
    rw [n1]
    go_wp2_with fail
    refine H.out.1.mono ?_
    rintro e w2 ⟨rfl, rfl⟩
    go_wp2_with fail
    go_ret3
    exact ⟨none, 0, by rw [hZ2.out]; rfl, by rw [hZ2.out]; exact OwnT.nil _ _, Below.refl _ _⟩
  | false =>
    have hDg : Digs ws := H.out.2.2.2 rfl
    have HC := Lib.hid (H.out.2.1 hDg)
    have hZ1 : Z = clE G := by rw [H.out.2.2.1, if_pos ⟨H32.out, rfl⟩]
    have HZ1 := Lib.hid hZ1
    clear hZ1 hDg
    go_enter Tryz.func163, Tryz.ntmps163
    go_wp2_with fail
    refine (noDigest_any d _).mono ?_
    rintro e w1 ⟨rfl, rfl⟩
    rw [n1]
    go_wp2_with fail
    refine H.out.1.mono ?_
    rintro e w2 ⟨rfl, rfl⟩
    go_wp2_with fail
    refine HC.out.mono ?_
    rintro e w3 ⟨hb, r, ta, tn, tc, la, ln, lc, rfl, hx⟩
    obtain ⟨w4, hw4⟩ : ∃ w4, w4 = w3.alloc (.cells #[.string r, .slice ta tn tc, .slice la ln lc] 290) := ⟨_, rfl⟩
    have hb4 : Below w3.heap.size w3 w4 := by rw [hw4]; exact (Below.refl _ _).alloc (Nat.le_refl _) _
    have hg4 : w4.heap[w3.heap.size]? = some (.cells #[.string r, .slice ta tn tc, .slice la ln lc] 290 (0, 0)) := by rw [hw4]; exact heap_alloc_new _ _
    have B4 := hb.trans (hb4.mono hb.size)
    cases G with
    | none =>
      have HD := Lib.hid B4
      clear hb hx hb4 hg4 B4
      go_upto_region 4 with fail
      rw [← hw4]
      clear hw4
      go_wp2_with fail
      go_ret3
      exact ⟨none, 0, by rw [HZ1.out]; rfl, by rw [HZ1.out]; exact OwnT.nil _ _, HD.out⟩
    | some x =>
      obtain ⟨rfl, rfl, rfl, hO, hP⟩ := hx x rfl
      obtain ⟨x1, xT, xL⟩ := x
      simp only at hO hP hg4 hw4 ⊢
      obtain ⟨tn, htn⟩ : ∃ t, t = xT.length := ⟨_, rfl⟩
      obtain ⟨ln, hln⟩ : ∃ t, t = xL.length := ⟨_, rfl⟩
      have hx1 : x1.size ≤ 281474976710656 := by
        have h := climb_size i p d ws _ HGG.out.symm
        have hd2 := Hd.out
        simp only at h; omega
      have HX := Lib.hid hx1
      clear hx1
      rw [← htn, ← hln] at hg4 hw4 ⊢
      obtain ⟨q0, q1, q2, qf⟩ := jrow3 hg4
      have HD := Lib.hid (And.intro B4 (And.intro (OwnT.call hO hb4) (And.intro htn hg4)))
      clear hb hx hb4 hg4 B4 hO hP htn hln
      go_upto_region 6 with fail
      rw [← hw4]
      clear hw4
      clear q0 q1 q2 qf
      have E0 := (show w4.drew.heap[w3.heap.size]? = some (.cells #[.string x1, .slice ta tn tc, .slice la ln lc] 290 (0, 0)) from HD.out.2.2.2)
      have F0 := HD.out.1.drew
      go_wp2_with fail
      refine wp_region_held (S := fun W => W.heap[w3.heap.size]? = some (.cells #[.string x1, .slice ta tn tc, .slice la ln lc] 290 (0, 0))) (by kernel_rfl) ?_
      change wpAnyH _ _ _ _ _ _ _ _ (World.drew _)
      have hOd := OwnT.drew HD.out.2.1
      generalize World.drew _ = v0 at *
      refine wpAnyH_take (i := 0) (v := ?_) rfl (by kernel_rfl) (by kernel_rfl) (by kernel_rfl) (fun _ _ _ h => h) (Or.inl ⟨by kernel_rfl, ?_⟩) E0 ?_
      rotate_left
      · (intro W hS; clear hS; go_simp; try (with_reducible rfl))
      refine wpAnyH_take (i := 1) (v := ?_) rfl (by kernel_rfl) (by kernel_rfl) (by kernel_rfl) (fun _ _ _ h => h) (Or.inl ⟨by kernel_rfl, ?_⟩) E0 ?_
      rotate_left
      · (intro W hS; obtain ⟨q0, q1, q2, qf⟩ := jrow3 hS; clear hS; go_simp; try (with_reducible rfl))
      refine wpAnyH_take (i := 3) (v := ?_) rfl (by kernel_rfl) (by kernel_rfl) (by kernel_rfl) (fun _ _ _ h => h) (Or.inl ⟨by kernel_rfl, ?_⟩) E0 ?_
      rotate_left
      · (intro W hS; clear hS; go_simp; try (with_reducible rfl))
      refine wpAnyH_take (i := 4) (v := ?_) rfl (by kernel_rfl) (by kernel_rfl) (by kernel_rfl) (fun _ _ _ h => h) (Or.inl ⟨by kernel_rfl, ?_⟩) E0 ?_
      rotate_left
      · (intro W hS; obtain ⟨q0, q1, q2, qf⟩ := jrow3 hS; clear hS; go_simp; try (with_reducible rfl))
      refine wpAnyH_ready (rs := [2]) (by kernel_rfl) (by simp) ?_
      refine AllReadyH.cons rfl (fun K hK => ?_) AllReadyH.nil
      go_simp
      refine (clone_any x1 v0 HX.out).mono ?_
      rintro e v1 ⟨rfl, hb⟩
      have hbb := hb
      have F1 := F0.trans (hb.mono F0.size)
      have E1 : v1.heap[w3.heap.size]? = some (.cells #[.string x1, .slice ta tn tc, .slice la ln lc] 290 (0, 0)) := (hb.block _ (lt_obj E0)).trans E0
      refine hK.out _ _ E1 (fun _ => ?_)
      clear hK K hb
      refine wpAnyH_take (i := 5) (v := ?_) rfl (by kernel_rfl) (by kernel_rfl) (by kernel_rfl) (fun _ _ _ h => h) (Or.inl ⟨by kernel_rfl, ?_⟩) E1 ?_
      rotate_left
      · (intro W hS; clear hS; go_simp; try (with_reducible rfl))
      refine wpAnyH_take (i := 6) (v := ?_) rfl (by kernel_rfl) (by kernel_rfl) (by kernel_rfl) (fun _ _ _ h => h) (Or.inl ⟨by kernel_rfl, ?_⟩) E1 ?_
      rotate_left
      · (intro W hS; clear hS; go_simp; try (with_reducible rfl))
      refine wpAnyH_take (i := 7) (v := ?_) rfl (by kernel_rfl) (by kernel_rfl) (by kernel_rfl) (fun _ _ _ h => h) (Or.inl ⟨by kernel_rfl, ?_⟩) E1 ?_
      rotate_left
      · (intro W hS; clear hS; go_simp; try (with_reducible rfl))
      refine wpAnyH_done (by kernel_rfl) ?_ _
      go_simp
      have HF := Lib.hid (And.intro F1 (OwnT.call hOd hbb))
      clear E0 F0 E1 F1
      go_wp2_with fail
      go_ret3
      exact ⟨ta, tc, by rw [HZ1.out, HD.out.2.2.1]; rfl, by rw [HZ1.out]; exact HF.out.2, HF.out.1⟩
end Go.Proofs.YtdfkpjmljaanpaaGreatDoor
