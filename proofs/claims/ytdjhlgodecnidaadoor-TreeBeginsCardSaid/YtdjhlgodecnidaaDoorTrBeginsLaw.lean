/- PROVED HERE: for every list of leaves, every number and every bridge the law TreeBegins returns true (what begins a log is the root of its first leaves, or two unlike texts of one digest are told). Its conditions: the package-level tables hold what their initialisers lay (tied to the program's text by the card). -/
import Derived.Test.YtdjhlgodecnidaaDoorTrBeg
import Derived.Test.YtdjhlgodecnidaaDoorOwnTG
import Derived.Test.YtdjhlgodecnidaaDoorLaidZ
namespace Go.Proofs.YtdjhlgodecnidaaDoor
open Go.RowKit
open Tr

theorem row4 {W : World} {g : Nat} {a b c d : Value} {t : TypeId} (h : W.heap[g]? = some (.cells #[a, b, c, d] t (0, 0))) :
    W.cell? ⟨g, 0, none⟩ = some a ∧ W.cell? ⟨g, 1, none⟩ = some b ∧ W.cell? ⟨g, 2, none⟩ = some c ∧ W.cell? ⟨g, 3, none⟩ = some d ∧ ∀ j, W.frozen? ⟨g, j, none⟩ = false := by
  refine ⟨?_, ?_, ?_, ?_, fun j => frozen_of_row _ _ _ _ _ h⟩ <;> (rw [cell_of_row _ _ _ _ _ _ h]; rfl)
set_option maxRecDepth 100000 in
set_option maxHeartbeats 8000000 in
theorem begins_law {w : World} (ss : List ByteArray) (a0 : Option Addr) (cap : Nat) (hT : TextsAt w a0 ss) (hm : ss.length ≤ maxLen) (i : Int) (_ : -9223372036854775808 ≤ i) (_ : i ≤ 9223372036854775807) (x : Clm) (hx : x.Ok w) (hG : Glob w ∧ TabZ w) :
    Calls Tryd.prog 8 #[.slice a0 ss.length cap, .int .i64 i, .agg x.cs] w fun e w' => e = .returned (.bool true) ∧ Below w.heap.size w w' := by
  have HG := Lib.hid hG.1
  have HZ := Lib.hid hG.2
  clear hG
  have hfx := fun W (h : Below w.heap.size w W) => fewC_any x W (hx.below h)
  by_cases hf : FewOf ss 40 100
  · have cd := fun W (h : Below w.heap.size w W) => digests_any ss a0 cap W (hT.below h) hm hf
    have hl : (ss.map leaf).length = ss.length := List.length_map ..
    have hD := digs_leaves ss
    have h40 : ss.length ≤ 40 := by have := hf.1; omega
    have hs : ∀ j, j < ss.length → (gt ss j).size ≤ 100 := fun j hj => by have := hf.2 j hj; unfold gt; omega
    by_cases hg : x.d.size ≤ 100 ∧ FewOf x.ws 30 100
    rotate_left
    · have hfb : (decide (x.d.size ≤ 100) && fewB x.ws 30 100) = false := by
        by_cases h1 : x.d.size ≤ 100
        · rw [fewB_false (fun h => hg ⟨h1, h⟩), Bool.and_false]
        · rw [decide_eq_false h1, Bool.false_and]
      rw [hfb] at hfx
      obtain ⟨N, I, d, ba, ws, bc⟩ := x
      unfold Clm.cs at hfx ⊢
      simp only at hfx ⊢
      obtain ⟨n, hn⟩ : ∃ n, n = ss.length := ⟨_, rfl⟩
      rw [← hn] at cd ⊢
      obtain ⟨m, hm'⟩ : ∃ m, m = ws.length := ⟨_, rfl⟩
      rw [← hm'] at hfx ⊢
      have H := Lib.hid (And.intro cd hfx)
      clear cd hfx hf hg hfb hl hD h40 hs hx hT hm hn hm'
      go_enter Tryd.func8, Tryd.ntmps8
      go_upto_region 1 with fail
      obtain ⟨wb, hwb⟩ : ∃ wb, wb = w.alloc (.cells #[.int .i64 N, .int .i64 I, .string d, .slice ba m bc] 47) := ⟨_, rfl⟩
      have BB := Lib.hid (show Below w.heap.size w wb ∧ wb.heap[w.heap.size]? = some (.cells #[.int .i64 N, .int .i64 I, .string d, .slice ba m bc] 47 (0, 0)) from by rw [hwb]; exact ⟨(Below.refl _ _).alloc (Nat.le_refl _) _, heap_alloc_new _ _⟩)
      rw [← hwb]
      clear hwb
      go_wp2_with fail
      refine (H.out.1 _ BB.out.1).mono ?_
      rintro e w0 ⟨a, c, rfl, -, hb0⟩
      have HA := Lib.hid (And.intro (BB.out.1.trans (hb0.mono BB.out.1.size)) ((hb0.block _ (lt_obj BB.out.2)).trans BB.out.2))
      clear hb0
      obtain ⟨q0, q1, q2, q3, qf⟩ := row4 HA.out.2
      go_wp2_with fail
      refine (H.out.2 _ HA.out.1).mono ?_
      rintro e w1 ⟨rfl, hb⟩
      have HB := Lib.hid (HA.out.1.trans (hb.mono HA.out.1.size))
      clear hb q0 q1 q2 q3 qf
      go_wp2_with fail
      refine (awake13_any _ (HG.out.below HB.out)).mono ?_
      rintro e w2 ⟨rfl, hb⟩
      have HC := Lib.hid (HB.out.trans (hb.mono HB.out.size))
      clear hb
      go_wp2_with fail
      go_ret
      exact ⟨rfl, HC.out⟩
    rw [decide_eq_true hg.1, fewB_true hg.2, Bool.true_and] at hfx
    have b1 := Int.lt_tmod_of_pos i (show (0 : Int) < (ss.length : Int) + 1 by omega)
    have b2 := Int.tmod_lt_of_pos i (show (0 : Int) < (ss.length : Int) + 1 by omega)
    obtain ⟨ra, hra⟩ : ∃ a, a = i.tmod ((ss.length : Int) + 1) := ⟨_, rfl⟩
    obtain ⟨k, hk⟩ : ∃ k : Nat, (k : Int) = (ra + ss.length + 1) % ((ss.length : Int) + 1) := ⟨((ra + ss.length + 1) % ((ss.length : Int) + 1)).toNat, by rw [Int.toNat_of_nonneg (Int.emod_nonneg _ (by omega))]⟩
    have hkn : k ≤ ss.length := by have := Int.emod_lt_of_pos (ra + ss.length + 1) (show (0 : Int) < (ss.length : Int) + 1 by omega); omega
    rw [← hra] at b1 b2
    have e0 : i.tmod ((ss.length : Int) + 1) = ra := hra.symm
    have e2 : (ra + ss.length + 1).tmod ((ss.length : Int) + 1) = (k : Int) := by rw [Int.tmod_eq_emod_of_nonneg (by omega)]; exact hk.symm
    have e3 : IntKind.i64.wrap (ra + ss.length) = ra + ss.length := IntWalk.i64_in _ (by omega)
    have e4 : IntKind.i64.wrap (ra + ss.length + 1) = ra + ss.length + 1 := IntWalk.i64_in _ (by omega)
    have e5 : ¬ ((ss.length : Int) + 1 = 0) := by omega
    have hws : x.ws.length ≤ 30 := by have := hg.2.1; omega
    have ct : ∀ W (h : Below w.heap.size w W), Calls Tryd.prog 36 #[.slice a0 ss.length cap] W fun e w' => ∃ a c, e = .returned (.slice a (txts ss).length c) ∧ OwnT W.heap.size w' a c (txts ss) ∧ Below W.heap.size W w' := fun W h => texts_any ss a0 cap W (HG.out.below h) (hT.below h) (by omega) (fun j hj => by have := hs j hj; unfold gt at this; omega)
    have cr := fun W (h : Below w.heap.size w W) (y : Option Addr) (c : Nat) hTW (h1 : (ss.map leaf).length ≤ c) h2 => root_any _ (ss.map leaf) rfl (by omega) hD y c W (HG.out.below h) hTW h1 h2
    have ck := fun W (h : Below w.heap.size w W) (y : Option Addr) (c : Nat) hTW (h1 : ((ss.map leaf).take k).length ≤ c) h2 => rroot_any _ ((ss.map leaf).take k) rfl (by rw [List.length_take]; omega) (fun z hz => hD z (List.mem_of_mem_take hz)) y c W hTW h1 h2
    have htl : ((ss.map leaf).take k).length = k := by rw [List.length_take, hl]; omega
    rw [htl] at ck
    have cs := fun (r : ByteArray) W (h : Below w.heap.size w W) => begins_any r k ss.length hkn (by omega) x.d (by omega) x.ws (by omega) x.a x.cap hx.len hx.cap W (HG.out.below h) (HZ.out.below h) (hx.texts.below h)
    have cc := fun W (h : Below w.heap.size w W) => bigCross_any k ss.length hkn (by omega) x.d (by omega) x.ws (by omega) x.a x.cap hx.len hx.cap W (HG.out.below h) (HZ.out.below h) (hx.texts.below h)
    have hb := fun (R T E) hZ hE hR hne => begins_plain (ss := ss) hkn (by omega) (old := x.d) (br := x.ws) (R := R) (T := T) (E := E) hZ hE hR hne
    have hX1 : (txts ss).length = 2 * ss.length - 1 := txts_length ss
    have hX5 : ∀ i, i < (txts ss).length → (gt (txts ss) i).size ≤ 101 := fun i hi => txts_size hs (by omega) i hi
    obtain ⟨N, I, d, ba, ws, bc⟩ := x
    unfold Clm.cs at hfx ⊢
    simp only at hfx cs cc hb hws ⊢
    have hst : beginsB d k (root (ss.map leaf)) ss.length ws = (decide ((crossA k ss.length d ws).2.2 = 0) && (decide (k = 0) || decide ((crossA k ss.length d ws).1 = root (ss.map leaf)))) := rfl
    obtain ⟨Z, hZ⟩ : ∃ Z, Z = crossA k ss.length d ws := ⟨_, rfl⟩
    rw [← hZ] at cc hst
    have hb := fun R T E hZZ => hb R T E (hZ.symm.trans hZZ)
    obtain ⟨R, T, E⟩ := Z
    simp only at cc hst
    have hb := hb R T E rfl
    obtain ⟨RR, hRR⟩ : ∃ R, R = root (ss.map leaf) := ⟨_, rfl⟩
    rw [← hRR] at cr hb hst
    have cs := cs RR
    rw [hst] at cs
    obtain ⟨g, hgl⟩ : ∃ g, g = root ((ss.map leaf).take k) := ⟨_, rfl⟩
    rw [← hgl] at hb ck
    obtain ⟨X, hX⟩ : ∃ X, X = txts ss := ⟨_, rfl⟩
    rw [← hX] at hb ct hX1 hX5
    obtain ⟨D, hDD⟩ : ∃ D, D = ss.map leaf := ⟨_, rfl⟩
    rw [← hDD] at cd cr hl hgl ck
    rw [hl] at cr
    obtain ⟨n, hn⟩ : ∃ n, n = ss.length := ⟨_, rfl⟩
    rw [← hn] at cd ct hl hX1 h40 e0 e2 e3 e4 e5 hkn b1 b2 cs cc cr ⊢
    obtain ⟨m, hm'⟩ : ∃ m, m = ws.length := ⟨_, rfl⟩
    rw [← hm'] at hfx cs cc hb hws ⊢
    obtain ⟨xn, hxn⟩ : ∃ y, y = X.length := ⟨_, rfl⟩
    rw [← hxn] at ct hX1 hX5
    obtain ⟨tn, htn⟩ : ∃ y, y = T.length := ⟨_, rfl⟩
    rw [← htn] at cc hb
    obtain ⟨B, hB⟩ : ∃ B, B = (decide (E = 0) && (decide (k = 0) || decide (R = RR))) := ⟨_, rfl⟩
    rw [← hB] at cs
    have HS := Lib.hid hB
    clear hB
    have hdg : (d.toList == g.toList) = decide (d = g) := twin_beq d g
    have hxn80 : xn ≤ 80 := by omega
    have HH := Lib.hid (And.intro hb (And.intro hX5 (And.intro hl (And.intro hxn (And.intro htn (And.intro hgl (And.intro hws hxn80)))))))
    have H := Lib.hid (And.intro cd (And.intro hfx (And.intro ct (And.intro cr (And.intro cs (And.intro cc ck))))))
    clear cd hfx ct cr cs cc ck htl hb hX5 hl hxn htn hgl hn hm' hX hRR hZ hst hDD hra hk hf hg hs hT hm hx hD hX1 hws hxn80
    go_enter Tryd.func8, Tryd.ntmps8
    go_upto_region 1 with fail
    obtain ⟨wb, hwb⟩ : ∃ wb, wb = w.alloc (.cells #[.int .i64 N, .int .i64 I, .string d, .slice ba m bc] 47) := ⟨_, rfl⟩
    have BB := Lib.hid (show Below w.heap.size w wb ∧ wb.heap[w.heap.size]? = some (.cells #[.int .i64 N, .int .i64 I, .string d, .slice ba m bc] 47 (0, 0)) from by rw [hwb]; exact ⟨(Below.refl _ _).alloc (Nat.le_refl _) _, heap_alloc_new _ _⟩)
    rw [← hwb]
    clear hwb
    go_wp2_with fail
    refine (H.out.1 _ BB.out.1).mono ?_
    rintro e w0 ⟨a, c, rfl, hO, hb0⟩
    have HA := Lib.hid (And.intro hO.texts (And.intro (show n ≤ c ∧ c ≤ maxLen from by have h := hO.capy; rw [HH.out.2.2.1] at h; exact h) (And.intro (BB.out.1.trans (hb0.mono BB.out.1.size)) ((hb0.block _ (lt_obj BB.out.2)).trans BB.out.2))))
    clear hO hb0
    obtain ⟨q0, q1, q2, q3, qf⟩ := row4 HA.out.2.2.2
    go_wp2_with fail
    refine (H.out.2.1 _ HA.out.2.2.1).mono ?_
    rintro e w1 ⟨rfl, hb⟩
    have HB := Lib.hid (And.intro (HA.out.2.2.1.trans (hb.mono HA.out.2.2.1.size)) (And.intro (HA.out.1.below hb) ((hb.block _ (lt_obj HA.out.2.2.2)).trans HA.out.2.2.2)))
    clear hb q0 q1 q2 q3 qf
    go_wp2_with fail
    refine (awake13_any _ (HG.out.below HB.out.1)).mono ?_
    rintro e w2 ⟨rfl, hb⟩
    have HC := Lib.hid (And.intro (HB.out.1.trans (hb.mono HB.out.1.size)) (And.intro (HB.out.2.1.below hb) ((hb.block _ (lt_obj HB.out.2.2)).trans HB.out.2.2)))
    clear hb
    have hkc : k ≤ c := by have := HA.out.2.1.1; omega
    cases B with
    | false =>
      go_upto_region 6 with fail
      go_wp2_with fail
      refine wp_region_held (S := fun W : World => W.heap[w.heap.size]? = some (.cells #[.int .i64 N, .int .i64 I, .string d, .slice ba m bc] 47 (0, 0))) (by kernel_rfl) ?_
      change wpAnyH _ _ _ _ _ _ _ _ (World.drew _)
      generalize hv0 : World.drew _ = v0
      have E0 : v0.heap[w.heap.size]? = some (.cells #[.int .i64 N, .int .i64 I, .string d, .slice ba m bc] 47 (0, 0)) := by rw [← hv0]; exact HC.out.2.2
      have F0 : Below w.heap.size w v0 := by rw [← hv0]; exact HC.out.1.drew
      have T0 : TextsAt v0 a D := by rw [← hv0]; exact HC.out.2.1
      clear hv0
      refine wpAnyH_take (i := 0) (v := ?_) rfl (by kernel_rfl) (by kernel_rfl) (by kernel_rfl) (fun _ _ _ h => h) (Or.inl ⟨by kernel_rfl, ?_⟩) E0 ?_
      rotate_left
      · (intro W hS; obtain ⟨q0, q1, q2, q3, qf⟩ := row4 hS; clear hS; go_simp; try (with_reducible rfl))
      refine wpAnyH_take (i := 1) (v := ?_) rfl (by kernel_rfl) (by kernel_rfl) (by kernel_rfl) (fun _ _ _ h => h) (Or.inl ⟨by kernel_rfl, ?_⟩) E0 ?_
      rotate_left
      · (intro W hS; obtain ⟨q0, q1, q2, q3, qf⟩ := row4 hS; clear hS; go_simp; try (with_reducible rfl))
      refine wpAnyH_take (i := 2) (v := ?_) rfl (by kernel_rfl) (by kernel_rfl) (by kernel_rfl) (fun _ _ _ h => h) (Or.inl ⟨by kernel_rfl, ?_⟩) E0 ?_
      rotate_left
      · (intro W hS; obtain ⟨q0, q1, q2, q3, qf⟩ := row4 hS; clear hS; go_simp; try (with_reducible rfl))
      refine wpAnyH_take (i := 3) (v := ?_) rfl (by kernel_rfl) (by kernel_rfl) (by kernel_rfl) (fun _ _ _ h => h) (Or.inl ⟨by kernel_rfl, ?_⟩) E0 ?_
      rotate_left
      · (intro W hS; obtain ⟨q0, q1, q2, q3, qf⟩ := row4 hS; clear hS; go_simp; try (with_reducible rfl))
      refine wpAnyH_take (i := 5) (v := ?_) rfl (by kernel_rfl) (by kernel_rfl) (by kernel_rfl) (fun _ _ _ h => h) (Or.inl ⟨by kernel_rfl, ?_⟩) E0 ?_
      rotate_left
      · (intro W hS; obtain ⟨q0, q1, q2, q3, qf⟩ := row4 hS; clear hS; go_simp; try (with_reducible rfl))
      refine wpAnyH_take (i := 6) (v := ?_) rfl (by kernel_rfl) (by kernel_rfl) (by kernel_rfl) (fun _ _ _ h => h) (Or.inl ⟨by kernel_rfl, ?_⟩) E0 ?_
      rotate_left
      · (intro W hS; obtain ⟨q0, q1, q2, q3, qf⟩ := row4 hS; clear hS; go_simp; try (with_reducible rfl))
      refine wpAnyH_take (i := 7) (v := ?_) rfl (by kernel_rfl) (by kernel_rfl) (by kernel_rfl) (fun _ _ _ h => h) (Or.inl ⟨by kernel_rfl, ?_⟩) E0 ?_
      rotate_left
      · (intro W hS; obtain ⟨q0, q1, q2, q3, qf⟩ := row4 hS; clear hS; go_simp; try (with_reducible rfl))
      refine wpAnyH_ready (rs := [4]) (by kernel_rfl) (by simp) ?_
      refine AllReadyH.cons rfl (fun K hK => ?_) AllReadyH.nil
      go_simp
      refine (H.out.2.2.2.1 v0 F0 _ _ T0 HA.out.2.1.1 HA.out.2.1.2).mono ?_
      rintro e v1 ⟨rfl, hb⟩
      have F1 := F0.trans (hb.mono F0.size)
      have E1 : v1.heap[w.heap.size]? = some (.cells #[.int .i64 N, .int .i64 I, .string d, .slice ba m bc] 47 (0, 0)) := (hb.block _ (lt_obj E0)).trans E0
      have T1 := T0.below hb
      refine hK.out _ _ E1 (fun _ => ?_)
      clear hK K hb
      refine wpAnyH_ready (rs := [8]) (by kernel_rfl) (by simp) ?_
      refine AllReadyH.cons rfl (fun K hK => ?_) AllReadyH.nil
      go_simp
      refine (H.out.2.2.2.2.1 v1 F1).mono ?_
      rintro e v2 ⟨rfl, hb⟩
      have F2 := F1.trans (hb.mono F1.size)
      have E2 : v2.heap[w.heap.size]? = some (.cells #[.int .i64 N, .int .i64 I, .string d, .slice ba m bc] 47 (0, 0)) := (hb.block _ (lt_obj E1)).trans E1
      have T2 := T1.below hb
      refine hK.out _ _ E2 (fun _ => ?_)
      clear hK K hb
      refine wpAnyH_take (i := 9) (v := ?_) rfl (by kernel_rfl) (by kernel_rfl) (by kernel_rfl) (fun _ _ _ h => h) (Or.inl ⟨by kernel_rfl, ?_⟩) E2 ?_
      rotate_left
      · (intro W hS; obtain ⟨q0, q1, q2, q3, qf⟩ := row4 hS; clear hS; go_simp; try (with_reducible rfl))
      refine wpAnyH_take (i := 10) (v := ?_) rfl (by kernel_rfl) (by kernel_rfl) (by kernel_rfl) (fun _ _ _ h => h) (Or.inl ⟨by kernel_rfl, ?_⟩) E2 ?_
      rotate_left
      · (intro W hS; obtain ⟨q0, q1, q2, q3, qf⟩ := row4 hS; clear hS; go_simp; try (with_reducible rfl))
      refine wpAnyH_take (i := 11) (v := undef) rfl (by kernel_rfl) (by kernel_rfl) (by kernel_rfl) (fun _ _ _ h => h) (Or.inr ⟨by kernel_rfl, rfl⟩) E2 ?_
      refine wpAnyH_take (i := 12) (v := undef) rfl (by kernel_rfl) (by kernel_rfl) (by kernel_rfl) (fun _ _ _ h => h) (Or.inr ⟨by kernel_rfl, rfl⟩) E2 ?_
      refine wpAnyH_take (i := 13) (v := undef) rfl (by kernel_rfl) (by kernel_rfl) (by kernel_rfl) (fun _ _ _ h => h) (Or.inr ⟨by kernel_rfl, rfl⟩) E2 ?_
      refine wpAnyH_take (i := 14) (v := undef) rfl (by kernel_rfl) (by kernel_rfl) (by kernel_rfl) (fun _ _ _ h => h) (Or.inr ⟨by kernel_rfl, rfl⟩) E2 ?_
      refine wpAnyH_take (i := 15) (v := undef) rfl (by kernel_rfl) (by kernel_rfl) (by kernel_rfl) (fun _ _ _ h => h) (Or.inr ⟨by kernel_rfl, rfl⟩) E2 ?_
      refine wpAnyH_take (i := 16) (v := undef) rfl (by kernel_rfl) (by kernel_rfl) (by kernel_rfl) (fun _ _ _ h => h) (Or.inr ⟨by kernel_rfl, rfl⟩) E2 ?_
      refine wpAnyH_take (i := 17) (v := undef) rfl (by kernel_rfl) (by kernel_rfl) (by kernel_rfl) (fun _ _ _ h => h) (Or.inr ⟨by kernel_rfl, rfl⟩) E2 ?_
      refine wpAnyH_take (i := 18) (v := ?_) rfl (by kernel_rfl) (by kernel_rfl) (by kernel_rfl) (fun _ _ _ h => h) (Or.inl ⟨by kernel_rfl, ?_⟩) E2 ?_
      rotate_left
      · (intro W hS; obtain ⟨q0, q1, q2, q3, qf⟩ := row4 hS; clear hS; go_simp; try (with_reducible rfl))
      refine wpAnyH_done (by kernel_rfl) ?_ _
      go_simp
      go_wp2_with fail
      go_ret
      exact ⟨rfl, F2⟩
    | true =>
      by_cases hdd : d = g
      · rw [decide_eq_true hdd] at hdg
        clear hdd
        go_upto_region 6 with fail
        go_wp2_with fail
        refine wp_region_held (S := fun W : World => W.heap[w.heap.size]? = some (.cells #[.int .i64 N, .int .i64 I, .string d, .slice ba m bc] 47 (0, 0))) (by kernel_rfl) ?_
        change wpAnyH _ _ _ _ _ _ _ _ (World.drew _)
        generalize hv0 : World.drew _ = v0
        have E0 : v0.heap[w.heap.size]? = some (.cells #[.int .i64 N, .int .i64 I, .string d, .slice ba m bc] 47 (0, 0)) := by rw [← hv0]; exact HC.out.2.2
        have F0 : Below w.heap.size w v0 := by rw [← hv0]; exact HC.out.1.drew
        have T0 : TextsAt v0 a D := by rw [← hv0]; exact HC.out.2.1
        clear hv0
        refine wpAnyH_take (i := 0) (v := ?_) rfl (by kernel_rfl) (by kernel_rfl) (by kernel_rfl) (fun _ _ _ h => h) (Or.inl ⟨by kernel_rfl, ?_⟩) E0 ?_
        rotate_left
        · (intro W hS; obtain ⟨q0, q1, q2, q3, qf⟩ := row4 hS; clear hS; go_simp; try (with_reducible rfl))
        refine wpAnyH_take (i := 1) (v := ?_) rfl (by kernel_rfl) (by kernel_rfl) (by kernel_rfl) (fun _ _ _ h => h) (Or.inl ⟨by kernel_rfl, ?_⟩) E0 ?_
        rotate_left
        · (intro W hS; obtain ⟨q0, q1, q2, q3, qf⟩ := row4 hS; clear hS; go_simp; try (with_reducible rfl))
        refine wpAnyH_take (i := 2) (v := ?_) rfl (by kernel_rfl) (by kernel_rfl) (by kernel_rfl) (fun _ _ _ h => h) (Or.inl ⟨by kernel_rfl, ?_⟩) E0 ?_
        rotate_left
        · (intro W hS; obtain ⟨q0, q1, q2, q3, qf⟩ := row4 hS; clear hS; go_simp; try (with_reducible rfl))
        refine wpAnyH_take (i := 3) (v := ?_) rfl (by kernel_rfl) (by kernel_rfl) (by kernel_rfl) (fun _ _ _ h => h) (Or.inl ⟨by kernel_rfl, ?_⟩) E0 ?_
        rotate_left
        · (intro W hS; obtain ⟨q0, q1, q2, q3, qf⟩ := row4 hS; clear hS; go_simp; try (with_reducible rfl))
        refine wpAnyH_take (i := 5) (v := ?_) rfl (by kernel_rfl) (by kernel_rfl) (by kernel_rfl) (fun _ _ _ h => h) (Or.inl ⟨by kernel_rfl, ?_⟩) E0 ?_
        rotate_left
        · (intro W hS; obtain ⟨q0, q1, q2, q3, qf⟩ := row4 hS; clear hS; go_simp; try (with_reducible rfl))
        refine wpAnyH_take (i := 6) (v := ?_) rfl (by kernel_rfl) (by kernel_rfl) (by kernel_rfl) (fun _ _ _ h => h) (Or.inl ⟨by kernel_rfl, ?_⟩) E0 ?_
        rotate_left
        · (intro W hS; obtain ⟨q0, q1, q2, q3, qf⟩ := row4 hS; clear hS; go_simp; try (with_reducible rfl))
        refine wpAnyH_take (i := 7) (v := ?_) rfl (by kernel_rfl) (by kernel_rfl) (by kernel_rfl) (fun _ _ _ h => h) (Or.inl ⟨by kernel_rfl, ?_⟩) E0 ?_
        rotate_left
        · (intro W hS; obtain ⟨q0, q1, q2, q3, qf⟩ := row4 hS; clear hS; go_simp; try (with_reducible rfl))
        refine wpAnyH_ready (rs := [4]) (by kernel_rfl) (by simp) ?_
        refine AllReadyH.cons rfl (fun K hK => ?_) AllReadyH.nil
        go_simp
        refine (H.out.2.2.2.1 v0 F0 _ _ T0 HA.out.2.1.1 HA.out.2.1.2).mono ?_
        rintro e v1 ⟨rfl, hb⟩
        have F1 := F0.trans (hb.mono F0.size)
        have E1 : v1.heap[w.heap.size]? = some (.cells #[.int .i64 N, .int .i64 I, .string d, .slice ba m bc] 47 (0, 0)) := (hb.block _ (lt_obj E0)).trans E0
        have T1 := T0.below hb
        refine hK.out _ _ E1 (fun _ => ?_)
        clear hK K hb
        refine wpAnyH_ready (rs := [8]) (by kernel_rfl) (by simp) ?_
        refine AllReadyH.cons rfl (fun K hK => ?_) AllReadyH.nil
        go_simp
        refine (H.out.2.2.2.2.1 v1 F1).mono ?_
        rintro e v2 ⟨rfl, hb⟩
        have F2 := F1.trans (hb.mono F1.size)
        have E2 : v2.heap[w.heap.size]? = some (.cells #[.int .i64 N, .int .i64 I, .string d, .slice ba m bc] 47 (0, 0)) := (hb.block _ (lt_obj E1)).trans E1
        have T2 := T1.below hb
        refine hK.out _ _ E2 (fun _ => ?_)
        clear hK K hb
        refine wpAnyH_take (i := 9) (v := ?_) rfl (by kernel_rfl) (by kernel_rfl) (by kernel_rfl) (fun _ _ _ h => h) (Or.inl ⟨by kernel_rfl, ?_⟩) E2 ?_
        rotate_left
        · (intro W hS; obtain ⟨q0, q1, q2, q3, qf⟩ := row4 hS; clear hS; go_simp; try (with_reducible rfl))
        refine wpAnyH_take (i := 10) (v := ?_) rfl (by kernel_rfl) (by kernel_rfl) (by kernel_rfl) (fun _ _ _ h => h) (Or.inl ⟨by kernel_rfl, ?_⟩) E2 ?_
        rotate_left
        · (intro W hS; obtain ⟨q0, q1, q2, q3, qf⟩ := row4 hS; clear hS; go_simp; try (with_reducible rfl))
        refine wpAnyH_take (i := 11) (v := ?_) rfl (by kernel_rfl) (by kernel_rfl) (by kernel_rfl) (fun _ _ _ h => h) (Or.inl ⟨by kernel_rfl, ?_⟩) E2 ?_
        rotate_left
        · (intro W hS; obtain ⟨q0, q1, q2, q3, qf⟩ := row4 hS; clear hS; go_simp; try (with_reducible rfl))
        refine wpAnyH_take (i := 12) (v := ?_) rfl (by kernel_rfl) (by kernel_rfl) (by kernel_rfl) (fun _ _ _ h => h) (Or.inl ⟨by kernel_rfl, ?_⟩) E2 ?_
        rotate_left
        · (intro W hS; obtain ⟨q0, q1, q2, q3, qf⟩ := row4 hS; clear hS; go_simp; try (with_reducible rfl))
        refine wpAnyH_take (i := 13) (v := ?_) rfl (by kernel_rfl) (by kernel_rfl) (by kernel_rfl) (fun _ _ _ h => h) (Or.inl ⟨by kernel_rfl, ?_⟩) E2 ?_
        rotate_left
        · (intro W hS; obtain ⟨q0, q1, q2, q3, qf⟩ := row4 hS; clear hS; go_simp; try (with_reducible rfl))
        refine wpAnyH_take (i := 14) (v := ?_) rfl (by kernel_rfl) (by kernel_rfl) (by kernel_rfl) (fun _ _ _ h => h) (Or.inl ⟨by kernel_rfl, ?_⟩) E2 ?_
        rotate_left
        · (intro W hS; obtain ⟨q0, q1, q2, q3, qf⟩ := row4 hS; clear hS; go_simp; try (with_reducible rfl))
        refine wpAnyH_take (i := 15) (v := ?_) rfl (by kernel_rfl) (by kernel_rfl) (by kernel_rfl) (fun _ _ _ h => h) (Or.inl ⟨by kernel_rfl, ?_⟩) E2 ?_
        rotate_left
        · (intro W hS; obtain ⟨q0, q1, q2, q3, qf⟩ := row4 hS; clear hS; go_simp; try (with_reducible rfl))
        refine wpAnyH_ready (rs := [16]) (by kernel_rfl) (by simp) ?_
        refine AllReadyH.cons rfl (fun K hK => ?_) AllReadyH.nil
        go_simp
        refine (H.out.2.2.2.2.2.2 v2 F2 _ _ (T2.take k) hkc HA.out.2.1.2).mono ?_
        rintro e v3 ⟨rfl, hb⟩
        have F3 := F2.trans (hb.mono F2.size)
        have E3 : v3.heap[w.heap.size]? = some (.cells #[.int .i64 N, .int .i64 I, .string d, .slice ba m bc] 47 (0, 0)) := (hb.block _ (lt_obj E2)).trans E2
        refine hK.out _ _ E3 (fun _ => ?_)
        clear hK K hb
        refine wpAnyH_take (i := 17) (v := ?_) rfl (by kernel_rfl) (by kernel_rfl) (by kernel_rfl) (fun _ _ _ h => h) (Or.inl ⟨by kernel_rfl, ?_⟩) E3 ?_
        rotate_left
        · (intro W hS; obtain ⟨q0, q1, q2, q3, qf⟩ := row4 hS; clear hS; go_simp; try (with_reducible rfl))
        refine wpAnyH_take (i := 18) (v := ?_) rfl (by kernel_rfl) (by kernel_rfl) (by kernel_rfl) (fun _ _ _ h => h) (Or.inl ⟨by kernel_rfl, ?_⟩) E3 ?_
        rotate_left
        · (intro W hS; obtain ⟨q0, q1, q2, q3, qf⟩ := row4 hS; clear hS; go_simp; try (with_reducible rfl))
        refine wpAnyH_done (by kernel_rfl) ?_ _
        go_simp
        go_wp2_with fail
        go_ret
        exact ⟨rfl, F3⟩
      · rw [decide_eq_false hdd] at hdg
        have HN := Lib.hid hdd
        clear hdd
        go_upto_region 6 with fail
        go_wp2_with fail
        refine wp_region_held (S := fun W : World => W.heap[w.heap.size]? = some (.cells #[.int .i64 N, .int .i64 I, .string d, .slice ba m bc] 47 (0, 0))) (by kernel_rfl) ?_
        change wpAnyH _ _ _ _ _ _ _ _ (World.drew _)
        generalize hv0 : World.drew _ = v0
        have E0 : v0.heap[w.heap.size]? = some (.cells #[.int .i64 N, .int .i64 I, .string d, .slice ba m bc] 47 (0, 0)) := by rw [← hv0]; exact HC.out.2.2
        have F0 : Below w.heap.size w v0 := by rw [← hv0]; exact HC.out.1.drew
        have T0 : TextsAt v0 a D := by rw [← hv0]; exact HC.out.2.1
        clear hv0
        refine wpAnyH_take (i := 0) (v := ?_) rfl (by kernel_rfl) (by kernel_rfl) (by kernel_rfl) (fun _ _ _ h => h) (Or.inl ⟨by kernel_rfl, ?_⟩) E0 ?_
        rotate_left
        · (intro W hS; obtain ⟨q0, q1, q2, q3, qf⟩ := row4 hS; clear hS; go_simp; try (with_reducible rfl))
        refine wpAnyH_take (i := 1) (v := ?_) rfl (by kernel_rfl) (by kernel_rfl) (by kernel_rfl) (fun _ _ _ h => h) (Or.inl ⟨by kernel_rfl, ?_⟩) E0 ?_
        rotate_left
        · (intro W hS; obtain ⟨q0, q1, q2, q3, qf⟩ := row4 hS; clear hS; go_simp; try (with_reducible rfl))
        refine wpAnyH_take (i := 2) (v := ?_) rfl (by kernel_rfl) (by kernel_rfl) (by kernel_rfl) (fun _ _ _ h => h) (Or.inl ⟨by kernel_rfl, ?_⟩) E0 ?_
        rotate_left
        · (intro W hS; obtain ⟨q0, q1, q2, q3, qf⟩ := row4 hS; clear hS; go_simp; try (with_reducible rfl))
        refine wpAnyH_take (i := 3) (v := ?_) rfl (by kernel_rfl) (by kernel_rfl) (by kernel_rfl) (fun _ _ _ h => h) (Or.inl ⟨by kernel_rfl, ?_⟩) E0 ?_
        rotate_left
        · (intro W hS; obtain ⟨q0, q1, q2, q3, qf⟩ := row4 hS; clear hS; go_simp; try (with_reducible rfl))
        refine wpAnyH_take (i := 5) (v := ?_) rfl (by kernel_rfl) (by kernel_rfl) (by kernel_rfl) (fun _ _ _ h => h) (Or.inl ⟨by kernel_rfl, ?_⟩) E0 ?_
        rotate_left
        · (intro W hS; obtain ⟨q0, q1, q2, q3, qf⟩ := row4 hS; clear hS; go_simp; try (with_reducible rfl))
        refine wpAnyH_take (i := 6) (v := ?_) rfl (by kernel_rfl) (by kernel_rfl) (by kernel_rfl) (fun _ _ _ h => h) (Or.inl ⟨by kernel_rfl, ?_⟩) E0 ?_
        rotate_left
        · (intro W hS; obtain ⟨q0, q1, q2, q3, qf⟩ := row4 hS; clear hS; go_simp; try (with_reducible rfl))
        refine wpAnyH_take (i := 7) (v := ?_) rfl (by kernel_rfl) (by kernel_rfl) (by kernel_rfl) (fun _ _ _ h => h) (Or.inl ⟨by kernel_rfl, ?_⟩) E0 ?_
        rotate_left
        · (intro W hS; obtain ⟨q0, q1, q2, q3, qf⟩ := row4 hS; clear hS; go_simp; try (with_reducible rfl))
        refine wpAnyH_ready (rs := [4]) (by kernel_rfl) (by simp) ?_
        refine AllReadyH.cons rfl (fun K hK => ?_) AllReadyH.nil
        go_simp
        refine (H.out.2.2.2.1 v0 F0 _ _ T0 HA.out.2.1.1 HA.out.2.1.2).mono ?_
        rintro e v1 ⟨rfl, hb⟩
        have F1 := F0.trans (hb.mono F0.size)
        have E1 : v1.heap[w.heap.size]? = some (.cells #[.int .i64 N, .int .i64 I, .string d, .slice ba m bc] 47 (0, 0)) := (hb.block _ (lt_obj E0)).trans E0
        have T1 := T0.below hb
        refine hK.out _ _ E1 (fun _ => ?_)
        clear hK K hb
        refine wpAnyH_ready (rs := [8]) (by kernel_rfl) (by simp) ?_
        refine AllReadyH.cons rfl (fun K hK => ?_) AllReadyH.nil
        go_simp
        refine (H.out.2.2.2.2.1 v1 F1).mono ?_
        rintro e v2 ⟨rfl, hb⟩
        have F2 := F1.trans (hb.mono F1.size)
        have E2 : v2.heap[w.heap.size]? = some (.cells #[.int .i64 N, .int .i64 I, .string d, .slice ba m bc] 47 (0, 0)) := (hb.block _ (lt_obj E1)).trans E1
        have T2 := T1.below hb
        refine hK.out _ _ E2 (fun _ => ?_)
        clear hK K hb
        refine wpAnyH_take (i := 9) (v := ?_) rfl (by kernel_rfl) (by kernel_rfl) (by kernel_rfl) (fun _ _ _ h => h) (Or.inl ⟨by kernel_rfl, ?_⟩) E2 ?_
        rotate_left
        · (intro W hS; obtain ⟨q0, q1, q2, q3, qf⟩ := row4 hS; clear hS; go_simp; try (with_reducible rfl))
        refine wpAnyH_take (i := 10) (v := ?_) rfl (by kernel_rfl) (by kernel_rfl) (by kernel_rfl) (fun _ _ _ h => h) (Or.inl ⟨by kernel_rfl, ?_⟩) E2 ?_
        rotate_left
        · (intro W hS; obtain ⟨q0, q1, q2, q3, qf⟩ := row4 hS; clear hS; go_simp; try (with_reducible rfl))
        refine wpAnyH_take (i := 11) (v := ?_) rfl (by kernel_rfl) (by kernel_rfl) (by kernel_rfl) (fun _ _ _ h => h) (Or.inl ⟨by kernel_rfl, ?_⟩) E2 ?_
        rotate_left
        · (intro W hS; obtain ⟨q0, q1, q2, q3, qf⟩ := row4 hS; clear hS; go_simp; try (with_reducible rfl))
        refine wpAnyH_take (i := 12) (v := ?_) rfl (by kernel_rfl) (by kernel_rfl) (by kernel_rfl) (fun _ _ _ h => h) (Or.inl ⟨by kernel_rfl, ?_⟩) E2 ?_
        rotate_left
        · (intro W hS; obtain ⟨q0, q1, q2, q3, qf⟩ := row4 hS; clear hS; go_simp; try (with_reducible rfl))
        refine wpAnyH_take (i := 13) (v := ?_) rfl (by kernel_rfl) (by kernel_rfl) (by kernel_rfl) (fun _ _ _ h => h) (Or.inl ⟨by kernel_rfl, ?_⟩) E2 ?_
        rotate_left
        · (intro W hS; obtain ⟨q0, q1, q2, q3, qf⟩ := row4 hS; clear hS; go_simp; try (with_reducible rfl))
        refine wpAnyH_take (i := 14) (v := ?_) rfl (by kernel_rfl) (by kernel_rfl) (by kernel_rfl) (fun _ _ _ h => h) (Or.inl ⟨by kernel_rfl, ?_⟩) E2 ?_
        rotate_left
        · (intro W hS; obtain ⟨q0, q1, q2, q3, qf⟩ := row4 hS; clear hS; go_simp; try (with_reducible rfl))
        refine wpAnyH_take (i := 15) (v := ?_) rfl (by kernel_rfl) (by kernel_rfl) (by kernel_rfl) (fun _ _ _ h => h) (Or.inl ⟨by kernel_rfl, ?_⟩) E2 ?_
        rotate_left
        · (intro W hS; obtain ⟨q0, q1, q2, q3, qf⟩ := row4 hS; clear hS; go_simp; try (with_reducible rfl))
        refine wpAnyH_ready (rs := [16]) (by kernel_rfl) (by simp) ?_
        refine AllReadyH.cons rfl (fun K hK => ?_) AllReadyH.nil
        go_simp
        refine (H.out.2.2.2.2.2.2 v2 F2 _ _ (T2.take k) hkc HA.out.2.1.2).mono ?_
        rintro e v3 ⟨rfl, hb⟩
        have F3 := F2.trans (hb.mono F2.size)
        have E3 : v3.heap[w.heap.size]? = some (.cells #[.int .i64 N, .int .i64 I, .string d, .slice ba m bc] 47 (0, 0)) := (hb.block _ (lt_obj E2)).trans E2
        refine hK.out _ _ E3 (fun _ => ?_)
        clear hK K hb
        refine wpAnyH_take (i := 17) (v := ?_) rfl (by kernel_rfl) (by kernel_rfl) (by kernel_rfl) (fun _ _ _ h => h) (Or.inl ⟨by kernel_rfl, ?_⟩) E3 ?_
        rotate_left
        · (intro W hS; obtain ⟨q0, q1, q2, q3, qf⟩ := row4 hS; clear hS; go_simp; try (with_reducible rfl))
        refine wpAnyH_take (i := 18) (v := ?_) rfl (by kernel_rfl) (by kernel_rfl) (by kernel_rfl) (fun _ _ _ h => h) (Or.inl ⟨by kernel_rfl, ?_⟩) E3 ?_
        rotate_left
        · (intro W hS; obtain ⟨q0, q1, q2, q3, qf⟩ := row4 hS; clear hS; go_simp; try (with_reducible rfl))
        refine wpAnyH_done (by kernel_rfl) ?_ _
        go_simp
        clear E0 E1 E2 F0 F1 F2
        obtain ⟨q0, q1, q2, q3, qf⟩ := row4 E3
        have HE := Lib.hid (And.intro F3 E3)
        clear E3 F3
        have hER : E = 0 ∧ (k = 0 ∨ R = RR) := by
          have h := HS.out.symm
          rw [Bool.and_eq_true] at h
          exact ⟨of_decide_eq_true h.1, by have h2 := h.2; rw [Bool.or_eq_true] at h2; exact h2.imp of_decide_eq_true of_decide_eq_true⟩
        obtain ⟨hTw, hTl, hTs⟩ := HH.out.1 hER.1 hER.2 HN.out
        have HT := Lib.hid (And.intro hTw (And.intro hTl hTs))
        obtain ⟨hE0, -⟩ := hER
        clear hTw hTl hTs
        subst hE0
        go_wp2_with fail
        refine (H.out.2.2.2.2.2.1 _ HE.out.1).mono ?_
        rintro e w5 ⟨ta, tc, rfl, hO, hb⟩
        have HI := Lib.hid (And.intro (HE.out.1.trans (hb.mono HE.out.1.size)) hO.texts)
        clear hb hO q0 q1 q2 q3 qf
        go_wp2_with fail
        refine (H.out.2.2.1 _ HI.out.1).mono ?_
        rintro e w6 ⟨xa, xc, rfl, hO, hb⟩
        have HJ := Lib.hid (And.intro (HI.out.1.trans (hb.mono HI.out.1.size)) (And.intro (OwnT.mono hO HI.out.1.size) (HI.out.2.below hb)))
        clear hb hO
        have htn40 : xn + tn ≤ 1000000 := by have h1 := HT.out.2.1; have h2 := HH.out.2.2.2.2.2.2.1; have h3 := HH.out.2.2.2.2.2.2.2; omega
        have HQ := Lib.hid htn40
        clear htn40
        go_wp2_with (at_builtin; (refine wpList_append_textsG (by kernel_rfl) (.tmp 76) (.tmp 77) rfl HJ.out.2.1 xn HH.out.2.2.2.1.symm (by kernel_rfl) ta tc tn T HH.out.2.2.2.2.1.symm (by kernel_rfl) HJ.out.2.2 (by have := HQ.out; omega) HJ.out.1.size HJ.out.1 ?_; intro ad cp w7 ho hb1; have HK := Lib.hid (And.intro ho hb1); clear ho hb1))
        have hXT : (X ++ T).length = xn + tn := by rw [List.length_append, ← HH.out.2.2.2.1, ← HH.out.2.2.2.2.1]
        have cw := witnessed_any (X ++ T) ad cp w7 (HG.out.below HK.out.2) HK.out.1.texts (by rw [hXT]; exact HQ.out) (fun j hj => Nat.le_trans (size_append (m := 101) (by have h := HH.out.2.1; rw [HH.out.2.2.2.1] at h; exact h) (fun t ht => by have := HT.out.2.2 t ht; omega) j hj) (by decide)) HT.out.1
        rw [hXT] at cw
        refine cw.mono ?_
        rintro e w8 ⟨rfl, hb⟩
        have HL := Lib.hid (HK.out.2.trans (hb.mono HK.out.2.size))
        clear hb cw
        go_wp2_with fail
        go_ret
        exact ⟨rfl, HL.out⟩
  · have cn := fun W (h : Below w.heap.size w W) => nodigests_any ss a0 cap W (hT.below h) hm hf
    obtain ⟨n, hn⟩ : ∃ n, n = ss.length := ⟨_, rfl⟩
    rw [← hn] at cn ⊢
    obtain ⟨N, I, d, ba, ws, bc⟩ := x
    unfold Clm.cs
    simp only
    obtain ⟨m, hm'⟩ : ∃ m, m = ws.length := ⟨_, rfl⟩
    rw [← hm']
    have H := Lib.hid cn
    clear cn hf hT hm hn hx hfx hm'
    go_enter Tryd.func8, Tryd.ntmps8
    go_upto_region 1 with fail
    obtain ⟨wb, hwb⟩ : ∃ wb, wb = w.alloc (.cells #[.int .i64 N, .int .i64 I, .string d, .slice ba m bc] 47) := ⟨_, rfl⟩
    have BB := Lib.hid (show Below w.heap.size w wb from by rw [hwb]; exact (Below.refl _ _).alloc (Nat.le_refl _) _)
    rw [← hwb]
    clear hwb
    go_wp2_with fail
    refine (H.out _ BB.out).mono ?_
    rintro e w0 ⟨rfl, hw0⟩
    rw [hw0]
    clear hw0 w0
    go_wp2_with fail
    refine (awake13_any _ (HG.out.below BB.out)).mono ?_
    rintro e w1 ⟨rfl, hb⟩
    have HB := Lib.hid (BB.out.trans (hb.mono BB.out.size))
    clear hb
    go_wp2_with fail
    go_ret
    exact ⟨rfl, HB.out⟩
end Go.Proofs.YtdjhlgodecnidaaDoor

namespace Go.Proofs.YtdjhlgodecnidaaDoor.treeBeginsLaw
open Go.ChangeShapes Go.WideShapes Go.ChangeAt Go.RowKit
open Go.ChangeMaps (open_string shut_string)

set_option maxRecDepth 100000 in
theorem contract (H : Type) (enc : TypeId × Value → H) (W : World) (base : Nat) (args : Array Value) (ds gs : List (DataW H)) (before : List MemPlace)
    (hval : ∀ (j : Nat) t v, Tryd.f8.params[j]? = some t → args[j]? = some v → Value.okWide Tryd.prog W .any base t v)
    (hW : DataW.Whole enc Tryd.prog Tryd.f8.params.toList Rows.treeBeginsSpec.vars false W args.toList ds gs before) (hL : laidMetH Tryd.prog Rows.treeBeginsRow.laid W) :
    Calls Tryd.prog 8 args W fun e W' => ∃ v, e = .returned v ∧ Rows.treeBeginsSpec.post enc Tryd.prog Tryd.f8 false true false false W args v W' := by
  have hW' := hW
  obtain ⟨p, q, hA0, hV, rfl, hfz, hnd⟩ := hW
  have hA : DataW.TrodAll enc Tryd.prog W 0 (fun _ => true) true Tryd.f8.params.toList args.toList ds p := hA0
  rw [Tryd.params8] at hA hval
  obtain ⟨v0, vs0, d0, ds0, p0, q0, hargs, rfl, rfl, h0, r0⟩ := trodAll_cons hA
  obtain ⟨v1, vs1, d1, ds1, p1, q1, rfl, rfl, rfl, h1, r1⟩ := trodAll_cons r0
  obtain ⟨v2, vs2, d2, ds2, p2, q2, rfl, rfl, rfl, h2, r2⟩ := trodAll_cons r1
  obtain ⟨rfl, rfl, rfl⟩ := trodAll_nil r2
  obtain rfl : args = #[v0, v1, v2] := by cases args; simp_all
  obtain ⟨rfl, rfl⟩ := trodVars_none hV
  obtain ⟨a0, len0, cap0, rfl⟩ := okWide_slice Tryd.underlying22 (hval 0 22 v0 rfl rfl)
  have hk0 := h0
  obtain ⟨fuel0, hf0⟩ := h0
  obtain ⟨n1, rfl, rfl, rfl, ws1⟩ := open_int Tryd.underlying3 (hval 1 3 v1 rfl rfl) h1
  have hbd1 := ws1
  simp only [Lit.wf, Bool.and_eq_true, decide_eq_true_eq] at hbd1
  obtain ⟨cs2, rfl, hcs2⟩ := okWide_struct Tryd.underlying47 (hval 2 47 v2 rfl rfl)
  have hk2 := h2
  obtain ⟨fuel2, hf2⟩ := h2
  clear hA0
  simp only [List.append_nil, List.nil_append] at hW'
  have hlt0 : ∀ x ∈ p0, x.block < W.heap.size := fun x hx => by simpa using hW'.lt x (by simp [hx])
  obtain ⟨ss0, hlen0, hmax0, hT0⟩ := texts_of hf0 hlt0
  subst hlen0
  have hlt2 : ∀ x ∈ p2, x.block < W.heap.size := fun x hx => by simpa using hW'.lt x (by simp [hx])
  obtain ⟨x2a, hit2, hf2a⟩ := open_clm hf2 hlt2
  obtain rfl : cs2 = Clm.cs x2a := Array.toList_inj.1 hit2
  refine (begins_law ss0 a0 cap0 hT0 hmax0 n1 hbd1.1 hbd1.2 x2a hf2a (w := W) (hG := glob_of_laid4 hL)).mono fun e W' ⟨he, hb⟩ => ?_
  subst he
  exact ⟨_, rfl, _, _, _, [], _, [], hW', trodAll_cons_mk (shut_bool Tryd.underlying4 _) trodAll_mk0, (trodAll_cons_mk (Below.trod laidOut (by kernel_rfl) (of_decide_eq_true (by kernel_rfl)) hk0 hb hlt0) (trodAll_cons_mk (shut_int Tryd.underlying3 ws1) (trodAll_cons_mk (Below.trod laidOut (by kernel_rfl) (of_decide_eq_true (by kernel_rfl)) hk2 hb hlt2) trodAll_mk0))), rfl, hb.frame _, fun h => by cases h⟩
theorem laid_met (os : Os) : laidMet Tryd.prog Rows.treeBeginsRow.laid ((laidWorld4 os).forCall (fun _ _ => 0) ⟨#[], #[.slice none 0 0, .int .i64 0, .agg #[.int .i64 0, .int .i64 0, .string ⟨#[]⟩, .slice none 0 0]], []⟩).memory :=
  laidMet_of_run' 8 (by kernel_rfl) (by kernel_rfl)
theorem reads (os : Os) {H : Type} (enc : TypeId × Value → H) : ∃ places, DataW.whole enc Tryd.prog ((laidWorld4 os).forCall (fun _ _ => 0) ⟨#[], #[.slice none 0 0, .int .i64 0, .agg #[.int .i64 0, .int .i64 0, .string ⟨#[]⟩, .slice none 0 0]], []⟩).memory Tryd.f8.params.toList Rows.treeBeginsSpec.vars false #[Value.slice none 0 0, .int .i64 0, .agg #[.int .i64 0, .int .i64 0, .string ⟨#[]⟩, .slice none 0 0]].toList 8 = some ([.nil, .lit (.int .i64 0), .agg [.lit (.int .i64 0), .lit (.int .i64 0), .lit (.string []), .nil]], [], places) :=
  ⟨[], by kernel_rfl⟩
set_option maxRecDepth 100000 in
theorem lifted (os : Os) (started : os.Started) (H : Type) (enc : TypeId × Value → H) (F : Stop.Interp) :
    ReturnsInHanded {} Tryd.checked os 8 .any ((OpenSpec.ofChange Rows.treeBeginsSpec).preRow enc Tryd.prog Tryd.f8 Rows.treeBeginsRow.domain false Rows.treeBeginsRow.laid) (((OpenSpec.ofChange Rows.treeBeginsSpec).at F).post enc Tryd.prog Tryd.f8 false true false false) := by
  obtain ⟨places, hx⟩ := reads os enc
  refine returnsInHanded_of_row (C := Tryd.checked) (s := OpenSpec.ofChange Rows.treeBeginsSpec) own started (by kernel_rfl) Tryd.func8
    (witness_row_at (enc := enc) (C := Tryd.checked) false (laidWorld4 os) #[.slice none 0 0, .int .i64 0, .agg #[.int .i64 0, .int .i64 0, .string ⟨#[]⟩, .slice none 0 0]] rfl (by kernel_rfl) (by kernel_rfl) (by kernel_rfl)
      (OpenSpec.preRow_of_cond 8 hx (by kernel_rfl) (fun k hk => by cases hk) (by kernel_rfl) (laid_met os))) ?_
  intro W base args ds gs before hval hW _ _ _ hL _ _
  exact contract H enc W base args ds gs before hval hW hL
theorem said : Rows.TreeBeginsSaid :=
  OpenClaim.holds_of_cond 8 Tryd.f8 rfl rfl rfl rfl rfl rfl rfl ⟨rfl, rfl, rfl, rfl, rfl⟩ rfl rfl rfl rfl rfl (by kernel_rfl) Tryd.func8 (by kernel_rfl)
    (of_decide_eq_true (by kernel_rfl)) (by unfold Func.isWrapper; first | (rw [if_pos (by decide +kernel)]; kernel_rfl) | (rw [if_neg (by decide +kernel)]; exact ⟨rfl, rfl⟩))
    (fun os started H enc _ F => by rw [OpenClaim.pre_eq_preRow]; exact lifted os started H enc F)
theorem plain (f : FuncId) (fn : Func) (hf : Tryd.pinned.checked.prog.funcNamed "lockbox/lockboxlaw13.TreeBegins" = some f) (hfn : Tryd.pinned.checked.prog.funcs[f]? = some fn) :
    false = Tryd.pinned.checked.prog.looks [] ∧ ∀ (j : Nat) t, fn.params[j]? = some t → Tryd.pinned.checked.prog.wantsStandIn t = false := by
  obtain rfl : f = 8 := Option.some.inj ((show Tryd.prog.funcNamed "lockbox/lockboxlaw13.TreeBegins" = some 8 by kernel_rfl).symm.trans hf) |>.symm
  obtain rfl : fn = Tryd.f8 := (Option.some.inj (Tryd.func8.symm.trans hfn)).symm
  refine ⟨by kernel_rfl, fun j t ht => ?_⟩
  rw [Tryd.params8] at ht
  have hm : t ∈ [22, 3, 47] := by simpa using Array.mem_of_getElem? ht
  have hall : ([22, 3, 47].all fun u => !Tryd.prog.wantsStandIn u) = true := by kernel_rfl
  exact (show Tryd.prog.wantsStandIn t = false by simpa using List.all_eq_true.1 hall t hm)
end Go.Proofs.YtdjhlgodecnidaaDoor.treeBeginsLaw

namespace Go.Proofs.YtdjhlgodecnidaaDoor
/-- THE CARD. -/
theorem treeBegins_card : Rows.TreeBeginsCardSaid :=
  Claim7.holds_tied_plain_at .later [] _ _ _ _ treeBeginsLaw.said (fun _ h => by cases h) (by kernel_rfl) (fun _ h => by cases h) treeBegins_row_tie rfl ⟨rfl, rfl⟩ (by kernel_rfl) rfl treeBeginsLaw.plain (by kernel_rfl)
end Go.Proofs.YtdjhlgodecnidaaDoor
