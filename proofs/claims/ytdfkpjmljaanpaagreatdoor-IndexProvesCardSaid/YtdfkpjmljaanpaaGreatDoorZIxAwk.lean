/- IxAwk, what is wanted of it. -/
import Derived.Test.YtdfkpjmljaanpaaGreatDoorZMX5
import Derived.Test.YtdfkpjmljaanpaaGreatDoorZMX6
namespace Go.Proofs.YtdfkpjmljaanpaaGreatDoor
open Go.RowKit
open Cn
/-- With, where the leaf is taken. -/
theorem with18_ok (rs : List Rw) (ts : List ByteArray) (a0 b0 : Option Addr) (c d N M : Nat) (n : Int) (w : World) (hT : RwAt w a0 rs) (hU : TextsAt w b0 ts) (h0 : rs = [] → a0 = none) (hr : Ix.Rise rs) (hok : ∀ r ∈ rs, Ix.rwOk r) (hm : rs.length ≤ 5000) (hm2 : ts.length ≤ 1000000000)
    (hN : rs.length = N) (hM : ts.length = M) (R : List Rw) (P : List Po) (hZ : Ix.addI rs n ts = (R, P, 0)) (n1 m1 : Nat) (h1 : R.length = n1) (h2 : P.length = m1) :
    Calls Tryz.prog 56 #[.agg #[.slice a0 N c], .int .i64 n, .slice b0 M d] w fun e w' => ∃ a ca p cp, e = .returned (.tuple #[.agg #[.slice a n1 ca], .slice p m1 cp, .int .i64 0]) ∧ OwnR 41 3 rwCs w.heap.size w' a ca R ∧ (R = [] → a = none) ∧ OwnR 120 2 poCs w.heap.size w' p cp P ∧ Below w.heap.size w w' := by
  subst hN hM
  refine (with18_any rs ts a0 b0 c d n w hT hU h0 hr hok hm hm2).mono ?_
  rintro e w' ⟨a, ca, p, cp, he, h3, h4, h5, h6⟩
  rw [hZ] at he h3 h4 h5
  subst h1 h2
  exact ⟨a, ca, p, cp, he, h3, h4, h5, h6⟩
theorem tag18_any (c : UInt8) (n : Int) (hn : n = (c.toNat : Int)) (w : World) : Calls Tryz.prog 14 #[.int .i64 n] w fun e w' => e = .returned (.string (tgP c)) ∧ Below w.heap.size w w' :=
  ltag18_any n c (by rw [hn]; have := c.toNat_lt; omega) w
set_option maxRecDepth 100000 in
set_option maxHeartbeats 8000000 in
theorem awake18_any (w : World) : Calls Tryz.prog 13 #[] w fun e w' => e = .returned (.bool true) ∧ Below w.heap.size w w' := by
  have htg1 := fun W => tag18_any 1 1 rfl W
  have htg2 := fun W => tag18_any 2 2 rfl W
  have hP := Ix.page (tgP_size 1) (tgP_size 2) tgP_12
  have hput := fun (W : World) (a : Option Addr) (c : Nat) (h : TextsAt W a [tgP 1]) => rput_any [tgP 1] (tgP 2) a c (by simp) W h
  have ht32 := tgP_size 2
  obtain ⟨s, hs⟩ : ∃ s, s = tgP 1 := ⟨_, rfl⟩
  obtain ⟨t, ht⟩ : ∃ t, t = tgP 2 := ⟨_, rfl⟩
  rw [← hs] at htg1 hP hput
  rw [← ht] at htg2 hP hput ht32
  obtain ⟨L, hL⟩ : ∃ L, L = Wd.put [s] t := ⟨_, rfl⟩
  rw [← hL] at hP hput
  obtain ⟨A, hA⟩ : ∃ A : List Rw, A = L.map (fun t => (⟨t, 1, 0⟩ : Rw)) := ⟨_, rfl⟩
  obtain ⟨Q, hQ⟩ : ∃ Q : List Po, Q = L.map (fun t => (⟨t, 0⟩ : Po)) := ⟨_, rfl⟩
  obtain ⟨two, ha0, hG1, B, hB, hfB, hG2, hBl⟩ := hP
  rw [← hA] at ha0 hG1 hB
  rw [← hQ] at ha0
  have hA2 : A.length = 2 := by rw [hA, List.length_map, two]
  have hQ2 : Q.length = 2 := by rw [hQ, List.length_map, two]
  rw [two] at hput
  have hokA := hG1.ok (by omega)
  have hokB := hG2.ok (by omega)
  have hW1 := fun (W : World) (a : Option Addr) (c : Nat) (h : TextsAt W a L) => with18_ok [] L none a 0 c 0 2 0 W (RwAt.nil _ _) h (fun _ => rfl) List.Pairwise.nil (by simp) (by simp) (by omega) rfl two A Q ha0 2 2 hA2 hQ2
  have hW2 := fun (W : World) (a b : Option Addr) (c d : Nat) (h : RwAt W a A) (h2 : TextsAt W b [t]) => with18_ok A [t] a b c d 2 1 1 W h h2 (fun e => by rw [e] at hA2; cases hA2) hG1.rise hokA (by omega) (by simp) hA2 rfl B [⟨t, 1⟩] hB B.length 1 rfl rfl
  have hF := fun (W : World) (a : Option Addr) (c : Nat) (h : RwAt W a B) => find18_any B hG2.rise t a c W h (by omega) (fun r hr => by have := (hokB r hr).1; omega)
  have hfd : fdI B t = (⟨t, 2, 1⟩, true) := by unfold fdI; rw [hfB]
  rw [hfd] at hF
  simp only [rwCs] at hF
  have hRA := fun (W : World) (a : Option Addr) (c : Nat) (h : RwAt W a A) => rows18_any A a c W h (by omega) (fun r hr => by have := (hokA r hr).1; omega)
  have hR0 := fun (W : World) => rows18_any [] none 0 W (RwAt.nil _ _) (by simp) (by simp)
  rw [hA2] at hRA
  obtain ⟨nb, hnb⟩ : ∃ nb, nb = B.length := ⟨_, rfl⟩
  rw [← hnb] at hW2 hF
  have H := Lib.hid (And.intro htg1 (And.intro htg2 (And.intro hput (And.intro hW1 (And.intro hW2 (And.intro hF (And.intro hRA hR0)))))))
  clear htg1 htg2 hput hW1 hW2 hF hRA hR0 ha0 hG1 hB hfB hG2 hokA hokB hfd hA2 hQ2 two hA hQ hL hs ht hBl hnb ht32
  go_enter Tryz.func13, Tryz.ntmps13
  go_wp2_with fail
  refine (H.out.1 _).mono ?_
  rintro e w1 ⟨rfl, hb1⟩
  obtain ⟨w2, hw2⟩ : ∃ w2, w2 = w1.alloc (.cells #[.string s] 9) := ⟨_, rfl⟩
  have hb2 : Below w1.heap.size w1 w2 := by rw [hw2]; exact (Below.refl _ _).alloc (Nat.le_refl _) _
  have ht2 : TextsAt w2 (some ⟨w1.heap.size, 0, none⟩) [s] := by rw [hw2]; exact texts_one w1 s
  have H2 := Lib.hid (And.intro (hb1.trans (hb2.mono hb1.size)) ht2)
  clear hb1 hb2 ht2
  go_wp2_with fail
  rw [← hw2]
  clear hw2
  refine (H.out.2.1 _).mono ?_
  rintro e w3 ⟨rfl, hb3⟩
  have H3 := Lib.hid (And.intro (H2.out.1.trans (hb3.mono H2.out.1.size)) (H2.out.2.below hb3))
  clear hb3
  go_wp2_with fail
  refine (H.out.2.2.1 _ _ _ H3.out.2).mono ?_
  rintro e w4 ⟨aL, cL, rfl, ho4, hb4⟩
  obtain ⟨w5, hw5⟩ : ∃ w5, w5 = w4.alloc (.cells #[.slice none 0 0] 25) := ⟨_, rfl⟩
  have hb5 : Below w4.heap.size w4 w5 := by rw [hw5]; exact (Below.refl _ _).alloc (Nat.le_refl _) _
  have hg5 : w5.heap[w4.heap.size]? = some (.cells #[.slice none 0 0] 25 (0, 0)) := by rw [hw5]; exact heap_alloc_new _ _
  have F4 := H3.out.1.trans (hb4.mono H3.out.1.size)
  have H5 := Lib.hid (And.intro (F4.trans (hb5.mono F4.size)) (And.intro hg5 ((OwnT.texts ho4).below hb5)))
  have c5 : w5.cell? ⟨w4.heap.size, 0, none⟩ = some (.slice none 0 0) := by rw [cell_of_row _ _ _ _ _ _ hg5]; rfl
  obtain ⟨gx, hgx⟩ : ∃ gx, gx = w4.heap.size := ⟨_, rfl⟩
  clear hb4 hb5 hg5 F4 ho4
  go_upto_region 3 with fail
  rw [← hw5]
  clear hw5
  go_wp2_with fail
  refine (H.out.2.2.2.1 _ _ _ H5.out.2.2).mono ?_
  rintro e w6 ⟨aA, cA, p, cp, rfl, hoA, -, -, hb6⟩
  obtain ⟨w7, hw7⟩ : ∃ w7, w7 = w6.alloc (.cells #[.slice aA 2 cA] 25) := ⟨_, rfl⟩
  have hb7 : Below w6.heap.size w6 w7 := by rw [hw7]; exact (Below.refl _ _).alloc (Nat.le_refl _) _
  have hg7 : w7.heap[w6.heap.size]? = some (.cells #[.slice aA 2 cA] 25 (0, 0)) := by rw [hw7]; exact heap_alloc_new _ _
  have F6 := H5.out.1.trans (hb6.mono H5.out.1.size)
  have gx6 := (hb6.block _ (lt_of_heap H5.out.2.1)).trans H5.out.2.1
  have H7 := Lib.hid (And.intro (F6.trans (hb7.mono F6.size)) (And.intro hg7 (And.intro ((hb7.block _ (lt_of_heap gx6)).trans gx6) ((rwAt_own hoA).below hb7))))
  clear hb6 hb7 hg7 F6 gx6 hoA c5
  go_upto_region 4 with fail
  rw [← hw7]
  clear hw7
  go_cut [6, 7, 8] (fun y q f wc => ∃ (gb : Nat) (ab aq : Option Addr) (cb cq : Nat), y = .pointer (some ⟨gb, 0, none⟩) ∧ q = .slice aq 1 cq ∧ f = .int .i64 0 ∧ wc.heap[gb]? = some (.cells #[.slice ab nb cb] 25 (0, 0)) ∧ RwAt wc ab B ∧ OwnR 120 2 poCs w.heap.size wc aq cq [⟨t, 1⟩] ∧ Below w7.heap.size w7 wc)
  case first =>
    go_wp2_with fail
    refine wp_region_held (S := fun W : World => W.heap[w6.heap.size]? = some (.cells #[.slice aA 2 cA] 25 (0, 0))) (by kernel_rfl) ?_
    change wpAnyH _ _ _ _ _ _ _ _ (World.drew _)
    generalize hv0 : World.drew _ = v0
    have E0 : v0.heap[w6.heap.size]? = some (.cells #[.slice aA 2 cA] 25 (0, 0)) := by rw [← hv0]; exact (show w7.drew.heap[w6.heap.size]? = _ from H7.out.2.1)
    have F0 : Below w7.heap.size w7 v0 := by rw [← hv0]; exact ((Below.refl _ _).drew)
    clear hv0
    refine wpAnyH_take (i := 0) (v := ?_) rfl (by kernel_rfl) (by kernel_rfl) (by kernel_rfl) (fun _ _ _ h => h) (Or.inl ⟨by kernel_rfl, ?_⟩) E0 ?_
    rotate_left
    · (intro W hS; have k0 : W.cell? ⟨w6.heap.size, 0, none⟩ = some (.slice aA 2 cA) := (by rw [cell_of_row _ _ _ _ _ _ hS]; rfl); go_simp; try (with_reducible rfl))
    refine wpAnyH_ready (rs := [1, 8]) (by kernel_rfl) (by simp) ?_
    refine AllReadyH.cons (i := 1) rfl (fun K hK => ?_) (AllReadyH.cons (i := 8) rfl (fun K hK => ?_) AllReadyH.nil)
    · go_simp
      refine (H.out.2.1 v0).mono ?_
      rintro e v1 ⟨rfl, hb⟩
      have F1 := F0.trans (hb.mono F0.size)
      have E1 : v1.heap[w6.heap.size]? = some (.cells #[.slice aA 2 cA] 25 (0, 0)) := (hb.block _ (lt_of_heap E0)).trans E0
      refine hK.out _ _ E1 (fun _ => ?_)
      clear hK K hb
      refine wpAnyH_ready (rs := [2, 8]) (by kernel_rfl) (by simp) ?_
      refine AllReadyH.cons (i := 2) rfl (fun K hK => ?_) (AllReadyH.cons (i := 8) rfl (fun K hK => ?_) AllReadyH.nil)
      · obtain ⟨v2, hv⟩ : ∃ v, v = v1.alloc (.cells #[.string t] 9) := ⟨_, rfl⟩
        have hb : Below v1.heap.size v1 v2 := by rw [hv]; exact (Below.refl _ _).alloc (Nat.le_refl _) _
        have ht1 : TextsAt v2 (some ⟨v1.heap.size, 0, none⟩) [t] := by rw [hv]; exact texts_one v1 t
        have F2 := F1.trans (hb.mono F1.size)
        have E2 : v2.heap[w6.heap.size]? = some (.cells #[.slice aA 2 cA] 25 (0, 0)) := (hb.block _ (lt_of_heap E1)).trans E1
        go_simp
        rw [← hv]
        clear hv
        refine hK.out _ _ E2 (fun _ => ?_)
        clear hK K hb
        refine wpAnyH_ready (rs := [3, 8]) (by kernel_rfl) (by simp) ?_
        refine AllReadyH.cons (i := 3) rfl (fun K hK => ?_) (AllReadyH.cons (i := 8) rfl (fun K hK => ?_) AllReadyH.nil)
        · go_simp
          refine (H.out.2.2.2.2.1 v2 aA _ cA 1 (H7.out.2.2.2.below F2) ht1).mono ?_
          rintro e v3 ⟨ab, cb, aq, cq, rfl, hoB0, -, hoQ0, hb⟩
          have F3 := F2.trans (hb.mono F2.size)
          have E3 : v3.heap[w6.heap.size]? = some (.cells #[.slice aA 2 cA] 25 (0, 0)) := (hb.block _ (lt_of_heap E2)).trans E2
          have hoB := hoB0.mono (show w7.heap.size ≤ v2.heap.size from F2.size)
          have hoQ := hoQ0.mono (show w7.heap.size ≤ v2.heap.size from F2.size)
          clear hoB0 hoQ0
          refine hK.out _ _ E3 (fun _ => ?_)
          clear hK K hb
          refine wpAnyH_take (i := 4) (v := ?_) rfl (by kernel_rfl) (by kernel_rfl) (by kernel_rfl) (fun _ _ _ h => h) (Or.inl ⟨by kernel_rfl, ?_⟩) E3 ?_
          rotate_left
          · (intro W hS; have k0 : W.cell? ⟨w6.heap.size, 0, none⟩ = some (.slice aA 2 cA) := (by rw [cell_of_row _ _ _ _ _ _ hS]; rfl); go_simp; try (with_reducible rfl))
          refine wpAnyH_take (i := 5) (v := ?_) rfl (by kernel_rfl) (by kernel_rfl) (by kernel_rfl) (fun _ _ _ h => h) (Or.inl ⟨by kernel_rfl, ?_⟩) E3 ?_
          rotate_left
          · (intro W hS; have k0 : W.cell? ⟨w6.heap.size, 0, none⟩ = some (.slice aA 2 cA) := (by rw [cell_of_row _ _ _ _ _ _ hS]; rfl); go_simp; try (with_reducible rfl))
          refine wpAnyH_take (i := 6) (v := ?_) rfl (by kernel_rfl) (by kernel_rfl) (by kernel_rfl) (fun _ _ _ h => h) (Or.inl ⟨by kernel_rfl, ?_⟩) E3 ?_
          rotate_left
          · (intro W hS; have k0 : W.cell? ⟨w6.heap.size, 0, none⟩ = some (.slice aA 2 cA) := (by rw [cell_of_row _ _ _ _ _ _ hS]; rfl); go_simp; try (with_reducible rfl))
          refine wpAnyH_take (i := 7) (v := ?_) rfl (by kernel_rfl) (by kernel_rfl) (by kernel_rfl) (fun _ _ _ h => h) (Or.inl ⟨by kernel_rfl, ?_⟩) E3 ?_
          rotate_left
          · (intro W hS; have k0 : W.cell? ⟨w6.heap.size, 0, none⟩ = some (.slice aA 2 cA) := (by rw [cell_of_row _ _ _ _ _ _ hS]; rfl); go_simp; try (with_reducible rfl))
          refine wpAnyH_ready (rs := [8]) (by kernel_rfl) (by simp) ?_
          refine AllReadyH.cons (i := 8) rfl (fun K hK => ?_) AllReadyH.nil
          obtain ⟨v4, hv⟩ : ∃ v, v = v3.alloc (.cells #[.slice none 0 0] 25) := ⟨_, rfl⟩
          have hb : Below v3.heap.size v3 v4 := by rw [hv]; exact (Below.refl _ _).alloc (Nat.le_refl _) _
          have gB : v4.heap[v3.heap.size]? = some (.cells #[.slice none 0 0] 25 (0, 0)) := by rw [hv]; exact heap_alloc_new _ _
          have F4 := F3.trans (hb.mono F3.size)
          have E4 : v4.heap[w6.heap.size]? = some (.cells #[.slice aA 2 cA] 25 (0, 0)) := (hb.block _ (lt_of_heap E3)).trans E3
          go_simp
          rw [← hv]
          clear hv
          have hgz := lt_of_heap gB
          have hgl : w7.heap.size ≤ v3.heap.size := F3.size
          have hdist : ∀ g, (Value.slice ab B.length cb).ownBlock = some g → g ≠ v3.heap.size := fun g hg => by have := (hoB.lt g hg).2; omega
          have hdistq : ∀ g, (Value.slice aq [(⟨t, 1⟩ : Po)].length cq).ownBlock = some g → g ≠ v3.heap.size := fun g hg => by have := (hoQ.lt g hg).2; omega
          have hoB := hoB.call hb
          have hoQ := hoQ.call hb
          refine hK.out _ _ E4 (fun _ => ?_)
          clear hK K hb
          have c9 : v4.cell? ⟨v3.heap.size, 0, none⟩ = some (.slice none 0 0) := by rw [cell_of_row _ _ _ _ _ _ gB]; rfl
          have f9 : v4.frozen? ⟨v3.heap.size, 0, none⟩ = false := frozen_of_row _ _ _ _ _ gB
          have hne : w6.heap.size ≠ v3.heap.size := by have := lt_of_heap H7.out.2.1; have := F0.size; have := hgl; omega
          have hN : (v4.setCell ⟨v3.heap.size, 0, none⟩ (.slice ab nb cb)).heap[v3.heap.size]? = some (.cells #[.slice ab nb cb] 25 (0, 0)) := by rw [heap_setCell_same _ _ _ _ _ _ gB]; rfl
          have hN2 := hoB.otherNe (g := v3.heap.size) (o := 0) (fun g hg => by have := hdist g hg; omega) (.slice ab nb cb)
          have hN3 := (hoQ.otherNe (g := v3.heap.size) (o := 0) (fun g hg => by have := hdistq g hg; omega) (.slice ab nb cb)).mono (show w.heap.size ≤ w7.heap.size from H7.out.1.size)
          have hN4 : Below w7.heap.size w7 (v4.setCell ⟨v3.heap.size, 0, none⟩ (.slice ab nb cb)) := F4.setCell (p := ⟨v3.heap.size, 0, none⟩) hgl _
          have HN := Lib.hid (And.intro hN (And.intro (rwAt_own hN2) (And.intro hN3 hN4)))
          have EZ := (heap_setCell_other v4 ⟨v3.heap.size, 0, none⟩ _ (.slice ab nb cb) hne).trans E4
          clear hN hN2 hN3 hN4 hoB hoQ gB
          refine wpAnyH_ready (rs := [9]) (by kernel_rfl) (by simp) ?_
          refine AllReadyH.cons (i := 9) rfl (fun K hK => ?_) AllReadyH.nil
          go_simp
          refine hK.out _ _ EZ (fun _ => ?_)
          clear hK K c9 f9
          refine wpAnyH_take (i := 10) (v := ?_) rfl (by kernel_rfl) (by kernel_rfl) (by kernel_rfl) (fun _ _ _ h => h) (Or.inl ⟨by kernel_rfl, ?_⟩) EZ ?_
          rotate_left
          · (intro W hS; have k0 : W.cell? ⟨w6.heap.size, 0, none⟩ = some (.slice aA 2 cA) := (by rw [cell_of_row _ _ _ _ _ _ hS]; rfl); go_simp; try (with_reducible rfl))
          refine wpAnyH_take (i := 11) (v := ?_) rfl (by kernel_rfl) (by kernel_rfl) (by kernel_rfl) (fun _ _ _ h => h) (Or.inl ⟨by kernel_rfl, ?_⟩) EZ ?_
          rotate_left
          · (intro W hS; have k0 : W.cell? ⟨w6.heap.size, 0, none⟩ = some (.slice aA 2 cA) := (by rw [cell_of_row _ _ _ _ _ _ hS]; rfl); go_simp; try (with_reducible rfl))
          refine wpAnyH_done (by kernel_rfl) ?_ _
          go_simp
          clear EZ
          generalize World.setCell _ _ _ = wz at *
          go_wp2_with fail
          go_meet
          exact ⟨_, ab, aq, cb, cq, rfl, rfl, rfl, HN.out.1, HN.out.2.1, HN.out.2.2.1, HN.out.2.2.2⟩
        · obtain ⟨v3, hv⟩ : ∃ v, v = v2.alloc (.cells #[.slice none 0 0] 25) := ⟨_, rfl⟩
          have hb : Below v2.heap.size v2 v3 := by rw [hv]; exact (Below.refl _ _).alloc (Nat.le_refl _) _
          have gB : v3.heap[v2.heap.size]? = some (.cells #[.slice none 0 0] 25 (0, 0)) := by rw [hv]; exact heap_alloc_new _ _
          have F3 := F2.trans (hb.mono F2.size)
          have E3 : v3.heap[w6.heap.size]? = some (.cells #[.slice aA 2 cA] 25 (0, 0)) := (hb.block _ (lt_of_heap E2)).trans E2
          go_simp
          rw [← hv]
          clear hv
          have hgz := lt_of_heap gB
          have hgl : w7.heap.size ≤ v2.heap.size := F2.size
          have ht1 := ht1.below hb
          refine hK.out _ _ E3 (fun _ => ?_)
          clear hK K hb
          refine wpAnyH_ready (rs := [3]) (by kernel_rfl) (by simp) ?_
          refine AllReadyH.cons (i := 3) rfl (fun K hK => ?_) AllReadyH.nil
          go_simp
          refine (H.out.2.2.2.2.1 v3 aA _ cA 1 (H7.out.2.2.2.below F3) ht1).mono ?_
          rintro e v4 ⟨ab, cb, aq, cq, rfl, hoB0, -, hoQ0, hb⟩
          have F4 := F3.trans (hb.mono F3.size)
          have E4 : v4.heap[w6.heap.size]? = some (.cells #[.slice aA 2 cA] 25 (0, 0)) := (hb.block _ (lt_of_heap E3)).trans E3
          have gB := (hb.block _ (lt_of_heap gB)).trans gB
          have hoB := hoB0.mono (show w7.heap.size ≤ v3.heap.size from F3.size)
          have hoQ := hoQ0.mono (show w7.heap.size ≤ v3.heap.size from F3.size)
          have hdist : ∀ g, (Value.slice ab B.length cb).ownBlock = some g → g ≠ v2.heap.size := fun g hg => by have := (hoB0.lt g hg).1; omega
          have hdistq : ∀ g, (Value.slice aq [(⟨t, 1⟩ : Po)].length cq).ownBlock = some g → g ≠ v2.heap.size := fun g hg => by have := (hoQ0.lt g hg).1; omega
          clear hoB0 hoQ0
          have hgz := Nat.lt_of_lt_of_le hgz hb.size
          refine hK.out _ _ E4 (fun _ => ?_)
          clear hK K hb
          refine wpAnyH_take (i := 4) (v := ?_) rfl (by kernel_rfl) (by kernel_rfl) (by kernel_rfl) (fun _ _ _ h => h) (Or.inl ⟨by kernel_rfl, ?_⟩) E4 ?_
          rotate_left
          · (intro W hS; have k0 : W.cell? ⟨w6.heap.size, 0, none⟩ = some (.slice aA 2 cA) := (by rw [cell_of_row _ _ _ _ _ _ hS]; rfl); go_simp; try (with_reducible rfl))
          refine wpAnyH_take (i := 5) (v := ?_) rfl (by kernel_rfl) (by kernel_rfl) (by kernel_rfl) (fun _ _ _ h => h) (Or.inl ⟨by kernel_rfl, ?_⟩) E4 ?_
          rotate_left
          · (intro W hS; have k0 : W.cell? ⟨w6.heap.size, 0, none⟩ = some (.slice aA 2 cA) := (by rw [cell_of_row _ _ _ _ _ _ hS]; rfl); go_simp; try (with_reducible rfl))
          refine wpAnyH_take (i := 6) (v := ?_) rfl (by kernel_rfl) (by kernel_rfl) (by kernel_rfl) (fun _ _ _ h => h) (Or.inl ⟨by kernel_rfl, ?_⟩) E4 ?_
          rotate_left
          · (intro W hS; have k0 : W.cell? ⟨w6.heap.size, 0, none⟩ = some (.slice aA 2 cA) := (by rw [cell_of_row _ _ _ _ _ _ hS]; rfl); go_simp; try (with_reducible rfl))
          refine wpAnyH_take (i := 7) (v := ?_) rfl (by kernel_rfl) (by kernel_rfl) (by kernel_rfl) (fun _ _ _ h => h) (Or.inl ⟨by kernel_rfl, ?_⟩) E4 ?_
          rotate_left
          · (intro W hS; have k0 : W.cell? ⟨w6.heap.size, 0, none⟩ = some (.slice aA 2 cA) := (by rw [cell_of_row _ _ _ _ _ _ hS]; rfl); go_simp; try (with_reducible rfl))
          have c9 : v4.cell? ⟨v2.heap.size, 0, none⟩ = some (.slice none 0 0) := by rw [cell_of_row _ _ _ _ _ _ gB]; rfl
          have f9 : v4.frozen? ⟨v2.heap.size, 0, none⟩ = false := frozen_of_row _ _ _ _ _ gB
          have hne : w6.heap.size ≠ v2.heap.size := by have := lt_of_heap H7.out.2.1; have := F0.size; have := hgl; omega
          have hN : (v4.setCell ⟨v2.heap.size, 0, none⟩ (.slice ab nb cb)).heap[v2.heap.size]? = some (.cells #[.slice ab nb cb] 25 (0, 0)) := by rw [heap_setCell_same _ _ _ _ _ _ gB]; rfl
          have hN2 := hoB.otherNe (g := v2.heap.size) (o := 0) (fun g hg => by have := hdist g hg; omega) (.slice ab nb cb)
          have hN3 := (hoQ.otherNe (g := v2.heap.size) (o := 0) (fun g hg => by have := hdistq g hg; omega) (.slice ab nb cb)).mono (show w.heap.size ≤ w7.heap.size from H7.out.1.size)
          have hN4 : Below w7.heap.size w7 (v4.setCell ⟨v2.heap.size, 0, none⟩ (.slice ab nb cb)) := F4.setCell (p := ⟨v2.heap.size, 0, none⟩) hgl _
          have HN := Lib.hid (And.intro hN (And.intro (rwAt_own hN2) (And.intro hN3 hN4)))
          have EZ := (heap_setCell_other v4 ⟨v2.heap.size, 0, none⟩ _ (.slice ab nb cb) hne).trans E4
          clear hN hN2 hN3 hN4 hoB hoQ gB
          refine wpAnyH_ready (rs := [9]) (by kernel_rfl) (by simp) ?_
          refine AllReadyH.cons (i := 9) rfl (fun K hK => ?_) AllReadyH.nil
          go_simp
          refine hK.out _ _ EZ (fun _ => ?_)
          clear hK K c9 f9
          refine wpAnyH_take (i := 10) (v := ?_) rfl (by kernel_rfl) (by kernel_rfl) (by kernel_rfl) (fun _ _ _ h => h) (Or.inl ⟨by kernel_rfl, ?_⟩) EZ ?_
          rotate_left
          · (intro W hS; have k0 : W.cell? ⟨w6.heap.size, 0, none⟩ = some (.slice aA 2 cA) := (by rw [cell_of_row _ _ _ _ _ _ hS]; rfl); go_simp; try (with_reducible rfl))
          refine wpAnyH_take (i := 11) (v := ?_) rfl (by kernel_rfl) (by kernel_rfl) (by kernel_rfl) (fun _ _ _ h => h) (Or.inl ⟨by kernel_rfl, ?_⟩) EZ ?_
          rotate_left
          · (intro W hS; have k0 : W.cell? ⟨w6.heap.size, 0, none⟩ = some (.slice aA 2 cA) := (by rw [cell_of_row _ _ _ _ _ _ hS]; rfl); go_simp; try (with_reducible rfl))
          refine wpAnyH_done (by kernel_rfl) ?_ _
          go_simp
          clear EZ
          generalize World.setCell _ _ _ = wz at *
          go_wp2_with fail
          go_meet
          exact ⟨_, ab, aq, cb, cq, rfl, rfl, rfl, HN.out.1, HN.out.2.1, HN.out.2.2.1, HN.out.2.2.2⟩
      · obtain ⟨v2, hv⟩ : ∃ v, v = v1.alloc (.cells #[.slice none 0 0] 25) := ⟨_, rfl⟩
        have hb : Below v1.heap.size v1 v2 := by rw [hv]; exact (Below.refl _ _).alloc (Nat.le_refl _) _
        have gB : v2.heap[v1.heap.size]? = some (.cells #[.slice none 0 0] 25 (0, 0)) := by rw [hv]; exact heap_alloc_new _ _
        have F2 := F1.trans (hb.mono F1.size)
        have E2 : v2.heap[w6.heap.size]? = some (.cells #[.slice aA 2 cA] 25 (0, 0)) := (hb.block _ (lt_of_heap E1)).trans E1
        go_simp
        rw [← hv]
        clear hv
        have hgz := lt_of_heap gB
        have hgl : w7.heap.size ≤ v1.heap.size := F1.size
        refine hK.out _ _ E2 (fun _ => ?_)
        clear hK K hb
        refine wpAnyH_ready (rs := [2]) (by kernel_rfl) (by simp) ?_
        refine AllReadyH.cons (i := 2) rfl (fun K hK => ?_) AllReadyH.nil
        obtain ⟨v3, hv⟩ : ∃ v, v = v2.alloc (.cells #[.string t] 9) := ⟨_, rfl⟩
        have hb : Below v2.heap.size v2 v3 := by rw [hv]; exact (Below.refl _ _).alloc (Nat.le_refl _) _
        have ht1 : TextsAt v3 (some ⟨v2.heap.size, 0, none⟩) [t] := by rw [hv]; exact texts_one v2 t
        have F3 := F2.trans (hb.mono F2.size)
        have E3 : v3.heap[w6.heap.size]? = some (.cells #[.slice aA 2 cA] 25 (0, 0)) := (hb.block _ (lt_of_heap E2)).trans E2
        have gB := (hb.block _ (lt_of_heap gB)).trans gB
        go_simp
        rw [← hv]
        clear hv
        have hgz := Nat.lt_of_lt_of_le hgz hb.size
        refine hK.out _ _ E3 (fun _ => ?_)
        clear hK K hb
        refine wpAnyH_ready (rs := [3]) (by kernel_rfl) (by simp) ?_
        refine AllReadyH.cons (i := 3) rfl (fun K hK => ?_) AllReadyH.nil
        go_simp
        refine (H.out.2.2.2.2.1 v3 aA _ cA 1 (H7.out.2.2.2.below F3) ht1).mono ?_
        rintro e v4 ⟨ab, cb, aq, cq, rfl, hoB0, -, hoQ0, hb⟩
        have F4 := F3.trans (hb.mono F3.size)
        have E4 : v4.heap[w6.heap.size]? = some (.cells #[.slice aA 2 cA] 25 (0, 0)) := (hb.block _ (lt_of_heap E3)).trans E3
        have gB := (hb.block _ (lt_of_heap gB)).trans gB
        have hoB := hoB0.mono (show w7.heap.size ≤ v3.heap.size from F3.size)
        have hoQ := hoQ0.mono (show w7.heap.size ≤ v3.heap.size from F3.size)
        have hdist : ∀ g, (Value.slice ab B.length cb).ownBlock = some g → g ≠ v1.heap.size := fun g hg => by have := (hoB0.lt g hg).1; omega
        have hdistq : ∀ g, (Value.slice aq [(⟨t, 1⟩ : Po)].length cq).ownBlock = some g → g ≠ v1.heap.size := fun g hg => by have := (hoQ0.lt g hg).1; omega
        clear hoB0 hoQ0
        have hgz := Nat.lt_of_lt_of_le hgz hb.size
        refine hK.out _ _ E4 (fun _ => ?_)
        clear hK K hb
        refine wpAnyH_take (i := 4) (v := ?_) rfl (by kernel_rfl) (by kernel_rfl) (by kernel_rfl) (fun _ _ _ h => h) (Or.inl ⟨by kernel_rfl, ?_⟩) E4 ?_
        rotate_left
        · (intro W hS; have k0 : W.cell? ⟨w6.heap.size, 0, none⟩ = some (.slice aA 2 cA) := (by rw [cell_of_row _ _ _ _ _ _ hS]; rfl); go_simp; try (with_reducible rfl))
        refine wpAnyH_take (i := 5) (v := ?_) rfl (by kernel_rfl) (by kernel_rfl) (by kernel_rfl) (fun _ _ _ h => h) (Or.inl ⟨by kernel_rfl, ?_⟩) E4 ?_
        rotate_left
        · (intro W hS; have k0 : W.cell? ⟨w6.heap.size, 0, none⟩ = some (.slice aA 2 cA) := (by rw [cell_of_row _ _ _ _ _ _ hS]; rfl); go_simp; try (with_reducible rfl))
        refine wpAnyH_take (i := 6) (v := ?_) rfl (by kernel_rfl) (by kernel_rfl) (by kernel_rfl) (fun _ _ _ h => h) (Or.inl ⟨by kernel_rfl, ?_⟩) E4 ?_
        rotate_left
        · (intro W hS; have k0 : W.cell? ⟨w6.heap.size, 0, none⟩ = some (.slice aA 2 cA) := (by rw [cell_of_row _ _ _ _ _ _ hS]; rfl); go_simp; try (with_reducible rfl))
        refine wpAnyH_take (i := 7) (v := ?_) rfl (by kernel_rfl) (by kernel_rfl) (by kernel_rfl) (fun _ _ _ h => h) (Or.inl ⟨by kernel_rfl, ?_⟩) E4 ?_
        rotate_left
        · (intro W hS; have k0 : W.cell? ⟨w6.heap.size, 0, none⟩ = some (.slice aA 2 cA) := (by rw [cell_of_row _ _ _ _ _ _ hS]; rfl); go_simp; try (with_reducible rfl))
        have c9 : v4.cell? ⟨v1.heap.size, 0, none⟩ = some (.slice none 0 0) := by rw [cell_of_row _ _ _ _ _ _ gB]; rfl
        have f9 : v4.frozen? ⟨v1.heap.size, 0, none⟩ = false := frozen_of_row _ _ _ _ _ gB
        have hne : w6.heap.size ≠ v1.heap.size := by have := lt_of_heap H7.out.2.1; have := F0.size; have := hgl; omega
        have hN : (v4.setCell ⟨v1.heap.size, 0, none⟩ (.slice ab nb cb)).heap[v1.heap.size]? = some (.cells #[.slice ab nb cb] 25 (0, 0)) := by rw [heap_setCell_same _ _ _ _ _ _ gB]; rfl
        have hN2 := hoB.otherNe (g := v1.heap.size) (o := 0) (fun g hg => by have := hdist g hg; omega) (.slice ab nb cb)
        have hN3 := (hoQ.otherNe (g := v1.heap.size) (o := 0) (fun g hg => by have := hdistq g hg; omega) (.slice ab nb cb)).mono (show w.heap.size ≤ w7.heap.size from H7.out.1.size)
        have hN4 : Below w7.heap.size w7 (v4.setCell ⟨v1.heap.size, 0, none⟩ (.slice ab nb cb)) := F4.setCell (p := ⟨v1.heap.size, 0, none⟩) hgl _
        have HN := Lib.hid (And.intro hN (And.intro (rwAt_own hN2) (And.intro hN3 hN4)))
        have EZ := (heap_setCell_other v4 ⟨v1.heap.size, 0, none⟩ _ (.slice ab nb cb) hne).trans E4
        clear hN hN2 hN3 hN4 hoB hoQ gB
        refine wpAnyH_ready (rs := [9]) (by kernel_rfl) (by simp) ?_
        refine AllReadyH.cons (i := 9) rfl (fun K hK => ?_) AllReadyH.nil
        go_simp
        refine hK.out _ _ EZ (fun _ => ?_)
        clear hK K c9 f9
        refine wpAnyH_take (i := 10) (v := ?_) rfl (by kernel_rfl) (by kernel_rfl) (by kernel_rfl) (fun _ _ _ h => h) (Or.inl ⟨by kernel_rfl, ?_⟩) EZ ?_
        rotate_left
        · (intro W hS; have k0 : W.cell? ⟨w6.heap.size, 0, none⟩ = some (.slice aA 2 cA) := (by rw [cell_of_row _ _ _ _ _ _ hS]; rfl); go_simp; try (with_reducible rfl))
        refine wpAnyH_take (i := 11) (v := ?_) rfl (by kernel_rfl) (by kernel_rfl) (by kernel_rfl) (fun _ _ _ h => h) (Or.inl ⟨by kernel_rfl, ?_⟩) EZ ?_
        rotate_left
        · (intro W hS; have k0 : W.cell? ⟨w6.heap.size, 0, none⟩ = some (.slice aA 2 cA) := (by rw [cell_of_row _ _ _ _ _ _ hS]; rfl); go_simp; try (with_reducible rfl))
        refine wpAnyH_done (by kernel_rfl) ?_ _
        go_simp
        clear EZ
        generalize World.setCell _ _ _ = wz at *
        go_wp2_with fail
        go_meet
        exact ⟨_, ab, aq, cb, cq, rfl, rfl, rfl, HN.out.1, HN.out.2.1, HN.out.2.2.1, HN.out.2.2.2⟩
    · obtain ⟨v1, hv⟩ : ∃ v, v = v0.alloc (.cells #[.slice none 0 0] 25) := ⟨_, rfl⟩
      have hb : Below v0.heap.size v0 v1 := by rw [hv]; exact (Below.refl _ _).alloc (Nat.le_refl _) _
      have gB : v1.heap[v0.heap.size]? = some (.cells #[.slice none 0 0] 25 (0, 0)) := by rw [hv]; exact heap_alloc_new _ _
      have F1 := F0.trans (hb.mono F0.size)
      have E1 : v1.heap[w6.heap.size]? = some (.cells #[.slice aA 2 cA] 25 (0, 0)) := (hb.block _ (lt_of_heap E0)).trans E0
      go_simp
      rw [← hv]
      clear hv
      have hgz := lt_of_heap gB
      have hgl : w7.heap.size ≤ v0.heap.size := F0.size
      refine hK.out _ _ E1 (fun _ => ?_)
      clear hK K hb
      refine wpAnyH_ready (rs := [1]) (by kernel_rfl) (by simp) ?_
      refine AllReadyH.cons (i := 1) rfl (fun K hK => ?_) AllReadyH.nil
      go_simp
      refine (H.out.2.1 v1).mono ?_
      rintro e v2 ⟨rfl, hb⟩
      have F2 := F1.trans (hb.mono F1.size)
      have E2 : v2.heap[w6.heap.size]? = some (.cells #[.slice aA 2 cA] 25 (0, 0)) := (hb.block _ (lt_of_heap E1)).trans E1
      have gB := (hb.block _ (lt_of_heap gB)).trans gB
      have hgz := Nat.lt_of_lt_of_le hgz hb.size
      refine hK.out _ _ E2 (fun _ => ?_)
      clear hK K hb
      refine wpAnyH_ready (rs := [2]) (by kernel_rfl) (by simp) ?_
      refine AllReadyH.cons (i := 2) rfl (fun K hK => ?_) AllReadyH.nil
      obtain ⟨v3, hv⟩ : ∃ v, v = v2.alloc (.cells #[.string t] 9) := ⟨_, rfl⟩
      have hb : Below v2.heap.size v2 v3 := by rw [hv]; exact (Below.refl _ _).alloc (Nat.le_refl _) _
      have ht1 : TextsAt v3 (some ⟨v2.heap.size, 0, none⟩) [t] := by rw [hv]; exact texts_one v2 t
      have F3 := F2.trans (hb.mono F2.size)
      have E3 : v3.heap[w6.heap.size]? = some (.cells #[.slice aA 2 cA] 25 (0, 0)) := (hb.block _ (lt_of_heap E2)).trans E2
      have gB := (hb.block _ (lt_of_heap gB)).trans gB
      go_simp
      rw [← hv]
      clear hv
      have hgz := Nat.lt_of_lt_of_le hgz hb.size
      refine hK.out _ _ E3 (fun _ => ?_)
      clear hK K hb
      refine wpAnyH_ready (rs := [3]) (by kernel_rfl) (by simp) ?_
      refine AllReadyH.cons (i := 3) rfl (fun K hK => ?_) AllReadyH.nil
      go_simp
      refine (H.out.2.2.2.2.1 v3 aA _ cA 1 (H7.out.2.2.2.below F3) ht1).mono ?_
      rintro e v4 ⟨ab, cb, aq, cq, rfl, hoB0, -, hoQ0, hb⟩
      have F4 := F3.trans (hb.mono F3.size)
      have E4 : v4.heap[w6.heap.size]? = some (.cells #[.slice aA 2 cA] 25 (0, 0)) := (hb.block _ (lt_of_heap E3)).trans E3
      have gB := (hb.block _ (lt_of_heap gB)).trans gB
      have hoB := hoB0.mono (show w7.heap.size ≤ v3.heap.size from F3.size)
      have hoQ := hoQ0.mono (show w7.heap.size ≤ v3.heap.size from F3.size)
      have hdist : ∀ g, (Value.slice ab B.length cb).ownBlock = some g → g ≠ v0.heap.size := fun g hg => by have := (hoB0.lt g hg).1; omega
      have hdistq : ∀ g, (Value.slice aq [(⟨t, 1⟩ : Po)].length cq).ownBlock = some g → g ≠ v0.heap.size := fun g hg => by have := (hoQ0.lt g hg).1; omega
      clear hoB0 hoQ0
      have hgz := Nat.lt_of_lt_of_le hgz hb.size
      refine hK.out _ _ E4 (fun _ => ?_)
      clear hK K hb
      refine wpAnyH_take (i := 4) (v := ?_) rfl (by kernel_rfl) (by kernel_rfl) (by kernel_rfl) (fun _ _ _ h => h) (Or.inl ⟨by kernel_rfl, ?_⟩) E4 ?_
      rotate_left
      · (intro W hS; have k0 : W.cell? ⟨w6.heap.size, 0, none⟩ = some (.slice aA 2 cA) := (by rw [cell_of_row _ _ _ _ _ _ hS]; rfl); go_simp; try (with_reducible rfl))
      refine wpAnyH_take (i := 5) (v := ?_) rfl (by kernel_rfl) (by kernel_rfl) (by kernel_rfl) (fun _ _ _ h => h) (Or.inl ⟨by kernel_rfl, ?_⟩) E4 ?_
      rotate_left
      · (intro W hS; have k0 : W.cell? ⟨w6.heap.size, 0, none⟩ = some (.slice aA 2 cA) := (by rw [cell_of_row _ _ _ _ _ _ hS]; rfl); go_simp; try (with_reducible rfl))
      refine wpAnyH_take (i := 6) (v := ?_) rfl (by kernel_rfl) (by kernel_rfl) (by kernel_rfl) (fun _ _ _ h => h) (Or.inl ⟨by kernel_rfl, ?_⟩) E4 ?_
      rotate_left
      · (intro W hS; have k0 : W.cell? ⟨w6.heap.size, 0, none⟩ = some (.slice aA 2 cA) := (by rw [cell_of_row _ _ _ _ _ _ hS]; rfl); go_simp; try (with_reducible rfl))
      refine wpAnyH_take (i := 7) (v := ?_) rfl (by kernel_rfl) (by kernel_rfl) (by kernel_rfl) (fun _ _ _ h => h) (Or.inl ⟨by kernel_rfl, ?_⟩) E4 ?_
      rotate_left
      · (intro W hS; have k0 : W.cell? ⟨w6.heap.size, 0, none⟩ = some (.slice aA 2 cA) := (by rw [cell_of_row _ _ _ _ _ _ hS]; rfl); go_simp; try (with_reducible rfl))
      have c9 : v4.cell? ⟨v0.heap.size, 0, none⟩ = some (.slice none 0 0) := by rw [cell_of_row _ _ _ _ _ _ gB]; rfl
      have f9 : v4.frozen? ⟨v0.heap.size, 0, none⟩ = false := frozen_of_row _ _ _ _ _ gB
      have hne : w6.heap.size ≠ v0.heap.size := by have := lt_of_heap H7.out.2.1; have := F0.size; have := hgl; omega
      have hN : (v4.setCell ⟨v0.heap.size, 0, none⟩ (.slice ab nb cb)).heap[v0.heap.size]? = some (.cells #[.slice ab nb cb] 25 (0, 0)) := by rw [heap_setCell_same _ _ _ _ _ _ gB]; rfl
      have hN2 := hoB.otherNe (g := v0.heap.size) (o := 0) (fun g hg => by have := hdist g hg; omega) (.slice ab nb cb)
      have hN3 := (hoQ.otherNe (g := v0.heap.size) (o := 0) (fun g hg => by have := hdistq g hg; omega) (.slice ab nb cb)).mono (show w.heap.size ≤ w7.heap.size from H7.out.1.size)
      have hN4 : Below w7.heap.size w7 (v4.setCell ⟨v0.heap.size, 0, none⟩ (.slice ab nb cb)) := F4.setCell (p := ⟨v0.heap.size, 0, none⟩) hgl _
      have HN := Lib.hid (And.intro hN (And.intro (rwAt_own hN2) (And.intro hN3 hN4)))
      have EZ := (heap_setCell_other v4 ⟨v0.heap.size, 0, none⟩ _ (.slice ab nb cb) hne).trans E4
      clear hN hN2 hN3 hN4 hoB hoQ gB
      refine wpAnyH_ready (rs := [9]) (by kernel_rfl) (by simp) ?_
      refine AllReadyH.cons (i := 9) rfl (fun K hK => ?_) AllReadyH.nil
      go_simp
      refine hK.out _ _ EZ (fun _ => ?_)
      clear hK K c9 f9
      refine wpAnyH_take (i := 10) (v := ?_) rfl (by kernel_rfl) (by kernel_rfl) (by kernel_rfl) (fun _ _ _ h => h) (Or.inl ⟨by kernel_rfl, ?_⟩) EZ ?_
      rotate_left
      · (intro W hS; have k0 : W.cell? ⟨w6.heap.size, 0, none⟩ = some (.slice aA 2 cA) := (by rw [cell_of_row _ _ _ _ _ _ hS]; rfl); go_simp; try (with_reducible rfl))
      refine wpAnyH_take (i := 11) (v := ?_) rfl (by kernel_rfl) (by kernel_rfl) (by kernel_rfl) (fun _ _ _ h => h) (Or.inl ⟨by kernel_rfl, ?_⟩) EZ ?_
      rotate_left
      · (intro W hS; have k0 : W.cell? ⟨w6.heap.size, 0, none⟩ = some (.slice aA 2 cA) := (by rw [cell_of_row _ _ _ _ _ _ hS]; rfl); go_simp; try (with_reducible rfl))
      refine wpAnyH_done (by kernel_rfl) ?_ _
      go_simp
      clear EZ
      generalize World.setCell _ _ _ = wz at *
      go_wp2_with fail
      go_meet
      exact ⟨_, ab, aq, cb, cq, rfl, rfl, rfl, HN.out.1, HN.out.2.1, HN.out.2.2.1, HN.out.2.2.2⟩
  case rest =>
    obtain ⟨gb, ab, aq, cb, cq, rfl, rfl, rfl, hgb, hRB, hoq, hbc⟩ := hcut
    have H8 := Lib.hid (And.intro hgb (And.intro hRB (And.intro hoq hbc)))
    clear hgb hRB hoq hbc
    obtain ⟨wC, hwC⟩ : ∃ wC, wC = wc := ⟨_, rfl⟩
    subst hwC
    go_upto_region 5 with fail
    go_cut [9, 10] (fun y q wd => ∃ (gr : Nat), y = .pointer (some ⟨gr, 0, none⟩) ∧ q = .bool true ∧ wd.heap[gr]? = some (.cells (rwCs ⟨t, 2, 1⟩) 41 (0, 0)) ∧ Below wC.heap.size wC wd)
    case first =>
      go_wp2_with fail
      refine wp_region_held (S := fun W : World => W.heap[gb]? = some (.cells #[.slice ab nb cb] 25 (0, 0))) (by kernel_rfl) ?_
      change wpAnyH _ _ _ _ _ _ _ _ (World.drew _)
      generalize hv0 : World.drew _ = v0
      have E0 : v0.heap[gb]? = some (.cells #[.slice ab nb cb] 25 (0, 0)) := by rw [← hv0]; exact (show wC.drew.heap[gb]? = _ from H8.out.1)
      have F0 : Below wC.heap.size wC v0 := by rw [← hv0]; exact ((Below.refl _ _).drew)
      clear hv0
      refine wpAnyH_take (i := 0) (v := ?_) rfl (by kernel_rfl) (by kernel_rfl) (by kernel_rfl) (fun _ _ _ h => h) (Or.inl ⟨by kernel_rfl, ?_⟩) E0 ?_
      rotate_left
      · (intro W hS; have k0 : W.cell? ⟨gb, 0, none⟩ = some (.slice ab nb cb) := (by rw [cell_of_row _ _ _ _ _ _ hS]; rfl); go_simp; try (with_reducible rfl))
      refine wpAnyH_ready (rs := [1, 6]) (by kernel_rfl) (by simp) ?_
      refine AllReadyH.cons (i := 1) rfl (fun K hK => ?_) (AllReadyH.cons (i := 6) rfl (fun K hK => ?_) AllReadyH.nil)
      · go_simp
        refine (H.out.2.1 v0).mono ?_
        rintro e v1 ⟨rfl, hb⟩
        have F1 := F0.trans (hb.mono F0.size)
        have E1 : v1.heap[gb]? = some (.cells #[.slice ab nb cb] 25 (0, 0)) := (hb.block _ (lt_of_heap E0)).trans E0
        refine hK.out _ _ E1 (fun _ => ?_)
        clear hK K hb
        refine wpAnyH_ready (rs := [2, 6]) (by kernel_rfl) (by simp) ?_
        refine AllReadyH.cons (i := 2) rfl (fun K hK => ?_) (AllReadyH.cons (i := 6) rfl (fun K hK => ?_) AllReadyH.nil)
        · go_simp
          refine (H.out.2.2.2.2.2.1 v1 ab cb (H8.out.2.1.below F1)).mono ?_
          rintro e v2 ⟨rfl, hb⟩
          have F2 := F1.trans (hb.mono F1.size)
          have E2 : v2.heap[gb]? = some (.cells #[.slice ab nb cb] 25 (0, 0)) := (hb.block _ (lt_of_heap E1)).trans E1
          refine hK.out _ _ E2 (fun _ => ?_)
          clear hK K hb
          refine wpAnyH_take (i := 3) (v := ?_) rfl (by kernel_rfl) (by kernel_rfl) (by kernel_rfl) (fun _ _ _ h => h) (Or.inl ⟨by kernel_rfl, ?_⟩) E2 ?_
          rotate_left
          · (intro W hS; have k0 : W.cell? ⟨gb, 0, none⟩ = some (.slice ab nb cb) := (by rw [cell_of_row _ _ _ _ _ _ hS]; rfl); go_simp; try (with_reducible rfl))
          refine wpAnyH_take (i := 4) (v := ?_) rfl (by kernel_rfl) (by kernel_rfl) (by kernel_rfl) (fun _ _ _ h => h) (Or.inl ⟨by kernel_rfl, ?_⟩) E2 ?_
          rotate_left
          · (intro W hS; have k0 : W.cell? ⟨gb, 0, none⟩ = some (.slice ab nb cb) := (by rw [cell_of_row _ _ _ _ _ _ hS]; rfl); go_simp; try (with_reducible rfl))
          refine wpAnyH_take (i := 5) (v := ?_) rfl (by kernel_rfl) (by kernel_rfl) (by kernel_rfl) (fun _ _ _ h => h) (Or.inl ⟨by kernel_rfl, ?_⟩) E2 ?_
          rotate_left
          · (intro W hS; have k0 : W.cell? ⟨gb, 0, none⟩ = some (.slice ab nb cb) := (by rw [cell_of_row _ _ _ _ _ _ hS]; rfl); go_simp; try (with_reducible rfl))
          refine wpAnyH_ready (rs := [6]) (by kernel_rfl) (by simp) ?_
          refine AllReadyH.cons (i := 6) rfl (fun K hK => ?_) AllReadyH.nil
          obtain ⟨v3, hv⟩ : ∃ v, v = v2.alloc (.cells (rwCs Ix.Rw.zero) 41) := ⟨_, rfl⟩
          have hb : Below v2.heap.size v2 v3 := by rw [hv]; exact (Below.refl _ _).alloc (Nat.le_refl _) _
          have gB : v3.heap[v2.heap.size]? = some (.cells (rwCs Ix.Rw.zero) 41 (0, 0)) := by rw [hv]; exact heap_alloc_new _ _
          have F3 := F2.trans (hb.mono F2.size)
          have E3 : v3.heap[gb]? = some (.cells #[.slice ab nb cb] 25 (0, 0)) := (hb.block _ (lt_of_heap E2)).trans E2
          simp only [rwCs, Ix.Rw.zero] at hv
          go_simp
          rw [← hv]
          clear hv
          have hgz := lt_of_heap gB
          have hgl : wC.heap.size ≤ v2.heap.size := F2.size
          refine hK.out _ _ E3 (fun _ => ?_)
          clear hK K hb
          obtain ⟨d0, d1, d2⟩ := row3 gB
          simp only [Ix.Rw.zero] at d0 d1 d2
          have f9 : ∀ j, v3.frozen? ⟨v2.heap.size, j, none⟩ = false := fun j => frozen_of_row _ _ _ _ _ gB
          have hne : gb ≠ v2.heap.size := by have := lt_of_heap H8.out.1; omega
          have hN : (((v3.setCell ⟨v2.heap.size, 0, none⟩ (.string t)).setCell ⟨v2.heap.size, 1, none⟩ (.int .i64 2)).setCell ⟨v2.heap.size, 2, none⟩ (.int .i64 1)).heap[v2.heap.size]? = some (.cells (rwCs ⟨t, 2, 1⟩) 41 (0, 0)) := by rw [heap_setCell_same _ _ _ _ _ _ (heap_setCell_same _ _ _ _ _ _ (heap_setCell_same _ _ _ _ _ _ gB))]; rfl
          have hN4 : Below wC.heap.size wC (((v3.setCell ⟨v2.heap.size, 0, none⟩ (.string t)).setCell ⟨v2.heap.size, 1, none⟩ (.int .i64 2)).setCell ⟨v2.heap.size, 2, none⟩ (.int .i64 1)) := rput3 F3 hgl _ _ _
          have EZ := (heap_setCell_other _ ⟨v2.heap.size, 2, none⟩ _ (.int .i64 1) hne).trans ((heap_setCell_other _ ⟨v2.heap.size, 1, none⟩ _ (.int .i64 2) hne).trans ((heap_setCell_other v3 ⟨v2.heap.size, 0, none⟩ _ (.string t) hne).trans E3))
          have HN := Lib.hid (And.intro hN hN4)
          clear hN hN4 gB
          refine wpAnyH_ready (rs := [7]) (by kernel_rfl) (by simp) ?_
          refine AllReadyH.cons (i := 7) rfl (fun K hK => ?_) AllReadyH.nil
          go_simp
          refine hK.out _ _ EZ (fun _ => ?_)
          clear hK K d0 d1 d2 f9
          refine wpAnyH_take (i := 8) (v := ?_) rfl (by kernel_rfl) (by kernel_rfl) (by kernel_rfl) (fun _ _ _ h => h) (Or.inl ⟨by kernel_rfl, ?_⟩) EZ ?_
          rotate_left
          · (intro W hS; have k0 : W.cell? ⟨gb, 0, none⟩ = some (.slice ab nb cb) := (by rw [cell_of_row _ _ _ _ _ _ hS]; rfl); go_simp; try (with_reducible rfl))
          refine wpAnyH_done (by kernel_rfl) ?_ _
          go_simp
          clear EZ
          generalize World.setCell _ _ _ = wz at *
          go_wp2_with fail
          go_meet
          exact ⟨_, rfl, rfl, HN.out.1, HN.out.2⟩
        · obtain ⟨v2, hv⟩ : ∃ v, v = v1.alloc (.cells (rwCs Ix.Rw.zero) 41) := ⟨_, rfl⟩
          have hb : Below v1.heap.size v1 v2 := by rw [hv]; exact (Below.refl _ _).alloc (Nat.le_refl _) _
          have gB : v2.heap[v1.heap.size]? = some (.cells (rwCs Ix.Rw.zero) 41 (0, 0)) := by rw [hv]; exact heap_alloc_new _ _
          have F2 := F1.trans (hb.mono F1.size)
          have E2 : v2.heap[gb]? = some (.cells #[.slice ab nb cb] 25 (0, 0)) := (hb.block _ (lt_of_heap E1)).trans E1
          simp only [rwCs, Ix.Rw.zero] at hv
          go_simp
          rw [← hv]
          clear hv
          have hgz := lt_of_heap gB
          have hgl : wC.heap.size ≤ v1.heap.size := F1.size
          refine hK.out _ _ E2 (fun _ => ?_)
          clear hK K hb
          refine wpAnyH_ready (rs := [2]) (by kernel_rfl) (by simp) ?_
          refine AllReadyH.cons (i := 2) rfl (fun K hK => ?_) AllReadyH.nil
          go_simp
          refine (H.out.2.2.2.2.2.1 v2 ab cb (H8.out.2.1.below F2)).mono ?_
          rintro e v3 ⟨rfl, hb⟩
          have F3 := F2.trans (hb.mono F2.size)
          have E3 : v3.heap[gb]? = some (.cells #[.slice ab nb cb] 25 (0, 0)) := (hb.block _ (lt_of_heap E2)).trans E2
          have gB := (hb.block _ (lt_of_heap gB)).trans gB
          have hgz := Nat.lt_of_lt_of_le hgz hb.size
          refine hK.out _ _ E3 (fun _ => ?_)
          clear hK K hb
          refine wpAnyH_take (i := 3) (v := ?_) rfl (by kernel_rfl) (by kernel_rfl) (by kernel_rfl) (fun _ _ _ h => h) (Or.inl ⟨by kernel_rfl, ?_⟩) E3 ?_
          rotate_left
          · (intro W hS; have k0 : W.cell? ⟨gb, 0, none⟩ = some (.slice ab nb cb) := (by rw [cell_of_row _ _ _ _ _ _ hS]; rfl); go_simp; try (with_reducible rfl))
          refine wpAnyH_take (i := 4) (v := ?_) rfl (by kernel_rfl) (by kernel_rfl) (by kernel_rfl) (fun _ _ _ h => h) (Or.inl ⟨by kernel_rfl, ?_⟩) E3 ?_
          rotate_left
          · (intro W hS; have k0 : W.cell? ⟨gb, 0, none⟩ = some (.slice ab nb cb) := (by rw [cell_of_row _ _ _ _ _ _ hS]; rfl); go_simp; try (with_reducible rfl))
          refine wpAnyH_take (i := 5) (v := ?_) rfl (by kernel_rfl) (by kernel_rfl) (by kernel_rfl) (fun _ _ _ h => h) (Or.inl ⟨by kernel_rfl, ?_⟩) E3 ?_
          rotate_left
          · (intro W hS; have k0 : W.cell? ⟨gb, 0, none⟩ = some (.slice ab nb cb) := (by rw [cell_of_row _ _ _ _ _ _ hS]; rfl); go_simp; try (with_reducible rfl))
          obtain ⟨d0, d1, d2⟩ := row3 gB
          simp only [Ix.Rw.zero] at d0 d1 d2
          have f9 : ∀ j, v3.frozen? ⟨v1.heap.size, j, none⟩ = false := fun j => frozen_of_row _ _ _ _ _ gB
          have hne : gb ≠ v1.heap.size := by have := lt_of_heap H8.out.1; omega
          have hN : (((v3.setCell ⟨v1.heap.size, 0, none⟩ (.string t)).setCell ⟨v1.heap.size, 1, none⟩ (.int .i64 2)).setCell ⟨v1.heap.size, 2, none⟩ (.int .i64 1)).heap[v1.heap.size]? = some (.cells (rwCs ⟨t, 2, 1⟩) 41 (0, 0)) := by rw [heap_setCell_same _ _ _ _ _ _ (heap_setCell_same _ _ _ _ _ _ (heap_setCell_same _ _ _ _ _ _ gB))]; rfl
          have hN4 : Below wC.heap.size wC (((v3.setCell ⟨v1.heap.size, 0, none⟩ (.string t)).setCell ⟨v1.heap.size, 1, none⟩ (.int .i64 2)).setCell ⟨v1.heap.size, 2, none⟩ (.int .i64 1)) := rput3 F3 hgl _ _ _
          have EZ := (heap_setCell_other _ ⟨v1.heap.size, 2, none⟩ _ (.int .i64 1) hne).trans ((heap_setCell_other _ ⟨v1.heap.size, 1, none⟩ _ (.int .i64 2) hne).trans ((heap_setCell_other v3 ⟨v1.heap.size, 0, none⟩ _ (.string t) hne).trans E3))
          have HN := Lib.hid (And.intro hN hN4)
          clear hN hN4 gB
          refine wpAnyH_ready (rs := [7]) (by kernel_rfl) (by simp) ?_
          refine AllReadyH.cons (i := 7) rfl (fun K hK => ?_) AllReadyH.nil
          go_simp
          refine hK.out _ _ EZ (fun _ => ?_)
          clear hK K d0 d1 d2 f9
          refine wpAnyH_take (i := 8) (v := ?_) rfl (by kernel_rfl) (by kernel_rfl) (by kernel_rfl) (fun _ _ _ h => h) (Or.inl ⟨by kernel_rfl, ?_⟩) EZ ?_
          rotate_left
          · (intro W hS; have k0 : W.cell? ⟨gb, 0, none⟩ = some (.slice ab nb cb) := (by rw [cell_of_row _ _ _ _ _ _ hS]; rfl); go_simp; try (with_reducible rfl))
          refine wpAnyH_done (by kernel_rfl) ?_ _
          go_simp
          clear EZ
          generalize World.setCell _ _ _ = wz at *
          go_wp2_with fail
          go_meet
          exact ⟨_, rfl, rfl, HN.out.1, HN.out.2⟩
      · obtain ⟨v1, hv⟩ : ∃ v, v = v0.alloc (.cells (rwCs Ix.Rw.zero) 41) := ⟨_, rfl⟩
        have hb : Below v0.heap.size v0 v1 := by rw [hv]; exact (Below.refl _ _).alloc (Nat.le_refl _) _
        have gB : v1.heap[v0.heap.size]? = some (.cells (rwCs Ix.Rw.zero) 41 (0, 0)) := by rw [hv]; exact heap_alloc_new _ _
        have F1 := F0.trans (hb.mono F0.size)
        have E1 : v1.heap[gb]? = some (.cells #[.slice ab nb cb] 25 (0, 0)) := (hb.block _ (lt_of_heap E0)).trans E0
        simp only [rwCs, Ix.Rw.zero] at hv
        go_simp
        rw [← hv]
        clear hv
        have hgz := lt_of_heap gB
        have hgl : wC.heap.size ≤ v0.heap.size := F0.size
        refine hK.out _ _ E1 (fun _ => ?_)
        clear hK K hb
        refine wpAnyH_ready (rs := [1]) (by kernel_rfl) (by simp) ?_
        refine AllReadyH.cons (i := 1) rfl (fun K hK => ?_) AllReadyH.nil
        go_simp
        refine (H.out.2.1 v1).mono ?_
        rintro e v2 ⟨rfl, hb⟩
        have F2 := F1.trans (hb.mono F1.size)
        have E2 : v2.heap[gb]? = some (.cells #[.slice ab nb cb] 25 (0, 0)) := (hb.block _ (lt_of_heap E1)).trans E1
        have gB := (hb.block _ (lt_of_heap gB)).trans gB
        have hgz := Nat.lt_of_lt_of_le hgz hb.size
        refine hK.out _ _ E2 (fun _ => ?_)
        clear hK K hb
        refine wpAnyH_ready (rs := [2]) (by kernel_rfl) (by simp) ?_
        refine AllReadyH.cons (i := 2) rfl (fun K hK => ?_) AllReadyH.nil
        go_simp
        refine (H.out.2.2.2.2.2.1 v2 ab cb (H8.out.2.1.below F2)).mono ?_
        rintro e v3 ⟨rfl, hb⟩
        have F3 := F2.trans (hb.mono F2.size)
        have E3 : v3.heap[gb]? = some (.cells #[.slice ab nb cb] 25 (0, 0)) := (hb.block _ (lt_of_heap E2)).trans E2
        have gB := (hb.block _ (lt_of_heap gB)).trans gB
        have hgz := Nat.lt_of_lt_of_le hgz hb.size
        refine hK.out _ _ E3 (fun _ => ?_)
        clear hK K hb
        refine wpAnyH_take (i := 3) (v := ?_) rfl (by kernel_rfl) (by kernel_rfl) (by kernel_rfl) (fun _ _ _ h => h) (Or.inl ⟨by kernel_rfl, ?_⟩) E3 ?_
        rotate_left
        · (intro W hS; have k0 : W.cell? ⟨gb, 0, none⟩ = some (.slice ab nb cb) := (by rw [cell_of_row _ _ _ _ _ _ hS]; rfl); go_simp; try (with_reducible rfl))
        refine wpAnyH_take (i := 4) (v := ?_) rfl (by kernel_rfl) (by kernel_rfl) (by kernel_rfl) (fun _ _ _ h => h) (Or.inl ⟨by kernel_rfl, ?_⟩) E3 ?_
        rotate_left
        · (intro W hS; have k0 : W.cell? ⟨gb, 0, none⟩ = some (.slice ab nb cb) := (by rw [cell_of_row _ _ _ _ _ _ hS]; rfl); go_simp; try (with_reducible rfl))
        refine wpAnyH_take (i := 5) (v := ?_) rfl (by kernel_rfl) (by kernel_rfl) (by kernel_rfl) (fun _ _ _ h => h) (Or.inl ⟨by kernel_rfl, ?_⟩) E3 ?_
        rotate_left
        · (intro W hS; have k0 : W.cell? ⟨gb, 0, none⟩ = some (.slice ab nb cb) := (by rw [cell_of_row _ _ _ _ _ _ hS]; rfl); go_simp; try (with_reducible rfl))
        obtain ⟨d0, d1, d2⟩ := row3 gB
        simp only [Ix.Rw.zero] at d0 d1 d2
        have f9 : ∀ j, v3.frozen? ⟨v0.heap.size, j, none⟩ = false := fun j => frozen_of_row _ _ _ _ _ gB
        have hne : gb ≠ v0.heap.size := by have := lt_of_heap H8.out.1; omega
        have hN : (((v3.setCell ⟨v0.heap.size, 0, none⟩ (.string t)).setCell ⟨v0.heap.size, 1, none⟩ (.int .i64 2)).setCell ⟨v0.heap.size, 2, none⟩ (.int .i64 1)).heap[v0.heap.size]? = some (.cells (rwCs ⟨t, 2, 1⟩) 41 (0, 0)) := by rw [heap_setCell_same _ _ _ _ _ _ (heap_setCell_same _ _ _ _ _ _ (heap_setCell_same _ _ _ _ _ _ gB))]; rfl
        have hN4 : Below wC.heap.size wC (((v3.setCell ⟨v0.heap.size, 0, none⟩ (.string t)).setCell ⟨v0.heap.size, 1, none⟩ (.int .i64 2)).setCell ⟨v0.heap.size, 2, none⟩ (.int .i64 1)) := rput3 F3 hgl _ _ _
        have EZ := (heap_setCell_other _ ⟨v0.heap.size, 2, none⟩ _ (.int .i64 1) hne).trans ((heap_setCell_other _ ⟨v0.heap.size, 1, none⟩ _ (.int .i64 2) hne).trans ((heap_setCell_other v3 ⟨v0.heap.size, 0, none⟩ _ (.string t) hne).trans E3))
        have HN := Lib.hid (And.intro hN hN4)
        clear hN hN4 gB
        refine wpAnyH_ready (rs := [7]) (by kernel_rfl) (by simp) ?_
        refine AllReadyH.cons (i := 7) rfl (fun K hK => ?_) AllReadyH.nil
        go_simp
        refine hK.out _ _ EZ (fun _ => ?_)
        clear hK K d0 d1 d2 f9
        refine wpAnyH_take (i := 8) (v := ?_) rfl (by kernel_rfl) (by kernel_rfl) (by kernel_rfl) (fun _ _ _ h => h) (Or.inl ⟨by kernel_rfl, ?_⟩) EZ ?_
        rotate_left
        · (intro W hS; have k0 : W.cell? ⟨gb, 0, none⟩ = some (.slice ab nb cb) := (by rw [cell_of_row _ _ _ _ _ _ hS]; rfl); go_simp; try (with_reducible rfl))
        refine wpAnyH_done (by kernel_rfl) ?_ _
        go_simp
        clear EZ
        generalize World.setCell _ _ _ = wz at *
        go_wp2_with fail
        go_meet
        exact ⟨_, rfl, rfl, HN.out.1, HN.out.2⟩
    case rest =>
      obtain ⟨gr, rfl, rfl, hgr, hbd⟩ := hcut
      obtain ⟨r0, r1, r2⟩ := row3 hgr
      have hoq := H8.out.2.2.1.call hbd
      obtain ⟨gq, haq, -, -, hcq⟩ := hoq.at poCs_size (j := 0) rfl
      subst haq
      have q1 : wc.cell? ⟨gq, 1, none⟩ = some (.int .i64 1) := by have := hcq 1 (by decide); simpa [poCs] using this
      have F9 : Below w7.heap.size w7 wc := H8.out.2.2.2.trans (hbd.mono H8.out.2.2.2.size)
      have gA := (F9.block _ (lt_of_heap H7.out.2.1)).trans H7.out.2.1
      have gX := (F9.block _ (lt_of_heap H7.out.2.2.1)).trans H7.out.2.2.1
      have H9 := Lib.hid (And.intro (H7.out.1.trans (F9.mono H7.out.1.size)) (And.intro (H7.out.2.2.2.below F9) gX))
      have cA : wc.cell? ⟨w6.heap.size, 0, none⟩ = some (.slice aA 2 cA) := by rw [cell_of_row _ _ _ _ _ _ gA]; rfl
      have cX : wc.cell? ⟨w4.heap.size, 0, none⟩ = some (.slice none 0 0) := by rw [cell_of_row _ _ _ _ _ _ gX]; rfl
      clear hgr hbd hoq hcq F9 gA gX r0
      go_wp2_with fail
      refine (H.out.2.2.2.2.2.2.1 _ _ _ H9.out.2.1).mono ?_
      rintro e w10 ⟨a10, c10, rfl, -, hb10⟩
      have gX := (hb10.block _ (lt_of_heap H9.out.2.2)).trans H9.out.2.2
      have H10 := Lib.hid (H9.out.1.trans (hb10.mono H9.out.1.size))
      have cX2 : w10.cell? ⟨w4.heap.size, 0, none⟩ = some (.slice none 0 0) := by rw [cell_of_row _ _ _ _ _ _ gX]; rfl
      clear r1 r2 q1 cA cX gX hb10
      go_wp2_with fail
      refine (H.out.2.2.2.2.2.2.2 _).mono ?_
      rintro e w11 ⟨a11, c11, rfl, -, hb11⟩
      have H11 := Lib.hid (H10.out.trans (hb11.mono H10.out.size))
      clear hb11 cX2
      go_wp2_with fail
      go_ret
      exact ⟨rfl, H11.out⟩
end Go.Proofs.YtdfkpjmljaanpaaGreatDoor
