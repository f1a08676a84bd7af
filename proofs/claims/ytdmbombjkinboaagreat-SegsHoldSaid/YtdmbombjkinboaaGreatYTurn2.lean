/- segs: turn. -/
import Derived.Test.YtdmbombjkinboaaGreatYLay
namespace Go.Proofs.YtdmbombjkinboaaGreat
open Go.RowKit
open Dk Sg Fr

theorem OwnG.ne {w : World} {s b : Nat} {S : Stor} {vs vr : Value} {a : Option Addr} {cap : Nat} {l : List (Nat × Nat)} (hd : Hd w s b S vs vr) (h : OwnG w a cap l) : (Value.slice a l.length cap).ownBlock ≠ some s := fun e => by
  rcases h.2 with ⟨e1, hn⟩ | ⟨g, c, cur, e1, hB, hg, -⟩
  · injection e1 with e2 _ _; subst e2; cases e
  · injection e1 with e2 _ _
    subst e2
    injection e with e
    have e : g = s := e
    subst e
    unfold Hd at hd
    rw [hd] at hg
    injection hg with hg
    injection hg with _ hg _
    exact absurd hg (by decide)
theorem own_three (w : World) (N M : Nat) (B : Nat) (hB : B ≤ w.heap.size) :
    OwnI B (w.alloc (.cells #[.int .i64 2, .int .i64 0, .string ⟨#[115, 101, 103]⟩, .slice none 0 0, .int .i64 1, .int .i64 (N : Int), .string ⟨#[]⟩, .slice none 0 0, .int .i64 1, .int .i64 (M : Int), .string ⟨#[]⟩, .slice none 0 0] 115)) (some ⟨w.heap.size, 0, none⟩) 3 [txtIt segT, numIt N, numIt M] :=
  ⟨rfl, .inr ⟨w.heap.size, 3, _, rfl, hB, heap_alloc_new _ _, Nat.le_refl 3, by decide, rfl, rfl⟩⟩
theorem framed_head (w : World) (N M : Nat) (hN : N < 256) (hM : M < 256 ^ 4) :
    Calls Tryz.prog 65 #[.slice (some ⟨w.heap.size, 0, none⟩) 3 3] (w.alloc (.cells #[.int .i64 2, .int .i64 0, .string ⟨#[115, 101, 103]⟩, .slice none 0 0, .int .i64 1, .int .i64 (N : Int), .string ⟨#[]⟩, .slice none 0 0, .int .i64 1, .int .i64 (M : Int), .string ⟨#[]⟩, .slice none 0 0] 115)) fun e w' =>
      e = .returned (.string (headS N M)) ∧ Below (w.alloc (.cells #[.int .i64 2, .int .i64 0, .string ⟨#[115, 101, 103]⟩, .slice none 0 0, .int .i64 1, .int .i64 (N : Int), .string ⟨#[]⟩, .slice none 0 0, .int .i64 1, .int .i64 (M : Int), .string ⟨#[]⟩, .slice none 0 0] 115)).heap.size (w.alloc (.cells #[.int .i64 2, .int .i64 0, .string ⟨#[115, 101, 103]⟩, .slice none 0 0, .int .i64 1, .int .i64 (N : Int), .string ⟨#[]⟩, .slice none 0 0, .int .i64 1, .int .i64 (M : Int), .string ⟨#[]⟩, .slice none 0 0] 115)) w' := by
  have hlf : ∀ x ∈ [txtIt segT, numIt N, numIt M], Leaf x := fun x hx => by
    rcases List.mem_cons.1 hx with rfl | hx
    · exact txtIt_leaf (by decide)
    rcases List.mem_cons.1 hx with rfl | hx
    · exact numIt_leaf _
    rcases List.mem_singleton.1 hx with rfl
    exact numIt_leaf _
  have hl := head_len N M hN hM
  exact framed_any (w.heap.size ≤ ·) [txtIt segT, numIt N, numIt M] _ 3 _ ((own_three w N M w.heap.size (Nat.le_refl _)).lies (by simp)) (leaf_all hlf _ _) (by rw [leaf_sz hlf]; simp) (may_head N M hN hM) hl.1 (by have := hl.2; unfold headB at this; show (Cn.bytes (headP N M)).length ≤ 32768; omega)
/-- A row of the call's own grew: nothing else has turned. -/
theorem diskAt_grown {w w1 w' : World} {ρ : Nat → Nat} {b : Nat} {D : Disk} {own : Option Nat} (h : DiskAt w ρ b D) (hb : Below w.heap.size w w1) (hg : w1.grownBy w' own) (ho : ∀ k, own = some k → ρ k = 0) : DiskAt w' ρ b D :=
  h.touch (R := fun r => r = 0) ⟨hg.os.trans hb.os, hg.tape.trans hb.tape, hg.output.trans hb.output, Nat.le_trans hb.size hg.size, fun _ _ => rfl, fun g hl hr => (hg.block g (Nat.lt_of_lt_of_le hl hb.size) (fun e => hr (ho g e.symm))).trans (hb.block g hl), fun _ _ => rfl⟩ (fun _ hr e => hr e)
theorem touchX_grown {X : Nat → Prop} {ρ : Nat → Nat} {w w1 w' : World} {own : Option Nat} (hb : Below w.heap.size w w1) (hg : w1.grownBy w' own) (ho : ∀ k, own = some k → X k) : TouchX X ρ ρ w w' :=
  ⟨hg.os.trans hb.os, hg.tape.trans hb.tape, hg.output.trans hb.output, Nat.le_trans hb.size hg.size, fun _ _ => rfl, fun g hl _ hx => (hg.block g (Nat.lt_of_lt_of_le hl hb.size) (fun e => hx (ho g e.symm))).trans (hb.block g hl), fun _ _ => rfl⟩
/-- What turn says. -/
def Turning (ρ : Nat → Nat) (s b : Nat) (a : Option Addr) (cap : Nat) (l : List (Nat × Nat)) (ar : Option Addr) (cr : Nat) (r : Res) (w : World) (e : Ending) (w' : World) : Prop :=
  e = .returned (.int .i64 r.2.2) ∧ ∃ ρ' a' cap', DiskAt w' ρ' b r.1 ∧ Hd w' s b r.2.1 (.slice a' r.2.1.segs.length cap') (.slice ar r.2.1.recs.length cr) ∧ OwnG w' a' cap' r.2.1.segs ∧
    (∀ g, (Value.slice a' r.2.1.segs.length cap').ownBlock = some g → ρ' g = 0 ∧ ((Value.slice a l.length cap).ownBlock = some g ∨ w.heap.size ≤ g)) ∧ TouchX (fun g => g = s ∨ (Value.slice a l.length cap).ownBlock = some g) ρ ρ' w w' ∧ OwnG w' a cap l
set_option maxRecDepth 100000 in
set_option maxHeartbeats 2000000 in
theorem sturn_any {w : World} {ρ : Nat → Nat} {s b n : Nat} {D : Disk} {S : Stor} {a ar : Option Addr} {cap cr : Nat} (h : DiskAt w ρ b D) (hs : Bud n D) (hn : n ≤ 99999990) (hd : Hd w s b S (.slice a S.segs.length cap) (.slice ar S.recs.length cr)) (h0 : ρ s = 0) (ho : OwnG w a cap S.segs)
    (hx : ∀ x ∈ S.exts, x < 64) (hrow : ∀ g, (Value.slice a S.segs.length cap).ownBlock = some g → ρ g = 0) (hat : S.at_ ≤ 1) (he : S.epoch ≤ 1099511627776) (hl : S.segs.length ≤ 62) (hrn : S.recs.length ≤ 1000000) :
    Calls Tryz.prog 43 #[.pointer (some ⟨s, 0, none⟩)] w (Turning ρ s b a cap S.segs ar cr (turnS D S) w) := by
  have hmt := mayTurn_any h hd (by omega)
  obtain ⟨R, hR⟩ : ∃ R, R = turnS D S := ⟨_, rfl⟩
  rw [← hR]
  unfold turnS at hR
  obtain ⟨mt, hmte⟩ : ∃ mt, mt = mayTurnS D S := ⟨_, rfl⟩
  rw [← hmte] at hmt hR
  obtain ⟨-, -, -, -, q4, q5, -⟩ := hd_cells hd
  obtain ⟨N, hN⟩ : ∃ N, N = S.segs.length := ⟨_, rfl⟩
  obtain ⟨M, hM⟩ : ∃ M, M = S.recs.length := ⟨_, rfl⟩
  obtain ⟨F, hF⟩ : ∃ F, F = S.free := ⟨_, rfl⟩
  have hne := OwnG.ne hd ho
  have H := Lib.hid (And.intro h (And.intro hs (And.intro hd (And.intro h0 (And.intro ho (And.intro hmt (And.intro hx (And.intro hrow (And.intro hat (And.intro he (And.intro hne (And.intro hR hmte))))))))))))
  have hNM := Lib.hid (And.intro hN (And.intro hM hF))
  rw [← hN] at q4
  rw [← hM] at q5
  have hN62 : N ≤ 62 := by omega
  have hM6 : M ≤ 1000000 := by omega
  have hn9 := Lib.hid hn
  clear h hs hd h0 ho hmt hx hrow hat he hne hR hmte hN hM hF hl hrn hn
  go_enter Tryz.func43, Tryz.ntmps43
  go_wp2_with fail
  refine H.out.2.2.2.2.2.1.mono ?_
  rintro e w1 ⟨rfl, hb1⟩
  have hd1 := H.out.2.2.1.same (hb1.block _ H.out.2.2.1.lt)
  have ho1 := H.out.2.2.2.2.1.call hb1
  have hD1 := H.out.1.below hb1
  replace q4 := (hb1.cell (p := ⟨s, 4, none⟩) H.out.2.2.1.lt).trans q4
  replace q5 := (hb1.cell (p := ⟨s, 5, none⟩) H.out.2.2.1.lt).trans q5
  have H1 := Lib.hid (And.intro hb1 (And.intro hd1 (And.intro ho1 hD1)))
  clear hb1 hd1 ho1 hD1
  by_cases hm0 : mt = 0
  · subst hm0
    go_upto_region 4 with fail
    go_cut [4] (fun y wc => ∃ g, y = .pointer (some ⟨g, 0, none⟩) ∧ w1.heap.size ≤ g ∧ wc.heap[g]? = some (.cells #[.int .i64 (F : Int), .int .i64 (M : Int)] 86 (0, 0)) ∧ Below w1.heap.size w1 wc)
    case first =>
      have C : Below w1.heap.size w1 w1.drew := (Below.refl _ _).drew
      refine wp_region_held (S := fun W => Below w1.heap.size w1 W) (by kernel_rfl) ?_
      change wpAnyH _ _ _ _ _ _ _ _ (World.drew _)
      generalize World.drew _ = wh at *
      refine wpAnyH_take (i := 0) (v := ?_) rfl (by kernel_rfl) (by kernel_rfl) (by kernel_rfl) (fun _ _ _ h => h) (Or.inl ⟨by kernel_rfl, ?_⟩) C ?_
      rotate_left
      · (intro W hS; clear hS; go_simp; try (with_reducible rfl))
      refine wpAnyH_take (i := 2) (v := ?_) rfl (by kernel_rfl) (by kernel_rfl) (by kernel_rfl) (fun _ _ _ h => h) (Or.inl ⟨by kernel_rfl, ?_⟩) C ?_
      rotate_left
      · (intro W hS; clear hS; go_simp; try (with_reducible rfl))
      refine wpAnyH_take (i := 3) (v := ?_) rfl (by kernel_rfl) (by kernel_rfl) (by kernel_rfl) (fun _ _ _ h => h) (Or.inl ⟨by kernel_rfl, ?_⟩) C ?_
      rotate_left
      · (intro W hS; clear hS; go_simp; try (with_reducible rfl))
      refine wpAnyH_take (i := 4) (v := ?_) rfl (by kernel_rfl) (by kernel_rfl) (by kernel_rfl) (fun _ _ _ h => h) (Or.inl ⟨by kernel_rfl, ?_⟩) C ?_
      rotate_left
      · (intro W hS; clear hS; go_simp; try (with_reducible rfl))
      refine wpAnyH_take (i := 5) (v := .slice ar M cr) rfl (by kernel_rfl) (by kernel_rfl) (by kernel_rfl) (fun _ _ _ h => h) (Or.inl ⟨by kernel_rfl, ?_⟩) C ?_
      · (intro W hS; have q5W : W.cell? ⟨s, 5, none⟩ = some (.slice ar M cr) := (hS.cell (p := ⟨s, 5, none⟩) H1.out.2.1.lt).trans q5; clear hS; go_simp; first | done | (with_reducible rfl) | simp)
      refine wpAnyH_take (i := 6) (v := ?_) rfl (by kernel_rfl) (by kernel_rfl) (by kernel_rfl) (fun _ _ _ h => h) (Or.inl ⟨by kernel_rfl, ?_⟩) C ?_
      rotate_left
      · (intro W hS; clear hS; go_simp; try (with_reducible rfl))
      refine wpAnyH_ready (rs := [1, 8]) (by kernel_rfl) (by simp) ?_
      refine AllReadyH.cons rfl (fun K hK => ?_) (AllReadyH.cons rfl (fun K hK => ?_) AllReadyH.nil)
      · go_simp
        refine (sfree_any (H1.out.2.1.same (C.block _ H1.out.2.1.lt)) (H1.out.2.2.1.call C) H.out.2.2.2.2.2.2.1).mono ?_
        rintro e w2 ⟨rfl, hb⟩
        have C := C.trans (hb.mono C.size)
        refine hK.out _ _ C (fun _ => ?_)
        clear hK K hb
        refine wpAnyH_take (i := 7) (v := ?_) rfl (by kernel_rfl) (by kernel_rfl) (by kernel_rfl) (fun _ _ _ h => h) (Or.inl ⟨by kernel_rfl, ?_⟩) C ?_
        rotate_left
        · (intro W hS; clear hS; go_simp; try (with_reducible rfl))
        refine wpAnyH_ready (rs := [8]) (by kernel_rfl) (by simp) ?_
        refine AllReadyH.cons rfl (fun K hK => ?_) AllReadyH.nil
        go_simp
        have C2 := C.alloc C.size (.cells #[.int .i64 0, .int .i64 0] 86)
        refine hK.out _ _ C2 (fun _ => ?_)
        clear hK K
        refine wpAnyH_ready (rs := [9]) (by kernel_rfl) (by simp) ?_
        refine AllReadyH.cons rfl (fun K hK => ?_) AllReadyH.nil
        go_simp
        have hbx : (w2.alloc (.cells #[.int .i64 (S.free : Int), .int .i64 (M : Int)] 86)).heap[w2.heap.size]? = some (.cells #[.int .i64 (S.free : Int), .int .i64 (M : Int)] 86 (0, 0)) := heap_alloc_new _ _
        have C3 := C.alloc C.size (.cells #[.int .i64 (S.free : Int), .int .i64 (M : Int)] 86)
        refine hK.out _ _ C3 (fun _ => ?_)
        clear hK K
        refine wpAnyH_done (by kernel_rfl) ?_ _
        go_wp2_with fail
        go_meet
        case rel => exact ⟨_, rfl, C.size, by rw [hNM.out.2.2]; exact hbx, C3⟩
      · go_simp
        have C2 := C.alloc C.size (.cells #[.int .i64 0, .int .i64 0] 86)
        refine hK.out _ _ C2 (fun _ => ?_)
        clear hK K
        refine wpAnyH_ready (rs := [1]) (by kernel_rfl) (by simp) ?_
        refine AllReadyH.cons rfl (fun K hK => ?_) AllReadyH.nil
        go_simp
        have hy := heap_alloc_new wh (.cells #[.int .i64 0, .int .i64 0] 86)
        generalize hw3 : World.alloc wh _ = w3 at *
        refine (sfree_any (H1.out.2.1.same (C2.block _ H1.out.2.1.lt)) (H1.out.2.2.1.call C2) H.out.2.2.2.2.2.2.1).mono ?_
        rintro e w2 ⟨rfl, hb⟩
        have hz3 : w3.heap.size = wh.heap.size + 1 := by rw [← hw3]; simp
        have hy2 := (hb.block _ (by omega)).trans hy
        have C3 := C2.trans (hb.mono C2.size)
        refine hK.out _ _ C3 (fun _ => ?_)
        clear hK K hb
        refine wpAnyH_take (i := 7) (v := ?_) rfl (by kernel_rfl) (by kernel_rfl) (by kernel_rfl) (fun _ _ _ h => h) (Or.inl ⟨by kernel_rfl, ?_⟩) C3 ?_
        rotate_left
        · (intro W hS; clear hS; go_simp; try (with_reducible rfl))
        obtain ⟨c0, c1⟩ : w2.cell? ⟨wh.heap.size, 0, none⟩ = some (.int .i64 0) ∧ w2.cell? ⟨wh.heap.size, 1, none⟩ = some (.int .i64 0) := by constructor <;> (rw [cell_of_row _ _ _ _ _ _ hy2]; rfl)
        have f0 := frozen_of_row _ _ 0 _ _ hy2
        have f1 := frozen_of_row _ _ 1 _ _ hy2
        refine wpAnyH_ready (rs := [9]) (by kernel_rfl) (by simp) ?_
        refine AllReadyH.cons rfl (fun K hK => ?_) AllReadyH.nil
        go_simp
        have hy3 := heap_setCell_same _ _ 1 _ _ (.int .i64 (M : Int)) (heap_setCell_same _ _ 0 _ _ (.int .i64 (S.free : Int)) hy2)
        have C4 := (C3.setCell (p := ⟨wh.heap.size, 0, none⟩) C.size (.int .i64 (S.free : Int))).setCell (p := ⟨wh.heap.size, 1, none⟩) C.size (.int .i64 (M : Int))
        refine hK.out _ _ C4 (fun _ => ?_)
        clear hK K
        refine wpAnyH_done (by kernel_rfl) ?_ _
        go_wp2_with fail
        go_meet
        case rel => exact ⟨_, rfl, C.size, by rw [hNM.out.2.2]; exact hy3, C4⟩

    case rest =>
      obtain ⟨y, rfl, hy1, hbx, hbc⟩ := hcut
      have hd2 := H1.out.2.1.same (hbc.block _ H1.out.2.1.lt)
      have ho2 := H1.out.2.2.1.call hbc
      have hD2 := H1.out.2.2.2.below hbc
      have hb2 := H1.out.1.trans (hbc.mono H1.out.1.size)
      have hyl : y < wc.heap.size := (Array.getElem?_eq_some_iff.1 hbx).1
      replace q4 := (hbc.cell (p := ⟨s, 4, none⟩) H1.out.2.1.lt).trans q4
      have hyw : w.heap.size ≤ y := Nat.le_trans H1.out.1.size hy1
      have H2 := Lib.hid (And.intro hb2 (And.intro hd2 (And.intro ho2 (And.intro hD2 (And.intro hbx (And.intro hyl hyw))))))
      obtain ⟨qy0, qy1⟩ : wc.cell? ⟨y, 0, none⟩ = some (.int .i64 (F : Int)) ∧ wc.cell? ⟨y, 1, none⟩ = some (.int .i64 (M : Int)) := by constructor <;> (rw [cell_of_row _ _ _ _ _ _ hbx]; rfl)
      clear hd2 ho2 hD2 hb2 hbx hyl hbc hy1 hyw q5
      go_upto_region 5 with fail
      have C : Below wc.heap.size wc wc.drew := (Below.refl _ _).drew
      refine wp_region_held (S := fun W => Below wc.heap.size wc W) (by kernel_rfl) ?_
      change wpAnyH _ _ _ _ _ _ _ _ (World.drew _)
      generalize World.drew _ = wh at *
      refine wpAnyH_take (i := 1) (v := ?_) rfl (by kernel_rfl) (by kernel_rfl) (by kernel_rfl) (fun _ _ _ h => h) (Or.inl ⟨by kernel_rfl, ?_⟩) C ?_
      rotate_left
      · (intro W hS; clear hS; go_simp; try (with_reducible rfl))
      refine wpAnyH_take (i := 2) (v := ?_) rfl (by kernel_rfl) (by kernel_rfl) (by kernel_rfl) (fun _ _ _ h => h) (Or.inl ⟨by kernel_rfl, ?_⟩) C ?_
      rotate_left
      · (intro W hS; clear hS; go_simp; try (with_reducible rfl))
      refine wpAnyH_take (i := 3) (v := ?_) rfl (by kernel_rfl) (by kernel_rfl) (by kernel_rfl) (fun _ _ _ h => h) (Or.inl ⟨by kernel_rfl, ?_⟩) C ?_
      rotate_left
      · (intro W hS; clear hS; go_simp; try (with_reducible rfl))
      refine wpAnyH_take (i := 4) (v := .slice a N cap) rfl (by kernel_rfl) (by kernel_rfl) (by kernel_rfl) (fun _ _ _ h => h) (Or.inl ⟨by kernel_rfl, ?_⟩) C ?_
      · (intro W hS; have q4W : W.cell? ⟨s, 4, none⟩ = some (.slice a N cap) := (hS.cell (p := ⟨s, 4, none⟩) H2.out.2.1.lt).trans q4; clear hS; go_simp; first | done | (with_reducible rfl) | simp)
      refine wpAnyH_take (i := 5) (v := ?_) rfl (by kernel_rfl) (by kernel_rfl) (by kernel_rfl) (fun _ _ _ h => h) (Or.inl ⟨by kernel_rfl, ?_⟩) C ?_
      rotate_left
      · (intro W hS; clear hS; go_simp; try (with_reducible rfl))
      refine wpAnyH_take (i := 7) (v := ?_) rfl (by kernel_rfl) (by kernel_rfl) (by kernel_rfl) (fun _ _ _ h => h) (Or.inl ⟨by kernel_rfl, ?_⟩) C ?_
      rotate_left
      · (intro W hS; clear hS; go_simp; try (with_reducible rfl))
      refine wpAnyH_take (i := 8) (v := .int .i64 (M : Int)) rfl (by kernel_rfl) (by kernel_rfl) (by kernel_rfl) (fun _ _ _ h => h) (Or.inl ⟨by kernel_rfl, ?_⟩) C ?_
      · (intro W hS; have qyW : W.cell? ⟨y, 1, none⟩ = some (.int .i64 (M : Int)) := (hS.cell (p := ⟨y, 1, none⟩) H2.out.2.2.2.2.2.1).trans qy1; clear hS; go_simp; first | done | (with_reducible rfl) | simp)
      refine wpAnyH_ready (rs := [0]) (by kernel_rfl) (by simp) ?_
      refine AllReadyH.cons rfl (fun K hK => ?_) AllReadyH.nil
      go_simp
      refine (text_any _ _).mono ?_
      rintro e w4 ⟨rfl, hb⟩
      have C := C.trans (hb.mono C.size)
      refine hK.out _ _ C (fun _ => ?_)
      clear hK K hb
      refine wpAnyH_ready (rs := [6]) (by kernel_rfl) (by simp) ?_
      refine AllReadyH.cons rfl (fun K hK => ?_) AllReadyH.nil
      go_simp
      refine (num_any _ _).mono ?_
      rintro e w5 ⟨rfl, hb⟩
      have C := C.trans (hb.mono C.size)
      refine hK.out _ _ C (fun _ => ?_)
      clear hK K hb
      refine wpAnyH_ready (rs := [9]) (by kernel_rfl) (by simp) ?_
      refine AllReadyH.cons rfl (fun K hK => ?_) AllReadyH.nil
      go_simp
      refine (num_any _ _).mono ?_
      rintro e w6 ⟨rfl, hb⟩
      have C := C.trans (hb.mono C.size)
      refine hK.out _ _ C (fun _ => ?_)
      clear hK K hb
      refine wpAnyH_ready (rs := [10]) (by kernel_rfl) (by simp) ?_
      refine AllReadyH.cons rfl (fun K hK => ?_) AllReadyH.nil
      go_simp
      have C7 := C.alloc C.size (.cells #[.int .i64 2, .int .i64 0, .string ⟨#[115, 101, 103]⟩, .slice none 0 0, .int .i64 1, .int .i64 (N : Int), .string ⟨#[]⟩, .slice none 0 0, .int .i64 1, .int .i64 (M : Int), .string ⟨#[]⟩, .slice none 0 0] 115)
      refine hK.out _ _ C7 (fun _ => ?_)
      clear hK K
      refine wpAnyH_ready (rs := [11]) (by kernel_rfl) (by simp) ?_
      refine AllReadyH.cons rfl (fun K hK => ?_) AllReadyH.nil
      go_simp
      refine (framed_head w6 N M (by omega) (by omega)).mono ?_
      rintro e w8 ⟨rfl, hb⟩
      have C8 := C7.trans (hb.mono C7.size)
      refine hK.out _ _ C8 (fun _ => ?_)
      clear hK K hb C C7
      refine wpAnyH_take (i := 12) (v := ?_) rfl (by kernel_rfl) (by kernel_rfl) (by kernel_rfl) (fun _ _ _ h => h) (Or.inl ⟨by kernel_rfl, ?_⟩) C8 ?_
      rotate_left
      · (intro W hS; clear hS; go_simp; try (with_reducible rfl))
      refine wpAnyH_done (by kernel_rfl) ?_ _
      go_simp
      have hd8 := H2.out.2.1.same (C8.block _ H2.out.2.1.lt)
      have ho8 := H2.out.2.2.1.call C8
      have hD8 := H2.out.2.2.2.1.below C8
      have hy8 := (C8.block _ H2.out.2.2.2.2.2.1).trans H2.out.2.2.2.2.1
      have hb8 := H2.out.1.trans (C8.mono H2.out.1.size)
      have hlab : ∀ g, w.heap.size ≤ g → ρ g = 0 := fun g hg => H.out.1.raw.lab g hg
      have hput := sput_any hD8 H.out.2.1 (by have := hn9.out; omega) hd8 H.out.2.2.2.1 F (headS N M)
      have hk := putS_keeps D S F (headS N M)
      have hbud : Bud (n + 2) (putS D S F (headS N M)).1 := bud_putS H.out.2.1
      have hRR := H.out.2.2.2.2.2.2.2.2.2.2.2.1.trans (if_neg (fun k => k rfl))
      rw [← hNM.out.1, ← hNM.out.2.1, ← hNM.out.2.2] at hRR
      generalize putS D S F (headS N M) = r1 at *
      obtain ⟨D1, S1, e1⟩ := r1
      obtain ⟨k1, k2, k3, k4, k5⟩ := hk
      simp only at k1 k2 k3 k4 k5 hbud
      obtain ⟨qy0, qy1⟩ : w8.cell? ⟨y, 0, none⟩ = some (.int .i64 (F : Int)) ∧ w8.cell? ⟨y, 1, none⟩ = some (.int .i64 (M : Int)) := by constructor <;> (rw [cell_of_row _ _ _ _ _ _ hy8]; rfl)
      have hy8l : y < w8.heap.size := (Array.getElem?_eq_some_iff.1 hy8).1
      have H8 := Lib.hid (And.intro hd8 (And.intro ho8 (And.intro hy8 (And.intro hb8 (And.intro hput (And.intro hbud (And.intro hRR (And.intro (And.intro k1 (And.intro k2 (And.intro k3 k4))) (And.intro hlab hy8l)))))))))
      clear hd8 ho8 hD8 hy8 hb8 hput hbud hRR k1 k2 k3 k4 k5 hlab hy8l C8 q4
      go_wp2_with fail
      refine H8.out.2.2.2.2.1.mono ?_
      rintro e w9 ⟨rfl, ρ1, hD9, hd9, ht9⟩
      have hsl : s < w8.heap.size := H8.out.1.lt
      have hys : y ≠ s := by have h1 := H2.out.2.2.2.2.2.2; have h2 : s < w.heap.size := H.out.2.2.1.lt; omega
      have hy9 := (ht9.same y H8.out.2.2.2.2.2.2.2.2.2 (H8.out.2.2.2.2.2.2.2.2.1 y H2.out.2.2.2.2.2.2) hys).trans H8.out.2.2.1
      have ho9 : OwnG w9 a cap S.segs := H8.out.2.1.same fun g hg => ht9.same g (World.ownsRow.lt H8.out.2.1 g hg).2 (H.out.2.2.2.2.2.2.2.1 g hg) (fun e => H.out.2.2.2.2.2.2.2.2.2.2.1 (by rw [hg, e]))
      have h09 : ρ1 s = 0 := (ht9.old s hsl).trans H.out.2.2.2.1
      have ht : TouchX (· = s) ρ ρ1 w w9 := (TouchX.below H8.out.2.2.2.1).trans ht9
      rw [← hNM.out.1, ← hNM.out.2.1] at hd9
      obtain ⟨-, -, -, p3, p4, -⟩ := hd_cells hd9
      obtain ⟨qz0, qz1⟩ : w9.cell? ⟨y, 0, none⟩ = some (.int .i64 (F : Int)) ∧ w9.cell? ⟨y, 1, none⟩ = some (.int .i64 (M : Int)) := by constructor <;> (rw [cell_of_row _ _ _ _ _ _ hy9]; rfl)
      have f4 := hd_free hd9 4
      have H9 := Lib.hid (And.intro hD9 (And.intro hd9 (And.intro ht9 (And.intro ho9 (And.intro h09 (And.intro ht hys))))))
      clear hD9 hd9 ht9 ho9 h09 ht hy9 hsl qy0 qy1 hys
      by_cases he1 : e1 = 0
      · subst he1
        have hRR := H8.out.2.2.2.2.2.2.1.trans (thenS_ok rfl)
        simp only at hRR
        rw [H8.out.2.2.2.2.2.2.2.1.1] at hRR
        have HRR := Lib.hid hRR
        clear hRR
        have hsl9 : s < w9.heap.size := H9.out.2.1.lt
        go_wp2_with fail
        go_region_law (refine step_append_seg rfl (.tmp 44) (.tmp 46) rfl (H9.out.2.2.2.1.call (w' := w9.drew.alloc (.cells #[.int .i64 (F : Int), .int .i64 (M : Int)] 86)) ((Below.refl _ _).drew.alloc (Nat.le_refl _) _)) N hNM.out.1.symm (by simp [Act.eval]) w9.heap.size 1 (F, M) (by simp [Act.eval]) (heap_alloc_new w9.drew _) (by omega) ?_; intro g5 cap5 w5 ho5 hg5 hb5 hk5; have q5s : w5.cell? ⟨s, 4, none⟩ = some (.slice a N cap) := (hg5.cell_far ⟨s, 4, none⟩ (by have := H9.out.2.1.lt; simp; omega) (fun e => H.out.2.2.2.2.2.2.2.2.2.2.1 e.symm)).trans ((((Below.refl w9.heap.size w9).drew.alloc (Nat.le_refl _) _).cell (p := ⟨s, 4, none⟩) H9.out.2.1.lt).trans p4); have q5f : w5.frozen? ⟨s, 4, none⟩ = false := (hg5.frozen_far ⟨s, 4, none⟩ (by have := H9.out.2.1.lt; simp; omega) (fun e => H.out.2.2.2.2.2.2.2.2.2.2.1 e.symm)).trans ((((Below.refl w9.heap.size w9).drew.alloc (Nat.le_refl _) _).frozen (p := ⟨s, 4, none⟩) H9.out.2.1.lt).trans f4); have H5 := Lib.hid (And.intro ho5 (And.intro hg5 (And.intro hb5 hk5))); clear ho5 hg5 hb5 hk5)
        all_goals
          clear q5s q5f p4 f4 qz0 qz1 qy0 qy1
          have hba : Below w9.heap.size w9 (w9.drew.alloc (.cells #[.int .i64 (F : Int), .int .i64 (M : Int)] 86)) := (Below.refl w9.heap.size w9).drew.alloc (Nat.le_refl _) _
          have hown0 : ∀ k, (Value.slice a S.segs.length cap).ownBlock = some k → ρ1 k = 0 := fun k hk => (H9.out.2.2.2.2.2.1.old k (World.ownsRow.lt H.out.2.2.2.2.1 k hk).2).trans (H.out.2.2.2.2.2.2.2.1 k hk)
          have hD5 := diskAt_grown H9.out.1 hba H5.out.2.1 hown0
          have ht5 : TouchX (fun g => g = s ∨ (Value.slice a S.segs.length cap).ownBlock = some g) ρ ρ1 w w5 := (H9.out.2.2.2.2.2.1.mono (fun g _ k => .inl k)).trans (touchX_grown hba H5.out.2.1 (fun k hk => .inr hk))
          have hd5 : Hd w5 s b S1 (.slice a N cap) (.slice ar S1.recs.length cr) := by
            rw [H8.out.2.2.2.2.2.2.2.1.2.1, ← hNM.out.2.1]
            exact H9.out.2.1.same ((H5.out.2.1.block s (Nat.lt_of_lt_of_le H9.out.2.1.lt hba.size) (fun e => H.out.2.2.2.2.2.2.2.2.2.2.1 e.symm)).trans (hba.block s H9.out.2.1.lt))
          have hdA : Hd (w5.setCell ⟨s, 4, none⟩ (.slice (some ⟨g5, 0, none⟩) (N + 1) cap5)) s b { S1 with segs := S.segs ++ [(F, M)] } (.slice (some ⟨g5, 0, none⟩) (N + 1) cap5) (.slice ar S1.recs.length cr) := hd_set hd5 4 rfl
          have hoA : OwnG (w5.setCell ⟨s, 4, none⟩ (.slice (some ⟨g5, 0, none⟩) (N + 1) cap5)) (some ⟨g5, 0, none⟩) cap5 (S.segs ++ [(F, M)]) := H5.out.1.same fun g hg => heap_setCell_other _ _ g _ (fun e => by
            have hg' : g5 = g := by simpa [Value.ownBlock] using hg
            have := OwnG.ne hd5 H5.out.1
            exact this (by rw [hg, e]))
          have hDA := diskAt_set hD5 ⟨s, 4, none⟩ (.slice (some ⟨g5, 0, none⟩) (N + 1) cap5) H9.out.2.2.2.2.1
          have htA := ht5.set ⟨s, 4, none⟩ (.slice (some ⟨g5, 0, none⟩) (N + 1) cap5) (.inl rfl)
          have hkA : OwnG (w5.setCell ⟨s, 4, none⟩ (.slice (some ⟨g5, 0, none⟩) (N + 1) cap5)) a cap S.segs := H5.out.2.2.2.same fun g hg => heap_setCell_other _ _ g _ (fun e => H.out.2.2.2.2.2.2.2.2.2.2.1 (by rw [hg, e]))
          generalize World.setCell w5 _ _ = wA at *
          have hg50 : ρ1 g5 = 0 ∧ g5 < wA.heap.size := by
            refine ⟨?_, (World.ownsRow.lt hoA g5 rfl).2⟩
            rcases H5.out.2.2.1 with e | e
            · exact hown0 g5 e
            · exact H9.out.1.raw.lab g5 (by rw [e]; exact hba.size)
          obtain ⟨-, -, -, p3, -, -, -⟩ := hd_cells hdA
          have hep : S1.epoch ≤ 1099511627776 := by rw [H8.out.2.2.2.2.2.2.2.1.2.2.1]; exact H.out.2.2.2.2.2.2.2.2.2.1
          have f3 := hd_free hdA 3
          have hdB : Hd (wA.setCell ⟨s, 3, none⟩ (.int .i64 ((S1.epoch : Int) + 1))) s b { S1 with segs := S.segs ++ [(F, M)], epoch := S1.epoch + 1 } (.slice (some ⟨g5, 0, none⟩) (N + 1) cap5) (.slice ar S1.recs.length cr) := hd_set hdA 3 rfl
          have hDB := diskAt_set hDA ⟨s, 3, none⟩ (.int .i64 ((S1.epoch : Int) + 1)) H9.out.2.2.2.2.1
          have htB := htA.set ⟨s, 3, none⟩ (.int .i64 ((S1.epoch : Int) + 1)) (.inl rfl)
          have hoB : OwnG (wA.setCell ⟨s, 3, none⟩ (.int .i64 ((S1.epoch : Int) + 1))) (some ⟨g5, 0, none⟩) cap5 (S.segs ++ [(F, M)]) := hoA.same fun g hg => heap_setCell_other _ _ g _ (fun e => OwnG.ne hdA hoA (by rw [hg, e]))
          have hkB : OwnG (wA.setCell ⟨s, 3, none⟩ (.int .i64 ((S1.epoch : Int) + 1))) a cap S.segs := hkA.same fun g hg => heap_setCell_other _ _ g _ (fun e => H.out.2.2.2.2.2.2.2.2.2.2.1 (by rw [hg, e]))
          have hown1 : ∀ k, (Value.slice a S.segs.length cap).ownBlock = some k → ρ1 k = 0 ∧ k ≠ s := fun k hk => ⟨hown0 k hk, fun e => H.out.2.2.2.2.2.2.2.2.2.2.1 (by rw [hk, e])⟩
          have hlen1 : (S.segs ++ [(F, M)]).length = N + 1 := by rw [List.length_append, ← hNM.out.1]; rfl
          have hF : F < 256 := by have := freeN_le S.exts 64 2; have h2 := hNM.out.2.2; unfold Stor.free at h2; omega
          have hlay := slay_any (S := { S1 with segs := S.segs ++ [(F, M)], epoch := S1.epoch + 1 }) (a := some ⟨g5, 0, none⟩) (cap := cap5) (ar := ar) (cr := cr) hDB H8.out.2.2.2.2.2.1 (by have := hn9.out; omega)
            (by show Hd _ s b _ (.slice _ (S.segs ++ [(F, M)]).length _) _; rw [hlen1]; exact hdB) H9.out.2.2.2.2.1 hoB (by show S1.at_ ≤ 1; rw [H8.out.2.2.2.2.2.2.2.1.2.2.2]; exact H.out.2.2.2.2.2.2.2.2.1)
            (by show S1.epoch + 1 < 256 ^ 6; omega) (by
              intro x hx
              unfold Stor.exts at hx
              rw [List.map_append] at hx
              rcases List.mem_append.1 hx with hx | hx
              · have := H.out.2.2.2.2.2.2.1 x hx; omega
              · rw [List.mem_singleton.1 hx]; exact hF) (by unfold Stor.exts; rw [List.length_map]; show (S.segs ++ [(F, M)]).length ≤ 64; omega)
          have hlk := layS_keeps D1 { S1 with segs := S.segs ++ [(F, M)], epoch := S1.epoch + 1 }
          rw [← HRR.out] at hlay hlk
          simp only [hlen1] at hlay
          have HL := Lib.hid (And.intro hlay (And.intro htB (And.intro hoB (And.intro hlk (And.intro hg50 (And.intro hlen1 (And.intro hdB (And.intro hkB hown1))))))))
          clear hba hown0 hD5 ht5 hd5 hdA hoA hDA htA hg50 hdB hDB htB hoB hlay hlk hlen1 hF hkA hkB hown1
          go_wp2_with fail
          refine HL.out.1.mono ?_
          rintro e w10 ⟨rfl, ρ2, hD', hd', ht'⟩
          have H10 := Lib.hid (And.intro hD' (And.intro hd' ht'))
          clear hD' hd' ht'
          go_wp2_with fail
          go_ret
          have hsg : g5 ≠ s := fun e => OwnG.ne HL.out.2.2.2.2.2.2.1 HL.out.2.2.1 (by rw [e]; rfl)
          refine ⟨rfl, ρ2, some ⟨g5, 0, none⟩, cap5, H10.out.1, ?_, ?_, ?_, HL.out.2.1.trans (H10.out.2.2.mono (fun g _ k => .inl k)), ?_⟩
          · have := H10.out.2.1
            rw [HL.out.2.2.2.1.1, HL.out.2.2.2.1.2.1]
            show Hd _ s b _ (.slice _ (S.segs ++ [(F, M)]).length _) _
            rw [HL.out.2.2.2.2.2.1]
            exact this
          · rw [HL.out.2.2.2.1.1]
            exact HL.out.2.2.1.same fun g hg => by
              have hg' : g5 = g := by simpa [Value.ownBlock] using hg
              subst hg'
              exact H10.out.2.2.same g5 (by simpa [World.setCell] using HL.out.2.2.2.2.1.2) HL.out.2.2.2.2.1.1 hsg
          · intro g hg
            have hg' : g5 = g := by simpa [Value.ownBlock] using hg
            subst hg'
            refine ⟨(H10.out.2.2.old g5 (by simpa [World.setCell] using HL.out.2.2.2.2.1.2)).trans HL.out.2.2.2.2.1.1, ?_⟩
            rcases H5.out.2.2.1 with e | e
            · exact .inl e
            · right
              rw [e]
              exact Nat.le_trans (Nat.le_trans H8.out.2.2.2.1.size H9.out.2.2.1.size) (by simp)
          · exact HL.out.2.2.2.2.2.2.2.1.same fun g hg => H10.out.2.2.same g (World.ownsRow.lt HL.out.2.2.2.2.2.2.2.1 g hg).2 (HL.out.2.2.2.2.2.2.2.2 g hg).1 (HL.out.2.2.2.2.2.2.2.2 g hg).2
      · have he1' : (e1 == 0) = false := by simpa using he1
        have HE := Lib.hid he1
        clear he1
        go_wp2_with fail
        go_ret
        rw [H8.out.2.2.2.2.2.2.1.trans (thenS_no HE.out)]
        refine ⟨rfl, ρ1, a, cap, H9.out.1, ?_, ?_, ?_, H9.out.2.2.2.2.2.1.mono (fun g _ k => .inl k), H9.out.2.2.2.1⟩
        · show Hd w9 s b S1 (.slice a S1.segs.length cap) (.slice ar S1.recs.length cr)
          rw [H8.out.2.2.2.2.2.2.2.1.1, H8.out.2.2.2.2.2.2.2.1.2.1, ← hNM.out.1, ← hNM.out.2.1]; exact H9.out.2.1
        · show OwnG w9 a cap S1.segs
          rw [H8.out.2.2.2.2.2.2.2.1.1]; exact H9.out.2.2.2.1
        · intro g hg
          replace hg : (Value.slice a S.segs.length cap).ownBlock = some g := by rw [← H8.out.2.2.2.2.2.2.2.1.1]; exact hg
          exact ⟨(H9.out.2.2.2.2.2.1.old g (World.ownsRow.lt H.out.2.2.2.2.1 g hg).2).trans (H.out.2.2.2.2.2.2.2.1 g hg), .inl hg⟩
  · have hm1 : (mt == 0) = false := by simpa using hm0
    have HM := Lib.hid hm0
    clear hm0
    go_wp2_with fail
    go_ret
    rw [H.out.2.2.2.2.2.2.2.2.2.2.2.1.trans (if_pos HM.out)]
    exact ⟨rfl, ρ, a, cap, H1.out.2.2.2, H1.out.2.1, H1.out.2.2.1, fun g hg => ⟨H.out.2.2.2.2.2.2.2.1 g hg, .inl hg⟩, TouchX.below H1.out.1, H1.out.2.2.1⟩
end Go.Proofs.YtdmbombjkinboaaGreat
