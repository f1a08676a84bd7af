/- shamir.Combine, Recover. -/
import Derived.Test.YtefpfedpgedloaaDoorVJoin
namespace Go.Proofs.YtefpfedpgedloaaDoor
open Go.RowKit
open Gf

theorem outc_join {l d : List Shr} (hA : alk l = true) (h0 : l ≠ []) (hn : need0 l ≤ l.length) (p : d.Perm l) (x : UInt8) :
    outc l x = if fits (need0 l).toNat (len0 l) d = true then (vals (polys (len0 l) (d.take (need0 l).toNat)) x, 0) else (⟨#[]⟩, 12) := by
  rw [← outc_perm p hA x]
  have hd := (alk_iff.1 hA).perm p
  have hd0 : d ≠ [] := fun e => h0 (by subst e; exact List.perm_nil.1 p.symm)
  unfold outc
  rw [hd.alk, if_neg (show ¬ (true = false) by decide), hd.need0 hd0, hd.len0 hd0, if_neg (show ¬ (d = [] ∨ (d.length : Int) < need0 l) from fun k => k.elim hd0 (fun k => by rw [p.length_eq] at k; omega))]
theorem outc_bad {l : List Shr} (hA : alk l = false) (x : UInt8) : outc l x = (⟨#[]⟩, 1) := by unfold outc; rw [hA, if_pos rfl]
theorem outc_short {l : List Shr} (hA : alk l = true) (h : l = [] ∨ (l.length : Int) < need0 l) (x : UInt8) : outc l x = (⟨#[]⟩, 4) := by
  unfold outc; rw [hA, if_neg (show ¬ (true = false) by decide), if_pos h]
/-- What join says, in one of two ways: an error, or the polynomials. -/
theorem join_cases {l : List Shr} {own : Option Addr → Nat → List ByteArray → Prop} {e : Ending} (h : JoinE l own e) :
    (∃ c : Int, c ≠ 0 ∧ e = .returned (.tuple #[.slice none 0 0, .int .i64 c]) ∧ ∀ x, outc l x = (⟨#[]⟩, c)) ∨
    (∃ (a : Option Addr) (cp : Nat) (ps : List ByteArray), e = .returned (.tuple #[.slice a ps.length cp, .int .i64 0]) ∧ own a cp ps ∧ ps.length ≤ 64 ∧ (∀ p ∈ ps, p.size ≤ 255) ∧ (∀ x, outc l x = (vals ps x, 0)) ∧ l ≠ [] ∧ 1 ≤ need0 l ∧ need0 l ≤ 255 ∧ Alk (need0 l) (len0 l) l) := by
  rcases h with ⟨hA, rfl⟩ | ⟨hA, hs, rfl⟩ | ⟨hA, h0, hn, d, hp, ⟨hf, rfl⟩ | ⟨hf, a, cp, rfl, ho⟩⟩
  · exact .inl ⟨1, by decide, rfl, fun x => outc_bad hA x⟩
  · exact .inl ⟨4, by decide, rfl, fun x => outc_short hA hs x⟩
  · exact .inl ⟨12, by decide, rfl, fun x => by rw [outc_join hA h0 hn hp x, hf]; rfl⟩
  · have hl := alk_iff.1 hA
    have hd := hl.perm hp
    obtain ⟨s, hsm⟩ := List.exists_mem_of_ne_nil l h0
    have hok := okS_iff.1 (hl.ok s hsm)
    rw [hl.need s hsm, hl.size s hsm] at hok
    refine .inr ⟨a, cp, _, by rw [polys_length], ho, by rw [polys_length]; exact hok.2.2.2, polys_small hd (by rw [hp.length_eq]; omega) (by omega), fun x => by rw [outc_join hA h0 hn hp x, hf, if_pos rfl], h0, hok.2.1.1, hok.2.1.2, hl⟩
set_option maxRecDepth 100000 in
set_option maxHeartbeats 1000000 in
theorem combine_any {w : World} {a0 : Option Addr} {l : List Shr} (hT : SharesAt w a0 l) (hl : l.length ≤ 1000) (hs : ∀ s ∈ l, s.y.size ≤ maxLen) (cap : Nat) :
    Calls Tryd.prog 14 #[.slice a0 l.length cap] w fun e w' => e = .returned (.tuple #[.string (outc l 0).1, .int .i64 (outc l 0).2]) ∧ Below w.heap.size w w' := by
  have hj := join_any hT hl hs cap
  have hbx : bx 0 = 0 := rfl
  obtain ⟨R, hR⟩ : ∃ R, R = outc l 0 := ⟨_, rfl⟩
  rw [← hR]
  have H := Lib.hid (And.intro hj hR)
  clear hj hT hs hR
  go_enter Tryd.func14, Tryd.ntmps14
  go_wp2_with fail
  refine H.out.1.mono ?_
  rintro e w1 ⟨hJ, hb⟩
  rcases join_cases hJ with ⟨c, hc, rfl, ho⟩ | ⟨a, cp, ps, rfl, hx, hp1, hp2, ho, -, -, -, -⟩
  · have hcn : (c == 0) = false := by simpa using hc
    have hcn2 : (c != 0) = true := by simpa using hc
    have hRR : R = (⟨#[]⟩, c) := by rw [H.out.2]; exact ho 0
    have HB := Lib.hid (And.intro hb hRR)
    clear hb hRR ho hJ hc
    go_wp2_with fail
    go_ret2
    exact ⟨by rw [HB.out.2]; rfl, HB.out.1⟩
  · have hv := values_any hx.at (by omega) (fun p hp => Nat.le_trans (hp2 p hp) (by unfold maxLen; omega)) cp 0
    have hRR : R = (vals ps 0, 0) := by rw [H.out.2]; exact ho 0
    rw [hbx] at hv
    have HB := Lib.hid (And.intro hb (And.intro hRR hv))
    clear hb hRR hv ho hJ hx hp2
    go_wp2_with fail
    refine HB.out.2.2.mono ?_
    rintro e w2 ⟨rfl, hb2⟩
    have HB2 := Lib.hid hb2
    clear hb2
    go_wp2_with fail
    go_ret2
    exact ⟨by rw [HB.out.2.1]; rfl, HB.out.1.trans (HB2.out.mono HB.out.1.size)⟩
/-- What Recover says. -/
def rcv (l : List Shr) (x : Int) : Shr × Int :=
  if (outc l (bx x)).2 = 0 then (if 1 ≤ x ∧ x ≤ 255 then (⟨x, need0 l, (outc l (bx x)).1⟩, 0) else (zeroShr, 1)) else (zeroShr, (outc l (bx x)).2)
theorem zero_cells {W : World} {g : Nat} {t : TypeId} (h : W.heap[g]? = some (.cells #[.int .i64 0, .int .i64 0, .string ⟨#[]⟩] t (0, 0))) :
    W.cell? ⟨g, 0, none⟩ = some (.int .i64 0) ∧ W.cell? ⟨g, 1, none⟩ = some (.int .i64 0) ∧ W.cell? ⟨g, 2, none⟩ = some (.string ⟨#[]⟩) ∧ ∀ j, W.frozen? ⟨g, j, none⟩ = false := by
  refine ⟨?_, ?_, ?_, fun j => frozen_of_row _ _ _ _ _ h⟩ <;> (rw [cell_of_row _ _ _ _ _ _ h]; rfl)
theorem below_put3 {B : Nat} {w0 w : World} {g : Nat} (hb : Below B w0 w) (hg : B ≤ g) (a b c : Value) : Below B w0 (((w.setCell ⟨g, 0, none⟩ a).setCell ⟨g, 1, none⟩ b).setCell ⟨g, 2, none⟩ c) :=
  below_put (below_put (below_put hb hg 0 a) hg 1 b) hg 2 c
set_option maxRecDepth 100000 in
set_option maxHeartbeats 1000000 in
theorem recover_any {w : World} {a0 : Option Addr} {l : List Shr} (hT : SharesAt w a0 l) (hl : l.length ≤ 1000) (hs : ∀ s ∈ l, s.y.size ≤ maxLen) (cap : Nat) (x : Int) :
    Calls Tryd.prog 16 #[.slice a0 l.length cap, .int .i64 x] w fun e w' => e = .returned (.tuple #[.agg #[.int .i64 (rcv l x).1.x, .int .i64 (rcv l x).1.need, .string (rcv l x).1.y], .int .i64 (rcv l x).2]) ∧ Below w.heap.size w w' := by
  obtain ⟨w1, hw1⟩ : ∃ w1, w1 = w.alloc (.cells #[.int .i64 0, .int .i64 0, .string ⟨#[]⟩] 41) := ⟨_, rfl⟩
  have hb1 : Below w.heap.size w w1 := by rw [hw1]; exact (Below.refl _ _).alloc (Nat.le_refl _) _
  have hg1 : w1.heap[w.heap.size]? = some (.cells #[.int .i64 0, .int .i64 0, .string ⟨#[]⟩] 41 (0, 0)) := by rw [hw1]; exact heap_alloc_new _ _
  have hz1 : w.heap.size < w1.heap.size := by rw [hw1]; simp
  have hj := join_any (hT.below hb1) hl hs cap
  obtain ⟨R, hR⟩ : ∃ R, R = rcv l x := ⟨_, rfl⟩
  rw [← hR]
  have H := Lib.hid (And.intro hj (And.intro hR (And.intro hb1 (And.intro hg1 (And.intro hz1 hT)))))
  clear hj hT hs hR hb1 hg1 hz1
  go_enter Tryd.func16, Tryd.ntmps16
  go_upto_region 1 with fail
  rw [← hw1]
  clear hw1
  go_wp2_with fail
  refine H.out.1.mono ?_
  rintro e w2 ⟨hJ, hb⟩
  obtain ⟨c0, c1, c2, f1⟩ := zero_cells ((hb.block _ H.out.2.2.2.2.1).trans H.out.2.2.2.1)
  rcases join_cases hJ with ⟨c, hc, rfl, ho⟩ | ⟨a, cp, ps, rfl, hx, hp1, hp2, ho, h0, hn1, hn2, hAk⟩
  · have hcn : (c == 0) = false := by simpa using hc
    have hcn2 : (c != 0) = true := by simpa using hc
    have hRR : R = (zeroShr, c) := by
      rw [H.out.2.1]; unfold rcv; rw [ho (bx x), if_neg hc]
    have hb2 := H.out.2.2.1.trans (hb.mono H.out.2.2.1.size)
    have HB := Lib.hid (And.intro hb2 hRR)
    clear hb hb2 hRR ho hJ hc
    go_wp2_with fail
    refine bodyPost_ret (v := .tuple #[.agg #[.int .i64 0, .int .i64 0, .string ⟨#[]⟩], .int .i64 c]) (by simp [results, Tryd.results16, go_sem, c0, c1, c2]) rfl ?_
    exact ⟨by rw [HB.out.2]; rfl, below_put3 HB.out.1 (Nat.le_refl _) _ _ _⟩
  · have hs0 : ∃ s0, l[0]? = some s0 := by
      cases hl0 : l with
      | nil => exact absurd hl0 h0
      | cons s l => exact ⟨s, rfl⟩
    obtain ⟨s0, hs0⟩ := hs0
    obtain ⟨hnd, -⟩ := head_need hs0
    obtain ⟨tb, off, rfl, htb, -, d1, -⟩ := H.out.2.2.2.2.2 0 s0 hs0
    rw [Nat.zero_mul, Nat.add_zero, ← hnd] at d1
    have hl1 : 0 < l.length := List.length_pos_iff.2 h0
    have hb2 := H.out.2.2.1.trans (hb.mono H.out.2.2.1.size)
    have hz2 := hb.size
    by_cases hx1 : x < 1
    · have hRR : R = (zeroShr, 1) := by
        rw [H.out.2.1]; unfold rcv; rw [ho (bx x), if_pos rfl, if_neg (by omega)]
      have HB := Lib.hid (And.intro hb2 hRR)
      clear hb hb2 hRR ho hJ hx hp2 hAk d1 hnd hs0 h0
      go_wp2_with fail
      refine bodyPost_ret (v := .tuple #[.agg #[.int .i64 0, .int .i64 0, .string ⟨#[]⟩], .int .i64 1]) (by simp [results, Tryd.results16, go_sem, c0, c1, c2]) rfl ?_
      exact ⟨by rw [HB.out.2]; rfl, below_put3 HB.out.1 (Nat.le_refl _) _ _ _⟩
    by_cases hx2 : 255 < x
    · have hRR : R = (zeroShr, 1) := by
        rw [H.out.2.1]; unfold rcv; rw [ho (bx x), if_pos rfl, if_neg (by omega)]
      have HB := Lib.hid (And.intro hb2 hRR)
      clear hb hb2 hRR ho hJ hx hp2 hAk d1 hnd hs0 h0
      go_wp2_with fail
      refine bodyPost_ret (v := .tuple #[.agg #[.int .i64 0, .int .i64 0, .string ⟨#[]⟩], .int .i64 1]) (by simp [results, Tryd.results16, go_sem, c0, c1, c2]) rfl ?_
      exact ⟨by rw [HB.out.2]; rfl, below_put3 HB.out.1 (Nat.le_refl _) _ _ _⟩
    have hRR : R = (⟨x, need0 l, vals ps (bx x)⟩, 0) := by
      rw [H.out.2.1]; unfold rcv; rw [ho (bx x), if_pos rfl, if_pos (by omega)]
    have hxa := hx.at
    have hv := fun (W : World) (hW : Below w2.heap.size w2 W) => values_any (hxa.below hW) (by omega) (fun p hp => Nat.le_trans (hp2 p hp) (by unfold maxLen; omega)) cp x
    have hrow : ∀ W, Below w2.heap.size w2 W → W.heap[w.heap.size]? = some (.cells #[.int .i64 0, .int .i64 0, .string ⟨#[]⟩] 41 (0, 0)) := fun W hW => (hW.block _ (by have := H.out.2.2.2.2.1; omega)).trans ((hb.block _ H.out.2.2.2.2.1).trans H.out.2.2.2.1)
    obtain ⟨Y, hY⟩ : ∃ Y, Y = vals ps (bx x) := ⟨_, rfl⟩
    simp only [← hY] at hv
    rw [← hY] at hRR
    have HB := Lib.hid (And.intro hb2 (And.intro hRR (And.intro hv hrow)))
    have hcell : ∀ W, Below w.heap.size w W → W.cell? ⟨tb, off + 1, none⟩ = some (.int .i64 (need0 l)) := fun W hW => (hW.cell (p := ⟨tb, off + 1, none⟩) htb).trans d1
    have HC := Lib.hid hcell
    clear hb hRR ho hJ hx hxa hp2 hAk d1 hnd hs0 h0 hv hrow hY hcell c0 c1 c2 f1
    go_wp2_with fail
    have C : Below w.heap.size w w2.drew := hb2.drew
    have hwd : Below w2.heap.size w2 w2.drew := (Below.refl _ _).drew
    clear hb2 hz2
    refine wp_region_held (S := fun W => Below w.heap.size w W) (by kernel_rfl) ?_
    change wpAnyH _ _ _ _ _ _ _ _ (World.drew _)
    generalize World.drew _ = wh at *
    refine wpAnyH_take (i := 0) (v := ?_) rfl (by kernel_rfl) (by kernel_rfl) (by kernel_rfl) (fun _ _ _ h => h) (Or.inl ⟨by kernel_rfl, ?_⟩) C ?_
    rotate_left
    · (intro W hS; clear hS; go_simp; try (with_reducible rfl))
    refine wpAnyH_take (i := 1) (v := ?_) rfl (by kernel_rfl) (by kernel_rfl) (by kernel_rfl) (fun _ _ _ h => h) (Or.inl ⟨by kernel_rfl, ?_⟩) C ?_
    rotate_left
    · (intro W hS; clear hS; go_simp; try (with_reducible rfl))
    refine wpAnyH_take (i := 2) (v := ?_) rfl (by kernel_rfl) (by kernel_rfl) (by kernel_rfl) (fun _ _ _ h => h) (Or.inl ⟨by kernel_rfl, ?_⟩) C ?_
    rotate_left
    · (intro W hS; clear hS; go_simp; try (with_reducible rfl))
    refine wpAnyH_take (i := 3) (v := ?_) rfl (by kernel_rfl) (by kernel_rfl) (by kernel_rfl) (fun _ _ _ h => h) (Or.inl ⟨by kernel_rfl, ?_⟩) C ?_
    rotate_left
    · (intro W hS; clear hS; go_simp; try (with_reducible rfl))
    refine wpAnyH_take (i := 4) (v := ?_) rfl (by kernel_rfl) (by kernel_rfl) (by kernel_rfl) (fun _ _ _ h => h) (Or.inl ⟨by kernel_rfl, ?_⟩) C ?_
    rotate_left
    · (intro W hS; have d1 := HC.out W hS; clear hS; go_simp; try (with_reducible rfl))
    refine wpAnyH_take (i := 5) (v := ?_) rfl (by kernel_rfl) (by kernel_rfl) (by kernel_rfl) (fun _ _ _ h => h) (Or.inl ⟨by kernel_rfl, ?_⟩) C ?_
    rotate_left
    · (intro W hS; clear hS; go_simp; try (with_reducible rfl))
    refine wpAnyH_take (i := 6) (v := ?_) rfl (by kernel_rfl) (by kernel_rfl) (by kernel_rfl) (fun _ _ _ h => h) (Or.inl ⟨by kernel_rfl, ?_⟩) C ?_
    rotate_left
    · (intro W hS; clear hS; go_simp; try (with_reducible rfl))
    refine wpAnyH_ready (rs := [7]) (by kernel_rfl) (by simp) ?_
    refine AllReadyH.cons rfl (fun K hK => ?_) AllReadyH.nil
    go_simp
    refine (HB.out.2.2.1 wh hwd).mono ?_
    rintro e w3 ⟨rfl, hb3⟩
    have C3 : Below w.heap.size w w3 := C.trans (hb3.mono C.size)
    obtain ⟨c0, c1, c2, f1⟩ := zero_cells (HB.out.2.2.2 w3 (hwd.trans (hb3.mono hwd.size)))
    refine hK.out _ _ C3 (fun _ => ?_)
    clear hK K hb3
    refine wpAnyH_take (i := 8) (v := ?_) rfl (by kernel_rfl) (by kernel_rfl) (by kernel_rfl) (fun _ _ _ h => h) (Or.inl ⟨by kernel_rfl, ?_⟩) C3 ?_
    rotate_left
    · (intro W hS; clear hS; go_simp; try (with_reducible rfl))
    refine wpAnyH_ready (rs := [9]) (by kernel_rfl) (by simp) ?_
    refine AllReadyH.cons rfl (fun K hK => ?_) AllReadyH.nil
    go_simp
    have C4 := below_put3 C3 (Nat.le_refl _) (.int .i64 x) (.int .i64 (need0 l)) (.string Y)
    refine hK.out _ _ C4 (fun _ => ?_)
    clear hK K
    refine wpAnyH_take (i := 10) (v := ?_) rfl (by kernel_rfl) (by kernel_rfl) (by kernel_rfl) (fun _ _ _ h => h) (Or.inl ⟨by kernel_rfl, ?_⟩) C4 ?_
    rotate_left
    · (intro W hS; clear hS; go_simp; try (with_reducible rfl))
    refine wpAnyH_done (by kernel_rfl) ?_ _
    go_simp
    have HC4 := Lib.hid C4
    clear C3 C4 C hwd
    go_wp2_with fail
    refine bodyPost_ret (v := .tuple #[.agg #[.int .i64 x, .int .i64 (need0 l), .string Y], .int .i64 0]) (by simp [results, Tryd.results16, go_sem, c0, c1, c2]) rfl ?_
    exact ⟨by rw [HB.out.2.1], HC4.out⟩
end Go.Proofs.YtefpfedpgedloaaDoor
