/- shamir.alike: may shares be, at places that are unlike, of one Need and as many bytes? -/
import Derived.Test.YtefpfedpgedloaaDoorVAlike
import Derived.Test.YtefpfedpgedloaaDoorRowV
namespace Go.Proofs.YtefpfedpgedloaaDoor
open Go.RowKit
open Gf

theorem head_need {l : List Shr} {s0 : Shr} (h : l[0]? = some s0) : need0 l = s0.need ∧ len0 l = s0.y.size := by
  match l, h with
  | s :: l, h =>
    simp at h
    subst h
    exact ⟨rfl, rfl⟩
/-- What the region reads. -/
def AlS (tb off g gb : Nat) (s s0 : Shr) (d : List Shr) (W : World) : Prop :=
  W.cell? ⟨gb, 0, none⟩ = some (.int .i64 s.x) ∧ W.cell? ⟨gb, 1, none⟩ = some (.int .i64 s.need) ∧ W.cell? ⟨gb, 2, none⟩ = some (.string s.y) ∧
    W.cell? ⟨tb, off + 1, none⟩ = some (.int .i64 s0.need) ∧ W.cell? ⟨tb, off + 2, none⟩ = some (.string s0.y) ∧ RowV 74 W g (seenK (bys d))
theorem drew_call {B : Nat} {w w' : World} (h : Below w.drew.heap.size w.drew w') (hB : B ≤ w.heap.size) : Below B w w' := ⟨h.os, h.tape, h.output, h.size, fun k hk => h.block k (show k < w.heap.size by omega)⟩
set_option maxRecDepth 100000 in
set_option maxHeartbeats 1000000 in
theorem alike_any {w : World} {a0 : Option Addr} {l : List Shr} (hT : SharesAt w a0 l) (hn : l.length ≤ 1000000000) (hs : ∀ s ∈ l, s.y.size ≤ maxLen) (cap : Nat) :
    Calls Tryd.prog 28 #[.slice a0 l.length cap] w fun e w' => e = .returned (.bool (alk l)) ∧ Below w.heap.size w w' := by
  obtain ⟨n, hN⟩ : ∃ n, n = l.length := ⟨_, rfl⟩
  obtain ⟨R, hR⟩ : ∃ R, R = alk l := ⟨_, rfl⟩
  rw [← hN] at hn ⊢
  rw [← hR]
  have hz := zbool
  have hr0 : RowV 74 (w.alloc (.cells noneSeen.toArray 74)) w.heap.size (seenK (bys (l.take 0))) := by
    rw [List.take_zero]
    show RowV _ _ _ (seenK [])
    rw [← noneSeen_eq]; exact heap_alloc_new w (.cells noneSeen.toArray 74)
  have hb0 : Below w.heap.size w (w.alloc (.cells noneSeen.toArray 74)) := (Below.refl _ _).alloc (Nat.le_refl _) _
  have H0 := Lib.hid (And.intro hT (And.intro hN (And.intro hR (And.intro hs (And.intro hr0 hb0)))))
  clear hT hN hR hs hr0 hb0
  go_enter Tryd.func28, Tryd.ntmps28
  go_wp2_with fail
  generalize World.alloc w _ = w1 at *
  clear hz
  go_loopw [5, 8] (fun _ i wr => ∃ k : Nat, k ≤ n ∧ i = .int .i64 (k : Int) ∧ AlkT (need0 l) (len0 l) l k ∧ RowV 74 wr w.heap.size (seenK (bys (l.take k))) ∧ Below w.heap.size w wr) (fun _ i _ => n - (intOf i).toNat)
  case atStart => exact ⟨0, by omega, rfl, AlkT.zero _ _ _, H0.out.2.2.2.2.1, H0.out.2.2.2.2.2⟩
  case round =>
    obtain ⟨k, hk, rfl, hA, hr, hb⟩ := hrel
    by_cases hlt : k < n
    · obtain ⟨s, hsk⟩ : ∃ s, l[k]? = some s := ⟨_, List.getElem?_eq_getElem (by have := H0.out.2.1; omega)⟩
      obtain ⟨s0, hs0⟩ : ∃ s0, l[0]? = some s0 := ⟨_, List.getElem?_eq_getElem (by have := H0.out.2.1; omega)⟩
      obtain ⟨tb, off, rfl, htb, c0, c1, c2⟩ := (H0.out.1.below hb) k s hsk
      obtain ⟨tb', off', e', -, -, d1, d2⟩ := (H0.out.1.below hb) 0 s0 hs0
      injection e' with e'
      injection e' with e1 e2 _
      subst e1 e2
      rw [Nat.zero_mul, Nat.add_zero] at d1 d2
      obtain ⟨hn0, hl0⟩ := head_need hs0
      have hgl : w.heap.size < wr.heap.size := (Array.getElem?_eq_some_iff.1 hr).1
      obtain ⟨wb, hwb⟩ : ∃ wb, wb = wr.alloc (.cells #[.int .i64 s.x, .int .i64 s.need, .string s.y] 41) := ⟨_, rfl⟩
      have hbw : Below wr.heap.size wr wb := by rw [hwb]; exact (Below.refl _ _).alloc (Nat.le_refl _) _
      have hbox : wb.heap[wr.heap.size]? = some (.cells #[.int .i64 s.x, .int .i64 s.need, .string s.y] 41 (0, 0)) := by rw [hwb]; exact heap_alloc_new _ _
      have hzb : wr.heap.size < wb.heap.size := by rw [hwb]; simp
      have hF : ∀ W, Below wb.heap.size wb W → AlS tb off w.heap.size wr.heap.size s s0 (l.take k) W := fun W hW => by
        have hg := (hW.block wr.heap.size hzb).trans hbox
        have hW2 : Below wr.heap.size wr W := hbw.trans (hW.mono hbw.size)
        refine ⟨?_, ?_, ?_, (hW2.cell (p := ⟨tb, off + 1, none⟩) htb).trans d1, (hW2.cell (p := ⟨tb, off + 2, none⟩) htb).trans d2, (hW2.block _ hgl).trans hr⟩ <;> (rw [cell_of_row _ _ _ _ _ _ hg]; rfl)
      have hck := fun (W : World) => check_any s (H0.out.2.2.2.1 s (List.mem_of_getElem? hsk)) W
      obtain ⟨ck, hckv⟩ : ∃ ck, ck = okS s := ⟨_, rfl⟩
      rw [← hckv] at hck
      have HK := Lib.hid (And.intro hF (And.intro hck (And.intro hckv (And.intro hsk (And.intro hA (And.intro (hb.trans (hbw.mono hb.size)) (And.intro hn0 (And.intro hl0 hr))))))))
      have hzw : w.heap.size < wb.heap.size := by omega
      clear d1 d2 hF hck hA hb hr hn0 hl0 hbw hbox hckv
      cases ck with
      | false =>
        obtain rfl : R = false := by rw [H0.out.2.2.1]; exact alk_bad HK.out.2.2.2.1 (fun e => by have h1 := HK.out.2.2.1; rw [e.1] at h1; cases h1)
        go_upto_region 5 with fail
        rw [← hwb]
        clear hwb c0 c1 c2
        have C := HK.out.1 wb.drew (Below.refl _ _).drew
        have hwd : Below wb.heap.size wb wb.drew := (Below.refl _ _).drew
        refine wp_region_held (S := AlS tb off w.heap.size wr.heap.size s s0 (l.take k)) (by kernel_rfl) ?_
        change wpAnyH _ _ _ _ _ _ _ _ (World.drew _)
        generalize World.drew _ = wh at *
        refine wpAnyH_take (i := 0) (v := ?_) rfl (by kernel_rfl) (by kernel_rfl) (by kernel_rfl) (fun _ _ _ h => h) (Or.inl ⟨by kernel_rfl, ?_⟩) C ?_
        rotate_left
        · (intro W hS; obtain ⟨g0, g1, g2, g3, g4, g5⟩ := hS; clear g5; go_simp; try (with_reducible rfl))
        refine wpAnyH_ready (rs := [1]) (by kernel_rfl) (by simp) ?_
        refine AllReadyH.cons rfl (fun K hK => ?_) AllReadyH.nil
        go_simp
        refine (HK.out.2.1 wh).mono ?_
        rintro e w6 ⟨rfl, hb6⟩
        have hwd6 := hwd.trans (hb6.mono hwd.size)
        have C := HK.out.1 w6 hwd6
        refine hK.out _ _ C (fun _ => ?_)
        clear hK K hb6 hwd
        refine wpAnyH_take (i := 2) (v := ?_) rfl (by kernel_rfl) (by kernel_rfl) (by kernel_rfl) (fun _ _ _ h => h) (Or.inl ⟨by kernel_rfl, ?_⟩) C ?_
        rotate_left
        · (intro W hS; obtain ⟨g0, g1, g2, g3, g4, g5⟩ := hS; clear g5; go_simp; try (with_reducible rfl))
        refine wpAnyH_take (i := 3) (v := ?_) rfl (by kernel_rfl) (by kernel_rfl) (by kernel_rfl) (fun _ _ _ h => h) (Or.inl ⟨by kernel_rfl, ?_⟩) C ?_
        rotate_left
        · (intro W hS; obtain ⟨g0, g1, g2, g3, g4, g5⟩ := hS; clear g5; go_simp; try (with_reducible rfl))
        refine wpAnyH_take (i := 4) (v := undef) rfl (by kernel_rfl) (by kernel_rfl) (by kernel_rfl) (fun _ _ _ h => h) (Or.inr ⟨by kernel_rfl, rfl⟩) C ?_
        refine wpAnyH_take (i := 5) (v := undef) rfl (by kernel_rfl) (by kernel_rfl) (by kernel_rfl) (fun _ _ _ h => h) (Or.inr ⟨by kernel_rfl, rfl⟩) C ?_
        refine wpAnyH_take (i := 6) (v := undef) rfl (by kernel_rfl) (by kernel_rfl) (by kernel_rfl) (fun _ _ _ h => h) (Or.inr ⟨by kernel_rfl, rfl⟩) C ?_
        refine wpAnyH_take (i := 7) (v := undef) rfl (by kernel_rfl) (by kernel_rfl) (by kernel_rfl) (fun _ _ _ h => h) (Or.inr ⟨by kernel_rfl, rfl⟩) C ?_
        refine wpAnyH_take (i := 8) (v := ?_) rfl (by kernel_rfl) (by kernel_rfl) (by kernel_rfl) (fun _ _ _ h => h) (Or.inl ⟨by kernel_rfl, ?_⟩) C ?_
        rotate_left
        · (intro W hS; obtain ⟨g0, g1, g2, g3, g4, g5⟩ := hS; clear g5; go_simp; try (with_reducible rfl))
        refine wpAnyH_take (i := 9) (v := ?_) rfl (by kernel_rfl) (by kernel_rfl) (by kernel_rfl) (fun _ _ _ h => h) (Or.inl ⟨by kernel_rfl, ?_⟩) C ?_
        rotate_left
        · (intro W hS; obtain ⟨g0, g1, g2, g3, g4, g5⟩ := hS; clear g5; go_simp; try (with_reducible rfl))
        refine wpAnyH_take (i := 10) (v := undef) rfl (by kernel_rfl) (by kernel_rfl) (by kernel_rfl) (fun _ _ _ h => h) (Or.inr ⟨by kernel_rfl, rfl⟩) C ?_
        refine wpAnyH_take (i := 11) (v := undef) rfl (by kernel_rfl) (by kernel_rfl) (by kernel_rfl) (fun _ _ _ h => h) (Or.inr ⟨by kernel_rfl, rfl⟩) C ?_
        refine wpAnyH_take (i := 12) (v := undef) rfl (by kernel_rfl) (by kernel_rfl) (by kernel_rfl) (fun _ _ _ h => h) (Or.inr ⟨by kernel_rfl, rfl⟩) C ?_
        refine wpAnyH_take (i := 13) (v := undef) rfl (by kernel_rfl) (by kernel_rfl) (by kernel_rfl) (fun _ _ _ h => h) (Or.inr ⟨by kernel_rfl, rfl⟩) C ?_
        refine wpAnyH_take (i := 14) (v := undef) rfl (by kernel_rfl) (by kernel_rfl) (by kernel_rfl) (fun _ _ _ h => h) (Or.inr ⟨by kernel_rfl, rfl⟩) C ?_
        refine wpAnyH_take (i := 15) (v := undef) rfl (by kernel_rfl) (by kernel_rfl) (by kernel_rfl) (fun _ _ _ h => h) (Or.inr ⟨by kernel_rfl, rfl⟩) C ?_
        refine wpAnyH_take (i := 16) (v := undef) rfl (by kernel_rfl) (by kernel_rfl) (by kernel_rfl) (fun _ _ _ h => h) (Or.inr ⟨by kernel_rfl, rfl⟩) C ?_
        refine wpAnyH_take (i := 17) (v := ?_) rfl (by kernel_rfl) (by kernel_rfl) (by kernel_rfl) (fun _ _ _ h => h) (Or.inl ⟨by kernel_rfl, ?_⟩) C ?_
        rotate_left
        · (intro W hS; obtain ⟨g0, g1, g2, g3, g4, g5⟩ := hS; clear g5; go_simp; try (with_reducible rfl))
        refine wpAnyH_take (i := 18) (v := ?_) rfl (by kernel_rfl) (by kernel_rfl) (by kernel_rfl) (fun _ _ _ h => h) (Or.inl ⟨by kernel_rfl, ?_⟩) C ?_
        rotate_left
        · (intro W hS; obtain ⟨g0, g1, g2, g3, g4, g5⟩ := hS; clear g5; go_simp; try (with_reducible rfl))
        refine wpAnyH_take (i := 19) (v := undef) rfl (by kernel_rfl) (by kernel_rfl) (by kernel_rfl) (fun _ _ _ h => h) (Or.inr ⟨by kernel_rfl, rfl⟩) C ?_
        refine wpAnyH_take (i := 20) (v := undef) rfl (by kernel_rfl) (by kernel_rfl) (by kernel_rfl) (fun _ _ _ h => h) (Or.inr ⟨by kernel_rfl, rfl⟩) C ?_
        refine wpAnyH_take (i := 21) (v := undef) rfl (by kernel_rfl) (by kernel_rfl) (by kernel_rfl) (fun _ _ _ h => h) (Or.inr ⟨by kernel_rfl, rfl⟩) C ?_
        refine wpAnyH_take (i := 22) (v := undef) rfl (by kernel_rfl) (by kernel_rfl) (by kernel_rfl) (fun _ _ _ h => h) (Or.inr ⟨by kernel_rfl, rfl⟩) C ?_
        refine wpAnyH_take (i := 23) (v := undef) rfl (by kernel_rfl) (by kernel_rfl) (by kernel_rfl) (fun _ _ _ h => h) (Or.inr ⟨by kernel_rfl, rfl⟩) C ?_
        refine wpAnyH_take (i := 24) (v := undef) rfl (by kernel_rfl) (by kernel_rfl) (by kernel_rfl) (fun _ _ _ h => h) (Or.inr ⟨by kernel_rfl, rfl⟩) C ?_
        refine wpAnyH_take (i := 25) (v := undef) rfl (by kernel_rfl) (by kernel_rfl) (by kernel_rfl) (fun _ _ _ h => h) (Or.inr ⟨by kernel_rfl, rfl⟩) C ?_
        refine wpAnyH_take (i := 26) (v := undef) rfl (by kernel_rfl) (by kernel_rfl) (by kernel_rfl) (fun _ _ _ h => h) (Or.inr ⟨by kernel_rfl, rfl⟩) C ?_
        refine wpAnyH_take (i := 27) (v := undef) rfl (by kernel_rfl) (by kernel_rfl) (by kernel_rfl) (fun _ _ _ h => h) (Or.inr ⟨by kernel_rfl, rfl⟩) C ?_
        refine wpAnyH_take (i := 28) (v := ?_) rfl (by kernel_rfl) (by kernel_rfl) (by kernel_rfl) (fun _ _ _ h => h) (Or.inl ⟨by kernel_rfl, ?_⟩) C ?_
        rotate_left
        · (intro W hS; obtain ⟨g0, g1, g2, g3, g4, g5⟩ := hS; clear g5; go_simp; try (with_reducible rfl))
        refine wpAnyH_done (by kernel_rfl) ?_ _
        go_simp
        have H6 := Lib.hid (And.intro hwd6 C)
        clear hwd6 C
        go_wp2_with fail
        go_ret
        exact ⟨rfl, HK.out.2.2.2.2.2.1.trans (H6.out.1.mono (Nat.le_of_lt hzw))⟩
      | true =>
        have hok := okS_iff.1 HK.out.2.2.1.symm
        obtain ⟨X, hX⟩ : ∃ X : Nat, s.x = (X : Int) := ⟨s.x.toNat, by omega⟩
        have hn0 : 0 < n := by omega
        have hX0 : (X : Int) < 256 := by omega
        have hXn : X < 256 := by omega
        have hbx : (bx s.x).toNat = X := by have := bx_num (x := s.x) (by omega) (by omega); omega
        have hin := mem_bys HK.out.2.2.2.2.1 (x := s.x) (by omega) (by omega)
        have HX := Lib.hid (And.intro hX (And.intro hbx hin))
        clear hX hbx hin hok
        by_cases hmem : s.x ∈ (l.take k).map Shr.x
        · obtain rfl : R = false := by rw [H0.out.2.2.1]; exact alk_bad HK.out.2.2.2.1 (fun e => e.2.2.2 hmem)
          go_upto_region 5 with fail
          rw [← hwb]
          clear hwb c0 c1 c2
          have C := HK.out.1 wb.drew (Below.refl _ _).drew
          have hwd : Below wb.heap.size wb wb.drew := (Below.refl _ _).drew
          refine wp_region_held (S := AlS tb off w.heap.size wr.heap.size s s0 (l.take k)) (by kernel_rfl) ?_
          change wpAnyH _ _ _ _ _ _ _ _ (World.drew _)
          generalize World.drew _ = wh at *
          refine wpAnyH_take (i := 0) (v := ?_) rfl (by kernel_rfl) (by kernel_rfl) (by kernel_rfl) (fun _ _ _ h => h) (Or.inl ⟨by kernel_rfl, ?_⟩) C ?_
          rotate_left
          · (intro W hS; obtain ⟨g0, g1, g2, g3, g4, g5⟩ := hS; clear g5; go_simp; try (with_reducible rfl))
          refine wpAnyH_ready (rs := [1]) (by kernel_rfl) (by simp) ?_
          refine AllReadyH.cons rfl (fun K hK => ?_) AllReadyH.nil
          go_simp
          refine (HK.out.2.1 wh).mono ?_
          rintro e w6 ⟨rfl, hb6⟩
          have hwd6 := hwd.trans (hb6.mono hwd.size)
          have C := HK.out.1 w6 hwd6
          refine hK.out _ _ C (fun _ => ?_)
          clear hK K hb6 hwd
          refine wpAnyH_take (i := 2) (v := ?_) rfl (by kernel_rfl) (by kernel_rfl) (by kernel_rfl) (fun _ _ _ h => h) (Or.inl ⟨by kernel_rfl, ?_⟩) C ?_
          rotate_left
          · (intro W hS; obtain ⟨g0, g1, g2, g3, g4, g5⟩ := hS; clear g5; go_simp; try (with_reducible rfl))
          refine wpAnyH_take (i := 3) (v := ?_) rfl (by kernel_rfl) (by kernel_rfl) (by kernel_rfl) (fun _ _ _ h => h) (Or.inl ⟨by kernel_rfl, ?_⟩) C ?_
          rotate_left
          · (intro W hS; obtain ⟨g0, g1, g2, g3, g4, g5⟩ := hS; clear g5; go_simp; try (with_reducible rfl))
          refine wpAnyH_take (i := 4) (v := ?_) rfl (by kernel_rfl) (by kernel_rfl) (by kernel_rfl) (fun _ _ _ h => h) (Or.inl ⟨by kernel_rfl, ?_⟩) C ?_
          rotate_left
          · (intro W hS; obtain ⟨g0, g1, g2, g3, g4, g5⟩ := hS; clear g5; go_simp; try (with_reducible rfl))
          refine wpAnyH_take (i := 5) (v := ?_) rfl (by kernel_rfl) (by kernel_rfl) (by kernel_rfl) (fun _ _ _ h => h) (Or.inl ⟨by kernel_rfl, ?_⟩) C ?_
          rotate_left
          · (intro W hS; obtain ⟨g0, g1, g2, g3, g4, g5⟩ := hS; clear g5; rw [HX.out.1] at g0; go_simp; try (with_reducible rfl))
          refine wpAnyH_take (i := 6) (v := ?_) rfl (by kernel_rfl) (by kernel_rfl) (by kernel_rfl) (fun _ _ _ h => h) (Or.inl ⟨by kernel_rfl, ?_⟩) C ?_
          rotate_left
          · (intro W hS; obtain ⟨g0, g1, g2, g3, g4, g5⟩ := hS; clear g5; go_simp; try (with_reducible rfl))
          refine wpAnyH_take (i := 7) (v := ?_) rfl (by kernel_rfl) (by kernel_rfl) (by kernel_rfl) (fun _ _ _ h => h) (Or.inl ⟨by kernel_rfl, ?_⟩) C ?_
          rotate_left
          · (intro W hS; obtain ⟨g0, g1, g2, g3, g4, g5⟩ := hS; have t1 := g5.cell X _ (by have := seenK_get (bys (l.take k)) (bx s.x); rw [HX.out.2.1] at this; exact this); rw [decide_eq_true (HX.out.2.2.2 hmem)] at t1; clear g5; go_simp; try (with_reducible rfl))
          refine wpAnyH_take (i := 8) (v := ?_) rfl (by kernel_rfl) (by kernel_rfl) (by kernel_rfl) (fun _ _ _ h => h) (Or.inl ⟨by kernel_rfl, ?_⟩) C ?_
          rotate_left
          · (intro W hS; obtain ⟨g0, g1, g2, g3, g4, g5⟩ := hS; clear g5; go_simp; try (with_reducible rfl))
          refine wpAnyH_take (i := 9) (v := ?_) rfl (by kernel_rfl) (by kernel_rfl) (by kernel_rfl) (fun _ _ _ h => h) (Or.inl ⟨by kernel_rfl, ?_⟩) C ?_
          rotate_left
          · (intro W hS; obtain ⟨g0, g1, g2, g3, g4, g5⟩ := hS; clear g5; go_simp; try (with_reducible rfl))
          refine wpAnyH_take (i := 10) (v := undef) rfl (by kernel_rfl) (by kernel_rfl) (by kernel_rfl) (fun _ _ _ h => h) (Or.inr ⟨by kernel_rfl, rfl⟩) C ?_
          refine wpAnyH_take (i := 11) (v := undef) rfl (by kernel_rfl) (by kernel_rfl) (by kernel_rfl) (fun _ _ _ h => h) (Or.inr ⟨by kernel_rfl, rfl⟩) C ?_
          refine wpAnyH_take (i := 12) (v := undef) rfl (by kernel_rfl) (by kernel_rfl) (by kernel_rfl) (fun _ _ _ h => h) (Or.inr ⟨by kernel_rfl, rfl⟩) C ?_
          refine wpAnyH_take (i := 13) (v := undef) rfl (by kernel_rfl) (by kernel_rfl) (by kernel_rfl) (fun _ _ _ h => h) (Or.inr ⟨by kernel_rfl, rfl⟩) C ?_
          refine wpAnyH_take (i := 14) (v := undef) rfl (by kernel_rfl) (by kernel_rfl) (by kernel_rfl) (fun _ _ _ h => h) (Or.inr ⟨by kernel_rfl, rfl⟩) C ?_
          refine wpAnyH_take (i := 15) (v := undef) rfl (by kernel_rfl) (by kernel_rfl) (by kernel_rfl) (fun _ _ _ h => h) (Or.inr ⟨by kernel_rfl, rfl⟩) C ?_
          refine wpAnyH_take (i := 16) (v := undef) rfl (by kernel_rfl) (by kernel_rfl) (by kernel_rfl) (fun _ _ _ h => h) (Or.inr ⟨by kernel_rfl, rfl⟩) C ?_
          refine wpAnyH_take (i := 17) (v := ?_) rfl (by kernel_rfl) (by kernel_rfl) (by kernel_rfl) (fun _ _ _ h => h) (Or.inl ⟨by kernel_rfl, ?_⟩) C ?_
          rotate_left
          · (intro W hS; obtain ⟨g0, g1, g2, g3, g4, g5⟩ := hS; clear g5; go_simp; try (with_reducible rfl))
          refine wpAnyH_take (i := 18) (v := ?_) rfl (by kernel_rfl) (by kernel_rfl) (by kernel_rfl) (fun _ _ _ h => h) (Or.inl ⟨by kernel_rfl, ?_⟩) C ?_
          rotate_left
          · (intro W hS; obtain ⟨g0, g1, g2, g3, g4, g5⟩ := hS; clear g5; go_simp; try (with_reducible rfl))
          refine wpAnyH_take (i := 19) (v := undef) rfl (by kernel_rfl) (by kernel_rfl) (by kernel_rfl) (fun _ _ _ h => h) (Or.inr ⟨by kernel_rfl, rfl⟩) C ?_
          refine wpAnyH_take (i := 20) (v := undef) rfl (by kernel_rfl) (by kernel_rfl) (by kernel_rfl) (fun _ _ _ h => h) (Or.inr ⟨by kernel_rfl, rfl⟩) C ?_
          refine wpAnyH_take (i := 21) (v := undef) rfl (by kernel_rfl) (by kernel_rfl) (by kernel_rfl) (fun _ _ _ h => h) (Or.inr ⟨by kernel_rfl, rfl⟩) C ?_
          refine wpAnyH_take (i := 22) (v := undef) rfl (by kernel_rfl) (by kernel_rfl) (by kernel_rfl) (fun _ _ _ h => h) (Or.inr ⟨by kernel_rfl, rfl⟩) C ?_
          refine wpAnyH_take (i := 23) (v := undef) rfl (by kernel_rfl) (by kernel_rfl) (by kernel_rfl) (fun _ _ _ h => h) (Or.inr ⟨by kernel_rfl, rfl⟩) C ?_
          refine wpAnyH_take (i := 24) (v := undef) rfl (by kernel_rfl) (by kernel_rfl) (by kernel_rfl) (fun _ _ _ h => h) (Or.inr ⟨by kernel_rfl, rfl⟩) C ?_
          refine wpAnyH_take (i := 25) (v := undef) rfl (by kernel_rfl) (by kernel_rfl) (by kernel_rfl) (fun _ _ _ h => h) (Or.inr ⟨by kernel_rfl, rfl⟩) C ?_
          refine wpAnyH_take (i := 26) (v := undef) rfl (by kernel_rfl) (by kernel_rfl) (by kernel_rfl) (fun _ _ _ h => h) (Or.inr ⟨by kernel_rfl, rfl⟩) C ?_
          refine wpAnyH_take (i := 27) (v := undef) rfl (by kernel_rfl) (by kernel_rfl) (by kernel_rfl) (fun _ _ _ h => h) (Or.inr ⟨by kernel_rfl, rfl⟩) C ?_
          refine wpAnyH_take (i := 28) (v := ?_) rfl (by kernel_rfl) (by kernel_rfl) (by kernel_rfl) (fun _ _ _ h => h) (Or.inl ⟨by kernel_rfl, ?_⟩) C ?_
          rotate_left
          · (intro W hS; obtain ⟨g0, g1, g2, g3, g4, g5⟩ := hS; clear g5; go_simp; try (with_reducible rfl))
          refine wpAnyH_done (by kernel_rfl) ?_ _
          go_simp
          have H6 := Lib.hid (And.intro hwd6 C)
          clear hwd6 C
          go_wp2_with fail
          go_ret
          exact ⟨rfl, HK.out.2.2.2.2.2.1.trans (H6.out.1.mono (Nat.le_of_lt hzw))⟩
        by_cases hnd : s.need = s0.need
        rotate_left
        · have n1 : (s.need != s0.need) = true := by simpa using hnd
          obtain rfl : R = false := by rw [H0.out.2.2.1]; exact alk_bad HK.out.2.2.2.1 (fun e => hnd (by rw [e.2.1, HK.out.2.2.2.2.2.2.1]))
          go_upto_region 5 with fail
          rw [← hwb]
          clear hwb c0 c1 c2
          have C := HK.out.1 wb.drew (Below.refl _ _).drew
          have hwd : Below wb.heap.size wb wb.drew := (Below.refl _ _).drew
          refine wp_region_held (S := AlS tb off w.heap.size wr.heap.size s s0 (l.take k)) (by kernel_rfl) ?_
          change wpAnyH _ _ _ _ _ _ _ _ (World.drew _)
          generalize World.drew _ = wh at *
          refine wpAnyH_take (i := 0) (v := ?_) rfl (by kernel_rfl) (by kernel_rfl) (by kernel_rfl) (fun _ _ _ h => h) (Or.inl ⟨by kernel_rfl, ?_⟩) C ?_
          rotate_left
          · (intro W hS; obtain ⟨g0, g1, g2, g3, g4, g5⟩ := hS; clear g5; go_simp; try (with_reducible rfl))
          refine wpAnyH_ready (rs := [1]) (by kernel_rfl) (by simp) ?_
          refine AllReadyH.cons rfl (fun K hK => ?_) AllReadyH.nil
          go_simp
          refine (HK.out.2.1 wh).mono ?_
          rintro e w6 ⟨rfl, hb6⟩
          have hwd6 := hwd.trans (hb6.mono hwd.size)
          have C := HK.out.1 w6 hwd6
          refine hK.out _ _ C (fun _ => ?_)
          clear hK K hb6 hwd
          refine wpAnyH_take (i := 2) (v := ?_) rfl (by kernel_rfl) (by kernel_rfl) (by kernel_rfl) (fun _ _ _ h => h) (Or.inl ⟨by kernel_rfl, ?_⟩) C ?_
          rotate_left
          · (intro W hS; obtain ⟨g0, g1, g2, g3, g4, g5⟩ := hS; clear g5; go_simp; try (with_reducible rfl))
          refine wpAnyH_take (i := 3) (v := ?_) rfl (by kernel_rfl) (by kernel_rfl) (by kernel_rfl) (fun _ _ _ h => h) (Or.inl ⟨by kernel_rfl, ?_⟩) C ?_
          rotate_left
          · (intro W hS; obtain ⟨g0, g1, g2, g3, g4, g5⟩ := hS; clear g5; go_simp; try (with_reducible rfl))
          refine wpAnyH_take (i := 4) (v := ?_) rfl (by kernel_rfl) (by kernel_rfl) (by kernel_rfl) (fun _ _ _ h => h) (Or.inl ⟨by kernel_rfl, ?_⟩) C ?_
          rotate_left
          · (intro W hS; obtain ⟨g0, g1, g2, g3, g4, g5⟩ := hS; clear g5; go_simp; try (with_reducible rfl))
          refine wpAnyH_take (i := 5) (v := ?_) rfl (by kernel_rfl) (by kernel_rfl) (by kernel_rfl) (fun _ _ _ h => h) (Or.inl ⟨by kernel_rfl, ?_⟩) C ?_
          rotate_left
          · (intro W hS; obtain ⟨g0, g1, g2, g3, g4, g5⟩ := hS; clear g5; rw [HX.out.1] at g0; go_simp; try (with_reducible rfl))
          refine wpAnyH_take (i := 6) (v := ?_) rfl (by kernel_rfl) (by kernel_rfl) (by kernel_rfl) (fun _ _ _ h => h) (Or.inl ⟨by kernel_rfl, ?_⟩) C ?_
          rotate_left
          · (intro W hS; obtain ⟨g0, g1, g2, g3, g4, g5⟩ := hS; clear g5; go_simp; try (with_reducible rfl))
          refine wpAnyH_take (i := 7) (v := ?_) rfl (by kernel_rfl) (by kernel_rfl) (by kernel_rfl) (fun _ _ _ h => h) (Or.inl ⟨by kernel_rfl, ?_⟩) C ?_
          rotate_left
          · (intro W hS; obtain ⟨g0, g1, g2, g3, g4, g5⟩ := hS; have t1 := g5.cell X _ (by have := seenK_get (bys (l.take k)) (bx s.x); rw [HX.out.2.1] at this; exact this); rw [decide_eq_false (fun e => hmem (HX.out.2.2.1 e))] at t1; clear g5; go_simp; try (with_reducible rfl))
          refine wpAnyH_take (i := 8) (v := ?_) rfl (by kernel_rfl) (by kernel_rfl) (by kernel_rfl) (fun _ _ _ h => h) (Or.inl ⟨by kernel_rfl, ?_⟩) C ?_
          rotate_left
          · (intro W hS; obtain ⟨g0, g1, g2, g3, g4, g5⟩ := hS; clear g5; go_simp; try (with_reducible rfl))
          refine wpAnyH_take (i := 9) (v := ?_) rfl (by kernel_rfl) (by kernel_rfl) (by kernel_rfl) (fun _ _ _ h => h) (Or.inl ⟨by kernel_rfl, ?_⟩) C ?_
          rotate_left
          · (intro W hS; obtain ⟨g0, g1, g2, g3, g4, g5⟩ := hS; clear g5; go_simp; try (with_reducible rfl))
          refine wpAnyH_take (i := 10) (v := ?_) rfl (by kernel_rfl) (by kernel_rfl) (by kernel_rfl) (fun _ _ _ h => h) (Or.inl ⟨by kernel_rfl, ?_⟩) C ?_
          rotate_left
          · (intro W hS; obtain ⟨g0, g1, g2, g3, g4, g5⟩ := hS; clear g5; go_simp; try (with_reducible rfl))
          refine wpAnyH_take (i := 11) (v := ?_) rfl (by kernel_rfl) (by kernel_rfl) (by kernel_rfl) (fun _ _ _ h => h) (Or.inl ⟨by kernel_rfl, ?_⟩) C ?_
          rotate_left
          · (intro W hS; obtain ⟨g0, g1, g2, g3, g4, g5⟩ := hS; clear g5; go_simp; try (with_reducible rfl))
          refine wpAnyH_take (i := 12) (v := ?_) rfl (by kernel_rfl) (by kernel_rfl) (by kernel_rfl) (fun _ _ _ h => h) (Or.inl ⟨by kernel_rfl, ?_⟩) C ?_
          rotate_left
          · (intro W hS; obtain ⟨g0, g1, g2, g3, g4, g5⟩ := hS; clear g5; go_simp; try (with_reducible rfl))
          refine wpAnyH_take (i := 13) (v := ?_) rfl (by kernel_rfl) (by kernel_rfl) (by kernel_rfl) (fun _ _ _ h => h) (Or.inl ⟨by kernel_rfl, ?_⟩) C ?_
          rotate_left
          · (intro W hS; obtain ⟨g0, g1, g2, g3, g4, g5⟩ := hS; clear g5; go_simp; try (with_reducible rfl))
          refine wpAnyH_take (i := 14) (v := ?_) rfl (by kernel_rfl) (by kernel_rfl) (by kernel_rfl) (fun _ _ _ h => h) (Or.inl ⟨by kernel_rfl, ?_⟩) C ?_
          rotate_left
          · (intro W hS; obtain ⟨g0, g1, g2, g3, g4, g5⟩ := hS; clear g5; go_simp; try (with_reducible rfl))
          refine wpAnyH_take (i := 15) (v := ?_) rfl (by kernel_rfl) (by kernel_rfl) (by kernel_rfl) (fun _ _ _ h => h) (Or.inl ⟨by kernel_rfl, ?_⟩) C ?_
          rotate_left
          · (intro W hS; obtain ⟨g0, g1, g2, g3, g4, g5⟩ := hS; clear g5; go_simp; try (with_reducible rfl))
          refine wpAnyH_take (i := 16) (v := ?_) rfl (by kernel_rfl) (by kernel_rfl) (by kernel_rfl) (fun _ _ _ h => h) (Or.inl ⟨by kernel_rfl, ?_⟩) C ?_
          rotate_left
          · (intro W hS; obtain ⟨g0, g1, g2, g3, g4, g5⟩ := hS; clear g5; go_simp; try (with_reducible rfl))
          refine wpAnyH_take (i := 17) (v := ?_) rfl (by kernel_rfl) (by kernel_rfl) (by kernel_rfl) (fun _ _ _ h => h) (Or.inl ⟨by kernel_rfl, ?_⟩) C ?_
          rotate_left
          · (intro W hS; obtain ⟨g0, g1, g2, g3, g4, g5⟩ := hS; clear g5; go_simp; try (with_reducible rfl))
          refine wpAnyH_take (i := 18) (v := ?_) rfl (by kernel_rfl) (by kernel_rfl) (by kernel_rfl) (fun _ _ _ h => h) (Or.inl ⟨by kernel_rfl, ?_⟩) C ?_
          rotate_left
          · (intro W hS; obtain ⟨g0, g1, g2, g3, g4, g5⟩ := hS; clear g5; go_simp; try (with_reducible rfl))
          refine wpAnyH_take (i := 19) (v := undef) rfl (by kernel_rfl) (by kernel_rfl) (by kernel_rfl) (fun _ _ _ h => h) (Or.inr ⟨by kernel_rfl, rfl⟩) C ?_
          refine wpAnyH_take (i := 20) (v := undef) rfl (by kernel_rfl) (by kernel_rfl) (by kernel_rfl) (fun _ _ _ h => h) (Or.inr ⟨by kernel_rfl, rfl⟩) C ?_
          refine wpAnyH_take (i := 21) (v := undef) rfl (by kernel_rfl) (by kernel_rfl) (by kernel_rfl) (fun _ _ _ h => h) (Or.inr ⟨by kernel_rfl, rfl⟩) C ?_
          refine wpAnyH_take (i := 22) (v := undef) rfl (by kernel_rfl) (by kernel_rfl) (by kernel_rfl) (fun _ _ _ h => h) (Or.inr ⟨by kernel_rfl, rfl⟩) C ?_
          refine wpAnyH_take (i := 23) (v := undef) rfl (by kernel_rfl) (by kernel_rfl) (by kernel_rfl) (fun _ _ _ h => h) (Or.inr ⟨by kernel_rfl, rfl⟩) C ?_
          refine wpAnyH_take (i := 24) (v := undef) rfl (by kernel_rfl) (by kernel_rfl) (by kernel_rfl) (fun _ _ _ h => h) (Or.inr ⟨by kernel_rfl, rfl⟩) C ?_
          refine wpAnyH_take (i := 25) (v := undef) rfl (by kernel_rfl) (by kernel_rfl) (by kernel_rfl) (fun _ _ _ h => h) (Or.inr ⟨by kernel_rfl, rfl⟩) C ?_
          refine wpAnyH_take (i := 26) (v := undef) rfl (by kernel_rfl) (by kernel_rfl) (by kernel_rfl) (fun _ _ _ h => h) (Or.inr ⟨by kernel_rfl, rfl⟩) C ?_
          refine wpAnyH_take (i := 27) (v := undef) rfl (by kernel_rfl) (by kernel_rfl) (by kernel_rfl) (fun _ _ _ h => h) (Or.inr ⟨by kernel_rfl, rfl⟩) C ?_
          refine wpAnyH_take (i := 28) (v := ?_) rfl (by kernel_rfl) (by kernel_rfl) (by kernel_rfl) (fun _ _ _ h => h) (Or.inl ⟨by kernel_rfl, ?_⟩) C ?_
          rotate_left
          · (intro W hS; obtain ⟨g0, g1, g2, g3, g4, g5⟩ := hS; clear g5; go_simp; try (with_reducible rfl))
          refine wpAnyH_done (by kernel_rfl) ?_ _
          go_simp
          have H6 := Lib.hid (And.intro hwd6 C)
          clear hwd6 C
          go_wp2_with fail
          go_ret
          exact ⟨rfl, HK.out.2.2.2.2.2.1.trans (H6.out.1.mono (Nat.le_of_lt hzw))⟩
        have n1 : (s.need != s0.need) = false := by simpa using hnd
        have HN := Lib.hid hnd
        clear hnd
        by_cases hsz : s.y.size = s0.y.size
        rotate_left
        · have n2 : ((s.y.size : Int) != (s0.y.size : Int)) = true := by simp; omega
          obtain rfl : R = false := by rw [H0.out.2.2.1]; exact alk_bad HK.out.2.2.2.1 (fun e => hsz (by rw [e.2.2.1, HK.out.2.2.2.2.2.2.2.1]))
          go_upto_region 5 with fail
          rw [← hwb]
          clear hwb c0 c1 c2
          have C := HK.out.1 wb.drew (Below.refl _ _).drew
          have hwd : Below wb.heap.size wb wb.drew := (Below.refl _ _).drew
          refine wp_region_held (S := AlS tb off w.heap.size wr.heap.size s s0 (l.take k)) (by kernel_rfl) ?_
          change wpAnyH _ _ _ _ _ _ _ _ (World.drew _)
          generalize World.drew _ = wh at *
          refine wpAnyH_take (i := 0) (v := ?_) rfl (by kernel_rfl) (by kernel_rfl) (by kernel_rfl) (fun _ _ _ h => h) (Or.inl ⟨by kernel_rfl, ?_⟩) C ?_
          rotate_left
          · (intro W hS; obtain ⟨g0, g1, g2, g3, g4, g5⟩ := hS; clear g5; go_simp; try (with_reducible rfl))
          refine wpAnyH_ready (rs := [1]) (by kernel_rfl) (by simp) ?_
          refine AllReadyH.cons rfl (fun K hK => ?_) AllReadyH.nil
          go_simp
          refine (HK.out.2.1 wh).mono ?_
          rintro e w6 ⟨rfl, hb6⟩
          have hwd6 := hwd.trans (hb6.mono hwd.size)
          have C := HK.out.1 w6 hwd6
          refine hK.out _ _ C (fun _ => ?_)
          clear hK K hb6 hwd
          refine wpAnyH_take (i := 2) (v := ?_) rfl (by kernel_rfl) (by kernel_rfl) (by kernel_rfl) (fun _ _ _ h => h) (Or.inl ⟨by kernel_rfl, ?_⟩) C ?_
          rotate_left
          · (intro W hS; obtain ⟨g0, g1, g2, g3, g4, g5⟩ := hS; clear g5; go_simp; try (with_reducible rfl))
          refine wpAnyH_take (i := 3) (v := ?_) rfl (by kernel_rfl) (by kernel_rfl) (by kernel_rfl) (fun _ _ _ h => h) (Or.inl ⟨by kernel_rfl, ?_⟩) C ?_
          rotate_left
          · (intro W hS; obtain ⟨g0, g1, g2, g3, g4, g5⟩ := hS; clear g5; go_simp; try (with_reducible rfl))
          refine wpAnyH_take (i := 4) (v := ?_) rfl (by kernel_rfl) (by kernel_rfl) (by kernel_rfl) (fun _ _ _ h => h) (Or.inl ⟨by kernel_rfl, ?_⟩) C ?_
          rotate_left
          · (intro W hS; obtain ⟨g0, g1, g2, g3, g4, g5⟩ := hS; clear g5; go_simp; try (with_reducible rfl))
          refine wpAnyH_take (i := 5) (v := ?_) rfl (by kernel_rfl) (by kernel_rfl) (by kernel_rfl) (fun _ _ _ h => h) (Or.inl ⟨by kernel_rfl, ?_⟩) C ?_
          rotate_left
          · (intro W hS; obtain ⟨g0, g1, g2, g3, g4, g5⟩ := hS; clear g5; rw [HX.out.1] at g0; go_simp; try (with_reducible rfl))
          refine wpAnyH_take (i := 6) (v := ?_) rfl (by kernel_rfl) (by kernel_rfl) (by kernel_rfl) (fun _ _ _ h => h) (Or.inl ⟨by kernel_rfl, ?_⟩) C ?_
          rotate_left
          · (intro W hS; obtain ⟨g0, g1, g2, g3, g4, g5⟩ := hS; clear g5; go_simp; try (with_reducible rfl))
          refine wpAnyH_take (i := 7) (v := ?_) rfl (by kernel_rfl) (by kernel_rfl) (by kernel_rfl) (fun _ _ _ h => h) (Or.inl ⟨by kernel_rfl, ?_⟩) C ?_
          rotate_left
          · (intro W hS; obtain ⟨g0, g1, g2, g3, g4, g5⟩ := hS; have t1 := g5.cell X _ (by have := seenK_get (bys (l.take k)) (bx s.x); rw [HX.out.2.1] at this; exact this); rw [decide_eq_false (fun e => hmem (HX.out.2.2.1 e))] at t1; clear g5; go_simp; try (with_reducible rfl))
          refine wpAnyH_take (i := 8) (v := ?_) rfl (by kernel_rfl) (by kernel_rfl) (by kernel_rfl) (fun _ _ _ h => h) (Or.inl ⟨by kernel_rfl, ?_⟩) C ?_
          rotate_left
          · (intro W hS; obtain ⟨g0, g1, g2, g3, g4, g5⟩ := hS; clear g5; go_simp; try (with_reducible rfl))
          refine wpAnyH_take (i := 9) (v := ?_) rfl (by kernel_rfl) (by kernel_rfl) (by kernel_rfl) (fun _ _ _ h => h) (Or.inl ⟨by kernel_rfl, ?_⟩) C ?_
          rotate_left
          · (intro W hS; obtain ⟨g0, g1, g2, g3, g4, g5⟩ := hS; clear g5; go_simp; try (with_reducible rfl))
          refine wpAnyH_take (i := 10) (v := ?_) rfl (by kernel_rfl) (by kernel_rfl) (by kernel_rfl) (fun _ _ _ h => h) (Or.inl ⟨by kernel_rfl, ?_⟩) C ?_
          rotate_left
          · (intro W hS; obtain ⟨g0, g1, g2, g3, g4, g5⟩ := hS; clear g5; go_simp; try (with_reducible rfl))
          refine wpAnyH_take (i := 11) (v := ?_) rfl (by kernel_rfl) (by kernel_rfl) (by kernel_rfl) (fun _ _ _ h => h) (Or.inl ⟨by kernel_rfl, ?_⟩) C ?_
          rotate_left
          · (intro W hS; obtain ⟨g0, g1, g2, g3, g4, g5⟩ := hS; clear g5; go_simp; try (with_reducible rfl))
          refine wpAnyH_take (i := 12) (v := ?_) rfl (by kernel_rfl) (by kernel_rfl) (by kernel_rfl) (fun _ _ _ h => h) (Or.inl ⟨by kernel_rfl, ?_⟩) C ?_
          rotate_left
          · (intro W hS; obtain ⟨g0, g1, g2, g3, g4, g5⟩ := hS; clear g5; go_simp; try (with_reducible rfl))
          refine wpAnyH_take (i := 13) (v := ?_) rfl (by kernel_rfl) (by kernel_rfl) (by kernel_rfl) (fun _ _ _ h => h) (Or.inl ⟨by kernel_rfl, ?_⟩) C ?_
          rotate_left
          · (intro W hS; obtain ⟨g0, g1, g2, g3, g4, g5⟩ := hS; clear g5; go_simp; try (with_reducible rfl))
          refine wpAnyH_take (i := 14) (v := ?_) rfl (by kernel_rfl) (by kernel_rfl) (by kernel_rfl) (fun _ _ _ h => h) (Or.inl ⟨by kernel_rfl, ?_⟩) C ?_
          rotate_left
          · (intro W hS; obtain ⟨g0, g1, g2, g3, g4, g5⟩ := hS; clear g5; go_simp; try (with_reducible rfl))
          refine wpAnyH_take (i := 15) (v := ?_) rfl (by kernel_rfl) (by kernel_rfl) (by kernel_rfl) (fun _ _ _ h => h) (Or.inl ⟨by kernel_rfl, ?_⟩) C ?_
          rotate_left
          · (intro W hS; obtain ⟨g0, g1, g2, g3, g4, g5⟩ := hS; clear g5; go_simp; try (with_reducible rfl))
          refine wpAnyH_take (i := 16) (v := ?_) rfl (by kernel_rfl) (by kernel_rfl) (by kernel_rfl) (fun _ _ _ h => h) (Or.inl ⟨by kernel_rfl, ?_⟩) C ?_
          rotate_left
          · (intro W hS; obtain ⟨g0, g1, g2, g3, g4, g5⟩ := hS; clear g5; go_simp; try (with_reducible rfl))
          refine wpAnyH_take (i := 17) (v := ?_) rfl (by kernel_rfl) (by kernel_rfl) (by kernel_rfl) (fun _ _ _ h => h) (Or.inl ⟨by kernel_rfl, ?_⟩) C ?_
          rotate_left
          · (intro W hS; obtain ⟨g0, g1, g2, g3, g4, g5⟩ := hS; clear g5; go_simp; try (with_reducible rfl))
          refine wpAnyH_take (i := 18) (v := ?_) rfl (by kernel_rfl) (by kernel_rfl) (by kernel_rfl) (fun _ _ _ h => h) (Or.inl ⟨by kernel_rfl, ?_⟩) C ?_
          rotate_left
          · (intro W hS; obtain ⟨g0, g1, g2, g3, g4, g5⟩ := hS; clear g5; go_simp; try (with_reducible rfl))
          refine wpAnyH_take (i := 19) (v := ?_) rfl (by kernel_rfl) (by kernel_rfl) (by kernel_rfl) (fun _ _ _ h => h) (Or.inl ⟨by kernel_rfl, ?_⟩) C ?_
          rotate_left
          · (intro W hS; obtain ⟨g0, g1, g2, g3, g4, g5⟩ := hS; clear g5; go_simp; try (with_reducible rfl))
          refine wpAnyH_take (i := 20) (v := ?_) rfl (by kernel_rfl) (by kernel_rfl) (by kernel_rfl) (fun _ _ _ h => h) (Or.inl ⟨by kernel_rfl, ?_⟩) C ?_
          rotate_left
          · (intro W hS; obtain ⟨g0, g1, g2, g3, g4, g5⟩ := hS; clear g5; go_simp; try (with_reducible rfl))
          refine wpAnyH_take (i := 21) (v := ?_) rfl (by kernel_rfl) (by kernel_rfl) (by kernel_rfl) (fun _ _ _ h => h) (Or.inl ⟨by kernel_rfl, ?_⟩) C ?_
          rotate_left
          · (intro W hS; obtain ⟨g0, g1, g2, g3, g4, g5⟩ := hS; clear g5; go_simp; try (with_reducible rfl))
          refine wpAnyH_take (i := 22) (v := ?_) rfl (by kernel_rfl) (by kernel_rfl) (by kernel_rfl) (fun _ _ _ h => h) (Or.inl ⟨by kernel_rfl, ?_⟩) C ?_
          rotate_left
          · (intro W hS; obtain ⟨g0, g1, g2, g3, g4, g5⟩ := hS; clear g5; go_simp; try (with_reducible rfl))
          refine wpAnyH_take (i := 23) (v := ?_) rfl (by kernel_rfl) (by kernel_rfl) (by kernel_rfl) (fun _ _ _ h => h) (Or.inl ⟨by kernel_rfl, ?_⟩) C ?_
          rotate_left
          · (intro W hS; obtain ⟨g0, g1, g2, g3, g4, g5⟩ := hS; clear g5; go_simp; try (with_reducible rfl))
          refine wpAnyH_take (i := 24) (v := ?_) rfl (by kernel_rfl) (by kernel_rfl) (by kernel_rfl) (fun _ _ _ h => h) (Or.inl ⟨by kernel_rfl, ?_⟩) C ?_
          rotate_left
          · (intro W hS; obtain ⟨g0, g1, g2, g3, g4, g5⟩ := hS; clear g5; go_simp; try (with_reducible rfl))
          refine wpAnyH_take (i := 25) (v := ?_) rfl (by kernel_rfl) (by kernel_rfl) (by kernel_rfl) (fun _ _ _ h => h) (Or.inl ⟨by kernel_rfl, ?_⟩) C ?_
          rotate_left
          · (intro W hS; obtain ⟨g0, g1, g2, g3, g4, g5⟩ := hS; clear g5; go_simp; try (with_reducible rfl))
          refine wpAnyH_take (i := 26) (v := ?_) rfl (by kernel_rfl) (by kernel_rfl) (by kernel_rfl) (fun _ _ _ h => h) (Or.inl ⟨by kernel_rfl, ?_⟩) C ?_
          rotate_left
          · (intro W hS; obtain ⟨g0, g1, g2, g3, g4, g5⟩ := hS; clear g5; go_simp; try (with_reducible rfl))
          refine wpAnyH_take (i := 27) (v := ?_) rfl (by kernel_rfl) (by kernel_rfl) (by kernel_rfl) (fun _ _ _ h => h) (Or.inl ⟨by kernel_rfl, ?_⟩) C ?_
          rotate_left
          · (intro W hS; obtain ⟨g0, g1, g2, g3, g4, g5⟩ := hS; clear g5; go_simp; try (with_reducible rfl))
          refine wpAnyH_take (i := 28) (v := ?_) rfl (by kernel_rfl) (by kernel_rfl) (by kernel_rfl) (fun _ _ _ h => h) (Or.inl ⟨by kernel_rfl, ?_⟩) C ?_
          rotate_left
          · (intro W hS; obtain ⟨g0, g1, g2, g3, g4, g5⟩ := hS; clear g5; go_simp; try (with_reducible rfl))
          refine wpAnyH_done (by kernel_rfl) ?_ _
          go_simp
          have H6 := Lib.hid (And.intro hwd6 C)
          clear hwd6 C
          go_wp2_with fail
          go_ret
          exact ⟨rfl, HK.out.2.2.2.2.2.1.trans (H6.out.1.mono (Nat.le_of_lt hzw))⟩
        have n2 : ((s.y.size : Int) != (s0.y.size : Int)) = false := by simp; omega
        have HN := Lib.hid (And.intro HN.out hsz)
        clear hsz
        go_upto_region 5 with fail
        rw [← hwb]
        clear hwb c0 c1 c2
        have C := HK.out.1 wb.drew (Below.refl _ _).drew
        have hwd : Below wb.heap.size wb wb.drew := (Below.refl _ _).drew
        refine wp_region_held (S := AlS tb off w.heap.size wr.heap.size s s0 (l.take k)) (by kernel_rfl) ?_
        change wpAnyH _ _ _ _ _ _ _ _ (World.drew _)
        generalize World.drew _ = wh at *
        refine wpAnyH_take (i := 0) (v := ?_) rfl (by kernel_rfl) (by kernel_rfl) (by kernel_rfl) (fun _ _ _ h => h) (Or.inl ⟨by kernel_rfl, ?_⟩) C ?_
        rotate_left
        · (intro W hS; obtain ⟨g0, g1, g2, g3, g4, g5⟩ := hS; clear g5; go_simp; try (with_reducible rfl))
        refine wpAnyH_ready (rs := [1]) (by kernel_rfl) (by simp) ?_
        refine AllReadyH.cons rfl (fun K hK => ?_) AllReadyH.nil
        go_simp
        refine (HK.out.2.1 wh).mono ?_
        rintro e w6 ⟨rfl, hb6⟩
        have hwd6 := hwd.trans (hb6.mono hwd.size)
        have C := HK.out.1 w6 hwd6
        refine hK.out _ _ C (fun _ => ?_)
        clear hK K hb6 hwd
        refine wpAnyH_take (i := 2) (v := ?_) rfl (by kernel_rfl) (by kernel_rfl) (by kernel_rfl) (fun _ _ _ h => h) (Or.inl ⟨by kernel_rfl, ?_⟩) C ?_
        rotate_left
        · (intro W hS; obtain ⟨g0, g1, g2, g3, g4, g5⟩ := hS; clear g5; go_simp; try (with_reducible rfl))
        refine wpAnyH_take (i := 3) (v := ?_) rfl (by kernel_rfl) (by kernel_rfl) (by kernel_rfl) (fun _ _ _ h => h) (Or.inl ⟨by kernel_rfl, ?_⟩) C ?_
        rotate_left
        · (intro W hS; obtain ⟨g0, g1, g2, g3, g4, g5⟩ := hS; clear g5; go_simp; try (with_reducible rfl))
        refine wpAnyH_take (i := 4) (v := ?_) rfl (by kernel_rfl) (by kernel_rfl) (by kernel_rfl) (fun _ _ _ h => h) (Or.inl ⟨by kernel_rfl, ?_⟩) C ?_
        rotate_left
        · (intro W hS; obtain ⟨g0, g1, g2, g3, g4, g5⟩ := hS; clear g5; go_simp; try (with_reducible rfl))
        refine wpAnyH_take (i := 5) (v := ?_) rfl (by kernel_rfl) (by kernel_rfl) (by kernel_rfl) (fun _ _ _ h => h) (Or.inl ⟨by kernel_rfl, ?_⟩) C ?_
        rotate_left
        · (intro W hS; obtain ⟨g0, g1, g2, g3, g4, g5⟩ := hS; clear g5; rw [HX.out.1] at g0; go_simp; try (with_reducible rfl))
        refine wpAnyH_take (i := 6) (v := ?_) rfl (by kernel_rfl) (by kernel_rfl) (by kernel_rfl) (fun _ _ _ h => h) (Or.inl ⟨by kernel_rfl, ?_⟩) C ?_
        rotate_left
        · (intro W hS; obtain ⟨g0, g1, g2, g3, g4, g5⟩ := hS; clear g5; go_simp; try (with_reducible rfl))
        refine wpAnyH_take (i := 7) (v := ?_) rfl (by kernel_rfl) (by kernel_rfl) (by kernel_rfl) (fun _ _ _ h => h) (Or.inl ⟨by kernel_rfl, ?_⟩) C ?_
        rotate_left
        · (intro W hS; obtain ⟨g0, g1, g2, g3, g4, g5⟩ := hS; have t1 := g5.cell X _ (by have := seenK_get (bys (l.take k)) (bx s.x); rw [HX.out.2.1] at this; exact this); rw [decide_eq_false (fun e => hmem (HX.out.2.2.1 e))] at t1; clear g5; go_simp; try (with_reducible rfl))
        refine wpAnyH_take (i := 8) (v := ?_) rfl (by kernel_rfl) (by kernel_rfl) (by kernel_rfl) (fun _ _ _ h => h) (Or.inl ⟨by kernel_rfl, ?_⟩) C ?_
        rotate_left
        · (intro W hS; obtain ⟨g0, g1, g2, g3, g4, g5⟩ := hS; clear g5; go_simp; try (with_reducible rfl))
        refine wpAnyH_take (i := 9) (v := ?_) rfl (by kernel_rfl) (by kernel_rfl) (by kernel_rfl) (fun _ _ _ h => h) (Or.inl ⟨by kernel_rfl, ?_⟩) C ?_
        rotate_left
        · (intro W hS; obtain ⟨g0, g1, g2, g3, g4, g5⟩ := hS; clear g5; go_simp; try (with_reducible rfl))
        refine wpAnyH_take (i := 10) (v := ?_) rfl (by kernel_rfl) (by kernel_rfl) (by kernel_rfl) (fun _ _ _ h => h) (Or.inl ⟨by kernel_rfl, ?_⟩) C ?_
        rotate_left
        · (intro W hS; obtain ⟨g0, g1, g2, g3, g4, g5⟩ := hS; clear g5; go_simp; try (with_reducible rfl))
        refine wpAnyH_take (i := 11) (v := ?_) rfl (by kernel_rfl) (by kernel_rfl) (by kernel_rfl) (fun _ _ _ h => h) (Or.inl ⟨by kernel_rfl, ?_⟩) C ?_
        rotate_left
        · (intro W hS; obtain ⟨g0, g1, g2, g3, g4, g5⟩ := hS; clear g5; go_simp; try (with_reducible rfl))
        refine wpAnyH_take (i := 12) (v := ?_) rfl (by kernel_rfl) (by kernel_rfl) (by kernel_rfl) (fun _ _ _ h => h) (Or.inl ⟨by kernel_rfl, ?_⟩) C ?_
        rotate_left
        · (intro W hS; obtain ⟨g0, g1, g2, g3, g4, g5⟩ := hS; clear g5; go_simp; try (with_reducible rfl))
        refine wpAnyH_take (i := 13) (v := ?_) rfl (by kernel_rfl) (by kernel_rfl) (by kernel_rfl) (fun _ _ _ h => h) (Or.inl ⟨by kernel_rfl, ?_⟩) C ?_
        rotate_left
        · (intro W hS; obtain ⟨g0, g1, g2, g3, g4, g5⟩ := hS; clear g5; go_simp; try (with_reducible rfl))
        refine wpAnyH_take (i := 14) (v := ?_) rfl (by kernel_rfl) (by kernel_rfl) (by kernel_rfl) (fun _ _ _ h => h) (Or.inl ⟨by kernel_rfl, ?_⟩) C ?_
        rotate_left
        · (intro W hS; obtain ⟨g0, g1, g2, g3, g4, g5⟩ := hS; clear g5; go_simp; try (with_reducible rfl))
        refine wpAnyH_take (i := 15) (v := ?_) rfl (by kernel_rfl) (by kernel_rfl) (by kernel_rfl) (fun _ _ _ h => h) (Or.inl ⟨by kernel_rfl, ?_⟩) C ?_
        rotate_left
        · (intro W hS; obtain ⟨g0, g1, g2, g3, g4, g5⟩ := hS; clear g5; go_simp; try (with_reducible rfl))
        refine wpAnyH_take (i := 16) (v := ?_) rfl (by kernel_rfl) (by kernel_rfl) (by kernel_rfl) (fun _ _ _ h => h) (Or.inl ⟨by kernel_rfl, ?_⟩) C ?_
        rotate_left
        · (intro W hS; obtain ⟨g0, g1, g2, g3, g4, g5⟩ := hS; clear g5; go_simp; try (with_reducible rfl))
        refine wpAnyH_take (i := 17) (v := ?_) rfl (by kernel_rfl) (by kernel_rfl) (by kernel_rfl) (fun _ _ _ h => h) (Or.inl ⟨by kernel_rfl, ?_⟩) C ?_
        rotate_left
        · (intro W hS; obtain ⟨g0, g1, g2, g3, g4, g5⟩ := hS; clear g5; go_simp; try (with_reducible rfl))
        refine wpAnyH_take (i := 18) (v := ?_) rfl (by kernel_rfl) (by kernel_rfl) (by kernel_rfl) (fun _ _ _ h => h) (Or.inl ⟨by kernel_rfl, ?_⟩) C ?_
        rotate_left
        · (intro W hS; obtain ⟨g0, g1, g2, g3, g4, g5⟩ := hS; clear g5; go_simp; try (with_reducible rfl))
        refine wpAnyH_take (i := 19) (v := ?_) rfl (by kernel_rfl) (by kernel_rfl) (by kernel_rfl) (fun _ _ _ h => h) (Or.inl ⟨by kernel_rfl, ?_⟩) C ?_
        rotate_left
        · (intro W hS; obtain ⟨g0, g1, g2, g3, g4, g5⟩ := hS; clear g5; go_simp; try (with_reducible rfl))
        refine wpAnyH_take (i := 20) (v := ?_) rfl (by kernel_rfl) (by kernel_rfl) (by kernel_rfl) (fun _ _ _ h => h) (Or.inl ⟨by kernel_rfl, ?_⟩) C ?_
        rotate_left
        · (intro W hS; obtain ⟨g0, g1, g2, g3, g4, g5⟩ := hS; clear g5; go_simp; try (with_reducible rfl))
        refine wpAnyH_take (i := 21) (v := ?_) rfl (by kernel_rfl) (by kernel_rfl) (by kernel_rfl) (fun _ _ _ h => h) (Or.inl ⟨by kernel_rfl, ?_⟩) C ?_
        rotate_left
        · (intro W hS; obtain ⟨g0, g1, g2, g3, g4, g5⟩ := hS; clear g5; go_simp; try (with_reducible rfl))
        refine wpAnyH_take (i := 22) (v := ?_) rfl (by kernel_rfl) (by kernel_rfl) (by kernel_rfl) (fun _ _ _ h => h) (Or.inl ⟨by kernel_rfl, ?_⟩) C ?_
        rotate_left
        · (intro W hS; obtain ⟨g0, g1, g2, g3, g4, g5⟩ := hS; clear g5; go_simp; try (with_reducible rfl))
        refine wpAnyH_take (i := 23) (v := ?_) rfl (by kernel_rfl) (by kernel_rfl) (by kernel_rfl) (fun _ _ _ h => h) (Or.inl ⟨by kernel_rfl, ?_⟩) C ?_
        rotate_left
        · (intro W hS; obtain ⟨g0, g1, g2, g3, g4, g5⟩ := hS; clear g5; go_simp; try (with_reducible rfl))
        refine wpAnyH_take (i := 24) (v := ?_) rfl (by kernel_rfl) (by kernel_rfl) (by kernel_rfl) (fun _ _ _ h => h) (Or.inl ⟨by kernel_rfl, ?_⟩) C ?_
        rotate_left
        · (intro W hS; obtain ⟨g0, g1, g2, g3, g4, g5⟩ := hS; clear g5; go_simp; try (with_reducible rfl))
        refine wpAnyH_take (i := 25) (v := ?_) rfl (by kernel_rfl) (by kernel_rfl) (by kernel_rfl) (fun _ _ _ h => h) (Or.inl ⟨by kernel_rfl, ?_⟩) C ?_
        rotate_left
        · (intro W hS; obtain ⟨g0, g1, g2, g3, g4, g5⟩ := hS; clear g5; go_simp; try (with_reducible rfl))
        refine wpAnyH_take (i := 26) (v := ?_) rfl (by kernel_rfl) (by kernel_rfl) (by kernel_rfl) (fun _ _ _ h => h) (Or.inl ⟨by kernel_rfl, ?_⟩) C ?_
        rotate_left
        · (intro W hS; obtain ⟨g0, g1, g2, g3, g4, g5⟩ := hS; clear g5; go_simp; try (with_reducible rfl))
        refine wpAnyH_take (i := 27) (v := ?_) rfl (by kernel_rfl) (by kernel_rfl) (by kernel_rfl) (fun _ _ _ h => h) (Or.inl ⟨by kernel_rfl, ?_⟩) C ?_
        rotate_left
        · (intro W hS; obtain ⟨g0, g1, g2, g3, g4, g5⟩ := hS; clear g5; go_simp; try (with_reducible rfl))
        refine wpAnyH_take (i := 28) (v := ?_) rfl (by kernel_rfl) (by kernel_rfl) (by kernel_rfl) (fun _ _ _ h => h) (Or.inl ⟨by kernel_rfl, ?_⟩) C ?_
        rotate_left
        · (intro W hS; obtain ⟨g0, g1, g2, g3, g4, g5⟩ := hS; clear g5; go_simp; try (with_reducible rfl))
        refine wpAnyH_done (by kernel_rfl) ?_ _
        go_simp
        have H6 := Lib.hid (And.intro hwd6 C)
        clear hwd6 C
        have hstep := HK.out.2.2.2.2.1.step HK.out.2.2.2.1 HK.out.2.2.1.symm (HN.out.1.trans HK.out.2.2.2.2.2.2.1.symm) (HN.out.2.trans HK.out.2.2.2.2.2.2.2.1.symm) hmem
        have hput := H6.out.2.2.2.2.2.2.put X (.bool true)
        have hsn := seenK_snoc (bys (l.take k)) (bx s.x)
        rw [HX.out.2.1] at hsn
        rw [hsn, show bys (l.take k) ++ [bx s.x] = bys (l.take (k + 1)) by rw [take_snocS HK.out.2.2.2.1]; simp [bys]] at hput
        have hbp := below_put (HK.out.2.2.2.2.2.1.trans (H6.out.1.mono (Nat.le_of_lt hzw))) (Nat.le_refl _) X (.bool true)
        obtain ⟨g0, g1, g2, g3, g4, g5⟩ := H6.out.2
        rw [HX.out.1] at g0
        have t1 := g5.cell X _ (by have := seenK_get (bys (l.take k)) (bx s.x); rw [HX.out.2.1] at this; exact this)
        have t2 := g5.frozen X
        clear g5
        have HP := Lib.hid (And.intro hstep (And.intro hput hbp))
        clear hstep hput hbp hsn
        go_wp2_with fail
        go_roundw
        case rel => exact ⟨k + 1, by omega, by go_num, HP.out.1, HP.out.2.1, HP.out.2.2⟩
        case measure => simp [intOf]; omega
    · obtain rfl : k = n := by omega
      obtain rfl : R = true := by
        rw [H0.out.2.2.1]
        rw [H0.out.2.1] at hA
        exact hA.whole
      have HB := Lib.hid hb
      clear hA hr hb
      go_wp2_with fail
      go_ret
      exact ⟨rfl, HB.out⟩
end Go.Proofs.YtefpfedpgedloaaDoor
