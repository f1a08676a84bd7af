/- Merged by program: shamir.Check, alike. | shamir.alike: may shares be, at places that are unlike, of one Need and as many bytes? | shamir.through: for each byte of shares the polynomial that goes through all of them. -/
import Derived.Test.YtefpfedpgedloaaGreatDoorMV1
import Derived.Deep.RegionWith
import Derived.Deep.RegionHeld
import Derived.Deep.DeepCutAuto
import Derived.Test.YtefpfedpgedloaaGreatDoorMB
import Derived.Test.YtefpfedpgedloaaGreatDoorMP2
namespace Go.Proofs.YtefpfedpgedloaaGreatDoor
open Go.RowKit
open Gf

theorem okS_decide (s : Shr) : okS s = (decide (1 ≤ s.x) && decide (s.x ≤ 255) && decide (1 ≤ s.need) && decide (s.need ≤ 255) && mayS s.y) := rfl
set_option maxRecDepth 100000 in
set_option maxHeartbeats 1000000 in
theorem check_any (s : Shr) (hs : s.y.size ≤ maxLen) (w : World) :
    Calls Tryz.prog 16 #[.agg #[.int .i64 s.x, .int .i64 s.need, .string s.y]] w fun e w' => e = .returned (.bool (okS s)) ∧ Below w.heap.size w w' := by
  have hm := mayBeSplit_any s.y hs
  have hb0 : Below w.heap.size w (w.alloc (.cells #[.int .i64 s.x, .int .i64 s.need, .string s.y] 32)) := (Below.refl _ _).alloc (Nat.le_refl _) _
  have hg := heap_alloc_new w (.cells #[.int .i64 s.x, .int .i64 s.need, .string s.y] 32)
  have c0 : (w.alloc (.cells #[.int .i64 s.x, .int .i64 s.need, .string s.y] 32)).cell? ⟨w.heap.size, 0, none⟩ = some (.int .i64 s.x) := by rw [cell_of_row _ _ _ _ _ _ hg]; rfl
  have c1 : (w.alloc (.cells #[.int .i64 s.x, .int .i64 s.need, .string s.y] 32)).cell? ⟨w.heap.size, 1, none⟩ = some (.int .i64 s.need) := by rw [cell_of_row _ _ _ _ _ _ hg]; rfl
  have c2 : (w.alloc (.cells #[.int .i64 s.x, .int .i64 s.need, .string s.y] 32)).cell? ⟨w.heap.size, 2, none⟩ = some (.string s.y) := by rw [cell_of_row _ _ _ _ _ _ hg]; rfl
  have H := Lib.hid (And.intro hm hb0)
  clear hm hb0 hg
  rw [okS_decide]
  by_cases h1 : 1 ≤ s.x
  · by_cases h2 : s.x ≤ 255
    · by_cases h3 : 1 ≤ s.need
      · by_cases h4 : s.need ≤ 255
        · rw [decide_eq_true h1, decide_eq_true h2, decide_eq_true h3, decide_eq_true h4, Bool.true_and, Bool.true_and, Bool.true_and, Bool.true_and]
          go_enter Tryz.func16, Tryz.ntmps16
          go_wp2_with fail
          refine (H.out.1 _).mono ?_
          rintro e w1 ⟨rfl, rfl⟩
          go_wp2_with fail
          go_ret
          exact ⟨rfl, H.out.2⟩
        · rw [decide_eq_false h4, Bool.and_false, Bool.false_and]
          go_enter Tryz.func16, Tryz.ntmps16
          go_wp2_with fail
          go_ret
          exact ⟨rfl, H.out.2⟩
      · rw [decide_eq_false h3, Bool.and_false, Bool.false_and, Bool.false_and]
        go_enter Tryz.func16, Tryz.ntmps16
        go_wp2_with fail
        go_ret
        exact ⟨rfl, H.out.2⟩
    · rw [decide_eq_false h2, Bool.and_false, Bool.false_and, Bool.false_and, Bool.false_and]
      go_enter Tryz.func16, Tryz.ntmps16
      go_wp2_with fail
      go_ret
      exact ⟨rfl, H.out.2⟩
  · rw [decide_eq_false h1, Bool.false_and, Bool.false_and, Bool.false_and, Bool.false_and]
    go_enter Tryz.func16, Tryz.ntmps16
    go_wp2_with fail
    go_ret
    exact ⟨rfl, H.out.2⟩
/-- The first k shares are alike. -/
structure AlkT (n : Int) (m : Nat) (l : List Shr) (k : Nat) : Prop where
  each : ∀ s ∈ l.take k, okS s = true ∧ s.need = n ∧ s.y.size = m
  unlike : ((l.take k).map Shr.x).Nodup
theorem take_snocS {l : List Shr} {k : Nat} {s : Shr} (h : l[k]? = some s) : l.take (k + 1) = l.take k ++ [s] := by
  rw [List.take_add_one, h]; rfl
theorem AlkT.zero (n : Int) (m : Nat) (l : List Shr) : AlkT n m l 0 := ⟨fun s hs => by simp at hs, by simp⟩
theorem AlkT.step {n : Int} {m : Nat} {l : List Shr} {k : Nat} {s : Shr} (h : AlkT n m l k) (hs : l[k]? = some s) (h1 : okS s = true) (h2 : s.need = n) (h3 : s.y.size = m) (h4 : s.x ∉ (l.take k).map Shr.x) : AlkT n m l (k + 1) := by
  refine ⟨fun t ht => ?_, ?_⟩
  · rw [take_snocS hs, List.mem_append, List.mem_singleton] at ht
    rcases ht with ht | rfl
    · exact h.each t ht
    · exact ⟨h1, h2, h3⟩
  · rw [take_snocS hs, List.map_append, List.nodup_append]
    refine ⟨h.unlike, by simp, fun a ha b hb e => ?_⟩
    simp at hb
    subst hb e
    exact h4 ha
theorem AlkT.whole {l : List Shr} (h : AlkT (need0 l) (len0 l) l l.length) : alk l = true := by
  obtain ⟨h1, h2⟩ := h
  rw [List.take_length] at h1 h2
  rw [alk_iff]
  exact ⟨fun s hs => (h1 s hs).1, fun s hs => (h1 s hs).2.1, fun s hs => (h1 s hs).2.2, h2⟩
theorem alk_bad {l : List Shr} {k : Nat} {s : Shr} (hs : l[k]? = some s) (h : ¬ (okS s = true ∧ s.need = need0 l ∧ s.y.size = len0 l ∧ s.x ∉ (l.take k).map Shr.x)) : alk l = false := by
  cases e : alk l with
  | false => rfl
  | true =>
    have ha := alk_iff.1 e
    have hm := List.mem_of_getElem? hs
    refine absurd ⟨ha.ok s hm, ha.need s hm, ha.size s hm, fun hx => ?_⟩ h
    have hu := ha.unlike
    rw [← List.take_append_drop k l, List.map_append, List.nodup_append] at hu
    refine hu.2.2 _ hx s.x ?_ rfl
    rw [List.mem_map]
    refine ⟨s, List.mem_of_getElem? (i := 0) ?_, rfl⟩
    rw [List.getElem?_drop, Nat.add_zero]; exact hs
theorem mem_bys {l : List Shr} {n : Int} {m k : Nat} (h : AlkT n m l k) {x : Int} (h0 : 0 ≤ x) (h1 : x ≤ 255) : bx x ∈ bys (l.take k) ↔ x ∈ (l.take k).map Shr.x := by
  unfold bys
  rw [List.mem_map, List.mem_map]
  constructor
  · rintro ⟨t, ht, e⟩
    have := (okS_iff.1 (h.each t ht).1).1
    exact ⟨t, ht, bx_inj (by omega) (by omega) h0 h1 e⟩
  · rintro ⟨t, ht, rfl⟩; exact ⟨t, ht, rfl⟩
end Go.Proofs.YtefpfedpgedloaaGreatDoor
namespace Go.Proofs.YtefpfedpgedloaaGreatDoor
open Go.RowKit
open Gf

theorem head_need {l : List Shr} {s0 : Shr} (h : l[0]? = some s0) : need0 l = s0.need ∧ len0 l = s0.y.size := by
  match l, h with
  | s :: l, h =>
    simp at h
    subst h
    exact ⟨rfl, rfl⟩
/-- What the region reads. -/
def AlS (tb off g gb : Nat) (s s0 : Shr) (d : List Shr) (W : World) : Prop :=
  W.cell? ⟨gb, 0, none⟩ = some (.int .i64 s.x) ∧ W.cell? ⟨gb, 1, none⟩ = some (.int .i64 s.need) ∧ W.cell? ⟨gb, 2, none⟩ = some (.string s.y) ∧
    W.cell? ⟨tb, off + 1, none⟩ = some (.int .i64 s0.need) ∧ W.cell? ⟨tb, off + 2, none⟩ = some (.string s0.y) ∧ RowV 77 W g (seenK (bys d))
theorem drew_call {B : Nat} {w w' : World} (h : Below w.drew.heap.size w.drew w') (hB : B ≤ w.heap.size) : Below B w w' := ⟨h.os, h.tape, h.output, h.size, fun k hk => h.block k (show k < w.heap.size by omega)⟩
set_option maxRecDepth 100000 in
set_option maxHeartbeats 1000000 in
theorem alike_any {w : World} {a0 : Option Addr} {l : List Shr} (hT : SharesAt w a0 l) (hn : l.length ≤ 1000000000) (hs : ∀ s ∈ l, s.y.size ≤ maxLen) (cap : Nat) :
    Calls Tryz.prog 18 #[.slice a0 l.length cap] w fun e w' => e = .returned (.bool (alk l)) ∧ Below w.heap.size w w' := by
  obtain ⟨n, hN⟩ : ∃ n, n = l.length := ⟨_, rfl⟩
  obtain ⟨R, hR⟩ : ∃ R, R = alk l := ⟨_, rfl⟩
  rw [← hN] at hn ⊢
  rw [← hR]
  have hz := zbool
  have hr0 : RowV 77 (w.alloc (.cells noneSeen.toArray 77)) w.heap.size (seenK (bys (l.take 0))) := by
    rw [List.take_zero]
    show RowV _ _ _ (seenK [])
    rw [← noneSeen_eq]; exact heap_alloc_new w (.cells noneSeen.toArray 77)
  have hb0 : Below w.heap.size w (w.alloc (.cells noneSeen.toArray 77)) := (Below.refl _ _).alloc (Nat.le_refl _) _
  have H0 := Lib.hid (And.intro hT (And.intro hN (And.intro hR (And.intro hs (And.intro hr0 hb0)))))
  clear hT hN hR hs hr0 hb0
  go_enter Tryz.func18, Tryz.ntmps18
  go_wp2_with fail
  generalize World.alloc w _ = w1 at *
  clear hz
  go_loopw [5, 8] (fun _ i wr => ∃ k : Nat, k ≤ n ∧ i = .int .i64 (k : Int) ∧ AlkT (need0 l) (len0 l) l k ∧ RowV 77 wr w.heap.size (seenK (bys (l.take k))) ∧ Below w.heap.size w wr) (fun _ i _ => n - (intOf i).toNat)
  case atStart => exact ⟨0, by omega, rfl, AlkT.zero _ _ _, H0.out.2.2.2.2.1, H0.out.2.2.2.2.2⟩
  case round =>
    obtain ⟨k, hk, rfl, hA, hr, hb⟩ := hrel
    by_cases hlt : k < n
    · obtain ⟨s, hsk⟩ : ∃ s, l[k]? = some s := ⟨_, List.getElem?_eq_getElem (by have := H0.out.2.1; omega)⟩
      obtain ⟨s0, hs0⟩ : ∃ s0, l[0]? = some s0 := ⟨_, List.getElem?_eq_getElem (by have := H0.out.2.1; omega)⟩
      obtain ⟨tb, off, rfl, htb, c0, c1, c2⟩ := (H0.out.1.below hb) k s hsk
      obtain ⟨tb', off', e', -, -, d1, d2⟩ := (H0.out.1.below hb) 0 s0 hs0
      injection e' with e'
      injection e' with e1 e2 _
      subst e1 e2
      rw [Nat.zero_mul, Nat.add_zero] at d1 d2
      obtain ⟨hn0, hl0⟩ := head_need hs0
      have hgl : w.heap.size < wr.heap.size := (Array.getElem?_eq_some_iff.1 hr).1
      obtain ⟨wb, hwb⟩ : ∃ wb, wb = wr.alloc (.cells #[.int .i64 s.x, .int .i64 s.need, .string s.y] 32) := ⟨_, rfl⟩
      have hbw : Below wr.heap.size wr wb := by rw [hwb]; exact (Below.refl _ _).alloc (Nat.le_refl _) _
      have hbox : wb.heap[wr.heap.size]? = some (.cells #[.int .i64 s.x, .int .i64 s.need, .string s.y] 32 (0, 0)) := by rw [hwb]; exact heap_alloc_new _ _
      have hzb : wr.heap.size < wb.heap.size := by rw [hwb]; simp
      have hF : ∀ W, Below wb.heap.size wb W → AlS tb off w.heap.size wr.heap.size s s0 (l.take k) W := fun W hW => by
        have hg := (hW.block wr.heap.size hzb).trans hbox
        have hW2 : Below wr.heap.size wr W := hbw.trans (hW.mono hbw.size)
        refine ⟨?_, ?_, ?_, (hW2.cell (p := ⟨tb, off + 1, none⟩) htb).trans d1, (hW2.cell (p := ⟨tb, off + 2, none⟩) htb).trans d2, (hW2.block _ hgl).trans hr⟩ <;> (rw [cell_of_row _ _ _ _ _ _ hg]; rfl)
      have hck := fun (W : World) => check_any s (H0.out.2.2.2.1 s (List.mem_of_getElem? hsk)) W
      obtain ⟨ck, hckv⟩ : ∃ ck, ck = okS s := ⟨_, rfl⟩
      rw [← hckv] at hck
      have HK := Lib.hid (And.intro hF (And.intro hck (And.intro hckv (And.intro hsk (And.intro hA (And.intro (hb.trans (hbw.mono hb.size)) (And.intro hn0 (And.intro hl0 hr))))))))
      have hzw : w.heap.size < wb.heap.size := by omega
      clear d1 d2 hF hck hA hb hr hn0 hl0 hbw hbox hckv
      cases ck with
      | false =>
        obtain rfl : R = false := by rw [H0.out.2.2.1]; exact alk_bad HK.out.2.2.2.1 (fun e => by have h1 := HK.out.2.2.1; rw [e.1] at h1; cases h1)
        go_upto_region 5 with fail
        rw [← hwb]
        clear hwb c0 c1 c2
        have C := HK.out.1 wb.drew (Below.refl _ _).drew
        have hwd : Below wb.heap.size wb wb.drew := (Below.refl _ _).drew
        refine wp_region_held (S := AlS tb off w.heap.size wr.heap.size s s0 (l.take k)) (by kernel_rfl) ?_
        change wpAnyH _ _ _ _ _ _ _ _ (World.drew _)
        generalize World.drew _ = wh at *
        refine wpAnyH_take (i := 0) (v := ?_) rfl (by kernel_rfl) (by kernel_rfl) (by kernel_rfl) (fun _ _ _ h => h) (Or.inl ⟨by kernel_rfl, ?_⟩) C ?_
        rotate_left
        · (intro W hS; obtain ⟨g0, g1, g2, g3, g4, g5⟩ := hS; clear g5; go_simp; try (with_reducible rfl))
        refine wpAnyH_ready (rs := [1]) (by kernel_rfl) (by simp) ?_
        refine AllReadyH.cons rfl (fun K hK => ?_) AllReadyH.nil
        go_simp
        refine (HK.out.2.1 wh).mono ?_
        rintro e w6 ⟨rfl, hb6⟩
        have hwd6 := hwd.trans (hb6.mono hwd.size)
        have C := HK.out.1 w6 hwd6
        refine hK.out _ _ C (fun _ => ?_)
        clear hK K hb6 hwd
        refine wpAnyH_take (i := 2) (v := ?_) rfl (by kernel_rfl) (by kernel_rfl) (by kernel_rfl) (fun _ _ _ h => h) (Or.inl ⟨by kernel_rfl, ?_⟩) C ?_
        rotate_left
        · (intro W hS; obtain ⟨g0, g1, g2, g3, g4, g5⟩ := hS; clear g5; go_simp; try (with_reducible rfl))
        refine wpAnyH_take (i := 3) (v := ?_) rfl (by kernel_rfl) (by kernel_rfl) (by kernel_rfl) (fun _ _ _ h => h) (Or.inl ⟨by kernel_rfl, ?_⟩) C ?_
        rotate_left
        · (intro W hS; obtain ⟨g0, g1, g2, g3, g4, g5⟩ := hS; clear g5; go_simp; try (with_reducible rfl))
        refine wpAnyH_take (i := 4) (v := undef) rfl (by kernel_rfl) (by kernel_rfl) (by kernel_rfl) (fun _ _ _ h => h) (Or.inr ⟨by kernel_rfl, rfl⟩) C ?_
        refine wpAnyH_take (i := 5) (v := undef) rfl (by kernel_rfl) (by kernel_rfl) (by kernel_rfl) (fun _ _ _ h => h) (Or.inr ⟨by kernel_rfl, rfl⟩) C ?_
        refine wpAnyH_take (i := 6) (v := undef) rfl (by kernel_rfl) (by kernel_rfl) (by kernel_rfl) (fun _ _ _ h => h) (Or.inr ⟨by kernel_rfl, rfl⟩) C ?_
        refine wpAnyH_take (i := 7) (v := undef) rfl (by kernel_rfl) (by kernel_rfl) (by kernel_rfl) (fun _ _ _ h => h) (Or.inr ⟨by kernel_rfl, rfl⟩) C ?_
        refine wpAnyH_take (i := 8) (v := ?_) rfl (by kernel_rfl) (by kernel_rfl) (by kernel_rfl) (fun _ _ _ h => h) (Or.inl ⟨by kernel_rfl, ?_⟩) C ?_
        rotate_left
        · (intro W hS; obtain ⟨g0, g1, g2, g3, g4, g5⟩ := hS; clear g5; go_simp; try (with_reducible rfl))
        refine wpAnyH_take (i := 9) (v := ?_) rfl (by kernel_rfl) (by kernel_rfl) (by kernel_rfl) (fun _ _ _ h => h) (Or.inl ⟨by kernel_rfl, ?_⟩) C ?_
        rotate_left
        · (intro W hS; obtain ⟨g0, g1, g2, g3, g4, g5⟩ := hS; clear g5; go_simp; try (with_reducible rfl))
        refine wpAnyH_take (i := 10) (v := undef) rfl (by kernel_rfl) (by kernel_rfl) (by kernel_rfl) (fun _ _ _ h => h) (Or.inr ⟨by kernel_rfl, rfl⟩) C ?_
        refine wpAnyH_take (i := 11) (v := undef) rfl (by kernel_rfl) (by kernel_rfl) (by kernel_rfl) (fun _ _ _ h => h) (Or.inr ⟨by kernel_rfl, rfl⟩) C ?_
        refine wpAnyH_take (i := 12) (v := undef) rfl (by kernel_rfl) (by kernel_rfl) (by kernel_rfl) (fun _ _ _ h => h) (Or.inr ⟨by kernel_rfl, rfl⟩) C ?_
        refine wpAnyH_take (i := 13) (v := undef) rfl (by kernel_rfl) (by kernel_rfl) (by kernel_rfl) (fun _ _ _ h => h) (Or.inr ⟨by kernel_rfl, rfl⟩) C ?_
        refine wpAnyH_take (i := 14) (v := undef) rfl (by kernel_rfl) (by kernel_rfl) (by kernel_rfl) (fun _ _ _ h => h) (Or.inr ⟨by kernel_rfl, rfl⟩) C ?_
        refine wpAnyH_take (i := 15) (v := undef) rfl (by kernel_rfl) (by kernel_rfl) (by kernel_rfl) (fun _ _ _ h => h) (Or.inr ⟨by kernel_rfl, rfl⟩) C ?_
        refine wpAnyH_take (i := 16) (v := undef) rfl (by kernel_rfl) (by kernel_rfl) (by kernel_rfl) (fun _ _ _ h => h) (Or.inr ⟨by kernel_rfl, rfl⟩) C ?_
        refine wpAnyH_take (i := 17) (v := ?_) rfl (by kernel_rfl) (by kernel_rfl) (by kernel_rfl) (fun _ _ _ h => h) (Or.inl ⟨by kernel_rfl, ?_⟩) C ?_
        rotate_left
        · (intro W hS; obtain ⟨g0, g1, g2, g3, g4, g5⟩ := hS; clear g5; go_simp; try (with_reducible rfl))
        refine wpAnyH_take (i := 18) (v := ?_) rfl (by kernel_rfl) (by kernel_rfl) (by kernel_rfl) (fun _ _ _ h => h) (Or.inl ⟨by kernel_rfl, ?_⟩) C ?_
        rotate_left
        · (intro W hS; obtain ⟨g0, g1, g2, g3, g4, g5⟩ := hS; clear g5; go_simp; try (with_reducible rfl))
        refine wpAnyH_take (i := 19) (v := undef) rfl (by kernel_rfl) (by kernel_rfl) (by kernel_rfl) (fun _ _ _ h => h) (Or.inr ⟨by kernel_rfl, rfl⟩) C ?_
        refine wpAnyH_take (i := 20) (v := undef) rfl (by kernel_rfl) (by kernel_rfl) (by kernel_rfl) (fun _ _ _ h => h) (Or.inr ⟨by kernel_rfl, rfl⟩) C ?_
        refine wpAnyH_take (i := 21) (v := undef) rfl (by kernel_rfl) (by kernel_rfl) (by kernel_rfl) (fun _ _ _ h => h) (Or.inr ⟨by kernel_rfl, rfl⟩) C ?_
        refine wpAnyH_take (i := 22) (v := undef) rfl (by kernel_rfl) (by kernel_rfl) (by kernel_rfl) (fun _ _ _ h => h) (Or.inr ⟨by kernel_rfl, rfl⟩) C ?_
        refine wpAnyH_take (i := 23) (v := undef) rfl (by kernel_rfl) (by kernel_rfl) (by kernel_rfl) (fun _ _ _ h => h) (Or.inr ⟨by kernel_rfl, rfl⟩) C ?_
        refine wpAnyH_take (i := 24) (v := undef) rfl (by kernel_rfl) (by kernel_rfl) (by kernel_rfl) (fun _ _ _ h => h) (Or.inr ⟨by kernel_rfl, rfl⟩) C ?_
        refine wpAnyH_take (i := 25) (v := undef) rfl (by kernel_rfl) (by kernel_rfl) (by kernel_rfl) (fun _ _ _ h => h) (Or.inr ⟨by kernel_rfl, rfl⟩) C ?_
        refine wpAnyH_take (i := 26) (v := undef) rfl (by kernel_rfl) (by kernel_rfl) (by kernel_rfl) (fun _ _ _ h => h) (Or.inr ⟨by kernel_rfl, rfl⟩) C ?_
        refine wpAnyH_take (i := 27) (v := undef) rfl (by kernel_rfl) (by kernel_rfl) (by kernel_rfl) (fun _ _ _ h => h) (Or.inr ⟨by kernel_rfl, rfl⟩) C ?_
        refine wpAnyH_take (i := 28) (v := ?_) rfl (by kernel_rfl) (by kernel_rfl) (by kernel_rfl) (fun _ _ _ h => h) (Or.inl ⟨by kernel_rfl, ?_⟩) C ?_
        rotate_left
        · (intro W hS; obtain ⟨g0, g1, g2, g3, g4, g5⟩ := hS; clear g5; go_simp; try (with_reducible rfl))
        refine wpAnyH_done (by kernel_rfl) ?_ _
        go_simp
        have H6 := Lib.hid (And.intro hwd6 C)
        clear hwd6 C
        go_wp2_with fail
        go_ret
        exact ⟨rfl, HK.out.2.2.2.2.2.1.trans (H6.out.1.mono (Nat.le_of_lt hzw))⟩
      | true =>
        have hok := okS_iff.1 HK.out.2.2.1.symm
        obtain ⟨X, hX⟩ : ∃ X : Nat, s.x = (X : Int) := ⟨s.x.toNat, by omega⟩
        have hn0 : 0 < n := by omega
        have hX0 : (X : Int) < 256 := by omega
        have hXn : X < 256 := by omega
        have hbx : (bx s.x).toNat = X := by have := bx_num (x := s.x) (by omega) (by omega); omega
        have hin := mem_bys HK.out.2.2.2.2.1 (x := s.x) (by omega) (by omega)
        have HX := Lib.hid (And.intro hX (And.intro hbx hin))
        clear hX hbx hin hok
        by_cases hmem : s.x ∈ (l.take k).map Shr.x
        · obtain rfl : R = false := by rw [H0.out.2.2.1]; exact alk_bad HK.out.2.2.2.1 (fun e => e.2.2.2 hmem)
          go_upto_region 5 with fail
          rw [← hwb]
          clear hwb c0 c1 c2
          have C := HK.out.1 wb.drew (Below.refl _ _).drew
          have hwd : Below wb.heap.size wb wb.drew := (Below.refl _ _).drew
          refine wp_region_held (S := AlS tb off w.heap.size wr.heap.size s s0 (l.take k)) (by kernel_rfl) ?_
          change wpAnyH _ _ _ _ _ _ _ _ (World.drew _)
          generalize World.drew _ = wh at *
          refine wpAnyH_take (i := 0) (v := ?_) rfl (by kernel_rfl) (by kernel_rfl) (by kernel_rfl) (fun _ _ _ h => h) (Or.inl ⟨by kernel_rfl, ?_⟩) C ?_
          rotate_left
          · (intro W hS; obtain ⟨g0, g1, g2, g3, g4, g5⟩ := hS; clear g5; go_simp; try (with_reducible rfl))
          refine wpAnyH_ready (rs := [1]) (by kernel_rfl) (by simp) ?_
          refine AllReadyH.cons rfl (fun K hK => ?_) AllReadyH.nil
          go_simp
          refine (HK.out.2.1 wh).mono ?_
          rintro e w6 ⟨rfl, hb6⟩
          have hwd6 := hwd.trans (hb6.mono hwd.size)
          have C := HK.out.1 w6 hwd6
          refine hK.out _ _ C (fun _ => ?_)
          clear hK K hb6 hwd
          refine wpAnyH_take (i := 2) (v := ?_) rfl (by kernel_rfl) (by kernel_rfl) (by kernel_rfl) (fun _ _ _ h => h) (Or.inl ⟨by kernel_rfl, ?_⟩) C ?_
          rotate_left
          · (intro W hS; obtain ⟨g0, g1, g2, g3, g4, g5⟩ := hS; clear g5; go_simp; try (with_reducible rfl))
          refine wpAnyH_take (i := 3) (v := ?_) rfl (by kernel_rfl) (by kernel_rfl) (by kernel_rfl) (fun _ _ _ h => h) (Or.inl ⟨by kernel_rfl, ?_⟩) C ?_
          rotate_left
          · (intro W hS; obtain ⟨g0, g1, g2, g3, g4, g5⟩ := hS; clear g5; go_simp; try (with_reducible rfl))
          refine wpAnyH_take (i := 4) (v := ?_) rfl (by kernel_rfl) (by kernel_rfl) (by kernel_rfl) (fun _ _ _ h => h) (Or.inl ⟨by kernel_rfl, ?_⟩) C ?_
          rotate_left
          · (intro W hS; obtain ⟨g0, g1, g2, g3, g4, g5⟩ := hS; clear g5; go_simp; try (with_reducible rfl))
          refine wpAnyH_take (i := 5) (v := ?_) rfl (by kernel_rfl) (by kernel_rfl) (by kernel_rfl) (fun _ _ _ h => h) (Or.inl ⟨by kernel_rfl, ?_⟩) C ?_
          rotate_left
          · (intro W hS; obtain ⟨g0, g1, g2, g3, g4, g5⟩ := hS; clear g5; rw [HX.out.1] at g0; go_simp; try (with_reducible rfl))
          refine wpAnyH_take (i := 6) (v := ?_) rfl (by kernel_rfl) (by kernel_rfl) (by kernel_rfl) (fun _ _ _ h => h) (Or.inl ⟨by kernel_rfl, ?_⟩) C ?_
          rotate_left
          · (intro W hS; obtain ⟨g0, g1, g2, g3, g4, g5⟩ := hS; clear g5; go_simp; try (with_reducible rfl))
          refine wpAnyH_take (i := 7) (v := ?_) rfl (by kernel_rfl) (by kernel_rfl) (by kernel_rfl) (fun _ _ _ h => h) (Or.inl ⟨by kernel_rfl, ?_⟩) C ?_
          rotate_left
          · (intro W hS; obtain ⟨g0, g1, g2, g3, g4, g5⟩ := hS; have t1 := g5.cell X _ (by have := seenK_get (bys (l.take k)) (bx s.x); rw [HX.out.2.1] at this; exact this); rw [decide_eq_true (HX.out.2.2.2 hmem)] at t1; clear g5; go_simp; try (with_reducible rfl))
          refine wpAnyH_take (i := 8) (v := ?_) rfl (by kernel_rfl) (by kernel_rfl) (by kernel_rfl) (fun _ _ _ h => h) (Or.inl ⟨by kernel_rfl, ?_⟩) C ?_
          rotate_left
          · (intro W hS; obtain ⟨g0, g1, g2, g3, g4, g5⟩ := hS; clear g5; go_simp; try (with_reducible rfl))
          refine wpAnyH_take (i := 9) (v := ?_) rfl (by kernel_rfl) (by kernel_rfl) (by kernel_rfl) (fun _ _ _ h => h) (Or.inl ⟨by kernel_rfl, ?_⟩) C ?_
          rotate_left
          · (intro W hS; obtain ⟨g0, g1, g2, g3, g4, g5⟩ := hS; clear g5; go_simp; try (with_reducible rfl))
          refine wpAnyH_take (i := 10) (v := undef) rfl (by kernel_rfl) (by kernel_rfl) (by kernel_rfl) (fun _ _ _ h => h) (Or.inr ⟨by kernel_rfl, rfl⟩) C ?_
          refine wpAnyH_take (i := 11) (v := undef) rfl (by kernel_rfl) (by kernel_rfl) (by kernel_rfl) (fun _ _ _ h => h) (Or.inr ⟨by kernel_rfl, rfl⟩) C ?_
          refine wpAnyH_take (i := 12) (v := undef) rfl (by kernel_rfl) (by kernel_rfl) (by kernel_rfl) (fun _ _ _ h => h) (Or.inr ⟨by kernel_rfl, rfl⟩) C ?_
          refine wpAnyH_take (i := 13) (v := undef) rfl (by kernel_rfl) (by kernel_rfl) (by kernel_rfl) (fun _ _ _ h => h) (Or.inr ⟨by kernel_rfl, rfl⟩) C ?_
          refine wpAnyH_take (i := 14) (v := undef) rfl (by kernel_rfl) (by kernel_rfl) (by kernel_rfl) (fun _ _ _ h => h) (Or.inr ⟨by kernel_rfl, rfl⟩) C ?_
          refine wpAnyH_take (i := 15) (v := undef) rfl (by kernel_rfl) (by kernel_rfl) (by kernel_rfl) (fun _ _ _ h => h) (Or.inr ⟨by kernel_rfl, rfl⟩) C ?_
          refine wpAnyH_take (i := 16) (v := undef) rfl (by kernel_rfl) (by kernel_rfl) (by kernel_rfl) (fun _ _ _ h => h) (Or.inr ⟨by kernel_rfl, rfl⟩) C ?_
          refine wpAnyH_take (i := 17) (v := ?_) rfl (by kernel_rfl) (by kernel_rfl) (by kernel_rfl) (fun _ _ _ h => h) (Or.inl ⟨by kernel_rfl, ?_⟩) C ?_
          rotate_left
          · (intro W hS; obtain ⟨g0, g1, g2, g3, g4, g5⟩ := hS; clear g5; go_simp; try (with_reducible rfl))
          refine wpAnyH_take (i := 18) (v := ?_) rfl (by kernel_rfl) (by kernel_rfl) (by kernel_rfl) (fun _ _ _ h => h) (Or.inl ⟨by kernel_rfl, ?_⟩) C ?_
          rotate_left
          · (intro W hS; obtain ⟨g0, g1, g2, g3, g4, g5⟩ := hS; clear g5; go_simp; try (with_reducible rfl))
          refine wpAnyH_take (i := 19) (v := undef) rfl (by kernel_rfl) (by kernel_rfl) (by kernel_rfl) (fun _ _ _ h => h) (Or.inr ⟨by kernel_rfl, rfl⟩) C ?_
          refine wpAnyH_take (i := 20) (v := undef) rfl (by kernel_rfl) (by kernel_rfl) (by kernel_rfl) (fun _ _ _ h => h) (Or.inr ⟨by kernel_rfl, rfl⟩) C ?_
          refine wpAnyH_take (i := 21) (v := undef) rfl (by kernel_rfl) (by kernel_rfl) (by kernel_rfl) (fun _ _ _ h => h) (Or.inr ⟨by kernel_rfl, rfl⟩) C ?_
          refine wpAnyH_take (i := 22) (v := undef) rfl (by kernel_rfl) (by kernel_rfl) (by kernel_rfl) (fun _ _ _ h => h) (Or.inr ⟨by kernel_rfl, rfl⟩) C ?_
          refine wpAnyH_take (i := 23) (v := undef) rfl (by kernel_rfl) (by kernel_rfl) (by kernel_rfl) (fun _ _ _ h => h) (Or.inr ⟨by kernel_rfl, rfl⟩) C ?_
          refine wpAnyH_take (i := 24) (v := undef) rfl (by kernel_rfl) (by kernel_rfl) (by kernel_rfl) (fun _ _ _ h => h) (Or.inr ⟨by kernel_rfl, rfl⟩) C ?_
          refine wpAnyH_take (i := 25) (v := undef) rfl (by kernel_rfl) (by kernel_rfl) (by kernel_rfl) (fun _ _ _ h => h) (Or.inr ⟨by kernel_rfl, rfl⟩) C ?_
          refine wpAnyH_take (i := 26) (v := undef) rfl (by kernel_rfl) (by kernel_rfl) (by kernel_rfl) (fun _ _ _ h => h) (Or.inr ⟨by kernel_rfl, rfl⟩) C ?_
          refine wpAnyH_take (i := 27) (v := undef) rfl (by kernel_rfl) (by kernel_rfl) (by kernel_rfl) (fun _ _ _ h => h) (Or.inr ⟨by kernel_rfl, rfl⟩) C ?_
          refine wpAnyH_take (i := 28) (v := ?_) rfl (by kernel_rfl) (by kernel_rfl) (by kernel_rfl) (fun _ _ _ h => h) (Or.inl ⟨by kernel_rfl, ?_⟩) C ?_
          rotate_left
          · (intro W hS; obtain ⟨g0, g1, g2, g3, g4, g5⟩ := hS; clear g5; go_simp; try (with_reducible rfl))
          refine wpAnyH_done (by kernel_rfl) ?_ _
          go_simp
          have H6 := Lib.hid (And.intro hwd6 C)
          clear hwd6 C
          go_wp2_with fail
          go_ret
          exact ⟨rfl, HK.out.2.2.2.2.2.1.trans (H6.out.1.mono (Nat.le_of_lt hzw))⟩
        by_cases hnd : s.need = s0.need
        rotate_left
        · have n1 : (s.need != s0.need) = true := by simpa using hnd
          obtain rfl : R = false := by rw [H0.out.2.2.1]; exact alk_bad HK.out.2.2.2.1 (fun e => hnd (by rw [e.2.1, HK.out.2.2.2.2.2.2.1]))
          go_upto_region 5 with fail
          rw [← hwb]
          clear hwb c0 c1 c2
          have C := HK.out.1 wb.drew (Below.refl _ _).drew
          have hwd : Below wb.heap.size wb wb.drew := (Below.refl _ _).drew
          refine wp_region_held (S := AlS tb off w.heap.size wr.heap.size s s0 (l.take k)) (by kernel_rfl) ?_
          change wpAnyH _ _ _ _ _ _ _ _ (World.drew _)
          generalize World.drew _ = wh at *
          refine wpAnyH_take (i := 0) (v := ?_) rfl (by kernel_rfl) (by kernel_rfl) (by kernel_rfl) (fun _ _ _ h => h) (Or.inl ⟨by kernel_rfl, ?_⟩) C ?_
          rotate_left
          · (intro W hS; obtain ⟨g0, g1, g2, g3, g4, g5⟩ := hS; clear g5; go_simp; try (with_reducible rfl))
          refine wpAnyH_ready (rs := [1]) (by kernel_rfl) (by simp) ?_
          refine AllReadyH.cons rfl (fun K hK => ?_) AllReadyH.nil
          go_simp
          refine (HK.out.2.1 wh).mono ?_
          rintro e w6 ⟨rfl, hb6⟩
          have hwd6 := hwd.trans (hb6.mono hwd.size)
          have C := HK.out.1 w6 hwd6
          refine hK.out _ _ C (fun _ => ?_)
          clear hK K hb6 hwd
          refine wpAnyH_take (i := 2) (v := ?_) rfl (by kernel_rfl) (by kernel_rfl) (by kernel_rfl) (fun _ _ _ h => h) (Or.inl ⟨by kernel_rfl, ?_⟩) C ?_
          rotate_left
          · (intro W hS; obtain ⟨g0, g1, g2, g3, g4, g5⟩ := hS; clear g5; go_simp; try (with_reducible rfl))
          refine wpAnyH_take (i := 3) (v := ?_) rfl (by kernel_rfl) (by kernel_rfl) (by kernel_rfl) (fun _ _ _ h => h) (Or.inl ⟨by kernel_rfl, ?_⟩) C ?_
          rotate_left
          · (intro W hS; obtain ⟨g0, g1, g2, g3, g4, g5⟩ := hS; clear g5; go_simp; try (with_reducible rfl))
          refine wpAnyH_take (i := 4) (v := ?_) rfl (by kernel_rfl) (by kernel_rfl) (by kernel_rfl) (fun _ _ _ h => h) (Or.inl ⟨by kernel_rfl, ?_⟩) C ?_
          rotate_left
          · (intro W hS; obtain ⟨g0, g1, g2, g3, g4, g5⟩ := hS; clear g5; go_simp; try (with_reducible rfl))
          refine wpAnyH_take (i := 5) (v := ?_) rfl (by kernel_rfl) (by kernel_rfl) (by kernel_rfl) (fun _ _ _ h => h) (Or.inl ⟨by kernel_rfl, ?_⟩) C ?_
          rotate_left
          · (intro W hS; obtain ⟨g0, g1, g2, g3, g4, g5⟩ := hS; clear g5; rw [HX.out.1] at g0; go_simp; try (with_reducible rfl))
          refine wpAnyH_take (i := 6) (v := ?_) rfl (by kernel_rfl) (by kernel_rfl) (by kernel_rfl) (fun _ _ _ h => h) (Or.inl ⟨by kernel_rfl, ?_⟩) C ?_
          rotate_left
          · (intro W hS; obtain ⟨g0, g1, g2, g3, g4, g5⟩ := hS; clear g5; go_simp; try (with_reducible rfl))
          refine wpAnyH_take (i := 7) (v := ?_) rfl (by kernel_rfl) (by kernel_rfl) (by kernel_rfl) (fun _ _ _ h => h) (Or.inl ⟨by kernel_rfl, ?_⟩) C ?_
          rotate_left
          · (intro W hS; obtain ⟨g0, g1, g2, g3, g4, g5⟩ := hS; have t1 := g5.cell X _ (by have := seenK_get (bys (l.take k)) (bx s.x); rw [HX.out.2.1] at this; exact this); rw [decide_eq_false (fun e => hmem (HX.out.2.2.1 e))] at t1; clear g5; go_simp; try (with_reducible rfl))
          refine wpAnyH_take (i := 8) (v := ?_) rfl (by kernel_rfl) (by kernel_rfl) (by kernel_rfl) (fun _ _ _ h => h) (Or.inl ⟨by kernel_rfl, ?_⟩) C ?_
          rotate_left
          · (intro W hS; obtain ⟨g0, g1, g2, g3, g4, g5⟩ := hS; clear g5; go_simp; try (with_reducible rfl))
          refine wpAnyH_take (i := 9) (v := ?_) rfl (by kernel_rfl) (by kernel_rfl) (by kernel_rfl) (fun _ _ _ h => h) (Or.inl ⟨by kernel_rfl, ?_⟩) C ?_
          rotate_left
          · (intro W hS; obtain ⟨g0, g1, g2, g3, g4, g5⟩ := hS; clear g5; go_simp; try (with_reducible rfl))
          refine wpAnyH_take (i := 10) (v := ?_) rfl (by kernel_rfl) (by kernel_rfl) (by kernel_rfl) (fun _ _ _ h => h) (Or.inl ⟨by kernel_rfl, ?_⟩) C ?_
          rotate_left
          · (intro W hS; obtain ⟨g0, g1, g2, g3, g4, g5⟩ := hS; clear g5; go_simp; try (with_reducible rfl))
          refine wpAnyH_take (i := 11) (v := ?_) rfl (by kernel_rfl) (by kernel_rfl) (by kernel_rfl) (fun _ _ _ h => h) (Or.inl ⟨by kernel_rfl, ?_⟩) C ?_
          rotate_left
          · (intro W hS; obtain ⟨g0, g1, g2, g3, g4, g5⟩ := hS; clear g5; go_simp; try (with_reducible rfl))
          refine wpAnyH_take (i := 12) (v := ?_) rfl (by kernel_rfl) (by kernel_rfl) (by kernel_rfl) (fun _ _ _ h => h) (Or.inl ⟨by kernel_rfl, ?_⟩) C ?_
          rotate_left
          · (intro W hS; obtain ⟨g0, g1, g2, g3, g4, g5⟩ := hS; clear g5; go_simp; try (with_reducible rfl))
          refine wpAnyH_take (i := 13) (v := ?_) rfl (by kernel_rfl) (by kernel_rfl) (by kernel_rfl) (fun _ _ _ h => h) (Or.inl ⟨by kernel_rfl, ?_⟩) C ?_
          rotate_left
          · (intro W hS; obtain ⟨g0, g1, g2, g3, g4, g5⟩ := hS; clear g5; go_simp; try (with_reducible rfl))
          refine wpAnyH_take (i := 14) (v := ?_) rfl (by kernel_rfl) (by kernel_rfl) (by kernel_rfl) (fun _ _ _ h => h) (Or.inl ⟨by kernel_rfl, ?_⟩) C ?_
          rotate_left
          · (intro W hS; obtain ⟨g0, g1, g2, g3, g4, g5⟩ := hS; clear g5; go_simp; try (with_reducible rfl))
          refine wpAnyH_take (i := 15) (v := ?_) rfl (by kernel_rfl) (by kernel_rfl) (by kernel_rfl) (fun _ _ _ h => h) (Or.inl ⟨by kernel_rfl, ?_⟩) C ?_
          rotate_left
          · (intro W hS; obtain ⟨g0, g1, g2, g3, g4, g5⟩ := hS; clear g5; go_simp; try (with_reducible rfl))
          refine wpAnyH_take (i := 16) (v := ?_) rfl (by kernel_rfl) (by kernel_rfl) (by kernel_rfl) (fun _ _ _ h => h) (Or.inl ⟨by kernel_rfl, ?_⟩) C ?_
          rotate_left
          · (intro W hS; obtain ⟨g0, g1, g2, g3, g4, g5⟩ := hS; clear g5; go_simp; try (with_reducible rfl))
          refine wpAnyH_take (i := 17) (v := ?_) rfl (by kernel_rfl) (by kernel_rfl) (by kernel_rfl) (fun _ _ _ h => h) (Or.inl ⟨by kernel_rfl, ?_⟩) C ?_
          rotate_left
          · (intro W hS; obtain ⟨g0, g1, g2, g3, g4, g5⟩ := hS; clear g5; go_simp; try (with_reducible rfl))
          refine wpAnyH_take (i := 18) (v := ?_) rfl (by kernel_rfl) (by kernel_rfl) (by kernel_rfl) (fun _ _ _ h => h) (Or.inl ⟨by kernel_rfl, ?_⟩) C ?_
          rotate_left
          · (intro W hS; obtain ⟨g0, g1, g2, g3, g4, g5⟩ := hS; clear g5; go_simp; try (with_reducible rfl))
          refine wpAnyH_take (i := 19) (v := undef) rfl (by kernel_rfl) (by kernel_rfl) (by kernel_rfl) (fun _ _ _ h => h) (Or.inr ⟨by kernel_rfl, rfl⟩) C ?_
          refine wpAnyH_take (i := 20) (v := undef) rfl (by kernel_rfl) (by kernel_rfl) (by kernel_rfl) (fun _ _ _ h => h) (Or.inr ⟨by kernel_rfl, rfl⟩) C ?_
          refine wpAnyH_take (i := 21) (v := undef) rfl (by kernel_rfl) (by kernel_rfl) (by kernel_rfl) (fun _ _ _ h => h) (Or.inr ⟨by kernel_rfl, rfl⟩) C ?_
          refine wpAnyH_take (i := 22) (v := undef) rfl (by kernel_rfl) (by kernel_rfl) (by kernel_rfl) (fun _ _ _ h => h) (Or.inr ⟨by kernel_rfl, rfl⟩) C ?_
          refine wpAnyH_take (i := 23) (v := undef) rfl (by kernel_rfl) (by kernel_rfl) (by kernel_rfl) (fun _ _ _ h => h) (Or.inr ⟨by kernel_rfl, rfl⟩) C ?_
          refine wpAnyH_take (i := 24) (v := undef) rfl (by kernel_rfl) (by kernel_rfl) (by kernel_rfl) (fun _ _ _ h => h) (Or.inr ⟨by kernel_rfl, rfl⟩) C ?_
          refine wpAnyH_take (i := 25) (v := undef) rfl (by kernel_rfl) (by kernel_rfl) (by kernel_rfl) (fun _ _ _ h => h) (Or.inr ⟨by kernel_rfl, rfl⟩) C ?_
          refine wpAnyH_take (i := 26) (v := undef) rfl (by kernel_rfl) (by kernel_rfl) (by kernel_rfl) (fun _ _ _ h => h) (Or.inr ⟨by kernel_rfl, rfl⟩) C ?_
          refine wpAnyH_take (i := 27) (v := undef) rfl (by kernel_rfl) (by kernel_rfl) (by kernel_rfl) (fun _ _ _ h => h) (Or.inr ⟨by kernel_rfl, rfl⟩) C ?_
          refine wpAnyH_take (i := 28) (v := ?_) rfl (by kernel_rfl) (by kernel_rfl) (by kernel_rfl) (fun _ _ _ h => h) (Or.inl ⟨by kernel_rfl, ?_⟩) C ?_
          rotate_left
          · (intro W hS; obtain ⟨g0, g1, g2, g3, g4, g5⟩ := hS; clear g5; go_simp; try (with_reducible rfl))
          refine wpAnyH_done (by kernel_rfl) ?_ _
          go_simp
          have H6 := Lib.hid (And.intro hwd6 C)
          clear hwd6 C
          go_wp2_with fail
          go_ret
          exact ⟨rfl, HK.out.2.2.2.2.2.1.trans (H6.out.1.mono (Nat.le_of_lt hzw))⟩
        have n1 : (s.need != s0.need) = false := by simpa using hnd
        have HN := Lib.hid hnd
        clear hnd
        by_cases hsz : s.y.size = s0.y.size
        rotate_left
        · have n2 : ((s.y.size : Int) != (s0.y.size : Int)) = true := by simp; omega
          obtain rfl : R = false := by rw [H0.out.2.2.1]; exact alk_bad HK.out.2.2.2.1 (fun e => hsz (by rw [e.2.2.1, HK.out.2.2.2.2.2.2.2.1]))
          go_upto_region 5 with fail
          rw [← hwb]
          clear hwb c0 c1 c2
          have C := HK.out.1 wb.drew (Below.refl _ _).drew
          have hwd : Below wb.heap.size wb wb.drew := (Below.refl _ _).drew
          refine wp_region_held (S := AlS tb off w.heap.size wr.heap.size s s0 (l.take k)) (by kernel_rfl) ?_
          change wpAnyH _ _ _ _ _ _ _ _ (World.drew _)
          generalize World.drew _ = wh at *
          refine wpAnyH_take (i := 0) (v := ?_) rfl (by kernel_rfl) (by kernel_rfl) (by kernel_rfl) (fun _ _ _ h => h) (Or.inl ⟨by kernel_rfl, ?_⟩) C ?_
          rotate_left
          · (intro W hS; obtain ⟨g0, g1, g2, g3, g4, g5⟩ := hS; clear g5; go_simp; try (with_reducible rfl))
          refine wpAnyH_ready (rs := [1]) (by kernel_rfl) (by simp) ?_
          refine AllReadyH.cons rfl (fun K hK => ?_) AllReadyH.nil
          go_simp
          refine (HK.out.2.1 wh).mono ?_
          rintro e w6 ⟨rfl, hb6⟩
          have hwd6 := hwd.trans (hb6.mono hwd.size)
          have C := HK.out.1 w6 hwd6
          refine hK.out _ _ C (fun _ => ?_)
          clear hK K hb6 hwd
          refine wpAnyH_take (i := 2) (v := ?_) rfl (by kernel_rfl) (by kernel_rfl) (by kernel_rfl) (fun _ _ _ h => h) (Or.inl ⟨by kernel_rfl, ?_⟩) C ?_
          rotate_left
          · (intro W hS; obtain ⟨g0, g1, g2, g3, g4, g5⟩ := hS; clear g5; go_simp; try (with_reducible rfl))
          refine wpAnyH_take (i := 3) (v := ?_) rfl (by kernel_rfl) (by kernel_rfl) (by kernel_rfl) (fun _ _ _ h => h) (Or.inl ⟨by kernel_rfl, ?_⟩) C ?_
          rotate_left
          · (intro W hS; obtain ⟨g0, g1, g2, g3, g4, g5⟩ := hS; clear g5; go_simp; try (with_reducible rfl))
          refine wpAnyH_take (i := 4) (v := ?_) rfl (by kernel_rfl) (by kernel_rfl) (by kernel_rfl) (fun _ _ _ h => h) (Or.inl ⟨by kernel_rfl, ?_⟩) C ?_
          rotate_left
          · (intro W hS; obtain ⟨g0, g1, g2, g3, g4, g5⟩ := hS; clear g5; go_simp; try (with_reducible rfl))
          refine wpAnyH_take (i := 5) (v := ?_) rfl (by kernel_rfl) (by kernel_rfl) (by kernel_rfl) (fun _ _ _ h => h) (Or.inl ⟨by kernel_rfl, ?_⟩) C ?_
          rotate_left
          · (intro W hS; obtain ⟨g0, g1, g2, g3, g4, g5⟩ := hS; clear g5; rw [HX.out.1] at g0; go_simp; try (with_reducible rfl))
          refine wpAnyH_take (i := 6) (v := ?_) rfl (by kernel_rfl) (by kernel_rfl) (by kernel_rfl) (fun _ _ _ h => h) (Or.inl ⟨by kernel_rfl, ?_⟩) C ?_
          rotate_left
          · (intro W hS; obtain ⟨g0, g1, g2, g3, g4, g5⟩ := hS; clear g5; go_simp; try (with_reducible rfl))
          refine wpAnyH_take (i := 7) (v := ?_) rfl (by kernel_rfl) (by kernel_rfl) (by kernel_rfl) (fun _ _ _ h => h) (Or.inl ⟨by kernel_rfl, ?_⟩) C ?_
          rotate_left
          · (intro W hS; obtain ⟨g0, g1, g2, g3, g4, g5⟩ := hS; have t1 := g5.cell X _ (by have := seenK_get (bys (l.take k)) (bx s.x); rw [HX.out.2.1] at this; exact this); rw [decide_eq_false (fun e => hmem (HX.out.2.2.1 e))] at t1; clear g5; go_simp; try (with_reducible rfl))
          refine wpAnyH_take (i := 8) (v := ?_) rfl (by kernel_rfl) (by kernel_rfl) (by kernel_rfl) (fun _ _ _ h => h) (Or.inl ⟨by kernel_rfl, ?_⟩) C ?_
          rotate_left
          · (intro W hS; obtain ⟨g0, g1, g2, g3, g4, g5⟩ := hS; clear g5; go_simp; try (with_reducible rfl))
          refine wpAnyH_take (i := 9) (v := ?_) rfl (by kernel_rfl) (by kernel_rfl) (by kernel_rfl) (fun _ _ _ h => h) (Or.inl ⟨by kernel_rfl, ?_⟩) C ?_
          rotate_left
          · (intro W hS; obtain ⟨g0, g1, g2, g3, g4, g5⟩ := hS; clear g5; go_simp; try (with_reducible rfl))
          refine wpAnyH_take (i := 10) (v := ?_) rfl (by kernel_rfl) (by kernel_rfl) (by kernel_rfl) (fun _ _ _ h => h) (Or.inl ⟨by kernel_rfl, ?_⟩) C ?_
          rotate_left
          · (intro W hS; obtain ⟨g0, g1, g2, g3, g4, g5⟩ := hS; clear g5; go_simp; try (with_reducible rfl))
          refine wpAnyH_take (i := 11) (v := ?_) rfl (by kernel_rfl) (by kernel_rfl) (by kernel_rfl) (fun _ _ _ h => h) (Or.inl ⟨by kernel_rfl, ?_⟩) C ?_
          rotate_left
          · (intro W hS; obtain ⟨g0, g1, g2, g3, g4, g5⟩ := hS; clear g5; go_simp; try (with_reducible rfl))
          refine wpAnyH_take (i := 12) (v := ?_) rfl (by kernel_rfl) (by kernel_rfl) (by kernel_rfl) (fun _ _ _ h => h) (Or.inl ⟨by kernel_rfl, ?_⟩) C ?_
          rotate_left
          · (intro W hS; obtain ⟨g0, g1, g2, g3, g4, g5⟩ := hS; clear g5; go_simp; try (with_reducible rfl))
          refine wpAnyH_take (i := 13) (v := ?_) rfl (by kernel_rfl) (by kernel_rfl) (by kernel_rfl) (fun _ _ _ h => h) (Or.inl ⟨by kernel_rfl, ?_⟩) C ?_
          rotate_left
          · (intro W hS; obtain ⟨g0, g1, g2, g3, g4, g5⟩ := hS; clear g5; go_simp; try (with_reducible rfl))
          refine wpAnyH_take (i := 14) (v := ?_) rfl (by kernel_rfl) (by kernel_rfl) (by kernel_rfl) (fun _ _ _ h => h) (Or.inl ⟨by kernel_rfl, ?_⟩) C ?_
          rotate_left
          · (intro W hS; obtain ⟨g0, g1, g2, g3, g4, g5⟩ := hS; clear g5; go_simp; try (with_reducible rfl))
          refine wpAnyH_take (i := 15) (v := ?_) rfl (by kernel_rfl) (by kernel_rfl) (by kernel_rfl) (fun _ _ _ h => h) (Or.inl ⟨by kernel_rfl, ?_⟩) C ?_
          rotate_left
          · (intro W hS; obtain ⟨g0, g1, g2, g3, g4, g5⟩ := hS; clear g5; go_simp; try (with_reducible rfl))
          refine wpAnyH_take (i := 16) (v := ?_) rfl (by kernel_rfl) (by kernel_rfl) (by kernel_rfl) (fun _ _ _ h => h) (Or.inl ⟨by kernel_rfl, ?_⟩) C ?_
          rotate_left
          · (intro W hS; obtain ⟨g0, g1, g2, g3, g4, g5⟩ := hS; clear g5; go_simp; try (with_reducible rfl))
          refine wpAnyH_take (i := 17) (v := ?_) rfl (by kernel_rfl) (by kernel_rfl) (by kernel_rfl) (fun _ _ _ h => h) (Or.inl ⟨by kernel_rfl, ?_⟩) C ?_
          rotate_left
          · (intro W hS; obtain ⟨g0, g1, g2, g3, g4, g5⟩ := hS; clear g5; go_simp; try (with_reducible rfl))
          refine wpAnyH_take (i := 18) (v := ?_) rfl (by kernel_rfl) (by kernel_rfl) (by kernel_rfl) (fun _ _ _ h => h) (Or.inl ⟨by kernel_rfl, ?_⟩) C ?_
          rotate_left
          · (intro W hS; obtain ⟨g0, g1, g2, g3, g4, g5⟩ := hS; clear g5; go_simp; try (with_reducible rfl))
          refine wpAnyH_take (i := 19) (v := ?_) rfl (by kernel_rfl) (by kernel_rfl) (by kernel_rfl) (fun _ _ _ h => h) (Or.inl ⟨by kernel_rfl, ?_⟩) C ?_
          rotate_left
          · (intro W hS; obtain ⟨g0, g1, g2, g3, g4, g5⟩ := hS; clear g5; go_simp; try (with_reducible rfl))
          refine wpAnyH_take (i := 20) (v := ?_) rfl (by kernel_rfl) (by kernel_rfl) (by kernel_rfl) (fun _ _ _ h => h) (Or.inl ⟨by kernel_rfl, ?_⟩) C ?_
          rotate_left
          · (intro W hS; obtain ⟨g0, g1, g2, g3, g4, g5⟩ := hS; clear g5; go_simp; try (with_reducible rfl))
          refine wpAnyH_take (i := 21) (v := ?_) rfl (by kernel_rfl) (by kernel_rfl) (by kernel_rfl) (fun _ _ _ h => h) (Or.inl ⟨by kernel_rfl, ?_⟩) C ?_
          rotate_left
          · (intro W hS; obtain ⟨g0, g1, g2, g3, g4, g5⟩ := hS; clear g5; go_simp; try (with_reducible rfl))
          refine wpAnyH_take (i := 22) (v := ?_) rfl (by kernel_rfl) (by kernel_rfl) (by kernel_rfl) (fun _ _ _ h => h) (Or.inl ⟨by kernel_rfl, ?_⟩) C ?_
          rotate_left
          · (intro W hS; obtain ⟨g0, g1, g2, g3, g4, g5⟩ := hS; clear g5; go_simp; try (with_reducible rfl))
          refine wpAnyH_take (i := 23) (v := ?_) rfl (by kernel_rfl) (by kernel_rfl) (by kernel_rfl) (fun _ _ _ h => h) (Or.inl ⟨by kernel_rfl, ?_⟩) C ?_
          rotate_left
          · (intro W hS; obtain ⟨g0, g1, g2, g3, g4, g5⟩ := hS; clear g5; go_simp; try (with_reducible rfl))
          refine wpAnyH_take (i := 24) (v := ?_) rfl (by kernel_rfl) (by kernel_rfl) (by kernel_rfl) (fun _ _ _ h => h) (Or.inl ⟨by kernel_rfl, ?_⟩) C ?_
          rotate_left
          · (intro W hS; obtain ⟨g0, g1, g2, g3, g4, g5⟩ := hS; clear g5; go_simp; try (with_reducible rfl))
          refine wpAnyH_take (i := 25) (v := ?_) rfl (by kernel_rfl) (by kernel_rfl) (by kernel_rfl) (fun _ _ _ h => h) (Or.inl ⟨by kernel_rfl, ?_⟩) C ?_
          rotate_left
          · (intro W hS; obtain ⟨g0, g1, g2, g3, g4, g5⟩ := hS; clear g5; go_simp; try (with_reducible rfl))
          refine wpAnyH_take (i := 26) (v := ?_) rfl (by kernel_rfl) (by kernel_rfl) (by kernel_rfl) (fun _ _ _ h => h) (Or.inl ⟨by kernel_rfl, ?_⟩) C ?_
          rotate_left
          · (intro W hS; obtain ⟨g0, g1, g2, g3, g4, g5⟩ := hS; clear g5; go_simp; try (with_reducible rfl))
          refine wpAnyH_take (i := 27) (v := ?_) rfl (by kernel_rfl) (by kernel_rfl) (by kernel_rfl) (fun _ _ _ h => h) (Or.inl ⟨by kernel_rfl, ?_⟩) C ?_
          rotate_left
          · (intro W hS; obtain ⟨g0, g1, g2, g3, g4, g5⟩ := hS; clear g5; go_simp; try (with_reducible rfl))
          refine wpAnyH_take (i := 28) (v := ?_) rfl (by kernel_rfl) (by kernel_rfl) (by kernel_rfl) (fun _ _ _ h => h) (Or.inl ⟨by kernel_rfl, ?_⟩) C ?_
          rotate_left
          · (intro W hS; obtain ⟨g0, g1, g2, g3, g4, g5⟩ := hS; clear g5; go_simp; try (with_reducible rfl))
          refine wpAnyH_done (by kernel_rfl) ?_ _
          go_simp
          have H6 := Lib.hid (And.intro hwd6 C)
          clear hwd6 C
          go_wp2_with fail
          go_ret
          exact ⟨rfl, HK.out.2.2.2.2.2.1.trans (H6.out.1.mono (Nat.le_of_lt hzw))⟩
        have n2 : ((s.y.size : Int) != (s0.y.size : Int)) = false := by simp; omega
        have HN := Lib.hid (And.intro HN.out hsz)
        clear hsz
        go_upto_region 5 with fail
        rw [← hwb]
        clear hwb c0 c1 c2
        have C := HK.out.1 wb.drew (Below.refl _ _).drew
        have hwd : Below wb.heap.size wb wb.drew := (Below.refl _ _).drew
        refine wp_region_held (S := AlS tb off w.heap.size wr.heap.size s s0 (l.take k)) (by kernel_rfl) ?_
        change wpAnyH _ _ _ _ _ _ _ _ (World.drew _)
        generalize World.drew _ = wh at *
        refine wpAnyH_take (i := 0) (v := ?_) rfl (by kernel_rfl) (by kernel_rfl) (by kernel_rfl) (fun _ _ _ h => h) (Or.inl ⟨by kernel_rfl, ?_⟩) C ?_
        rotate_left
        · (intro W hS; obtain ⟨g0, g1, g2, g3, g4, g5⟩ := hS; clear g5; go_simp; try (with_reducible rfl))
        refine wpAnyH_ready (rs := [1]) (by kernel_rfl) (by simp) ?_
        refine AllReadyH.cons rfl (fun K hK => ?_) AllReadyH.nil
        go_simp
        refine (HK.out.2.1 wh).mono ?_
        rintro e w6 ⟨rfl, hb6⟩
        have hwd6 := hwd.trans (hb6.mono hwd.size)
        have C := HK.out.1 w6 hwd6
        refine hK.out _ _ C (fun _ => ?_)
        clear hK K hb6 hwd
        refine wpAnyH_take (i := 2) (v := ?_) rfl (by kernel_rfl) (by kernel_rfl) (by kernel_rfl) (fun _ _ _ h => h) (Or.inl ⟨by kernel_rfl, ?_⟩) C ?_
        rotate_left
        · (intro W hS; obtain ⟨g0, g1, g2, g3, g4, g5⟩ := hS; clear g5; go_simp; try (with_reducible rfl))
        refine wpAnyH_take (i := 3) (v := ?_) rfl (by kernel_rfl) (by kernel_rfl) (by kernel_rfl) (fun _ _ _ h => h) (Or.inl ⟨by kernel_rfl, ?_⟩) C ?_
        rotate_left
        · (intro W hS; obtain ⟨g0, g1, g2, g3, g4, g5⟩ := hS; clear g5; go_simp; try (with_reducible rfl))
        refine wpAnyH_take (i := 4) (v := ?_) rfl (by kernel_rfl) (by kernel_rfl) (by kernel_rfl) (fun _ _ _ h => h) (Or.inl ⟨by kernel_rfl, ?_⟩) C ?_
        rotate_left
        · (intro W hS; obtain ⟨g0, g1, g2, g3, g4, g5⟩ := hS; clear g5; go_simp; try (with_reducible rfl))
        refine wpAnyH_take (i := 5) (v := ?_) rfl (by kernel_rfl) (by kernel_rfl) (by kernel_rfl) (fun _ _ _ h => h) (Or.inl ⟨by kernel_rfl, ?_⟩) C ?_
        rotate_left
        · (intro W hS; obtain ⟨g0, g1, g2, g3, g4, g5⟩ := hS; clear g5; rw [HX.out.1] at g0; go_simp; try (with_reducible rfl))
        refine wpAnyH_take (i := 6) (v := ?_) rfl (by kernel_rfl) (by kernel_rfl) (by kernel_rfl) (fun _ _ _ h => h) (Or.inl ⟨by kernel_rfl, ?_⟩) C ?_
        rotate_left
        · (intro W hS; obtain ⟨g0, g1, g2, g3, g4, g5⟩ := hS; clear g5; go_simp; try (with_reducible rfl))
        refine wpAnyH_take (i := 7) (v := ?_) rfl (by kernel_rfl) (by kernel_rfl) (by kernel_rfl) (fun _ _ _ h => h) (Or.inl ⟨by kernel_rfl, ?_⟩) C ?_
        rotate_left
        · (intro W hS; obtain ⟨g0, g1, g2, g3, g4, g5⟩ := hS; have t1 := g5.cell X _ (by have := seenK_get (bys (l.take k)) (bx s.x); rw [HX.out.2.1] at this; exact this); rw [decide_eq_false (fun e => hmem (HX.out.2.2.1 e))] at t1; clear g5; go_simp; try (with_reducible rfl))
        refine wpAnyH_take (i := 8) (v := ?_) rfl (by kernel_rfl) (by kernel_rfl) (by kernel_rfl) (fun _ _ _ h => h) (Or.inl ⟨by kernel_rfl, ?_⟩) C ?_
        rotate_left
        · (intro W hS; obtain ⟨g0, g1, g2, g3, g4, g5⟩ := hS; clear g5; go_simp; try (with_reducible rfl))
        refine wpAnyH_take (i := 9) (v := ?_) rfl (by kernel_rfl) (by kernel_rfl) (by kernel_rfl) (fun _ _ _ h => h) (Or.inl ⟨by kernel_rfl, ?_⟩) C ?_
        rotate_left
        · (intro W hS; obtain ⟨g0, g1, g2, g3, g4, g5⟩ := hS; clear g5; go_simp; try (with_reducible rfl))
        refine wpAnyH_take (i := 10) (v := ?_) rfl (by kernel_rfl) (by kernel_rfl) (by kernel_rfl) (fun _ _ _ h => h) (Or.inl ⟨by kernel_rfl, ?_⟩) C ?_
        rotate_left
        · (intro W hS; obtain ⟨g0, g1, g2, g3, g4, g5⟩ := hS; clear g5; go_simp; try (with_reducible rfl))
        refine wpAnyH_take (i := 11) (v := ?_) rfl (by kernel_rfl) (by kernel_rfl) (by kernel_rfl) (fun _ _ _ h => h) (Or.inl ⟨by kernel_rfl, ?_⟩) C ?_
        rotate_left
        · (intro W hS; obtain ⟨g0, g1, g2, g3, g4, g5⟩ := hS; clear g5; go_simp; try (with_reducible rfl))
        refine wpAnyH_take (i := 12) (v := ?_) rfl (by kernel_rfl) (by kernel_rfl) (by kernel_rfl) (fun _ _ _ h => h) (Or.inl ⟨by kernel_rfl, ?_⟩) C ?_
        rotate_left
        · (intro W hS; obtain ⟨g0, g1, g2, g3, g4, g5⟩ := hS; clear g5; go_simp; try (with_reducible rfl))
        refine wpAnyH_take (i := 13) (v := ?_) rfl (by kernel_rfl) (by kernel_rfl) (by kernel_rfl) (fun _ _ _ h => h) (Or.inl ⟨by kernel_rfl, ?_⟩) C ?_
        rotate_left
        · (intro W hS; obtain ⟨g0, g1, g2, g3, g4, g5⟩ := hS; clear g5; go_simp; try (with_reducible rfl))
        refine wpAnyH_take (i := 14) (v := ?_) rfl (by kernel_rfl) (by kernel_rfl) (by kernel_rfl) (fun _ _ _ h => h) (Or.inl ⟨by kernel_rfl, ?_⟩) C ?_
        rotate_left
        · (intro W hS; obtain ⟨g0, g1, g2, g3, g4, g5⟩ := hS; clear g5; go_simp; try (with_reducible rfl))
        refine wpAnyH_take (i := 15) (v := ?_) rfl (by kernel_rfl) (by kernel_rfl) (by kernel_rfl) (fun _ _ _ h => h) (Or.inl ⟨by kernel_rfl, ?_⟩) C ?_
        rotate_left
        · (intro W hS; obtain ⟨g0, g1, g2, g3, g4, g5⟩ := hS; clear g5; go_simp; try (with_reducible rfl))
        refine wpAnyH_take (i := 16) (v := ?_) rfl (by kernel_rfl) (by kernel_rfl) (by kernel_rfl) (fun _ _ _ h => h) (Or.inl ⟨by kernel_rfl, ?_⟩) C ?_
        rotate_left
        · (intro W hS; obtain ⟨g0, g1, g2, g3, g4, g5⟩ := hS; clear g5; go_simp; try (with_reducible rfl))
        refine wpAnyH_take (i := 17) (v := ?_) rfl (by kernel_rfl) (by kernel_rfl) (by kernel_rfl) (fun _ _ _ h => h) (Or.inl ⟨by kernel_rfl, ?_⟩) C ?_
        rotate_left
        · (intro W hS; obtain ⟨g0, g1, g2, g3, g4, g5⟩ := hS; clear g5; go_simp; try (with_reducible rfl))
        refine wpAnyH_take (i := 18) (v := ?_) rfl (by kernel_rfl) (by kernel_rfl) (by kernel_rfl) (fun _ _ _ h => h) (Or.inl ⟨by kernel_rfl, ?_⟩) C ?_
        rotate_left
        · (intro W hS; obtain ⟨g0, g1, g2, g3, g4, g5⟩ := hS; clear g5; go_simp; try (with_reducible rfl))
        refine wpAnyH_take (i := 19) (v := ?_) rfl (by kernel_rfl) (by kernel_rfl) (by kernel_rfl) (fun _ _ _ h => h) (Or.inl ⟨by kernel_rfl, ?_⟩) C ?_
        rotate_left
        · (intro W hS; obtain ⟨g0, g1, g2, g3, g4, g5⟩ := hS; clear g5; go_simp; try (with_reducible rfl))
        refine wpAnyH_take (i := 20) (v := ?_) rfl (by kernel_rfl) (by kernel_rfl) (by kernel_rfl) (fun _ _ _ h => h) (Or.inl ⟨by kernel_rfl, ?_⟩) C ?_
        rotate_left
        · (intro W hS; obtain ⟨g0, g1, g2, g3, g4, g5⟩ := hS; clear g5; go_simp; try (with_reducible rfl))
        refine wpAnyH_take (i := 21) (v := ?_) rfl (by kernel_rfl) (by kernel_rfl) (by kernel_rfl) (fun _ _ _ h => h) (Or.inl ⟨by kernel_rfl, ?_⟩) C ?_
        rotate_left
        · (intro W hS; obtain ⟨g0, g1, g2, g3, g4, g5⟩ := hS; clear g5; go_simp; try (with_reducible rfl))
        refine wpAnyH_take (i := 22) (v := ?_) rfl (by kernel_rfl) (by kernel_rfl) (by kernel_rfl) (fun _ _ _ h => h) (Or.inl ⟨by kernel_rfl, ?_⟩) C ?_
        rotate_left
        · (intro W hS; obtain ⟨g0, g1, g2, g3, g4, g5⟩ := hS; clear g5; go_simp; try (with_reducible rfl))
        refine wpAnyH_take (i := 23) (v := ?_) rfl (by kernel_rfl) (by kernel_rfl) (by kernel_rfl) (fun _ _ _ h => h) (Or.inl ⟨by kernel_rfl, ?_⟩) C ?_
        rotate_left
        · (intro W hS; obtain ⟨g0, g1, g2, g3, g4, g5⟩ := hS; clear g5; go_simp; try (with_reducible rfl))
        refine wpAnyH_take (i := 24) (v := ?_) rfl (by kernel_rfl) (by kernel_rfl) (by kernel_rfl) (fun _ _ _ h => h) (Or.inl ⟨by kernel_rfl, ?_⟩) C ?_
        rotate_left
        · (intro W hS; obtain ⟨g0, g1, g2, g3, g4, g5⟩ := hS; clear g5; go_simp; try (with_reducible rfl))
        refine wpAnyH_take (i := 25) (v := ?_) rfl (by kernel_rfl) (by kernel_rfl) (by kernel_rfl) (fun _ _ _ h => h) (Or.inl ⟨by kernel_rfl, ?_⟩) C ?_
        rotate_left
        · (intro W hS; obtain ⟨g0, g1, g2, g3, g4, g5⟩ := hS; clear g5; go_simp; try (with_reducible rfl))
        refine wpAnyH_take (i := 26) (v := ?_) rfl (by kernel_rfl) (by kernel_rfl) (by kernel_rfl) (fun _ _ _ h => h) (Or.inl ⟨by kernel_rfl, ?_⟩) C ?_
        rotate_left
        · (intro W hS; obtain ⟨g0, g1, g2, g3, g4, g5⟩ := hS; clear g5; go_simp; try (with_reducible rfl))
        refine wpAnyH_take (i := 27) (v := ?_) rfl (by kernel_rfl) (by kernel_rfl) (by kernel_rfl) (fun _ _ _ h => h) (Or.inl ⟨by kernel_rfl, ?_⟩) C ?_
        rotate_left
        · (intro W hS; obtain ⟨g0, g1, g2, g3, g4, g5⟩ := hS; clear g5; go_simp; try (with_reducible rfl))
        refine wpAnyH_take (i := 28) (v := ?_) rfl (by kernel_rfl) (by kernel_rfl) (by kernel_rfl) (fun _ _ _ h => h) (Or.inl ⟨by kernel_rfl, ?_⟩) C ?_
        rotate_left
        · (intro W hS; obtain ⟨g0, g1, g2, g3, g4, g5⟩ := hS; clear g5; go_simp; try (with_reducible rfl))
        refine wpAnyH_done (by kernel_rfl) ?_ _
        go_simp
        have H6 := Lib.hid (And.intro hwd6 C)
        clear hwd6 C
        have hstep := HK.out.2.2.2.2.1.step HK.out.2.2.2.1 HK.out.2.2.1.symm (HN.out.1.trans HK.out.2.2.2.2.2.2.1.symm) (HN.out.2.trans HK.out.2.2.2.2.2.2.2.1.symm) hmem
        have hput := H6.out.2.2.2.2.2.2.put X (.bool true)
        have hsn := seenK_snoc (bys (l.take k)) (bx s.x)
        rw [HX.out.2.1] at hsn
        rw [hsn, show bys (l.take k) ++ [bx s.x] = bys (l.take (k + 1)) by rw [take_snocS HK.out.2.2.2.1]; simp [bys]] at hput
        have hbp := below_put (HK.out.2.2.2.2.2.1.trans (H6.out.1.mono (Nat.le_of_lt hzw))) (Nat.le_refl _) X (.bool true)
        obtain ⟨g0, g1, g2, g3, g4, g5⟩ := H6.out.2
        rw [HX.out.1] at g0
        have t1 := g5.cell X _ (by have := seenK_get (bys (l.take k)) (bx s.x); rw [HX.out.2.1] at this; exact this)
        have t2 := g5.frozen X
        clear g5
        have HP := Lib.hid (And.intro hstep (And.intro hput hbp))
        clear hstep hput hbp hsn
        go_wp2_with fail
        go_roundw
        case rel => exact ⟨k + 1, by omega, by go_num, HP.out.1, HP.out.2.1, HP.out.2.2⟩
        case measure => simp [intOf]; omega
    · obtain rfl : k = n := by omega
      obtain rfl : R = true := by
        rw [H0.out.2.2.1]
        rw [H0.out.2.1] at hA
        exact hA.whole
      have HB := Lib.hid hb
      clear hA hr hb
      go_wp2_with fail
      go_ret
      exact ⟨rfl, HB.out⟩
end Go.Proofs.YtefpfedpgedloaaGreatDoor
namespace Go.Proofs.YtefpfedpgedloaaGreatDoor
open Go.RowKit
open Gf

theorem OwnB.base {B B' : Nat} {w : World} {a : Option Addr} {cap : Nat} {l : List UInt8} (h : OwnB B w a cap l) (hb : B' ≤ B) : OwnB B' w a cap l := by
  obtain ⟨h1, h2⟩ := h
  refine ⟨h1, ?_⟩
  rcases h2 with h2 | ⟨g, c, cur, e, hB, h3⟩
  · exact .inl h2
  · exact .inr ⟨g, c, cur, e, Nat.le_trans hb hB, h3⟩
theorem OwnB.other {B : Nat} {w : World} {g cap : Nat} {l : List UInt8} (h : OwnB B w (some ⟨g, 0, none⟩) cap l) {g' : Nat} (j : Nat) (v : Value) (hg : g' ≠ g) : OwnB B (w.setCell ⟨g', j, none⟩ v) (some ⟨g, 0, none⟩) cap l := by
  obtain ⟨h1, h2⟩ := h
  refine ⟨h1, ?_⟩
  rcases h2 with h2 | ⟨k, c, cur, e, hB, hk, h3⟩
  · exact .inl h2
  · injection e with e1 e2 e3
    injection e1 with e1
    injection e1 with e1 _ _
    subst e1 e3
    exact .inr ⟨g, cap, cur, rfl, hB, (heap_setCell_other w _ g v (fun e => hg e.symm)).trans hk, h3⟩
theorem OwnX.other {B : Nat} {w : World} {g cap : Nat} {l : List ByteArray} (h : OwnX B w (some ⟨g, 0, none⟩) cap l) {g' : Nat} (j : Nat) (v : Value) (hg : g' ≠ g) : OwnX B (w.setCell ⟨g', j, none⟩ v) (some ⟨g, 0, none⟩) cap l :=
  ⟨ownsRow_same h.1 (fun k hk => by have hk' : g = k := by simpa [Value.ownBlock] using hk
                                    subst hk'
                                    exact heap_setCell_other w _ g v (fun e => hg e.symm)), h.2⟩
/-- The k-th share's place, and a byte of it. -/
def xAt (l : List Shr) (k : Nat) : UInt8 := (bys l).getD k 0
def yAt (l : List Shr) (i k : Nat) : UInt8 := (colm i l).getD k 0
theorem xAt_of {l : List Shr} {k : Nat} {s : Shr} (h : l[k]? = some s) : xAt l k = bx s.x := by unfold xAt bys; rw [List.getD_eq_getElem?_getD, List.getElem?_map, h]; rfl
theorem yAt_of {l : List Shr} {i k : Nat} {s : Shr} (h : l[k]? = some s) : yAt l i k = co s.y.data.toList i := by unfold yAt colm; rw [List.getD_eq_getElem?_getD, List.getElem?_map, h]; rfl
theorem all_getD {l : List UInt8} : (List.range l.length).map (fun k => l.getD k 0) = l := by
  apply List.ext_getElem?
  intro i
  by_cases h : i < l.length
  · simp [h]
  · simp [h]
theorem all_x (l : List Shr) : (List.range l.length).map (xAt l) = bys l := by
  have := all_getD (l := bys l)
  rw [bys_length] at this; exact this
theorem all_y (l : List Shr) (i : Nat) : (List.range l.length).map (yAt l i) = colm i l := by
  have := all_getD (l := colm i l)
  rw [colm_length] at this; exact this
/-- Two rows of bytes that the call made itself. -/
structure ThrS (w : World) (n gp gc : Nat) (pl cl : List UInt8) (W : World) : Prop where
  ne : gp ≠ gc
  p : OwnB w.heap.size W (some ⟨gp, 0, none⟩) n pl
  c : OwnB w.heap.size W (some ⟨gc, 0, none⟩) n cl
  old : Below w.heap.size w W
theorem ThrS.call {w W W' : World} {n gp gc : Nat} {pl cl : List UInt8} (h : ThrS w n gp gc pl cl W) (hb : Below W.heap.size W W') : ThrS w n gp gc pl cl W' :=
  ⟨h.ne, h.p.call hb, h.c.call hb, h.old.trans (hb.mono h.old.size)⟩
theorem ThrS.putP {w W : World} {n gp gc : Nat} {pl cl : List UInt8} (h : ThrS w n gp gc pl cl W) (j : Nat) (c : UInt8) : ThrS w n gp gc (pl.set j c) cl (W.setCell ⟨gp, j, none⟩ (.int .u8 (c.toNat : Int))) :=
  ⟨h.ne, h.p.put j c, h.c.other j _ h.ne, below_put h.old h.p.size.1 j _⟩
theorem ThrS.putC {w W : World} {n gp gc : Nat} {pl cl : List UInt8} (h : ThrS w n gp gc pl cl W) (j : Nat) (c : UInt8) : ThrS w n gp gc pl (cl.set j c) (W.setCell ⟨gc, j, none⟩ (.int .u8 (c.toNat : Int))) :=
  ⟨h.ne, h.p.other j _ (fun e => h.ne e.symm), h.c.put j c, below_put h.old h.c.size.1 j _⟩
theorem ThrS.other {w W : World} {n gp gc : Nat} {pl cl : List UInt8} (h : ThrS w n gp gc pl cl W) {g : Nat} (hg : w.heap.size ≤ g) (h1 : g ≠ gp) (h2 : g ≠ gc) (j : Nat) (v : Value) : ThrS w n gp gc pl cl (W.setCell ⟨g, j, none⟩ v) :=
  ⟨h.ne, h.p.other j v h1, h.c.other j v h2, below_put h.old hg j v⟩
set_option maxRecDepth 100000 in
set_option maxHeartbeats 2000000 in
theorem through_shares {w : World} {a0 : Option Addr} {l : List Shr} (hT : SharesAt w a0 l) (h0 : 0 < l.length) (hl : l.length ≤ 1000) (m : Nat) (hy : ∀ s ∈ l, s.y.size = m) (hm : m ≤ 64) (cap : Nat) :
    Calls Tryz.prog 45 #[.slice a0 l.length cap] w fun e w' => ∃ a cp, e = .returned (.slice a m cp) ∧ OwnX w.heap.size w' a cp (polys m l) ∧ Below w.heap.size w w' := by
  obtain ⟨n, hN⟩ : ∃ n, n = l.length := ⟨_, rfl⟩
  rw [← hN] at h0 hl ⊢
  have H0 := Lib.hid (And.intro hT (And.intro hN hy))
  clear hT hN hy
  go_enter Tryz.func45, Tryz.ntmps45
  go_upto_region 1 with fail
  go_cut [3, 4] (fun p c wc => ∃ gp gc, p = .slice (some ⟨gp, 0, none⟩) n n ∧ c = .slice (some ⟨gc, 0, none⟩) n n ∧ gp ≠ gc ∧ OwnB w.heap.size wc (some ⟨gp, 0, none⟩) n (List.replicate n 0) ∧ OwnB w.heap.size wc (some ⟨gc, 0, none⟩) n (List.replicate n 0) ∧ Below w.heap.size w wc)
  case first =>
    have hwh : Below w.heap.size w w.drew := (Below.refl _ _).drew
    refine wp_region_held (S := fun _ => True) (by kernel_rfl) ?_
    change wpAnyH _ _ _ _ _ _ _ _ (World.drew _)
    generalize World.drew _ = wh at *
    refine wpAnyH_take (i := 0) (v := ?_) rfl (by kernel_rfl) (by kernel_rfl) (by kernel_rfl) (fun _ _ _ h => h) (Or.inl ⟨by kernel_rfl, ?_⟩) trivial ?_
    rotate_left
    · (intro W _; go_simp; try (with_reducible rfl))
    refine wpAnyH_take (i := 1) (v := ?_) rfl (by kernel_rfl) (by kernel_rfl) (by kernel_rfl) (fun _ _ _ h => h) (Or.inl ⟨by kernel_rfl, ?_⟩) trivial ?_
    rotate_left
    · (intro W _; go_simp; try (with_reducible rfl))
    refine wpAnyH_take (i := 3) (v := ?_) rfl (by kernel_rfl) (by kernel_rfl) (by kernel_rfl) (fun _ _ _ h => h) (Or.inl ⟨by kernel_rfl, ?_⟩) trivial ?_
    rotate_left
    · (intro W _; go_simp; try (with_reducible rfl))
    refine wpAnyH_take (i := 4) (v := ?_) rfl (by kernel_rfl) (by kernel_rfl) (by kernel_rfl) (fun _ _ _ h => h) (Or.inl ⟨by kernel_rfl, ?_⟩) trivial ?_
    rotate_left
    · (intro W _; go_simp; try (with_reducible rfl))
    refine wpAnyH_ready (rs := [2, 5]) (by kernel_rfl) (by simp) ?_
    refine AllReadyH.cons rfl (fun K hK => ?_) (AllReadyH.cons rfl (fun K hK => ?_) AllReadyH.nil)
    · obtain ⟨v1, m1, o1, b1⟩ := make_bytes wh n (by omega)
      go_simp
      refine hK.out _ _ trivial (fun _ => ?_)
      clear hK K m1
      refine wpAnyH_take (i := 6) (v := ?_) rfl (by kernel_rfl) (by kernel_rfl) (by kernel_rfl) (fun _ _ _ h => h) (Or.inl ⟨by kernel_rfl, ?_⟩) trivial ?_
      rotate_left
      · (intro W _; go_simp; try (with_reducible rfl))
      refine wpAnyH_ready (rs := [5]) (by kernel_rfl) (by simp) ?_
      refine AllReadyH.cons rfl (fun K hK => ?_) AllReadyH.nil
      obtain ⟨v2, m2, o2, b2⟩ := make_bytes v1 n (by omega)
      go_simp
      refine hK.out _ _ trivial (fun _ => ?_)
      clear hK K m2
      refine wpAnyH_take (i := 7) (v := ?_) rfl (by kernel_rfl) (by kernel_rfl) (by kernel_rfl) (fun _ _ _ h => h) (Or.inl ⟨by kernel_rfl, ?_⟩) trivial ?_
      rotate_left
      · (intro W _; go_simp; try (with_reducible rfl))
      refine wpAnyH_done (by kernel_rfl) ?_ _
      go_wp2_with fail
      go_meet
      case rel => exact ⟨wh.heap.size, v1.heap.size, rfl, rfl, by have := o1.size.2; omega, (OwnB.base (o1.call b2) hwh.size), (OwnB.base o2 (Nat.le_trans hwh.size b1.size)), hwh.trans ((b1.trans (b2.mono b1.size)).mono hwh.size)⟩
    · obtain ⟨v1, m1, o1, b1⟩ := make_bytes wh n (by omega)
      go_simp
      refine hK.out _ _ trivial (fun _ => ?_)
      clear hK K m1
      refine wpAnyH_ready (rs := [2]) (by kernel_rfl) (by simp) ?_
      refine AllReadyH.cons rfl (fun K hK => ?_) AllReadyH.nil
      obtain ⟨v2, m2, o2, b2⟩ := make_bytes v1 n (by omega)
      go_simp
      refine hK.out _ _ trivial (fun _ => ?_)
      clear hK K m2
      refine wpAnyH_take (i := 6) (v := ?_) rfl (by kernel_rfl) (by kernel_rfl) (by kernel_rfl) (fun _ _ _ h => h) (Or.inl ⟨by kernel_rfl, ?_⟩) trivial ?_
      rotate_left
      · (intro W _; go_simp; try (with_reducible rfl))
      refine wpAnyH_take (i := 7) (v := ?_) rfl (by kernel_rfl) (by kernel_rfl) (by kernel_rfl) (fun _ _ _ h => h) (Or.inl ⟨by kernel_rfl, ?_⟩) trivial ?_
      rotate_left
      · (intro W _; go_simp; try (with_reducible rfl))
      refine wpAnyH_done (by kernel_rfl) ?_ _
      go_wp2_with fail
      go_meet
      case rel => exact ⟨v1.heap.size, wh.heap.size, rfl, rfl, by have := o1.size.2; omega, (OwnB.base o2 (Nat.le_trans hwh.size b1.size)), (OwnB.base (o1.call b2) hwh.size), hwh.trans ((b1.trans (b2.mono b1.size)).mono hwh.size)⟩
  case rest =>
    obtain ⟨gp, gc, rfl, rfl, hne, hp, hc, hb⟩ := hcut
    rw [← upTo_rep (xAt l) 0 n] at hp
    have H1 := Lib.hid (ThrS.mk hne hp hc hb)
    clear hne hp hc hb
    go_wp2_with fail
    go_loopw [5, 6, 19] (fun _ _ i wr => ∃ k : Nat, k ≤ n ∧ i = .int .i64 (k : Int) ∧ ThrS w n gp gc (upTo (xAt l) (fun _ => 0) n k) (List.replicate n 0) wr) (fun _ _ i _ => n - (intOf i).toNat)
    case atStart => exact ⟨0, by omega, rfl, H1.out⟩
    case round =>
      clear H1
      obtain ⟨k, hk, rfl, hS⟩ := hrel
      by_cases hlt : k < n
      · obtain ⟨s, hsk⟩ : ∃ s, l[k]? = some s := ⟨_, List.getElem?_eq_getElem (by have := H0.out.2.1; omega)⟩
        obtain ⟨tb, off, rfl, htb, c0, c1, c2⟩ := (H0.out.1.below hS.old) k s hsk
        have hxk := xAt_of hsk
        have hwx := wrap_bx s.x
        rw [← hxk] at hwx
        have hbb : Below wr.heap.size wr (wr.alloc (.cells #[.int .i64 s.x, .int .i64 s.need, .string s.y] 32)) := (Below.refl _ _).alloc (Nat.le_refl _) _
        have hS1 := hS.call hbb
        have hg := heap_alloc_new wr (.cells #[.int .i64 s.x, .int .i64 s.need, .string s.y] 32)
        have d0 : (wr.alloc (.cells #[.int .i64 s.x, .int .i64 s.need, .string s.y] 32)).cell? ⟨wr.heap.size, 0, none⟩ = some (.int .i64 s.x) := by rw [cell_of_row _ _ _ _ _ _ hg]; rfl
        have e1 := hS1.p.cellAt k (by rw [upTo_length]; exact hlt)
        have f1 := hS1.p.frozenAt k
        generalize ((upTo (xAt l) (fun _ => 0) n k).getD k 0).toNat = old at e1
        have hput := hS1.putP k (xAt l k)
        rw [upTo_step _ _ hlt] at hput
        have HP := Lib.hid hput
        clear hS hS1 hput hbb hg hxk
        go_wp2_with fail
        go_roundw
        case rel => exact ⟨k + 1, by omega, by go_num, HP.out⟩
        case measure => simp [intOf]; omega
      · obtain rfl : k = n := by omega
        obtain ⟨W1, hW1⟩ : ∃ W1, W1 = wr := ⟨_, rfl⟩
        subst hW1
        obtain ⟨s0, hs0⟩ : ∃ s, l[0]? = some s := ⟨_, List.getElem?_eq_getElem (by have := H0.out.2.1; omega)⟩
        obtain ⟨tb, off, rfl, htb, c0, c1, c2⟩ := (H0.out.1.below hS.old) 0 s0 hs0
        rw [Nat.zero_mul, Nat.add_zero] at c0 c1 c2
        have hm0 : s0.y.size = m := H0.out.2.2 s0 (List.mem_of_getElem? hs0)
        have hm0i : (s0.y.size : Int) = m := by omega
        obtain ⟨wq, hmk, hown, hbq⟩ := make_texts W1 m (by omega)
        rw [← upTo_rep (fun i => pol i l) ⟨#[]⟩ m] at hown
        have hall := all_x l
        rw [← H0.out.2.1] at hall
        have hSq := hS.call hbq
        rw [upTo_all, hall] at hSq
        have hzq := hS.old.size
        have H2 := Lib.hid (And.intro hSq (And.intro hown (And.intro (hS.p.size.2) (And.intro hS.c.size.2 hzq))))
        clear hS hown hbq hSq hall hm0 hzq
        go_wp2_with fail
        clear hmk hm0i c0 c1 c2
        go_loopw [8, 9, 10, 39, 44] (fun _ _ _ i _ wr2 => ∃ (q : Nat) (cl : List UInt8), q ≤ m ∧ i = .int .i64 (q : Int) ∧ cl.length = k ∧ ThrS w k gp gc (bys l) cl wr2 ∧ OwnX w.heap.size wr2 (some ⟨W1.heap.size, 0, none⟩) m (upTo (fun i => pol i l) (fun _ => ⟨#[]⟩) m q)) (fun _ _ _ i _ _ => m - (intOf i).toNat)
        case atStart => exact ⟨0, List.replicate k 0, by omega, rfl, by simp, H2.out.1, Own.mono H2.out.2.1 H2.out.2.2.2.2⟩
        case round =>
          obtain ⟨q, cl, hq, rfl, hcl, hS, hX⟩ := hrel
          by_cases hqm : q < m
          · obtain ⟨W2, hW2⟩ : ∃ W2, W2 = wr := ⟨_, rfl⟩
            subst hW2
            have hz : upTo (yAt l q) (fun j => cl.getD j 0) k 0 = cl := by rw [upTo_zero, ← hcl, all_getD]
            have hS0 : ThrS w k gp gc (bys l) (upTo (yAt l q) (fun j => cl.getD j 0) k 0) W2 := by rw [hz]; exact hS
            have H3 := Lib.hid (And.intro hS0 hX)
            clear hS0 hX hS hz hcl
            go_wp2_with fail
            go_loopw [9, 10, 44] (fun _ _ j wr2 => ∃ t : Nat, t ≤ k ∧ j = .int .i64 (t : Int) ∧ ThrS w k gp gc (bys l) (upTo (yAt l q) (fun j => cl.getD j 0) k t) wr2 ∧ OwnX w.heap.size wr2 (some ⟨W1.heap.size, 0, none⟩) m (upTo (fun i => pol i l) (fun _ => ⟨#[]⟩) m q)) (fun _ _ j _ => k - (intOf j).toNat)
            case atStart => exact ⟨0, by omega, rfl, H3.out.1, H3.out.2⟩
            case round =>
              clear H3
              obtain ⟨t, ht, rfl, hS, hX⟩ := hrel
              by_cases htk : t < k
              · obtain ⟨s, hsk⟩ : ∃ s, l[t]? = some s := ⟨_, List.getElem?_eq_getElem (by have := H0.out.2.1; omega)⟩
                obtain ⟨tb', off', e', htb', c0, c1, c2⟩ := (H0.out.1.below hS.old) t s hsk
                injection e' with e'
                injection e' with e1 e2 _
                subst e1 e2
                have hms : s.y.size = m := H0.out.2.2 s (List.mem_of_getElem? hsk)
                have hqs : q < s.y.size := by omega
                have hyk : yAt l q t = s.y[q] := by rw [yAt_of hsk, co_at s.y q hqs]
                have hbb : Below wr.heap.size wr (wr.alloc (.cells #[.int .i64 s.x, .int .i64 s.need, .string s.y] 32)) := (Below.refl _ _).alloc (Nat.le_refl _) _
                have hS1 := hS.call hbb
                have hX1 := hX.below hbb
                have hg := heap_alloc_new wr (.cells #[.int .i64 s.x, .int .i64 s.need, .string s.y] 32)
                have d2 : (wr.alloc (.cells #[.int .i64 s.x, .int .i64 s.need, .string s.y] 32)).cell? ⟨wr.heap.size, 2, none⟩ = some (.string s.y) := by rw [cell_of_row _ _ _ _ _ _ hg]; rfl
                have e1 := hS1.c.cellAt t (by rw [upTo_length]; exact htk)
                have f1 := hS1.c.frozenAt t
                generalize ((upTo (yAt l q) (fun j => cl.getD j 0) k t).getD t 0).toNat = old at e1
                have hput := hS1.putC t s.y[q]
                have hX2 := hX1.other t (.int .u8 (s.y[q].toNat : Int)) (g' := gc) (by have := H2.out.2.2.2.1; omega)
                rw [← hyk, upTo_step _ _ htk, hyk] at hput
                have HP := Lib.hid (And.intro hput hX2)
                clear hS hS1 hput hbb hg hyk hX hX1 hX2 hms
                go_wp2_with fail
                go_roundw
                case rel => exact ⟨t + 1, by omega, by go_num, HP.out.1, HP.out.2⟩
                case measure => simp [intOf]; omega
              · obtain rfl : t = k := by omega
                have hall2 := all_y l q
                rw [← H0.out.2.1] at hall2
                rw [upTo_all, hall2] at hS
                have cp1 := hS.p.conv
                have cp2 := hS.c.conv
                rw [bys_length, ← H0.out.2.1] at cp1
                rw [colm_length, ← H0.out.2.1] at cp2
                have hth := fun W => through_any (str (bys l)) (str (colm q l)) (by rw [str_size, bys_length]; have := H0.out.2.1; omega) W
                change ∀ W, Calls _ _ _ _ (fun e w' => e = .returned (.tuple #[.string (pol q l), _]) ∧ _) at hth
                have H4 := Lib.hid (And.intro hS (And.intro hX hth))
                clear hS hX hth hall2
                go_wp2_with fail
                refine (H4.out.2.2 _).mono ?_
                rintro e w5 ⟨rfl, hb5⟩
                have hS5 := H4.out.1.call hb5
                have hX5 := H4.out.2.1.below hb5
                obtain ⟨old, hold⟩ : ∃ old, (upTo (fun i => pol i l) (fun _ => (⟨#[]⟩ : ByteArray)) m q)[q]? = some old := ⟨_, upTo_get _ _ hqm⟩
                have c1 : w5.cell? ⟨W1.heap.size, q, none⟩ = some (.string old) := by
                  rw [Own.cell hX5 (by rw [upTo_length]; omega)]
                  unfold tcells
                  rw [List.getElem?_map, hold]; rfl
                have f1 : w5.frozen? ⟨W1.heap.size, q, none⟩ = false := World.ownsRow.frozenAt hX5.1 q
                have hput := hX5.put q (pol q l)
                rw [upTo_step (fun i => pol i l) _ hqm] at hput
                have hS6 := hS5.other (g := W1.heap.size) H2.out.2.2.2.2 (by have := H2.out.2.2.1; omega) (by have := H2.out.2.2.2.1; omega) q (.string (pol q l))
                have HP := Lib.hid (And.intro hput hS6)
                clear hS5 hX5 hb5 hput hS6 hold cp1 cp2
                go_wp2_with fail
                go_roundw
                case rel => exact ⟨q + 1, colm q l, by omega, by go_num, by rw [colm_length, ← H0.out.2.1], HP.out.2, HP.out.1⟩
                case measure => simp [intOf]; omega
          · obtain rfl : q = m := by omega
            rw [upTo_all] at hX
            have HB := Lib.hid (And.intro hX hS.old)
            clear hS hX hcl
            go_wp2_with fail
            go_ret
            exact ⟨_, _, rfl, HB.out.1, HB.out.2⟩
end Go.Proofs.YtefpfedpgedloaaGreatDoor
