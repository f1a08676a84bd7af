/- PROVED HERE: for every two numbers and every list of acts the law DiskPlays returns true (a disk does what the reference does, act by act, and reads as it), and the acts read afterwards as they did. No condition. -/
import Derived.Test.YtefpfedpgedloaaDPlayM
import Derived.Test.YtefpfedpgedloaaDAwake
import Derived.Test.YtefpfedpgedloaaRows
import Derived.ProofKit
import Derived.OpenShut
import Derived.BigQuiet
import Derived.Deep.RegionWith
import Derived.Deep.DeepCutAuto
namespace Go.Proofs.Ytefpfedpgedloaa
open Go.RowKit
open Dk

set_option maxRecDepth 100000 in
set_option maxHeartbeats 2000000 in
theorem plays_law {w : World} (n : Int) (_ : -9223372036854775808 ≤ n) (_ : n ≤ 9223372036854775807) (room : Int) (_ : -9223372036854775808 ≤ room) (_ : room ≤ 9223372036854775807) (l : List Deed) (a0 : Option Addr) (cap : Nat) (hT : ActsAt w a0 l) (hmax : l.length ≤ maxLen) :
    Calls Try.prog 3 #[.int .i64 n, .int .i64 room, .slice a0 l.length cap] w fun e w' => e = .returned (.bool true) ∧ Below w.heap.size w w' := by
  have hfew := few_any hT hmax cap
  unfold maxLen at hmax
  obtain ⟨L, hL⟩ : ∃ L, L = l.length := ⟨_, rfl⟩
  rw [← hL] at hfew hmax ⊢
  have HT := Lib.hid (And.intro hT hL)
  clear hT hL
  rcases (by omega : room < 1 ∨ (1 ≤ room ∧ room ≤ 2000) ∨ (2001 ≤ room ∧ room ≤ 65536) ∨ 65537 ≤ room) with hr | hr | hr | hr
  · rcases (by omega : n < 1 ∨ (1 ≤ n ∧ n ≤ 8) ∨ (9 ≤ n ∧ n ≤ 64) ∨ 65 ≤ n) with hn | hn | hn | hn
    · have d0 : decide (2000 < room) = false := by rw [decide_eq_false_iff_not]; omega
      have d1 : decide (room ≤ 65536) = true := by rw [decide_eq_true_iff]; omega
      have d2 : decide (8 < n) = false := by rw [decide_eq_false_iff_not]; omega
      have d3 : decide (n ≤ 64) = true := by rw [decide_eq_true_iff]; omega
      have d4 : decide (n < 1) = true := by rw [decide_eq_true_iff]; omega
      have d5 : decide (room < 1) = true := by rw [decide_eq_true_iff]; omega
      have d6 : decide (64 < n) = false := by rw [decide_eq_false_iff_not]; omega
      have d7 : decide (65536 < room) = false := by rw [decide_eq_false_iff_not]; omega
      go_enter Try.func3, Try.ntmps3
      go_wp2_with fail
      refine hfew.mono ?_
      rintro e w1 ⟨t, rfl, ht, hb1⟩
      have H1 := Lib.hid hb1
      clear hfew hb1
      cases t with
      | false =>
        go_wp2_with fail
        refine (awake_any _).mono ?_
        rintro e w2 ⟨rfl, hb2⟩
        have H2 := Lib.hid hb2
        clear hb2
        go_wp2_with fail
        go_ret
        exact ⟨rfl, H1.out.trans (H2.out.mono H1.out.size)⟩
      | true =>
        go_wp2_with fail
        refine (new_bad _ _ (by omega) _).mono ?_
        rintro e w2 ⟨rfl, rfl⟩
        go_wp2_with fail
        refine (awake_any _).mono ?_
        rintro e w2 ⟨rfl, hb2⟩
        have H2 := Lib.hid hb2
        clear hb2
        go_wp2_with fail
        go_ret
        exact ⟨rfl, H1.out.trans (H2.out.mono H1.out.size)⟩
    · have d0 : decide (2000 < room) = false := by rw [decide_eq_false_iff_not]; omega
      have d1 : decide (room ≤ 65536) = true := by rw [decide_eq_true_iff]; omega
      have d2 : decide (8 < n) = false := by rw [decide_eq_false_iff_not]; omega
      have d3 : decide (n ≤ 64) = true := by rw [decide_eq_true_iff]; omega
      have d4 : decide (n < 1) = false := by rw [decide_eq_false_iff_not]; omega
      have d5 : decide (room < 1) = true := by rw [decide_eq_true_iff]; omega
      have d6 : decide (64 < n) = false := by rw [decide_eq_false_iff_not]; omega
      have d7 : decide (65536 < room) = false := by rw [decide_eq_false_iff_not]; omega
      go_enter Try.func3, Try.ntmps3
      go_wp2_with fail
      refine hfew.mono ?_
      rintro e w1 ⟨t, rfl, ht, hb1⟩
      have H1 := Lib.hid hb1
      clear hfew hb1
      cases t with
      | false =>
        go_wp2_with fail
        refine (awake_any _).mono ?_
        rintro e w2 ⟨rfl, hb2⟩
        have H2 := Lib.hid hb2
        clear hb2
        go_wp2_with fail
        go_ret
        exact ⟨rfl, H1.out.trans (H2.out.mono H1.out.size)⟩
      | true =>
        go_wp2_with fail
        refine (new_bad _ _ (by omega) _).mono ?_
        rintro e w2 ⟨rfl, rfl⟩
        go_wp2_with fail
        refine (awake_any _).mono ?_
        rintro e w2 ⟨rfl, hb2⟩
        have H2 := Lib.hid hb2
        clear hb2
        go_wp2_with fail
        go_ret
        exact ⟨rfl, H1.out.trans (H2.out.mono H1.out.size)⟩
    · have d0 : decide (2000 < room) = false := by rw [decide_eq_false_iff_not]; omega
      have d1 : decide (room ≤ 65536) = true := by rw [decide_eq_true_iff]; omega
      have d2 : decide (8 < n) = true := by rw [decide_eq_true_iff]; omega
      have d3 : decide (n ≤ 64) = true := by rw [decide_eq_true_iff]; omega
      have d4 : decide (n < 1) = false := by rw [decide_eq_false_iff_not]; omega
      have d5 : decide (room < 1) = true := by rw [decide_eq_true_iff]; omega
      have d6 : decide (64 < n) = false := by rw [decide_eq_false_iff_not]; omega
      have d7 : decide (65536 < room) = false := by rw [decide_eq_false_iff_not]; omega
      go_enter Try.func3, Try.ntmps3
      go_wp2_with fail
      refine hfew.mono ?_
      rintro e w1 ⟨t, rfl, ht, hb1⟩
      have H1 := Lib.hid hb1
      clear hfew hb1
      cases t with
      | false =>
        go_wp2_with fail
        refine (awake_any _).mono ?_
        rintro e w2 ⟨rfl, hb2⟩
        have H2 := Lib.hid hb2
        clear hb2
        go_wp2_with fail
        go_ret
        exact ⟨rfl, H1.out.trans (H2.out.mono H1.out.size)⟩
      | true =>
        go_wp2_with fail
        refine (awake_any _).mono ?_
        rintro e w2 ⟨rfl, hb2⟩
        have H2 := Lib.hid hb2
        clear hb2
        go_wp2_with fail
        go_ret
        exact ⟨rfl, H1.out.trans (H2.out.mono H1.out.size)⟩
    · have d0 : decide (2000 < room) = false := by rw [decide_eq_false_iff_not]; omega
      have d1 : decide (room ≤ 65536) = true := by rw [decide_eq_true_iff]; omega
      have d2 : decide (8 < n) = true := by rw [decide_eq_true_iff]; omega
      have d3 : decide (n ≤ 64) = false := by rw [decide_eq_false_iff_not]; omega
      have d4 : decide (n < 1) = false := by rw [decide_eq_false_iff_not]; omega
      have d5 : decide (room < 1) = true := by rw [decide_eq_true_iff]; omega
      have d6 : decide (64 < n) = true := by rw [decide_eq_true_iff]; omega
      have d7 : decide (65536 < room) = false := by rw [decide_eq_false_iff_not]; omega
      go_enter Try.func3, Try.ntmps3
      go_wp2_with fail
      refine hfew.mono ?_
      rintro e w1 ⟨t, rfl, ht, hb1⟩
      have H1 := Lib.hid hb1
      clear hfew hb1
      cases t with
      | false =>
        go_wp2_with fail
        refine (awake_any _).mono ?_
        rintro e w2 ⟨rfl, hb2⟩
        have H2 := Lib.hid hb2
        clear hb2
        go_wp2_with fail
        go_ret
        exact ⟨rfl, H1.out.trans (H2.out.mono H1.out.size)⟩
      | true =>
        go_wp2_with fail
        refine (new_bad _ _ (by omega) _).mono ?_
        rintro e w2 ⟨rfl, rfl⟩
        go_wp2_with fail
        refine (awake_any _).mono ?_
        rintro e w2 ⟨rfl, hb2⟩
        have H2 := Lib.hid hb2
        clear hb2
        go_wp2_with fail
        go_ret
        exact ⟨rfl, H1.out.trans (H2.out.mono H1.out.size)⟩
  · rcases (by omega : n < 1 ∨ (1 ≤ n ∧ n ≤ 8) ∨ (9 ≤ n ∧ n ≤ 64) ∨ 65 ≤ n) with hn | hn | hn | hn
    · have d0 : decide (2000 < room) = false := by rw [decide_eq_false_iff_not]; omega
      have d1 : decide (room ≤ 65536) = true := by rw [decide_eq_true_iff]; omega
      have d2 : decide (8 < n) = false := by rw [decide_eq_false_iff_not]; omega
      have d3 : decide (n ≤ 64) = true := by rw [decide_eq_true_iff]; omega
      have d4 : decide (n < 1) = true := by rw [decide_eq_true_iff]; omega
      have d5 : decide (room < 1) = false := by rw [decide_eq_false_iff_not]; omega
      have d6 : decide (64 < n) = false := by rw [decide_eq_false_iff_not]; omega
      have d7 : decide (65536 < room) = false := by rw [decide_eq_false_iff_not]; omega
      go_enter Try.func3, Try.ntmps3
      go_wp2_with fail
      refine hfew.mono ?_
      rintro e w1 ⟨t, rfl, ht, hb1⟩
      have H1 := Lib.hid hb1
      clear hfew hb1
      cases t with
      | false =>
        go_wp2_with fail
        refine (awake_any _).mono ?_
        rintro e w2 ⟨rfl, hb2⟩
        have H2 := Lib.hid hb2
        clear hb2
        go_wp2_with fail
        go_ret
        exact ⟨rfl, H1.out.trans (H2.out.mono H1.out.size)⟩
      | true =>
        go_wp2_with fail
        refine (new_bad _ _ (by omega) _).mono ?_
        rintro e w2 ⟨rfl, rfl⟩
        go_wp2_with fail
        refine (awake_any _).mono ?_
        rintro e w2 ⟨rfl, hb2⟩
        have H2 := Lib.hid hb2
        clear hb2
        go_wp2_with fail
        go_ret
        exact ⟨rfl, H1.out.trans (H2.out.mono H1.out.size)⟩
    · obtain ⟨N, rfl⟩ : ∃ N : Nat, n = N := ⟨n.toNat, by omega⟩
      have d0 : decide (2000 < room) = false := by rw [decide_eq_false_iff_not]; omega
      have d1 : decide (room ≤ 65536) = true := by rw [decide_eq_true_iff]; omega
      have d2 : decide (8 < (N : Int)) = false := by rw [decide_eq_false_iff_not]; omega
      have d3 : decide ((N : Int) ≤ 64) = true := by rw [decide_eq_true_iff]; omega
      have d4 : decide ((N : Int) < 1) = false := by rw [decide_eq_false_iff_not]; omega
      have d5 : decide (room < 1) = false := by rw [decide_eq_false_iff_not]; omega
      have d6 : decide (64 < (N : Int)) = false := by rw [decide_eq_false_iff_not]; omega
      have d7 : decide (65536 < room) = false := by rw [decide_eq_false_iff_not]; omega
      go_enter Try.func3, Try.ntmps3
      go_wp2_with fail
      refine hfew.mono ?_
      rintro e w1 ⟨t, rfl, ht, hb1⟩
      have H1 := Lib.hid hb1
      clear hfew hb1
      cases t with
      | false =>
        go_wp2_with fail
        refine (awake_any _).mono ?_
        rintro e w2 ⟨rfl, hb2⟩
        have H2 := Lib.hid hb2
        clear hb2
        go_wp2_with fail
        go_ret
        exact ⟨rfl, H1.out.trans (H2.out.mono H1.out.size)⟩
      | true =>
        have hl := ht rfl
        clear ht
        go_wp2_with fail
        refine (new_any N room (by omega) (by omega) (by omega) (by omega) _).mono ?_
        rintro e w2 ⟨b, ρ, rfl, hd, hfr, hb2⟩
        have H2 := Lib.hid (And.intro hd (And.intro hfr hb2))
        have hlab := hd.raw.lab
        clear hd hfr hb2
        go_wp2_with fail
        refine (rnew_any (fun g => ρ g = 0) (fun g hg => hlab g (by omega)) N (by omega) room).mono ?_
        rintro e w3 ⟨cells, rfl, hR3, hb3⟩
        clear hlab d0 d1 d2 d3 d4 d5 d6 d7
        obtain ⟨D, hD⟩ : ∃ D, D = Disk.new N room := ⟨_, rfl⟩
        have hnear : Near 0 D := by rw [hD]; exact Near.new (by omega) (by omega) (by omega)
        have hsl : D.sure.length = N := by rw [hD]; simp [Disk.new]
        have hrm : D.room = room := by rw [hD]; rfl
        rw [← hD] at H2 hR3
        clear hD
        have hR3' := hR3
        obtain ⟨sv, wv, rfl, hsv, hwv⟩ := hR3
        obtain ⟨sa, sc, rfl⟩ := hsv.form
        obtain ⟨wa, wc, rfl⟩ := hwv.form
        have H3 := Lib.hid (And.intro hR3' (And.intro hb3 (And.intro hnear (And.intro hsl hrm))))
        clear hR3' hb3 hsv hwv hnear hsl hrm
        unfold refCells
        go_wp2_with fail
        refine (awake_any _).mono ?_
        rintro e w5 ⟨rfl, hb5⟩
        have H5 := Lib.hid hb5
        clear hb5
        obtain ⟨w4, hw4⟩ : ∃ w4, w4 = w3.alloc (.cells #[.int .i64 D.room, .slice sa D.sure.length sc, .slice wa D.waits.length wc, .int .i64 D.changes, .int .i64 D.falls, .bool D.down, .int .i64 D.after, .int .i64 D.keep, .int .i64 D.torn, .bool D.laid] 32) := ⟨_, rfl⟩
        rw [← hw4] at H5
        have hb4 : Below w3.heap.size w3 w4 := by rw [hw4]; exact (Below.refl _ _).alloc (Nat.le_refl _) _
        have hz4 : w3.heap.size < w4.heap.size := by rw [hw4]; simp
        have h8 : w4.heap[w3.heap.size]? = some (.cells (refCells D (.slice sa D.sure.length sc) (.slice wa D.waits.length wc)) 32 (0, 0)) := by rw [hw4]; exact heap_alloc_new _ _
        clear hw4
        have hd5 : DiskAt w5 ρ b D := ((H2.out.1.below H3.out.2.1).below hb4).below H5.out
        have hR5 : RefIn w5 (fun g => ρ g = 0 ∧ g ≠ w3.heap.size) (refCells D (.slice sa D.sure.length sc) (.slice wa D.waits.length wc)) D :=
          H3.out.1.kept ⟨fun g hg hl => ⟨⟨hg, by omega⟩, (H5.out.block g (by omega)).trans (hb4.block g hl)⟩, by have := hb4.size; have := H5.out.size; omega⟩
        have h85 := (H5.out.block _ hz4).trans h8
        have hz85 : ρ w3.heap.size = 0 := (H2.out.1.below H3.out.2.1).raw.lab _ (Nat.le_refl _)
        have hB5 : Below w.heap.size w w5 := by
          have s1 := H1.out.size
          have s2 := H2.out.2.2.size
          have s3 := H3.out.2.1.size
          exact (((H1.out.trans (H2.out.2.2.mono (by omega))).trans (H3.out.2.1.mono (by omega))).trans (hb4.mono (by omega))).trans (H5.out.mono (by omega))
        have hF5 : From w.heap.size ρ := fun g hg => H2.out.2.1 g (by have := H1.out.size; omega)
        have hext := extents_any hd5
        rw [H3.out.2.2.2.1] at hext
        have hs2 : w.heap.size ≤ w2.heap.size := Nat.le_trans H1.out.size H2.out.2.2.size
        have H6 := Lib.hid (And.intro hd5 (And.intro hR5 (And.intro h85 (And.intro hz85 (And.intro hB5 hF5)))))
        clear hd5 hR5 h85 hz85 hB5 hF5 h8 hb4 hz4 H5 H1 H2
        go_wp2_with fail
        refine hext.mono ?_
        rintro e w6 ⟨rfl, rfl⟩
        clear hext
        have hz6 : w.heap.size ≤ w3.heap.size := by have := H3.out.2.1.size; omega
        have H7 : PlayS w b w3.heap.size N room 0 w5 := ⟨ρ, D, _, _, H6.out.1, H6.out.2.1, H6.out.2.2.1, H6.out.2.2.2.1, H6.out.2.2.2.2.1, H6.out.2.2.2.2.2, H3.out.2.2.1, H3.out.2.2.2.1, H3.out.2.2.2.2, hz6⟩
        clear H6 H3
        go_wp2_with fail
        go_loopw [9, 10, 11, 12, 13, 14, 15] (fun i _ _ _ _ _ _ wr => ∃ k : Nat, k ≤ L ∧ i = .int .i64 k ∧ PlayS w b w3.heap.size N room k wr) (fun i _ _ _ _ _ _ _ => L - (intOf i).toNat)
        case atStart => exact ⟨0, by omega, rfl, H7⟩
        case round =>
          clear H7
          obtain ⟨k, hk, rfl, hS⟩ := hrel
          by_cases hlt : k < L
          · obtain ⟨x, hx⟩ : ∃ x, l[k]? = some x := ⟨_, List.getElem?_eq_getElem (by have := HT.out.2; omega)⟩
            obtain ⟨ρ', D', sv', wv', q1, q2, q3, q4, q5, q6, q7, q8, q9, q10⟩ := hS
            obtain ⟨sa', sc', rfl⟩ : ∃ a c, sv' = .slice a D'.sure.length c := by
              obtain ⟨u, v, e, h1, -⟩ := q2
              injection e with e
              simp only [List.cons.injEq] at e
              rw [e.2.1]
              exact h1.form
            obtain ⟨wa', wc', rfl⟩ : ∃ a c, wv' = .slice a D'.waits.length c := by
              obtain ⟨u, v, e, -, h1⟩ := q2
              injection e with e
              simp only [List.cons.injEq] at e
              rw [e.2.2.1]
              exact h1.form
            obtain ⟨g, off, rfl, hg, c0, c1, c2, c3, c4, c5, c6⟩ := (HT.out.1.below q5).cellsAt hx
            obtain ⟨a0, a1, a2, a3, a4, a5, a6, a7, a8, a9⟩ := ref_cell q3
            have hb8 : w3.heap.size < wr.heap.size := (Array.getElem?_eq_some_iff.1 q3).1
            have hdo : ∀ (W : World) (G : Nat), Below wr.heap.size wr W → (∀ g, W.heap.size ≤ g → g ≠ G) → (G = w3.heap.size ∨ wr.heap.size ≤ G) → _ := fun W G hW hG hG2 => ldo_any (V := fun g => g ≠ w3.heap.size ∧ g ≠ G) x (q1.below hW) (q2.kept (T := fun g => ρ' g = 0 ∧ g ≠ w3.heap.size ∧ g ≠ G) ⟨fun g hg hl => ⟨⟨hg.1, hg.2, by rcases hG2 with e | e; exact e ▸ hg.2; omega⟩, hW.block g hl⟩, hW.size⟩) (fun g hg => ⟨by have := hW.size; omega, hG g hg⟩) q7.ok (q7.small (by omega)) (q7.small (by omega)) (by have := q7.waits; omega)
            have hzr : ρ' wr.heap.size = 0 := q1.raw.lab _ (Nat.le_refl _)
            have hnear := q7.step x (HT.out.1 k x hx).1
            have hroom := deed_room D' x
            obtain ⟨E, hE⟩ : ∃ E, E = (deed D' x).1 := ⟨_, rfl⟩
            rw [← hE] at hdo hnear hroom
            unfold refCells Deed.cells at hdo
            have HS := Lib.hid (And.intro q1 (And.intro q3 (And.intro q4 (And.intro q5 (And.intro q6 (And.intro hnear (And.intro (hroom.2.trans q8) (And.intro (hroom.1.trans q9) (And.intro q10 (And.intro hzr hdo))))))))))
            clear q1 q2 q3 q4 q5 q6 q7 q8 q9 q10 hnear hroom hzr hdo hE
            go_upto_region 12 with fail
            go_cut [10, 11] (fun p t wc => ∃ (g10 : Nat) (ρ7 : Nat → Nat) (sv wv : Value), p = .pointer (some ⟨g10, 0, none⟩) ∧ t = .bool true ∧ PlayC wr b w3.heap.size g10 ρ' ρ7 E (refCells D' (.slice sa' D'.sure.length sc') (.slice wa' D'.waits.length wc')) sv wv wc)
            case first =>
              go_region_with (go_at_call 14; first | (refine (HS.out.2.2.2.2.2.2.2.2.2.2 (World.drew (wr.alloc _)) wr.heap.size ((Below.refl _ _).alloc (Nat.le_refl _) _).drew (fun g hg => by have := alloc_lt wr (.cells #[.int .i64 0, .slice none 0 0, .slice none 0 0, .int .i64 0, .int .i64 0, .bool false, .int .i64 0, .int .i64 0, .int .i64 0, .bool false] 32); have h2 : (World.drew (wr.alloc (.cells #[.int .i64 0, .slice none 0 0, .slice none 0 0, .int .i64 0, .int .i64 0, .bool false, .int .i64 0, .int .i64 0, .int .i64 0, .bool false] 32))).heap.size ≤ g := hg; omega) (.inr (Nat.le_refl _))).mono ?_; rintro e w7 ⟨cells7, t7, rfl, ht7, ρ7, hd7, hR7, htch7⟩; obtain rfl : t7 = true := (by first | exact ht7 rfl | exact ht7 trivial); have hR7' := hR7; obtain ⟨sv7, wv7, rfl, h7s, h7w⟩ := hR7; obtain ⟨sa7, sc7, rfl⟩ := h7s.form; obtain ⟨wa7, wc7, rfl⟩ := h7w.form; unfold refCells; have htB : Touch RA ρ' ρ7 (World.drew (wr.alloc (.cells #[.int .i64 0, .slice none 0 0, .slice none 0 0, .int .i64 0, .int .i64 0, .bool false, .int .i64 0, .int .i64 0, .int .i64 0, .bool false] 32))) w7 := htch7; have hzb := (htB.same wr.heap.size (alloc_lt wr _) (fun e => e HS.out.2.2.2.2.2.2.2.2.2.1)).trans (heap_alloc_new wr _); obtain ⟨e0, e1, e2, e3, e4, e5, e6, e7, e8, e9, f1⟩ := new_cell (room := 0) (v := .slice none 0 0) hzb; clear hzb; have HX := Lib.hid (And.intro hd7 (And.intro hR7' htB)); clear hd7 hR7' htch7 htB h7s h7w) | (refine (HS.out.2.2.2.2.2.2.2.2.2.2 _ w3.heap.size ?hBW (fun g hg => ?hBG) (.inl rfl)).mono ?_; (case hBW => first | exact (Below.refl _ _).drew | exact Below.refl _ _); (case hBG => have h2 : wr.heap.size ≤ g := hg; omega); rintro e w7 ⟨cells7, t7, rfl, ht7, ρ7, hd7, hR7, htch7⟩; obtain rfl : t7 = true := (by first | exact ht7 rfl | exact ht7 trivial); have hR7' := hR7; obtain ⟨sv7, wv7, rfl, h7s, h7w⟩ := hR7; obtain ⟨sa7, sc7, rfl⟩ := h7s.form; obtain ⟨wa7, wc7, rfl⟩ := h7w.form; unfold refCells; have HX := Lib.hid (And.intro hd7 (And.intro hR7' htch7)); clear hd7 hR7' htch7 h7s h7w))
              all_goals (go_wp2_with fail; go_meet; first | exact ⟨_, ρ7, _, _, rfl, rfl, playA10 HS.out.2.1 HS.out.2.2.1 HS.out.2.2.2.2.2.2.2.2.2.1 rfl HX.out⟩ | exact ⟨_, ρ7, _, _, rfl, rfl, playB1 HS.out.2.1 HS.out.2.2.1 HX.out⟩)
            case rest =>
              obtain ⟨g10, ρ7, sv7, wv7, rfl, rfl, hC⟩ := hcut
              obtain ⟨sa7, sc7, rfl⟩ : ∃ a c, sv7 = .slice a E.sure.length c := by
                obtain ⟨u, v, e, h1, -⟩ := hC.ref
                injection e with e
                simp only [List.cons.injEq] at e
                rw [e.2.1]
                exact h1.form
              obtain ⟨wa7, wc7, rfl⟩ : ∃ a c, wv7 = .slice a E.waits.length c := by
                obtain ⟨u, v, e, -, h1⟩ := hC.ref
                injection e with e
                simp only [List.cons.injEq] at e
                rw [e.2.2.1]
                exact h1.form
              clear a0 a1 a2 a3 a4 a5 a6 a7 a8 a9
              obtain ⟨a0, a1, a2, a3, a4, a5, a6, a7, a8, a9⟩ := ref_cell hC.row8
              obtain ⟨b0, b1, b2, b3, b4, b5, b6, b7, b8, b9⟩ := ref_cell hC.row10
              have f8 : ∀ j, wc.frozen? ⟨w3.heap.size, j, none⟩ = false := fun j => frozen_of_row _ _ _ _ _ hC.row8
              have hz8 : w3.heap.size < wc.heap.size := (Array.getElem?_eq_some_iff.1 hC.row8).1
              have hz10 : g10 < wc.heap.size := (Array.getElem?_eq_some_iff.1 hC.row10).1
              have HC := Lib.hid hC
              clear hC
              go_wp2_with fail
              go_upto_region 14 with fail
              clear a0 a1 a2 a3 a4 a5 a6 a7 a8 a9 b0 b1 b2 b3 b4 b5 b6 b7 b8 b9 f8 hz8 hz10
              have hU := HC.out.next10 rfl HS.out.2.2.2.1 HS.out.2.2.2.2.1 HS.out.2.2.2.2.2.1 HS.out.2.2.2.2.2.2.1 HS.out.2.2.2.2.2.2.2.1 HS.out.2.2.2.2.2.2.2.2.1
              generalize World.setCell _ _ _ = wd at hU ⊢
              have hd1 := fun (n : Nat) => down_any (hU.disk.below (below_drewN wd n))
              have hd2 := fun (n : Nat) => waits_any (hU.disk.below (below_drewN wd n))
              have hd3 := fun (n : Nat) => changes_any (hU.disk.below (below_drewN wd n))
              have hd4 := fun (n : Nat) => falls_any (hU.disk.below (below_drewN wd n))
              obtain ⟨a0, a1, a2, a3, a4, a5, a6, a7, a8, a9⟩ := ref_cell hU.row8
              obtain ⟨dn, hdn⟩ : ∃ dn, dn = E.down := ⟨_, rfl⟩
              simp only [← hdn] at hd1
              rw [← hdn] at a5
              have HD := Lib.hid (And.intro hU (And.intro hd1 (And.intro hd2 (And.intro hd3 (And.intro hd4 hdn)))))
              clear hU hd1 hd2 hd3 hd4 hdn HC HS
              cases dn with
              | true =>
                go_wp2_with fail
                go_quiet ((first
                  | (go_at_call 15; exact Calls.quiet_of_same (calls_still (HD.out.2.1 _)))
                  | (go_at_call 16; exact Calls.quiet_of_same (calls_still (HD.out.2.2.1 _)))
                  | (go_at_call 17; exact Calls.quiet_of_same (calls_still (HD.out.2.2.2.1 _)))
                  | (go_at_call 18; exact Calls.quiet_of_same (calls_still (HD.out.2.2.2.2.1 _)))))
                clear a0 a1 a2 a3 a4 a5 a6 a7 a8 a9
                have hU1 := HD.out.1.below (W' := World.drewN wd nq) ⟨rfl, rfl, rfl, Nat.le_refl _, fun _ _ => rfl⟩
                have hdn := HD.out.2.2.2.2.2
                clear HD
                generalize World.drewN _ _ = W1 at hU1 ⊢
                obtain ⟨a0, a1, a2, a3, a4, a5, a6, a7, a8, a9⟩ := ref_cell hU1.row8
                have hnow := rnow_any hU1.ref (fun g hg => ⟨hU1.disk.raw.lab g hg, by have := (Array.getElem?_eq_some_iff.1 hU1.row8).1; omega⟩) hU1.near.ok.fits (by rw [hU1.len]; omega) (by have := hU1.near.waits; omega)
                unfold refCells at hnow
                have HU1 := Lib.hid (And.intro hU1 (And.intro hnow hdn))
                clear hU1 hnow hdn
                go_wp2_with fail
                refine HU1.out.2.1.mono ?_
                rintro e w9 ⟨v9, rfl, hT, hb9⟩
                clear a0 a1 a2 a3 a4 a5 a6 a7 a8 a9
                obtain ⟨ta, tc, rfl⟩ := hT.form
                have hU2 := HU1.out.1.below hb9
                have hnl : E.now.length = N := (Disk.now_length E).trans hU2.len
                have hdn := HU1.out.2.2
                have hsz : Sz E.now := hU2.near.ok.fits.all
                have H9 := Lib.hid (And.intro hU2 (And.intro hT (And.intro hnl (And.intro hdn hsz))))
                rw [hnl]
                clear hU2 hT hnl hdn hsz hb9 HU1
                go_wp2_with fail
                go_loopw [13, 14, 15] (fun i _ _ wr2 => ∃ q : Nat, q ≤ N ∧ i = .int .i64 q ∧ Below w9.heap.size w9 wr2) (fun i _ _ _ => N - (intOf i).toNat)
                case atStart => exact ⟨0, by omega, rfl, Below.refl _ _⟩
                case round =>
                  obtain ⟨q, hq, rfl, hb⟩ := hrel
                  have hU3 := H9.out.1.below hb
                  obtain ⟨-, -, -, -, -, a5, -⟩ := ref_cell hU3.row8
                  rw [← H9.out.2.2.2.1] at a5
                  by_cases hqn : q < N
                  · have hrd := read_any hU3.disk (q : Int)
                    have hrm := room_any hU3.disk (q : Int)
                    obtain ⟨p1, p2, p3⟩ := play_down (x := (q : Int)) H9.out.2.2.2.1.symm
                    rw [p1, p2] at hrd
                    rw [p3] at hrm
                    have HR := Lib.hid (And.intro hrd (And.intro hrm hU3))
                    have HB := Lib.hid hb
                    clear hrd hrm hU3 p1 p2 p3 hb
                    go_wp2_with fail
                    refine HR.out.1.mono ?_
                    rintro e w10 ⟨rfl, rfl⟩
                    go_wp2_with fail
                    refine HR.out.2.1.mono ?_
                    rintro e w11 ⟨rfl, rfl⟩
                    go_wp2_with fail
                    go_quiet (fail)
                    have hbb := HB.out.trans (show Below _ _ (World.drewN _ nq) from ⟨rfl, rfl, rfl, Nat.le_refl _, fun _ _ => rfl⟩)
                    go_wp2_with fail
                    go_roundw
                    case rel => exact ⟨q + 1, by omega, by go_num, hbb⟩
                    case measure => simp [intOf]; omega
                  · obtain rfl : q = N := by omega
                    have hout := hU3.out
                    have HO := Lib.hid hout
                    clear hU3 hout hb
                    go_wp2_with fail
                    go_roundw
                    case rel => exact ⟨k + 1, by omega, by go_num, HO.out⟩
                    case measure => simp [intOf]; omega
              | false =>
                go_wp2_with fail
                go_quiet ((first
                  | (go_at_call 15; exact Calls.quiet_of_same (calls_still (HD.out.2.1 _)))
                  | (go_at_call 16; exact Calls.quiet_of_same (calls_still (HD.out.2.2.1 _)))
                  | (go_at_call 17; exact Calls.quiet_of_same (calls_still (HD.out.2.2.2.1 _)))
                  | (go_at_call 18; exact Calls.quiet_of_same (calls_still (HD.out.2.2.2.2.1 _)))))
                clear a0 a1 a2 a3 a4 a5 a6 a7 a8 a9
                have hU1 := HD.out.1.below (W' := World.drewN wd nq) ⟨rfl, rfl, rfl, Nat.le_refl _, fun _ _ => rfl⟩
                have hdn := HD.out.2.2.2.2.2
                clear HD
                generalize World.drewN _ _ = W1 at hU1 ⊢
                obtain ⟨a0, a1, a2, a3, a4, a5, a6, a7, a8, a9⟩ := ref_cell hU1.row8
                have hnow := rnow_any hU1.ref (fun g hg => ⟨hU1.disk.raw.lab g hg, by have := (Array.getElem?_eq_some_iff.1 hU1.row8).1; omega⟩) hU1.near.ok.fits (by rw [hU1.len]; omega) (by have := hU1.near.waits; omega)
                unfold refCells at hnow
                have HU1 := Lib.hid (And.intro hU1 (And.intro hnow hdn))
                clear hU1 hnow hdn
                go_wp2_with fail
                refine HU1.out.2.1.mono ?_
                rintro e w9 ⟨v9, rfl, hT, hb9⟩
                clear a0 a1 a2 a3 a4 a5 a6 a7 a8 a9
                obtain ⟨ta, tc, rfl⟩ := hT.form
                have hU2 := HU1.out.1.below hb9
                have hnl : E.now.length = N := (Disk.now_length E).trans hU2.len
                have hdn := HU1.out.2.2
                have hsz : Sz E.now := hU2.near.ok.fits.all
                have H9 := Lib.hid (And.intro hU2 (And.intro hT (And.intro hnl (And.intro hdn hsz))))
                rw [hnl]
                clear hU2 hT hnl hdn hsz hb9 HU1
                go_wp2_with fail
                go_loopw [13, 14, 15] (fun i _ _ wr2 => ∃ q : Nat, q ≤ N ∧ i = .int .i64 q ∧ Below w9.heap.size w9 wr2) (fun i _ _ _ => N - (intOf i).toNat)
                case atStart => exact ⟨0, by omega, rfl, Below.refl _ _⟩
                case round =>
                  obtain ⟨q, hq, rfl, hb⟩ := hrel
                  have hU3 := H9.out.1.below hb
                  obtain ⟨-, -, -, -, -, a5, -⟩ := ref_cell hU3.row8
                  rw [← H9.out.2.2.2.1] at a5
                  by_cases hqn : q < N
                  · have hrd := read_any hU3.disk (q : Int)
                    have hrm := fun (n : Nat) => room_any (hU3.disk.below (below_drewN _ n)) (q : Int)
                    obtain ⟨p1, p2, p3⟩ := play_read (q := q) H9.out.2.2.2.1.symm (by rw [H9.out.1.len]; exact hqn)
                    obtain ⟨tg, rfl, htg, hct⟩ := (H9.out.2.1.kept (keptS_below hb)).at (show q < E.now.length by rw [H9.out.2.2.1]; exact hqn)
                    have hTs := H9.out.2.2.2.2.at q
                    rw [H9.out.1.room] at p3
                    obtain ⟨T, hTT⟩ : ∃ T, T = exAt E.now q := ⟨_, rfl⟩
                    rw [← hTT] at p1 p3 hct hTs
                    have hxx : (T.toList == T.toList) = true := by simp
                    have hTi : (T.size : Int) ≤ 65536 := by omega
                    obtain ⟨rr, hrr⟩ : ∃ rr, rr = room - (T.size : Int) := ⟨_, rfl⟩
                    have hwr : IntKind.i64.wrap (room - (T.size : Int)) = rr := by rw [hrr]; exact IntWalk.i64_in _ (by omega)
                    rw [p1, p2] at hrd
                    simp only [p3, ← hrr] at hrm
                    have HR := Lib.hid (And.intro hrd (And.intro hrm hU3))
                    have HB := Lib.hid hb
                    clear hrd hrm hU3 p1 p2 p3 hb hTT hrr hTs
                    go_wp2_with fail
                    refine HR.out.1.mono ?_
                    rintro e w10 ⟨rfl, rfl⟩
                    go_wp2_with fail
                    go_quiet ((go_at_call 21; exact Calls.quiet_of_same (calls_still (HR.out.2.1 _))))
                    have hbb := HB.out.trans (show Below _ _ (World.drewN _ nq) from ⟨rfl, rfl, rfl, Nat.le_refl _, fun _ _ => rfl⟩)
                    go_wp2_with fail
                    go_roundw
                    case rel => exact ⟨q + 1, by omega, by go_num, hbb⟩
                    case measure => simp [intOf]; omega
                  · obtain rfl : q = N := by omega
                    have hout := hU3.out
                    have HO := Lib.hid hout
                    clear hU3 hout hb
                    go_wp2_with fail
                    go_roundw
                    case rel => exact ⟨k + 1, by omega, by go_num, HO.out⟩
                    case measure => simp [intOf]; omega
          · obtain rfl : k = L := by omega
            obtain ⟨ρ', D', sv', wv', q1, q2, q3, q4, q5, q6, q7, q8, q9, q10⟩ := hS
            have hr1 := room_any q1 (-1)
            have hr2 := room_any q1 (N : Int)
            have e1 : roomD D' (-1) = 0 := if_neg (by unfold eerr; split; · decide
                                                      · rw [if_pos (.inl (by decide))]; decide)
            have e2 : roomD D' (N : Int) = 0 := if_neg (by unfold eerr; split; · decide
                                                           · rw [if_pos (.inr (by rw [q8]; exact Int.le_refl _))]; decide)
            rw [e1] at hr1
            rw [e2] at hr2
            have HB := Lib.hid q5
            clear q1 q2 q3 q4 q5 q6 q7 q8 q9 q10 e1 e2
            go_wp2_with fail
            refine hr1.mono ?_
            rintro e w8 ⟨rfl, rfl⟩
            go_wp2_with fail
            refine hr2.mono ?_
            rintro e w8 ⟨rfl, rfl⟩
            go_wp2_with fail
            go_ret
            exact ⟨rfl, HB.out⟩
    · have d0 : decide (2000 < room) = false := by rw [decide_eq_false_iff_not]; omega
      have d1 : decide (room ≤ 65536) = true := by rw [decide_eq_true_iff]; omega
      have d2 : decide (8 < n) = true := by rw [decide_eq_true_iff]; omega
      have d3 : decide (n ≤ 64) = true := by rw [decide_eq_true_iff]; omega
      have d4 : decide (n < 1) = false := by rw [decide_eq_false_iff_not]; omega
      have d5 : decide (room < 1) = false := by rw [decide_eq_false_iff_not]; omega
      have d6 : decide (64 < n) = false := by rw [decide_eq_false_iff_not]; omega
      have d7 : decide (65536 < room) = false := by rw [decide_eq_false_iff_not]; omega
      go_enter Try.func3, Try.ntmps3
      go_wp2_with fail
      refine hfew.mono ?_
      rintro e w1 ⟨t, rfl, ht, hb1⟩
      have H1 := Lib.hid hb1
      clear hfew hb1
      cases t with
      | false =>
        go_wp2_with fail
        refine (awake_any _).mono ?_
        rintro e w2 ⟨rfl, hb2⟩
        have H2 := Lib.hid hb2
        clear hb2
        go_wp2_with fail
        go_ret
        exact ⟨rfl, H1.out.trans (H2.out.mono H1.out.size)⟩
      | true =>
        go_wp2_with fail
        refine (awake_any _).mono ?_
        rintro e w2 ⟨rfl, hb2⟩
        have H2 := Lib.hid hb2
        clear hb2
        go_wp2_with fail
        go_ret
        exact ⟨rfl, H1.out.trans (H2.out.mono H1.out.size)⟩
    · have d0 : decide (2000 < room) = false := by rw [decide_eq_false_iff_not]; omega
      have d1 : decide (room ≤ 65536) = true := by rw [decide_eq_true_iff]; omega
      have d2 : decide (8 < n) = true := by rw [decide_eq_true_iff]; omega
      have d3 : decide (n ≤ 64) = false := by rw [decide_eq_false_iff_not]; omega
      have d4 : decide (n < 1) = false := by rw [decide_eq_false_iff_not]; omega
      have d5 : decide (room < 1) = false := by rw [decide_eq_false_iff_not]; omega
      have d6 : decide (64 < n) = true := by rw [decide_eq_true_iff]; omega
      have d7 : decide (65536 < room) = false := by rw [decide_eq_false_iff_not]; omega
      go_enter Try.func3, Try.ntmps3
      go_wp2_with fail
      refine hfew.mono ?_
      rintro e w1 ⟨t, rfl, ht, hb1⟩
      have H1 := Lib.hid hb1
      clear hfew hb1
      cases t with
      | false =>
        go_wp2_with fail
        refine (awake_any _).mono ?_
        rintro e w2 ⟨rfl, hb2⟩
        have H2 := Lib.hid hb2
        clear hb2
        go_wp2_with fail
        go_ret
        exact ⟨rfl, H1.out.trans (H2.out.mono H1.out.size)⟩
      | true =>
        go_wp2_with fail
        refine (new_bad _ _ (by omega) _).mono ?_
        rintro e w2 ⟨rfl, rfl⟩
        go_wp2_with fail
        refine (awake_any _).mono ?_
        rintro e w2 ⟨rfl, hb2⟩
        have H2 := Lib.hid hb2
        clear hb2
        go_wp2_with fail
        go_ret
        exact ⟨rfl, H1.out.trans (H2.out.mono H1.out.size)⟩
  · rcases (by omega : n < 1 ∨ (1 ≤ n ∧ n ≤ 8) ∨ (9 ≤ n ∧ n ≤ 64) ∨ 65 ≤ n) with hn | hn | hn | hn
    · have d0 : decide (2000 < room) = true := by rw [decide_eq_true_iff]; omega
      have d1 : decide (room ≤ 65536) = true := by rw [decide_eq_true_iff]; omega
      have d2 : decide (8 < n) = false := by rw [decide_eq_false_iff_not]; omega
      have d3 : decide (n ≤ 64) = true := by rw [decide_eq_true_iff]; omega
      have d4 : decide (n < 1) = true := by rw [decide_eq_true_iff]; omega
      have d5 : decide (room < 1) = false := by rw [decide_eq_false_iff_not]; omega
      have d6 : decide (64 < n) = false := by rw [decide_eq_false_iff_not]; omega
      have d7 : decide (65536 < room) = false := by rw [decide_eq_false_iff_not]; omega
      go_enter Try.func3, Try.ntmps3
      go_wp2_with fail
      refine hfew.mono ?_
      rintro e w1 ⟨t, rfl, ht, hb1⟩
      have H1 := Lib.hid hb1
      clear hfew hb1
      cases t with
      | false =>
        go_wp2_with fail
        refine (awake_any _).mono ?_
        rintro e w2 ⟨rfl, hb2⟩
        have H2 := Lib.hid hb2
        clear hb2
        go_wp2_with fail
        go_ret
        exact ⟨rfl, H1.out.trans (H2.out.mono H1.out.size)⟩
      | true =>
        go_wp2_with fail
        refine (awake_any _).mono ?_
        rintro e w2 ⟨rfl, hb2⟩
        have H2 := Lib.hid hb2
        clear hb2
        go_wp2_with fail
        go_ret
        exact ⟨rfl, H1.out.trans (H2.out.mono H1.out.size)⟩
    · have d0 : decide (2000 < room) = true := by rw [decide_eq_true_iff]; omega
      have d1 : decide (room ≤ 65536) = true := by rw [decide_eq_true_iff]; omega
      have d2 : decide (8 < n) = false := by rw [decide_eq_false_iff_not]; omega
      have d3 : decide (n ≤ 64) = true := by rw [decide_eq_true_iff]; omega
      have d4 : decide (n < 1) = false := by rw [decide_eq_false_iff_not]; omega
      have d5 : decide (room < 1) = false := by rw [decide_eq_false_iff_not]; omega
      have d6 : decide (64 < n) = false := by rw [decide_eq_false_iff_not]; omega
      have d7 : decide (65536 < room) = false := by rw [decide_eq_false_iff_not]; omega
      go_enter Try.func3, Try.ntmps3
      go_wp2_with fail
      refine hfew.mono ?_
      rintro e w1 ⟨t, rfl, ht, hb1⟩
      have H1 := Lib.hid hb1
      clear hfew hb1
      cases t with
      | false =>
        go_wp2_with fail
        refine (awake_any _).mono ?_
        rintro e w2 ⟨rfl, hb2⟩
        have H2 := Lib.hid hb2
        clear hb2
        go_wp2_with fail
        go_ret
        exact ⟨rfl, H1.out.trans (H2.out.mono H1.out.size)⟩
      | true =>
        go_wp2_with fail
        refine (awake_any _).mono ?_
        rintro e w2 ⟨rfl, hb2⟩
        have H2 := Lib.hid hb2
        clear hb2
        go_wp2_with fail
        go_ret
        exact ⟨rfl, H1.out.trans (H2.out.mono H1.out.size)⟩
    · have d0 : decide (2000 < room) = true := by rw [decide_eq_true_iff]; omega
      have d1 : decide (room ≤ 65536) = true := by rw [decide_eq_true_iff]; omega
      have d2 : decide (8 < n) = true := by rw [decide_eq_true_iff]; omega
      have d3 : decide (n ≤ 64) = true := by rw [decide_eq_true_iff]; omega
      have d4 : decide (n < 1) = false := by rw [decide_eq_false_iff_not]; omega
      have d5 : decide (room < 1) = false := by rw [decide_eq_false_iff_not]; omega
      have d6 : decide (64 < n) = false := by rw [decide_eq_false_iff_not]; omega
      have d7 : decide (65536 < room) = false := by rw [decide_eq_false_iff_not]; omega
      go_enter Try.func3, Try.ntmps3
      go_wp2_with fail
      refine hfew.mono ?_
      rintro e w1 ⟨t, rfl, ht, hb1⟩
      have H1 := Lib.hid hb1
      clear hfew hb1
      cases t with
      | false =>
        go_wp2_with fail
        refine (awake_any _).mono ?_
        rintro e w2 ⟨rfl, hb2⟩
        have H2 := Lib.hid hb2
        clear hb2
        go_wp2_with fail
        go_ret
        exact ⟨rfl, H1.out.trans (H2.out.mono H1.out.size)⟩
      | true =>
        go_wp2_with fail
        refine (awake_any _).mono ?_
        rintro e w2 ⟨rfl, hb2⟩
        have H2 := Lib.hid hb2
        clear hb2
        go_wp2_with fail
        go_ret
        exact ⟨rfl, H1.out.trans (H2.out.mono H1.out.size)⟩
    · have d0 : decide (2000 < room) = true := by rw [decide_eq_true_iff]; omega
      have d1 : decide (room ≤ 65536) = true := by rw [decide_eq_true_iff]; omega
      have d2 : decide (8 < n) = true := by rw [decide_eq_true_iff]; omega
      have d3 : decide (n ≤ 64) = false := by rw [decide_eq_false_iff_not]; omega
      have d4 : decide (n < 1) = false := by rw [decide_eq_false_iff_not]; omega
      have d5 : decide (room < 1) = false := by rw [decide_eq_false_iff_not]; omega
      have d6 : decide (64 < n) = true := by rw [decide_eq_true_iff]; omega
      have d7 : decide (65536 < room) = false := by rw [decide_eq_false_iff_not]; omega
      go_enter Try.func3, Try.ntmps3
      go_wp2_with fail
      refine hfew.mono ?_
      rintro e w1 ⟨t, rfl, ht, hb1⟩
      have H1 := Lib.hid hb1
      clear hfew hb1
      cases t with
      | false =>
        go_wp2_with fail
        refine (awake_any _).mono ?_
        rintro e w2 ⟨rfl, hb2⟩
        have H2 := Lib.hid hb2
        clear hb2
        go_wp2_with fail
        go_ret
        exact ⟨rfl, H1.out.trans (H2.out.mono H1.out.size)⟩
      | true =>
        go_wp2_with fail
        refine (awake_any _).mono ?_
        rintro e w2 ⟨rfl, hb2⟩
        have H2 := Lib.hid hb2
        clear hb2
        go_wp2_with fail
        go_ret
        exact ⟨rfl, H1.out.trans (H2.out.mono H1.out.size)⟩
  · rcases (by omega : n < 1 ∨ (1 ≤ n ∧ n ≤ 8) ∨ (9 ≤ n ∧ n ≤ 64) ∨ 65 ≤ n) with hn | hn | hn | hn
    · have d0 : decide (2000 < room) = true := by rw [decide_eq_true_iff]; omega
      have d1 : decide (room ≤ 65536) = false := by rw [decide_eq_false_iff_not]; omega
      have d2 : decide (8 < n) = false := by rw [decide_eq_false_iff_not]; omega
      have d3 : decide (n ≤ 64) = true := by rw [decide_eq_true_iff]; omega
      have d4 : decide (n < 1) = true := by rw [decide_eq_true_iff]; omega
      have d5 : decide (room < 1) = false := by rw [decide_eq_false_iff_not]; omega
      have d6 : decide (64 < n) = false := by rw [decide_eq_false_iff_not]; omega
      have d7 : decide (65536 < room) = true := by rw [decide_eq_true_iff]; omega
      go_enter Try.func3, Try.ntmps3
      go_wp2_with fail
      refine hfew.mono ?_
      rintro e w1 ⟨t, rfl, ht, hb1⟩
      have H1 := Lib.hid hb1
      clear hfew hb1
      cases t with
      | false =>
        go_wp2_with fail
        refine (awake_any _).mono ?_
        rintro e w2 ⟨rfl, hb2⟩
        have H2 := Lib.hid hb2
        clear hb2
        go_wp2_with fail
        go_ret
        exact ⟨rfl, H1.out.trans (H2.out.mono H1.out.size)⟩
      | true =>
        go_wp2_with fail
        refine (new_bad _ _ (by omega) _).mono ?_
        rintro e w2 ⟨rfl, rfl⟩
        go_wp2_with fail
        refine (awake_any _).mono ?_
        rintro e w2 ⟨rfl, hb2⟩
        have H2 := Lib.hid hb2
        clear hb2
        go_wp2_with fail
        go_ret
        exact ⟨rfl, H1.out.trans (H2.out.mono H1.out.size)⟩
    · have d0 : decide (2000 < room) = true := by rw [decide_eq_true_iff]; omega
      have d1 : decide (room ≤ 65536) = false := by rw [decide_eq_false_iff_not]; omega
      have d2 : decide (8 < n) = false := by rw [decide_eq_false_iff_not]; omega
      have d3 : decide (n ≤ 64) = true := by rw [decide_eq_true_iff]; omega
      have d4 : decide (n < 1) = false := by rw [decide_eq_false_iff_not]; omega
      have d5 : decide (room < 1) = false := by rw [decide_eq_false_iff_not]; omega
      have d6 : decide (64 < n) = false := by rw [decide_eq_false_iff_not]; omega
      have d7 : decide (65536 < room) = true := by rw [decide_eq_true_iff]; omega
      go_enter Try.func3, Try.ntmps3
      go_wp2_with fail
      refine hfew.mono ?_
      rintro e w1 ⟨t, rfl, ht, hb1⟩
      have H1 := Lib.hid hb1
      clear hfew hb1
      cases t with
      | false =>
        go_wp2_with fail
        refine (awake_any _).mono ?_
        rintro e w2 ⟨rfl, hb2⟩
        have H2 := Lib.hid hb2
        clear hb2
        go_wp2_with fail
        go_ret
        exact ⟨rfl, H1.out.trans (H2.out.mono H1.out.size)⟩
      | true =>
        go_wp2_with fail
        refine (new_bad _ _ (by omega) _).mono ?_
        rintro e w2 ⟨rfl, rfl⟩
        go_wp2_with fail
        refine (awake_any _).mono ?_
        rintro e w2 ⟨rfl, hb2⟩
        have H2 := Lib.hid hb2
        clear hb2
        go_wp2_with fail
        go_ret
        exact ⟨rfl, H1.out.trans (H2.out.mono H1.out.size)⟩
    · have d0 : decide (2000 < room) = true := by rw [decide_eq_true_iff]; omega
      have d1 : decide (room ≤ 65536) = false := by rw [decide_eq_false_iff_not]; omega
      have d2 : decide (8 < n) = true := by rw [decide_eq_true_iff]; omega
      have d3 : decide (n ≤ 64) = true := by rw [decide_eq_true_iff]; omega
      have d4 : decide (n < 1) = false := by rw [decide_eq_false_iff_not]; omega
      have d5 : decide (room < 1) = false := by rw [decide_eq_false_iff_not]; omega
      have d6 : decide (64 < n) = false := by rw [decide_eq_false_iff_not]; omega
      have d7 : decide (65536 < room) = true := by rw [decide_eq_true_iff]; omega
      go_enter Try.func3, Try.ntmps3
      go_wp2_with fail
      refine hfew.mono ?_
      rintro e w1 ⟨t, rfl, ht, hb1⟩
      have H1 := Lib.hid hb1
      clear hfew hb1
      cases t with
      | false =>
        go_wp2_with fail
        refine (awake_any _).mono ?_
        rintro e w2 ⟨rfl, hb2⟩
        have H2 := Lib.hid hb2
        clear hb2
        go_wp2_with fail
        go_ret
        exact ⟨rfl, H1.out.trans (H2.out.mono H1.out.size)⟩
      | true =>
        go_wp2_with fail
        refine (awake_any _).mono ?_
        rintro e w2 ⟨rfl, hb2⟩
        have H2 := Lib.hid hb2
        clear hb2
        go_wp2_with fail
        go_ret
        exact ⟨rfl, H1.out.trans (H2.out.mono H1.out.size)⟩
    · have d0 : decide (2000 < room) = true := by rw [decide_eq_true_iff]; omega
      have d1 : decide (room ≤ 65536) = false := by rw [decide_eq_false_iff_not]; omega
      have d2 : decide (8 < n) = true := by rw [decide_eq_true_iff]; omega
      have d3 : decide (n ≤ 64) = false := by rw [decide_eq_false_iff_not]; omega
      have d4 : decide (n < 1) = false := by rw [decide_eq_false_iff_not]; omega
      have d5 : decide (room < 1) = false := by rw [decide_eq_false_iff_not]; omega
      have d6 : decide (64 < n) = true := by rw [decide_eq_true_iff]; omega
      have d7 : decide (65536 < room) = true := by rw [decide_eq_true_iff]; omega
      go_enter Try.func3, Try.ntmps3
      go_wp2_with fail
      refine hfew.mono ?_
      rintro e w1 ⟨t, rfl, ht, hb1⟩
      have H1 := Lib.hid hb1
      clear hfew hb1
      cases t with
      | false =>
        go_wp2_with fail
        refine (awake_any _).mono ?_
        rintro e w2 ⟨rfl, hb2⟩
        have H2 := Lib.hid hb2
        clear hb2
        go_wp2_with fail
        go_ret
        exact ⟨rfl, H1.out.trans (H2.out.mono H1.out.size)⟩
      | true =>
        go_wp2_with fail
        refine (new_bad _ _ (by omega) _).mono ?_
        rintro e w2 ⟨rfl, rfl⟩
        go_wp2_with fail
        refine (awake_any _).mono ?_
        rintro e w2 ⟨rfl, hb2⟩
        have H2 := Lib.hid hb2
        clear hb2
        go_wp2_with fail
        go_ret
        exact ⟨rfl, H1.out.trans (H2.out.mono H1.out.size)⟩

end Go.Proofs.Ytefpfedpgedloaa

namespace Go.Proofs.Ytefpfedpgedloaa.diskPlaysLaw
open Go.ChangeShapes Go.WideShapes Go.ChangeAt Go.RowKit
open Go.ChangeMaps (open_string shut_string)

theorem own : ownKnob Try.prog.godebug = none := by kernel_rfl
set_option maxRecDepth 100000 in
theorem lifted (os : Os) (started : os.Started) (H : Type) (enc : TypeId × Value → H) :
    ReturnsInHanded {} Try.checked os 3 .any (Rows.diskPlaysSpec.pre6 enc Try.prog Try.f3 Rows.diskPlaysRow.domain false) (Rows.diskPlaysSpec.post enc Try.prog Try.f3 false true false false) := by
  refine returnsInHanded_of_change (C := Try.checked) own started (by kernel_rfl) Try.func3
    (ChangeSpec.witness6 (enc := enc) (C := Try.checked) false ⟨#[], #[.int .i64 0, .int .i64 0, .slice none 0 0], []⟩ 8 (by kernel_rfl) (by kernel_rfl) (by kernel_rfl) (by kernel_rfl)) ?_
  intro W base args ds gs before hval0 hW hcnd _
  have hval : ∀ (j : Nat) t v, Try.f3.params[j]? = some t → args[j]? = some v → Value.okWide Try.prog W .any base t v := hval0
  have hW' := hW
  obtain ⟨p, q, hA0, hV, rfl, hfz, hnd⟩ := hW
  have hA : DataW.TrodAll enc Try.prog W 0 (fun _ => true) true Try.f3.params.toList args.toList ds p := hA0
  rw [Try.params3] at hA hval
  obtain ⟨v0, vs0, d0, ds0, p0, q0, hargs, rfl, rfl, h0, r0⟩ := trodAll_cons hA
  obtain ⟨v1, vs1, d1, ds1, p1, q1, rfl, rfl, rfl, h1, r1⟩ := trodAll_cons r0
  obtain ⟨v2, vs2, d2, ds2, p2, q2, rfl, rfl, rfl, h2, r2⟩ := trodAll_cons r1
  obtain ⟨rfl, rfl, rfl⟩ := trodAll_nil r2
  obtain rfl : args = #[v0, v1, v2] := by cases args; simp_all
  obtain ⟨rfl, rfl⟩ := trodVars_none hV
  obtain ⟨n0, rfl, rfl, rfl, ws0⟩ := open_int Try.underlying3 (hval 0 3 v0 rfl rfl) h0
  have hbd0 := ws0
  simp only [Lit.wf, Bool.and_eq_true, decide_eq_true_eq] at hbd0
  obtain ⟨n1, rfl, rfl, rfl, ws1⟩ := open_int Try.underlying3 (hval 1 3 v1 rfl rfl) h1
  have hbd1 := ws1
  simp only [Lit.wf, Bool.and_eq_true, decide_eq_true_eq] at hbd1
  obtain ⟨a2, len2, cap2, rfl⟩ := okWide_slice Try.underlying22 (hval 2 22 v2 rfl rfl)
  have hk2 := h2
  obtain ⟨fuel2, hf2⟩ := h2
  clear hA0 hval0
  simp only [List.append_nil, List.nil_append] at hW'
  have hlt2 : ∀ x ∈ p2, x.block < W.heap.size := fun x hx => by simpa using hW'.lt x (by simp [hx])
  obtain ⟨ss2, hlen2, hmax2, hT2⟩ := acts_of hf2 hlt2
  subst hlen2
  refine (plays_law n0 hbd0.1 hbd0.2 n1 hbd1.1 hbd1.2 ss2 a2 cap2 hT2 hmax2 (w := W)).mono fun e W' ⟨he, hb⟩ => ?_
  subst he
  exact ⟨_, rfl, _, _, _, [], _, [], hW', trodAll_cons_mk (shut_bool Try.underlying4 _) trodAll_mk0, (trodAll_cons_mk (shut_int Try.underlying3 ws0) (trodAll_cons_mk (shut_int Try.underlying3 ws1) (trodAll_cons_mk (Below.trod laidOut (by kernel_rfl) (of_decide_eq_true (by kernel_rfl)) hk2 hb hlt2) trodAll_mk0))), rfl, hb.frame _, fun h => by cases h⟩
theorem over : Rows.diskPlaysRow.holds Try.pinned (OpenSpec.ofChange Rows.diskPlaysSpec) :=
  OpenClaim.holds_of_wide 3 Try.f3 rfl rfl rfl rfl rfl rfl rfl ⟨rfl, rfl, rfl, rfl, rfl⟩ rfl rfl rfl rfl rfl (by kernel_rfl) Try.func3 (by kernel_rfl)
    (of_decide_eq_true (by kernel_rfl)) (by unfold Func.isWrapper; first | (rw [if_pos (by decide +kernel)]; kernel_rfl) | (rw [if_neg (by decide +kernel)]; exact ⟨rfl, rfl⟩))
    (fun os started H enc _ => lifted os started H enc)
end Go.Proofs.Ytefpfedpgedloaa.diskPlaysLaw

namespace Go.Proofs.Ytefpfedpgedloaa
theorem diskPlays_said : Rows.DiskPlaysSaid := diskPlaysLaw.over
end Go.Proofs.Ytefpfedpgedloaa
