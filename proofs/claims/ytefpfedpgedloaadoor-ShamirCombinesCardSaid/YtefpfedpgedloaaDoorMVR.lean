/- Merged by program: lockboxref09.Check, Alike, Sorted: shares as the reference tells them. | lockboxref09.Check, Alike: may shares be, and are they of one secret? | lockboxref09.At, Recover: what all bytes are at a place. -/
import Derived.Test.YtefpfedpgedloaaDoorVRefs
import Derived.Test.YtefpfedpgedloaaDoorVAlike
import Derived.Deep.RegionLaw
import Derived.Test.YtefpfedpgedloaaDoorVAlike2
import Derived.Test.YtefpfedpgedloaaDoorVCombine
namespace Go.Proofs.YtefpfedpgedloaaDoor
open Go.RowKit
open Gf

/-- The shares at the first so many places. -/
def srt (l : List Shr) (k : Nat) : List Shr := (List.range k).flatMap fun (j : Nat) => l.filter fun s => decide (s.x = (j : Int) + 1)
theorem srt_succ (l : List Shr) (k : Nat) : srt l (k + 1) = srt l k ++ l.filter (fun s => decide (s.x = (k : Int) + 1)) := by
  unfold srt; rw [List.range_succ, List.flatMap_append]; simp
theorem srt_perm (l : List Shr) : ∀ k : Nat, (srt l k).Perm (l.filter fun s => decide (1 ≤ s.x ∧ s.x ≤ k))
  | 0 => by
    have : l.filter (fun s => decide (1 ≤ s.x ∧ s.x ≤ ((0 : Nat) : Int))) = [] := by
      rw [List.filter_eq_nil_iff]; intro s _; simp only [decide_eq_true_eq]; omega
    rw [this]; exact List.Perm.refl _
  | k + 1 => by
    rw [srt_succ]
    have p := (srt_perm l k).append_right (l.filter fun s => decide (s.x = (k : Int) + 1))
    have q := List.filter_append_perm (fun s : Shr => decide (s.x ≤ (k : Int))) (l.filter fun s => decide (1 ≤ s.x ∧ s.x ≤ ((k + 1 : Nat) : Int)))
    rw [List.filter_filter, List.filter_filter] at q
    have e1 : l.filter (fun s => decide (s.x ≤ (k : Int)) && decide (1 ≤ s.x ∧ s.x ≤ ((k + 1 : Nat) : Int))) = l.filter (fun s => decide (1 ≤ s.x ∧ s.x ≤ (k : Int))) :=
      List.filter_congr fun s _ => by rw [← Bool.decide_and]; apply decide_eq_decide.2; omega
    have e2 : l.filter (fun s => (!decide (s.x ≤ (k : Int))) && decide (1 ≤ s.x ∧ s.x ≤ ((k + 1 : Nat) : Int))) = l.filter (fun s => decide (s.x = (k : Int) + 1)) :=
      List.filter_congr fun s _ => by rw [← decide_not, ← Bool.decide_and]; apply decide_eq_decide.2; omega
    rw [e1, e2] at q
    exact p.trans q
theorem srt_le (l : List Shr) (k : Nat) : (srt l k).length ≤ l.length := by
  rw [(srt_perm l k).length_eq]; exact List.length_filter_le _ _
theorem srt_whole {n : Int} {m : Nat} {l : List Shr} (h : Alk n m l) : (srt l 255).Perm l := by
  have p := srt_perm l 255
  have e : l.filter (fun s => decide (1 ≤ s.x ∧ s.x ≤ ((255 : Nat) : Int))) = l := by
    rw [List.filter_eq_self]
    intro s hs
    have := (okS_iff.1 (h.ok s hs)).1
    simp only [decide_eq_true_eq]; omega
  rwa [e] at p
/-- The same, with the first so many of those at the next place. -/
def srtI (l : List Shr) (k i : Nat) : List Shr := srt l k ++ (l.take i).filter fun s => decide (s.x = (k : Int) + 1)
theorem srtI_zero (l : List Shr) (k : Nat) : srtI l k 0 = srt l k := by unfold srtI; simp
theorem srtI_end (l : List Shr) (k : Nat) : srtI l k l.length = srt l (k + 1) := by unfold srtI; rw [List.take_length, srt_succ]
theorem srtI_le (l : List Shr) (k i : Nat) : (srtI l k i).length ≤ 2 * l.length := by
  unfold srtI
  have h1 := srt_le l k
  have h2 := List.length_filter_le (fun s : Shr => decide (s.x = (k : Int) + 1)) (l.take i)
  rw [List.length_take] at h2
  rw [List.length_append]; omega
theorem srtI_in {l : List Shr} {k i : Nat} {s : Shr} (hs : l[i]? = some s) (hx : s.x = (k : Int) + 1) : srtI l k (i + 1) = srtI l k i ++ [s] := by
  unfold srtI
  rw [List.take_add_one, hs, Option.toList_some, List.filter_append, List.append_assoc]
  congr 2
  simp [hx]
theorem srtI_out {l : List Shr} {k i : Nat} {s : Shr} (hs : l[i]? = some s) (hx : ¬ s.x = (k : Int) + 1) : srtI l k (i + 1) = srtI l k i := by
  unfold srtI
  rw [List.take_add_one, hs, Option.toList_some, List.filter_append]
  congr 1
  simp [hx]
set_option maxRecDepth 100000 in
set_option maxHeartbeats 1000000 in
theorem rsorted_any {w : World} {a0 : Option Addr} {l : List Shr} (hT : SharesAt w a0 l) (hl : l.length ≤ 1000) (cap : Nat) :
    Calls Tryd.prog 26 #[.slice a0 l.length cap] w fun e w' => ∃ (a : Option Addr) (cp : Nat), e = .returned (.slice a (srt l 255).length cp) ∧ OwnS 44 w.heap.size w' a cp (srt l 255) ∧ Below w.heap.size w w' := by
  obtain ⟨n, hN⟩ : ∃ n, n = l.length := ⟨_, rfl⟩
  have H := Lib.hid (And.intro hT hN)
  rw [← hN] at hl ⊢
  clear hT hN
  go_enter Tryd.func26, Tryd.ntmps26
  go_wp2_with fail
  go_loopw [3, 4, 5] (fun v x _ wr => ∃ (k q : Nat) (ad : Option Addr) (cp : Nat), k ≤ 255 ∧ x = .int .i64 ((k : Int) + 1) ∧ v = .slice ad q cp ∧ q = (srt l k).length ∧ OwnS 44 w.heap.size wr ad cp (srt l k) ∧ Below w.heap.size w wr) (fun _ x _ _ => 256 - (intOf x).toNat)
  case atStart => exact ⟨0, 0, none, 0, by omega, rfl, rfl, rfl, Own.nil _ _ _ _, Below.refl _ _⟩
  case round =>
    obtain ⟨k, q, ad, cp, hk, rfl, rfl, hq, ho, hb⟩ := hrel
    by_cases hlt : k < 255
    · have k7 : decide ((k : Int) + 1 ≤ 255) = true := decide_eq_true (by omega)
      have HO := Lib.hid (And.intro hq (And.intro ho hb))
      clear hq ho hb
      go_wp2_with fail
      go_loopw [3, 5] (fun v i W => ∃ (j p : Nat) (ay : Option Addr) (cy : Nat), j ≤ n ∧ i = .int .i64 (j : Int) ∧ v = .slice ay p cy ∧ p = (srtI l k j).length ∧ OwnS 44 w.heap.size W ay cy (srtI l k j) ∧ Below w.heap.size w W) (fun _ i _ => n - (intOf i).toNat)
      case atStart => exact ⟨0, q, ad, cp, by omega, rfl, rfl, by rw [srtI_zero]; exact HO.out.1, by rw [srtI_zero]; exact HO.out.2.1, HO.out.2.2⟩
      case round =>
        clear HO
        obtain ⟨j, p, ay, cy, hj, rfl, rfl, hp, ho, hb⟩ := hrel
        by_cases hjn : j < n
        · obtain ⟨s, hs⟩ : ∃ s, l[j]? = some s := ⟨_, List.getElem?_eq_getElem (by have := H.out.2; omega)⟩
          obtain ⟨b, off, rfl, hbl, c0, c1, c2⟩ := (H.out.1.below hb) j s hs
          have hsz := hb.size
          have hp2 : p ≤ 2000 := by have := srtI_le l k j; have := H.out.2; omega
          by_cases hx : s.x = (k : Int) + 1
          · have hxb : (s.x == (k : Int) + 1) = true := by rw [hx]; simp
            have hsn := srtI_in hs hx
            have HS := Lib.hid (And.intro ho (And.intro hb (And.intro hp.symm hsn)))
            clear ho hb hp hsn hx hs
            go_wp2_with (at_builtin; (refine wpList_append_rsh (w0 := w) rfl (.tmp 23) (.tmp 28) rfl (OwnS.below HS.out.1 ((Below.refl _ _).alloc (Nat.le_refl _) _)) p HS.out.2.2.1 rfl wr.heap.size 1 s rfl (heap_alloc_new wr _) (by omega) (by simp; omega) (HS.out.2.1.alloc hsz _) ?_; intro g1 cp1 w3 hown1 hb1' _; have H3 := Lib.hid (And.intro hown1 hb1'); clear hown1 hb1'))
            go_roundw
            case rel => exact ⟨j + 1, p + 1, _, cp1, by omega, by go_num, rfl, by rw [HS.out.2.2.2, List.length_append, HS.out.2.2.1]; rfl, by rw [HS.out.2.2.2]; exact H3.out.1, H3.out.2⟩
            case measure => simp [intOf]; omega
          · have hxb : (s.x == (k : Int) + 1) = false := by rw [beq_eq_false_iff_ne]; exact hx
            have hsn := srtI_out hs hx
            have HS := Lib.hid (And.intro ho (And.intro hb (And.intro hp hsn)))
            clear ho hb hp hsn hx hs
            go_wp2_with fail
            go_roundw
            case rel => exact ⟨j + 1, p, ay, cy, by omega, by go_num, rfl, by rw [HS.out.2.2.2]; exact HS.out.2.2.1, by rw [HS.out.2.2.2]; exact HS.out.1, HS.out.2.1⟩
            case measure => simp [intOf]; omega
        · obtain rfl : j = n := by omega
          have e := srtI_end l k
          rw [← H.out.2] at e
          rw [e] at hp ho
          have HS := Lib.hid (And.intro hp (And.intro ho hb))
          clear hp ho hb e
          go_wp2_with fail
          go_roundw
          case rel => exact ⟨k + 1, p, ay, cy, by omega, by go_num, rfl, HS.out.1, HS.out.2.1, HS.out.2.2⟩
          case measure => simp [intOf]; omega
    · obtain rfl : k = 255 := by omega
      have HO := Lib.hid (And.intro hq (And.intro ho hb))
      clear hq ho hb
      go_wp2_with fail
      go_ret
      exact ⟨ad, cp, by rw [HO.out.1]; rfl, HO.out.2.1, HO.out.2.2⟩
end Go.Proofs.YtefpfedpgedloaaDoor
namespace Go.Proofs.YtefpfedpgedloaaDoor
open Go.RowKit
open Gf

set_option maxRecDepth 100000 in
set_option maxHeartbeats 1000000 in
theorem rcheck_any (s : Shr) (w : World) :
    Calls Tryd.prog 33 #[.agg #[.int .i64 s.x, .int .i64 s.need, .string s.y]] w fun e w' => e = .returned (.bool (okS s)) ∧ Below w.heap.size w w' := by
  have hb0 : Below w.heap.size w (w.alloc (.cells #[.int .i64 s.x, .int .i64 s.need, .string s.y] 44)) := (Below.refl _ _).alloc (Nat.le_refl _) _
  have hg := heap_alloc_new w (.cells #[.int .i64 s.x, .int .i64 s.need, .string s.y] 44)
  have c0 : (w.alloc (.cells #[.int .i64 s.x, .int .i64 s.need, .string s.y] 44)).cell? ⟨w.heap.size, 0, none⟩ = some (.int .i64 s.x) := by rw [cell_of_row _ _ _ _ _ _ hg]; rfl
  have c1 : (w.alloc (.cells #[.int .i64 s.x, .int .i64 s.need, .string s.y] 44)).cell? ⟨w.heap.size, 1, none⟩ = some (.int .i64 s.need) := by rw [cell_of_row _ _ _ _ _ _ hg]; rfl
  have c2 : (w.alloc (.cells #[.int .i64 s.x, .int .i64 s.need, .string s.y] 44)).cell? ⟨w.heap.size, 2, none⟩ = some (.string s.y) := by rw [cell_of_row _ _ _ _ _ _ hg]; rfl
  obtain ⟨R, hR⟩ : ∃ R, R = okS s := ⟨_, rfl⟩
  rw [← hR]
  have H := Lib.hid hb0
  clear hb0 hg
  by_cases h1 : 1 ≤ s.x
  rotate_left
  · obtain rfl : R = false := by rw [hR, ← Bool.not_eq_true, okS_iff]; omega
    clear hR
    have k1 : decide (1 ≤ s.x) = false := decide_eq_false h1
    go_enter Tryd.func33, Tryd.ntmps33
    go_wp2_with fail
    go_ret
    exact ⟨rfl, H.out⟩
  by_cases h2 : s.x ≤ 255
  rotate_left
  · obtain rfl : R = false := by rw [hR, ← Bool.not_eq_true, okS_iff]; omega
    clear hR
    have k1 : decide (1 ≤ s.x) = true := decide_eq_true h1
    have k2 : decide (s.x ≤ 255) = false := decide_eq_false h2
    go_enter Tryd.func33, Tryd.ntmps33
    go_wp2_with fail
    go_ret
    exact ⟨rfl, H.out⟩
  by_cases h3 : 1 ≤ s.need
  rotate_left
  · obtain rfl : R = false := by rw [hR, ← Bool.not_eq_true, okS_iff]; omega
    clear hR
    have k1 : decide (1 ≤ s.x) = true := decide_eq_true h1
    have k2 : decide (s.x ≤ 255) = true := decide_eq_true h2
    have k3 : decide (1 ≤ s.need) = false := decide_eq_false h3
    go_enter Tryd.func33, Tryd.ntmps33
    go_wp2_with fail
    go_ret
    exact ⟨rfl, H.out⟩
  by_cases h4 : s.need ≤ 255
  rotate_left
  · obtain rfl : R = false := by rw [hR, ← Bool.not_eq_true, okS_iff]; omega
    clear hR
    have k1 : decide (1 ≤ s.x) = true := decide_eq_true h1
    have k2 : decide (s.x ≤ 255) = true := decide_eq_true h2
    have k3 : decide (1 ≤ s.need) = true := decide_eq_true h3
    have k4 : decide (s.need ≤ 255) = false := decide_eq_false h4
    go_enter Tryd.func33, Tryd.ntmps33
    go_wp2_with fail
    go_ret
    exact ⟨rfl, H.out⟩
  by_cases h5 : (1 : Int) ≤ s.y.size
  rotate_left
  · obtain rfl : R = false := by rw [hR, ← Bool.not_eq_true, okS_iff]; omega
    clear hR
    have k1 : decide (1 ≤ s.x) = true := decide_eq_true h1
    have k2 : decide (s.x ≤ 255) = true := decide_eq_true h2
    have k3 : decide (1 ≤ s.need) = true := decide_eq_true h3
    have k4 : decide (s.need ≤ 255) = true := decide_eq_true h4
    have k5 : decide ((1 : Int) ≤ s.y.size) = false := decide_eq_false h5
    go_enter Tryd.func33, Tryd.ntmps33
    go_wp2_with fail
    go_ret
    exact ⟨rfl, H.out⟩
  by_cases h6 : (s.y.size : Int) ≤ 64
  rotate_left
  · obtain rfl : R = false := by rw [hR, ← Bool.not_eq_true, okS_iff]; omega
    clear hR
    have k1 : decide (1 ≤ s.x) = true := decide_eq_true h1
    have k2 : decide (s.x ≤ 255) = true := decide_eq_true h2
    have k3 : decide (1 ≤ s.need) = true := decide_eq_true h3
    have k4 : decide (s.need ≤ 255) = true := decide_eq_true h4
    have k5 : decide ((1 : Int) ≤ s.y.size) = true := decide_eq_true h5
    have k6 : decide ((s.y.size : Int) ≤ 64) = false := decide_eq_false h6
    go_enter Tryd.func33, Tryd.ntmps33
    go_wp2_with fail
    go_ret
    exact ⟨rfl, H.out⟩
  obtain rfl : R = true := by rw [hR, okS_iff]; omega
  clear hR
  have k1 : decide (1 ≤ s.x) = true := decide_eq_true h1
  have k2 : decide (s.x ≤ 255) = true := decide_eq_true h2
  have k3 : decide (1 ≤ s.need) = true := decide_eq_true h3
  have k4 : decide (s.need ≤ 255) = true := decide_eq_true h4
  have k5 : decide ((1 : Int) ≤ s.y.size) = true := decide_eq_true h5
  have k6 : decide ((s.y.size : Int) ≤ 64) = true := decide_eq_true h6
  go_enter Tryd.func33, Tryd.ntmps33
  go_wp2_with fail
  go_ret
  exact ⟨rfl, H.out⟩
/-- What the region reads. -/
def RaS (tb o k : Nat) (s s0 : Shr) (W : World) : Prop :=
  (W.cell? ⟨tb, o + k * 3, none⟩ = some (.int .i64 s.x) ∧ W.cell? ⟨tb, o + k * 3 + 1, none⟩ = some (.int .i64 s.need) ∧ W.cell? ⟨tb, o + k * 3 + 2, none⟩ = some (.string s.y)) ∧
    W.cell? ⟨tb, o + 1, none⟩ = some (.int .i64 s0.need) ∧ W.cell? ⟨tb, o + 2, none⟩ = some (.string s0.y)
set_option maxRecDepth 100000 in
set_option maxHeartbeats 1000000 in
theorem ralike_any {w : World} {a0 : Option Addr} {l : List Shr} (hT : SharesAt w a0 l) (hn : l.length ≤ 1000000) (cap : Nat) :
    Calls Tryd.prog 25 #[.slice a0 l.length cap] w fun e w' => e = .returned (.bool (alk l)) ∧ Below w.heap.size w w' := by
  obtain ⟨n, hN⟩ : ∃ n, n = l.length := ⟨_, rfl⟩
  obtain ⟨R, hR⟩ : ∃ R, R = alk l := ⟨_, rfl⟩
  rw [← hN] at hn ⊢
  rw [← hR]
  have H0 := Lib.hid (And.intro hT (And.intro hN hR))
  clear hT hN hR
  go_enter Tryd.func25, Tryd.ntmps25
  go_wp2_with fail
  go_loopw [3, 4] (fun i _ wr => ∃ k : Nat, k ≤ n ∧ i = .int .i64 (k : Int) ∧ AlkT (need0 l) (len0 l) l k ∧ Below w.heap.size w wr) (fun i _ _ => n - (intOf i).toNat)
  case atStart => exact ⟨0, by omega, rfl, AlkT.zero _ _ _, Below.refl _ _⟩
  case round =>
    obtain ⟨k, hk, rfl, hA, hb⟩ := hrel
    by_cases hlt : k < n
    · obtain ⟨s, hsk⟩ : ∃ s, l[k]? = some s := ⟨_, List.getElem?_eq_getElem (by have := H0.out.2.1; omega)⟩
      obtain ⟨s0, hs0⟩ : ∃ s0, l[0]? = some s0 := ⟨_, List.getElem?_eq_getElem (by have := H0.out.2.1; omega)⟩
      obtain ⟨tb, off, rfl, htb, c0, c1, c2⟩ := (H0.out.1.below hb) k s hsk
      obtain ⟨tb', off', e', -, -, d1, d2⟩ := (H0.out.1.below hb) 0 s0 hs0
      injection e' with e'
      injection e' with e1 e2 _
      subst e1 e2
      rw [Nat.zero_mul, Nat.add_zero] at d1 d2
      obtain ⟨hn0, hl0⟩ := head_need hs0
      have hF : ∀ W, Below wr.heap.size wr W → RaS tb off k s s0 W := fun W hW =>
        ⟨⟨(hW.cell (p := ⟨tb, off + k * 3, none⟩) htb).trans c0, (hW.cell (p := ⟨tb, off + k * 3 + 1, none⟩) htb).trans c1, (hW.cell (p := ⟨tb, off + k * 3 + 2, none⟩) htb).trans c2⟩, (hW.cell (p := ⟨tb, off + 1, none⟩) htb).trans d1, (hW.cell (p := ⟨tb, off + 2, none⟩) htb).trans d2⟩
      have hck := fun (W : World) => rcheck_any s W
      obtain ⟨ck, hckv⟩ : ∃ ck, ck = okS s := ⟨_, rfl⟩
      rw [← hckv] at hck
      have HK := Lib.hid (And.intro hF (And.intro hck (And.intro hckv (And.intro hsk (And.intro hA (And.intro hb (And.intro hn0 hl0)))))))
      have hn1 : 0 < n := by omega
      clear d1 d2 hF hck hA hb hn0 hl0 hckv c0 c1 c2 hs0
      cases ck with
      | false =>
        obtain rfl : R = false := by rw [H0.out.2.2]; exact alk_bad HK.out.2.2.2.1 (fun e => by have h1 := HK.out.2.2.1; rw [e.1] at h1; cases h1)
        go_upto_region 4 with fail
        have C := HK.out.1 wr.drew (Below.refl _ _).drew
        have hwd : Below wr.heap.size wr wr.drew := (Below.refl _ _).drew
        refine wp_region_held (S := RaS tb off k s s0) (by kernel_rfl) ?_
        change wpAnyH _ _ _ _ _ _ _ _ (World.drew _)
        generalize World.drew _ = wh at *
        refine wpAnyH_take (i := 0) (v := ?_) rfl (by kernel_rfl) (by kernel_rfl) (by kernel_rfl) (fun _ _ _ h => h) (Or.inl ⟨by kernel_rfl, ?_⟩) C ?_
        rotate_left
        · (intro W hS; obtain ⟨⟨g0, g1, g2⟩, g3, g4⟩ := hS; go_simp; try (with_reducible rfl))
        refine wpAnyH_take (i := 1) (v := ?_) rfl (by kernel_rfl) (by kernel_rfl) (by kernel_rfl) (fun _ _ _ h => h) (Or.inl ⟨by kernel_rfl, ?_⟩) C ?_
        rotate_left
        · (intro W hS; obtain ⟨⟨g0, g1, g2⟩, g3, g4⟩ := hS; go_simp; try (with_reducible rfl))
        refine wpAnyH_take (i := 2) (v := ?_) rfl (by kernel_rfl) (by kernel_rfl) (by kernel_rfl) (fun _ _ _ h => h) (Or.inl ⟨by kernel_rfl, ?_⟩) C ?_
        rotate_left
        · (intro W hS; obtain ⟨⟨g0, g1, g2⟩, g3, g4⟩ := hS; go_simp; try (with_reducible rfl))
        refine wpAnyH_take (i := 3) (v := ?_) rfl (by kernel_rfl) (by kernel_rfl) (by kernel_rfl) (fun _ _ _ h => h) (Or.inl ⟨by kernel_rfl, ?_⟩) C ?_
        rotate_left
        · (intro W hS; obtain ⟨⟨g0, g1, g2⟩, g3, g4⟩ := hS; go_simp; try (with_reducible rfl))
        refine wpAnyH_ready (rs := [4]) (by kernel_rfl) (by simp) ?_
        refine AllReadyH.cons rfl (fun K hK => ?_) AllReadyH.nil
        go_simp
        refine (HK.out.2.1 wh).mono ?_
        rintro e w6 ⟨rfl, hb6⟩
        have hwd6 := hwd.trans (hb6.mono hwd.size)
        have C := HK.out.1 w6 hwd6
        refine hK.out _ _ C (fun _ => ?_)
        clear hK K hb6 hwd
        refine wpAnyH_take (i := 5) (v := ?_) rfl (by kernel_rfl) (by kernel_rfl) (by kernel_rfl) (fun _ _ _ h => h) (Or.inl ⟨by kernel_rfl, ?_⟩) C ?_
        rotate_left
        · (intro W hS; obtain ⟨⟨g0, g1, g2⟩, g3, g4⟩ := hS; go_simp; try (with_reducible rfl))
        refine wpAnyH_take (i := 6) (v := ?_) rfl (by kernel_rfl) (by kernel_rfl) (by kernel_rfl) (fun _ _ _ h => h) (Or.inl ⟨by kernel_rfl, ?_⟩) C ?_
        rotate_left
        · (intro W hS; obtain ⟨⟨g0, g1, g2⟩, g3, g4⟩ := hS; go_simp; try (with_reducible rfl))
        refine wpAnyH_take (i := 7) (v := undef) rfl (by kernel_rfl) (by kernel_rfl) (by kernel_rfl) (fun _ _ _ h => h) (Or.inr ⟨by kernel_rfl, rfl⟩) C ?_
        refine wpAnyH_take (i := 8) (v := undef) rfl (by kernel_rfl) (by kernel_rfl) (by kernel_rfl) (fun _ _ _ h => h) (Or.inr ⟨by kernel_rfl, rfl⟩) C ?_
        refine wpAnyH_take (i := 9) (v := undef) rfl (by kernel_rfl) (by kernel_rfl) (by kernel_rfl) (fun _ _ _ h => h) (Or.inr ⟨by kernel_rfl, rfl⟩) C ?_
        refine wpAnyH_take (i := 10) (v := undef) rfl (by kernel_rfl) (by kernel_rfl) (by kernel_rfl) (fun _ _ _ h => h) (Or.inr ⟨by kernel_rfl, rfl⟩) C ?_
        refine wpAnyH_take (i := 11) (v := undef) rfl (by kernel_rfl) (by kernel_rfl) (by kernel_rfl) (fun _ _ _ h => h) (Or.inr ⟨by kernel_rfl, rfl⟩) C ?_
        refine wpAnyH_take (i := 12) (v := undef) rfl (by kernel_rfl) (by kernel_rfl) (by kernel_rfl) (fun _ _ _ h => h) (Or.inr ⟨by kernel_rfl, rfl⟩) C ?_
        refine wpAnyH_take (i := 13) (v := undef) rfl (by kernel_rfl) (by kernel_rfl) (by kernel_rfl) (fun _ _ _ h => h) (Or.inr ⟨by kernel_rfl, rfl⟩) C ?_
        refine wpAnyH_take (i := 14) (v := undef) rfl (by kernel_rfl) (by kernel_rfl) (by kernel_rfl) (fun _ _ _ h => h) (Or.inr ⟨by kernel_rfl, rfl⟩) C ?_
        refine wpAnyH_take (i := 15) (v := undef) rfl (by kernel_rfl) (by kernel_rfl) (by kernel_rfl) (fun _ _ _ h => h) (Or.inr ⟨by kernel_rfl, rfl⟩) C ?_
        refine wpAnyH_take (i := 16) (v := undef) rfl (by kernel_rfl) (by kernel_rfl) (by kernel_rfl) (fun _ _ _ h => h) (Or.inr ⟨by kernel_rfl, rfl⟩) C ?_
        refine wpAnyH_take (i := 17) (v := ?_) rfl (by kernel_rfl) (by kernel_rfl) (by kernel_rfl) (fun _ _ _ h => h) (Or.inl ⟨by kernel_rfl, ?_⟩) C ?_
        rotate_left
        · (intro W hS; obtain ⟨⟨g0, g1, g2⟩, g3, g4⟩ := hS; go_simp; try (with_reducible rfl))
        refine wpAnyH_take (i := 18) (v := ?_) rfl (by kernel_rfl) (by kernel_rfl) (by kernel_rfl) (fun _ _ _ h => h) (Or.inl ⟨by kernel_rfl, ?_⟩) C ?_
        rotate_left
        · (intro W hS; obtain ⟨⟨g0, g1, g2⟩, g3, g4⟩ := hS; go_simp; try (with_reducible rfl))
        refine wpAnyH_take (i := 19) (v := undef) rfl (by kernel_rfl) (by kernel_rfl) (by kernel_rfl) (fun _ _ _ h => h) (Or.inr ⟨by kernel_rfl, rfl⟩) C ?_
        refine wpAnyH_take (i := 20) (v := undef) rfl (by kernel_rfl) (by kernel_rfl) (by kernel_rfl) (fun _ _ _ h => h) (Or.inr ⟨by kernel_rfl, rfl⟩) C ?_
        refine wpAnyH_take (i := 21) (v := undef) rfl (by kernel_rfl) (by kernel_rfl) (by kernel_rfl) (fun _ _ _ h => h) (Or.inr ⟨by kernel_rfl, rfl⟩) C ?_
        refine wpAnyH_take (i := 22) (v := undef) rfl (by kernel_rfl) (by kernel_rfl) (by kernel_rfl) (fun _ _ _ h => h) (Or.inr ⟨by kernel_rfl, rfl⟩) C ?_
        refine wpAnyH_take (i := 23) (v := undef) rfl (by kernel_rfl) (by kernel_rfl) (by kernel_rfl) (fun _ _ _ h => h) (Or.inr ⟨by kernel_rfl, rfl⟩) C ?_
        refine wpAnyH_take (i := 24) (v := undef) rfl (by kernel_rfl) (by kernel_rfl) (by kernel_rfl) (fun _ _ _ h => h) (Or.inr ⟨by kernel_rfl, rfl⟩) C ?_
        refine wpAnyH_take (i := 25) (v := undef) rfl (by kernel_rfl) (by kernel_rfl) (by kernel_rfl) (fun _ _ _ h => h) (Or.inr ⟨by kernel_rfl, rfl⟩) C ?_
        refine wpAnyH_take (i := 26) (v := undef) rfl (by kernel_rfl) (by kernel_rfl) (by kernel_rfl) (fun _ _ _ h => h) (Or.inr ⟨by kernel_rfl, rfl⟩) C ?_
        refine wpAnyH_take (i := 27) (v := undef) rfl (by kernel_rfl) (by kernel_rfl) (by kernel_rfl) (fun _ _ _ h => h) (Or.inr ⟨by kernel_rfl, rfl⟩) C ?_
        refine wpAnyH_take (i := 28) (v := undef) rfl (by kernel_rfl) (by kernel_rfl) (by kernel_rfl) (fun _ _ _ h => h) (Or.inr ⟨by kernel_rfl, rfl⟩) C ?_
        refine wpAnyH_take (i := 29) (v := undef) rfl (by kernel_rfl) (by kernel_rfl) (by kernel_rfl) (fun _ _ _ h => h) (Or.inr ⟨by kernel_rfl, rfl⟩) C ?_
        refine wpAnyH_take (i := 30) (v := undef) rfl (by kernel_rfl) (by kernel_rfl) (by kernel_rfl) (fun _ _ _ h => h) (Or.inr ⟨by kernel_rfl, rfl⟩) C ?_
        refine wpAnyH_take (i := 31) (v := ?_) rfl (by kernel_rfl) (by kernel_rfl) (by kernel_rfl) (fun _ _ _ h => h) (Or.inl ⟨by kernel_rfl, ?_⟩) C ?_
        rotate_left
        · (intro W hS; obtain ⟨⟨g0, g1, g2⟩, g3, g4⟩ := hS; go_simp; try (with_reducible rfl))
        refine wpAnyH_done (by kernel_rfl) ?_ _
        go_simp
        have H6 := Lib.hid hwd6
        clear hwd6 C
        go_wp2_with fail
        go_ret
        exact ⟨rfl, HK.out.2.2.2.2.2.1.trans (H6.out.mono HK.out.2.2.2.2.2.1.size)⟩
      | true =>
        by_cases hnd : s.need = s0.need
        rotate_left
        · have n1 : (s.need != s0.need) = true := by simpa using hnd
          obtain rfl : R = false := by rw [H0.out.2.2]; exact alk_bad HK.out.2.2.2.1 (fun e => hnd (by rw [e.2.1, HK.out.2.2.2.2.2.2.1]))
          go_upto_region 4 with fail
          have C := HK.out.1 wr.drew (Below.refl _ _).drew
          have hwd : Below wr.heap.size wr wr.drew := (Below.refl _ _).drew
          refine wp_region_held (S := RaS tb off k s s0) (by kernel_rfl) ?_
          change wpAnyH _ _ _ _ _ _ _ _ (World.drew _)
          generalize World.drew _ = wh at *
          refine wpAnyH_take (i := 0) (v := ?_) rfl (by kernel_rfl) (by kernel_rfl) (by kernel_rfl) (fun _ _ _ h => h) (Or.inl ⟨by kernel_rfl, ?_⟩) C ?_
          rotate_left
          · (intro W hS; obtain ⟨⟨g0, g1, g2⟩, g3, g4⟩ := hS; go_simp; try (with_reducible rfl))
          refine wpAnyH_take (i := 1) (v := ?_) rfl (by kernel_rfl) (by kernel_rfl) (by kernel_rfl) (fun _ _ _ h => h) (Or.inl ⟨by kernel_rfl, ?_⟩) C ?_
          rotate_left
          · (intro W hS; obtain ⟨⟨g0, g1, g2⟩, g3, g4⟩ := hS; go_simp; try (with_reducible rfl))
          refine wpAnyH_take (i := 2) (v := ?_) rfl (by kernel_rfl) (by kernel_rfl) (by kernel_rfl) (fun _ _ _ h => h) (Or.inl ⟨by kernel_rfl, ?_⟩) C ?_
          rotate_left
          · (intro W hS; obtain ⟨⟨g0, g1, g2⟩, g3, g4⟩ := hS; go_simp; try (with_reducible rfl))
          refine wpAnyH_take (i := 3) (v := ?_) rfl (by kernel_rfl) (by kernel_rfl) (by kernel_rfl) (fun _ _ _ h => h) (Or.inl ⟨by kernel_rfl, ?_⟩) C ?_
          rotate_left
          · (intro W hS; obtain ⟨⟨g0, g1, g2⟩, g3, g4⟩ := hS; go_simp; try (with_reducible rfl))
          refine wpAnyH_ready (rs := [4]) (by kernel_rfl) (by simp) ?_
          refine AllReadyH.cons rfl (fun K hK => ?_) AllReadyH.nil
          go_simp
          refine (HK.out.2.1 wh).mono ?_
          rintro e w6 ⟨rfl, hb6⟩
          have hwd6 := hwd.trans (hb6.mono hwd.size)
          have C := HK.out.1 w6 hwd6
          refine hK.out _ _ C (fun _ => ?_)
          clear hK K hb6 hwd
          refine wpAnyH_take (i := 5) (v := ?_) rfl (by kernel_rfl) (by kernel_rfl) (by kernel_rfl) (fun _ _ _ h => h) (Or.inl ⟨by kernel_rfl, ?_⟩) C ?_
          rotate_left
          · (intro W hS; obtain ⟨⟨g0, g1, g2⟩, g3, g4⟩ := hS; go_simp; try (with_reducible rfl))
          refine wpAnyH_take (i := 6) (v := ?_) rfl (by kernel_rfl) (by kernel_rfl) (by kernel_rfl) (fun _ _ _ h => h) (Or.inl ⟨by kernel_rfl, ?_⟩) C ?_
          rotate_left
          · (intro W hS; obtain ⟨⟨g0, g1, g2⟩, g3, g4⟩ := hS; go_simp; try (with_reducible rfl))
          refine wpAnyH_take (i := 7) (v := ?_) rfl (by kernel_rfl) (by kernel_rfl) (by kernel_rfl) (fun _ _ _ h => h) (Or.inl ⟨by kernel_rfl, ?_⟩) C ?_
          rotate_left
          · (intro W hS; obtain ⟨⟨g0, g1, g2⟩, g3, g4⟩ := hS; go_simp; try (with_reducible rfl))
          refine wpAnyH_take (i := 8) (v := ?_) rfl (by kernel_rfl) (by kernel_rfl) (by kernel_rfl) (fun _ _ _ h => h) (Or.inl ⟨by kernel_rfl, ?_⟩) C ?_
          rotate_left
          · (intro W hS; obtain ⟨⟨g0, g1, g2⟩, g3, g4⟩ := hS; go_simp; try (with_reducible rfl))
          refine wpAnyH_take (i := 9) (v := ?_) rfl (by kernel_rfl) (by kernel_rfl) (by kernel_rfl) (fun _ _ _ h => h) (Or.inl ⟨by kernel_rfl, ?_⟩) C ?_
          rotate_left
          · (intro W hS; obtain ⟨⟨g0, g1, g2⟩, g3, g4⟩ := hS; go_simp; try (with_reducible rfl))
          refine wpAnyH_take (i := 10) (v := ?_) rfl (by kernel_rfl) (by kernel_rfl) (by kernel_rfl) (fun _ _ _ h => h) (Or.inl ⟨by kernel_rfl, ?_⟩) C ?_
          rotate_left
          · (intro W hS; obtain ⟨⟨g0, g1, g2⟩, g3, g4⟩ := hS; go_simp; try (with_reducible rfl))
          refine wpAnyH_take (i := 11) (v := ?_) rfl (by kernel_rfl) (by kernel_rfl) (by kernel_rfl) (fun _ _ _ h => h) (Or.inl ⟨by kernel_rfl, ?_⟩) C ?_
          rotate_left
          · (intro W hS; obtain ⟨⟨g0, g1, g2⟩, g3, g4⟩ := hS; go_simp; try (with_reducible rfl))
          refine wpAnyH_take (i := 12) (v := ?_) rfl (by kernel_rfl) (by kernel_rfl) (by kernel_rfl) (fun _ _ _ h => h) (Or.inl ⟨by kernel_rfl, ?_⟩) C ?_
          rotate_left
          · (intro W hS; obtain ⟨⟨g0, g1, g2⟩, g3, g4⟩ := hS; go_simp; try (with_reducible rfl))
          refine wpAnyH_take (i := 13) (v := ?_) rfl (by kernel_rfl) (by kernel_rfl) (by kernel_rfl) (fun _ _ _ h => h) (Or.inl ⟨by kernel_rfl, ?_⟩) C ?_
          rotate_left
          · (intro W hS; obtain ⟨⟨g0, g1, g2⟩, g3, g4⟩ := hS; go_simp; try (with_reducible rfl))
          refine wpAnyH_take (i := 14) (v := ?_) rfl (by kernel_rfl) (by kernel_rfl) (by kernel_rfl) (fun _ _ _ h => h) (Or.inl ⟨by kernel_rfl, ?_⟩) C ?_
          rotate_left
          · (intro W hS; obtain ⟨⟨g0, g1, g2⟩, g3, g4⟩ := hS; go_simp; try (with_reducible rfl))
          refine wpAnyH_take (i := 15) (v := ?_) rfl (by kernel_rfl) (by kernel_rfl) (by kernel_rfl) (fun _ _ _ h => h) (Or.inl ⟨by kernel_rfl, ?_⟩) C ?_
          rotate_left
          · (intro W hS; obtain ⟨⟨g0, g1, g2⟩, g3, g4⟩ := hS; go_simp; try (with_reducible rfl))
          refine wpAnyH_take (i := 16) (v := ?_) rfl (by kernel_rfl) (by kernel_rfl) (by kernel_rfl) (fun _ _ _ h => h) (Or.inl ⟨by kernel_rfl, ?_⟩) C ?_
          rotate_left
          · (intro W hS; obtain ⟨⟨g0, g1, g2⟩, g3, g4⟩ := hS; go_simp; try (with_reducible rfl))
          refine wpAnyH_take (i := 17) (v := ?_) rfl (by kernel_rfl) (by kernel_rfl) (by kernel_rfl) (fun _ _ _ h => h) (Or.inl ⟨by kernel_rfl, ?_⟩) C ?_
          rotate_left
          · (intro W hS; obtain ⟨⟨g0, g1, g2⟩, g3, g4⟩ := hS; go_simp; try (with_reducible rfl))
          refine wpAnyH_take (i := 18) (v := ?_) rfl (by kernel_rfl) (by kernel_rfl) (by kernel_rfl) (fun _ _ _ h => h) (Or.inl ⟨by kernel_rfl, ?_⟩) C ?_
          rotate_left
          · (intro W hS; obtain ⟨⟨g0, g1, g2⟩, g3, g4⟩ := hS; go_simp; try (with_reducible rfl))
          refine wpAnyH_take (i := 19) (v := undef) rfl (by kernel_rfl) (by kernel_rfl) (by kernel_rfl) (fun _ _ _ h => h) (Or.inr ⟨by kernel_rfl, rfl⟩) C ?_
          refine wpAnyH_take (i := 20) (v := undef) rfl (by kernel_rfl) (by kernel_rfl) (by kernel_rfl) (fun _ _ _ h => h) (Or.inr ⟨by kernel_rfl, rfl⟩) C ?_
          refine wpAnyH_take (i := 21) (v := undef) rfl (by kernel_rfl) (by kernel_rfl) (by kernel_rfl) (fun _ _ _ h => h) (Or.inr ⟨by kernel_rfl, rfl⟩) C ?_
          refine wpAnyH_take (i := 22) (v := undef) rfl (by kernel_rfl) (by kernel_rfl) (by kernel_rfl) (fun _ _ _ h => h) (Or.inr ⟨by kernel_rfl, rfl⟩) C ?_
          refine wpAnyH_take (i := 23) (v := undef) rfl (by kernel_rfl) (by kernel_rfl) (by kernel_rfl) (fun _ _ _ h => h) (Or.inr ⟨by kernel_rfl, rfl⟩) C ?_
          refine wpAnyH_take (i := 24) (v := undef) rfl (by kernel_rfl) (by kernel_rfl) (by kernel_rfl) (fun _ _ _ h => h) (Or.inr ⟨by kernel_rfl, rfl⟩) C ?_
          refine wpAnyH_take (i := 25) (v := undef) rfl (by kernel_rfl) (by kernel_rfl) (by kernel_rfl) (fun _ _ _ h => h) (Or.inr ⟨by kernel_rfl, rfl⟩) C ?_
          refine wpAnyH_take (i := 26) (v := undef) rfl (by kernel_rfl) (by kernel_rfl) (by kernel_rfl) (fun _ _ _ h => h) (Or.inr ⟨by kernel_rfl, rfl⟩) C ?_
          refine wpAnyH_take (i := 27) (v := undef) rfl (by kernel_rfl) (by kernel_rfl) (by kernel_rfl) (fun _ _ _ h => h) (Or.inr ⟨by kernel_rfl, rfl⟩) C ?_
          refine wpAnyH_take (i := 28) (v := undef) rfl (by kernel_rfl) (by kernel_rfl) (by kernel_rfl) (fun _ _ _ h => h) (Or.inr ⟨by kernel_rfl, rfl⟩) C ?_
          refine wpAnyH_take (i := 29) (v := undef) rfl (by kernel_rfl) (by kernel_rfl) (by kernel_rfl) (fun _ _ _ h => h) (Or.inr ⟨by kernel_rfl, rfl⟩) C ?_
          refine wpAnyH_take (i := 30) (v := undef) rfl (by kernel_rfl) (by kernel_rfl) (by kernel_rfl) (fun _ _ _ h => h) (Or.inr ⟨by kernel_rfl, rfl⟩) C ?_
          refine wpAnyH_take (i := 31) (v := ?_) rfl (by kernel_rfl) (by kernel_rfl) (by kernel_rfl) (fun _ _ _ h => h) (Or.inl ⟨by kernel_rfl, ?_⟩) C ?_
          rotate_left
          · (intro W hS; obtain ⟨⟨g0, g1, g2⟩, g3, g4⟩ := hS; go_simp; try (with_reducible rfl))
          refine wpAnyH_done (by kernel_rfl) ?_ _
          go_simp
          have H6 := Lib.hid hwd6
          clear hwd6 C
          go_wp2_with fail
          go_ret
          exact ⟨rfl, HK.out.2.2.2.2.2.1.trans (H6.out.mono HK.out.2.2.2.2.2.1.size)⟩
        have n1 : (s.need != s0.need) = false := by simpa using hnd
        have HN := Lib.hid hnd
        clear hnd
        by_cases hsz : s.y.size = s0.y.size
        rotate_left
        · have n2 : ((s.y.size : Int) != (s0.y.size : Int)) = true := by simp; omega
          obtain rfl : R = false := by rw [H0.out.2.2]; exact alk_bad HK.out.2.2.2.1 (fun e => hsz (by rw [e.2.2.1, HK.out.2.2.2.2.2.2.2]))
          go_upto_region 4 with fail
          have C := HK.out.1 wr.drew (Below.refl _ _).drew
          have hwd : Below wr.heap.size wr wr.drew := (Below.refl _ _).drew
          refine wp_region_held (S := RaS tb off k s s0) (by kernel_rfl) ?_
          change wpAnyH _ _ _ _ _ _ _ _ (World.drew _)
          generalize World.drew _ = wh at *
          refine wpAnyH_take (i := 0) (v := ?_) rfl (by kernel_rfl) (by kernel_rfl) (by kernel_rfl) (fun _ _ _ h => h) (Or.inl ⟨by kernel_rfl, ?_⟩) C ?_
          rotate_left
          · (intro W hS; obtain ⟨⟨g0, g1, g2⟩, g3, g4⟩ := hS; go_simp; try (with_reducible rfl))
          refine wpAnyH_take (i := 1) (v := ?_) rfl (by kernel_rfl) (by kernel_rfl) (by kernel_rfl) (fun _ _ _ h => h) (Or.inl ⟨by kernel_rfl, ?_⟩) C ?_
          rotate_left
          · (intro W hS; obtain ⟨⟨g0, g1, g2⟩, g3, g4⟩ := hS; go_simp; try (with_reducible rfl))
          refine wpAnyH_take (i := 2) (v := ?_) rfl (by kernel_rfl) (by kernel_rfl) (by kernel_rfl) (fun _ _ _ h => h) (Or.inl ⟨by kernel_rfl, ?_⟩) C ?_
          rotate_left
          · (intro W hS; obtain ⟨⟨g0, g1, g2⟩, g3, g4⟩ := hS; go_simp; try (with_reducible rfl))
          refine wpAnyH_take (i := 3) (v := ?_) rfl (by kernel_rfl) (by kernel_rfl) (by kernel_rfl) (fun _ _ _ h => h) (Or.inl ⟨by kernel_rfl, ?_⟩) C ?_
          rotate_left
          · (intro W hS; obtain ⟨⟨g0, g1, g2⟩, g3, g4⟩ := hS; go_simp; try (with_reducible rfl))
          refine wpAnyH_ready (rs := [4]) (by kernel_rfl) (by simp) ?_
          refine AllReadyH.cons rfl (fun K hK => ?_) AllReadyH.nil
          go_simp
          refine (HK.out.2.1 wh).mono ?_
          rintro e w6 ⟨rfl, hb6⟩
          have hwd6 := hwd.trans (hb6.mono hwd.size)
          have C := HK.out.1 w6 hwd6
          refine hK.out _ _ C (fun _ => ?_)
          clear hK K hb6 hwd
          refine wpAnyH_take (i := 5) (v := ?_) rfl (by kernel_rfl) (by kernel_rfl) (by kernel_rfl) (fun _ _ _ h => h) (Or.inl ⟨by kernel_rfl, ?_⟩) C ?_
          rotate_left
          · (intro W hS; obtain ⟨⟨g0, g1, g2⟩, g3, g4⟩ := hS; go_simp; try (with_reducible rfl))
          refine wpAnyH_take (i := 6) (v := ?_) rfl (by kernel_rfl) (by kernel_rfl) (by kernel_rfl) (fun _ _ _ h => h) (Or.inl ⟨by kernel_rfl, ?_⟩) C ?_
          rotate_left
          · (intro W hS; obtain ⟨⟨g0, g1, g2⟩, g3, g4⟩ := hS; go_simp; try (with_reducible rfl))
          refine wpAnyH_take (i := 7) (v := ?_) rfl (by kernel_rfl) (by kernel_rfl) (by kernel_rfl) (fun _ _ _ h => h) (Or.inl ⟨by kernel_rfl, ?_⟩) C ?_
          rotate_left
          · (intro W hS; obtain ⟨⟨g0, g1, g2⟩, g3, g4⟩ := hS; go_simp; try (with_reducible rfl))
          refine wpAnyH_take (i := 8) (v := ?_) rfl (by kernel_rfl) (by kernel_rfl) (by kernel_rfl) (fun _ _ _ h => h) (Or.inl ⟨by kernel_rfl, ?_⟩) C ?_
          rotate_left
          · (intro W hS; obtain ⟨⟨g0, g1, g2⟩, g3, g4⟩ := hS; go_simp; try (with_reducible rfl))
          refine wpAnyH_take (i := 9) (v := ?_) rfl (by kernel_rfl) (by kernel_rfl) (by kernel_rfl) (fun _ _ _ h => h) (Or.inl ⟨by kernel_rfl, ?_⟩) C ?_
          rotate_left
          · (intro W hS; obtain ⟨⟨g0, g1, g2⟩, g3, g4⟩ := hS; go_simp; try (with_reducible rfl))
          refine wpAnyH_take (i := 10) (v := ?_) rfl (by kernel_rfl) (by kernel_rfl) (by kernel_rfl) (fun _ _ _ h => h) (Or.inl ⟨by kernel_rfl, ?_⟩) C ?_
          rotate_left
          · (intro W hS; obtain ⟨⟨g0, g1, g2⟩, g3, g4⟩ := hS; go_simp; try (with_reducible rfl))
          refine wpAnyH_take (i := 11) (v := ?_) rfl (by kernel_rfl) (by kernel_rfl) (by kernel_rfl) (fun _ _ _ h => h) (Or.inl ⟨by kernel_rfl, ?_⟩) C ?_
          rotate_left
          · (intro W hS; obtain ⟨⟨g0, g1, g2⟩, g3, g4⟩ := hS; go_simp; try (with_reducible rfl))
          refine wpAnyH_take (i := 12) (v := ?_) rfl (by kernel_rfl) (by kernel_rfl) (by kernel_rfl) (fun _ _ _ h => h) (Or.inl ⟨by kernel_rfl, ?_⟩) C ?_
          rotate_left
          · (intro W hS; obtain ⟨⟨g0, g1, g2⟩, g3, g4⟩ := hS; go_simp; try (with_reducible rfl))
          refine wpAnyH_take (i := 13) (v := ?_) rfl (by kernel_rfl) (by kernel_rfl) (by kernel_rfl) (fun _ _ _ h => h) (Or.inl ⟨by kernel_rfl, ?_⟩) C ?_
          rotate_left
          · (intro W hS; obtain ⟨⟨g0, g1, g2⟩, g3, g4⟩ := hS; go_simp; try (with_reducible rfl))
          refine wpAnyH_take (i := 14) (v := ?_) rfl (by kernel_rfl) (by kernel_rfl) (by kernel_rfl) (fun _ _ _ h => h) (Or.inl ⟨by kernel_rfl, ?_⟩) C ?_
          rotate_left
          · (intro W hS; obtain ⟨⟨g0, g1, g2⟩, g3, g4⟩ := hS; go_simp; try (with_reducible rfl))
          refine wpAnyH_take (i := 15) (v := ?_) rfl (by kernel_rfl) (by kernel_rfl) (by kernel_rfl) (fun _ _ _ h => h) (Or.inl ⟨by kernel_rfl, ?_⟩) C ?_
          rotate_left
          · (intro W hS; obtain ⟨⟨g0, g1, g2⟩, g3, g4⟩ := hS; go_simp; try (with_reducible rfl))
          refine wpAnyH_take (i := 16) (v := ?_) rfl (by kernel_rfl) (by kernel_rfl) (by kernel_rfl) (fun _ _ _ h => h) (Or.inl ⟨by kernel_rfl, ?_⟩) C ?_
          rotate_left
          · (intro W hS; obtain ⟨⟨g0, g1, g2⟩, g3, g4⟩ := hS; go_simp; try (with_reducible rfl))
          refine wpAnyH_take (i := 17) (v := ?_) rfl (by kernel_rfl) (by kernel_rfl) (by kernel_rfl) (fun _ _ _ h => h) (Or.inl ⟨by kernel_rfl, ?_⟩) C ?_
          rotate_left
          · (intro W hS; obtain ⟨⟨g0, g1, g2⟩, g3, g4⟩ := hS; go_simp; try (with_reducible rfl))
          refine wpAnyH_take (i := 18) (v := ?_) rfl (by kernel_rfl) (by kernel_rfl) (by kernel_rfl) (fun _ _ _ h => h) (Or.inl ⟨by kernel_rfl, ?_⟩) C ?_
          rotate_left
          · (intro W hS; obtain ⟨⟨g0, g1, g2⟩, g3, g4⟩ := hS; go_simp; try (with_reducible rfl))
          refine wpAnyH_take (i := 19) (v := ?_) rfl (by kernel_rfl) (by kernel_rfl) (by kernel_rfl) (fun _ _ _ h => h) (Or.inl ⟨by kernel_rfl, ?_⟩) C ?_
          rotate_left
          · (intro W hS; obtain ⟨⟨g0, g1, g2⟩, g3, g4⟩ := hS; go_simp; try (with_reducible rfl))
          refine wpAnyH_take (i := 20) (v := ?_) rfl (by kernel_rfl) (by kernel_rfl) (by kernel_rfl) (fun _ _ _ h => h) (Or.inl ⟨by kernel_rfl, ?_⟩) C ?_
          rotate_left
          · (intro W hS; obtain ⟨⟨g0, g1, g2⟩, g3, g4⟩ := hS; go_simp; try (with_reducible rfl))
          refine wpAnyH_take (i := 21) (v := ?_) rfl (by kernel_rfl) (by kernel_rfl) (by kernel_rfl) (fun _ _ _ h => h) (Or.inl ⟨by kernel_rfl, ?_⟩) C ?_
          rotate_left
          · (intro W hS; obtain ⟨⟨g0, g1, g2⟩, g3, g4⟩ := hS; go_simp; try (with_reducible rfl))
          refine wpAnyH_take (i := 22) (v := ?_) rfl (by kernel_rfl) (by kernel_rfl) (by kernel_rfl) (fun _ _ _ h => h) (Or.inl ⟨by kernel_rfl, ?_⟩) C ?_
          rotate_left
          · (intro W hS; obtain ⟨⟨g0, g1, g2⟩, g3, g4⟩ := hS; go_simp; try (with_reducible rfl))
          refine wpAnyH_take (i := 23) (v := ?_) rfl (by kernel_rfl) (by kernel_rfl) (by kernel_rfl) (fun _ _ _ h => h) (Or.inl ⟨by kernel_rfl, ?_⟩) C ?_
          rotate_left
          · (intro W hS; obtain ⟨⟨g0, g1, g2⟩, g3, g4⟩ := hS; go_simp; try (with_reducible rfl))
          refine wpAnyH_take (i := 24) (v := ?_) rfl (by kernel_rfl) (by kernel_rfl) (by kernel_rfl) (fun _ _ _ h => h) (Or.inl ⟨by kernel_rfl, ?_⟩) C ?_
          rotate_left
          · (intro W hS; obtain ⟨⟨g0, g1, g2⟩, g3, g4⟩ := hS; go_simp; try (with_reducible rfl))
          refine wpAnyH_take (i := 25) (v := ?_) rfl (by kernel_rfl) (by kernel_rfl) (by kernel_rfl) (fun _ _ _ h => h) (Or.inl ⟨by kernel_rfl, ?_⟩) C ?_
          rotate_left
          · (intro W hS; obtain ⟨⟨g0, g1, g2⟩, g3, g4⟩ := hS; go_simp; try (with_reducible rfl))
          refine wpAnyH_take (i := 26) (v := ?_) rfl (by kernel_rfl) (by kernel_rfl) (by kernel_rfl) (fun _ _ _ h => h) (Or.inl ⟨by kernel_rfl, ?_⟩) C ?_
          rotate_left
          · (intro W hS; obtain ⟨⟨g0, g1, g2⟩, g3, g4⟩ := hS; go_simp; try (with_reducible rfl))
          refine wpAnyH_take (i := 27) (v := ?_) rfl (by kernel_rfl) (by kernel_rfl) (by kernel_rfl) (fun _ _ _ h => h) (Or.inl ⟨by kernel_rfl, ?_⟩) C ?_
          rotate_left
          · (intro W hS; obtain ⟨⟨g0, g1, g2⟩, g3, g4⟩ := hS; go_simp; try (with_reducible rfl))
          refine wpAnyH_take (i := 28) (v := ?_) rfl (by kernel_rfl) (by kernel_rfl) (by kernel_rfl) (fun _ _ _ h => h) (Or.inl ⟨by kernel_rfl, ?_⟩) C ?_
          rotate_left
          · (intro W hS; obtain ⟨⟨g0, g1, g2⟩, g3, g4⟩ := hS; go_simp; try (with_reducible rfl))
          refine wpAnyH_take (i := 29) (v := ?_) rfl (by kernel_rfl) (by kernel_rfl) (by kernel_rfl) (fun _ _ _ h => h) (Or.inl ⟨by kernel_rfl, ?_⟩) C ?_
          rotate_left
          · (intro W hS; obtain ⟨⟨g0, g1, g2⟩, g3, g4⟩ := hS; go_simp; try (with_reducible rfl))
          refine wpAnyH_take (i := 30) (v := ?_) rfl (by kernel_rfl) (by kernel_rfl) (by kernel_rfl) (fun _ _ _ h => h) (Or.inl ⟨by kernel_rfl, ?_⟩) C ?_
          rotate_left
          · (intro W hS; obtain ⟨⟨g0, g1, g2⟩, g3, g4⟩ := hS; go_simp; try (with_reducible rfl))
          refine wpAnyH_take (i := 31) (v := ?_) rfl (by kernel_rfl) (by kernel_rfl) (by kernel_rfl) (fun _ _ _ h => h) (Or.inl ⟨by kernel_rfl, ?_⟩) C ?_
          rotate_left
          · (intro W hS; obtain ⟨⟨g0, g1, g2⟩, g3, g4⟩ := hS; go_simp; try (with_reducible rfl))
          refine wpAnyH_done (by kernel_rfl) ?_ _
          go_simp
          have H6 := Lib.hid hwd6
          clear hwd6 C
          go_wp2_with fail
          go_ret
          exact ⟨rfl, HK.out.2.2.2.2.2.1.trans (H6.out.mono HK.out.2.2.2.2.2.1.size)⟩
        have n2 : ((s.y.size : Int) != (s0.y.size : Int)) = false := by simp; omega
        have HN := Lib.hid (And.intro HN.out hsz)
        clear hsz
        go_upto_region 4 with fail
        have C := HK.out.1 wr.drew (Below.refl _ _).drew
        have hwd : Below wr.heap.size wr wr.drew := (Below.refl _ _).drew
        refine wp_region_held (S := RaS tb off k s s0) (by kernel_rfl) ?_
        change wpAnyH _ _ _ _ _ _ _ _ (World.drew _)
        generalize World.drew _ = wh at *
        refine wpAnyH_take (i := 0) (v := ?_) rfl (by kernel_rfl) (by kernel_rfl) (by kernel_rfl) (fun _ _ _ h => h) (Or.inl ⟨by kernel_rfl, ?_⟩) C ?_
        rotate_left
        · (intro W hS; obtain ⟨⟨g0, g1, g2⟩, g3, g4⟩ := hS; go_simp; try (with_reducible rfl))
        refine wpAnyH_take (i := 1) (v := ?_) rfl (by kernel_rfl) (by kernel_rfl) (by kernel_rfl) (fun _ _ _ h => h) (Or.inl ⟨by kernel_rfl, ?_⟩) C ?_
        rotate_left
        · (intro W hS; obtain ⟨⟨g0, g1, g2⟩, g3, g4⟩ := hS; go_simp; try (with_reducible rfl))
        refine wpAnyH_take (i := 2) (v := ?_) rfl (by kernel_rfl) (by kernel_rfl) (by kernel_rfl) (fun _ _ _ h => h) (Or.inl ⟨by kernel_rfl, ?_⟩) C ?_
        rotate_left
        · (intro W hS; obtain ⟨⟨g0, g1, g2⟩, g3, g4⟩ := hS; go_simp; try (with_reducible rfl))
        refine wpAnyH_take (i := 3) (v := ?_) rfl (by kernel_rfl) (by kernel_rfl) (by kernel_rfl) (fun _ _ _ h => h) (Or.inl ⟨by kernel_rfl, ?_⟩) C ?_
        rotate_left
        · (intro W hS; obtain ⟨⟨g0, g1, g2⟩, g3, g4⟩ := hS; go_simp; try (with_reducible rfl))
        refine wpAnyH_ready (rs := [4]) (by kernel_rfl) (by simp) ?_
        refine AllReadyH.cons rfl (fun K hK => ?_) AllReadyH.nil
        go_simp
        refine (HK.out.2.1 wh).mono ?_
        rintro e w6 ⟨rfl, hb6⟩
        have hwd6 := hwd.trans (hb6.mono hwd.size)
        have C := HK.out.1 w6 hwd6
        refine hK.out _ _ C (fun _ => ?_)
        clear hK K hb6 hwd
        refine wpAnyH_take (i := 5) (v := ?_) rfl (by kernel_rfl) (by kernel_rfl) (by kernel_rfl) (fun _ _ _ h => h) (Or.inl ⟨by kernel_rfl, ?_⟩) C ?_
        rotate_left
        · (intro W hS; obtain ⟨⟨g0, g1, g2⟩, g3, g4⟩ := hS; go_simp; try (with_reducible rfl))
        refine wpAnyH_take (i := 6) (v := ?_) rfl (by kernel_rfl) (by kernel_rfl) (by kernel_rfl) (fun _ _ _ h => h) (Or.inl ⟨by kernel_rfl, ?_⟩) C ?_
        rotate_left
        · (intro W hS; obtain ⟨⟨g0, g1, g2⟩, g3, g4⟩ := hS; go_simp; try (with_reducible rfl))
        refine wpAnyH_take (i := 7) (v := ?_) rfl (by kernel_rfl) (by kernel_rfl) (by kernel_rfl) (fun _ _ _ h => h) (Or.inl ⟨by kernel_rfl, ?_⟩) C ?_
        rotate_left
        · (intro W hS; obtain ⟨⟨g0, g1, g2⟩, g3, g4⟩ := hS; go_simp; try (with_reducible rfl))
        refine wpAnyH_take (i := 8) (v := ?_) rfl (by kernel_rfl) (by kernel_rfl) (by kernel_rfl) (fun _ _ _ h => h) (Or.inl ⟨by kernel_rfl, ?_⟩) C ?_
        rotate_left
        · (intro W hS; obtain ⟨⟨g0, g1, g2⟩, g3, g4⟩ := hS; go_simp; try (with_reducible rfl))
        refine wpAnyH_take (i := 9) (v := ?_) rfl (by kernel_rfl) (by kernel_rfl) (by kernel_rfl) (fun _ _ _ h => h) (Or.inl ⟨by kernel_rfl, ?_⟩) C ?_
        rotate_left
        · (intro W hS; obtain ⟨⟨g0, g1, g2⟩, g3, g4⟩ := hS; go_simp; try (with_reducible rfl))
        refine wpAnyH_take (i := 10) (v := ?_) rfl (by kernel_rfl) (by kernel_rfl) (by kernel_rfl) (fun _ _ _ h => h) (Or.inl ⟨by kernel_rfl, ?_⟩) C ?_
        rotate_left
        · (intro W hS; obtain ⟨⟨g0, g1, g2⟩, g3, g4⟩ := hS; go_simp; try (with_reducible rfl))
        refine wpAnyH_take (i := 11) (v := ?_) rfl (by kernel_rfl) (by kernel_rfl) (by kernel_rfl) (fun _ _ _ h => h) (Or.inl ⟨by kernel_rfl, ?_⟩) C ?_
        rotate_left
        · (intro W hS; obtain ⟨⟨g0, g1, g2⟩, g3, g4⟩ := hS; go_simp; try (with_reducible rfl))
        refine wpAnyH_take (i := 12) (v := ?_) rfl (by kernel_rfl) (by kernel_rfl) (by kernel_rfl) (fun _ _ _ h => h) (Or.inl ⟨by kernel_rfl, ?_⟩) C ?_
        rotate_left
        · (intro W hS; obtain ⟨⟨g0, g1, g2⟩, g3, g4⟩ := hS; go_simp; try (with_reducible rfl))
        refine wpAnyH_take (i := 13) (v := ?_) rfl (by kernel_rfl) (by kernel_rfl) (by kernel_rfl) (fun _ _ _ h => h) (Or.inl ⟨by kernel_rfl, ?_⟩) C ?_
        rotate_left
        · (intro W hS; obtain ⟨⟨g0, g1, g2⟩, g3, g4⟩ := hS; go_simp; try (with_reducible rfl))
        refine wpAnyH_take (i := 14) (v := ?_) rfl (by kernel_rfl) (by kernel_rfl) (by kernel_rfl) (fun _ _ _ h => h) (Or.inl ⟨by kernel_rfl, ?_⟩) C ?_
        rotate_left
        · (intro W hS; obtain ⟨⟨g0, g1, g2⟩, g3, g4⟩ := hS; go_simp; try (with_reducible rfl))
        refine wpAnyH_take (i := 15) (v := ?_) rfl (by kernel_rfl) (by kernel_rfl) (by kernel_rfl) (fun _ _ _ h => h) (Or.inl ⟨by kernel_rfl, ?_⟩) C ?_
        rotate_left
        · (intro W hS; obtain ⟨⟨g0, g1, g2⟩, g3, g4⟩ := hS; go_simp; try (with_reducible rfl))
        refine wpAnyH_take (i := 16) (v := ?_) rfl (by kernel_rfl) (by kernel_rfl) (by kernel_rfl) (fun _ _ _ h => h) (Or.inl ⟨by kernel_rfl, ?_⟩) C ?_
        rotate_left
        · (intro W hS; obtain ⟨⟨g0, g1, g2⟩, g3, g4⟩ := hS; go_simp; try (with_reducible rfl))
        refine wpAnyH_take (i := 17) (v := ?_) rfl (by kernel_rfl) (by kernel_rfl) (by kernel_rfl) (fun _ _ _ h => h) (Or.inl ⟨by kernel_rfl, ?_⟩) C ?_
        rotate_left
        · (intro W hS; obtain ⟨⟨g0, g1, g2⟩, g3, g4⟩ := hS; go_simp; try (with_reducible rfl))
        refine wpAnyH_take (i := 18) (v := ?_) rfl (by kernel_rfl) (by kernel_rfl) (by kernel_rfl) (fun _ _ _ h => h) (Or.inl ⟨by kernel_rfl, ?_⟩) C ?_
        rotate_left
        · (intro W hS; obtain ⟨⟨g0, g1, g2⟩, g3, g4⟩ := hS; go_simp; try (with_reducible rfl))
        refine wpAnyH_take (i := 19) (v := ?_) rfl (by kernel_rfl) (by kernel_rfl) (by kernel_rfl) (fun _ _ _ h => h) (Or.inl ⟨by kernel_rfl, ?_⟩) C ?_
        rotate_left
        · (intro W hS; obtain ⟨⟨g0, g1, g2⟩, g3, g4⟩ := hS; go_simp; try (with_reducible rfl))
        refine wpAnyH_take (i := 20) (v := ?_) rfl (by kernel_rfl) (by kernel_rfl) (by kernel_rfl) (fun _ _ _ h => h) (Or.inl ⟨by kernel_rfl, ?_⟩) C ?_
        rotate_left
        · (intro W hS; obtain ⟨⟨g0, g1, g2⟩, g3, g4⟩ := hS; go_simp; try (with_reducible rfl))
        refine wpAnyH_take (i := 21) (v := ?_) rfl (by kernel_rfl) (by kernel_rfl) (by kernel_rfl) (fun _ _ _ h => h) (Or.inl ⟨by kernel_rfl, ?_⟩) C ?_
        rotate_left
        · (intro W hS; obtain ⟨⟨g0, g1, g2⟩, g3, g4⟩ := hS; go_simp; try (with_reducible rfl))
        refine wpAnyH_take (i := 22) (v := ?_) rfl (by kernel_rfl) (by kernel_rfl) (by kernel_rfl) (fun _ _ _ h => h) (Or.inl ⟨by kernel_rfl, ?_⟩) C ?_
        rotate_left
        · (intro W hS; obtain ⟨⟨g0, g1, g2⟩, g3, g4⟩ := hS; go_simp; try (with_reducible rfl))
        refine wpAnyH_take (i := 23) (v := ?_) rfl (by kernel_rfl) (by kernel_rfl) (by kernel_rfl) (fun _ _ _ h => h) (Or.inl ⟨by kernel_rfl, ?_⟩) C ?_
        rotate_left
        · (intro W hS; obtain ⟨⟨g0, g1, g2⟩, g3, g4⟩ := hS; go_simp; try (with_reducible rfl))
        refine wpAnyH_take (i := 24) (v := ?_) rfl (by kernel_rfl) (by kernel_rfl) (by kernel_rfl) (fun _ _ _ h => h) (Or.inl ⟨by kernel_rfl, ?_⟩) C ?_
        rotate_left
        · (intro W hS; obtain ⟨⟨g0, g1, g2⟩, g3, g4⟩ := hS; go_simp; try (with_reducible rfl))
        refine wpAnyH_take (i := 25) (v := ?_) rfl (by kernel_rfl) (by kernel_rfl) (by kernel_rfl) (fun _ _ _ h => h) (Or.inl ⟨by kernel_rfl, ?_⟩) C ?_
        rotate_left
        · (intro W hS; obtain ⟨⟨g0, g1, g2⟩, g3, g4⟩ := hS; go_simp; try (with_reducible rfl))
        refine wpAnyH_take (i := 26) (v := ?_) rfl (by kernel_rfl) (by kernel_rfl) (by kernel_rfl) (fun _ _ _ h => h) (Or.inl ⟨by kernel_rfl, ?_⟩) C ?_
        rotate_left
        · (intro W hS; obtain ⟨⟨g0, g1, g2⟩, g3, g4⟩ := hS; go_simp; try (with_reducible rfl))
        refine wpAnyH_take (i := 27) (v := ?_) rfl (by kernel_rfl) (by kernel_rfl) (by kernel_rfl) (fun _ _ _ h => h) (Or.inl ⟨by kernel_rfl, ?_⟩) C ?_
        rotate_left
        · (intro W hS; obtain ⟨⟨g0, g1, g2⟩, g3, g4⟩ := hS; go_simp; try (with_reducible rfl))
        refine wpAnyH_take (i := 28) (v := ?_) rfl (by kernel_rfl) (by kernel_rfl) (by kernel_rfl) (fun _ _ _ h => h) (Or.inl ⟨by kernel_rfl, ?_⟩) C ?_
        rotate_left
        · (intro W hS; obtain ⟨⟨g0, g1, g2⟩, g3, g4⟩ := hS; go_simp; try (with_reducible rfl))
        refine wpAnyH_take (i := 29) (v := ?_) rfl (by kernel_rfl) (by kernel_rfl) (by kernel_rfl) (fun _ _ _ h => h) (Or.inl ⟨by kernel_rfl, ?_⟩) C ?_
        rotate_left
        · (intro W hS; obtain ⟨⟨g0, g1, g2⟩, g3, g4⟩ := hS; go_simp; try (with_reducible rfl))
        refine wpAnyH_take (i := 30) (v := ?_) rfl (by kernel_rfl) (by kernel_rfl) (by kernel_rfl) (fun _ _ _ h => h) (Or.inl ⟨by kernel_rfl, ?_⟩) C ?_
        rotate_left
        · (intro W hS; obtain ⟨⟨g0, g1, g2⟩, g3, g4⟩ := hS; go_simp; try (with_reducible rfl))
        refine wpAnyH_take (i := 31) (v := ?_) rfl (by kernel_rfl) (by kernel_rfl) (by kernel_rfl) (fun _ _ _ h => h) (Or.inl ⟨by kernel_rfl, ?_⟩) C ?_
        rotate_left
        · (intro W hS; obtain ⟨⟨g0, g1, g2⟩, g3, g4⟩ := hS; go_simp; try (with_reducible rfl))
        refine wpAnyH_done (by kernel_rfl) ?_ _
        go_simp
        have H6 := Lib.hid hwd6
        clear hwd6 C
        have hwb := HK.out.2.2.2.2.2.1.trans (H6.out.mono HK.out.2.2.2.2.2.1.size)
        have HW := Lib.hid hwb
        clear hwb n1 n2
        go_wp2_with fail
        go_loopw [4] (fun j wv => ∃ q : Nat, q ≤ k ∧ j = .int .i64 (q : Int) ∧ (∀ t ∈ l.take q, t.x ≠ s.x) ∧ Below w.heap.size w wv) (fun j _ => k - (intOf j).toNat)
        case atStart => exact ⟨0, by omega, rfl, fun t ht => by simp at ht, HW.out⟩
        case round =>
          obtain ⟨q, hq, rfl, hd, hv⟩ := hrel
          by_cases hqk : q < k
          · obtain ⟨t, htq⟩ : ∃ t, l[q]? = some t := ⟨_, List.getElem?_eq_getElem (by have := H0.out.2.1; omega)⟩
            obtain ⟨tb1, off1, e1, -, p0, -, -⟩ := (H0.out.1.below hv) q t htq
            injection e1 with e1
            injection e1 with e1 e2 _
            subst e1 e2
            obtain ⟨tb1, off1, e1, -, q0, -, -⟩ := (H0.out.1.below hv) k s HK.out.2.2.2.1
            injection e1 with e1
            injection e1 with e1 e2 _
            subst e1 e2
            have HV := Lib.hid (And.intro hd (And.intro hv htq))
            clear hd hv htq
            by_cases hx : t.x = s.x
            · have hxb : (t.x == s.x) = true := by rw [hx]; simp
              obtain rfl : R = false := by
                rw [H0.out.2.2]
                refine alk_bad HK.out.2.2.2.1 (fun e => e.2.2.2 ?_)
                rw [← hx]
                refine List.mem_map.2 ⟨t, List.mem_of_getElem? (i := q) ?_, rfl⟩
                rw [List.getElem?_take, if_pos hqk]; exact HV.out.2.2
              go_wp2_with fail
              go_quiet (fail)
              go_wp2_with fail
              go_ret
              exact ⟨rfl, HV.out.2.1.trans ⟨rfl, rfl, rfl, Nat.le_refl _, fun _ _ => rfl⟩⟩
            · have hxb : (t.x == s.x) = false := by rw [beq_eq_false_iff_ne]; exact hx
              have HX := Lib.hid hx
              clear hx
              go_wp2_with fail
              go_quiet (fail)
              go_wp2_with fail
              go_roundw
              case rel => exact ⟨q + 1, by omega, by go_num, fun u hu => by
                rw [take_snocS HV.out.2.2, List.mem_append, List.mem_singleton] at hu
                rcases hu with hu | rfl
                · exact HV.out.1 u hu
                · exact HX.out, HV.out.2.1.trans ⟨rfl, rfl, rfl, Nat.le_refl _, fun _ _ => rfl⟩⟩
              case measure => simp [intOf]; omega
          · obtain rfl : q = k := by omega
            have hstep := HK.out.2.2.2.2.1.step HK.out.2.2.2.1 HK.out.2.2.1.symm (HN.out.1.trans HK.out.2.2.2.2.2.2.1.symm) (HN.out.2.trans HK.out.2.2.2.2.2.2.2.symm) (fun hm => by
              obtain ⟨t, ht, e⟩ := List.mem_map.1 hm
              exact hd t ht e)
            have HP := Lib.hid (And.intro hstep hv)
            clear hstep hd hv
            go_wp2_with fail
            go_roundw
            case rel => exact ⟨q + 1, by omega, by go_num, HP.out.1, HP.out.2⟩
            case measure => simp [intOf]; omega
    · obtain rfl : k = n := by omega
      obtain rfl : R = true := by
        rw [H0.out.2.2]
        rw [H0.out.2.1] at hA
        exact hA.whole
      have HB := Lib.hid hb
      clear hA hb
      go_wp2_with fail
      go_ret
      exact ⟨rfl, HB.out⟩
end Go.Proofs.YtefpfedpgedloaaDoor
namespace Go.Proofs.YtefpfedpgedloaaDoor
open Go.RowKit
open Gf

theorem at_pol {e : List Shr} (hn : (bys e).Nodup) (hl : e.length ≤ 255) (i : Nat) (x : UInt8) : atB (str (bys e)) (str (colm i e)) x = valB (pol i e) x := by
  have hp : pts (str (bys e)) (str (colm i e)) = true := by
    unfold pts ulk
    rw [str_size, str_size, bys_length, colm_length, str_data]
    simp [hn, hl]
  obtain ⟨-, h2, h3⟩ := thrB_facts hp
  exact at_val hp h2 h3 x
theorem bys_snoc {d : List Shr} {k : Nat} {s : Shr} (h : d[k]? = some s) : str (bys (d.take (k + 1))) = str (bys (d.take k)) ++ ⟨#[bx s.x]⟩ := by
  rw [take_snocS h]
  apply ByteArray.ext
  apply Array.toList_inj.1
  rw [ByteArray.data_append, Array.toList_append, str_data, str_data]
  unfold bys
  rw [List.map_append]; rfl
theorem ext_one' {s : ByteArray} {i : Nat} (h : i < s.size) : s.extract i (i + 1) = str [co s.data.toList i] := by
  apply ByteArray.ext
  apply Array.toList_inj.1
  rw [str_data, ByteArray.data_extract, Array.toList_extract, List.extract_eq_take_drop]
  apply List.ext_getElem?
  intro j
  have hd : s.data.toList.length = s.size := data_len s
  rw [List.getElem?_take, List.getElem?_drop]
  by_cases hj : j = 0
  · subst hj
    rw [if_pos (by omega)]
    unfold co
    rw [List.getD_eq_getElem?_getD, Nat.add_zero, List.getElem?_eq_getElem (by omega)]; rfl
  · rw [if_neg (by omega), List.getElem?_eq_none (by simp; omega)]
theorem colm_snoc {d : List Shr} {k i : Nat} {s : Shr} (h : d[k]? = some s) (hi : i < s.y.size) : str (colm i (d.take (k + 1))) = str (colm i (d.take k)) ++ s.y.extract i (i + 1) := by
  rw [take_snocS h, ext_one' hi]
  apply ByteArray.ext
  apply Array.toList_inj.1
  rw [ByteArray.data_append, Array.toList_append, str_data, str_data, str_data]
  unfold colm
  rw [List.map_append]; rfl
theorem fits_of {n : Int} {m N : Nat} {d : List Shr} (h : Alk n m d) (hN : N ≤ d.length) (h255 : N ≤ 255) (k : ∀ i, i < m → ∀ s ∈ d.drop N, valB (pol i (d.take N)) (bx s.x) = co s.y.data.toList i) : fits N m d = true := by
  unfold fits
  rw [decide_eq_true_iff]
  intro i hi s hs
  rw [← List.take_append_drop N d, List.mem_append] at hs
  rcases hs with hs | hs
  · have ht : (d.take N).length = N := by rw [List.length_take]; omega
    exact (pol_goes (d := d.take N) (h.sub (List.take_sublist _ _)).bys (by omega) i).2 s hs
  · exact k i hi s hs
theorem fits_not {m N : Nat} {d : List Shr} {i : Nat} {s : Shr} (hi : i < m) (hs : s ∈ d) (k : valB (pol i (d.take N)) (bx s.x) ≠ co s.y.data.toList i) : fits N m d = false := by
  unfold fits
  rw [decide_eq_false_iff_not]
  exact fun e => k (e i hi s hs)
theorem run_one9 (c : UInt8) (w : World) : (convert 53 9 (.slice (some ⟨w.heap.size, 0, none⟩) 1 1)).run Tryd.prog (w.alloc (.cells #[.int .u8 c.toNat] 5)) = .ok (.string ⟨#[c]⟩) (w.alloc (.cells #[.int .u8 c.toNat] 5)) := by
  have := run_convert_bytes_back (P := Tryd.prog) (w.alloc (.cells #[.int .u8 c.toNat] 5)) 53 9 5 ⟨w.heap.size, 0, none⟩ 1 [c] Tryd.underlying53 Tryd.underlying5 Tryd.underlying9 (fun j hj => by
    have hj' : j = 0 := by simpa using hj
    subst hj'
    rw [show (⟨w.heap.size, 0, none⟩ : Addr).add 0 = ⟨w.heap.size, 0, none⟩ by unfold Addr.add; split <;> simp_all, cell_of_row _ _ _ _ _ _ (heap_alloc_new _ _)]
    rfl)
  simpa using this
/-- The first i bytes at a place. -/
def atS (e : List Shr) (x : UInt8) (i : Nat) : List UInt8 := (List.range i).map fun j => valB (pol j e) x
theorem atS_length (e : List Shr) (x : UInt8) (i : Nat) : (atS e x i).length = i := by simp [atS]
theorem atS_snoc (e : List Shr) (x : UInt8) (i : Nat) : atS e x (i + 1) = atS e x i ++ [valB (pol i e) x] := by
  unfold atS; rw [List.range_succ, List.map_append]; rfl
theorem atS_vals (e : List Shr) (x : UInt8) (m : Nat) : str (atS e x m) = vals (polys m e) x := by
  unfold atS vals polys; rw [List.map_map]; rfl
set_option maxRecDepth 100000 in
set_option maxHeartbeats 2000000 in
theorem rsat_any {w : World} {a0 : Option Addr} {l : List Shr} (hT : SharesAt w a0 l) (hl : l.length ≤ 200) (cap : Nat) (x : UInt8) :
    Calls Tryd.prog 15 #[.slice a0 l.length cap, .int .u8 (x.toNat : Int)] w fun e w' => e = .returned (.tuple #[.string (outc l x).1, .int .i64 (outc l x).2]) ∧ Below w.heap.size w w' := by
  obtain ⟨n, hN⟩ : ∃ n, n = l.length := ⟨_, rfl⟩
  have hal := ralike_any hT (by omega) cap
  obtain ⟨R, hR⟩ : ∃ R, R = outc l x := ⟨_, rfl⟩
  rw [← hR]
  rw [← hN] at hl hal ⊢
  cases hA : alk l with
  | false =>
    rw [hA] at hal
    obtain rfl : R = (⟨#[]⟩, 1) := by rw [hR]; exact outc_bad hA x
    have H := Lib.hid hal
    clear hal hA hN hT hR
    go_enter Tryd.func15, Tryd.ntmps15
    go_wp2_with fail
    refine H.out.mono ?_
    rintro e w1 ⟨rfl, hb⟩
    have HB := Lib.hid hb
    clear hb
    go_wp2_with fail
    go_ret2
    exact ⟨rfl, HB.out⟩
  | true =>
    rw [hA] at hal
    by_cases h0 : l = []
    · have h0n : n = 0 := by rw [hN, h0]; rfl
      obtain rfl : R = (⟨#[]⟩, 4) := by rw [hR]; exact outc_short hA (.inl h0) x
      subst h0n
      have H := Lib.hid hal
      clear hal hA hN h0 hT hR
      go_enter Tryd.func15, Tryd.ntmps15
      go_wp2_with fail
      refine H.out.mono ?_
      rintro e w1 ⟨rfl, hb⟩
      have HB := Lib.hid hb
      clear hb
      go_wp2_with fail
      go_ret2
      exact ⟨rfl, HB.out⟩
    · have hn1 : 1 ≤ n := by
        have := List.length_pos_iff.2 h0
        omega
      obtain ⟨s0, hs0⟩ : ∃ s, l[0]? = some s := ⟨_, List.getElem?_eq_getElem (by omega)⟩
      obtain ⟨hnd, hln⟩ := head_need hs0
      have hAk := alk_iff.1 hA
      have hok := okS_iff.1 (hAk.ok s0 (List.mem_of_getElem? hs0))
      obtain ⟨tb, off, rfl, htb, -, d1, -⟩ := hT 0 s0 hs0
      rw [Nat.zero_mul, Nat.add_zero] at d1
      obtain ⟨N, hNN⟩ : ∃ N : Nat, s0.need = (N : Int) := ⟨s0.need.toNat, by omega⟩
      rw [hNN] at d1
      have hN1 : 1 ≤ N := by omega
      have hN2 : N ≤ 255 := by omega
      have hni : (1 : Int) ≤ n := by omega
      have hneed : (need0 l).toNat = N := by rw [hnd, hNN, Int.toNat_natCast]
      have hnz : ((n : Int) == 0) = false := by rw [beq_eq_false_iff_ne]; omega
      have hnN0 := hnd.trans hNN
      obtain ⟨m, hm⟩ : ∃ m, m = len0 l := ⟨_, rfl⟩
      have hm1 : 1 ≤ m := by omega
      have hm2 : m ≤ 64 := by omega
      by_cases hsh : n < N
      · obtain rfl : R = (⟨#[]⟩, 4) := by rw [hR]; exact outc_short hA (.inr (by rw [hnN0, ← hN]; omega)) x
        have H := Lib.hid (And.intro hal (And.intro d1 htb))
        clear hal hA hT hN hAk hneed hnd hln hok hs0 h0 hNN d1 htb hnN0 hm hR
        go_enter Tryd.func15, Tryd.ntmps15
        go_wp2_with fail
        refine H.out.1.mono ?_
        rintro e w1 ⟨rfl, hb⟩
        have d1 := (hb.cell (p := ⟨tb, off + 1, none⟩) H.out.2.2).trans H.out.2.1
        have HB := Lib.hid hb
        clear hb
        go_wp2_with fail
        go_ret2
        exact ⟨rfl, HB.out⟩
      · obtain ⟨d, hd⟩ : ∃ d, d = srt l 255 := ⟨_, rfl⟩
        have hp : d.Perm l := by rw [hd]; exact srt_whole hAk
        have hdA := hAk.perm hp
        rw [← hm] at hdA
        have hdl : d.length = n := hp.length_eq.trans hN.symm
        have hRj := outc_join hA h0 (by rw [hnN0, ← hN]; omega) hp x
        rw [← hR, hneed, ← hm] at hRj
        have hnod : (bys (d.take N)).Nodup := (hdA.sub (List.take_sublist _ _)).bys
        have htl : (d.take N).length = N := by rw [List.length_take]; omega
        have hat := fun i (z : UInt8) => at_pol hnod (by omega) i z
        have hso := fun (W : World) (hW : Below w.heap.size w W) => rsorted_any (hT.below hW) (by omega) cap
        rw [← hd, hdl, ← hN] at hso
        have hdy : ∀ s ∈ d, s.y.size = m := hdA.size
        have hdn : ∀ s ∈ d, s.need = (N : Int) := fun s hs => (hdA.need s hs).trans hnN0
        have hdx : ∀ s ∈ d, 1 ≤ s.x ∧ s.x ≤ 255 := fun s hs => (okS_iff.1 (hdA.ok s hs)).1
        have hfo : (∀ i, i < m → ∀ s ∈ d.drop N, valB (pol i (d.take N)) (bx s.x) = co s.y.data.toList i) → R = (vals (polys m (d.take N)) x, 0) := fun k => by
          rw [hRj, fits_of hdA (by omega) hN2 k, if_pos rfl]
        have hfn : ∀ i s, i < m → s ∈ d → valB (pol i (d.take N)) (bx s.x) ≠ co s.y.data.toList i → R = (⟨#[]⟩, 12) := fun i s hi hs k => by
          rw [hRj, fits_not hi hs k]; rfl
        have H := Lib.hid (And.intro hal (And.intro d1 htb))
        have HM := Lib.hid (And.intro hso (And.intro hdl (And.intro hat (And.intro hdy (And.intro hdn (And.intro hdx (And.intro hfo hfn)))))))
        clear hal hA hT hN hAk hneed hnd hln hok hs0 h0 hNN d1 htb hnN0 hm hR hp hdA hdl hRj hnod htl hat hso hdy hdn hdx hfo hfn hd
        go_enter Tryd.func15, Tryd.ntmps15
        go_wp2_with fail
        refine H.out.1.mono ?_
        rintro e w1 ⟨rfl, hb⟩
        have d1 := (hb.cell (p := ⟨tb, off + 1, none⟩) H.out.2.2).trans H.out.2.1
        have hso1 := HM.out.1 w1 hb
        have HB := Lib.hid (And.intro hb hso1)
        clear hb hso1
        go_wp2_with fail
        refine HB.out.2.mono ?_
        rintro e w2 ⟨a2, cp, rfl, ho2, hb2⟩
        have hS2 := ho2.at
        have hb12 := HB.out.1.trans (hb2.mono HB.out.1.size)
        obtain ⟨t0, ht0⟩ : ∃ s, d[0]? = some s := ⟨_, List.getElem?_eq_getElem (by have := HM.out.2.1; omega)⟩
        obtain ⟨tb2, off2, rfl, htb2, -, g1, g2⟩ := hS2 0 t0 ht0
        rw [Nat.zero_mul, Nat.add_zero] at g1 g2
        have hty := HM.out.2.2.2.1 t0 (List.mem_of_getElem? ht0)
        rw [HM.out.2.2.2.2.1 t0 (List.mem_of_getElem? ht0)] at g1
        have htyi : (t0.y.size : Int) = (m : Int) := by omega
        have HD := Lib.hid (And.intro hS2 (And.intro hb12 (And.intro htb2 (And.intro g1 g2))))
        clear hS2 hb12 htb2 ho2 hb2 ht0 hty g1 g2 d1
        go_wp2_with fail
        go_loopw [7, 8, 9, 10, 11, 12, 13, 14, 15, 16] (fun v i _ _ _ _ _ _ _ _ wr => ∃ (j : Nat) (ay : Option Addr) (cy : Nat), j ≤ m ∧ i = .int .i64 (j : Int) ∧ v = .slice ay j cy ∧ OwnB w2.heap.size wr ay cy (atS (d.take N) x j) ∧ Below w2.heap.size w2 wr ∧ ∀ i, i < j → ∀ s ∈ d.drop N, valB (pol i (d.take N)) (bx s.x) = co s.y.data.toList i) (fun _ i _ _ _ _ _ _ _ _ _ => m - (intOf i).toNat)
        case atStart => exact ⟨0, none, 0, by omega, rfl, rfl, OwnB.nil _ _, Below.refl _ _, fun i hi => absurd hi (by omega)⟩
        case round =>
          obtain ⟨j, ay, cy, hj, rfl, rfl, hy, hby, hall⟩ := hrel
          have g1 := (hby.cell (p := ⟨tb2, off2 + 1, none⟩) HD.out.2.2.1).trans HD.out.2.2.2.1
          have g2 := (hby.cell (p := ⟨tb2, off2 + 2, none⟩) HD.out.2.2.1).trans HD.out.2.2.2.2
          by_cases hjm : j < m
          · obtain ⟨W0, hW0⟩ : ∃ W0, W0 = wr := ⟨_, rfl⟩
            subst hW0
            have hjmi : (j : Int) + 1 ≤ (m : Int) := by omega
            have HY := Lib.hid (And.intro hy (And.intro hby hall))
            clear hy hby hall
            go_wp2_with fail
            clear g2
            go_loopw [9, 10, 11] (fun pl va k W => ∃ (q : Nat) (P V : ByteArray), q ≤ N ∧ k = .int .i64 (q : Int) ∧ pl = .string P ∧ va = .string V ∧ P = str (bys (d.take q)) ∧ V = str (colm j (d.take q)) ∧ Below W0.heap.size W0 W) (fun _ _ k _ => N - (intOf k).toNat)
            case atStart => exact ⟨0, _, _, by omega, rfl, rfl, rfl, rfl, rfl, Below.refl _ _⟩
            case round =>
              clear g1
              obtain ⟨q, P, V, hq, rfl, rfl, rfl, hP, hV, hv⟩ := hrel
              have hv2 := HY.out.2.1.trans (hv.mono HY.out.2.1.size)
              have g1 := (hv2.cell (p := ⟨tb2, off2 + 1, none⟩) HD.out.2.2.1).trans HD.out.2.2.2.1
              by_cases hqN : q < N
              · obtain ⟨s, hs⟩ : ∃ s, d[q]? = some s := ⟨_, List.getElem?_eq_getElem (by have := HM.out.2.1; omega)⟩
                have hqn : q < n := by have := HM.out.2.1; omega
                obtain ⟨tb3, off3, e3, htb3, c0, -, c2⟩ := (HD.out.1.below hv2) q s hs
                injection e3 with e3
                injection e3 with e4 e5 _
                subst e4 e5
                have hsy := HM.out.2.2.2.1 s (List.mem_of_getElem? hs)
                have hwx := wrap_bx s.x
                have hcv := run_one9 (bx s.x) wr
                have c2' : ∀ o, (wr.alloc o).cell? ⟨tb2, off2 + q * 3 + 2, none⟩ = some (.string s.y) := fun o => (((Below.refl wr.heap.size wr).alloc (Nat.le_refl _) o).cell (p := ⟨tb2, off2 + q * 3 + 2, none⟩) htb3).trans c2
                have hsl2 : ∀ W : World, (Instr.slice 9 (.string s.y) (some (.int .i64 (j : Int))) (some (.int .i64 ((j : Int) + 1))) none).run Tryd.prog W = .ok (.string (s.y.extract j (j + 1))) W := fun W => by
                  rw [run_slice_string W _ _ _ _ _ _ Tryd.underlying9 (by omega) (by omega) (by omega)]; rfl
                have hps : P.size ≤ 255 := by rw [hP, str_size, bys_length, List.length_take]; omega
                have hvs : V.size ≤ 255 := by rw [hV, str_size, colm_length, List.length_take]; omega
                have e1 := bys_snoc hs
                have e2 := colm_snoc (i := j) hs (by omega)
                rw [← hP] at e1
                rw [← hV] at e2
                obtain ⟨E, hE⟩ : ∃ E, E = s.y.extract j (j + 1) := ⟨_, rfl⟩
                have hes : E.size ≤ 1 := by rw [hE, ByteArray.size_extract]; omega
                obtain ⟨C1, hC1⟩ : ∃ C1 : ByteArray, C1 = ⟨#[bx s.x]⟩ := ⟨_, rfl⟩
                have hcs : C1.size ≤ 1 := by rw [hC1]; exact Nat.le_refl _
                rw [← hC1] at e1 hcv
                rw [← hE] at e2
                simp only [← hE] at hsl2
                have HE := Lib.hid (And.intro e1 (And.intro e2 hv))
                clear e1 e2 hv hv2 hP hV hE hC1 hs hsy
                go_wp2_with fail
                go_roundw
                case rel => exact ⟨q + 1, _, _, by omega, by go_num, rfl, rfl, HE.out.1.symm, HE.out.2.1.symm, HE.out.2.2.alloc HE.out.2.2.size _⟩
                case measure => simp [intOf]; omega
              · obtain rfl : q = N := by omega
                have hat := HM.out.2.2.1 j
                rw [← hP, ← hV] at hat
                have hps : P.size ≤ 255 := by rw [hP, str_size, bys_length, List.length_take]; omega
                have hrt := fun (z : UInt8) (W : World) => rat8_any P V (by omega) z W
                obtain ⟨er, her⟩ : ∃ er, er = aerr P V := ⟨_, rfl⟩
                simp only [← her] at hrt
                have HP := Lib.hid (And.intro hat (And.intro hrt hv))
                clear hat hrt her hP hV hps hv hv2
                go_wp2_with fail
                clear g1
                go_loopw [12, 13, 14] (fun k _ _ W => ∃ t : Nat, t ≤ n ∧ q ≤ t ∧ k = .int .i64 (t : Int) ∧ Below W0.heap.size W0 W ∧ ∀ u, q ≤ u → u < t → ∀ s, d[u]? = some s → valB (pol j (d.take q)) (bx s.x) = co s.y.data.toList j) (fun k _ _ _ => n - (intOf k).toNat)
                case atStart => exact ⟨q, by omega, Nat.le_refl _, rfl, HP.out.2.2, fun u h1 h2 => absurd h1 (by omega)⟩
                case round =>
                  obtain ⟨t, ht, hqt, rfl, hv, hdone⟩ := hrel
                  have hv2 := HY.out.2.1.trans (hv.mono HY.out.2.1.size)
                  by_cases htn : t < n
                  · obtain ⟨s, hs⟩ : ∃ s, d[t]? = some s := ⟨_, List.getElem?_eq_getElem (by have := HM.out.2.1; omega)⟩
                    obtain ⟨tb3, off3, e3, htb3, c0, -, c2⟩ := (HD.out.1.below hv2) t s hs
                    injection e3 with e3
                    injection e3 with e4 e5 _
                    subst e4 e5
                    have hsy := HM.out.2.2.2.1 s (List.mem_of_getElem? hs)
                    have hjy : j < s.y.size := by omega
                    have hwx := wrap_bx s.x
                    obtain ⟨z, hz⟩ : ∃ z, z = atB P V (bx s.x) := ⟨_, rfl⟩
                    have hzp : z = valB (pol j (d.take q)) (bx s.x) := hz.trans (HP.out.1 (bx s.x))
                    have hrt := fun W => HP.out.2.1 (bx s.x) W
                    simp only [← hz] at hrt
                    have hco := co_at s.y j hjy
                    have HT := Lib.hid (And.intro hrt (And.intro hzp (And.intro hv (And.intro hdone (And.intro hs (And.intro htb3 (And.intro c2 (And.intro hco hv2))))))))
                    clear hrt hzp hv hdone hs hz hsy hco c2 htb3 hv2
                    go_wp2_with fail
                    refine (HT.out.1 _).mono ?_
                    rintro e w5 ⟨rfl, hb5⟩
                    have c2 := (hb5.cell (p := ⟨tb2, off2 + t * 3 + 2, none⟩) HT.out.2.2.2.2.2.1).trans HT.out.2.2.2.2.2.2.1
                    have HB5 := Lib.hid (HT.out.2.2.1.trans (hb5.mono HT.out.2.2.1.size))
                    clear hb5
                    by_cases hzy : z = s.y[j]
                    · have hzb : ((z.toNat : Int) != (s.y[j].toNat : Int)) = false := by rw [hzy]; simp
                      have HZ := Lib.hid hzy
                      clear hzy
                      go_wp2_with fail
                      go_roundw
                      case rel => exact ⟨t + 1, by omega, by omega, by go_num, HB5.out, fun u h1 h2 s' hs' => by
                        by_cases e : u = t
                        · subst e
                          rw [HT.out.2.2.2.2.1] at hs'
                          injection hs' with hs'
                          subst hs'
                          rw [← HT.out.2.1, HZ.out, HT.out.2.2.2.2.2.2.2.1]
                        · exact HT.out.2.2.2.1 u h1 (by omega) s' hs'⟩
                      case measure => simp [intOf]; omega
                    · have hzb : ((z.toNat : Int) != (s.y[j].toNat : Int)) = true := by
                        rw [bne_iff_ne]
                        intro e
                        exact hzy (UInt8.toNat_inj.1 (by omega))
                      have hRR := HM.out.2.2.2.2.2.2.2 j s hjm (List.mem_of_getElem? HT.out.2.2.2.2.1) (by rw [← HT.out.2.1, HT.out.2.2.2.2.2.2.2.1]; exact hzy)
                      have HZ := Lib.hid hRR
                      clear hzy hRR
                      go_wp2_with fail
                      go_ret2
                      have h1 := HY.out.2.1.trans (HB5.out.mono HY.out.2.1.size)
                      exact ⟨by rw [HZ.out]; rfl, HD.out.2.1.trans (h1.mono HD.out.2.1.size)⟩
                  · obtain rfl : t = n := by omega
                    obtain ⟨z, hz⟩ : ∃ z, z = atB P V x := ⟨_, rfl⟩
                    have hzp : z = valB (pol j (d.take q)) x := hz.trans (HP.out.1 x)
                    have hrt := fun W => HP.out.2.1 x W
                    simp only [← hz] at hrt
                    have HT := Lib.hid (And.intro hrt (And.intro hzp (And.intro hv hdone)))
                    clear hrt hzp hv hdone hz hv2
                    go_wp2_with fail
                    refine (HT.out.1 _).mono ?_
                    rintro e w5 ⟨rfl, hb5⟩
                    have hb05 := HT.out.2.2.1.trans (hb5.mono HT.out.2.2.1.size)
                    have hb25 := HY.out.2.1.trans (hb05.mono HY.out.2.1.size)
                    have hz25 := hb25.size
                    have hy5 := HY.out.1.call hb05
                    have HB5 := Lib.hid (And.intro hy5 (And.intro hb25 (atS_length (d.take q) x j)))
                    clear hb5 hb05 hb25 hy5
                    go_wp2_with (at_builtin; (refine wpList_append_byte' (w0 := w2) rfl (.tmp 110) (.tmp 112) rfl (HB5.out.1.alloc _) j HB5.out.2.2 rfl _ 1 z rfl (cell_new _ _ _) (by omega) (by simp; omega) (HB5.out.2.1.alloc hz25 _) ?_; intro g1 cap1 w3 hown1 hb1; have H3 := Lib.hid (And.intro hown1 hb1); clear hown1 hb1))
                    go_roundw
                    case rel => exact ⟨j + 1, _, cap1, by omega, by go_num, rfl, by rw [atS_snoc, ← HT.out.2.1]; exact H3.out.1, H3.out.2, fun i hi s hs => by
                      by_cases e : i = j
                      · subst e
                        obtain ⟨u, hu, e2⟩ := List.mem_iff_getElem?.1 hs |>.imp fun u hu => (⟨trivial, hu⟩ : True ∧ _)
                        rw [List.getElem?_drop] at e2
                        exact HT.out.2.2.2 (q + u) (by omega) (by have := (List.getElem?_eq_some_iff.1 e2).1; have := HM.out.2.1; omega) s e2
                      · exact HY.out.2.2 i (by omega) s hs⟩
                    case measure => simp [intOf]; omega
          · obtain rfl : j = m := by omega
            have hcv := hy.conv
            rw [atS_length, atS_vals] at hcv
            have hRR := HM.out.2.2.2.2.2.2.1 hall
            have HY := Lib.hid (And.intro hby hRR)
            clear hy hby hall hRR
            go_wp2_with fail
            go_ret2
            exact ⟨by rw [HY.out.2]; rfl, HD.out.2.1.trans (HY.out.1.mono HD.out.2.1.size)⟩
set_option maxRecDepth 100000 in
set_option maxHeartbeats 1000000 in
theorem rrecover_any {w : World} {a0 : Option Addr} {l : List Shr} (hT : SharesAt w a0 l) (hl : l.length ≤ 200) (cap : Nat) (x : Int) :
    Calls Tryd.prog 17 #[.slice a0 l.length cap, .int .i64 x] w fun e w' => e = .returned (.tuple #[.agg #[.int .i64 (rcv l x).1.x, .int .i64 (rcv l x).1.need, .string (rcv l x).1.y], .int .i64 (rcv l x).2]) ∧ Below w.heap.size w w' := by
  obtain ⟨w1, hw1⟩ : ∃ w1, w1 = w.alloc (.cells #[.int .i64 0, .int .i64 0, .string ⟨#[]⟩] 44) := ⟨_, rfl⟩
  have hb1 : Below w.heap.size w w1 := by rw [hw1]; exact (Below.refl _ _).alloc (Nat.le_refl _) _
  have hg1 : w1.heap[w.heap.size]? = some (.cells #[.int .i64 0, .int .i64 0, .string ⟨#[]⟩] 44 (0, 0)) := by rw [hw1]; exact heap_alloc_new _ _
  have hz1 : w.heap.size < w1.heap.size := by rw [hw1]; simp
  have hj := rsat_any (hT.below hb1) hl cap (bx x)
  have hwx := wrap_bx x
  obtain ⟨X, hX⟩ : ∃ X, X = bx x := ⟨_, rfl⟩
  rw [← hX] at hj hwx
  obtain ⟨R, hR⟩ : ∃ R, R = rcv l x := ⟨_, rfl⟩
  rw [← hR]
  unfold rcv at hR
  rw [← hX] at hR
  obtain ⟨Q, hQ⟩ : ∃ Q, Q = outc l X := ⟨_, rfl⟩
  rw [← hQ] at hR hj
  have hne : Q.2 = 0 → ∃ s0, l[0]? = some s0 := fun e => by
    cases hl0 : l with
    | nil => subst hl0; rw [hQ, outc_short rfl (.inl rfl)] at e; exact absurd e (by decide)
    | cons s l => exact ⟨s, rfl⟩
  obtain ⟨Y, c⟩ := Q
  simp only at hR hj hne
  have H := Lib.hid (And.intro hj (And.intro hR (And.intro hb1 (And.intro hg1 (And.intro hz1 (And.intro hT hne))))))
  clear hj hT hR hb1 hg1 hz1 hQ hX hne
  go_enter Tryd.func17, Tryd.ntmps17
  go_upto_region 1 with fail
  rw [← hw1]
  clear hw1
  go_wp2_with fail
  refine H.out.1.mono ?_
  rintro e w2 ⟨rfl, hb⟩
  obtain ⟨c0, c1, c2, f1⟩ := zero_cells ((hb.block _ H.out.2.2.2.2.1).trans H.out.2.2.2.1)
  have hb2 := H.out.2.2.1.trans (hb.mono H.out.2.2.1.size)
  by_cases hc : c = 0
  · subst hc
    obtain ⟨s0, hs0⟩ := H.out.2.2.2.2.2.2 rfl
    obtain ⟨hnd, -⟩ := head_need hs0
    obtain ⟨tb, off, rfl, htb, -, d1, -⟩ := H.out.2.2.2.2.2.1 0 s0 hs0
    rw [Nat.zero_mul, Nat.add_zero, ← hnd] at d1
    have d1 := (hb2.cell (p := ⟨tb, off + 1, none⟩) htb).trans d1
    have hl1 : 0 < l.length := (List.getElem?_eq_some_iff.1 hs0).1
    by_cases hx1 : x < 1
    · have hRR : R = (zeroShr, 1) := by rw [H.out.2.1, if_pos rfl, if_neg (by omega)]
      have HB := Lib.hid (And.intro hb2 hRR)
      clear hb hb2 hRR d1 hnd hs0
      go_wp2_with fail
      refine bodyPost_ret (v := .tuple #[.agg #[.int .i64 0, .int .i64 0, .string ⟨#[]⟩], .int .i64 1]) (by simp [results, Tryd.results17, go_sem, c0, c1, c2]) rfl ?_
      exact ⟨by rw [HB.out.2]; rfl, below_put3 HB.out.1 (Nat.le_refl _) _ _ _⟩
    by_cases hx2 : 255 < x
    · have hRR : R = (zeroShr, 1) := by rw [H.out.2.1, if_pos rfl, if_neg (by omega)]
      have HB := Lib.hid (And.intro hb2 hRR)
      clear hb hb2 hRR d1 hnd hs0
      go_wp2_with fail
      refine bodyPost_ret (v := .tuple #[.agg #[.int .i64 0, .int .i64 0, .string ⟨#[]⟩], .int .i64 1]) (by simp [results, Tryd.results17, go_sem, c0, c1, c2]) rfl ?_
      exact ⟨by rw [HB.out.2]; rfl, below_put3 HB.out.1 (Nat.le_refl _) _ _ _⟩
    have hRR : R = (⟨x, need0 l, Y⟩, 0) := by rw [H.out.2.1, if_pos rfl, if_pos (by omega)]
    have HB := Lib.hid (And.intro hb2 hRR)
    clear hb hb2 hRR hnd hs0
    go_wp2_with fail
    refine bodyPost_ret (v := .tuple #[.agg #[.int .i64 x, .int .i64 (need0 l), .string Y], .int .i64 0]) (by simp [results, Tryd.results17, go_sem, c0, c1, c2]) rfl ?_
    exact ⟨by rw [HB.out.2], below_put3 HB.out.1 (Nat.le_refl _) _ _ _⟩
  · have hcn : (c == 0) = false := by simpa using hc
    have hcn2 : (c != 0) = true := by simpa using hc
    have hRR : R = (zeroShr, c) := by rw [H.out.2.1, if_neg hc]
    have HB := Lib.hid (And.intro hb2 hRR)
    clear hb hb2 hRR hc
    go_wp2_with fail
    refine bodyPost_ret (v := .tuple #[.agg #[.int .i64 0, .int .i64 0, .string ⟨#[]⟩], .int .i64 c]) (by simp [results, Tryd.results17, go_sem, c0, c1, c2]) rfl ?_
    exact ⟨by rw [HB.out.2]; rfl, below_put3 HB.out.1 (Nat.le_refl _) _ _ _⟩
end Go.Proofs.YtefpfedpgedloaaDoor
