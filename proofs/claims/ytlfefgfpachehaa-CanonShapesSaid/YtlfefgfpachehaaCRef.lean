/- Ref: an item as the document has it. -/
import Derived.Test.YtlfefgfpachehaaCMay
import Derived.Test.YtlfefgfpachehaaCItem
import Derived.Deep.RegionLaw
namespace Go.Proofs.Ytlfefgfpachehaa
open Go.RowKit
open Cn

theorem info34 : (Try.prog.info? 34).map (fun i => (i.zero, i.size, i.bytes)) = some (some (.agg #[.int .i64 0, .int .i64 0, .string ⟨#[]⟩, .slice none 0 0]), 4, 56) := by kernel_rfl
/-- What Ref hands back. -/
def RefPost (p : Pt) (w : World) (e : Ending) (w' : World) : Prop := ∃ it : It, it.pure = p ∧ e = .returned it.val ∧ it.In w' (w.heap.size ≤ ·) ∧ Below w.heap.size w w'
/-- i items are there. -/
structure Refs (k n : Int) (s : ByteArray) (a0 : Option Addr) (cap0 : Nat) (l : List It) (w : World) (i : Nat) (xs : List It) (a : Option Addr) (cap : Nat) (wr : World) : Prop where
  len : xs.length = i
  own : wr.ownsRow (w.heap.size + 3) 34 4 (.slice a i cap) i (flat xs)
  all : It.InAll wr (fun b => w.heap.size + 2 < b ∧ (Value.slice a i cap).ownBlock ≠ some b) xs
  below : Below w.heap.size w wr
  rx : wr.heap[w.heap.size]? = some (.cells #[.int .i64 k, .int .i64 n, .string s, .slice a0 l.length cap0] 24 (0, 0))
  rr : wr.heap[w.heap.size + 1]? = some (.cells #[.int .i64 0, .int .i64 0, .string ⟨#[]⟩, .slice none 0 0] 34 (0, 0))
  ry : wr.heap[w.heap.size + 2]? = some (.cells #[.int .i64 k, .int .i64 n, .string s, .slice a i cap] 34 (0, 0))
  done : It.pureAll xs = It.pureAll (l.take i)
theorem pureAll_append' (a b : List It) : It.pureAll (a ++ b) = It.pureAll a ++ It.pureAll b := by rw [It.pureAll_eq, It.pureAll_eq, It.pureAll_eq, List.map_append]
theorem Refs.lt {k n : Int} {s : ByteArray} {a0 : Option Addr} {cap0 : Nat} {l : List It} {w : World} {i : Nat} {xs : List It} {a : Option Addr} {cap : Nat} {wr : World} (h : Refs k n s a0 cap0 l w i xs a cap wr) :
    ∀ b, (Value.slice a i cap).ownBlock = some b → w.heap.size + 2 < b ∧ b < wr.heap.size := fun b hb => by have := h.own.lt b hb; omega
theorem Refs.next {k n : Int} {s : ByteArray} {a0 : Option Addr} {cap0 : Nat} {l : List It} {w : World} {i : Nat} {xs : List It} {a : Option Addr} {cap : Nat} {wr w4 w7 : World} {it x : It} {o : Obj} {g' cap' : Nat}
    (h : Refs k n s a0 cap0 l w i xs a cap wr) (hx : l[i]? = some x) (hp : it.pure = x.pure) (h4 : Below wr.heap.size wr w4) (hit : it.In w4 (wr.heap.size ≤ ·))
    (hown : w7.ownsRow (w.heap.size + 3) 34 4 (.slice (some ⟨g', 0, none⟩) (i + 1) cap') (i + 1) (flat xs ++ it.cells.toList)) (hgr : (w4.alloc o).grownBy w7 (Value.slice a i cap).ownBlock)
    (hat : (Value.slice a i cap).ownBlock = some g' ∨ g' = w4.heap.size + 1) : Refs k n s a0 cap0 l w (i + 1) (xs ++ [it]) (some ⟨g', 0, none⟩) cap' (w7.setCell ⟨w.heap.size + 2, 3, none⟩ (.slice (some ⟨g', 0, none⟩) (i + 1) cap')) := by
  have hob := h.lt
  have hy := lt_of_heap h.ry
  have s4 := h4.size
  have sw := h.below.size
  have s5 : (w4.alloc o).heap.size = w4.heap.size + 1 := by simp
  have s7 := hgr.size
  have hg' : w.heap.size + 2 < g' := by
    rcases hat with e | e
    · exact (hob g' e).1
    · omega
  have keep : ∀ b, b < w4.heap.size → (Value.slice a i cap).ownBlock ≠ some b → w7.heap[b]? = w4.heap[b]? := fun b hb hne => by
    rw [hgr.block b (by omega) (fun e => hne e.symm), Lib.alloc_old _ _ _ hb]
  have low : ∀ b, b ≤ w.heap.size + 2 → w7.heap[b]? = wr.heap[b]? := fun b hb => by
    rw [keep b (by omega) (fun e => by have := hob b e; omega), h4.block b (by omega)]
  have set' : ∀ b, b ≠ w.heap.size + 2 → (w7.setCell ⟨w.heap.size + 2, 3, none⟩ (.slice (some ⟨g', 0, none⟩) (i + 1) cap')).heap[b]? = w7.heap[b]? := fun b hb => heap_setCell_other _ _ _ _ hb
  have ss : (w7.setCell ⟨w.heap.size + 2, 3, none⟩ (.slice (some ⟨g', 0, none⟩) (i + 1) cap')).heap.size = w7.heap.size := by simp [World.setCell]
  exact {
    len := by simp [h.len]
    own := by
      rw [flat_append]
      have h1 := hown.kept (w' := w7.setCell ⟨w.heap.size + 2, 3, none⟩ (.slice (some ⟨g', 0, none⟩) (i + 1) cap')) (row := some (w.heap.size + 2)) ⟨rfl, rfl, rfl, by rw [ss]; exact Nat.le_refl _, fun b _ hb => set' b (fun e => hb (by rw [e]))⟩ (Or.inr (fun e => by
        have h3 : g' = w.heap.size + 2 := Option.some.inj e
        omega))
      simpa [flat] using h1
    all := by
      refine It.inAll_of fun y hy => ?_
      rcases List.mem_append.1 hy with hy | hy
      · have e1 : ∀ b, (Value.slice a i cap).ownBlock ≠ some b → b < wr.heap.size → (Value.slice (some ⟨g', 0, none⟩) (i + 1) cap').ownBlock ≠ some b := fun b hb hlt e2 => by
          have h3 : g' = b := Option.some.inj e2
          rcases hat with e | e
          · exact hb (by rw [e, h3])
          · omega
        exact It.In.kept (S := fun b => w.heap.size + 2 < b ∧ (Value.slice a i cap).ownBlock ≠ some b) (w := wr) ⟨fun b hb hlt => ⟨⟨hb.1, e1 b hb.2 hlt⟩, by rw [set' b (by have := hb.1; omega), keep b (by omega) hb.2, h4.block b hlt]⟩, by omega⟩ y (It.inAll_mem h.all y hy)
      · obtain rfl := List.mem_singleton.1 hy
        have e1 : ∀ b, wr.heap.size ≤ b → b < w4.heap.size → (Value.slice (some ⟨g', 0, none⟩) (i + 1) cap').ownBlock ≠ some b := fun b hb hlt e2 => by
          have h3 : g' = b := Option.some.inj e2
          rcases hat with e | e
          · have := hob g' e; omega
          · omega
        exact It.In.kept (S := (wr.heap.size ≤ ·)) (w := w4) ⟨fun b hb hlt => ⟨⟨by have : wr.heap.size ≤ b := hb; omega, e1 b hb hlt⟩, by rw [set' b (by have : wr.heap.size ≤ b := hb; omega), keep b hlt (fun e => by have := hob b e; have : wr.heap.size ≤ b := hb; omega)]⟩, by omega⟩ _ hit
    below := (((h.below.trans (h4.mono sw)).alloc (by omega) o).grown hgr (by omega) (fun b hb => by have := hob b hb; omega)).setCell (p := ⟨w.heap.size + 2, 3, none⟩) (by show w.heap.size ≤ w.heap.size + 2; omega) _
    rx := by rw [set' _ (by omega), low _ (by omega)]; exact h.rx
    rr := by rw [set' _ (by omega), low _ (by omega)]; exact h.rr
    ry := by
      have h1 : w7.heap[w.heap.size + 2]? = some (.cells #[.int .i64 k, .int .i64 n, .string s, .slice a i cap] 34 (0, 0)) := (low _ (by omega)).trans h.ry
      rw [heap_setCell_same _ _ _ _ _ _ h1]
      rfl
    done := by
      rw [pureAll_append', List.take_add_one, hx, Option.toList_some, pureAll_append', h.done]
      show _ ++ [it.pure] = _ ++ [x.pure]
      rw [hp] }
theorem ref_kept {k n : Int} {s : ByteArray} {a0 : Option Addr} {cap0 : Nat} {l : List It} {w : World} {i : Nat} {xs : List It} {a : Option Addr} {cap : Nat} {wr w4 w7 : World} {o ob : Obj} (hgr : (w4.alloc o).grownBy w7 (Value.slice a i cap).ownBlock) (h : Refs k n s a0 cap0 l w i xs a cap wr)
    (hy : w4.heap[w.heap.size + 1 + 1]? = some ob) (hlt : w.heap.size + 1 + 1 < w4.heap.size) : w7.heap[w.heap.size + 1 + 1]? = some ob := by
  rw [hgr.block _ (by simp; omega) (fun e => by have := h.lt _ e.symm; omega), Lib.alloc_old _ _ _ hlt]
  exact hy
theorem ref_end {k n : Int} {s : ByteArray} {a0 : Option Addr} {cap0 : Nat} {l : List It} {w : World} {N : Nat} {xs : List It} {a : Option Addr} {cap : Nat} {wr : World} (h : Refs k n s a0 cap0 l w N xs a cap wr) (hN : N = l.length) (hs : s.size ≤ maxLen) :
    RefPost (.mk k n s (It.pureAll l)) w (.returned (.agg #[.int .i64 k, .int .i64 n, .string s, .slice a N cap])) (wr.setCells (w.heap.size + 1) 0 [.int .i64 k, .int .i64 n, .string s, .slice a N cap]) := by
  have hob := h.lt
  have hk : KeptS (fun b => w.heap.size + 2 < b ∧ (Value.slice a N cap).ownBlock ≠ some b) (w.heap.size ≤ ·) wr (wr.setCells (w.heap.size + 1) 0 [.int .i64 k, .int .i64 n, .string s, .slice a N cap]) :=
    ⟨fun b hb _ => ⟨by have := hb.1; omega, heap_setCells_other _ _ (by have := hb.1; omega) _ _ _⟩, by rw [size_setCells]; exact Nat.le_refl _⟩
  have hd := h.done
  rw [hN, List.take_length] at hd
  refine ⟨.mk k n s a cap xs, by rw [It.pure_eq]; show Pt.mk k n s (It.pureAll xs) = _; rw [hd], by simp only [It.val, It.cells, It.k, It.n, It.s, It.a, It.l, It.cap, h.len], ⟨hs, ⟨?_, fun hne => ?_⟩, It.InAll.kept hk _ h.all⟩, below_setCells _ (by omega) _ _ _ h.below⟩
  · rcases h.own.2 with ⟨_, h0⟩ | ⟨g1, cap1, cur, hv, hb, hg, hnc, hcm, hcs, htk⟩
    · rw [h.len, h0]; exact Nat.zero_le _
    · rw [h.len]; omega
  · rcases h.own.2 with ⟨_, h0⟩ | ⟨g1, cap1, cur, hv, hb, hg, hnc, hcm, hcs, htk⟩
    · exact absurd (List.eq_nil_of_length_eq_zero (by have := h.len; omega)) hne
    · injection hv with e1 e2 e3
      subst e1
      refine ⟨g1, 0, rfl, by rw [size_setCells]; exact lt_of_heap hg, by show w.heap.size ≤ g1; omega, ?_⟩
      have hsame : (wr.setCells (w.heap.size + 1) 0 [.int .i64 k, .int .i64 n, .string s, .slice (some ⟨g1, 0, none⟩) N cap]).heap[g1]? = wr.heap[g1]? := heap_setCells_other _ _ (by omega) _ _ _
      refine RowAt.same (w := wr) (fun j x hx => ?_) hsame
      have hc : ∀ m u, m < 4 → x.cells[m]? = some u → wr.cell? ⟨g1, 0 + j * 4 + m, none⟩ = some u := fun m u hm hu => by
        have := h.own.cells (g := g1) rfl (j * 4 + m) u (by rw [flat_get xs j x m hx hm]; exact hu)
        rw [Nat.zero_add]
        rwa [show (⟨g1, 0, none⟩ : Addr).add (j * 4 + m) = ⟨g1, j * 4 + m, none⟩ by unfold Addr.add; split <;> simp_all] at this
      exact ⟨hc 0 _ (by decide) rfl, hc 1 _ (by decide) rfl, hc 2 _ (by decide) rfl, hc 3 _ (by decide) rfl⟩
def RefSo (x : It) : Prop := ∀ (S : Nat → Prop) (w : World), x.In w S → x.l.length ≤ 1000000 → Calls Try.prog 13 #[x.val] w (RefPost x.pure w)
set_option maxRecDepth 100000 in
set_option maxHeartbeats 800000 in
theorem ref_step (x : It) (ih : ∀ y ∈ x.l, y.l.length ≤ 1000000 ∧ RefSo y) : RefSo x := by
  intro S w hin hlen
  obtain ⟨k, n, s, a, cap, l⟩ := x
  simp only [It.l] at ih hlen
  have hP : RefPost (It.mk k n s a cap l).pure w = RefPost (.mk k n s (It.pureAll l)) w := rfl
  rw [hP]
  simp only [It.val, It.cells, It.k, It.n, It.s, It.a, It.cap, It.l]
  have H := Lib.hid (And.intro hin ih)
  clear hin ih hP
  obtain ⟨N, hN⟩ : ∃ N, N = l.length := ⟨_, rfl⟩
  rw [← hN] at hlen ⊢
  have HN := Lib.hid hN
  clear hN
  go_enter Try.func13, Try.ntmps13
  go_wp2_with fail
  have h0 : Refs k n s a cap l w 0 [] none 0 (((w.alloc (.cells #[.int .i64 k, .int .i64 n, .string s, .slice a N cap] 24)).alloc (.cells #[.int .i64 0, .int .i64 0, .string ⟨#[]⟩, .slice none 0 0] 34)).alloc (.cells #[.int .i64 k, .int .i64 n, .string s, .slice none 0 0] 34)) := by
    have z1 : (w.alloc (.cells #[.int .i64 k, .int .i64 n, .string s, .slice a N cap] 24)).heap.size = w.heap.size + 1 := by simp
    have z2 : ((w.alloc (.cells #[.int .i64 k, .int .i64 n, .string s, .slice a N cap] 24)).alloc (.cells #[.int .i64 0, .int .i64 0, .string ⟨#[]⟩, .slice none 0 0] 34)).heap.size = w.heap.size + 2 := by simp
    refine ⟨rfl, World.ownsRow_nil _ _ _ _, trivial, (((Below.refl _ _).alloc (Nat.le_refl _) _).alloc (by simp) _).alloc (by simp; omega) _, ?_, ?_, ?_, rfl⟩
    · rw [Lib.alloc_old _ _ _ (by omega), Lib.alloc_old _ _ _ (by omega), ← HN.out]; exact heap_alloc_new _ _
    · rw [Lib.alloc_old _ _ _ (by omega)]
      have := heap_alloc_new (w.alloc (.cells #[.int .i64 k, .int .i64 n, .string s, .slice a N cap] 24)) (.cells #[.int .i64 0, .int .i64 0, .string ⟨#[]⟩, .slice none 0 0] 34)
      rwa [z1] at this
    · have := heap_alloc_new ((w.alloc (.cells #[.int .i64 k, .int .i64 n, .string s, .slice a N cap] 24)).alloc (.cells #[.int .i64 0, .int .i64 0, .string ⟨#[]⟩, .slice none 0 0] 34)) (.cells #[.int .i64 k, .int .i64 n, .string s, .slice none 0 0] 34)
      rwa [z2] at this
  have H0 := Lib.hid h0
  clear h0
  generalize World.alloc _ _ = w3 at *
  go_loopw [4] (fun iv wr => ∃ (i : Nat) (xs : List It) (a' : Option Addr) (cap' : Nat), i ≤ N ∧ iv = .int .i64 i ∧ Refs k n s a cap l w i xs a' cap' wr) (fun iv _ => N - (intOf iv).toNat)
  case atStart => exact ⟨0, [], none, 0, by omega, rfl, H0.out⟩
  case round =>
    clear H0
    obtain ⟨i, xs, a', cap', hi, rfl, hR⟩ := hrel
    have HR := Lib.hid hR
    have hx3 : wr.cell? ⟨w.heap.size, 3, none⟩ = some (.slice a N cap) := by rw [Lib.cell_of_heap hR.rx, HN.out]; rfl
    clear hR
    by_cases hlt : i < N
    · have hin := It.In.kept (keptS_any HR.out.below) _ H.out.1
      obtain ⟨b, o, x, ha, hbl, -, hx, hmem, c0, c1, c2, c3⟩ := hin.2.1.at (show i < l.length by have := HN.out; omega)
      have ha' : a = some ⟨b, o, none⟩ := ha
      subst ha'
      clear ha
      have hkd : KeptS S S wr wr.drew := ⟨fun b hs _ => ⟨hs, rfl⟩, Nat.le_refl _⟩
      have ihx := (H.out.2 x hmem).2 S wr.drew (It.In.kept hkd x (It.inAll_mem hin.2.2 x hmem)) (H.out.2 x hmem).1
      clear hkd
      have hy3 : wr.cell? ⟨w.heap.size + 1 + 1, 3, none⟩ = some (.slice a' i cap') := by rw [Lib.cell_of_heap (show wr.heap[w.heap.size + 1 + 1]? = _ from HR.out.ry)]; rfl
      have hylt : w.heap.size + 1 + 1 < wr.heap.size := lt_of_heap HR.out.ry
      obtain ⟨i0, hi0, hz0⟩ := Option.map_eq_some_iff.1 info34
      simp only [Prod.mk.injEq] at hz0
      obtain ⟨p, hp⟩ : ∃ p, p = x.pure := ⟨_, rfl⟩
      rw [← hp] at ihx
      have HX := Lib.hid (And.intro hx (And.intro ihx (And.intro hi0 (And.intro hz0 hp))))
      clear hx hmem hin ihx hi0 hz0 hp
      obtain ⟨xk, xn, xs', xa, xc, xl⟩ := x
      simp only [It.val, It.cells, It.k, It.n, It.s, It.a, It.cap, It.l] at HX c0 c1 c2 c3
      go_wp2_with fail
      go_region_law ((first
        | (refine step_append_lies _ (by rfl) _ _ 32 (by rfl) (w.heap.size + 3) 34 i0 _ 4 56 Try.underlying32 HX.out.2.2.1 HX.out.2.2.2.1.1 HX.out.2.2.2.1.2.1 HX.out.2.2.2.1.2.2 rfl (by decide) _ i _ (by rfl) HO.out ⟨w4.heap.size, 0, none⟩ 1 1 [.int .i64 yk, .int .i64 yn, .string ys, .slice ya yl.length yc] (by rfl) (by rfl) (World.news_of_block (cs := #[.int .i64 yk, .int .i64 yn, .string ys, .slice ya yl.length yc]) (t := 34) (fr := (0, 0)) (heap_alloc_new w4 _)) (by simp [Value.oneCell']) (by decide) (by unfold maxLen; omega) (by omega) (by simp; omega) (w4.heap.size + 1) (by simp) ?_; intro g1 cap1 w7 hown7 hgr7 hat7 hlt7; have hy7 : w7.heap[w.heap.size + 1 + 1]? = some (.cells #[.int .i64 k, .int .i64 n, .string s, .slice a' i cap'] 34 (0, 0)) := ref_kept hgr7 HR.out HY4.out (by omega); have hy7c : w7.cell? ⟨w.heap.size + 1 + 1, 3, none⟩ = some (.slice a' i cap') := (by rw [Lib.cell_of_heap hy7]; rfl); have hy7f : w7.frozen? ⟨w.heap.size + 1 + 1, 3, none⟩ = false := Lib.frozen_of_heap hy7 3; clear hy7; have HA := Lib.hid (And.intro hown7 (And.intro hgr7 hat7)); clear hown7 hgr7 hat7)
        | (go_simp; go_at_call 13; refine HX.out.2.1.mono ?_; rintro e w4 ⟨it, hpi, rfl, hit, hb4⟩; have hy4 : w4.cell? ⟨w.heap.size + 1 + 1, 3, none⟩ = some (.slice a' i cap') := (hb4.cell (p := ⟨w.heap.size + 1 + 1, 3, none⟩) hylt).trans hy3; have hz4 : wr.heap.size ≤ w4.heap.size := hb4.size; have hylt4 : w.heap.size + 1 + 1 < w4.heap.size := (by omega); have hy4a : ∀ o, (w4.alloc o).cell? ⟨w.heap.size + 1 + 1, 3, none⟩ = some (.slice a' i cap') := fun o => (((Below.refl w4.heap.size w4).alloc (Nat.le_refl _) o).cell (p := ⟨w.heap.size + 1 + 1, 3, none⟩) hylt4).trans hy4; have HY4 := Lib.hid ((hb4.block (w.heap.size + 1 + 1) hylt).trans HR.out.ry); have HO := Lib.hid ((HR.out.own.kept (w' := w4) (row := none) ⟨hb4.os, hb4.tape, hb4.output, hb4.size, fun k hk _ => hb4.block k hk⟩ (by cases h : (Value.slice a' i cap').ownBlock <;> simp)).alloc (.cells it.cells 34)); have HI := Lib.hid (And.intro hpi (And.intro hit hb4)); clear hpi hit hb4; obtain ⟨yk, yn, ys, ya, yc, yl⟩ := it; simp only [It.val, It.cells, It.k, It.n, It.s, It.a, It.cap, It.l] at HO ⊢)))
      all_goals
        have hb4 : Below wr.heap.size wr w4 := ⟨HI.out.2.2.os, HI.out.2.2.tape, HI.out.2.2.output, HI.out.2.2.size, HI.out.2.2.block⟩
        have hnext := Refs.next HR.out HX.out.1 (HI.out.1.trans HX.out.2.2.2.2) hb4 HI.out.2.1 HA.out.1 HA.out.2.1 HA.out.2.2
        have HN2 := Lib.hid hnext
        clear hnext hb4
        go_wp2_with fail
        go_roundw
        case rel => exact ⟨i + 1, _, _, _, by omega, by go_num, HN2.out⟩
        case measure => simp [intOf]; omega
    · obtain rfl : i = N := by omega
      have hry := HR.out.ry
      have hrr := HR.out.rr
      have y0 : wr.cell? ⟨w.heap.size + 1 + 1, 0, none⟩ = some (.int .i64 k) := by rw [Lib.cell_of_heap (show wr.heap[w.heap.size + 1 + 1]? = _ from hry)]; rfl
      have y1 : wr.cell? ⟨w.heap.size + 1 + 1, 1, none⟩ = some (.int .i64 n) := by rw [Lib.cell_of_heap (show wr.heap[w.heap.size + 1 + 1]? = _ from hry)]; rfl
      have y2 : wr.cell? ⟨w.heap.size + 1 + 1, 2, none⟩ = some (.string s) := by rw [Lib.cell_of_heap (show wr.heap[w.heap.size + 1 + 1]? = _ from hry)]; rfl
      have y3 : wr.cell? ⟨w.heap.size + 1 + 1, 3, none⟩ = some (.slice a' i cap') := by rw [Lib.cell_of_heap (show wr.heap[w.heap.size + 1 + 1]? = _ from hry)]; rfl
      have r0 : wr.cell? ⟨w.heap.size + 1, 0, none⟩ = some (.int .i64 0) := by rw [Lib.cell_of_heap hrr]; rfl
      have r1 : wr.cell? ⟨w.heap.size + 1, 1, none⟩ = some (.int .i64 0) := by rw [Lib.cell_of_heap hrr]; rfl
      have r2 : wr.cell? ⟨w.heap.size + 1, 2, none⟩ = some (.string ⟨#[]⟩) := by rw [Lib.cell_of_heap hrr]; rfl
      have r3 : wr.cell? ⟨w.heap.size + 1, 3, none⟩ = some (.slice none 0 0) := by rw [Lib.cell_of_heap hrr]; rfl
      have f : ∀ j, wr.frozen? ⟨w.heap.size + 1, j, none⟩ = false := fun j => Lib.frozen_of_heap hrr j
      clear hry hrr
      go_wp2_with fail
      refine bodyPost_ret (v := .agg #[.int .i64 k, .int .i64 n, .string s, .slice a' i cap']) (by simp [results, Try.results13, go_sem, r0, r1, r2, r3]) rfl ?_
      exact ref_end HR.out HN.out (H.out.1).1
theorem ref_any : ∀ (N : Nat) (x : It), x.sz ≤ N → (∀ y : It, y.sz ≤ x.sz → y.l.length ≤ 1000000) → RefSo x
  | 0, x, hx, _ => by rw [It.sz_eq] at hx; omega
  | N + 1, x, hx, hb => ref_step x fun y hy => ⟨hb y (by have := It.sz_lt hy; omega), ref_any N y (by have := It.sz_lt hy; omega) fun z hz => hb z (by have := It.sz_lt hy; omega)⟩
end Go.Proofs.Ytlfefgfpachehaa
