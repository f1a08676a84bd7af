/- Num, Text, List (copied): items that are made. -/
import Derived.Test.YtefpfedpgedloaaGreatDoorCTree
import Derived.Laws.MakeOwn
namespace Go.Proofs.YtefpfedpgedloaaGreatDoor
open Go.RowKit
open Cn

set_option maxRecDepth 100000 in
theorem num_any (n : Int) (w : World) : Calls Tryz.prog 27 #[.int .i64 n] w fun e w' => e = .returned (.agg #[.int .i64 1, .int .i64 n, .string ⟨#[]⟩, .slice none 0 0]) ∧ Below w.heap.size w w' := by
  go_enter Tryz.func27, Tryz.ntmps27
  go_wp2_with fail
  exact bodyPost_ret (v := .agg #[.int .i64 1, .int .i64 n, .string ⟨#[]⟩, .slice none 0 0]) (by simp [results, Tryz.results27, go_sem]) rfl ⟨rfl, (Below.refl _ _).alloc (Nat.le_refl _) _⟩
set_option maxRecDepth 100000 in
theorem text_any (s : ByteArray) (w : World) : Calls Tryz.prog 28 #[.string s] w fun e w' => e = .returned (.agg #[.int .i64 2, .int .i64 0, .string s, .slice none 0 0]) ∧ Below w.heap.size w w' := by
  go_enter Tryz.func28, Tryz.ntmps28
  go_wp2_with fail
  exact bodyPost_ret (v := .agg #[.int .i64 2, .int .i64 0, .string s, .slice none 0 0]) (by simp [results, Tryz.results28, go_sem]) rfl ⟨rfl, (Below.refl _ _).alloc (Nat.le_refl _) _⟩

theorem lt_of_heap {w : World} {g : Nat} {o : Obj} (h : w.heap[g]? = some o) : g < w.heap.size := (Array.getElem?_eq_some_iff.1 h).1
/-- A row of items in the making: the first i are there. -/
def Copying (w0 : World) (g N : Nat) (l : List It) (i : Nat) (wr : World) : Prop := ∃ (l' : List It) (c : Array Value), l'.length = i ∧ It.pureAll l' = It.pureAll (l.take i) ∧ It.InAll wr (g < ·) l' ∧ wr.heap[g]? = some (.cells c 60 (0, 0)) ∧ c.size = N * 4 ∧ RowAt wr g 0 l' ∧ Below w0.heap.size w0 wr ∧ w0.heap.size ≤ g
/-- Cells that are laid over a block's cells from o on. -/
theorem c_heap_setCells (b : Nat) (t : TypeId) : ∀ (vs : List Value) (o : Nat) (w : World) (c : Array Value), w.heap[b]? = some (.cells c t (0, 0)) → o + vs.length ≤ c.size →
    ∃ c' : Array Value, (w.setCells b o vs).heap[b]? = some (.cells c' t (0, 0)) ∧ c'.size = c.size ∧ ∀ i, c'[i]? = if o ≤ i ∧ i < o + vs.length then vs[i - o]? else c[i]?
  | [], o, w, c, h, _ => ⟨c, h, rfl, fun i => by rw [if_neg (by simp)]⟩
  | v :: r, o, w, c, h, hl => by
    obtain ⟨c', h1, h2, h3⟩ := c_heap_setCells b t r (o + 1) (w.setCell ⟨b, o, none⟩ v) _ (heap_setCell_same _ _ _ _ _ _ h) (by simp at hl ⊢; omega)
    refine ⟨c', h1, by simpa using h2, fun i => ?_⟩
    rw [h3, Array.getElem?_setIfInBounds]
    simp only [List.length_cons] at hl ⊢
    by_cases e : o = i
    · subst e; rw [if_neg (by omega), if_pos rfl, if_pos (by omega), if_pos (by omega)]; simp
    · by_cases e2 : o + 1 ≤ i ∧ i < o + 1 + r.length
      · rw [if_pos e2, if_pos (by omega), show i - o = (i - (o + 1)) + 1 by omega]; simp
      · rw [if_neg e2, if_neg e, if_neg (by omega)]
theorem below_setCells {B : Nat} {a : World} (b : Nat) (hb : B ≤ b) : ∀ (vs : List Value) (o : Nat) (w : World), Below B a w → Below B a (w.setCells b o vs)
  | [], _, _, h => h
  | v :: r, o, _, h => below_setCells b hb r (o + 1) _ (h.setCell hb v)
theorem c_heap_setCells_other (b k : Nat) (hk : k ≠ b) : ∀ (vs : List Value) (o : Nat) (w : World), (w.setCells b o vs).heap[k]? = w.heap[k]?
  | [], _, _ => rfl
  | v :: r, o, w => (c_heap_setCells_other b k hk r (o + 1) _).trans (heap_setCell_other w _ k v hk)
theorem c_size_setCells (b : Nat) : ∀ (vs : List Value) (o : Nat) (w : World), (w.setCells b o vs).heap.size = w.heap.size
  | [], _, _ => rfl
  | v :: r, o, w => (c_size_setCells b r (o + 1) _).trans (by simp [World.setCell])
theorem pureAll_len {l l' : List It} (h : It.pureAll l = It.pureAll l') : l.length = l'.length := by
  have := congrArg List.length h
  rwa [It.pureAll_length, It.pureAll_length] at this
theorem pureAll_append (a b : List It) : It.pureAll (a ++ b) = It.pureAll a ++ It.pureAll b := by rw [It.pureAll_eq, It.pureAll_eq, It.pureAll_eq, List.map_append]
/-- One item more is laid into the row. -/
theorem copying_step {w wr w4 : World} {g N i : Nat} {l l' l2 : List It} {c : Array Value} {x : It} {a2 : Option Addr} {bx : Obj} {v : Value}
    (h1 : l'.length = i) (h2 : It.pureAll l' = It.pureAll (l.take i)) (h3 : It.InAll wr (g < ·) l') (h4 : wr.heap[g]? = some (.cells c 60 (0, 0))) (h5 : c.size = N * 4) (h6 : RowAt wr g 0 l') (h7 : Below w.heap.size w wr) (h8 : w.heap.size ≤ g)
    (hlt : i < N) (hx : l[i]? = some x) (hs : x.s.size ≤ maxLen) (hp2 : It.pureAll l2 = It.pureAll x.l) (hl2 : Lies w4 ((wr.alloc bx).heap.size ≤ ·) a2 l2) (hi2 : It.InAll w4 ((wr.alloc bx).heap.size ≤ ·) l2)
    (hb4 : Below (wr.alloc bx).heap.size (wr.alloc bx) w4) (hrow : w4.heap[g]? = some (.cells c 60 (0, 0))) :
    Copying w g N l (i + 1) ((w4.setCell ⟨wr.heap.size, 3, none⟩ v).setCells g (i * 4) [.int .i64 x.k, .int .i64 x.n, .string x.s, .slice a2 x.l.length x.l.length]) := by
  have hg := lt_of_heap h4
  have hln := pureAll_len hp2
  have hsz : (wr.alloc bx).heap.size = wr.heap.size + 1 := by simp
  have hsz4 : wr.heap.size + 1 ≤ w4.heap.size := by have := hb4.size; omega
  have r5 : (w4.setCell ⟨wr.heap.size, 3, none⟩ v).heap[g]? = some (.cells c 60 (0, 0)) := (heap_setCell_other w4 _ g v (by show g ≠ wr.heap.size; omega)).trans hrow
  obtain ⟨c', d1, d2, d3⟩ := c_heap_setCells g 60 [.int .i64 x.k, .int .i64 x.n, .string x.s, .slice a2 x.l.length x.l.length] (i * 4) _ c r5 (by simp; omega)
  have kold : KeptS (g < ·) (g < ·) wr ((w4.setCell ⟨wr.heap.size, 3, none⟩ v).setCells g (i * 4) [.int .i64 x.k, .int .i64 x.n, .string x.s, .slice a2 x.l.length x.l.length]) := by
    refine ⟨fun b hgb hb => ⟨hgb, ?_⟩, ?_⟩
    · rw [c_heap_setCells_other g b (by omega), heap_setCell_other w4 _ b v (by show b ≠ wr.heap.size; omega), hb4.block b (by omega), Lib.alloc_old _ _ _ hb]
    · rw [c_size_setCells]; simp [World.setCell]; omega
  have knew : KeptS ((wr.alloc bx).heap.size ≤ ·) (g < ·) w4 ((w4.setCell ⟨wr.heap.size, 3, none⟩ v).setCells g (i * 4) [.int .i64 x.k, .int .i64 x.n, .string x.s, .slice a2 x.l.length x.l.length]) := by
    refine ⟨fun b hgb hb => ⟨by omega, ?_⟩, ?_⟩
    · rw [c_heap_setCells_other g b (by omega), heap_setCell_other w4 _ b v (by show b ≠ wr.heap.size; omega)]
    · rw [c_size_setCells]; simp [World.setCell]
  refine ⟨l' ++ [.mk x.k x.n x.s a2 x.l.length l2], c', by simp [h1], ?_, ?_, d1, by rw [d2, h5], ?_, ?_, h8⟩
  · rw [List.take_add_one, hx, Option.toList_some, pureAll_append, pureAll_append, h2]
    show _ ++ [Pt.mk x.k x.n x.s (It.pureAll l2)] = _ ++ [x.pure]
    rw [hp2, It.pure_eq x]
  · refine It.inAll_of fun y hy => ?_
    rcases List.mem_append.1 hy with hy | hy
    · exact It.In.kept kold y (It.inAll_mem h3 y hy)
    · obtain rfl := List.mem_singleton.1 hy
      exact ⟨hs, hl2.kept knew, It.InAll.kept knew _ hi2⟩
  · intro j y hy
    rw [Lib.cell_of_heap d1, Lib.cell_of_heap d1, Lib.cell_of_heap d1, Lib.cell_of_heap d1]
    rcases Nat.lt_or_ge j i with hj | hj
    · rw [List.getElem?_append_left (by omega)] at hy
      have := h6 j y hy
      rw [Lib.cell_of_heap h4, Lib.cell_of_heap h4, Lib.cell_of_heap h4, Lib.cell_of_heap h4] at this
      rw [d3, d3, d3, d3, if_neg (by omega), if_neg (by omega), if_neg (by omega), if_neg (by omega)]
      exact this
    · have hji : j = i := by
        have := (List.getElem?_eq_some_iff.1 hy).1
        simp at this; omega
      subst hji
      rw [List.getElem?_append_right (by omega), h1, Nat.sub_self] at hy
      simp only [List.getElem?_cons_zero, Option.some.injEq] at hy
      subst hy
      rw [d3, d3, d3, d3, if_pos (by simp), if_pos (by simp), if_pos (by simp), if_pos (by simp)]
      simp [It.k, It.n, It.s, It.a, It.l, It.cap, hln]
  · refine below_setCells g h8 _ _ _ (Below.setCell ?_ (by show w.heap.size ≤ wr.heap.size; exact h7.size) v)
    exact h7.trans ((((Below.refl _ wr).alloc (Nat.le_refl _) bx).trans (hb4.mono (by omega))).mono h7.size)
def CopyPost (l : List It) (w : World) (e : Ending) (w' : World) : Prop := ∃ a' l', e = .returned (.slice a' l.length l.length) ∧ It.pureAll l' = It.pureAll l ∧ Lies w' (w.heap.size ≤ ·) a' l' ∧ It.InAll w' (w.heap.size ≤ ·) l' ∧ Below w.heap.size w w'
/-- The contract of copied. -/
def CopiesSo (l : List It) : Prop := ∀ (S : Nat → Prop) (a : Option Addr) (cap : Nat) (w : World), Lies w S a l → It.InAll w S l → It.szAll l ≤ 1000000 →
  Calls Tryz.prog 49 #[.slice a l.length cap] w (CopyPost l w)
theorem run_make_items (n : Nat) (h : n ≤ 1000000) (w : World) : (Instr.makeSlice 58 (.int .i64 (n : Int)) (.int .i64 (n : Int))).run Tryz.prog w = .ok (.slice (some ⟨w.heap.size, 0, none⟩) n n) (w.alloc (.cells (madeCells #[.int .i64 0, .int .i64 0, .string ⟨#[]⟩, .slice none 0 0] (n * 4)) 60)) := by
  obtain ⟨i, hi, hzz⟩ := Option.map_eq_some_iff.1 info24
  simp only [Prod.mk.injEq] at hzz
  obtain ⟨hz, hs, hb⟩ := hzz
  have := run_make (P := Tryz.prog) w 58 60 i _ Tryz.underlying58 hi hz .i64 .i64 n n (by omega) (Int.le_refl _) (by rw [hb]; omega) (by omega)
  rw [hs] at this
  simpa [Value.cells] using this
set_option maxRecDepth 100000 in
set_option maxHeartbeats 400000 in
theorem copied_nil : CopiesSo [] := by
  intro S a cap w _ _ _
  simp only [List.length_nil]
  go_enter Tryz.func49, Tryz.ntmps49
  go_wp2_with fail
  go_loop [14] (fun c => c = .int .i64 0) (fun _ => 0)
  case atStart => rfl
  case round =>
    subst hrel
    go_wp2_with fail
    go_ret
    exact ⟨none, [], rfl, rfl, ⟨Nat.zero_le _, fun h => absurd rfl h⟩, trivial, Below.refl _ _⟩
set_option maxRecDepth 100000 in
set_option maxHeartbeats 400000 in
theorem copied_some (l : List It) (hne : l ≠ []) (ih : ∀ y ∈ l, CopiesSo y.l) : CopiesSo l := by
  intro S a cap w hL hA hsz
  have hlen : l.length ≤ 1000000 := by
    have : ∀ l : List It, l.length ≤ It.szAll l := fun l => by
      induction l with
      | nil => simp
      | cons x r ihr => rw [It.szAll, It.sz_eq, List.length_cons]; omega
    have := this l
    omega
  have hpos : 0 < l.length := List.length_pos_iff.2 hne
  have hmk := run_make_items l.length hlen
  obtain ⟨N, hN⟩ : ∃ N, N = l.length := ⟨_, rfl⟩
  rw [← hN] at hmk hlen hpos ⊢
  have hCP : CopyPost l = fun w e w' => ∃ a' l', e = .returned (.slice a' N N) ∧ It.pureAll l' = It.pureAll l ∧ Lies w' (w.heap.size ≤ ·) a' l' ∧ It.InAll w' (w.heap.size ≤ ·) l' ∧ Below w.heap.size w w' := by rw [hN]; rfl
  have HCP := Lib.hid hCP
  clear hCP
  have hposi : (0 : Int) < N := by omega
  have H := Lib.hid (And.intro hN (And.intro hL (And.intro hA (And.intro ih hsz))))
  clear hN hL hA ih hsz
  go_enter Tryz.func49, Tryz.ntmps49
  go_wp2_with fail
  obtain ⟨g, hg⟩ : ∃ g, g = w.heap.size := ⟨_, rfl⟩
  have HC0 : Hid (Copying w g N l 0 (w.alloc (.cells (madeCells #[.int .i64 0, .int .i64 0, .string ⟨#[]⟩, .slice none 0 0] (N * 4)) 60))) :=
    ⟨[], _, rfl, rfl, trivial, by rw [hg]; exact heap_alloc_new _ _, size_madeCells _ _, fun j x hx => by simp at hx, (Below.refl _ _).alloc (Nat.le_refl _) _, by omega⟩
  have HG := Lib.hid hg
  rw [← hg]
  clear hg hmk
  go_loopw [14] (fun c wr => ∃ i : Nat, i ≤ N ∧ c = .int .i64 i ∧ Copying w g N l i wr) (fun c _ => N - (intOf c).toNat)
  case atStart => exact ⟨0, by omega, rfl, HC0.out⟩
  case round =>
    clear HC0
    obtain ⟨i, hi, rfl, hc⟩ := hrel
    have HC := Lib.hid hc
    clear hc
    by_cases hlt : i < N
    · obtain ⟨l', c, h1, h2, h3, h4, h5, h6, h7, h8⟩ := HC.out
      have hL := H.out.2.1.kept (keptS_any h7)
      have hil : i < l.length := by have := H.out.1; omega
      obtain ⟨b, o, x, ha, hbl, -, hx, hmem, c0, c1, c2, c3⟩ := hL.at hil
      subst ha
      have hin := It.inAll_mem H.out.2.2.1 x hmem
      have hcp := fun w' (hb : Below w.heap.size w w') => H.out.2.2.2.1 x hmem S x.a x.cap w' ((It.in_eq w S x ▸ hin).2.1.kept (keptS_any hb)) (It.InAll.kept (keptS_any hb) _ (It.in_eq w S x ▸ hin).2.2)
        (by have q1 := It.sz_mem hmem; have q2 := H.out.2.2.2.2; rw [It.sz_eq] at q1; omega)
      have HX := Lib.hid (And.intro hx (And.intro hmem (And.intro hin hcp)))
      have HR := Lib.hid (And.intro h1 (And.intro h2 (And.intro h3 (And.intro h5 (And.intro h6 (And.intro h7 h8))))))
      have hglt : g < wr.heap.size := Go.Proofs.YtefpfedpgedloaaGreatDoor.lt_of_heap h4
      have HH4 := Lib.hid h4
      clear hx hmem hin hcp hL h1 h2 h3 h6 h8
      obtain ⟨xk, xn, xs, xa, xc, xl⟩ := x
      simp only [It.k, It.n, It.s, It.a, It.cap, It.l] at HX c0 c1 c2 c3
      have hbw : Below w.heap.size w (wr.alloc (.cells #[.int .i64 xk, .int .i64 xn, .string xs, .slice xa xl.length xc] 60)) := HR.out.2.2.2.2.2.1.alloc (by have := HR.out.2.2.2.2.2.1.size; omega) _
      have HBW := Lib.hid hbw
      clear hbw h7
      go_wp2_with fail
      refine (HX.out.2.2.2 _ HBW.out).mono ?_
      rintro e w4 ⟨a2, l2, rfl, hp2, hl2, hi2, hb4⟩
      have hbox : w4.heap[wr.heap.size]? = some (.cells #[.int .i64 xk, .int .i64 xn, .string xs, .slice xa xl.length xc] 60 (0, 0)) := by
        rw [hb4.block _ (by simp), heap_alloc_new]
      have hrow : w4.heap[g]? = some (.cells c 60 (0, 0)) := by
        rw [hb4.block _ (by simp; omega), Lib.alloc_old _ _ _ hglt]; exact h4
      have q0 : w4.cell? ⟨wr.heap.size, 0, none⟩ = some (.int .i64 xk) := by rw [Lib.cell_of_heap hbox]; rfl
      have q1 : w4.cell? ⟨wr.heap.size, 1, none⟩ = some (.int .i64 xn) := by rw [Lib.cell_of_heap hbox]; rfl
      have q2 : w4.cell? ⟨wr.heap.size, 2, none⟩ = some (.string xs) := by rw [Lib.cell_of_heap hbox]; rfl
      have q3 : w4.cell? ⟨wr.heap.size, 3, none⟩ = some (.slice xa xl.length xc) := by rw [Lib.cell_of_heap hbox]; rfl
      have f3 : w4.frozen? ⟨wr.heap.size, 3, none⟩ = false := Lib.frozen_of_heap hbox 3
      have hgne : ¬ g = wr.heap.size := by omega
      have hgne2 : ¬ wr.heap.size = g := by omega
      have fg : ∀ j, w4.frozen? ⟨g, j, none⟩ = false := fun j => Lib.frozen_of_heap hrow j
      have cg : ∀ j, j < 4 → ∃ v, w4.cell? ⟨g, i * 4 + j, none⟩ = some v := fun j hj => by
        rw [Lib.cell_of_heap hrow]
        exact ⟨_, Array.getElem?_eq_getElem (by have := HR.out.2.2.2.1; omega)⟩
      obtain ⟨v0, g0⟩ := cg 0 (by omega)
      obtain ⟨v1, g1⟩ := cg 1 (by omega)
      obtain ⟨v2, g2⟩ := cg 2 (by omega)
      obtain ⟨v3, g3⟩ := cg 3 (by omega)
      simp only [Nat.add_zero] at g0
      have HF := Lib.hid (And.intro hp2 (And.intro hl2 (And.intro hi2 (And.intro hb4 (And.intro hbox hrow)))))
      clear hp2 hl2 hi2 hb4 hbox hrow cg h4 h5 c0 c1 c2 c3
      go_wp2_with fail
      have hst := copying_step (v := .slice a2 xl.length xl.length) HR.out.1 HR.out.2.1 HR.out.2.2.1 HH4.out HR.out.2.2.2.1 HR.out.2.2.2.2.1 HR.out.2.2.2.2.2.1 HR.out.2.2.2.2.2.2 hlt HX.out.1 HX.out.2.2.1.1 HF.out.1 HF.out.2.1 HF.out.2.2.1 HF.out.2.2.2.1 HF.out.2.2.2.2.2
      go_roundw
      case rel => exact ⟨i + 1, by omega, by go_num, hst⟩
      case measure => simp [intOf]; omega
    · obtain rfl : i = N := by omega
      obtain ⟨l', c, h1, h2, h3, h4, h5, h6, h7, h8⟩ := HC.out
      rw [H.out.1, List.take_length] at h2
      have HF := Lib.hid (And.intro h1 (And.intro h2 (And.intro h3 (And.intro h4 (And.intro h6 (And.intro h7 h8))))))
      clear h1 h2 h3 h4 h5 h6 h7 h8
      go_wp2_with fail
      go_ret
      rw [HCP.out]
      obtain ⟨h1, h2, h3, h4, h6, h7, h8⟩ := HF.out
      refine ⟨some ⟨g, 0, none⟩, l', rfl, h2, ⟨by unfold maxLen; omega, fun _ => ⟨g, 0, rfl, lt_of_heap h4, h8, h6⟩⟩, ?_, h7⟩
      exact It.InAll.kept (S := (g < ·)) ⟨fun b hb _ => ⟨by omega, rfl⟩, Nat.le_refl _⟩ _ h3
theorem copied_any : ∀ (N : Nat) (l : List It), It.szAll l ≤ N → CopiesSo l
  | 0, [], _ => copied_nil
  | 0, x :: r, h => by rw [It.szAll, It.sz_eq] at h; omega
  | N + 1, [], _ => copied_nil
  | N + 1, x :: r, h => copied_some _ (by simp) fun y hy => copied_any N y.l (by have := It.sz_mem hy; rw [It.sz_eq] at this; omega)

/-- What List hands back. -/
def ListPost (l : List It) (w : World) (e : Ending) (w' : World) : Prop := ∃ x : It, e = .returned x.val ∧ x.pure = .mk 3 0 ⟨#[]⟩ (It.pureAll l) ∧ x.In w' (w.heap.size ≤ ·) ∧ Below w.heap.size w w'
set_option maxRecDepth 100000 in
set_option maxHeartbeats 400000 in
theorem list_any (S : Nat → Prop) (l : List It) (a : Option Addr) (cap : Nat) (w : World) (hL : Lies w S a l) (hA : It.InAll w S l) (hsz : It.szAll l ≤ 1000000) :
    Calls Tryz.prog 26 #[.slice a l.length cap] w (ListPost l w) := by
  have hcp := fun w' (hb : Below w.heap.size w w') => copied_any _ l (Nat.le_refl _) S a cap w' (hL.kept (keptS_any hb)) (It.InAll.kept (keptS_any hb) _ hA) hsz
  obtain ⟨N, hN⟩ : ∃ N, N = l.length := ⟨_, rfl⟩
  rw [← hN] at hcp ⊢
  have H := Lib.hid (And.intro hcp hN)
  clear hcp hN hL hA hsz
  go_enter Tryz.func26, Tryz.ntmps26
  go_wp2_with fail
  refine (H.out.1 _ ((Below.refl _ _).alloc (Nat.le_refl _) _)).mono ?_
  rintro e w4 ⟨a', l', rfl, hp, hl, hi, hb4⟩
  rw [← H.out.2]
  have hrow : w4.heap[w.heap.size]? = some (.cells #[.int .i64 0, .int .i64 0, .string ⟨#[]⟩, .slice none 0 0] 60 (0, 0)) := by
    rw [hb4.block _ (by simp), heap_alloc_new]
  have f : ∀ j, w4.frozen? ⟨w.heap.size, j, none⟩ = false := fun j => Lib.frozen_of_heap hrow j
  have q0 : w4.cell? ⟨w.heap.size, 0, none⟩ = some (.int .i64 0) := by rw [Lib.cell_of_heap hrow]; rfl
  have q1 : w4.cell? ⟨w.heap.size, 1, none⟩ = some (.int .i64 0) := by rw [Lib.cell_of_heap hrow]; rfl
  have q2 : w4.cell? ⟨w.heap.size, 2, none⟩ = some (.string ⟨#[]⟩) := by rw [Lib.cell_of_heap hrow]; rfl
  have q3 : w4.cell? ⟨w.heap.size, 3, none⟩ = some (.slice none 0 0) := by rw [Lib.cell_of_heap hrow]; rfl
  have HF := Lib.hid (And.intro hp (And.intro hl (And.intro hi (And.intro hb4 hrow))))
  clear hp hl hi hb4 hrow
  go_wp2_with fail
  refine bodyPost_ret (v := .agg #[.int .i64 3, .int .i64 0, .string ⟨#[]⟩, .slice a' N N]) (by simp [results, Tryz.results26, go_sem, q0, q1, q2, q3]) rfl ?_
  obtain ⟨hp, hl, hi, hb4, hrow⟩ := HF.out
  have hk : KeptS ((w.alloc (.cells #[.int .i64 0, .int .i64 0, .string ⟨#[]⟩, .slice none 0 0] 60)).heap.size ≤ ·) (w.heap.size ≤ ·) w4 (w4.setCells w.heap.size 0 [.int .i64 3, .int .i64 0, .string ⟨#[]⟩, .slice a' N N]) := by
    refine ⟨fun b hgb hb => ⟨by simp at hgb; omega, c_heap_setCells_other _ _ (by simp at hgb; omega) _ _ _⟩, by rw [c_size_setCells]; exact Nat.le_refl _⟩
  have hn := pureAll_len hp
  refine ⟨.mk 3 0 ⟨#[]⟩ a' N l', ?_, ?_, ⟨Nat.zero_le _, hl.kept hk, It.InAll.kept hk _ hi⟩, ?_⟩
  · simp [It.val, It.cells, It.k, It.n, It.s, It.a, It.l, It.cap, hn, H.out.2]
  · rw [It.pure_eq]; show Pt.mk 3 0 ⟨#[]⟩ (It.pureAll l') = _; rw [hp]
  · refine below_setCells w.heap.size (Nat.le_refl _) [.int .i64 3, .int .i64 0, .string ⟨#[]⟩, .slice a' N N] 0 w4 ?_
    exact ((Below.refl _ _).alloc (Nat.le_refl _) _).trans (hb4.mono (by simp))
end Go.Proofs.YtefpfedpgedloaaGreatDoor
