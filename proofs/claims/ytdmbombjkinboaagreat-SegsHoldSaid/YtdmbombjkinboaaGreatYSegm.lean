/- segs: Segments: how many records each segment has. -/
import Derived.Test.YtdmbombjkinboaaGreatYBack
namespace Go.Proofs.YtdmbombjkinboaaGreat
open Go.RowKit Go.Shelf
open Dk Sg Fr
attribute [local go_sem] Oper.semAt_some

theorem run_make_ints (n : Nat) (h : n ≤ 1000000) (w : World) : (Instr.makeSlice 44 (.int .i64 (n : Int)) (.int .i64 (n : Int))).run Tryz.prog w = .ok (.slice (some ⟨w.heap.size, 0, none⟩) n n) (w.alloc (.cells (madeCells #[.int .i64 0] n) 3)) := by
  obtain ⟨i0, hi0, hz0, hz1, hz2⟩ := info_parts Tryz.info_int
  have := run_make (P := Tryz.prog) w 44 3 i0 _ Tryz.underlying44 hi0 hz0 .i64 .i64 n n (by omega) (Int.le_refl _) (by rw [hz2]; omega) (by omega)
  rw [hz1] at this
  simpa [Value.cells] using this
/-- How many records a segment has. -/
def cntL (l : List (Nat × List ByteArray)) (p : Nat) : Nat := (l.getD p (0, [])).2.length
theorem cntL_next {l : List (Nat × List ByteArray)} {p : Nat} (h : p < l.length) : ahead l (p + 1) = ahead l p + cntL l p := by
  obtain ⟨⟨x, rs⟩, hs⟩ : ∃ s, l[p]? = some s := ⟨_, List.getElem?_eq_getElem h⟩
  rw [ahead_next hs]
  unfold cntL
  rw [List.getD_eq_getElem?_getD, hs]; rfl
theorem cntL_map {l : List (Nat × List ByteArray)} {p : Nat} (h : p < l.length) : (l.map (fun s => s.2.length))[p]? = some (cntL l p) := by
  obtain ⟨s, hs⟩ : ∃ s, l[p]? = some s := ⟨_, List.getElem?_eq_getElem h⟩
  unfold cntL
  rw [List.getElem?_map, List.getD_eq_getElem?_getD, hs]; rfl
/-- What holds behind so many rounds: the boxes of l and end, the row that is filled from behind; what the iterator reads. -/
structure SegI (l : List (Nat × List ByteArray)) (M ga cap g : Nat) (w : World) (pre : List (Fin M)) (W : World) : Prop where
  body : ∃ (c : Array Value) (e : Nat), Boxed W (g + 1) 44 (.slice (some ⟨g, 0, none⟩) M M) ∧ W.heap[g]? = some (.cells c 3 (0, 0)) ∧ c.size = M ∧ Boxed W (g + 2) 3 (.int .i64 (e : Int)) ∧ e ≤ 1000000 ∧
    (pre <+: bk M → e = ahead l (M - pre.length) ∧ ∀ p, M - pre.length ≤ p → p < M → c[p]? = some (.int .i64 (cntL l p : Int)))
  box : Boxed W (g + 3) 67 (.slice (some ⟨ga, 0, none⟩) M cap)
  row : W.heap[ga]? = w.heap[ga]?
  low : Below w.heap.size w W
theorem SegI.own {l : List (Nat × List ByteArray)} {M ga cap g B : Nat} {w : World} {cur : Array Value} (hB : w.heap.size ≤ B) (hr : w.heap[ga]? = some (.cells cur 86 (0, 0))) : OwnFrom B (SegI l M ga cap g w) := by
  rintro s W W' row ⟨⟨c, e, h1, h2, h3, h4, h5, h6⟩, h7, h8, h9⟩ hg hrow
  have k : ∀ (j : Nat) (o : Obj), W.heap[j]? = some o → o.isCells = true → W'.heap[j]? = some o := fun j o hj ho => (grownBy_keeps_cells hg (fun r e => (hrow r e).2) hj ho).trans hj
  refine ⟨⟨c, e, k _ _ h1 rfl, k _ _ h2 rfl, h3, k _ _ h4 rfl, h5, h6⟩, k _ _ h7 rfl, ?_, ?_⟩
  · rw [hr] at h8 ⊢
    exact k _ _ h8 rfl
  · exact h9.grown hg h9.size (fun r e => Nat.le_trans hB (hrow r e).1)
theorem SegI.alloc {l : List (Nat × List ByteArray)} {M ga cap g : Nat} {w : World} {cur : Array Value} (hr : w.heap[ga]? = some (.cells cur 86 (0, 0))) {pre : List (Fin M)} {W : World} (h : SegI l M ga cap g w pre W) (o : Obj) : SegI l M ga cap g w pre (W.alloc o) :=
  SegI.own (Nat.le_refl _) hr pre W _ none h (World.grownBy_alloc W o none) (fun r e => by cases e)
set_option maxRecDepth 100000 in
set_option maxHeartbeats 2000000 in
theorem ssegm_any {w : World} {s b : Nat} {S : Stor} {a ar : Option Addr} {cap cr : Nat} {l : List (Nat × List ByteArray)} (hd : Hd w s b S (.slice a S.segs.length cap) (.slice ar S.recs.length cr)) (ho : OwnG w a cap S.segs) (hs : S.segs = segsAt l l.length) (hr : S.recs = Sg.flat l) (hne : l ≠ []) (hn : (Sg.flat l).length ≤ 1000000) (hM62 : l.length ≤ 62) :
    Calls Tryz.prog 23 #[.pointer (some ⟨s, 0, none⟩)] w fun e w' => ∃ g, e = .returned (.slice (some ⟨g, 0, none⟩) l.length l.length) ∧ OwnN w.heap.size w' (some ⟨g, 0, none⟩) l.length (l.map (fun s => s.2.length)) ∧ Below w.heap.size w w' := by
  obtain ⟨M, hM⟩ : ∃ M, M = l.length := ⟨_, rfl⟩
  have hM0 : 0 < M := by rw [hM]; exact List.length_pos_iff.2 hne
  have hsl : S.segs.length = M := by rw [hs, segsAt_length, hM]
  obtain ⟨L, hL⟩ : ∃ L, L = S.recs.length := ⟨_, rfl⟩
  have hLa : L = ahead l M := by rw [hL, hr, hM]; exact (ahead_all l).symm
  have hat : ∀ p, p < M → ∃ x, S.segs[p]? = some (x, ahead l p) := fun p hp => by
    obtain ⟨⟨x, rs⟩, hx⟩ : ∃ s, l[p]? = some s := ⟨_, List.getElem?_eq_getElem (by omega)⟩
    have := segsAt_get (i := l.length) hx
    rw [if_pos (by omega), ← hs] at this
    exact ⟨x, this⟩
  have hle : ∀ p, ahead l p ≤ 1000000 := fun p => Nat.le_trans (ahead_le l p) hn
  obtain ⟨x0, hx0⟩ := hat 0 hM0
  obtain ⟨ga, rfl, -, -, hga⟩ := ho.at hx0
  obtain ⟨cur, hcur⟩ : ∃ cur, w.heap[ga]? = some (.cells cur 86 (0, 0)) := by
    rcases ho.2 with ⟨e, -⟩ | ⟨g, c, cur, e, -, hg, -⟩
    · cases e
    · injection e with e1; injection e1 with e1; injection e1 with e1; subst e1; exact ⟨cur, hg⟩
  have hsg : ∀ (i : Nat) (x : Nat × Nat), S.segs[i]? = some x → w.cell? ⟨ga, i * 2, none⟩ = some (.int .i64 (x.1 : Int)) ∧ w.cell? ⟨ga, i * 2 + 1, none⟩ = some (.int .i64 (x.2 : Int)) := fun i x hx => by
    obtain ⟨g', e, c0, c1, -⟩ := ho.at hx
    injection e with e; injection e with e; subst e
    exact ⟨c0, c1⟩
  obtain ⟨-, -, -, -, q4, q5, -⟩ := hd_cells hd
  rw [hsl] at q4
  rw [← hL] at q5
  have hslt := hd.lt
  have q43 : ∀ o1 o2 o3, (((w.alloc o1).alloc o2).alloc o3).cell? ⟨s, 4, none⟩ = some (.slice (some ⟨ga, 0, none⟩) M cap) := fun o1 o2 o3 => by
    rw [← q4]
    exact ((((Below.refl w.heap.size w).alloc (Nat.le_refl _) o1).alloc (by simp) o2).alloc (by simp; omega) o3).cell (p := ⟨s, 4, none⟩) hslt
  have hM62' : M ≤ 62 := by omega
  have hmk := fun W => run_make_ints M (by omega) W
  have hL6 : L ≤ 1000000 := by rw [hLa]; exact hle _
  rw [← hM]
  have H := Lib.hid (And.intro hd (And.intro hsl (And.intro hat (And.intro hle (And.intro hsg (And.intro hcur (And.intro hLa hM)))))))
  clear hd ho hs hr hne hn hsl hL hat hle hx0 hsg hLa hcur hM hM62
  refine (callsIn_wide (n := 3)).1 ?_
  refine callsIn_of_wp_marks Tryz.func23 rfl trivial ?_ rfl
  simp only [Tryz.ntmps23, List.size_toArray, List.length_cons, List.length_nil, Nat.reduceAdd, Nat.reduceSub, Array.replicate_succ, Array.replicate_zero, List.push_toArray, List.append_toArray, List.nil_append, List.cons_append]
  gi_wp2
  refine ⟨trivial, ?_⟩
  refine (callsIn_wide.2 (sback_any _ _ _ _)).mono ?_
  rintro e w' ⟨rfl, rfl⟩
  gi_wp2
  have bL := Boxed.new (w.alloc (.cells (madeCells #[.int .i64 0] M) 3)) 44 (.slice (some ⟨w.heap.size, 0, none⟩) M M)
  have bE := Boxed.new ((w.alloc (.cells (madeCells #[.int .i64 0] M) 3)).alloc (.cells #[.slice (some ⟨w.heap.size, 0, none⟩) M M] 44)) 3 (.int .i64 (L : Int))
  have bS := Boxed.new (((w.alloc (.cells (madeCells #[.int .i64 0] M) 3)).alloc (.cells #[.slice (some ⟨w.heap.size, 0, none⟩) M M] 44)).alloc (.cells #[.int .i64 (L : Int)] 3)) 67 (.slice (some ⟨ga, 0, none⟩) M cap)
  have hB0 : Below w.heap.size w ((((w.alloc (.cells (madeCells #[.int .i64 0] M) 3)).alloc (.cells #[.slice (some ⟨w.heap.size, 0, none⟩) M M] 44)).alloc (.cells #[.int .i64 (L : Int)] 3)).alloc (.cells #[.slice (some ⟨ga, 0, none⟩) M cap] 67)) :=
    ((((Below.refl _ w).alloc (Nat.le_refl _) _).alloc (by simp) _).alloc (by simp; omega) _).alloc (by simp; omega) _
  have hrw := (Below.heap_alloc (((w.alloc (.cells (madeCells #[.int .i64 0] M) 3)).alloc (.cells #[.slice (some ⟨w.heap.size, 0, none⟩) M M] 44)).alloc (.cells #[.int .i64 (L : Int)] 3)) (.cells #[.slice (some ⟨ga, 0, none⟩) M cap] 67) w.heap.size (by simp; omega)).trans ((Below.heap_alloc ((w.alloc (.cells (madeCells #[.int .i64 0] M) 3)).alloc (.cells #[.slice (some ⟨w.heap.size, 0, none⟩) M M] 44)) (.cells #[.int .i64 (L : Int)] 3) w.heap.size (by simp; omega)).trans ((Below.heap_alloc (w.alloc (.cells (madeCells #[.int .i64 0] M) 3)) (.cells #[.slice (some ⟨w.heap.size, 0, none⟩) M M] 44) w.heap.size (by simp)).trans (heap_alloc_new w (.cells (madeCells #[.int .i64 0] M) 3))))
  rw [World.size_alloc] at bL
  rw [World.size_alloc, World.size_alloc] at bE
  rw [World.size_alloc, World.size_alloc, World.size_alloc] at bS
  obtain ⟨W0, hW0⟩ : ∃ W0, W0 = ((((w.alloc (.cells (madeCells #[.int .i64 0] M) 3)).alloc (.cells #[.slice (some ⟨w.heap.size, 0, none⟩) M M] 44)).alloc (.cells #[.int .i64 (L : Int)] 3)).alloc (.cells #[.slice (some ⟨ga, 0, none⟩) M cap] 67)) := ⟨_, rfl⟩
  have hsz0 : W0.heap.size = w.heap.size + 4 := by rw [hW0]; simp
  have bL1 : Boxed W0 (w.heap.size + 1) 44 (.slice (some ⟨w.heap.size, 0, none⟩) M M) := by rw [hW0]; exact (bL.alloc _).alloc _
  have bE1 : Boxed W0 (w.heap.size + 1 + 1) 3 (.int .i64 (L : Int)) := by rw [hW0]; exact bE.alloc _
  rw [← hW0] at bS hB0 hrw ⊢
  have hI0 : SegI l M ga cap w.heap.size w ([] : List (Fin M)) W0 := by
    refine ⟨⟨_, L, bL1, hrw, size_madeCells _ _, bE1, hL6, fun _ => ⟨H.out.2.2.2.2.2.2.1, fun p h1 h2 => ?_⟩⟩, bS, hB0.block ga hga, hB0⟩
    rw [List.length_nil] at h1; omega
  clear bL bE hW0 bL1 bE1 hrw
  have hst : SeqStopsK Fence.wide (3 - 1) Tryz.prog 62 #[.pointer (some ⟨w.heap.size + 1 + 1 + 1, 0, none⟩)] (encG S.segs) (KG (w.heap.size + 1 + 1 + 1) ga) (fun ys => ys = bk M) (fun pre => pre <+: bk M) M W0 :=
    fun l J Jx W hW hJ hJx hY h0 => back1_in _ (by decide) l (w.heap.size + 1 + 1 + 1) ga M cap S.segs H.out.2.1 (by omega) J Jx W hJ hY ((hW.cell (p := ⟨w.heap.size + 1 + 1 + 1, 0, none⟩) (by show w.heap.size + 1 + 1 + 1 < _; omega)).trans bS.cell)
      (fun i x hx => by
        obtain ⟨c0, c1⟩ := H.out.2.2.2.2.1 i x hx
        have hb := hB0.trans (hW.mono (by omega))
        exact ⟨(hb.cell (p := ⟨ga, i * 2, none⟩) hga).trans c0, (hb.cell (p := ⟨ga, i * 2 + 1, none⟩) hga).trans c1⟩) h0
  refine wpIn_rangeFunc_ownH rfl (by decide) (gf := 62) (lb := #[.pointer (some ⟨w.heap.size + 1 + 1 + 1, 0, none⟩)]) rfl trivial (enters_of Tryz.func62 (by kernel_rfl) rfl)
    hst (fun h k => h.trans k) (fun W l o o' hl h1 h2 h3 => ⟨by simp, World.putObj_heap_other (by omega), World.putObj_heap_other (by omega)⟩) (Below.refl _ _) (fun _ => rfl)
    (fun pre W => SegI l M ga cap w.heap.size w pre W) (fun _ _ _ => False)
    (SegI.own (by omega) H.out.2.2.2.2.2.1) (fun _ _ _ _ _ hs _ _ => hs) hI0
    (fun x a' W => ∃ G, W0.heap.size ≤ G ∧ W.heap[G]? = some (.cells #[.int .i64 ((S.segs.getD x.1 (0, 0)).1 : Int), .int .i64 ((S.segs.getD x.1 (0, 0)).2 : Int)] 86 (0, 0)) ∧ a' = { tmps := #[.pointer (some ⟨s, 0, none⟩), undef, .slice none 0 0, .pointer (some ⟨w.heap.size + 1, 0, none⟩), .pointer (some ⟨w.heap.size + 1 + 1, 0, none⟩), .int .i64 (x.1 : Int), .pointer (some ⟨G, 0, none⟩), .pointer (some ⟨s, 0, none⟩), .bool false, .pointer (some ⟨s, 0, none⟩), .pointer (some ⟨s, 0, none⟩), .pointer (some ⟨s, 4, none⟩), .slice (some ⟨ga, 0, none⟩) M cap, .int .i64 (M : Int), .slice (some ⟨w.heap.size, 0, none⟩) M M, .pointer (some ⟨s, 0, none⟩), .pointer (some ⟨s, 0, none⟩), .pointer (some ⟨s, 5, none⟩), .slice ar L cr, .int .i64 (L : Int), .pointer (some ⟨s, 0, none⟩), .pointer (some ⟨s, 0, none⟩), .pointer (some ⟨s, 4, none⟩), .slice (some ⟨ga, 0, none⟩) M cap, .func (.func 62) #[] #[.pointer (some ⟨w.heap.size + 1 + 1 + 1, 0, none⟩)], .int .i64 (x.1 : Int), .agg #[.int .i64 ((S.segs.getD x.1 (0, 0)).1 : Int), .int .i64 ((S.segs.getD x.1 (0, 0)).2 : Int)], undef, undef, undef, undef, undef, undef, undef, undef, undef, undef], defers := [] })
    (fun x a' _ X Y row hs hg hr => by
      obtain ⟨G, h1, h2, h3⟩ := hs
      exact ⟨G, h1, (grownBy_keeps_cells hg (fun r e => (hr r e).2) h2 rfl).trans h2, h3⟩)
    ?assign ?body ?done ?stop
  case assign =>
    rintro l' pre x W K hI hK
    simp only [encG]
    gi_wp2
    exact hK _ _ ((KeepsOthers.alloc _ _).from _) ⟨by simp, Below.heap_alloc _ _ _ hI.box.lt, Below.heap_alloc _ _ _ (by have := hI.low.size; omega)⟩ (hI.alloc H.out.2.2.2.2.2.1 _) ⟨W.heap.size, by have := hI.box.lt; omega, heap_alloc_new _ _, rfl⟩
  case body =>
    rintro l' pre x a' W hl' - hI ⟨G, hG, hbx, rfl⟩ hlt
    obtain ⟨⟨c, e, h1, h2, h3, h4, h5, h6⟩, h7, h8, h9⟩ := hI
    obtain ⟨xe, hxe⟩ := H.out.2.2.1 x.1 x.2
    have hgd : S.segs.getD x.1 (0, 0) = (xe, ahead l x.1) := by rw [List.getD_eq_getElem?_getD, hxe]; rfl
    rw [hgd] at hbx ⊢
    obtain ⟨k, hk⟩ : ∃ k, k = x.1 := ⟨_, rfl⟩
    have hkM : k < M := by rw [hk]; exact x.2
    rw [← hk] at hbx ⊢
    obtain ⟨ah, hah⟩ : ∃ ah, ah = ahead l k := ⟨_, rfl⟩
    rw [← hah] at hbx ⊢
    have hah6 : ah ≤ 1000000 := by rw [hah]; exact H.out.2.2.2.1 _
    obtain ⟨g0, g1, gf⟩ := box2 hbx
    have cL := h1.cell
    have cE := h4.cell
    have fE := h4.frozen
    have hfg : ∀ j, W.frozen? ⟨w.heap.size, j, none⟩ = false := fun j => frozen_of_row _ _ _ _ _ h2
    obtain ⟨old, hold⟩ : ∃ v, W.cell? ⟨w.heap.size, k, none⟩ = some v := by
      rw [cell_of_row _ _ _ _ _ _ h2]
      exact ⟨_, Array.getElem?_eq_getElem (by omega)⟩
    have hkM' : (k : Int) < (M : Int) := by omega
    have HH := Lib.hid (And.intro h1 (And.intro h2 (And.intro h3 (And.intro h4 (And.intro h6 (And.intro h7 (And.intro h8 (And.intro h9 (And.intro hbx (And.intro hah hk))))))))))
    clear h1 h2 h3 h4 h6 h7 h8 h9 hbx hah hk hxe hgd
    gi_wp2
    obtain ⟨h1, h2, h3, h4, h6, h7, h8, h9, hbx, hah, hk⟩ := HH.out
    have hset : ∀ j, j ≠ w.heap.size → j ≠ w.heap.size + 1 + 1 → ((W.setCell ⟨w.heap.size, k, none⟩ (.int .i64 ((e : Int) - ah))).setCell ⟨w.heap.size + 1 + 1, 0, none⟩ (.int .i64 (ah : Int))).heap[j]? = W.heap[j]? := fun j h1 h2 => (heap_setCell_other _ _ j _ h2).trans (heap_setCell_other _ _ j _ h1)
    have n1 : w.heap.size ≠ w.heap.size + 1 + 1 := by omega
    have hgw : ga ≠ w.heap.size ∧ ga ≠ w.heap.size + 1 + 1 := by omega
    refine ⟨((KeepsOthers.setCell _ _ _).from _).trans ((KeepsOthers.setCell _ _ _).from _), ⟨by simp, hset _ (by omega) (by omega), hset _ hgw.1 hgw.2⟩, ⟨⟨c.setIfInBounds k (.int .i64 ((e : Int) - ah)), ah, (hset _ (by omega) (by omega)).trans h1, (heap_setCell_other _ _ _ _ n1).trans (heap_setCell_same _ _ _ _ _ _ h2), by rw [Array.size_setIfInBounds]; exact h3, ?_, hah6, fun hp => ?_⟩, (hset _ (by omega) (by omega)).trans h7, (hset _ hgw.1 hgw.2).trans h8, (h9.setCell (p := ⟨w.heap.size, k, none⟩) (Nat.le_refl _) _).setCell (p := ⟨w.heap.size + 1 + 1, 0, none⟩) (by show w.heap.size ≤ w.heap.size + 1 + 1; omega) _⟩⟩
    · have h4' : (W.setCell ⟨w.heap.size, k, none⟩ (.int .i64 ((e : Int) - ah))).heap[w.heap.size + 1 + 1]? = some (.cells #[.int .i64 (e : Int)] 3 (0, 0)) := (heap_setCell_other _ _ _ _ n1.symm).trans h4
      exact heap_setCell_same _ _ 0 _ _ _ h4'
    · obtain ⟨hp1, hp2, hp3⟩ := bk_prefix hp
      obtain ⟨he, hc⟩ := h6 hp1
      rw [← hk] at hp3
      have hlen : (pre ++ [x]).length = pre.length + 1 := List.length_append
      rw [hlen]
      have hmk : M - (pre.length + 1) = k := by omega
      have hmk1 : M - pre.length = k + 1 := by omega
      rw [hmk]
      rw [hmk1] at he hc
      have hcn := cntL_next (l := l) (p := k) (by have := H.out.2.2.2.2.2.2.2; omega)
      rw [← hah] at hcn
      refine ⟨hah, fun p h1 h2 => ?_⟩
      by_cases hpk : p = k
      · subst hpk
        rw [Array.getElem?_setIfInBounds_self_of_lt (by omega)]
        congr 2
        omega
      · rw [Array.getElem?_setIfInBounds_ne (fun e => hpk e.symm)]
        exact hc p (by omega) h2
  case done =>
    rintro D ys W hD rfl hI hK
    obtain ⟨⟨c, e, h1, h2, h3, h4, h5, h6⟩, h7, h8, h9⟩ := hI
    obtain ⟨-, hc⟩ := h6 List.prefix_rfl
    rw [bk_length] at hc
    have hown : OwnN w.heap.size W (some ⟨w.heap.size, 0, none⟩) M (l.map (fun s => s.2.length)) := by
      have hMl := H.out.2.2.2.2.2.2.2
      have hlm : (l.map (fun s => s.2.length)).length = M := by rw [List.length_map]; exact hMl.symm
      refine ⟨by rw [ncells_length, Nat.mul_one], .inr ⟨w.heap.size, M, c, by rw [hlm], Nat.le_refl _, h2, by omega, by unfold maxLen; omega, by omega, ?_⟩⟩
      apply List.ext_getElem?
      intro j
      by_cases hj : j < M
      · rw [List.getElem?_take_of_lt (by omega), Array.getElem?_toList, hc j (by omega) hj]
        unfold ncells
        rw [List.getElem?_map, cntL_map (by omega)]; rfl
      · rw [List.getElem?_eq_none (by simp; omega), List.getElem?_eq_none (by rw [ncells_length]; omega)]
    have cL := h1.cell
    have HD := Lib.hid (And.intro hown (And.intro h9 h1))
    clear hown h1 h2 h4 h7 h8 h9 hc h6
    gi_wp2
    refine ⟨by simp, .inl ⟨_, _, rfl, run_takeDeferred hK, ?_⟩⟩
    refine ⟨_, results_tmp rfl _ _ _, w.heap.size, rfl, ?_, HD.out.2.1.trans (belowK_b (w := w) (Nat.le_refl _) W D _ _ (by omega) hK rfl rfl)⟩
    exact ownsRow_putObj HD.out.1 (.deferred none) hK rfl
  case stop =>
    rintro D c pre W _ _ h _
    exact h.elim
end Go.Proofs.YtdmbombjkinboaaGreat
