/- MX5, what is wanted of it. -/
import Derived.Test.YtdfkpjmljaanpaaGreatDoorZMX4
import Derived.Test.YtdfkpjmljaanpaaGreatDoorZMX2
import Derived.Shelf.Spec.SlicesInsert
import Derived.Shelf.Spec.SlicesInsertGrow
import Derived.Test.YtdfkpjmljaanpaaGreatDoorZMX3
import Derived.Laws.Cover1
import Derived.BigQuiet
import Derived.Deep.QuietTactic
import Derived.Lib.Bytealg
import Derived.Test.YtdfkpjmljaanpaaGreatDoorZClone
import Derived.Deep.RegionHeld
import Derived.Deep.DeepCutAuto
namespace Go.Proofs.YtdfkpjmljaanpaaGreatDoor
open Go.RowKit Go.Proofs
open Cn
theorem arow_rec : RecT 41 23 3 32 (.agg #[.string ⟨#[]⟩, .int .i64 0, .int .i64 0]) := ⟨Tryz.underlying23, by kernel_rfl, rfl, by decide⟩
/-- copy, of records of k cells. -/
theorem run_copy_k {P : Program} (w : World) (dT sT ty elem : TypeId) (k b o dLen dCap : Nat) (a : Addr) (sLen sCap n : Nat) (cs : List Value)
    (hu : P.underlying dT = some (.slice elem)) (hs : (P.info? elem).map (·.size) = some k) (hn : n = Nat.min sLen dLen) (hcl : cs.length = n * k)
    (hsrc : ∀ j v, cs[j]? = some v → w.cell? (a.add j) = some v) (hc : ∀ j, j < cs.length → (w.cell? ⟨b, o + j, none⟩).isSome = true) (hf : ∀ j, j < cs.length → w.frozen? ⟨b, o + j, none⟩ = false) (h1 : ∀ v ∈ cs, v.oneCell' = true) :
    (Builtin.copy_ #[dT, sT] ty #[.slice (some ⟨b, o, none⟩) dLen dCap, .slice (some a) sLen sCap]).run P w = .ok (goInt n) (w.setCells b o cs) := by
  have hl := run_firstCells_some (P := P) w k n a sLen sCap cs hcl hsrc
  have hst := run_storeCells_cells (P := P) b o cs 0 w (by simpa using hc) (by simpa using hf) h1
  cases hq : P.info? elem with
  | none => simp [hq] at hs
  | some i =>
    have hi : i.size = k := by simpa [hq] using hs
    simp [Builtin.copy_, run_underlying hu, Builtin.lenOf, sizeOf, typeInfo, hq, hi, ← hn, hl, hst]
theorem rcs_app {α : Type} (c : α → Array Value) (a b : List α) : rcs c (a ++ b) = rcs c a ++ rcs c b := by unfold rcs; rw [List.flatMap_append]
theorem rcs_take {α : Type} {c : α → Array Value} {k : Nat} (hk : ∀ x, (c x).size = k) (l : List α) (i : Nat) (hi : i ≤ l.length) : rcs c (l.take i) = (rcs c l).take (i * k) := by
  have h1 : (rcs c (l.take i)).length = i * k := by rw [rcs_length hk, List.length_take, Nat.min_eq_left hi]
  have h2 : rcs c l = rcs c (l.take i) ++ rcs c (l.drop i) := by rw [← rcs_app, List.take_append_drop]
  rw [h2, List.take_left' h1]
theorem rcs_drop {α : Type} {c : α → Array Value} {k : Nat} (hk : ∀ x, (c x).size = k) (l : List α) (i : Nat) (hi : i ≤ l.length) : rcs c (l.drop i) = (rcs c l).drop (i * k) := by
  have h1 : (rcs c (l.take i)).length = i * k := by rw [rcs_length hk, List.length_take, Nat.min_eq_left hi]
  have h2 : rcs c l = rcs c (l.take i) ++ rcs c (l.drop i) := by rw [← rcs_app, List.take_append_drop]
  conv => rhs; rw [h2]
  rw [List.drop_left' h1]
theorem rcs_one {l : List Rw} : ∀ v ∈ rcs rwCs l, v.oneCell' = true := fun v hv => by
  unfold rcs at hv
  obtain ⟨x, -, hx⟩ := List.mem_flatMap.1 hv
  exact rwCs_one x v hx
/-- The cells with one record more. -/
theorem ins_cells {l : List Rw} {i : Nat} (hi : i ≤ l.length) (x : Rw) (j : Nat) : (rcs rwCs (l.take i ++ x :: l.drop i))[j]? = if j < i * 3 then (rcs rwCs l)[j]? else if j < (i + 1) * 3 then (rwCs x)[j - i * 3]? else (rcs rwCs l)[j - 3]? := by
  have h1 : (rcs rwCs (l.take i)).length = i * 3 := by rw [rcs_length rwCs_size, List.length_take, Nat.min_eq_left hi]
  have hx : rcs rwCs (x :: l.drop i) = (rwCs x).toList ++ rcs rwCs (l.drop i) := by unfold rcs; rw [List.flatMap_cons]
  have h3 : (rwCs x).toList.length = 3 := rfl
  rw [rcs_app, hx]
  by_cases a : j < i * 3
  · rw [if_pos a, List.getElem?_append_left (by omega), rcs_take rwCs_size l i hi, List.getElem?_take_of_lt a]
  · rw [if_neg a, List.getElem?_append_right (by omega), h1]
    by_cases b : j < (i + 1) * 3
    · rw [if_pos b, List.getElem?_append_left (by omega), Array.getElem?_toList]
    · rw [if_neg b, List.getElem?_append_right (by omega), h3, rcs_drop rwCs_size l i hi, List.getElem?_drop]
      congr 1; omega
theorem ins_len (l : List Rw) {i : Nat} (hi : i ≤ l.length) (x : Rw) : (l.take i ++ x :: l.drop i).length = l.length + 1 := by
  rw [List.length_append, List.length_cons, List.length_take, List.length_drop]; omega
theorem ownR_ins {T : TypeId} {B : Nat} {w : World} {g cap : Nat} {l : List Rw} {i : Nat} (hi : i ≤ l.length) (x : Rw) (c : Array Value) (hB : B ≤ g) (hg : w.heap[g]? = some (.cells c T (0, 0))) (hc : c.size = cap * 3) (hn : l.length + 1 ≤ cap) (hm : cap ≤ maxLen)
    (hh : ∀ j, j < (l.length + 1) * 3 → c[j]? = if j < i * 3 then (rcs rwCs l)[j]? else if j < (i + 1) * 3 then (rwCs x)[j - i * 3]? else (rcs rwCs l)[j - 3]?) : OwnR T 3 rwCs B w (some ⟨g, 0, none⟩) cap (l.take i ++ x :: l.drop i) := by
  have hlen := ins_len l hi x
  have hrl : (rcs rwCs (l.take i ++ x :: l.drop i)).length = (l.length + 1) * 3 := by rw [rcs_length rwCs_size, hlen]
  unfold OwnR
  rw [hlen]
  refine ⟨hrl, .inr ⟨g, cap, c, rfl, hB, hg, hn, hm, hc, ?_⟩⟩
  apply List.ext_getElem?
  intro j
  by_cases hj : j < (l.length + 1) * 3
  · rw [List.getElem?_take_of_lt hj, Array.getElem?_toList, hh j hj, ins_cells hi]
  · rw [List.getElem?_eq_none (by rw [List.length_take]; omega), List.getElem?_eq_none (by omega)]
theorem info_arow : (Tryz.prog.info? 41).map (·.size) = some 3 := by
  have h := arow_rec.info
  obtain ⟨i0, hi0, hz0, hz1, hz2⟩ := info_parts h
  rw [hi0]; simp [hz1]
theorem add_lit (b o j : Nat) : (⟨b, o, none⟩ : Addr).add j = ⟨b, o + j, none⟩ := Addr.add_lit ..
set_option maxHeartbeats 4000000 in
set_option maxRecDepth 1000000 in
/-- There is room, not at the end: in place. -/
theorem insR_shift (g n c i vb : Nat) (cs vs : List Value) (w : World) (hi : i < n) (hroom : n + 1 ≤ c) (hc63 : c ≤ 9223372036854775807) (hvb : vb ≠ g) (hcl : cs.length = n * 3) (hvl : vs.length = 3)
    (hcs : ∀ j v, cs[j]? = some v → w.cell? ⟨g, j, none⟩ = some v) (hsp : ∀ j, j < (n + 1) * 3 → (w.cell? ⟨g, j, none⟩).isSome = true) (hfz : ∀ j, w.frozen? ⟨g, j, none⟩ = false)
    (hvs : ∀ j v, vs[j]? = some v → w.cell? ⟨vb, j, none⟩ = some v) (h1c : ∀ v ∈ cs, v.oneCell' = true) (h1v : ∀ v ∈ vs, v.oneCell' = true)
    (tA tB : TypeId) (kA kB : Nat) (hsa : w.shape? vb = some (tA, kA)) (hsb : w.shape? g = some (tB, kB)) (hkB : kB ≠ 0) (hfa : w.frozen? ⟨vb, 0, none⟩ = false) (hfe : w.frozen? ⟨vb, kA, none⟩ = false) :
    Calls Tryz.prog 128 #[.slice (some ⟨g, 0, none⟩) n c, .int .i64 i, .slice (some ⟨vb, 0, none⟩) 1 1] w fun e w' =>
      e = .returned (.slice (some ⟨g, 0, none⟩) (n + 1) c) ∧ w' = (w.drew.setCells g ((i + 1) * 3) (cs.drop (i * 3))).setCells g (i * 3) vs := by
  have mixed : Tryz.prog.follows Departure.mixedOrders = true := by kernel_rfl
  have hw1 : IntKind.i64.wrap ((i : Int) + 1) = (i : Int) + 1 := by rw [IntKind.wrap_i64]; omega
  have hz2 : ¬ ((i : Int) = (n : Int)) := by omega
  have hov : ∀ o lb cb, (callFunc 187 #[.slice (some ⟨vb, 0, none⟩) 1 1, .slice (some ⟨g, o, none⟩) lb cb]).run Tryz.prog w = .ok (.value (.bool false)) w := fun o lb cb => by
    rw [run_callFunc_extern Tryz.func187 (by kernel_rfl) (by kernel_rfl) (by kernel_rfl) (e := Extern.SlicesOverlaps.overlaps #[23, 23] #[4]) (by kernel_rfl),
      Lib.run_overlaps_apart w 23 4 41 Tryz.underlying23 3 Tryz.sizeOf41 ⟨vb, 0, none⟩ ⟨g, o, none⟩ 1 1 lb cb hvb tA tB kA kB hsa hsb hkB hfa hfe]
    rfl
  have hdl : (cs.drop (i * 3)).length = (n - i) * 3 := by rw [List.length_drop, hcl]; omega
  have hcp1 : ∀ ty dc sc, (Builtin.copy_ #[23, 23] ty #[.slice (some ⟨g, (i + 1) * 3, none⟩) (n - i) dc, .slice (some ⟨g, i * 3, none⟩) (n + 1 - i) sc]).run Tryz.prog w.drew = .ok (goInt (n - i : Nat)) (w.drew.setCells g ((i + 1) * 3) (cs.drop (i * 3))) := fun ty dc sc =>
    run_copy_k w.drew _ _ ty 41 3 g ((i + 1) * 3) (n - i) dc ⟨g, i * 3, none⟩ (n + 1 - i) sc (n - i) (cs.drop (i * 3)) Tryz.underlying23 info_arow (by simp only [Nat.min_def]; split <;> omega) hdl
      (fun j v hj => by rw [add_lit]; exact hcs _ v (by rwa [List.getElem?_drop] at hj))
      (fun j hj => hsp _ (by rw [hdl] at hj; omega)) (fun j hj => hfz _) (fun v hv => h1c v (List.mem_of_mem_drop hv))
  obtain ⟨W1, hW1⟩ : ∃ W1, W1 = w.drew.setCells g ((i + 1) * 3) (cs.drop (i * 3)) := ⟨_, rfl⟩
  have hsp1 : ∀ k, k < (n + 1) * 3 → (W1.cell? ⟨g, k, none⟩).isSome = true := fun k hk => by
    rw [hW1]
    exact isSome_setCells g (cs.drop (i * 3)) ((i + 1) * 3) w.drew (fun j hj => hsp ((i + 1) * 3 + j) (by rw [hdl] at hj; omega)) k (hsp k hk)
  have hcp2 : ∀ (W : World), (∀ x, W.cell? x = W1.cell? x) → (∀ x, W.frozen? x = W1.frozen? x) → ∀ ty dc, (Builtin.copy_ #[23, 23] ty #[.slice (some ⟨g, i * 3, none⟩) (n + 1 - i) dc, .slice (some ⟨vb, 0, none⟩) 1 1]).run Tryz.prog W = .ok (goInt (1 : Nat)) (W.setCells g (i * 3) vs) := fun W hWc hWf ty dc =>
    run_copy_k W _ _ ty 41 3 g (i * 3) (n + 1 - i) dc ⟨vb, 0, none⟩ 1 1 1 vs Tryz.underlying23 info_arow (by simp only [Nat.min_def]; split <;> omega) (by rw [hvl])
      (fun j v hj => by
        rw [add_lit, Nat.zero_add, hWc, hW1, World.cell?_setCells_out g _ _ _ _ (fun h _ => absurd h hvb)]
        exact hvs j v hj)
      (fun j hj => by rw [hWc]; exact hsp1 _ (by rw [hvl] at hj; omega)) (fun j hj => by rw [hWf, hW1, World.frozen?_setCells]; exact hfz _) h1v
  rw [← hW1] at hcp1
  have hb0 : (0 : Int) ≤ (i : Int) + 1 := by omega
  have hin : i ≤ n := by omega
  have htn : ((i : Int) + 1).toNat = i + 1 := by omega
  have htn2 : ((n : Int) + 1).toNat = n + 1 := by omega
  have hb2 : ¬ (c = i + 1) := by omega
  have hb3 : (i : Int) + 1 ≤ (n : Int) + 1 := by omega
  have hb6 : (i : Int) ≤ (n : Int) + 1 := by omega
  have hb4 : ¬ (c = i) := by omega
  have hb5 : ¬ ((c : Int) < (n : Int) + 1) := by omega
  have HS := Lib.hid (And.intro hcs (And.intro hsp (And.intro hfz (And.intro hvs (And.intro h1c h1v)))))
  clear hcs hsp hfz hvs h1c h1v hsp1 hsa hsb hfa hfe
  have HW := Lib.hid hW1
  clear hW1
  go_enter Tryz.func128, Tryz.ntmps128
  go_wp2_with (simp only [hov])
  go_region_law_o (refine step_copy_runI rfl _ _ 23 23 rfl _ _ (by simp [Act.eval, Act.put]) (by simp [Act.eval, Act.put]) (hcp1 _ _ _) ?_)
  go_wp2_with (at_builtin; refine wpList_copy_runI _ rfl _ _ 23 23 rfl _ _ rfl rfl (hcp2 _ (fun _ => rfl) (fun _ => rfl) _ _) ?_)
  go_ret
  exact ⟨rfl, by rw [HW.out]⟩
set_option maxHeartbeats 4000000 in
set_option maxRecDepth 1000000 in
/-- No room, not at the end: a new row. -/
theorem insR_grow (g n c i vb : Nat) (cs vs : List Value) (w : World) (hi : i < n) (hnc : n ≤ c) (hroom : c < n + 1) (hbig : n ≤ 1000000) (hcl : cs.length = n * 3) (hvl : vs.length = 3)
    (hcs : ∀ j v, cs[j]? = some v → w.cell? ⟨g, j, none⟩ = some v)
    (hvs : ∀ j v, vs[j]? = some v → w.cell? ⟨vb, j, none⟩ = some v) (h1c : ∀ v ∈ cs, v.oneCell' = true) (h1v : ∀ v ∈ vs, v.oneCell' = true) :
    Calls Tryz.prog 128 #[.slice (some ⟨g, 0, none⟩) n c, .int .i64 i, .slice (some ⟨vb, 0, none⟩) 1 1] w fun e w' =>
      ∃ G ROW, n + 1 ≤ G ∧ G ≤ maxLen ∧ ROW.size = G * 3 ∧ (∀ j, j < i * 3 → ROW[j]? = cs[j]?) ∧ e = .returned (.slice (some ⟨w.heap.size, 0, none⟩) (n + 1) G) ∧
      w' = (((w.alloc (.cells ROW 41)).drew.setCells w.heap.size (i * 3) vs).drew).setCells w.heap.size ((i + 1) * 3) (cs.drop (i * 3)) := by
  have mixed : Tryz.prog.follows Departure.mixedOrders = true := by kernel_rfl
  obtain ⟨i0, hi0, hz0, hzs, hzb⟩ := info_parts arow_rec.info
  have hbw : g < w.heap.size := block_lt_of_cell (hcs 0 _ (List.getElem?_eq_getElem (by omega)))
  have hvw : vb < w.heap.size := block_lt_of_cell (hvs 0 _ (List.getElem?_eq_getElem (by omega)))
  have hkk : (n : Int) + 1 - (i : Int) = ((n + 1 - i : Nat) : Int) := by omega
  have hik : i + (n + 1 - i) = n + 1 := by omega
  have hct : (cs.take (i * 3)).length = i * 3 := by rw [List.length_take]; omega
  have hold : (Builtin.firstCells i0.size i (.slice (some ⟨g, 0, none⟩) i c)).run Tryz.prog w.drew = .ok (cs.take (i * 3)).toArray w.drew := by
    rw [hzs]
    exact run_firstCells_some w.drew 3 i ⟨g, 0, none⟩ i c (cs.take (i * 3)) hct (fun j v hj => by
      rw [add_lit, Nat.zero_add]
      rw [List.getElem?_take] at hj
      split at hj
      · exact hcs j v hj
      · cases hj)
  obtain ⟨z, hz⟩ : ∃ z, z = (Value.agg #[.string ⟨#[]⟩, .int .i64 0, .int .i64 0]) := ⟨_, rfl⟩
  have hzc : z.cells.size = 3 := by rw [hz]; rfl
  rw [← hz] at hz0
  obtain ⟨G, hG⟩ : ∃ G, G = grownCap w (n + 1) c 41 := ⟨_, rfl⟩
  obtain ⟨ROW, hROW⟩ : ∃ ROW : Array Value, ROW = (cs.take (i * 3)).toArray ++ Builtin.zeroCells z.cells (n + 1 - i) ++ Builtin.zeroCells z.cells (G - (n + 1)) := ⟨_, rfl⟩
  have hrz : ∀ ty, (Builtin.append_ #[23, 3] ty #[.slice (some ⟨g, 0, none⟩) i c, .int .i64 ((n : Int) + 1 - (i : Int))]).run Tryz.prog w =
      .ok (.slice (some ⟨w.heap.size, 0, none⟩) (n + 1) G) (w.drew.alloc (.cells ROW 41)) := fun ty => by
    have h := Lib.run_append_grow_zeros w 23 3 ty 41 i0 z .i64 .i64 Tryz.underlying23 Tryz.underlying3 hi0 hz0 (some ⟨g, 0, none⟩) i c (cs.take (i * 3)) hold (n + 1 - i) (by omega) (by omega) (by omega) (by omega) (by rw [hzb]; omega) (by
      rw [hzb, hik]
      exact growslice_fits hroom (by omega))
    rw [hik, ← hG, ← hROW] at h
    rw [hkk]
    exact h
  have hGn : n + 1 ≤ G := by rw [hG]; exact grownCap_ge w _ _ _
  have hGm : G ≤ maxLen := by rw [hG]; exact grownCap_le_maxLen w (n + 1) c _ (by unfold maxLen; omega)
  have hRs : ROW.size = G * 3 := by
    rw [hROW, Array.size_append, Array.size_append, List.size_toArray, hct, size_zeroCells, size_zeroCells, hzc]; omega
  have hRk : ∀ j, j < i * 3 → ROW[j]? = cs[j]? := fun j hj => by
    rw [hROW, Array.getElem?_append_left (by rw [Array.size_append, List.size_toArray, hct]; omega), Array.getElem?_append_left (by rw [List.size_toArray, hct]; exact hj), List.getElem?_toArray, List.getElem?_take_of_lt hj]
  obtain ⟨W1, hW1⟩ : ∃ W1, W1 = w.drew.alloc (.cells ROW 41) := ⟨_, rfl⟩
  rw [← hW1] at hrz
  have hN : ∀ j, j < (n + 1) * 3 → (W1.cell? ⟨w.heap.size, j, none⟩).isSome = true := fun j hj => by
    rw [hW1, World.cell?_alloc_at (w := w.drew) ROW _ w.heap.size j rfl, Array.getElem?_eq_getElem (by omega)]; rfl
  have hNf : ∀ j, W1.frozen? ⟨w.heap.size, j, none⟩ = false := fun j => by rw [hW1]; exact World.frozen?_alloc_at (w := w.drew) ROW _ w.heap.size j rfl
  have hOb : ∀ j v, w.cell? ⟨g, j, none⟩ = some v → W1.cell? ⟨g, j, none⟩ = some v := fun j v h => by rw [hW1, World.cell?_alloc_past (w := w.drew) _ g j hbw]; exact h
  have hOv : ∀ j v, w.cell? ⟨vb, j, none⟩ = some v → W1.cell? ⟨vb, j, none⟩ = some v := fun j v h => by rw [hW1, World.cell?_alloc_past (w := w.drew) _ vb j hvw]; exact h
  have hcpA : ∀ (W : World), (∀ x, W.cell? x = W1.cell? x) → (∀ x, W.frozen? x = W1.frozen? x) → ∀ ty dc, (Builtin.copy_ #[23, 23] ty #[.slice (some ⟨w.heap.size, i * 3, none⟩) (n + 1 - i) dc, .slice (some ⟨vb, 0, none⟩) 1 1]).run Tryz.prog W = .ok (goInt (1 : Nat)) (W.setCells w.heap.size (i * 3) vs) := fun W hWc hWf ty dc =>
    run_copy_k W _ _ ty 41 3 w.heap.size (i * 3) (n + 1 - i) dc ⟨vb, 0, none⟩ 1 1 1 vs Tryz.underlying23 info_arow (by simp only [Nat.min_def]; split <;> omega) (by rw [hvl])
      (fun j v hj => by rw [add_lit, Nat.zero_add, hWc]; exact hOv _ v (hvs j v hj))
      (fun j hj => by rw [hWc]; exact hN _ (by rw [hvl] at hj; omega)) (fun j hj => by rw [hWf]; exact hNf _) h1v
  have hG63 : G ≤ 9223372036854775807 := by unfold maxLen at hGm; omega
  have hGi : ¬ (G = i) := by omega
  have hGim : ¬ (G = i + 1) := by omega
  have hci : ¬ (c = i) := by omega
  have hbN : g ≠ w.heap.size := by omega
  have hdl : (cs.drop (i * 3)).length = (n - i) * 3 := by rw [List.length_drop, hcl]; omega
  have hcpB : ∀ (W : World), (∀ x, W.cell? x = (W1.setCells w.heap.size (i * 3) vs).cell? x) → (∀ x, W.frozen? x = (W1.setCells w.heap.size (i * 3) vs).frozen? x) → ∀ ty dc sc, (Builtin.copy_ #[23, 23] ty #[.slice (some ⟨w.heap.size, (i + 1) * 3, none⟩) (n - i) dc, .slice (some ⟨g, i * 3, none⟩) (n - i) sc]).run Tryz.prog W = .ok (goInt (n - i : Nat)) (W.setCells w.heap.size ((i + 1) * 3) (cs.drop (i * 3))) := fun W hWc hWf ty dc sc =>
    run_copy_k W _ _ ty 41 3 w.heap.size ((i + 1) * 3) (n - i) dc ⟨g, i * 3, none⟩ (n - i) sc (n - i) (cs.drop (i * 3)) Tryz.underlying23 info_arow (by simp only [Nat.min_def]; split <;> omega) hdl
      (fun j v hj => by
        rw [add_lit, hWc, World.cell?_setCells_out _ _ _ _ _ (fun h _ => absurd h hbN)]
        exact hOb _ v (hcs (i * 3 + j) v (by rwa [List.getElem?_drop] at hj)))
      (fun j hj => by rw [hWc]; exact isSome_setCells w.heap.size vs (i * 3) W1 (fun t ht => hN _ (by rw [hvl] at ht; omega)) _ (hN _ (by rw [hdl] at hj; omega)))
      (fun j hj => by rw [hWf, World.frozen?_setCells]; exact hNf _) (fun v hv => h1c v (List.mem_of_mem_drop hv))
  subst hW1
  have hE1 : ∀ x, ((w.alloc (.cells ROW 41)).drew).cell? x = (w.drew.alloc (.cells ROW 41)).cell? x := fun x => rfl
  have hE2 : ∀ x, ((w.alloc (.cells ROW 41)).drew).frozen? x = (w.drew.alloc (.cells ROW 41)).frozen? x := fun x => rfl
  have hF1 : ∀ x, (((w.alloc (.cells ROW 41)).drew.setCells w.heap.size (i * 3) vs).drew).cell? x = ((w.drew.alloc (.cells ROW 41)).setCells w.heap.size (i * 3) vs).cell? x := fun x => rfl
  have hF2 : ∀ x, (((w.alloc (.cells ROW 41)).drew.setCells w.heap.size (i * 3) vs).drew).frozen? x = ((w.drew.alloc (.cells ROW 41)).setCells w.heap.size (i * 3) vs).frozen? x := fun x => rfl
  have hw1 : IntKind.i64.wrap ((i : Int) + 1) = (i : Int) + 1 := by rw [IntKind.wrap_i64]; omega
  have hz2 : ¬ ((i : Int) = (n : Int)) := by omega
  have hz3 : (c : Int) < (n : Int) + 1 := by omega
  have hb1 : (0 : Int) ≤ (i : Int) + 1 := by omega
  have hin : i ≤ n := by omega
  have htn : ((i : Int) + 1).toNat = i + 1 := by omega
  have hb3 : (i : Int) ≤ (n : Int) := by omega
  have hb4 : (i : Int) + 1 ≤ (n : Int) + 1 := by omega
  have hb5 : (i : Int) ≤ (n : Int) + 1 := by omega
  have HR := Lib.hid (And.intro hGn (And.intro hGm (And.intro hRs hRk)))
  clear hkk hik hold hROW hG hRs hRk hGm hN hNf hOb hOv hct hz hzc hz0 hcs hvs h1c h1v
  go_enter Tryz.func128, Tryz.ntmps128
  go_wp2_with (first
    | (at_builtin; refine Lib.wpList_append_run _ rfl _ _ _ _ rfl _ _ rfl rfl _ _ (hrz _) ?_)
    | (at_builtin; refine wpList_copy_runI _ rfl _ _ 23 23 rfl _ _ rfl rfl (hcpA _ hE1 hE2 _ _) ?_)
    | (at_builtin; refine wpList_copy_runI _ rfl _ _ 23 23 rfl _ _ rfl rfl (hcpB _ (fun _ => rfl) (fun _ => rfl) _ _ _) ?_))
  go_region_law_o (refine step_copy_runI rfl _ _ 23 23 rfl (.slice (some ⟨w.heap.size, (i + 1) * 3, none⟩) (n - i) (G - (i + 1))) (.slice (some ⟨g, i * 3, none⟩) (n - i) (c - i)) (by simp [Act.eval, Act.put]) (by simp [Act.eval, Act.put]) (hcpB _ hF1 hF2 3 (G - (i + 1)) (c - i)) ?_)
  go_wp2
  go_ret
  exact ⟨G, ROW, HR.out.1, HR.out.2.1, HR.out.2.2.1, HR.out.2.2.2, rfl, rfl⟩
theorem grown_of {w w' : World} (h : Below w.heap.size w w') (row : Option Nat) : w.grownBy w' row := ⟨h.os, h.tape, h.output, h.size, fun k hk _ => h.block k hk⟩
set_option maxHeartbeats 1000000 in
set_option maxRecDepth 1000000 in
/-- At the end. -/
theorem insR_end {B : Nat} {w : World} {ad : Option Addr} {cap : Nat} {l : List Rw} (h : OwnR 41 3 rwCs B w ad cap l) (hl : l.length ≤ 1000000) (x : Rw) (vb : Nat) (hv : w.heap[vb]? = some (.cells (rwCs x) 41 (0, 0))) (hB : B ≤ w.heap.size) :
    Calls Tryz.prog 128 #[.slice ad l.length cap, .int .i64 (l.length : Int), .slice (some ⟨vb, 0, none⟩) 1 1] w fun e w' => ∃ g1 cap', e = .returned (.slice (some ⟨g1, 0, none⟩) (l.length + 1) cap') ∧ OwnR 41 3 rwCs B w' (some ⟨g1, 0, none⟩) cap' (l ++ [x]) ∧ w.grownBy w' (Value.slice ad l.length cap).ownBlock ∧ ((Value.slice ad l.length cap).ownBlock = some g1 ∨ g1 = w.heap.size) := by
  obtain ⟨n, hn⟩ : ∃ n, n = l.length := ⟨_, rfl⟩
  obtain ⟨OB, hOB⟩ : ∃ OB, OB = (Value.slice ad l.length cap).ownBlock := ⟨_, rfl⟩
  rw [← hOB]
  have H := Lib.hid (And.intro h (And.intro hn (And.intro hv hOB)))
  rw [← hn] at hl ⊢
  clear h hn hv hOB
  go_enter Tryz.func128, Tryz.ntmps128
  go_wp2_with (at_builtin; (refine wpList_append_r rfl (.tmp 23) (.tmp 24) 23 rfl arow_rec rwCs_one rwCs_size H.out.1 _ H.out.2.1.symm rfl _ 1 x rfl H.out.2.2.1 (by omega) hB (Below.refl _ _) ?_; intro g1 cp1 w4 ho hb hgr hat; have HD := Lib.hid (And.intro ho (And.intro hgr hat)); clear ho hb hgr hat))
  all_goals (go_ret; refine ⟨_, _, rfl, HD.out.1, ?_, ?_⟩)
  all_goals (rw [H.out.2.2.2, ← H.out.2.1])
  all_goals (first | exact HD.out.2.1 | exact HD.out.2.2)
set_option maxHeartbeats 1000000 in
/-- One more row at a place. -/
theorem insR_any {B : Nat} {w : World} {ad : Option Addr} {cap : Nat} {l : List Rw} (h : OwnR 41 3 rwCs B w ad cap l) (hl : l.length ≤ 1000000) (x : Rw) (i : Nat) (hi : i ≤ l.length) (vb : Nat) (hv : w.heap[vb]? = some (.cells (rwCs x) 41 (0, 0)))
    (hne : ∀ g, (Value.slice ad l.length cap).ownBlock = some g → vb ≠ g) (hB : B ≤ w.heap.size) :
    Calls Tryz.prog 128 #[.slice ad l.length cap, .int .i64 (i : Int), .slice (some ⟨vb, 0, none⟩) 1 1] w fun e w' => ∃ g1 cap', e = .returned (.slice (some ⟨g1, 0, none⟩) (l.length + 1) cap') ∧ OwnR 41 3 rwCs B w' (some ⟨g1, 0, none⟩) cap' (l.take i ++ x :: l.drop i) ∧ w.grownBy w' (Value.slice ad l.length cap).ownBlock ∧ ((Value.slice ad l.length cap).ownBlock = some g1 ∨ g1 = w.heap.size) := by
  by_cases hend : i = l.length
  · subst hend
    refine (insR_end h hl x vb hv hB).mono ?_
    rintro e w' ⟨g1, cap', h1, h2, h3, h4⟩
    exact ⟨g1, cap', h1, by rw [List.take_of_length_le (Nat.le_refl _), List.drop_of_length_le (Nat.le_refl _)]; exact h2, h3, h4⟩
  · have hilt : i < l.length := by omega
    have hvs : ∀ j v, (rwCs x).toList[j]? = some v → w.cell? ⟨vb, j, none⟩ = some v := fun j v hj => by
      rw [cell_of_row _ _ _ _ _ _ hv, ← Array.getElem?_toList]; exact hj
    have hrl := rcs_length rwCs_size l
    have hvl : (rwCs x).toList.length = 3 := rfl
    rcases h.2 with ⟨e, hn0⟩ | ⟨g, cp, cur, e, hBg, hg, hn, hcm, hcs, ht⟩
    · omega
    · injection e with e1 e2 e3
      subst e1 e3
      have hcur : ∀ j, j < l.length * 3 → cur[j]? = (rcs rwCs l)[j]? := fun j hj => by
        rw [← ht, List.getElem?_take_of_lt hj, Array.getElem?_toList]
      have hcell : ∀ j, w.cell? ⟨g, j, none⟩ = cur[j]? := fun j => cell_of_row _ _ _ _ _ _ hg
      have hcsv : ∀ j v, (rcs rwCs l)[j]? = some v → w.cell? ⟨g, j, none⟩ = some v := fun j v hj => by
        have hjl : j < l.length * 3 := by rw [← hrl]; exact (List.getElem?_eq_some_iff.1 hj).1
        rw [hcell, hcur j hjl, hj]
      have hfz : ∀ j, w.frozen? ⟨g, j, none⟩ = false := fun j => frozen_of_row _ _ _ _ _ hg
      have hsome : ∀ j, j < cap * 3 → (w.cell? ⟨g, j, none⟩).isSome = true := fun j hj => by rw [hcell, Array.getElem?_eq_getElem (by omega)]; rfl
      have hdl : ((rcs rwCs l).drop (i * 3)).length = (l.length - i) * 3 := by rw [List.length_drop, hrl]; omega
      by_cases hroom : l.length + 1 ≤ cap
      · refine (insR_shift g l.length cap i vb (rcs rwCs l) (rwCs x).toList w hilt hroom (by unfold maxLen at hcm; omega) (hne g rfl) hrl hvl hcsv (fun j hj => hsome _ (by omega)) hfz hvs rcs_one (rwCs_one x)
          41 41 3 (cap * 3) (by unfold World.shape?; rw [hv]; rfl) (by unfold World.shape?; rw [hg]; simp [hcs]) (by omega) (frozen_of_row _ _ _ _ _ hv) (frozen_of_row _ _ _ _ _ hv)).mono ?_
        rintro e w' ⟨rfl, rfl⟩
        obtain ⟨c1, g1, s1, k1⟩ := heap_setCells g 41 ((rcs rwCs l).drop (i * 3)) ((i + 1) * 3) w.drew cur hg (by rw [hdl]; omega)
        obtain ⟨c2, g2, s2, k2⟩ := heap_setCells g 41 (rwCs x).toList (i * 3) _ c1 g1 (by rw [hvl]; omega)
        refine ⟨_, _, rfl, ownR_ins hi x c2 hBg g2 (by rw [s2, s1, hcs]) hroom hcm (fun j hj => ?_), ((show w.grownBy w.drew (some g) from ⟨rfl, rfl, rfl, Nat.le_refl _, fun _ _ _ => rfl⟩).trans (grownBy_setCells g _ _ w.drew)).trans (grownBy_setCells g _ _ _), .inl rfl⟩
        rw [k2, k1, hdl, hvl]
        by_cases hj2 : j < i * 3
        · rw [if_neg (by omega), if_neg (by omega), if_pos hj2, hcur j (by omega)]
        · by_cases hj3 : j < (i + 1) * 3
          · rw [if_pos (by omega), if_neg hj2, if_pos hj3, Array.getElem?_toList]
          · rw [if_neg (by omega), if_pos (by omega), if_neg hj2, if_neg hj3, List.getElem?_drop]
            congr 1; omega
      · refine (insR_grow g l.length cap i vb (rcs rwCs l) (rwCs x).toList w hilt hn (by omega) hl hrl hvl hcsv hvs rcs_one (rwCs_one x)).mono ?_
        rintro e w' ⟨G, ROW, hG1, hG2, hR1, hR2, rfl, rfl⟩
        obtain ⟨c1, g1, s1, k1⟩ := heap_setCells w.heap.size 41 (rwCs x).toList (i * 3) (w.alloc (.cells ROW 41)).drew ROW (heap_alloc_new w _) (by rw [hvl]; omega)
        obtain ⟨c2, g2, s2, k2⟩ := heap_setCells w.heap.size 41 ((rcs rwCs l).drop (i * 3)) ((i + 1) * 3) ((w.alloc (.cells ROW 41)).drew.setCells w.heap.size (i * 3) (rwCs x).toList).drew c1 g1 (by rw [hdl]; omega)
        refine ⟨_, _, rfl, ownR_ins hi x c2 hB g2 (by rw [s2, s1, hR1]) hG1 hG2 (fun j hj => ?_), grown_of (below_setCells _ (Nat.le_refl _) _ _ _ ((below_setCells _ (Nat.le_refl _) _ _ _ (((Below.refl _ _).alloc (Nat.le_refl _) _).drew)).drew)) _, .inr rfl⟩
        rw [k2, k1, hdl, hvl]
        by_cases hj2 : j < i * 3
        · rw [if_neg (by omega), if_neg (by omega), if_pos hj2, hR2 j hj2]
        · by_cases hj3 : j < (i + 1) * 3
          · rw [if_neg (by omega), if_pos (by omega), if_neg hj2, if_pos hj3, Array.getElem?_toList]
          · rw [if_pos (by omega), if_neg hj2, if_neg hj3, List.getElem?_drop]
            congr 1; omega
end Go.Proofs.YtdfkpjmljaanpaaGreatDoor
namespace Go.Proofs.YtdfkpjmljaanpaaGreatDoor
open Go.RowKit
open Cn
/-- Another own list stays as it is. -/
theorem OwnR.beside {α : Type} {T : TypeId} {k : Nat} {c : α → Array Value} {B : Nat} {w w' : World} {b : Option Addr} {cp : Nat} {m : List α} {row : Option Nat} (h : OwnR T k c B w b cp m) (hg : w.grownBy w' row) (hd : ∀ g, row = some g → (Value.slice b m.length cp).ownBlock ≠ some g) : OwnR T k c B w' b cp m := by
  refine World.ownsRow.kept h hg ?_
  cases hb : (Value.slice b m.length cp).ownBlock with
  | none => exact Or.inl rfl
  | some x => exact Or.inr fun e => hd x e.symm hb
/-- The cells of what Add answers. -/
def wiCs (a : Option Addr) (n ca : Nat) (p : Option Addr) (m cp : Nat) (e : Int) : Array Value := #[.slice a n ca, .slice p m cp, .int .i64 e]
/-- What Add is making, in a box behind all else. -/
structure WiS (w : World) (ob : Nat) (R : List Rw) (P : List Po) (a : Option Addr) (ca : Nat) (p : Option Addr) (cp : Nat) (W : World) : Prop where
  lo : w.heap.size < ob
  res : W.heap[w.heap.size]? = some (.cells (wiCs none 0 0 none 0 0 0) 116 (0, 0))
  row : W.heap[ob]? = some (.cells (wiCs a R.length ca p P.length cp 0) 116 (0, 0))
  own : OwnR 47 3 rwCs (ob + 1) W a ca R
  owp : OwnR 119 2 poCs (ob + 1) W p cp P
  far : ∀ g, (Value.slice a R.length ca).ownBlock = some g → (Value.slice p P.length cp).ownBlock ≠ some g
  below : Below w.heap.size w W
theorem WiS.size {w : World} {ob : Nat} {R : List Rw} {P : List Po} {a : Option Addr} {ca : Nat} {p : Option Addr} {cp : Nat} {W : World} (h : WiS w ob R P a ca p cp W) : ob + 1 ≤ W.heap.size := lt_of_heap h.row
theorem WiS.call {w : World} {ob : Nat} {R : List Rw} {P : List Po} {a : Option Addr} {ca : Nat} {p : Option Addr} {cp : Nat} {W W' : World} (h : WiS w ob R P a ca p cp W) (hb : Below W.heap.size W W') : WiS w ob R P a ca p cp W' :=
  ⟨h.lo, (hb.block _ (lt_of_heap h.res)).trans h.res, (hb.block _ (lt_of_heap h.row)).trans h.row, h.own.call hb, h.owp.call hb, h.far, h.below.trans (hb.mono h.below.size)⟩
theorem WiS.drew {w : World} {ob : Nat} {R : List Rw} {P : List Po} {a : Option Addr} {ca : Nat} {p : Option Addr} {cp : Nat} {W : World} (h : WiS w ob R P a ca p cp W) : WiS w ob R P a ca p cp W.drew := h.call ((Below.refl _ _).drew)
theorem WiS.cells {w : World} {ob : Nat} {R : List Rw} {P : List Po} {a : Option Addr} {ca : Nat} {p : Option Addr} {cp : Nat} {W : World} (h : WiS w ob R P a ca p cp W) :
    W.cell? ⟨ob, 0, none⟩ = some (.slice a R.length ca) ∧ W.cell? ⟨ob, 1, none⟩ = some (.slice p P.length cp) ∧ W.cell? ⟨ob, 2, none⟩ = some (.int .i64 0) ∧ (∀ j, W.frozen? ⟨ob, j, none⟩ = false) := by
  refine ⟨?_, ?_, ?_, fun j => Lib.frozen_of_heap h.row j⟩ <;> (rw [cell_of_row _ _ _ _ _ _ h.row]; rfl)
theorem wi0_cells {W : World} {g : Nat} {t : TypeId} (e : W.heap[g]? = some (.cells (wiCs none 0 0 none 0 0 0) t (0, 0))) :
    W.cell? ⟨g, 0, none⟩ = some (.slice none 0 0) ∧ W.cell? ⟨g, 1, none⟩ = some (.slice none 0 0) ∧ W.cell? ⟨g, 2, none⟩ = some (.int .i64 0) ∧ (∀ j, W.frozen? ⟨g, j, none⟩ = false) := by
  refine ⟨?_, ?_, ?_, fun j => Lib.frozen_of_heap e j⟩ <;> (rw [cell_of_row _ _ _ _ _ _ e]; rfl)
theorem put3 {w W : World} {g : Nat} (h : Below w.heap.size w W) (hg : w.heap.size ≤ g) (x y z : Value) : Below w.heap.size w (((W.setCell ⟨g, 0, none⟩ x).setCell ⟨g, 1, none⟩ y).setCell ⟨g, 2, none⟩ z) :=
  ((h.setCell (p := ⟨g, 0, none⟩) hg _).setCell (p := ⟨g, 1, none⟩) hg _).setCell (p := ⟨g, 2, none⟩) hg _
/-- One row more. -/
theorem WiS.rows {w : World} {ob : Nat} {R : List Rw} {P : List Po} {a : Option Addr} {ca : Nat} {p : Option Addr} {cp : Nat} {W W1 : World} (h : WiS w ob R P a ca p cp W) {r : Rw} {g1 c1 : Nat}
    (ho : OwnR 47 3 rwCs (ob + 1) W1 (some ⟨g1, 0, none⟩) c1 (R ++ [r])) (hb : Below (ob + 1) W W1) (hg : W.grownBy W1 (Value.slice a R.length ca).ownBlock) (hat : (Value.slice a R.length ca).ownBlock = some g1 ∨ g1 = W.heap.size) :
    WiS w ob (R ++ [r]) P (some ⟨g1, 0, none⟩) c1 p cp (W1.setCell ⟨ob, 0, none⟩ (.slice (some ⟨g1, 0, none⟩) (R.length + 1) c1)) := by
  have hr := (hb.block ob (by omega)).trans h.row
  have hlo := h.lo
  have hP : OwnR 119 2 poCs (ob + 1) W1 p cp P := h.owp.beside hg h.far
  refine ⟨h.lo, (heap_setCell_other _ _ _ _ (show w.heap.size ≠ ob by omega)).trans ((hb.block _ (by omega)).trans h.res), ?_, ho.other (by omega) _, hP.other (by omega) _, fun g hg1 hg2 => ?_, ?_⟩
  · rw [heap_setCell_same _ _ _ _ _ _ hr]
    simp [wiCs]
  · have e1 : g1 = g := by simpa [Value.ownBlock] using hg1
    subst e1
    rcases hat with h1 | h1
    · exact h.far _ h1 hg2
    · have := (h.owp.lt _ hg2).2
      omega
  · exact (h.below.trans (hb.mono (by omega))).setCell (p := ⟨ob, 0, none⟩) (Nat.le_of_lt hlo) _
/-- One posting more. -/
theorem WiS.posts {w : World} {ob : Nat} {R : List Rw} {P : List Po} {a : Option Addr} {ca : Nat} {p : Option Addr} {cp : Nat} {W W1 : World} (h : WiS w ob R P a ca p cp W) {r : Po} {g1 c1 : Nat}
    (ho : OwnR 119 2 poCs (ob + 1) W1 (some ⟨g1, 0, none⟩) c1 (P ++ [r])) (hb : Below (ob + 1) W W1) (hg : W.grownBy W1 (Value.slice p P.length cp).ownBlock) (hat : (Value.slice p P.length cp).ownBlock = some g1 ∨ g1 = W.heap.size) :
    WiS w ob R (P ++ [r]) a ca (some ⟨g1, 0, none⟩) c1 (W1.setCell ⟨ob, 1, none⟩ (.slice (some ⟨g1, 0, none⟩) (P.length + 1) c1)) := by
  have hr := (hb.block ob (by omega)).trans h.row
  have hlo := h.lo
  have hR : OwnR 47 3 rwCs (ob + 1) W1 a ca R := h.own.beside hg (fun g h1 h2 => h.far _ h2 h1)
  refine ⟨h.lo, (heap_setCell_other _ _ _ _ (show w.heap.size ≠ ob by omega)).trans ((hb.block _ (by omega)).trans h.res), ?_, hR.other (by omega) _, ho.other (by omega) _, fun g hg1 hg2 => ?_, ?_⟩
  · rw [heap_setCell_same _ _ _ _ _ _ hr]
    simp [wiCs]
  · have e1 : g1 = g := by simpa [Value.ownBlock] using hg2
    subst e1
    rcases hat with h1 | h1
    · exact h.far _ hg1 h1
    · have := (h.own.lt _ hg1).2
      omega
  · exact (h.below.trans (hb.mono (by omega))).setCell (p := ⟨ob, 1, none⟩) (Nat.le_of_lt hlo) _
/-- What Add answers. -/
def AdPost (Z : List Rw × List Po × Int) (w : World) (e : Ending) (w' : World) : Prop :=
  ∃ a ca p cp, e = .returned (.agg #[.slice a Z.1.length ca, .slice p Z.2.1.length cp, .int .i64 Z.2.2]) ∧ OwnR 47 3 rwCs w.heap.size w' a ca Z.1 ∧ OwnR 119 2 poCs w.heap.size w' p cp Z.2.1 ∧ Below w.heap.size w w'
/-- Tags that rise, told one beside the other. -/
theorem rises_adj : ∀ {l : List ByteArray}, (∀ (j : Nat) (s t : ByteArray), l[j]? = some s → l[j + 1]? = some t → Wd.less s t = true) → Ix.risesB l = true
  | [], _ => rfl
  | [a], _ => rfl
  | a :: b :: l, h => by
    rw [Ix.risesB, h 0 a b rfl rfl, rises_adj (l := b :: l) (fun j s t h1 h2 => h (j + 1) s t (by simpa using h1) (by simpa using h2))]
    rfl
theorem rises_at {l : List ByteArray} (h : Wd.Rises l) {j : Nat} {s t : ByteArray} (hs : l[j]? = some s) (ht : l[j + 1]? = some t) : Wd.less s t = true := by
  obtain ⟨h1, rfl⟩ := List.getElem?_eq_some_iff.1 hs
  obtain ⟨h2, rfl⟩ := List.getElem?_eq_some_iff.1 ht
  exact List.pairwise_iff_getElem.1 h j (j + 1) h1 h2 (by omega)
end Go.Proofs.YtdfkpjmljaanpaaGreatDoor
namespace Go.Proofs.YtdfkpjmljaanpaaGreatDoor
open Go.RowKit
open Cn
theorem tkB_false {rs : List Rw} {n : Int} {ts : List ByteArray} (h : ¬ ((0 ≤ n ∧ n ≤ 4095 ∧ ts.length ≤ 12) ∧ (∀ r ∈ rs, r.last < n) ∧ (∀ t ∈ ts, t.size = 32) ∧ Wd.Rises ts)) : Ix.adB rs n ts = false := by
  cases e : Ix.adB rs n ts with
  | false => rfl
  | true => exact absurd (Ix.adB_iff.1 e) h
theorem tgetD_at {ts : List ByteArray} {i : Nat} (h : i < ts.length) : ts[i]? = some (ts.getD i ByteArray.empty) := by
  rw [List.getD_eq_getElem?_getD, List.getElem?_eq_getElem h]; rfl
theorem tk_bl {s t : ByteArray} (h : Wd.less s t = true) : Op.bytesLess s.toList t.toList = true := h
theorem tk_bl0 {s t : ByteArray} (h : Wd.less s t = false) : Op.bytesLess s.toList t.toList = false := h
theorem tk_eq0 {s t : ByteArray} (h : s ≠ t) : (s.toList == t.toList) = false := by
  cases e : s.toList == t.toList with
  | false => rfl
  | true => exact absurd (Wd.toList_eq (by simpa using e)) h
set_option maxRecDepth 100000 in
set_option maxHeartbeats 8000000 in
theorem mayTake_any (rs : List Rw) (ts : List ByteArray) (a0 b0 : Option Addr) (c d : Nat) (n : Int) (w : World) (hT : RwAt w a0 rs) (hU : TextsAt w b0 ts) (hm : rs.length ≤ 1000000) (hm2 : ts.length ≤ 1000000000) :
    Calls Tryz.prog 127 #[.agg #[.slice a0 rs.length c], .int .i64 n, .slice b0 ts.length d] w fun e w' => e = .returned (.bool (Ix.adB rs n ts)) ∧ Below w.heap.size w w' := by
  obtain ⟨w1, hw1⟩ : ∃ w1, w1 = w.alloc (.cells #[.slice a0 rs.length c] 25) := ⟨_, rfl⟩
  have hb1 : Below w.heap.size w w1 := by rw [hw1]; exact (Below.refl _ _).alloc (Nat.le_refl _) _
  have hz1 : w.heap.size < w1.heap.size := by rw [hw1, World.size_alloc]; exact Nat.lt_succ_self _
  have c0 : w1.cell? ⟨w.heap.size, 0, none⟩ = some (.slice a0 rs.length c) := by rw [hw1, cell_of_row _ _ _ _ _ _ (heap_alloc_new _ _)]; rfl
  obtain ⟨N, hN⟩ : ∃ N, N = rs.length := ⟨_, rfl⟩
  obtain ⟨M, hM⟩ : ∃ M, M = ts.length := ⟨_, rfl⟩
  obtain ⟨Z, hZ⟩ : ∃ Z, Z = Ix.adB rs n ts := ⟨_, rfl⟩
  rw [← hN] at hm hw1 c0
  rw [← hM] at hm2
  rw [← hN, ← hM, ← hZ]
  have H := Lib.hid (And.intro hT (And.intro hU (And.intro hN (And.intro hM (And.intro hZ (And.intro hb1 hz1))))))
  clear hT hU hN hM hZ hb1 hz1
  by_cases h0 : n < 0
  · have HE := Lib.hid (H.out.2.2.2.2.1.trans (tkB_false (fun h => by have := h.1.1; omega)))
    go_enter Tryz.func127, Tryz.ntmps127
    go_upto_region 1 with fail
    rw [← hw1]
    clear hw1
    go_wp2_with fail
    go_ret
    exact ⟨by rw [HE.out]; rfl, H.out.2.2.2.2.2.1⟩
  by_cases h1 : 4096 ≤ n
  · have HE := Lib.hid (H.out.2.2.2.2.1.trans (tkB_false (fun h => by have := h.1.2.1; omega)))
    go_enter Tryz.func127, Tryz.ntmps127
    go_upto_region 1 with fail
    rw [← hw1]
    clear hw1
    go_wp2_with fail
    go_ret
    exact ⟨by rw [HE.out]; rfl, H.out.2.2.2.2.2.1⟩
  by_cases h2 : 12 < M
  · have HE := Lib.hid (H.out.2.2.2.2.1.trans (tkB_false (fun h => by have := h.1.2.2; have := H.out.2.2.2.1; omega)))
    go_enter Tryz.func127, Tryz.ntmps127
    go_upto_region 1 with fail
    rw [← hw1]
    clear hw1
    go_wp2_with fail
    go_ret
    exact ⟨by rw [HE.out]; rfl, H.out.2.2.2.2.2.1⟩
  have h2i : ¬ ((12 : Int) < (M : Int)) := by omega
  go_enter Tryz.func127, Tryz.ntmps127
  go_upto_region 1 with fail
  rw [← hw1]
  clear hw1
  go_wp2_with fail
  clear c0
  go_loopw [8, 25] (fun _ k wr => ∃ i : Nat, i ≤ N ∧ k = .int .i64 i ∧ (∀ (j : Nat) (r : Rw), rs[j]? = some r → j < i → r.last < n) ∧ Below w.heap.size w wr) (fun _ k _ => N - (intOf k).toNat)
  case atStart => exact ⟨0, by omega, rfl, fun j r _ h => by omega, H.out.2.2.2.2.2.1⟩
  case round =>
    obtain ⟨i, hi, rfl, hL, hb⟩ := hrel
    by_cases hlt : i < N
    · obtain ⟨r, hr⟩ : ∃ r, rs[i]? = some r := ⟨rs[i]'(by have := H.out.2.2.1; omega), List.getElem?_eq_getElem (by have := H.out.2.2.1; omega)⟩
      obtain ⟨b, off, rfl, hbl, d0, d1, d2⟩ := (H.out.1.below hb) i r hr
      obtain ⟨v3, hw3⟩ : ∃ w3, w3 = wr.alloc (.cells (rwCs r) 41) := ⟨_, rfl⟩
      have hb3 : Below wr.heap.size wr v3 := by rw [hw3]; exact (Below.refl _ _).alloc (Nat.le_refl _) _
      have hg3 : v3.heap[wr.heap.size]? = some (.cells (rwCs r) 41 (0, 0)) := by rw [hw3]; exact heap_alloc_new _ _
      obtain ⟨e0, e1, e2⟩ := row3 hg3
      have hb4 := hb.trans (hb3.mono hb.size)
      clear e0 e1 hg3 hb3
      obtain ⟨y, u, x⟩ := r
      simp only at d0 d1 d2 e2
      unfold rwCs at hw3
      simp only at hw3
      by_cases hle : n ≤ x
      · have HE := Lib.hid (And.intro (H.out.2.2.2.2.1.trans (tkB_false (fun h => by have := h.2.1 _ (List.mem_of_getElem? hr); simp only at this; omega))) hb4)
        clear hL hr hb hb4 hbl
        go_wp2_with fail
        rw [← hw3]
        clear hw3 d0 d1 d2
        go_wp2_with fail
        go_ret
        exact ⟨by rw [HE.out.1]; rfl, HE.out.2⟩
      · have HL := Lib.hid (And.intro (show ∀ (j : Nat) (r : Rw), rs[j]? = some r → j < i + 1 → r.last < n from fun j r' hj hji => by
            by_cases e : j = i
            · subst e; rw [hr] at hj; obtain rfl := Option.some.inj hj; simp only; omega
            · exact hL j r' hj (by omega)) hb4)
        clear hL hr hb hb4 hbl
        go_wp2_with fail
        rw [← hw3]
        clear hw3 d0 d1 d2
        go_wp2_with fail
        go_roundw
        case rel => exact ⟨i + 1, by omega, by go_num, HL.out.1, HL.out.2⟩
        case measure => simp [intOf]; omega
    · obtain rfl : N = i := by omega
      have HL := Lib.hid (And.intro (show ∀ r ∈ rs, r.last < n from fun r hr => by obtain ⟨j, hj, hjr⟩ := Ix.mem_at hr; exact hL j r hjr (by have := H.out.2.2.1; omega)) hb)
      clear hL hb
      go_wp2_with fail
      go_loopw [9, 10, 36] (fun _ _ k wr => ∃ i : Nat, i ≤ M ∧ k = .int .i64 i ∧ (∀ (j : Nat) (t : ByteArray), ts[j]? = some t → j < i → t.size = 32) ∧ (∀ (j : Nat) (s t : ByteArray), j + 1 < i → ts[j]? = some s → ts[j + 1]? = some t → Wd.less s t = true) ∧ Below w.heap.size w wr) (fun _ _ k _ => M - (intOf k).toNat)
      case atStart => exact ⟨0, by omega, rfl, fun j t _ h => by omega, fun j s t h _ _ => by omega, HL.out.2⟩
      case round =>
        obtain ⟨i, hi, rfl, h32, hrs, hb⟩ := hrel
        by_cases hlt : i < M
        · obtain ⟨tb, off, hb0, hbl, d0⟩ := (H.out.2.1.below hb) i (by have := H.out.2.2.2.1; omega)
          subst hb0
          obtain ⟨t, hte⟩ : ∃ t, t = ts.getD i ByteArray.empty := ⟨_, rfl⟩
          have ht : ts[i]? = some t := by rw [hte]; exact tgetD_at (by have := H.out.2.2.2.1; omega)
          rw [← hte] at d0
          clear hte hbl
          by_cases hsz : t.size = 32
          · have hsi : (t.size : Int) = 32 := by omega
            cases i with
            | zero =>
              have HN := Lib.hid (And.intro (show ∀ (j : Nat) (t : ByteArray), ts[j]? = some t → j < 0 + 1 → t.size = 32 from fun j t' hj hji => by
                  obtain rfl : j = 0 := by omega
                  rw [ht] at hj; obtain rfl := Option.some.inj hj; exact hsz) hb)
              have d1 : wr.cell? ⟨tb, off, none⟩ = some (.string t) := d0
              clear h32 hrs hb ht hsz d0
              go_wp2_with fail
              go_roundw
              case rel => exact ⟨1, by omega, by go_num, HN.out.1, fun j s t h _ _ => by omega, HN.out.2⟩
              case measure => simp [intOf]; omega
            | succ j =>
              obtain ⟨tb2, off2, hb2, hbl2, e0⟩ := (H.out.2.1.below hb) j (by have := H.out.2.2.2.1; omega)
              injection hb2 with hb2
              injection hb2 with q1 q2
              subst q1 q2
              obtain ⟨s, hse⟩ : ∃ s, s = ts.getD j ByteArray.empty := ⟨_, rfl⟩
              have hs : ts[j]? = some s := by rw [hse]; exact tgetD_at (by have := H.out.2.2.2.1; omega)
              rw [← hse] at e0
              clear hse hbl2
              by_cases hls : Wd.less s t = true
              · have HN := Lib.hid (And.intro (show ∀ (j' : Nat) (t : ByteArray), ts[j']? = some t → j' < j + 1 + 1 → t.size = 32 from fun j' t' hj hji => by
                      by_cases e : j' = j + 1
                      · subst e; rw [ht] at hj; obtain rfl := Option.some.inj hj; exact hsz
                      · exact h32 j' t' hj (by omega))
                    (And.intro (show ∀ (j' : Nat) (s t : ByteArray), j' + 1 < j + 1 + 1 → ts[j']? = some s → ts[j' + 1]? = some t → Wd.less s t = true from fun j' s' t' hji hs' hj => by
                      by_cases e : j' = j
                      · subst e; rw [hs] at hs'; rw [ht] at hj; obtain rfl := Option.some.inj hs'; obtain rfl := Option.some.inj hj; exact hls
                      · exact hrs j' s' t' (by omega) hs' hj) hb))
                have l1 : Op.bytesLess t.toList s.toList = false := tk_bl0 (Wd.less_asymm hls)
                have l2 : (t.toList == s.toList) = false := tk_eq0 (fun e => Wd.less_ne hls e.symm)
                clear h32 hrs hb ht hs hls hsz
                go_wp2_with fail
                go_roundw
                case rel => exact ⟨j + 1 + 1, by omega, by go_num, HN.out.1, HN.out.2.1, HN.out.2.2⟩
                case measure => simp [intOf]; omega
              · have HE := Lib.hid (And.intro (H.out.2.2.2.2.1.trans (tkB_false (fun h => hls (rises_at h.2.2.2 hs ht)))) hb)
                by_cases hte : t = s
                · subst hte
                  have l2 : (t.toList == t.toList) = true := by simp
                  have l1 : Op.bytesLess t.toList t.toList = false := tk_bl0 (Wd.less_irrefl t)
                  clear hls hs h32 hrs ht hsz hb
                  go_wp2_with fail
                  go_ret
                  exact ⟨by rw [HE.out.1]; rfl, HE.out.2⟩
                · have hlt2 : Wd.less t s = true := by rcases Wd.less_total hte with h | h; exact h; exact absurd h hls
                  have l1 : Op.bytesLess t.toList s.toList = true := tk_bl hlt2
                  have l2 : (t.toList == s.toList) = false := tk_eq0 hte
                  clear hls hs hlt2 hte h32 hrs ht hsz hb
                  go_wp2_with fail
                  go_ret
                  exact ⟨by rw [HE.out.1]; rfl, HE.out.2⟩
          · have hsi : ((t.size : Int) != 32) = true := by simp; omega
            have HE := Lib.hid (And.intro (H.out.2.2.2.2.1.trans (tkB_false (fun h => hsz (h.2.2.1 t (List.mem_of_getElem? ht))))) hb)
            clear h32 hrs ht hsz hb
            go_wp2_with fail
            go_ret
            exact ⟨by rw [HE.out.1]; rfl, HE.out.2⟩
        · obtain rfl : M = i := by omega
          have HE := Lib.hid (And.intro (H.out.2.2.2.2.1.trans (Ix.adB_iff.2 ⟨⟨by omega, by omega, by have := H.out.2.2.2.1; omega⟩, HL.out.1, fun t ht => by
              obtain ⟨j, hj, rfl⟩ := List.mem_iff_getElem.1 ht
              exact h32 j _ (List.getElem?_eq_getElem hj) (by have := H.out.2.2.2.1; omega),
            (Ix.risesB_iff _).1 (rises_adj (fun j s t hs ht => hrs j s t (by have := (List.getElem?_eq_some_iff.1 ht).1; have := H.out.2.2.2.1; omega) hs ht))⟩)) hb)
          clear h32 hrs hb
          go_wp2_with fail
          go_ret
          exact ⟨by rw [HE.out.1]; rfl, HE.out.2⟩
end Go.Proofs.YtdfkpjmljaanpaaGreatDoor
namespace Go.Proofs.YtdfkpjmljaanpaaGreatDoor
open Go.RowKit
open Cn
theorem apost_rec : RecT 120 110 2 24 (.agg #[.string ⟨#[]⟩, .int .i64 0]) := ⟨Tryz.underlying110, by kernel_rfl, rfl, by decide⟩
theorem OwnR.otherNe {α : Type} {T : TypeId} {k : Nat} {c : α → Array Value} {B : Nat} {w : World} {a : Option Addr} {cap : Nat} {l : List α} (h : OwnR T k c B w a cap l) {g o : Nat} (hg : ∀ q, (Value.slice a l.length cap).ownBlock = some q → q ≠ g) (v : Value) : OwnR T k c B (w.setCell ⟨g, o, none⟩ v) a cap l := by
  obtain ⟨h1, h2⟩ := h
  refine ⟨h1, ?_⟩
  rcases h2 with h2 | ⟨q, c, cur, e, hB, hq, h3⟩
  · exact .inl h2
  · have hne : q ≠ g := hg q (by rw [e]; rfl)
    exact .inr ⟨q, c, cur, e, hB, (heap_setCell_other w _ q v (fun e => hne e)).trans hq, h3⟩
/-- One cell of a record is stored. -/
theorem OwnR.put {α : Type} {T : TypeId} {k : Nat} {c : α → Array Value} {B : Nat} {w : World} {g cap : Nat} {l : List α} (h : OwnR T k c B w (some ⟨g, 0, none⟩) cap l) (hk : ∀ x, (c x).size = k) {j : Nat} {x : α} (hj : l[j]? = some x) (y : α) {m : Nat} (hm : m < k) (v : Value) (hy : c y = (c x).setIfInBounds m v) :
    OwnR T k c B (w.setCell ⟨g, j * k + m, none⟩ v) (some ⟨g, 0, none⟩) cap (l.set j y) := by
  have hjl := (List.getElem?_eq_some_iff.1 hj).1
  have h1 := (World.ownsRow.stored h (j * k + m) v).1
  have h2 : (rcs c l).set (j * k + m) v = rcs c (l.set j y) := by
    have hl1 := rcs_length hk l
    have hl2 := rcs_length hk (l.set j y)
    rw [List.length_set] at hl2
    apply List.ext_getElem?
    intro i
    by_cases hi : i < l.length * k
    · have hk0 : 0 < k := by omega
      obtain ⟨q, s, hs, rfl⟩ : ∃ q s, s < k ∧ i = q * k + s := ⟨i / k, i % k, Nat.mod_lt _ hk0, by rw [Nat.mul_comm]; exact (Nat.div_add_mod i k).symm⟩
      have hq : q < l.length := by
        rcases Nat.lt_or_ge q l.length with h3 | h3
        · exact h3
        · have := Nat.mul_le_mul_right k h3
          omega
      by_cases e : q = j
      · subst e
        rw [rcs_at hk (l.set q y) q y (by rw [List.getElem?_set_self hq]) s hs, hy]
        by_cases e2 : s = m
        · subst e2
          rw [List.getElem?_set_self (by omega), Array.getElem?_setIfInBounds_self_of_lt (by rw [hk]; exact hs)]
        · rw [List.getElem?_set_ne (by omega), Array.getElem?_setIfInBounds_ne (fun h => e2 h.symm), rcs_at hk l q x hj s hs]
      · have hne : j * k + m ≠ q * k + s := by
          intro h3
          rcases Nat.lt_or_gt_of_ne e with h4 | h4
          · have := Nat.mul_le_mul_right k (show q + 1 ≤ j from h4)
            rw [Nat.succ_mul] at this; omega
          · have := Nat.mul_le_mul_right k (show j + 1 ≤ q from h4)
            rw [Nat.succ_mul] at this; omega
        obtain ⟨z, hz⟩ : ∃ z, l[q]? = some z := ⟨_, List.getElem?_eq_getElem hq⟩
        rw [List.getElem?_set_ne hne, rcs_at hk l q z hz s hs, rcs_at hk (l.set j y) q z (by rw [List.getElem?_set_ne (fun h => e h.symm)]; exact hz) s hs]
    · rw [List.getElem?_eq_none (by rw [List.length_set]; omega), List.getElem?_eq_none (by omega)]
  unfold OwnR
  rw [← h2, List.length_set]
  exact h1
/-- The state. -/
structure WtS (w : World) (gy : Nat) (R : List Rw) (P : List Po) (a : Option Addr) (ca : Nat) (p : Option Addr) (cp : Nat) (W : World) : Prop where
  lo : w.heap.size + 2 ≤ gy
  res : W.heap[w.heap.size + 1]? = some (.cells #[.slice none 0 0] 25 (0, 0))
  row : W.heap[gy]? = some (.cells #[.slice a R.length ca] 25 (0, 0))
  own : OwnR 41 3 rwCs (w.heap.size + 2) W a ca R
  owp : OwnR 120 2 poCs (w.heap.size + 2) W p cp P
  ay : ∀ g, (Value.slice a R.length ca).ownBlock = some g → g ≠ gy
  py : ∀ g, (Value.slice p P.length cp).ownBlock = some g → g ≠ gy
  far : ∀ g, (Value.slice a R.length ca).ownBlock = some g → (Value.slice p P.length cp).ownBlock ≠ some g
  below : Below w.heap.size w W
section
variable {w : World} {gy : Nat} {R : List Rw} {P : List Po} {a : Option Addr} {ca : Nat} {p : Option Addr} {cp : Nat} {W : World}
theorem WtS.size (h : WtS w gy R P a ca p cp W) : gy < W.heap.size := lt_of_heap h.row
theorem WtS.call {W' : World} (h : WtS w gy R P a ca p cp W) (hb : Below W.heap.size W W') : WtS w gy R P a ca p cp W' :=
  ⟨h.lo, (hb.block _ (lt_of_heap h.res)).trans h.res, (hb.block _ (lt_of_heap h.row)).trans h.row, h.own.call hb, h.owp.call hb, h.ay, h.py, h.far, h.below.trans (hb.mono h.below.size)⟩
theorem WtS.cell (h : WtS w gy R P a ca p cp W) : W.cell? ⟨gy, 0, none⟩ = some (.slice a R.length ca) := by rw [cell_of_row _ _ _ _ _ _ h.row]; rfl
/-- A store into another box. -/
theorem WtS.other (h : WtS w gy R P a ca p cp W) {g : Nat} (hl : w.heap.size + 2 ≤ g) (hy : g ≠ gy) (ha : ∀ q, (Value.slice a R.length ca).ownBlock = some q → q ≠ g) (hp : ∀ q, (Value.slice p P.length cp).ownBlock = some q → q ≠ g) (o : Nat) (v : Value) :
    WtS w gy R P a ca p cp (W.setCell ⟨g, o, none⟩ v) :=
  ⟨h.lo, (heap_setCell_other _ _ _ _ (show w.heap.size + 1 ≠ g by omega)).trans h.res, (heap_setCell_other _ _ _ _ (show gy ≠ g from fun e => hy e.symm)).trans h.row, h.own.otherNe ha _, h.owp.otherNe hp _, h.ay, h.py, h.far, h.below.setCell (p := ⟨g, o, none⟩) (show w.heap.size ≤ g by omega) _⟩
/-- The rows are another list now, and its slice is laid into the box. -/
theorem WtS.ins (h : WtS w gy R P a ca p cp W) {R' : List Rw} {W1 : World} {g1 c1 n : Nat} (hn : R'.length = n) (ho : OwnR 41 3 rwCs (w.heap.size + 2) W1 (some ⟨g1, 0, none⟩) c1 R') (hg : W.grownBy W1 (Value.slice a R.length ca).ownBlock)
    (hat : (Value.slice a R.length ca).ownBlock = some g1 ∨ W.heap.size ≤ g1) : WtS w gy R' P (some ⟨g1, 0, none⟩) c1 p cp (W1.setCell ⟨gy, 0, none⟩ (.slice (some ⟨g1, 0, none⟩) n c1)) := by
  subst hn
  have hs := h.size
  have hlo := h.lo
  have hob : (Value.slice (some ⟨g1, 0, none⟩) R'.length c1).ownBlock = some g1 := rfl
  have hg1 : g1 ≠ gy := by
    rcases hat with h1 | h1
    · exact h.ay _ h1
    · omega
  have hr : W1.heap[gy]? = some (.cells #[.slice a R.length ca] 25 (0, 0)) := (hg.block gy hs (fun e => h.ay gy e.symm rfl)).trans h.row
  have hr2 : W1.heap[w.heap.size + 1]? = some (.cells #[.slice none 0 0] 25 (0, 0)) := (hg.block _ (lt_of_heap h.res) (fun e => by have := (h.own.lt _ e.symm).1; omega)).trans h.res
  refine ⟨hlo, (heap_setCell_other _ _ _ _ (show w.heap.size + 1 ≠ gy by omega)).trans hr2, ?_, ho.otherNe (fun q hq => ?_) _, (h.owp.beside hg h.far).otherNe h.py _, fun g hgg => ?_, h.py, fun g hgg => ?_, ?_⟩
  · rw [heap_setCell_same _ _ _ _ _ _ hr]; rfl
  · rw [hob] at hq; injection hq with hq; rw [← hq]; exact hg1
  · rw [hob] at hgg; injection hgg with hgg; rw [← hgg]; exact hg1
  · rw [hob] at hgg; injection hgg with hgg; subst hgg
    rcases hat with h1 | h1
    · exact h.far _ h1
    · intro e
      have := (h.owp.lt _ e).2
      omega
  · exact (h.below.grown hg h.below.size (fun k hk => by have := (h.own.lt k hk).1; omega)).setCell (p := ⟨gy, 0, none⟩) (show w.heap.size ≤ gy by omega) _
/-- One cell of a row. -/
theorem WtS.put {g : Nat} (h : WtS w gy R P (some ⟨g, 0, none⟩) ca p cp W) {j : Nat} {r : Rw} (hj : R[j]? = some r) (r' : Rw) {m : Nat} (hm : m < 3) (v : Value) (hy : rwCs r' = (rwCs r).setIfInBounds m v) : WtS w gy (R.set j r') P (some ⟨g, 0, none⟩) ca p cp (W.setCell ⟨g, j * 3 + m, none⟩ v) := by
  have hlo := (h.own.lt g rfl).1
  have hob : ∀ n, (Value.slice (some ⟨g, 0, none⟩) n ca).ownBlock = some g := fun _ => rfl
  refine ⟨h.lo, (heap_setCell_other _ _ _ _ (show w.heap.size + 1 ≠ g by omega)).trans h.res, (heap_setCell_other _ _ _ _ (show gy ≠ g from fun e => h.ay g rfl e.symm)).trans (by rw [List.length_set]; exact h.row), h.own.put rwCs_size hj r' hm v hy, h.owp.otherNe (fun q hq e => h.far g rfl (by rw [← e]; exact hq)) _, fun q hq => h.ay q (by rw [hob] at hq ⊢; exact hq), h.py, fun q hq => h.far q (by rw [hob] at hq ⊢; exact hq), ?_⟩
  exact h.below.setCell (p := ⟨g, j * 3 + m, none⟩) (show w.heap.size ≤ g by omega) _
/-- One posting more. -/
theorem WtS.posts (h : WtS w gy R P a ca p cp W) {W1 : World} {q : Po} {g1 c1 : Nat} (ho : OwnR 120 2 poCs (w.heap.size + 2) W1 (some ⟨g1, 0, none⟩) c1 (P ++ [q])) (hg : W.grownBy W1 (Value.slice p P.length cp).ownBlock)
    (hat : (Value.slice p P.length cp).ownBlock = some g1 ∨ g1 = W.heap.size) : WtS w gy R (P ++ [q]) a ca (some ⟨g1, 0, none⟩) c1 W1 := by
  have hs := h.size
  have hlo := h.lo
  have hob : ∀ n, (Value.slice (some ⟨g1, 0, none⟩) n c1).ownBlock = some g1 := fun _ => rfl
  refine ⟨hlo, (hg.block _ (lt_of_heap h.res) (fun e => by have := (h.owp.lt _ e.symm).1; omega)).trans h.res, (hg.block gy hs (fun e => h.py gy e.symm rfl)).trans h.row, h.own.beside hg (fun g h1 h2 => h.far g h2 h1), ho, h.ay, fun g hgg => ?_, fun g h1 h2 => ?_, h.below.grown hg h.below.size (fun k hk => by have := (h.owp.lt k hk).1; omega)⟩
  · rw [hob] at hgg; injection hgg with hgg; subst hgg
    rcases hat with h1 | h1
    · exact h.py _ h1
    · omega
  · rw [hob] at h2; injection h2 with h2; subst h2
    rcases hat with h3 | h3
    · exact h.far _ h1 h3
    · have := (h.own.lt _ h1).2
      omega
end
theorem rwAt_cells {w : World} {b off : Nat} {l : List Rw} (h : RwAt w (some ⟨b, off, none⟩) l) : ∀ j u, (rcs rwCs l)[j]? = some u → w.cell? ⟨b, off + j, none⟩ = some u := fun j u hj => by
  have hl := rcs_length rwCs_size l
  have hjl : j < l.length * 3 := by rw [← hl]; exact (List.getElem?_eq_some_iff.1 hj).1
  obtain ⟨q, s, hs, rfl⟩ : ∃ q s, s < 3 ∧ j = q * 3 + s := ⟨j / 3, j % 3, by omega, by omega⟩
  have hq : q < l.length := by omega
  obtain ⟨x, hx⟩ : ∃ x, l[q]? = some x := ⟨_, List.getElem?_eq_getElem hq⟩
  rw [rcs_at rwCs_size l q x hx s hs] at hj
  obtain ⟨c0, c1, c2⟩ := h.cells hx
  match s, hs with
  | 0, _ => rw [Nat.add_zero, c0]; exact hj
  | 1, _ => rw [← Nat.add_assoc, c1]; exact hj
  | 2, _ => rw [← Nat.add_assoc, c2]; exact hj
set_option maxRecDepth 100000 in
/-- append(x[:0:0], x...): a new row. -/
theorem run_rows0 (w : World) (a0 : Option Addr) (c n : Nat) (rs : List Rw) (hn : rs.length = n) (hT : RwAt w a0 rs) (h0 : rs = [] → a0 = none) (hm : n ≤ 1000000) (ty : TypeId) :
    ∃ a cap w', (Builtin.append_ #[23, 23] ty #[.slice a0 0 0, .slice a0 n c]).run Tryz.prog w = .ok (.slice a n cap) w' ∧ OwnR 41 3 rwCs w.heap.size w' a cap rs ∧ Below w.heap.size w w' ∧ (rs = [] → a = none) := by
  obtain ⟨i0, hi0, hz0, hz1, hz2⟩ := info_parts arow_rec.info
  obtain ⟨z, hz⟩ : ∃ z, z = (Value.agg #[.string ⟨#[]⟩, .int .i64 0, .int .i64 0]) := ⟨_, rfl⟩
  have hzc : z.cells.size = 3 := by rw [hz]; rfl
  rw [← hz] at hz0
  clear hz
  subst hn
  cases rs with
  | nil =>
    rw [h0 rfl]
    refine ⟨none, 0, w, ?_, OwnR.nil _ _ _ _ _, Below.refl _ _, fun _ => rfl⟩
    have hs : Src Tryz.prog 3 23 (.slice none 0 c) 0 [] w := Src.ofNil w Tryz.underlying23 c
    simp [Builtin.append_, run_underlying Tryz.underlying23, sizeOf, typeInfo, hi0, hz1, hs.cells, Builtin.lenOf]
  | cons r l =>
    obtain ⟨b, off, rfl, hb, -⟩ := hT 0 r rfl
    have hs : Src Tryz.prog i0.size 23 (.slice (some ⟨b, off, none⟩) (r :: l).length c) (r :: l).length (rcs rwCs (r :: l)) w := by
      rw [hz1]
      exact Src.ofSlice w Tryz.underlying23 ⟨b, off, none⟩ _ _ _ (rcs_length rwCs_size _) (fun j u hj => by rw [add_lit]; exact rwAt_cells hT j u hj) rcs_one
    have hold : (Builtin.firstCells i0.size 0 (.slice (some ⟨b, off, none⟩) 0 0)).run Tryz.prog w.drew = .ok ([] : List Value).toArray w.drew :=
      run_firstCells_some (P := Tryz.prog) w.drew i0.size 0 ⟨b, off, none⟩ 0 0 [] (by simp) (fun j u hu => by cases hu)
    have hr := run_append_grow_src (P := Tryz.prog) w 23 23 ty 41 i0 _ Tryz.underlying23 hi0 hz0 (some ⟨b, off, none⟩) 0 0 [] hold _ (r :: l).length (rcs rwCs (r :: l)) hs (by simp) (by omega) (growslice_fits (by simp) (by rw [hz2]; omega))
    rw [Nat.zero_add, List.nil_append] at hr
    refine ⟨_, _, _, hr, ?_, ((Below.refl _ _).drew).alloc (Nat.le_refl _) _, fun e => by cases e⟩
    have hge := grownCap_ge w (r :: l).length 0 41
    have hcm : grownCap w (r :: l).length 0 41 ≤ maxLen := grownCap_le_maxLen w _ _ _ (by unfold maxLen; omega)
    have hrl := rcs_length rwCs_size (r :: l)
    refine ⟨hrl, .inr ⟨w.heap.size, _, _, rfl, Nat.le_refl _, heap_alloc_new w.drew _, hge, hcm, ?_, ?_⟩⟩
    · rw [Array.size_append, List.size_toArray, size_zeroCells, hzc, hrl]
      omega
    · rw [Array.toList_append]
      exact List.take_left' hrl
theorem step_rows0 {ops : Array Oper} {o : Oper} {act : Act} {K : Act → World → Prop} {Q : Exit → Act → World → Prop} {E : Prop} {w : World} (hgd : o.guard = none) (s x : Operand)
    (ho : o.op = .call { callee := .builtin .append, args := #[s, x], argTypes := #[23, 23] })
    (a0 : Option Addr) (c n : Nat) (rs : List Rw) (hn : rs.length = n) (hs : act.eval s = .slice a0 0 0) (hx : act.eval x = .slice a0 n c) (hT : RwAt w a0 rs) (h0 : rs = [] → a0 = none) (hm : n ≤ 1000000)
    (h : ∀ a cap w', OwnR 41 3 rwCs w.heap.size w' a cap rs → Below w.heap.size w w' → (rs = [] → a = none) → K (act.put o.dst (.slice a n cap)) w') :
    if Region.wanted o (yielded ops act.tmps) = true then Oper.wp Tryz.prog o act w K Q else E := by
  have hw : Region.wanted o (yielded ops act.tmps) = true := by simp [Region.wanted, hgd]
  rw [if_pos hw]
  obtain ⟨a, cap, w', hr, h2, h3, h4⟩ := run_rows0 w a0 c n rs hn hT h0 hm o.type
  unfold Oper.wp execOp
  simp only [ho, resolve, invoke, builtin, Sem.run_bind, Sem.run_pure, Result.andThen_ok, List.map_toArray, List.map_cons, List.map_nil, hs, hx, hr]
  exact h a cap w' h2 h3 h4
end Go.Proofs.YtdfkpjmljaanpaaGreatDoor
namespace Go.Proofs.YtdfkpjmljaanpaaGreatDoor
open Go.RowKit
open Cn
theorem cmpb_lt : ∀ a b : List UInt8, Lib.compareBytes a b < 0 ↔ Op.bytesLess a b = true
  | [], [] => by simp [Lib.compareBytes, Op.bytesLess]
  | [], _ :: _ => by simp [Lib.compareBytes, Op.bytesLess]
  | _ :: _, [] => by simp [Lib.compareBytes, Op.bytesLess]
  | a :: x, b :: y => by
    have ih := cmpb_lt x y
    unfold Lib.compareBytes Op.bytesLess
    by_cases h : a < b
    · rw [if_pos h]; simp [h]
    · rw [if_neg h]
      by_cases h2 : b < a
      · have h3 : a ≠ b := fun e => by rw [e] at h2; exact absurd h2 (UInt8.lt_irrefl b)
        rw [if_pos h2]; simp [h, h3]
      · have h3 : a = b := UInt8.le_antisymm (UInt8.not_lt.1 h2) (UInt8.not_lt.1 h)
        rw [if_neg h2, ih]; simp [h3]
theorem cmpb_eq : ∀ a b : List UInt8, Lib.compareBytes a b = 0 ↔ a = b
  | [], [] => by simp [Lib.compareBytes]
  | [], _ :: _ => by simp [Lib.compareBytes]
  | _ :: _, [] => by simp [Lib.compareBytes]
  | a :: x, b :: y => by
    have ih := cmpb_eq x y
    unfold Lib.compareBytes
    by_cases h : a < b
    · have h3 : a ≠ b := fun e => by rw [e] at h; exact absurd h (UInt8.lt_irrefl b)
      rw [if_pos h]; simp [h3]
    · rw [if_neg h]
      by_cases h2 : b < a
      · have h3 : a ≠ b := fun e => by rw [e] at h2; exact absurd h2 (UInt8.lt_irrefl b)
        rw [if_pos h2]; simp [h3]
      · have h3 : a = b := UInt8.le_antisymm (UInt8.not_lt.1 h2) (UInt8.not_lt.1 h)
        rw [if_neg h2, ih]; simp [h3]
/-- How two texts compare. -/
def cmpT (a b : ByteArray) : Int := Lib.compareBytes a.data.toList b.data.toList
theorem cmpT_lt (a b : ByteArray) : cmpT a b < 0 ↔ Wd.less a b = true := by
  unfold cmpT Wd.less
  rw [cmpb_lt, ByteArray.toList_eq, ByteArray.toList_eq]
theorem cmpT_eq (a b : ByteArray) : cmpT a b = 0 ↔ a = b := by
  unfold cmpT
  rw [cmpb_eq]
  exact ⟨fun h => ByteArray.ext (Array.toList_inj.1 h), fun h => by rw [h]⟩
set_option maxRecDepth 100000 in
theorem cmpString_any (a b : ByteArray) (w : World) : Calls Tryz.prog 189 #[.string a, .string b] w fun e w' => e = .returned (.int .i64 (cmpT a b)) ∧ w' = w := by
  go_enter Tryz.func189, Tryz.ntmps189
  go_wp2_with fail
  rw [run_callFunc_extern Tryz.func218 (by kernel_rfl) (by kernel_rfl) (by kernel_rfl) (e := Extern.BytealgCompare.compare) (by kernel_rfl), Lib.run_compareString]
  simp only [Result.andThen]
  rw [Oper.upon_value]
  go_wp2_with fail
  go_ret
  exact ⟨rfl, rfl⟩
set_option maxRecDepth 100000 in
theorem scompare_any (a b : ByteArray) (w : World) : Calls Tryz.prog 132 #[.string a, .string b] w fun e w' => e = .returned (.int .i64 (cmpT a b)) ∧ w' = w := by
  go_enter Tryz.func132, Tryz.ntmps132
  go_wp2_with fail
  refine (cmpString_any a b _).mono ?_
  rintro e w1 ⟨rfl, rfl⟩
  go_wp2_with fail
  go_ret
  exact ⟨rfl, rfl⟩
set_option maxRecDepth 100000 in
set_option maxHeartbeats 1000000 in
theorem findc_any (x t : ByteArray) (c l : Int) (w : World) : Calls Tryz.prog 131 #[.agg #[.string x, .int .i64 c, .int .i64 l], .string t] w fun e w' => e = .returned (.int .i64 (cmpT x t)) ∧ Below w.heap.size w w' := by
  obtain ⟨w1, hw1⟩ : ∃ w1, w1 = w.alloc (.cells (rwCs ⟨x, c, l⟩) 41) := ⟨_, rfl⟩
  have hb1 : Below w.heap.size w w1 := by rw [hw1]; exact (Below.refl _ _).alloc (Nat.le_refl _) _
  have hg1 : w1.heap[w.heap.size]? = some (.cells (rwCs ⟨x, c, l⟩) 41 (0, 0)) := by rw [hw1]; exact heap_alloc_new _ _
  obtain ⟨c0, c1, c2⟩ := row3 hg1
  have H := Lib.hid hb1
  clear hb1 hg1
  unfold rwCs at hw1
  go_enter Tryz.func131, Tryz.ntmps131
  go_upto_region 1 with fail
  rw [← hw1]
  clear hw1
  go_wp2_with fail
  refine (scompare_any x t _).mono ?_
  rintro e w2 ⟨rfl, rfl⟩
  go_wp2_with fail
  go_ret
  exact ⟨rfl, H.out⟩
/-- Where a tag stands, told row by row. -/
structure Stands (rs : List Rw) (t : ByteArray) (k : Nat) : Prop where
  lt : ∀ (j : Nat) (r : Rw), rs[j]? = some r → Wd.less r.tag t = true → j < k
  ge : ∀ (j : Nat) (r : Rw), rs[j]? = some r → Wd.less r.tag t = false → k ≤ j
theorem stands_of {rs : List Rw} (hr : Ix.Rise rs) (t : ByteArray) : Stands rs t (Ix.rk rs t) := by
  refine ⟨fun j r hj h => ?_, fun j r hj h => ?_⟩
  · rcases Nat.lt_or_ge j (Ix.rk rs t) with h1 | h1
    · exact h1
    · rw [Ix.rk_ge hr hj h1] at h; cases h
  · rcases Nat.lt_or_ge j (Ix.rk rs t) with h1 | h1
    · rw [Ix.rk_lt hj h1] at h; cases h
    · exact h1
set_option maxRecDepth 100000 in
set_option maxHeartbeats 4000000 in
theorem bsearch_any (rs : List Rw) (hr : Ix.Rise rs) (t : ByteArray) (a0 : Option Addr) (cap : Nat) (w : World) (hT : RwAt w a0 rs) (hm : rs.length ≤ 1000000) :
    Calls Tryz.prog 130 #[.slice a0 rs.length cap, .string t, .func (Fn.func 131) #[] #[]] w fun e w' => e = .returned (.tuple #[.int .i64 (Ix.rk rs t), .bool (Ix.isR rs t)]) ∧ Below w.heap.size w w' := by
  obtain ⟨n, hn⟩ : ∃ n, n = rs.length := ⟨_, rfl⟩
  have hS := stands_of hr t
  have hkl := Ix.rk_le rs t
  have hE : Ix.isR rs t = (match rs[Ix.rk rs t]? with
    | none => false
    | some r => decide (cmpT r.tag t = 0)) := by
    unfold Ix.isR Ix.tg
    rw [List.getElem?_map]
    cases rs[Ix.rk rs t]? with
    | none => rfl
    | some r =>
      show decide (some r.tag = some t) = decide (cmpT r.tag t = 0)
      congr 1
      rw [cmpT_eq]
      exact propext ⟨fun h => Option.some.inj h, fun h => by rw [h]⟩
  obtain ⟨K, hK⟩ : ∃ K, K = Ix.rk rs t := ⟨_, rfl⟩
  obtain ⟨E, hE0⟩ : ∃ E, E = Ix.isR rs t := ⟨_, rfl⟩
  rw [← hK] at hS hkl hE
  rw [← hE0] at hE
  rw [← hK, ← hE0]
  rw [← hn] at hm hkl ⊢
  have H := Lib.hid (And.intro hT (And.intro hn (And.intro hS hE)))
  clear hT hn hS hE hK hE0 hr
  go_enter Tryz.func130, Tryz.ntmps130
  go_wp2_with fail
  go_loopw [9, 10] (fun s9 s10 wr => ∃ lo hi : Nat, s9 = .int .i64 lo ∧ s10 = .int .i64 hi ∧ lo ≤ K ∧ K ≤ hi ∧ hi ≤ n ∧ Below w.heap.size w wr) (fun s9 s10 _ => (intOf s10).toNat - (intOf s9).toNat)
  case atStart => exact ⟨0, n, rfl, rfl, Nat.zero_le _, hkl, Nat.le_refl _, Below.refl _ _⟩
  case round =>
    obtain ⟨lo, hi, rfl, rfl, hlo, hhi, hin, hb⟩ := hrel
    by_cases hlt : lo < hi
    · obtain ⟨m, hm2⟩ : ∃ m, m = (lo + hi) / 2 := ⟨_, rfl⟩
      have hmn : m < n := by omega
      obtain ⟨r, hr⟩ : ∃ r, rs[m]? = some r := ⟨_, List.getElem?_eq_getElem (by rw [← H.out.2.1]; exact hmn)⟩
      obtain ⟨b, off, rfl, hbl, c0, c1, c2⟩ := (H.out.1.below hb) m r hr
      rw [hm2] at c0 c1 c2
      obtain ⟨x, c, l⟩ := r
      simp only at c0 c1 c2
      have hc := fun W => findc_any x t c l W
      obtain ⟨v, hv⟩ : ∃ v, v = cmpT x t := ⟨_, rfl⟩
      rw [← hv] at hc
      by_cases hvx : v < 0
      · have hk := H.out.2.2.1.lt m _ hr ((cmpT_lt x t).1 (by rw [← hv]; exact hvx))
        have HC := Lib.hid (And.intro hc (And.intro hb hk))
        have HM := Lib.hid hm2
        clear hc hb hk hv hr hbl hm2
        go_wp2_with fail
        refine (HC.out.1 _).mono ?_
        rintro e w2 ⟨rfl, hb2⟩
        have H2 := Lib.hid (HC.out.2.1.trans (hb2.mono HC.out.2.1.size))
        clear hb2 c0 c1 c2
        go_wp2_with fail
        go_roundw
        case rel => exact ⟨(lo + hi) / 2 + 1, hi, by rw [show ((lo : Int) + (hi : Int)) / 2 + 1 = (((lo + hi) / 2 + 1 : Nat) : Int) by omega], rfl, by have := HC.out.2.2; have := HM.out; omega, hhi, hin, H2.out⟩
        case measure => simp [intOf]; omega
      · have hk := H.out.2.2.1.ge m _ hr (by
          cases e : Wd.less x t with
          | false => rfl
          | true => exact absurd ((cmpT_lt x t).2 e) (by rw [← hv]; exact hvx))
        have HC := Lib.hid (And.intro hc (And.intro hb hk))
        have HM := Lib.hid hm2
        clear hc hb hk hv hr hbl hm2
        go_wp2_with fail
        refine (HC.out.1 _).mono ?_
        rintro e w2 ⟨rfl, hb2⟩
        have H2 := Lib.hid (HC.out.2.1.trans (hb2.mono HC.out.2.1.size))
        clear hb2 c0 c1 c2
        go_wp2_with fail
        go_roundw
        case rel => exact ⟨lo, (lo + hi) / 2, rfl, by rw [show ((lo : Int) + (hi : Int)) / 2 = (((lo + hi) / 2 : Nat) : Int) by omega], hlo, by have := HC.out.2.2; have := HM.out; omega, by omega, H2.out⟩
        case measure => simp [intOf]; omega
    · obtain rfl : lo = K := by omega
      obtain rfl : hi = lo := by omega
      by_cases hln : hi < n
      · obtain ⟨r, hr⟩ : ∃ r, rs[hi]? = some r := ⟨_, List.getElem?_eq_getElem (by rw [← H.out.2.1]; exact hln)⟩
        have hE := H.out.2.2.2
        rw [hr] at hE
        simp only at hE
        obtain ⟨b, off, rfl, hbl, c0, c1, c2⟩ := (H.out.1.below hb) hi r hr
        obtain ⟨x, c, l⟩ := r
        simp only at c0 c1 c2 hE
        have hc := fun W => findc_any x t c l W
        obtain ⟨v, hv⟩ : ∃ v, v = cmpT x t := ⟨_, rfl⟩
        rw [← hv] at hc hE
        have HC := Lib.hid (And.intro hc (And.intro hb hE))
        clear hc hb hE hv hr hbl
        go_wp2_with fail
        refine (HC.out.1 _).mono ?_
        rintro e w2 ⟨rfl, hb2⟩
        have H2 := Lib.hid (HC.out.2.1.trans (hb2.mono HC.out.2.1.size))
        clear hb2 c0 c1 c2
        go_wp2_with fail
        go_ret2
        exact ⟨by rw [HC.out.2.2]; rfl, H2.out⟩
      · have hE := H.out.2.2.2
        rw [List.getElem?_eq_none (by rw [← H.out.2.1]; omega)] at hE
        simp only at hE
        have HC := Lib.hid (And.intro hb hE)
        clear hb hE
        go_wp2_with fail
        go_ret2
        exact ⟨by rw [HC.out.2]; rfl, HC.out.1⟩
set_option maxRecDepth 100000 in
set_option maxHeartbeats 1000000 in
theorem ifind_any (rs : List Rw) (hr : Ix.Rise rs) (t : ByteArray) (a0 : Option Addr) (cap : Nat) (w : World) (hT : RwAt w a0 rs) (hm : rs.length ≤ 1000000) :
    Calls Tryz.prog 62 #[.agg #[.slice a0 rs.length cap], .string t] w fun e w' => e = .returned (.tuple #[.int .i64 (Ix.rk rs t), .bool (Ix.isR rs t)]) ∧ Below w.heap.size w w' := by
  obtain ⟨w1, hw1⟩ : ∃ w1, w1 = w.alloc (.cells #[.slice a0 rs.length cap] 25) := ⟨_, rfl⟩
  have hb1 : Below w.heap.size w w1 := by rw [hw1]; exact (Below.refl _ _).alloc (Nat.le_refl _) _
  have c0 : w1.cell? ⟨w.heap.size, 0, none⟩ = some (.slice a0 rs.length cap) := by rw [hw1, cell_of_row _ _ _ _ _ _ (heap_alloc_new _ _)]; rfl
  have hs := bsearch_any rs hr t a0 cap w1 (hT.below hb1) hm
  obtain ⟨n, hn⟩ : ∃ n, n = rs.length := ⟨_, rfl⟩
  obtain ⟨K, hK⟩ : ∃ K, K = Ix.rk rs t := ⟨_, rfl⟩
  obtain ⟨E, hE⟩ : ∃ E, E = Ix.isR rs t := ⟨_, rfl⟩
  rw [← hn] at hw1 c0 hs ⊢
  rw [← hK, ← hE] at hs ⊢
  have H := Lib.hid (And.intro hs hb1)
  clear hs hb1 hn hK hE hT hm hr
  go_enter Tryz.func62, Tryz.ntmps62
  go_upto_region 1 with fail
  rw [← hw1]
  clear hw1
  go_wp2_with fail
  refine H.out.1.mono ?_
  rintro e w2 ⟨rfl, hb2⟩
  have H2 := Lib.hid (H.out.2.trans (hb2.mono H.out.2.size))
  clear hb2
  go_wp2_with fail
  go_ret2
  exact ⟨rfl, H2.out⟩
end Go.Proofs.YtdfkpjmljaanpaaGreatDoor
namespace Go.Proofs.YtdfkpjmljaanpaaGreatDoor
open Go.RowKit
open Cn
/-- What With makes. -/
def WiPost (Z : List Rw × List Po × Int) (w : World) (e : Ending) (w' : World) : Prop :=
  ∃ a ca p cp, e = .returned (.tuple #[.agg #[.slice a Z.1.length ca], .slice p Z.2.1.length cp, .int .i64 Z.2.2]) ∧ OwnR 41 3 rwCs w.heap.size w' a ca Z.1 ∧ (Z.1 = [] → a = none) ∧ OwnR 120 2 poCs w.heap.size w' p cp Z.2.1 ∧ Below w.heap.size w w'
theorem wiPost_err {Z : List Rw × List Po × Int} {k : Int} (h : Z = ([], [], k)) {w w' : World} (hb : Below w.heap.size w w') (e : Ending) (he : e = .returned (.tuple #[.agg #[.slice none 0 0], .slice none 0 0, .int .i64 k])) : WiPost Z w e w' := by
  subst h
  exact ⟨none, 0, none, 0, he, OwnR.nil _ _ _ _ _, fun _ => rfl, OwnR.nil _ _ _ _ _, hb⟩
/-- The two boxes ahead. -/
structure BxS (w : World) (v : Value) (W : World) : Prop where
  box : W.heap[w.heap.size]? = some (.cells #[v] 25 (0, 0))
  res : W.heap[w.heap.size + 1]? = some (.cells #[.slice none 0 0] 25 (0, 0))
  below : Below w.heap.size w W
theorem BxS.call {w : World} {v : Value} {W W' : World} (h : BxS w v W) (hb : Below W.heap.size W W') : BxS w v W' :=
  ⟨(hb.block _ (lt_of_heap h.box)).trans h.box, (hb.block _ (lt_of_heap h.res)).trans h.res, h.below.trans (hb.mono h.below.size)⟩
theorem BxS.size {w : World} {v : Value} {W : World} (h : BxS w v W) : w.heap.size + 2 ≤ W.heap.size := lt_of_heap h.res
theorem BxS.cell {w : World} {v : Value} {W : World} (h : BxS w v W) : W.cell? ⟨w.heap.size, 0, none⟩ = some v := by rw [cell_of_row _ _ _ _ _ _ h.box]; rfl
theorem BxS.rcell {w : World} {v : Value} {W : World} (h : BxS w v W) : W.cell? ⟨w.heap.size + 1, 0, none⟩ = some (.slice none 0 0) ∧ W.frozen? ⟨w.heap.size + 1, 0, none⟩ = false := ⟨by rw [cell_of_row _ _ _ _ _ _ h.res]; rfl, frozen_of_row _ _ _ _ _ h.res⟩
theorem WtS.rcell {w : World} {gy : Nat} {R : List Rw} {P : List Po} {a : Option Addr} {ca : Nat} {p : Option Addr} {cp : Nat} {W : World} (h : WtS w gy R P a ca p cp W) : W.cell? ⟨w.heap.size + 1, 0, none⟩ = some (.slice none 0 0) ∧ W.frozen? ⟨w.heap.size + 1, 0, none⟩ = false := ⟨by rw [cell_of_row _ _ _ _ _ _ h.res]; rfl, frozen_of_row _ _ _ _ _ h.res⟩
theorem WtS.start {w : World} {v : Value} {W1 : World} {rs : List Rw} {a : Option Addr} {ca gy : Nat} (h : BxS w v W1) (hr : W1.heap[gy]? = some (.cells #[.slice none 0 0] 25 (0, 0))) (hy : w.heap.size + 2 ≤ gy) (ho : OwnR 41 3 rwCs (w.heap.size + 2) W1 a ca rs)
    (ha : ∀ g, (Value.slice a rs.length ca).ownBlock = some g → g ≠ gy) (n : Nat) (hn : rs.length = n) : WtS w gy rs [] a ca none 0 (W1.setCell ⟨gy, 0, none⟩ (.slice a n ca)) := by
  subst hn
  refine ⟨hy, (heap_setCell_other _ _ _ _ (show w.heap.size + 1 ≠ gy by omega)).trans h.res, ?_, ho.otherNe ha _, OwnR.nil _ _ _ _ _, ha, (fun g hg => by cases hg), (fun g _ hg => by cases hg), h.below.setCell (p := ⟨gy, 0, none⟩) (show w.heap.size ≤ gy by omega) _⟩
  rw [heap_setCell_same _ _ _ _ _ _ hr]; rfl
theorem below_put1 {w W : World} {g : Nat} (h : Below w.heap.size w W) (hg : w.heap.size ≤ g) (v : Value) : Below w.heap.size w (W.setCell ⟨g, 0, none⟩ v) := h.setCell (p := ⟨g, 0, none⟩) hg v
/-- The state, and the posting in the making. -/
structure WtI (w : World) (gy : Nat) (R : List Rw) (P : List Po) (a : Option Addr) (ca : Nat) (p : Option Addr) (cp : Nat) (gp : Nat) (q : Po) (W : World) : Prop where
  st : WtS w gy R P a ca p cp W
  box : W.heap[gp]? = some (.cells (poCs q) 120 (0, 0))
  lo : w.heap.size + 2 ≤ gp
  ny : gp ≠ gy
  na : ∀ g, (Value.slice a R.length ca).ownBlock = some g → g ≠ gp
  np : ∀ g, (Value.slice p P.length cp).ownBlock = some g → g ≠ gp
section
variable {w : World} {gy : Nat} {R : List Rw} {P : List Po} {a : Option Addr} {ca : Nat} {p : Option Addr} {cp gp : Nat} {q : Po} {W : World}
theorem WtI.size (h : WtI w gy R P a ca p cp gp q W) : gp < W.heap.size := lt_of_heap h.box
theorem WtI.call {W' : World} (h : WtI w gy R P a ca p cp gp q W) (hb : Below W.heap.size W W') : WtI w gy R P a ca p cp gp q W' :=
  ⟨h.st.call hb, (hb.block _ (lt_of_heap h.box)).trans h.box, h.lo, h.ny, h.na, h.np⟩
theorem WtS.post {W' : World} (h : WtS w gy R P a ca p cp W) (hw : W' = W.alloc (.cells (poCs q) 120)) : WtI w gy R P a ca p cp W.heap.size q W' := by
  have hs := h.size
  have hlo := h.lo
  refine ⟨h.call (by rw [hw]; exact (Below.refl _ _).alloc (Nat.le_refl _) _), by rw [hw]; exact heap_alloc_new _ _, by omega, by omega, fun g hg => ?_, fun g hg => ?_⟩
  · have := (h.own.lt g hg).2; omega
  · have := (h.owp.lt g hg).2; omega
theorem WtI.bcell (h : WtI w gy R P a ca p cp gp q W) : W.cell? ⟨gp, 0, none⟩ = some (.string q.tag) ∧ W.cell? ⟨gp, 1, none⟩ = some (.int .i64 q.prev) ∧ (∀ j, W.frozen? ⟨gp, j, none⟩ = false) := by
  refine ⟨?_, ?_, fun j => frozen_of_row _ _ _ _ _ h.box⟩ <;> (rw [cell_of_row _ _ _ _ _ _ h.box]; rfl)
theorem WtI.prev (h : WtI w gy R P a ca p cp gp q W) (z : Int) : WtI w gy R P a ca p cp gp ⟨q.tag, z⟩ (W.setCell ⟨gp, 1, none⟩ (.int .i64 z)) := by
  refine ⟨h.st.other h.lo h.ny h.na h.np _ _, ?_, h.lo, h.ny, h.na, h.np⟩
  rw [heap_setCell_same _ _ _ _ _ _ h.box]; rfl
theorem WtI.put {g : Nat} (h : WtI w gy R P (some ⟨g, 0, none⟩) ca p cp gp q W) {j : Nat} {r : Rw} (hj : R[j]? = some r) (r' : Rw) {m : Nat} (hm : m < 3) (v : Value) (hy : rwCs r' = (rwCs r).setIfInBounds m v) : WtI w gy (R.set j r') P (some ⟨g, 0, none⟩) ca p cp gp q (W.setCell ⟨g, j * 3 + m, none⟩ v) :=
  ⟨h.st.put hj r' hm v hy, (heap_setCell_other _ _ _ _ (show gp ≠ g from fun e => h.na g rfl e.symm)).trans h.box, h.lo, h.ny, fun x hx => h.na x hx, h.np⟩
theorem WtI.ins (h : WtI w gy R P a ca p cp gp q W) {R' : List Rw} {W1 : World} {g1 c1 n : Nat} (hn : R'.length = n) (ho : OwnR 41 3 rwCs (w.heap.size + 2) W1 (some ⟨g1, 0, none⟩) c1 R') (hg : W.grownBy W1 (Value.slice a R.length ca).ownBlock)
    (hat : (Value.slice a R.length ca).ownBlock = some g1 ∨ W.heap.size ≤ g1) : WtI w gy R' P (some ⟨g1, 0, none⟩) c1 p cp gp q (W1.setCell ⟨gy, 0, none⟩ (.slice (some ⟨g1, 0, none⟩) n c1)) := by
  have hs := h.size
  refine ⟨h.st.ins hn ho hg hat, (heap_setCell_other _ _ _ _ (show gp ≠ gy from h.ny)).trans ((hg.block gp hs (fun e => h.na gp e.symm rfl)).trans h.box), h.lo, h.ny, fun g hgg => ?_, h.np⟩
  have e : g1 = g := by
    have : (Value.slice (some ⟨g1, 0, none⟩) R'.length c1).ownBlock = some g1 := rfl
    rw [this] at hgg
    injection hgg
  subst e
  rcases hat with h1 | h1
  · exact h.na _ h1
  · omega
/-- What a row's cells are, and the box's. -/
theorem WtI.rows {g : Nat} (h : WtI w gy R P (some ⟨g, 0, none⟩) ca p cp gp q W) {j : Nat} {r : Rw} (hj : R[j]? = some r) : W.cell? ⟨g, j * 3, none⟩ = some (.string r.tag) ∧ W.cell? ⟨g, j * 3 + 1, none⟩ = some (.int .i64 r.cnt) ∧ W.cell? ⟨g, j * 3 + 2, none⟩ = some (.int .i64 r.last) ∧ (∀ i, W.frozen? ⟨g, i, none⟩ = false) := by
  obtain ⟨g', e, -, -, hc⟩ := h.st.own.at rwCs_size hj
  injection e with e
  injection e with e
  subst e
  exact ⟨hc 0 (by decide), hc 1 (by decide), hc 2 (by decide), fun i => World.ownsRow.frozenAt h.st.own i⟩
end
theorem mrg_bound {n : Int} {rs : List Rw} {ts : List ByteArray} (hok : ∀ r ∈ rs, Ix.rwOk r) (h0 : 0 ≤ n) (h1 : n ≤ 4095) : ∀ r ∈ (Ix.mrg n rs ts).1, 0 ≤ r.cnt ∧ r.cnt ≤ 4097 ∧ 0 ≤ r.last ∧ r.last ≤ 4095 := fun r hr => by
  rcases Ix.mrg_mem n rs ts r hr with h | ⟨-, h2, h3⟩
  · obtain ⟨a, b, c, d, e⟩ := hok r h
    omega
  · rcases h3 with h3 | ⟨q, hq, -, h3⟩
    · omega
    · obtain ⟨a, b, c, d, e⟩ := hok q hq
      omega
set_option maxRecDepth 100000 in
set_option maxHeartbeats 40000000 in
theorem with18_any (rs : List Rw) (ts : List ByteArray) (a0 b0 : Option Addr) (c d : Nat) (n : Int) (w : World) (hT : RwAt w a0 rs) (hU : TextsAt w b0 ts) (h0 : rs = [] → a0 = none) (hr : Ix.Rise rs) (hok : ∀ r ∈ rs, Ix.rwOk r) (hm : rs.length ≤ 5000) (hm2 : ts.length ≤ 1000000000) :
    Calls Tryz.prog 56 #[.agg #[.slice a0 rs.length c], .int .i64 n, .slice b0 ts.length d] w (WiPost (Ix.addI rs n ts) w) := by
  obtain ⟨w1, hw1⟩ : ∃ w1, w1 = (w.alloc (.cells #[.slice a0 rs.length c] 25)).alloc (.cells #[.slice none 0 0] 25) := ⟨_, rfl⟩
  have hx1 : BxS w (.slice a0 rs.length c) w1 := by
    rw [hw1]
    refine ⟨?_, ?_, ((Below.refl _ _).alloc (Nat.le_refl _) _).alloc (by rw [World.size_alloc]; omega) _⟩
    · rw [heap_alloc_old _ _ (by rw [World.size_alloc]; omega)]; exact heap_alloc_new _ _
    · rw [show w.heap.size + 1 = (w.alloc (.cells #[.slice a0 rs.length c] 25)).heap.size by rw [World.size_alloc]]; exact heap_alloc_new _ _
  obtain ⟨N, hN⟩ : ∃ N, N = rs.length := ⟨_, rfl⟩
  obtain ⟨M, hM⟩ : ∃ M, M = ts.length := ⟨_, rfl⟩
  obtain ⟨Z, hZ⟩ : ∃ Z, Z = Ix.addI rs n ts := ⟨_, rfl⟩
  have hmt := mayTake_any rs ts a0 b0 c d n w1 (hT.below hx1.below) (hU.below hx1.below) (by omega) hm2
  obtain ⟨B, hB⟩ : ∃ B, B = Ix.adB rs n ts := ⟨_, rfl⟩
  rw [← hN] at hm hw1 hx1 hmt
  rw [← hM] at hm2 hmt
  rw [← hB] at hmt
  rw [← hN, ← hM, ← hZ]
  have hc1 := hx1.cell
  have H := Lib.hid (And.intro hT (And.intro hU (And.intro hN (And.intro hM (And.intro hZ (And.intro hx1 (And.intro hmt (And.intro hB (And.intro h0 (And.intro hr hok))))))))))
  clear hT hU hN hM hZ hx1 hmt hB h0 hr hok
  go_enter Tryz.func56, Tryz.ntmps56
  go_upto_region 1 with fail
  rw [← hw1]
  clear hw1
  go_wp2_with fail
  refine H.out.2.2.2.2.2.2.1.mono ?_
  rintro e w2 ⟨rfl, hb2⟩
  have hx2 := H.out.2.2.2.2.2.1.call hb2
  clear hb2 hc1
  obtain ⟨rc, rf⟩ := hx2.rcell
  cases B with
  | false =>
    have HE := Lib.hid (And.intro (show Z = ([], [], 1) by rw [H.out.2.2.2.2.1]; unfold Ix.addI; rw [if_neg (by rw [← H.out.2.2.2.2.2.2.2.1]; decide)]) hx2)
    clear hx2
    go_wp2_with fail
    refine bodyPost_ret (v := .tuple #[.agg #[.slice none 0 0], .slice none 0 0, .int .i64 1]) (by simp [results, Tryz.results56, go_sem, rc]) rfl ?_
    exact wiPost_err HE.out.1 (below_put1 HE.out.2.below (by omega) _) _ rfl
  | true =>
    have hB := (Ix.adB_iff.1 H.out.2.2.2.2.2.2.2.1.symm)
    have HB := Lib.hid hB
    have HX := Lib.hid hx2
    clear hB hx2 rc rf
    go_upto_region 3 with fail
    go_cut [9] (fun p wc => ∃ (gy ca : Nat) (a : Option Addr), p = .pointer (some ⟨gy, 0, none⟩) ∧ WtS w gy rs [] a ca none 0 wc ∧ (rs = [] → a = none))
    case first =>
      have hx2 := HX.out
      go_wp2_with fail
      refine wp_region_held (S := BxS w (.slice a0 N c)) (by kernel_rfl) ?_
      change wpAnyH _ _ _ _ _ _ _ _ (World.drew _)
      generalize hv0 : World.drew _ = v0
      have E0 : BxS w (.slice a0 N c) v0 := by rw [← hv0]; exact hx2.call ((Below.refl _ _).drew)
      clear hv0 hx2
      refine wpAnyH_take (i := 0) (v := ?_) rfl (by kernel_rfl) (by kernel_rfl) (by kernel_rfl) (fun _ _ _ h => h) (Or.inl ⟨by kernel_rfl, ?_⟩) E0 ?_
      rotate_left
      · (intro W hS; have k0 := hS.cell; go_simp; try (with_reducible rfl))
      refine wpAnyH_take (i := 1) (v := ?_) rfl (by kernel_rfl) (by kernel_rfl) (by kernel_rfl) (fun _ _ _ h => h) (Or.inl ⟨by kernel_rfl, ?_⟩) E0 ?_
      rotate_left
      · (intro W hS; have k0 := hS.cell; go_simp; try (with_reducible rfl))
      refine wpAnyH_take (i := 2) (v := ?_) rfl (by kernel_rfl) (by kernel_rfl) (by kernel_rfl) (fun _ _ _ h => h) (Or.inl ⟨by kernel_rfl, ?_⟩) E0 ?_
      rotate_left
      · (intro W hS; have k0 := hS.cell; go_simp; try (with_reducible rfl))
      refine wpAnyH_take (i := 3) (v := ?_) rfl (by kernel_rfl) (by kernel_rfl) (by kernel_rfl) (fun _ _ _ h => h) (Or.inl ⟨by kernel_rfl, ?_⟩) E0 ?_
      rotate_left
      · (intro W hS; have k0 := hS.cell; go_simp; try (with_reducible rfl))
      refine wpAnyH_take (i := 4) (v := ?_) rfl (by kernel_rfl) (by kernel_rfl) (by kernel_rfl) (fun _ _ _ h => h) (Or.inl ⟨by kernel_rfl, ?_⟩) E0 ?_
      rotate_left
      · (intro W hS; have k0 := hS.cell; go_simp; try (with_reducible rfl))
      refine wpAnyH_ready (rs := [5, 7]) (by kernel_rfl) (by simp) ?_
      refine AllReadyH.cons (i := 5) rfl (fun K hK => ?_) (AllReadyH.cons (i := 7) rfl (fun K hK => ?_) AllReadyH.nil)
      · refine step_rows0 rfl (.tmp 24) (.tmp 26) rfl a0 c N rs H.out.2.2.1.symm (by kernel_rfl) (by kernel_rfl) (H.out.1.below E0.below) H.out.2.2.2.2.2.2.2.2.1 (by omega) ?_
        intro a ca v1 ho hb hz
        have E1 := E0.call hb
        refine hK.out _ _ E1 (fun _ => ?_)
        clear hK K
        refine wpAnyH_take (i := 6) (v := ?_) rfl (by kernel_rfl) (by kernel_rfl) (by kernel_rfl) (fun _ _ _ h => h) (Or.inl ⟨by kernel_rfl, ?_⟩) E1 ?_
        rotate_left
        · (intro W hS; skip; go_simp; try (with_reducible rfl))
        refine wpAnyH_ready (rs := [7]) (by kernel_rfl) (by simp) ?_
        refine AllReadyH.cons (i := 7) rfl (fun K hK => ?_) AllReadyH.nil
        obtain ⟨v2, hv⟩ : ∃ v, v = v1.alloc (.cells #[.slice none 0 0] 25) := ⟨_, rfl⟩
        have hb2 : Below v1.heap.size v1 v2 := by rw [hv]; exact (Below.refl _ _).alloc (Nat.le_refl _) _
        have g2 : v2.heap[v1.heap.size]? = some (.cells #[.slice none 0 0] 25 (0, 0)) := by rw [hv]; exact heap_alloc_new _ _
        go_simp
        rw [← hv]
        clear hv
        have E2 := E1.call hb2
        have hs0 := E0.size
        have hs1 := E1.size
        have ho2 := ((ho.mono hs0).call hb2)
        have hN2 : WtS w v1.heap.size rs [] a ca none 0 (v2.setCell ⟨v1.heap.size, 0, none⟩ (.slice a N ca)) := WtS.start E2 g2 hs1 ho2 (fun g hg => by have := (ho.lt g hg).2; omega) N H.out.2.2.1.symm
        have c2 : v2.cell? ⟨v1.heap.size, 0, none⟩ = some (.slice none 0 0) := by rw [cell_of_row _ _ _ _ _ _ g2]; rfl
        have f2 : v2.frozen? ⟨v1.heap.size, 0, none⟩ = false := frozen_of_row _ _ _ _ _ g2
        have HN := Lib.hid (And.intro hN2 hz)
        clear hN2 hz ho ho2 hb2 g2
        refine hK.out _ _ E2 (fun _ => ?_)
        clear hK K
        refine wpAnyH_ready (rs := [8]) (by kernel_rfl) (by simp) ?_
        refine AllReadyH.cons (i := 8) rfl (fun K hK => ?_) AllReadyH.nil
        go_simp
        have E3 : BxS w (.slice a0 N c) (v2.setCell ⟨v1.heap.size, 0, none⟩ (.slice a N ca)) := ⟨(heap_setCell_other _ _ _ _ (show w.heap.size ≠ v1.heap.size by omega)).trans E2.box, (heap_setCell_other _ _ _ _ (show w.heap.size + 1 ≠ v1.heap.size by omega)).trans E2.res, E2.below.setCell (p := ⟨v1.heap.size, 0, none⟩) (show w.heap.size ≤ v1.heap.size by omega) _⟩
        refine hK.out _ _ E3 (fun _ => ?_)
        clear hK K
        refine wpAnyH_done (by kernel_rfl) ?_ _
        go_simp
        clear E0 E1 E2 E3 c2 f2 hs0 hs1
        go_wp2_with fail
        go_meet
        exact ⟨v1.heap.size, ca, a, rfl, HN.out.1, HN.out.2⟩
      · obtain ⟨v1, hv⟩ : ∃ v, v = v0.alloc (.cells #[.slice none 0 0] 25) := ⟨_, rfl⟩
        have hb1 : Below v0.heap.size v0 v1 := by rw [hv]; exact (Below.refl _ _).alloc (Nat.le_refl _) _
        have g1 : v1.heap[v0.heap.size]? = some (.cells #[.slice none 0 0] 25 (0, 0)) := by rw [hv]; exact heap_alloc_new _ _
        go_simp
        rw [← hv]
        clear hv
        have E1 := E0.call hb1
        have hs0 := E0.size
        have hs1 := lt_of_heap g1
        refine hK.out _ _ E1 (fun _ => ?_)
        clear hK K
        refine wpAnyH_ready (rs := [5]) (by kernel_rfl) (by simp) ?_
        refine AllReadyH.cons (i := 5) rfl (fun K hK => ?_) AllReadyH.nil
        refine step_rows0 rfl (.tmp 24) (.tmp 26) rfl a0 c N rs H.out.2.2.1.symm (by kernel_rfl) (by kernel_rfl) (H.out.1.below E1.below) H.out.2.2.2.2.2.2.2.2.1 (by omega) ?_
        intro a ca v2 ho hb hz
        have E2 := E1.call hb
        have g2 := (hb.block _ hs1).trans g1
        refine hK.out _ _ E2 (fun _ => ?_)
        clear hK K
        refine wpAnyH_take (i := 6) (v := ?_) rfl (by kernel_rfl) (by kernel_rfl) (by kernel_rfl) (fun _ _ _ h => h) (Or.inl ⟨by kernel_rfl, ?_⟩) E2 ?_
        rotate_left
        · (intro W hS; skip; go_simp; try (with_reducible rfl))
        have hN2 : WtS w v0.heap.size rs [] a ca none 0 (v2.setCell ⟨v0.heap.size, 0, none⟩ (.slice a N ca)) := WtS.start E2 g2 hs0 (ho.mono (by omega)) (fun g hg => by have := (ho.lt g hg).1; omega) N H.out.2.2.1.symm
        have c2 : v2.cell? ⟨v0.heap.size, 0, none⟩ = some (.slice none 0 0) := by rw [cell_of_row _ _ _ _ _ _ g2]; rfl
        have f2 : v2.frozen? ⟨v0.heap.size, 0, none⟩ = false := frozen_of_row _ _ _ _ _ g2
        have HN := Lib.hid (And.intro hN2 hz)
        clear hN2 hz ho hb1 hb g1 g2
        refine wpAnyH_ready (rs := [8]) (by kernel_rfl) (by simp) ?_
        refine AllReadyH.cons (i := 8) rfl (fun K hK => ?_) AllReadyH.nil
        go_simp
        have E3 : BxS w (.slice a0 N c) (v2.setCell ⟨v0.heap.size, 0, none⟩ (.slice a N ca)) := ⟨(heap_setCell_other _ _ _ _ (show w.heap.size ≠ v0.heap.size by omega)).trans E2.box, (heap_setCell_other _ _ _ _ (show w.heap.size + 1 ≠ v0.heap.size by omega)).trans E2.res, E2.below.setCell (p := ⟨v0.heap.size, 0, none⟩) (show w.heap.size ≤ v0.heap.size by omega) _⟩
        refine hK.out _ _ E3 (fun _ => ?_)
        clear hK K
        refine wpAnyH_done (by kernel_rfl) ?_ _
        go_simp
        clear E0 E1 E2 E3 c2 f2 hs0 hs1
        go_wp2_with fail
        go_meet
        exact ⟨v0.heap.size, ca, a, rfl, HN.out.1, HN.out.2⟩
    case rest =>
      obtain ⟨gy, ca, a, rfl, hW, hz⟩ := hcut
      have HW := Lib.hid (And.intro hW hz)
      clear hW hz
      go_wp2_with fail
      go_loopw [10, 12, 13, 14, 15, 31] (fun v10 _ _ _ _ v31 wr => ∃ (i : Nat) (R : List Rw) (P : List Po) (a : Option Addr) (ca : Nat) (p : Option Addr) (cp : Nat), i ≤ M ∧ v31 = .int .i64 i ∧ v10 = .slice p P.length cp ∧ R = (Ix.mrg n rs (ts.take i)).1 ∧ P = (Ix.mrg n rs (ts.take i)).2 ∧ WtS w gy R P a ca p cp wr ∧ (R = [] → a = none)) (fun _ _ _ _ _ k _ => M - (intOf k).toNat)
      case atStart => exact ⟨0, rs, [], a, ca, none, 0, by omega, rfl, rfl, by rw [List.take_zero, Ix.mrg_nil], by rw [List.take_zero, Ix.mrg_nil], HW.out.1, HW.out.2⟩
      case round =>
        clear HW
        obtain ⟨i, R, P, a, ca, p, cp, hi, rfl, rfl, hR, hP, hW, hz⟩ := hrel
        by_cases hlt : i < M
        · obtain ⟨tb, off, hb0, hbl, d0⟩ := (H.out.2.1.below hW.below) i (by have := H.out.2.2.2.1; omega)
          subst hb0
          obtain ⟨t, hte⟩ : ∃ t, t = ts.getD i ByteArray.empty := ⟨_, rfl⟩
          have ht : ts[i]? = some t := by rw [hte]; exact tgetD_at (by have := H.out.2.2.2.1; omega)
          rw [← hte] at d0
          have ht32 : t.size = 32 := HB.out.2.2.1 t (List.mem_of_getElem? ht)
          have htk : ts.take (i + 1) = ts.take i ++ [t] := by rw [List.take_add_one, ht]; rfl
          have hpr : Wd.Rises (ts.take i ++ [t]) := by rw [← htk]; exact List.Pairwise.sublist (List.take_sublist _ _) HB.out.2.2.2
          have hrise : Ix.Rise R := by rw [hR]; exact Ix.mrg_rise n rs _ H.out.2.2.2.2.2.2.2.2.2.1 (Ix.pre_rises hpr)
          have hRl : R.length ≤ 1000000 := by
            have h1 := (Ix.mrg_len n rs (ts.take i)).1
            rw [← hR, List.length_take] at h1
            have h2 := H.out.2.2.1
            have h3 := HB.out.1.2.2
            have h4 := H.out.2.2.2.1
            omega
          have hPl : P.length ≤ 1000000 := by
            have h1 := (Ix.mrg_len n rs (ts.take i)).2
            rw [← hP, List.length_take] at h1
            have h3 := HB.out.1.2.2
            have h4 := H.out.2.2.2.1
            omega
          have hbd : ∀ r ∈ R, 0 ≤ r.cnt ∧ r.cnt ≤ 4097 ∧ 0 ≤ r.last ∧ r.last ≤ 4095 := by rw [hR]; exact mrg_bound H.out.2.2.2.2.2.2.2.2.2.2 HB.out.1.1 HB.out.1.2.1
          have hpo := Ix.step_po (n := n) H.out.2.2.2.2.2.2.2.2.2.1 hpr
          rw [← htk, ← hP] at hpo
          have hhas := fun h => Ix.step_has (n := n) H.out.2.2.2.2.2.2.2.2.2.1 hpr hR h
          have hnew := fun h => Ix.step_new (n := n) H.out.2.2.2.2.2.2.2.2.2.1 hpr hR h
          rw [← htk] at hhas hnew
          have hkl := Ix.rk_le R t
          have hfi := fun W (h : OwnR 41 3 rwCs (w.heap.size + 2) W a ca R) => ifind_any R hrise t a ca W (rwAt_own h) hRl
          obtain ⟨E, hE⟩ : ∃ E, E = Ix.isR R t := ⟨_, rfl⟩
          obtain ⟨K, hK⟩ : ∃ K, K = Ix.rk R t := ⟨_, rfl⟩
          rw [← hE] at hfi hhas hnew
          rw [← hK] at hfi hhas hnew hkl
          have HI := Lib.hid (And.intro hW (And.intro hRl (And.intro hPl (And.intro hbd (And.intro hpo (And.intro hhas (And.intro hnew (And.intro hkl (And.intro hfi ht32)))))))))
          clear hte ht hpr hrise hbd hpo hhas hnew hfi hE hK htk hz hbl hW hR hP ht32 hRl hkl
          obtain ⟨n1, hn1⟩ : ∃ n1, n1 = R.length := ⟨_, rfl⟩
          have HN1 := Lib.hid hn1
          clear hn1
          go_wp2_with fail
          refine (clone_any t _ (by have := HI.out.2.2.2.2.2.2.2.2.2; omega)).mono ?_
          rintro e w3 ⟨rfl, hb3⟩
          obtain ⟨w4, hw4⟩ : ∃ w4, w4 = w3.alloc (.cells (poCs ⟨t, 0⟩) 120) := ⟨_, rfl⟩
          have hI4 := (HI.out.1.call hb3).post hw4
          have hf4 := HI.out.2.2.2.2.2.2.2.2.1 w4 hI4.st.own
          rw [← HN1.out] at hf4
          have H4 := Lib.hid (And.intro hI4 hf4)
          clear hI4 hf4 hb3 d0
          unfold poCs at hw4
          go_upto_region 9 with fail
          rw [← hw4]
          clear hw4
          have yc := H4.out.1.st.cell
          rw [← HN1.out] at yc
          go_wp2_with fail
          refine H4.out.2.mono ?_
          rintro e w5 ⟨rfl, hb5⟩
          have hI5 := H4.out.1.call hb5
          clear yc hb5
          have yc := hI5.st.cell
          rw [← HN1.out] at yc
          have H5 := Lib.hid hI5
          clear hI5
          cases E with
          | true =>
            obtain ⟨r, hr, hrt, hfr, hmr⟩ := HI.out.2.2.2.2.2.1 rfl
            have hbr := HI.out.2.2.2.1 r (List.mem_of_getElem? hr)
            obtain ⟨g, ha, -, -, -⟩ := H5.out.st.own.at rwCs_size hr
            subst ha
            obtain ⟨q0, q1, q2, qf⟩ := H5.out.rows hr
            obtain ⟨b0, b1, bf⟩ := H5.out.bcell
            have hKn : K < n1 := by rw [HN1.out]; exact (List.getElem?_eq_some_iff.1 hr).1
            obtain ⟨x, u, lv⟩ := r
            simp only at q0 q1 q2 hrt hbr hmr
            have hwl : IntKind.i64.wrap (lv + 1) = lv + 1 := Ix.wrap_in (by omega) (by omega)
            have hI6 := H5.out.prev (lv + 1)
            have hpv : Ix.pv (Ix.fnd rs t) = lv + 1 := by rw [hfr]; rfl
            have HT := Lib.hid (And.intro hr (And.intro hrt (And.intro hmr (And.intro hbr (And.intro hI6 hpv)))))
            clear hr hrt hfr hmr hI6 hpv q0 q1
            go_upto_region 13 with fail
            clear q2 qf b0 b1 bf yc hwl
            have hI6 := HT.out.2.2.2.2.1
            have HT6 := Lib.hid hI6
            clear hI6
            generalize World.setCell _ _ _ = w6 at *
            have hI6 := HT6.out
            have hr := HT.out.1
            have hln : R.length = n1 := HN1.out.symm
            obtain ⟨R1, hR1⟩ : ∃ R1, R1 = R := ⟨_, rfl⟩
            rw [← hR1] at hI6 hr hln
            have hfin : (R1.set K (⟨x, u + 1, lv⟩ : Rw)).set K ⟨x, u + 1, n⟩ = (Ix.mrg n rs (ts.take (i + 1))).1 := by rw [List.set_set, HT.out.2.2.1, hR1, HT.out.2.1]
            have hpq : P ++ [(⟨t, lv + 1⟩ : Po)] = (Ix.mrg n rs (ts.take (i + 1))).2 := by rw [HI.out.2.2.2.2.1, HT.out.2.2.2.2.2]
            have hwu : IntKind.i64.wrap (u + 1) = u + 1 := Ix.wrap_in (by have := HT.out.2.2.2.1; omega) (by have := HT.out.2.2.2.1; omega)
            have hKn : K < R1.length := (List.getElem?_eq_some_iff.1 hr).1
            obtain ⟨m1, hm1⟩ : ∃ m1, m1 = R1.length := ⟨_, rfl⟩
            rw [← hm1] at hKn
            obtain ⟨q0, q1, q2, qf⟩ := hI6.rows hr
            simp only at q0 q1 q2
            have yc := hI6.st.cell
            rw [← hm1] at yc
            have hI7 := hI6.put hr (⟨x, u + 1, lv⟩ : Rw) (m := 1) (by decide) (.int .i64 (u + 1)) rfl
            have hr7 : (R1.set K (⟨x, u + 1, lv⟩ : Rw))[K]? = some ⟨x, u + 1, lv⟩ := List.getElem?_set_self (by rw [← hm1]; exact hKn)
            have hl7 : (R1.set K (⟨x, u + 1, lv⟩ : Rw)).length = m1 := by rw [List.length_set, hm1]
            obtain ⟨R7, hR7⟩ : ∃ R7, R7 = R1.set K (⟨x, u + 1, lv⟩ : Rw) := ⟨_, rfl⟩
            rw [← hR7] at hI7 hr7 hl7 hfin
            have H7 := Lib.hid (And.intro hI7 (And.intro hr7 (And.intro hl7 (And.intro hfin (And.intro hpq hm1)))))
            clear hI7 hr7 hl7 hfin hpq hR7 hI6 hr hln hR1 hm1 q0 q2
            have hKi : (K : Int) < (m1 : Int) := by omega
            go_upto_region 14 with fail
            clear q1 qf yc
            have hI7 := H7.out.1
            have HI7 := Lib.hid hI7
            clear hI7
            generalize World.setCell _ _ _ = w7 at *
            have yc := HI7.out.st.cell
            rw [H7.out.2.2.1] at yc
            obtain ⟨q0, q1, q2, qf⟩ := HI7.out.rows H7.out.2.1
            simp only at q0 q1 q2
            have hI8 := HI7.out.put H7.out.2.1 (⟨x, u + 1, n⟩ : Rw) (m := 2) (by decide) (.int .i64 n) rfl
            rw [H7.out.2.2.2.1] at hI8
            have H8 := Lib.hid hI8
            clear hI8 q0 q1
            go_upto_region 15 with fail
            clear q2 qf yc
            have HI8 := Lib.hid H8.out
            clear H8 HI7
            generalize World.setCell _ _ _ = w8 at *
            obtain ⟨b0, b1, bf⟩ := HI8.out.bcell
            simp only at b0 b1
            obtain ⟨w9, hw9⟩ : ∃ w9, w9 = w8.alloc (.cells (poCs (⟨t, lv + 1⟩ : Po)) 120) := ⟨_, rfl⟩
            have hb9 : Below w8.heap.size w8 w9 := by rw [hw9]; exact (Below.refl _ _).alloc (Nat.le_refl _) _
            have hg9 : w9.heap[w8.heap.size]? = some (.cells (poCs (⟨t, lv + 1⟩ : Po)) 120 (0, 0)) := by rw [hw9]; exact heap_alloc_new _ _
            have H9 := Lib.hid (And.intro (HI8.out.st.call hb9) hg9)
            clear hb9 hg9
            unfold poCs at hw9
            have hPi : P.length < 100000000 := by have := HI.out.2.2.1; omega
            go_wp2_with (at_builtin; (rw [← hw9]; refine wpList_append_r rfl (.tmp 77) (.tmp 79) 110 rfl apost_rec poCs_one poCs_size H9.out.1.owp _ rfl rfl _ 1 (⟨t, lv + 1⟩ : Po) rfl H9.out.2 hPi (by have := H9.out.1.size; have := H9.out.1.lo; omega) (Below.refl _ _) ?_; intro g10 cp10 w10 ho hb hgr hat; have HD := Lib.hid (H9.out.1.posts ho hgr hat); clear ho hb hgr hat hw9))
            go_roundw
            case rel => exact ⟨i + 1, _, _, _, _, _, cp10, by omega, by go_num, by rw [List.length_append]; rfl, rfl, H7.out.2.2.2.2.1, HD.out, fun e => by
              exfalso
              have h1 := H7.out.2.2.2.1
              rw [e] at h1
              have h2 := congrArg List.length h1
              rw [List.length_set, H7.out.2.2.1] at h2
              simp only [List.length_nil] at h2
              omega⟩
            case measure => simp [intOf]; omega
          | false =>
            obtain ⟨hfr, hmr⟩ := HI.out.2.2.2.2.2.2.1 rfl
            have hpv : Ix.pv (Ix.fnd rs t) = 0 := by rw [hfr]; rfl
            have HT := Lib.hid (And.intro hmr hpv)
            clear hfr hmr hpv yc
            go_upto_region 12 with fail
            go_cut [] (fun wc => ∃ g1 c1 : Nat, WtI w gy (R.take K ++ ⟨t, 0, 0⟩ :: R.drop K) P (some ⟨g1, 0, none⟩) c1 p cp w3.heap.size ⟨t, 0⟩ wc)
            case first =>
              go_wp2_with fail
              refine wp_region_held (S := fun _ : World => True) (by kernel_rfl) ?_
              change wpAnyH _ _ _ _ _ _ _ _ (World.drew _)
              generalize hv0 : World.drew _ = v0
              have L0 : WtI w gy R P a ca p cp w3.heap.size ⟨t, 0⟩ v0 := by rw [← hv0]; exact H5.out.call ((Below.refl _ _).drew)
              clear hv0
              refine wpAnyH_take (i := 0) (v := ?_) rfl (by kernel_rfl) (by kernel_rfl) (by kernel_rfl) (fun _ _ _ h => h) (Or.inl ⟨by kernel_rfl, ?_⟩) trivial ?_
              rotate_left
              · (intro W hS; go_simp; try (with_reducible rfl))
              refine wpAnyH_take (i := 2) (v := ?_) rfl (by kernel_rfl) (by kernel_rfl) (by kernel_rfl) (fun _ _ _ h => h) (Or.inl ⟨by kernel_rfl, ?_⟩) trivial ?_
              rotate_left
              · (intro W hS; go_simp; try (with_reducible rfl))
              refine wpAnyH_take (i := 3) (v := ?_) rfl (by kernel_rfl) (by kernel_rfl) (by kernel_rfl) (fun _ _ _ h => h) (Or.inl ⟨by kernel_rfl, ?_⟩) trivial ?_
              rotate_left
              · (intro W hS; go_simp; try (with_reducible rfl))
              refine wpAnyH_ready (rs := [1, 4]) (by kernel_rfl) (by simp) ?_
              refine AllReadyH.cons (i := 1) rfl (fun K0 hK => ?_) (AllReadyH.cons (i := 4) rfl (fun K0 hK => ?_) AllReadyH.nil)
              · have qs := L0.st.cell
                rw [← HN1.out] at qs
                go_simp
                refine hK.out _ _ trivial (fun _ => ?_)
                clear hK K0 qs
                refine wpAnyH_ready (rs := [4]) (by kernel_rfl) (by simp) ?_
                refine AllReadyH.cons (i := 4) rfl (fun K0 hK => ?_) AllReadyH.nil
                go_simp
                refine (clone_any t v0 (by have := HI.out.2.2.2.2.2.2.2.2.2; omega)).mono ?_
                rintro e v1 ⟨rfl, hb⟩
                have L1 := L0.call hb
                refine hK.out _ _ trivial (fun _ => ?_)
                clear hK K0 hb L0
                refine wpAnyH_take (i := 5) (v := ?_) rfl (by kernel_rfl) (by kernel_rfl) (by kernel_rfl) (fun _ _ _ h => h) (Or.inl ⟨by kernel_rfl, ?_⟩) trivial ?_
                rotate_left
                · (intro W hS; go_simp; try (with_reducible rfl))
                refine wpAnyH_ready (rs := [6]) (by kernel_rfl) (by simp) ?_
                refine AllReadyH.cons (i := 6) rfl (fun K0 hK => ?_) AllReadyH.nil
                obtain ⟨v2, hv⟩ : ∃ v, v = v1.alloc (.cells (rwCs (⟨t, 0, 0⟩ : Rw)) 41) := ⟨_, rfl⟩
                have hb : Below v1.heap.size v1 v2 := by rw [hv]; exact (Below.refl _ _).alloc (Nat.le_refl _) _
                have gv : v2.heap[v1.heap.size]? = some (.cells (rwCs (⟨t, 0, 0⟩ : Rw)) 41 (0, 0)) := by rw [hv]; exact heap_alloc_new _ _
                unfold rwCs at hv
                go_simp
                rw [← hv]
                clear hv
                have L2 := L1.call hb
                have ze : ∀ g, (Value.slice a R.length ca).ownBlock = some g → v1.heap.size ≠ g := fun g hg => by have := (L1.st.own.lt g hg).2; omega
                refine hK.out _ _ trivial (fun _ => ?_)
                clear hK K0 hb
                refine wpAnyH_ready (rs := [7]) (by kernel_rfl) (by simp) ?_
                refine AllReadyH.cons (i := 7) rfl (fun K0 hK => ?_) AllReadyH.nil
                go_simp
                have hin := insR_any L2.st.own HI.out.2.1 (⟨t, 0, 0⟩ : Rw) K HI.out.2.2.2.2.2.2.2.1 v1.heap.size gv ze (by have := L2.st.size; have := L2.st.lo; omega)
                rw [← HN1.out] at hin
                refine hin.mono ?_
                rintro e vz ⟨g1, c1, rfl, ho, hg, hat⟩
                clear hin
                have hN := L2.ins (n := n1 + 1) (by rw [ins_len R HI.out.2.2.2.2.2.2.2.1, HN1.out]) ho (by rw [HN1.out] at hg; exact hg) (by rw [HN1.out] at hat; rcases hat with h | h; exact .inl h; exact .inr (by omega))
                have zr := (hg.block gy L2.st.size (fun e => by rw [HN1.out] at e; exact L2.st.ay gy e.symm rfl)).trans L2.st.row
                have zc : vz.cell? ⟨gy, 0, none⟩ = some (.slice a R.length ca) := by rw [cell_of_row _ _ _ _ _ _ zr]; rfl
                have zf : vz.frozen? ⟨gy, 0, none⟩ = false := frozen_of_row _ _ _ _ _ zr
                have HN := Lib.hid hN
                clear hN ho hg hat zr gv ze L2
                refine hK.out _ _ trivial (fun _ => ?_)
                clear hK K0
                refine wpAnyH_take (i := 8) (v := ?_) rfl (by kernel_rfl) (by kernel_rfl) (by kernel_rfl) (fun _ _ _ h => h) (Or.inl ⟨by kernel_rfl, ?_⟩) trivial ?_
                rotate_left
                · (intro W hS; go_simp; try (with_reducible rfl))
                refine wpAnyH_ready (rs := [9]) (by kernel_rfl) (by simp) ?_
                refine AllReadyH.cons (i := 9) rfl (fun K0 hK => ?_) AllReadyH.nil
                go_simp
                refine hK.out _ _ trivial (fun _ => ?_)
                clear hK K0 zc zf
                refine wpAnyH_done (by kernel_rfl) ?_ _
                go_simp
                go_wp2_with fail
                go_meet
                exact ⟨g1, c1, HN.out⟩
              · go_simp
                refine (clone_any t v0 (by have := HI.out.2.2.2.2.2.2.2.2.2; omega)).mono ?_
                rintro e v1 ⟨rfl, hb⟩
                have L1 := L0.call hb
                refine hK.out _ _ trivial (fun _ => ?_)
                clear hK K0 hb L0
                refine wpAnyH_take (i := 5) (v := ?_) rfl (by kernel_rfl) (by kernel_rfl) (by kernel_rfl) (fun _ _ _ h => h) (Or.inl ⟨by kernel_rfl, ?_⟩) trivial ?_
                rotate_left
                · (intro W hS; go_simp; try (with_reducible rfl))
                refine wpAnyH_ready (rs := [1, 6]) (by kernel_rfl) (by simp) ?_
                refine AllReadyH.cons (i := 1) rfl (fun K0 hK => ?_) (AllReadyH.cons (i := 6) rfl (fun K0 hK => ?_) AllReadyH.nil)
                · have qs := L1.st.cell
                  rw [← HN1.out] at qs
                  go_simp
                  refine hK.out _ _ trivial (fun _ => ?_)
                  clear hK K0 qs
                  refine wpAnyH_ready (rs := [6]) (by kernel_rfl) (by simp) ?_
                  refine AllReadyH.cons (i := 6) rfl (fun K0 hK => ?_) AllReadyH.nil
                  obtain ⟨v2, hv⟩ : ∃ v, v = v1.alloc (.cells (rwCs (⟨t, 0, 0⟩ : Rw)) 41) := ⟨_, rfl⟩
                  have hb : Below v1.heap.size v1 v2 := by rw [hv]; exact (Below.refl _ _).alloc (Nat.le_refl _) _
                  have gv : v2.heap[v1.heap.size]? = some (.cells (rwCs (⟨t, 0, 0⟩ : Rw)) 41 (0, 0)) := by rw [hv]; exact heap_alloc_new _ _
                  unfold rwCs at hv
                  go_simp
                  rw [← hv]
                  clear hv
                  have L2 := L1.call hb
                  have ze : ∀ g, (Value.slice a R.length ca).ownBlock = some g → v1.heap.size ≠ g := fun g hg => by have := (L1.st.own.lt g hg).2; omega
                  refine hK.out _ _ trivial (fun _ => ?_)
                  clear hK K0 hb
                  refine wpAnyH_ready (rs := [7]) (by kernel_rfl) (by simp) ?_
                  refine AllReadyH.cons (i := 7) rfl (fun K0 hK => ?_) AllReadyH.nil
                  go_simp
                  have hin := insR_any L2.st.own HI.out.2.1 (⟨t, 0, 0⟩ : Rw) K HI.out.2.2.2.2.2.2.2.1 v1.heap.size gv ze (by have := L2.st.size; have := L2.st.lo; omega)
                  rw [← HN1.out] at hin
                  refine hin.mono ?_
                  rintro e vz ⟨g1, c1, rfl, ho, hg, hat⟩
                  clear hin
                  have hN := L2.ins (n := n1 + 1) (by rw [ins_len R HI.out.2.2.2.2.2.2.2.1, HN1.out]) ho (by rw [HN1.out] at hg; exact hg) (by rw [HN1.out] at hat; rcases hat with h | h; exact .inl h; exact .inr (by omega))
                  have zr := (hg.block gy L2.st.size (fun e => by rw [HN1.out] at e; exact L2.st.ay gy e.symm rfl)).trans L2.st.row
                  have zc : vz.cell? ⟨gy, 0, none⟩ = some (.slice a R.length ca) := by rw [cell_of_row _ _ _ _ _ _ zr]; rfl
                  have zf : vz.frozen? ⟨gy, 0, none⟩ = false := frozen_of_row _ _ _ _ _ zr
                  have HN := Lib.hid hN
                  clear hN ho hg hat zr gv ze L2
                  refine hK.out _ _ trivial (fun _ => ?_)
                  clear hK K0
                  refine wpAnyH_take (i := 8) (v := ?_) rfl (by kernel_rfl) (by kernel_rfl) (by kernel_rfl) (fun _ _ _ h => h) (Or.inl ⟨by kernel_rfl, ?_⟩) trivial ?_
                  rotate_left
                  · (intro W hS; go_simp; try (with_reducible rfl))
                  refine wpAnyH_ready (rs := [9]) (by kernel_rfl) (by simp) ?_
                  refine AllReadyH.cons (i := 9) rfl (fun K0 hK => ?_) AllReadyH.nil
                  go_simp
                  refine hK.out _ _ trivial (fun _ => ?_)
                  clear hK K0 zc zf
                  refine wpAnyH_done (by kernel_rfl) ?_ _
                  go_simp
                  go_wp2_with fail
                  go_meet
                  exact ⟨g1, c1, HN.out⟩
                · obtain ⟨v2, hv⟩ : ∃ v, v = v1.alloc (.cells (rwCs (⟨t, 0, 0⟩ : Rw)) 41) := ⟨_, rfl⟩
                  have hb : Below v1.heap.size v1 v2 := by rw [hv]; exact (Below.refl _ _).alloc (Nat.le_refl _) _
                  have gv : v2.heap[v1.heap.size]? = some (.cells (rwCs (⟨t, 0, 0⟩ : Rw)) 41 (0, 0)) := by rw [hv]; exact heap_alloc_new _ _
                  unfold rwCs at hv
                  go_simp
                  rw [← hv]
                  clear hv
                  have L2 := L1.call hb
                  have ze : ∀ g, (Value.slice a R.length ca).ownBlock = some g → v1.heap.size ≠ g := fun g hg => by have := (L1.st.own.lt g hg).2; omega
                  refine hK.out _ _ trivial (fun _ => ?_)
                  clear hK K0 hb
                  refine wpAnyH_ready (rs := [1]) (by kernel_rfl) (by simp) ?_
                  refine AllReadyH.cons (i := 1) rfl (fun K0 hK => ?_) AllReadyH.nil
                  have qs := L2.st.cell
                  rw [← HN1.out] at qs
                  go_simp
                  refine hK.out _ _ trivial (fun _ => ?_)
                  clear hK K0 qs
                  refine wpAnyH_ready (rs := [7]) (by kernel_rfl) (by simp) ?_
                  refine AllReadyH.cons (i := 7) rfl (fun K0 hK => ?_) AllReadyH.nil
                  go_simp
                  have hin := insR_any L2.st.own HI.out.2.1 (⟨t, 0, 0⟩ : Rw) K HI.out.2.2.2.2.2.2.2.1 v1.heap.size gv ze (by have := L2.st.size; have := L2.st.lo; omega)
                  rw [← HN1.out] at hin
                  refine hin.mono ?_
                  rintro e vz ⟨g1, c1, rfl, ho, hg, hat⟩
                  clear hin
                  have hN := L2.ins (n := n1 + 1) (by rw [ins_len R HI.out.2.2.2.2.2.2.2.1, HN1.out]) ho (by rw [HN1.out] at hg; exact hg) (by rw [HN1.out] at hat; rcases hat with h | h; exact .inl h; exact .inr (by omega))
                  have zr := (hg.block gy L2.st.size (fun e => by rw [HN1.out] at e; exact L2.st.ay gy e.symm rfl)).trans L2.st.row
                  have zc : vz.cell? ⟨gy, 0, none⟩ = some (.slice a R.length ca) := by rw [cell_of_row _ _ _ _ _ _ zr]; rfl
                  have zf : vz.frozen? ⟨gy, 0, none⟩ = false := frozen_of_row _ _ _ _ _ zr
                  have HN := Lib.hid hN
                  clear hN ho hg hat zr gv ze L2
                  refine hK.out _ _ trivial (fun _ => ?_)
                  clear hK K0
                  refine wpAnyH_take (i := 8) (v := ?_) rfl (by kernel_rfl) (by kernel_rfl) (by kernel_rfl) (fun _ _ _ h => h) (Or.inl ⟨by kernel_rfl, ?_⟩) trivial ?_
                  rotate_left
                  · (intro W hS; go_simp; try (with_reducible rfl))
                  refine wpAnyH_ready (rs := [9]) (by kernel_rfl) (by simp) ?_
                  refine AllReadyH.cons (i := 9) rfl (fun K0 hK => ?_) AllReadyH.nil
                  go_simp
                  refine hK.out _ _ trivial (fun _ => ?_)
                  clear hK K0 zc zf
                  refine wpAnyH_done (by kernel_rfl) ?_ _
                  go_simp
                  go_wp2_with fail
                  go_meet
                  exact ⟨g1, c1, HN.out⟩
            case rest =>
              obtain ⟨g, ca1, hI6⟩ := hcut
              have hKl := HI.out.2.2.2.2.2.2.2.1
              have hr := Ix.ins_at hKl (⟨t, 0, 0⟩ : Rw)
              have hln := ins_len R hKl (⟨t, 0, 0⟩ : Rw)
              have hse := Ix.ins_set hKl (⟨t, 0, 0⟩ : Rw) ⟨t, 1, 0⟩
              have hse2 := Ix.ins_set hKl (⟨t, 1, 0⟩ : Rw) ⟨t, 1, n⟩
              obtain ⟨R1, hR1⟩ : ∃ R1, R1 = R.take K ++ (⟨t, 0, 0⟩ : Rw) :: R.drop K := ⟨_, rfl⟩
              rw [← hR1] at hI6 hr hln hse
              have hfin : (R1.set K (⟨t, 1, 0⟩ : Rw)).set K ⟨t, 1, n⟩ = (Ix.mrg n rs (ts.take (i + 1))).1 := by rw [hse, hse2, HT.out.1]
              have hpq : P ++ [(⟨t, 0⟩ : Po)] = (Ix.mrg n rs (ts.take (i + 1))).2 := by rw [HI.out.2.2.2.2.1, HT.out.2]
              have hKn : K < R1.length := (List.getElem?_eq_some_iff.1 hr).1
              clear hse hse2
              obtain ⟨m1, hm1⟩ : ∃ m1, m1 = R1.length := ⟨_, rfl⟩
              rw [← hm1] at hKn
              obtain ⟨q0, q1, q2, qf⟩ := hI6.rows hr
              simp only at q0 q1 q2
              have yc := hI6.st.cell
              rw [← hm1] at yc
              have hI7 := hI6.put hr (⟨t, 1, 0⟩ : Rw) (m := 1) (by decide) (.int .i64 (1)) rfl
              have hr7 : (R1.set K (⟨t, 1, 0⟩ : Rw))[K]? = some ⟨t, 1, 0⟩ := List.getElem?_set_self (by rw [← hm1]; exact hKn)
              have hl7 : (R1.set K (⟨t, 1, 0⟩ : Rw)).length = m1 := by rw [List.length_set, hm1]
              obtain ⟨R7, hR7⟩ : ∃ R7, R7 = R1.set K (⟨t, 1, 0⟩ : Rw) := ⟨_, rfl⟩
              rw [← hR7] at hI7 hr7 hl7 hfin
              have H7 := Lib.hid (And.intro hI7 (And.intro hr7 (And.intro hl7 (And.intro hfin (And.intro hpq hm1)))))
              clear hI7 hr7 hl7 hfin hpq hR7 hI6 hr hln hR1 hm1 q0 q2
              have hKi : (K : Int) < (m1 : Int) := by omega
              go_upto_region 14 with fail
              clear q1 qf yc
              have hI7 := H7.out.1
              have HI7 := Lib.hid hI7
              clear hI7
              generalize World.setCell _ _ _ = w7 at *
              have yc := HI7.out.st.cell
              rw [H7.out.2.2.1] at yc
              obtain ⟨q0, q1, q2, qf⟩ := HI7.out.rows H7.out.2.1
              simp only at q0 q1 q2
              have hI8 := HI7.out.put H7.out.2.1 (⟨t, 1, n⟩ : Rw) (m := 2) (by decide) (.int .i64 n) rfl
              rw [H7.out.2.2.2.1] at hI8
              have H8 := Lib.hid hI8
              clear hI8 q0 q1
              go_upto_region 15 with fail
              clear q2 qf yc
              have HI8 := Lib.hid H8.out
              clear H8 HI7
              generalize World.setCell _ _ _ = w8 at *
              obtain ⟨b0, b1, bf⟩ := HI8.out.bcell
              simp only at b0 b1
              obtain ⟨w9, hw9⟩ : ∃ w9, w9 = w8.alloc (.cells (poCs (⟨t, 0⟩ : Po)) 120) := ⟨_, rfl⟩
              have hb9 : Below w8.heap.size w8 w9 := by rw [hw9]; exact (Below.refl _ _).alloc (Nat.le_refl _) _
              have hg9 : w9.heap[w8.heap.size]? = some (.cells (poCs (⟨t, 0⟩ : Po)) 120 (0, 0)) := by rw [hw9]; exact heap_alloc_new _ _
              have H9 := Lib.hid (And.intro (HI8.out.st.call hb9) hg9)
              clear hb9 hg9
              unfold poCs at hw9
              have hPi : P.length < 100000000 := by have := HI.out.2.2.1; omega
              go_wp2_with (at_builtin; (rw [← hw9]; refine wpList_append_r rfl (.tmp 77) (.tmp 79) 110 rfl apost_rec poCs_one poCs_size H9.out.1.owp _ rfl rfl _ 1 (⟨t, 0⟩ : Po) rfl H9.out.2 hPi (by have := H9.out.1.size; have := H9.out.1.lo; omega) (Below.refl _ _) ?_; intro g10 cp10 w10 ho hb hgr hat; have HD := Lib.hid (H9.out.1.posts ho hgr hat); clear ho hb hgr hat hw9))
              go_roundw
              case rel => exact ⟨i + 1, _, _, _, _, _, cp10, by omega, by go_num, by rw [List.length_append]; rfl, rfl, H7.out.2.2.2.2.1, HD.out, fun e => by
                exfalso
                have h1 := H7.out.2.2.2.1
                rw [e] at h1
                have h2 := congrArg List.length h1
                rw [List.length_set, H7.out.2.2.1] at h2
                simp only [List.length_nil] at h2
                omega⟩
              case measure => simp [intOf]; omega
        · obtain rfl : M = i := by omega
          have htk : ts.take M = ts := List.take_of_length_le (by have := H.out.2.2.2.1; omega)
          rw [htk] at hR hP
          have hZ : Z = if 4096 < R.length then ([], [], 6) else (R, P, 0) := by
            rw [H.out.2.2.2.2.1]
            unfold Ix.addI
            rw [if_pos H.out.2.2.2.2.2.2.2.1.symm, ← hR, ← hP]
          have hlt2 := hW.lo
          obtain ⟨rc, rf⟩ := hW.rcell
          have yc := hW.cell
          obtain ⟨m1, hm1⟩ : ∃ m1, m1 = R.length := ⟨_, rfl⟩
          rw [← hm1] at yc
          have hy1 : ¬ gy = w.heap.size + 1 := by omega
          have HE := Lib.hid (And.intro hZ (And.intro hW (And.intro hz hm1)))
          clear hZ hW hR hP htk hlt hz hm1
          by_cases hbig : 4096 < m1
          · have hbi : (4096 : Int) < (m1 : Int) := by omega
            go_wp2_with fail
            refine bodyPost_ret (v := .tuple #[.agg #[.slice none 0 0], .slice none 0 0, .int .i64 6]) (by simp [results, Tryz.results56, go_sem, rc]) rfl ?_
            exact wiPost_err (by rw [HE.out.1, if_pos (by rw [← HE.out.2.2.2]; exact hbig)]) (below_put1 HE.out.2.1.below (by omega) _) _ rfl
          · have hbi : ¬ ((4096 : Int) < (m1 : Int)) := by omega
            go_wp2_with fail
            refine bodyPost_ret (v := .tuple #[.agg #[.slice a m1 ca], .slice p P.length cp, .int .i64 0]) (by simp [results, Tryz.results56, go_sem, rc]) rfl ?_
            have hZ2 : Z = (R, P, 0) := by rw [HE.out.1, if_neg (by rw [← HE.out.2.2.2]; exact hbig)]
            exact ⟨a, ca, p, cp, by rw [hZ2, HE.out.2.2.2], by rw [hZ2]; exact (HE.out.2.1.own.other (g := w.heap.size + 1) (by omega) _).mono (by omega), by rw [hZ2]; exact HE.out.2.2.1, by rw [hZ2]; exact (HE.out.2.1.owp.other (g := w.heap.size + 1) (by omega) _).mono (by omega), below_put1 HE.out.2.1.below (by omega) _⟩
end Go.Proofs.YtdfkpjmljaanpaaGreatDoor
namespace Go.Proofs.YtdfkpjmljaanpaaGreatDoor
open Go.RowKit
open Cn
theorem rput3 {w W : World} {B g : Nat} (h : Below B w W) (hg : B ≤ g) (x y z : Value) : Below B w (((W.setCell ⟨g, 0, none⟩ x).setCell ⟨g, 1, none⟩ y).setCell ⟨g, 2, none⟩ z) :=
  ((h.setCell (p := ⟨g, 0, none⟩) hg _).setCell (p := ⟨g, 1, none⟩) hg _).setCell (p := ⟨g, 2, none⟩) hg _
set_option maxRecDepth 100000 in
set_option maxHeartbeats 2000000 in
theorem own18_any (x : ByteArray) (c l : Int) (hx : x.size ≤ 281474976710656) (w : World) : Calls Tryz.prog 65 #[.agg #[.string x, .int .i64 c, .int .i64 l]] w fun e w' => e = .returned (.agg #[.string x, .int .i64 c, .int .i64 l]) ∧ Below w.heap.size w w' := by
  obtain ⟨w1, hw1⟩ : ∃ w1, w1 = (w.alloc (.cells (rwCs ⟨x, c, l⟩) 41)).alloc (.cells (rwCs Ix.Rw.zero) 41) := ⟨_, rfl⟩
  have hz : (w.alloc (.cells (rwCs ⟨x, c, l⟩) 41)).heap.size = w.heap.size + 1 := World.size_alloc _ _
  have hb1 : Below w.heap.size w w1 := by rw [hw1]; exact ((Below.refl _ _).alloc (Nat.le_refl _) _).alloc (by rw [hz]; omega) _
  have hg1 : w1.heap[w.heap.size]? = some (.cells (rwCs ⟨x, c, l⟩) 41 (0, 0)) := by rw [hw1, heap_alloc_old _ _ (by rw [hz]; omega)]; exact heap_alloc_new _ _
  have hg2 : w1.heap[w.heap.size + 1]? = some (.cells (rwCs Ix.Rw.zero) 41 (0, 0)) := by rw [hw1, ← hz]; exact heap_alloc_new _ _
  obtain ⟨c0, c1, c2⟩ := row3 hg1
  have H := Lib.hid (And.intro hb1 (And.intro hg1 hg2))
  clear hb1 hg1 hg2 hz
  unfold rwCs Ix.Rw.zero at hw1
  go_enter Tryz.func65, Tryz.ntmps65
  go_upto_region 1 with fail
  rw [← hw1]
  clear hw1
  go_wp2_with fail
  refine (clone_any x _ hx).mono ?_
  rintro e w2 ⟨rfl, hb2⟩
  have g1 := (hb2.block _ (lt_of_heap H.out.2.1)).trans H.out.2.1
  have g2 := (hb2.block _ (lt_of_heap H.out.2.2)).trans H.out.2.2
  have hb := H.out.1.trans (hb2.mono H.out.1.size)
  clear c0 c1 c2 hb2
  obtain ⟨c0, c1, c2⟩ := row3 g1
  have f : ∀ j, w2.frozen? ⟨w.heap.size, j, none⟩ = false := fun j => frozen_of_row _ _ _ _ _ g1
  have f2 : ∀ j, w2.frozen? ⟨w.heap.size + 1, j, none⟩ = false := fun j => frozen_of_row _ _ _ _ _ g2
  obtain ⟨d0, d1, d2⟩ := row3 g2
  simp only [Ix.Rw.zero] at d0 d1 d2
  have H2 := Lib.hid hb
  clear hb g1 g2
  go_wp2_with fail
  refine bodyPost_ret (v := .agg #[.string x, .int .i64 c, .int .i64 l]) (by simp [results, Tryz.results65, go_sem, d0, d1, d2]) rfl ?_
  exact ⟨rfl, rput3 (H2.out.setCell (p := ⟨w.heap.size, 0, none⟩) (Nat.le_refl _) _) (Nat.le_succ _) _ _ _⟩
set_option maxRecDepth 100000 in
set_option maxHeartbeats 2000000 in
theorem rows18_any (rs : List Rw) (a0 : Option Addr) (cap : Nat) (w : World) (hT : RwAt w a0 rs) (hm : rs.length ≤ 100000) (hok : ∀ r ∈ rs, r.tag.size ≤ 1000000) :
    Calls Tryz.prog 28 #[.agg #[.slice a0 rs.length cap]] w fun e w' => ∃ a c, e = .returned (.slice a rs.length c) ∧ OwnR 41 3 rwCs w.heap.size w' a c rs ∧ Below w.heap.size w w' := by
  obtain ⟨w1, hw1⟩ : ∃ w1, w1 = w.alloc (.cells #[.slice a0 rs.length cap] 25) := ⟨_, rfl⟩
  have hb1 : Below w.heap.size w w1 := by rw [hw1]; exact (Below.refl _ _).alloc (Nat.le_refl _) _
  have c0 : w1.cell? ⟨w.heap.size, 0, none⟩ = some (.slice a0 rs.length cap) := by rw [hw1, cell_of_row _ _ _ _ _ _ (heap_alloc_new _ _)]; rfl
  obtain ⟨n, hn⟩ : ∃ n, n = rs.length := ⟨_, rfl⟩
  rw [← hn] at hm hw1 c0 ⊢
  have HT := Lib.hid (And.intro hT (And.intro hn (And.intro hb1 hok)))
  clear hT hn hb1 hok
  go_enter Tryz.func28, Tryz.ntmps28
  go_upto_region 1 with fail
  rw [← hw1]
  clear hw1
  go_wp2_with fail
  clear c0
  go_loopw [3, 5, 9] (fun v _ c wr => ∃ (i : Nat) (a : Option Addr) (cp : Nat), i ≤ n ∧ v = .slice a i cp ∧ c = .int .i64 i ∧ OwnR 41 3 rwCs w.heap.size wr a cp (rs.take i) ∧ Below w.heap.size w wr) (fun _ _ c _ => n - (intOf c).toNat)
  case atStart => exact ⟨0, none, 0, by omega, rfl, rfl, OwnR.nil _ _ _ _ _, HT.out.2.2.1⟩
  case round =>
    obtain ⟨i, a, cp, hi, rfl, rfl, hO, hb⟩ := hrel
    by_cases hlt : i < n
    · obtain ⟨r, hr⟩ : ∃ r, rs[i]? = some r := ⟨rs[i]'(by have := HT.out.2.1; omega), List.getElem?_eq_getElem (by have := HT.out.2.1; omega)⟩
      obtain ⟨b, off, rfl, hbl, hc0, hc1, hc2⟩ := (HT.out.1.below hb) i r hr
      have hnx : rs.take (i + 1) = rs.take i ++ [r] := by rw [List.take_add_one, hr]; rfl
      have hln : (rs.take i).length = i := by rw [List.length_take]; have := HT.out.2.1; omega
      have hsz := HT.out.2.2.2 r (List.mem_of_getElem? hr)
      obtain ⟨w3, hw3⟩ : ∃ w3, w3 = wr.alloc (.cells (rwCs r) 41) := ⟨_, rfl⟩
      have hb3 : Below wr.heap.size wr w3 := by rw [hw3]; exact (Below.refl _ _).alloc (Nat.le_refl _) _
      have hg3 : w3.heap[wr.heap.size]? = some (.cells (rwCs r) 41 (0, 0)) := by rw [hw3]; exact heap_alloc_new _ _
      obtain ⟨e0, e1, e2⟩ := row3 hg3
      have HC := Lib.hid (And.intro (hO.call hb3) (And.intro hnx (And.intro hln (And.intro (hb.trans (hb3.mono hb.size)) hsz))))
      clear hO hb hnx hln hb3 hg3 hr hbl hsz
      obtain ⟨x, y, z⟩ := r
      simp only at hc0 hc1 hc2 e0 e1 e2
      unfold rwCs at hw3
      simp only at hw3
      go_upto_region 5 with fail
      rw [← hw3]
      clear hw3 hc0 hc1 hc2
      go_wp2_with fail
      refine (own18_any x y z (by have := HC.out.2.2.2.2; omega) _).mono ?_
      rintro e w4 ⟨rfl, hb4⟩
      obtain ⟨w5, hw5⟩ : ∃ w5, w5 = w4.alloc (.cells (rwCs ⟨x, y, z⟩) 41) := ⟨_, rfl⟩
      have hb5 : Below w4.heap.size w4 w5 := by rw [hw5]; exact (Below.refl _ _).alloc (Nat.le_refl _) _
      have hg5 : w5.heap[w4.heap.size]? = some (.cells (rwCs ⟨x, y, z⟩) 41 (0, 0)) := by rw [hw5]; exact heap_alloc_new _ _
      have F4 := HC.out.2.2.2.1.trans (hb4.mono HC.out.2.2.2.1.size)
      have H5 := Lib.hid (And.intro ((HC.out.1.call hb4).call hb5) (And.intro hg5 (F4.trans (hb5.mono F4.size))))
      clear hb4 hb5 hg5 F4 e0 e1 e2
      unfold rwCs at hw5
      go_wp2_with (at_builtin; (rw [← hw5]; refine wpList_append_r rfl (.tmp 13) (.tmp 16) 23 rfl arow_rec rwCs_one rwCs_size H5.out.1 _ HC.out.2.2.1 rfl _ 1 (⟨x, y, z⟩ : Rw) rfl H5.out.2.1 (by omega) H5.out.2.2.size H5.out.2.2 ?_; intro g1 cp1 w6 ho hb hgr hat; have HD := Lib.hid (And.intro ho hb); clear ho hb hgr hat hw5))
      go_roundw
      case rel => exact ⟨i + 1, _, cp1, by omega, rfl, by go_num, by rw [HC.out.2.1]; exact HD.out.1, HD.out.2⟩
      case measure => simp [intOf]; omega
    · obtain rfl : i = n := by omega
      have H := Lib.hid (And.intro hO hb)
      clear hO hb
      go_wp2_with fail
      go_ret
      refine ⟨a, cp, rfl, ?_, H.out.2⟩
      have := H.out.1
      rwa [List.take_of_length_le (by have := HT.out.2.1; omega)] at this
/-- What Find tells. -/
def fdI (rs : List Rw) (t : ByteArray) : Rw × Bool := match Ix.fnd rs t with
  | some r => (r, true)
  | none => (Ix.Rw.zero, false)
set_option maxRecDepth 100000 in
set_option maxHeartbeats 2000000 in
theorem find18_any (rs : List Rw) (hr : Ix.Rise rs) (t : ByteArray) (a0 : Option Addr) (cap : Nat) (w : World) (hT : RwAt w a0 rs) (hm : rs.length ≤ 100000) (hok : ∀ r ∈ rs, r.tag.size ≤ 1000000) :
    Calls Tryz.prog 60 #[.agg #[.slice a0 rs.length cap], .string t] w fun e w' => e = .returned (.tuple #[.agg (rwCs (fdI rs t).1), .bool (fdI rs t).2]) ∧ Below w.heap.size w w' := by
  obtain ⟨w1, hw1⟩ : ∃ w1, w1 = (w.alloc (.cells #[.slice a0 rs.length cap] 25)).alloc (.cells (rwCs Ix.Rw.zero) 41) := ⟨_, rfl⟩
  have hz : (w.alloc (.cells #[.slice a0 rs.length cap] 25)).heap.size = w.heap.size + 1 := World.size_alloc _ _
  have hb1 : Below w.heap.size w w1 := by rw [hw1]; exact ((Below.refl _ _).alloc (Nat.le_refl _) _).alloc (by rw [hz]; omega) _
  have hg1 : w1.heap[w.heap.size]? = some (.cells #[.slice a0 rs.length cap] 25 (0, 0)) := by rw [hw1, heap_alloc_old _ _ (by rw [hz]; omega)]; exact heap_alloc_new _ _
  have hg2 : w1.heap[w.heap.size + 1]? = some (.cells (rwCs Ix.Rw.zero) 41 (0, 0)) := by rw [hw1, ← hz]; exact heap_alloc_new _ _
  have c0 : w1.cell? ⟨w.heap.size, 0, none⟩ = some (.slice a0 rs.length cap) := by rw [cell_of_row _ _ _ _ _ _ hg1]; rfl
  have hf := ifind_any rs hr t a0 cap w1 (hT.below hb1) (by omega)
  have hsome := fun h => Ix.isR_some (t := t) hr h
  have hnone := fun h => Ix.isR_none (t := t) hr h
  obtain ⟨n, hn⟩ : ∃ n, n = rs.length := ⟨_, rfl⟩
  obtain ⟨K, hK⟩ : ∃ K, K = Ix.rk rs t := ⟨_, rfl⟩
  obtain ⟨E, hE⟩ : ∃ E, E = Ix.isR rs t := ⟨_, rfl⟩
  rw [← hn] at hm hw1 c0 hf hg1 ⊢
  rw [← hK] at hf hsome
  rw [← hE] at hf hsome hnone
  have H := Lib.hid (And.intro hT (And.intro hn (And.intro hb1 (And.intro hok (And.intro hg1 (And.intro hg2 (And.intro hf (And.intro hsome hnone))))))))
  clear hT hn hb1 hok hg1 hg2 hf hsome hnone hK hE hr hz
  unfold rwCs Ix.Rw.zero at hw1
  go_enter Tryz.func60, Tryz.ntmps60
  go_upto_region 1 with fail
  rw [← hw1]
  clear hw1
  go_wp2_with fail
  refine H.out.2.2.2.2.2.2.1.mono ?_
  rintro e w2 ⟨rfl, hb2⟩
  have g1 := (hb2.block _ (lt_of_heap H.out.2.2.2.2.1)).trans H.out.2.2.2.2.1
  have g2 := (hb2.block _ (lt_of_heap H.out.2.2.2.2.2.1)).trans H.out.2.2.2.2.2.1
  have hb := H.out.2.2.1.trans (hb2.mono H.out.2.2.1.size)
  clear c0 hb2
  have f2 : ∀ j, w2.frozen? ⟨w.heap.size + 1, j, none⟩ = false := fun j => frozen_of_row _ _ _ _ _ g2
  obtain ⟨d0, d1, d2⟩ := row3 g2
  simp only [Ix.Rw.zero] at d0 d1 d2
  have c0 : w2.cell? ⟨w.heap.size, 0, none⟩ = some (.slice a0 n cap) := by rw [cell_of_row _ _ _ _ _ _ g1]; rfl
  have H2 := Lib.hid (And.intro hb g2)
  clear hb g1 g2
  cases E with
  | false =>
    have HE := Lib.hid (show fdI rs t = (Ix.Rw.zero, false) by unfold fdI; rw [H.out.2.2.2.2.2.2.2.2 rfl])
    go_wp2_with fail
    refine bodyPost_ret (v := .tuple #[.agg #[.string ⟨#[]⟩, .int .i64 0, .int .i64 0], .bool false]) (by simp [results, Tryz.results60, go_sem, d0, d1, d2]) rfl ?_
    exact ⟨by rw [HE.out]; rfl, rput3 H2.out.1 (Nat.le_succ _) _ _ _⟩
  | true =>
    obtain ⟨r, hr, hrt, hfr⟩ := H.out.2.2.2.2.2.2.2.1 rfl
    have HE := Lib.hid (show fdI rs t = (r, true) by unfold fdI; rw [hfr])
    have hsz := H.out.2.2.2.1 r (List.mem_of_getElem? hr)
    obtain ⟨b, off, rfl, hbl, q0, q1, q2⟩ := (H.out.1.below H2.out.1) K r hr
    have hKn : K < n := by rw [H.out.2.1]; exact (List.getElem?_eq_some_iff.1 hr).1
    obtain ⟨x, u, l⟩ := r
    simp only at q0 q1 q2 hsz
    have HS := Lib.hid hsz
    clear hr hrt hfr hbl hsz d0 d1 d2 f2
    go_wp2_with fail
    refine (own18_any x u l (by have := HS.out; omega) _).mono ?_
    rintro e w3 ⟨rfl, hb3⟩
    have g2 := (hb3.block _ (lt_of_heap H2.out.2)).trans H2.out.2
    have hb := H2.out.1.trans (hb3.mono H2.out.1.size)
    have f2 : ∀ j, w3.frozen? ⟨w.heap.size + 1, j, none⟩ = false := fun j => frozen_of_row _ _ _ _ _ g2
    obtain ⟨d0, d1, d2⟩ := row3 g2
    simp only [Ix.Rw.zero] at d0 d1 d2
    have H3 := Lib.hid hb
    clear hb g2 hb3 c0 q0 q1 q2
    go_wp2_with fail
    refine bodyPost_ret (v := .tuple #[.agg #[.string x, .int .i64 u, .int .i64 l], .bool true]) (by simp [results, Tryz.results60, go_sem, d0, d1, d2]) rfl ?_
    exact ⟨by rw [HE.out]; rfl, rput3 H3.out (Nat.le_succ _) _ _ _⟩
end Go.Proofs.YtdfkpjmljaanpaaGreatDoor
