/- Shares and lists of texts in memory. -/
import Derived.Test.YtefpfedpgedloaaDoorVMath
import Derived.Test.YtefpfedpgedloaaDoorAppS
import Derived.Test.YtefpfedpgedloaaDoorStrs
namespace Go.Proofs.YtefpfedpgedloaaDoor
open Go.RowKit
open Gf

theorem ownsRow_same {w w' : World} {e : TypeId} {k : Nat} {v : Value} {n : Nat} {xs : List Value} (h : w.ownsRow 0 e k v n xs) (hs : ∀ g, v.ownBlock = some g → w'.heap[g]? = w.heap[g]?) : w'.ownsRow 0 e k v n xs := by
  obtain ⟨h1, h2⟩ := h
  refine ⟨h1, ?_⟩
  rcases h2 with h2 | ⟨g, c, cur, rfl, hB, hg, h3⟩
  · exact .inl h2
  · exact .inr ⟨g, c, cur, rfl, hB, (hs g rfl).trans hg, h3⟩
theorem own_form {w : World} {e : TypeId} {k : Nat} {a : Option Addr} {n cap : Nat} {xs : List Value} (h : w.ownsRow 0 e k (.slice a n cap) n xs) : (a = none ∧ n = 0 ∧ cap = 0) ∨ (∃ g, a = some ⟨g, 0, none⟩ ∧ n ≤ cap ∧ cap ≤ maxLen) := by
  rcases h.2 with ⟨e, hn⟩ | ⟨g, c, cur, e, hB, hg, hn, hc, hs, ht⟩
  · injection e with e1 e2 e3
    exact .inl ⟨e1, hn, e3⟩
  · injection e with e1 e2 e3
    subst e3
    exact .inr ⟨g, e1, hn, hc⟩
/-- A row that the call made itself, in a block from B on (or nil). -/
def Own (T : TypeId) (k : Nat) (B : Nat) (w : World) (a : Option Addr) (n cap : Nat) (xs : List Value) : Prop :=
  w.ownsRow 0 T k (.slice a n cap) n xs ∧ ∀ g, (Value.slice a n cap).ownBlock = some g → B ≤ g
theorem Own.nil (T : TypeId) (k B : Nat) (w : World) : Own T k B w none 0 0 [] := ⟨World.ownsRow_nil _ _ _ _, fun g hg => by simp [Value.ownBlock] at hg⟩
theorem Own.below {T : TypeId} {k B : Nat} {w w' : World} {a : Option Addr} {n cap : Nat} {xs : List Value} (h : Own T k B w a n cap xs) (hb : Below w.heap.size w w') : Own T k B w' a n cap xs :=
  ⟨ownsRow_same h.1 (fun g hg => hb.block g (h.1.lt g hg).2), h.2⟩
theorem Own.mono {T : TypeId} {k B B' : Nat} {w : World} {a : Option Addr} {n cap : Nat} {xs : List Value} (h : Own T k B w a n cap xs) (hb : B' ≤ B) : Own T k B' w a n cap xs := ⟨h.1, fun g hg => Nat.le_trans hb (h.2 g hg)⟩
theorem Own.len {T : TypeId} {k B : Nat} {w : World} {a : Option Addr} {n cap : Nat} {xs : List Value} (h : Own T k B w a n cap xs) : xs.length = n * k := h.1.1
theorem Own.addr {T : TypeId} {k B : Nat} {w : World} {a : Option Addr} {n cap : Nat} {xs : List Value} (h : Own T k B w a n cap xs) (hn : 0 < n) : ∃ g, a = some ⟨g, 0, none⟩ ∧ B ≤ g ∧ g < w.heap.size ∧ n ≤ cap ∧ ∀ j, w.frozen? ⟨g, j, none⟩ = false := by
  rcases own_form h.1 with ⟨-, h0, -⟩ | ⟨g, rfl, hc, -⟩
  · omega
  · exact ⟨g, rfl, h.2 g rfl, (h.1.lt g rfl).2, hc, fun j => World.ownsRow.frozenAt h.1 j⟩
theorem Own.cell {T : TypeId} {k B : Nat} {w : World} {g n cap : Nat} {xs : List Value} (h : Own T k B w (some ⟨g, 0, none⟩) n cap xs) {j : Nat} (hj : j < n * k) : w.cell? ⟨g, j, none⟩ = xs[j]? := World.ownsRow.cellAt h.1 j hj
/-- A cell is another now. -/
theorem Own.put {T : TypeId} {k B : Nat} {w : World} {g n cap : Nat} {xs : List Value} (h : Own T k B w (some ⟨g, 0, none⟩) n cap xs) (j : Nat) (v : Value) : Own T k B (w.setCell ⟨g, j, none⟩ v) (some ⟨g, 0, none⟩) n cap (xs.set j v) :=
  ⟨(World.ownsRow.stored h.1 j v).1, h.2⟩
theorem below_put {B : Nat} {w0 w : World} {g : Nat} (hb : Below B w0 w) (hg : B ≤ g) (j : Nat) (v : Value) : Below B w0 (w.setCell ⟨g, j, none⟩ v) :=
  hb.trans ⟨rfl, rfl, rfl, by simp, fun k hk => heap_setCell_other w _ k v (fun e => by have e2 : k = g := e; omega)⟩
/-- Texts as cells; a list of texts of the call's own. -/
def tcells (l : List ByteArray) : List Value := l.map Value.string
theorem Tryd.info_txt : (Tryd.prog.info? 9).map (fun i => (i.zero, i.size, i.bytes)) = some (some (.string ⟨#[]⟩), 1, 16) := by kernel_rfl
def OwnX (B : Nat) (w : World) (a : Option Addr) (cap : Nat) (l : List ByteArray) : Prop := Own 9 1 B w a l.length cap (tcells l)
theorem OwnX.at {B : Nat} {w : World} {a : Option Addr} {cap : Nat} {l : List ByteArray} (h : OwnX B w a cap l) : TextsAt w a l := fun j hj => by
  obtain ⟨g, rfl, -, h2, -⟩ := Own.addr h (by omega)
  refine ⟨g, 0, rfl, h2, ?_⟩
  rw [Nat.zero_add, Own.cell h (by omega)]
  simp [tcells, List.getD_eq_getElem?_getD, hj]
theorem OwnX.put {B : Nat} {w : World} {g cap : Nat} {l : List ByteArray} (h : OwnX B w (some ⟨g, 0, none⟩) cap l) (j : Nat) (s : ByteArray) : OwnX B (w.setCell ⟨g, j, none⟩ (.string s)) (some ⟨g, 0, none⟩) cap (l.set j s) := by
  unfold OwnX
  rw [List.length_set, show tcells (l.set j s) = (tcells l).set j (.string s) by unfold tcells; rw [List.map_set]]
  exact Own.put h j _
theorem make_texts (w : World) (n : Nat) (hn : n ≤ 1000000) : ∃ w', (Instr.makeSlice 56 (.int .i64 (n : Int)) (.int .i64 (n : Int))).run Tryd.prog w = .ok (.slice (some ⟨w.heap.size, 0, none⟩) n n) w' ∧ OwnX w.heap.size w' (some ⟨w.heap.size, 0, none⟩) n (List.replicate n ⟨#[]⟩) ∧ Below w.heap.size w w' := by
  obtain ⟨i0, hi0, hz0, hz1, hz2⟩ := info_parts Tryd.info_txt
  obtain ⟨w', h1, h2, h3⟩ := run_makeSlice_full (P := Tryd.prog) w 0 56 9 i0 (.string ⟨#[]⟩) 1 Tryd.underlying56 hi0 hz0 hz1 .i64 .i64 n (by omega) (by rw [hz2]; omega) (by unfold maxLen; omega) (Nat.zero_le _)
  refine ⟨w', h1, ?_, (Below.refl _ _).grown h3 (Nat.le_refl _) (fun k hk => by cases hk)⟩
  unfold OwnX
  rw [List.length_replicate]
  have e : tcells (List.replicate n ⟨#[]⟩) = (madeCells (Value.string ⟨#[]⟩).cells (n * 1)).toList := by
    simp only [tcells, madeCells, Value.cells, List.map_replicate, Nat.mul_one]
    apply List.ext_getElem?
    intro i
    by_cases hi : i < n
    · simp [hi, Nat.mod_one]
    · simp [hi]
  rw [e]; exact ⟨h2, fun g hg => by simp [Value.ownBlock] at hg; omega⟩
/-- Shares as cells. -/
def Shr.cells (s : Shr) : Array Value := #[.int .i64 s.x, .int .i64 s.need, .string s.y]
def shs (l : List Shr) : List Value := l.flatMap fun s => s.cells.toList
theorem shs_length : ∀ l : List Shr, (shs l).length = l.length * 3
  | [] => rfl
  | s :: l => by
    have ih := shs_length l
    simp only [shs, List.flatMap_cons, List.length_append, List.length_cons] at ih ⊢
    rw [ih]; simp [Shr.cells]; omega
theorem shs_append (l d : List Shr) : shs (l ++ d) = shs l ++ shs d := by simp [shs]
theorem shs_at : ∀ (l : List Shr) (k : Nat) (s : Shr), l[k]? = some s → ∀ j, j < 3 → (shs l)[k * 3 + j]? = s.cells[j]?
  | [], k, s, h, j, _ => by simp at h
  | d :: l, 0, s, h, j, hj => by
    simp only [List.getElem?_cons_zero, Option.some.injEq] at h
    subst h
    simp only [shs, List.flatMap_cons]
    rw [List.getElem?_append_left (by simp [Shr.cells]; omega)]
    simp
  | d :: l, k + 1, s, h, j, hj => by
    have ih := shs_at l k s (by simpa using h) j hj
    simp only [shs, List.flatMap_cons] at ih ⊢
    rw [List.getElem?_append_right (by simp [Shr.cells]; omega), ← ih]
    congr 1
    simp [Shr.cells]
    omega
theorem shs_one (l : List Shr) : ∀ u ∈ shs l, u.oneCell' = true := fun u hu => by
  simp only [shs, List.mem_flatMap, Shr.cells, List.mem_cons, List.not_mem_nil, or_false] at hu
  obtain ⟨s, _, rfl | rfl | rfl⟩ := hu <;> rfl
/-- Shares in memory. -/
def SharesAt (w : World) (a0 : Option Addr) (l : List Shr) : Prop :=
  ∀ j s, l[j]? = some s → ∃ b off, a0 = some ⟨b, off, none⟩ ∧ b < w.heap.size ∧ w.cell? ⟨b, off + j * 3, none⟩ = some (.int .i64 s.x) ∧ w.cell? ⟨b, off + j * 3 + 1, none⟩ = some (.int .i64 s.need) ∧ w.cell? ⟨b, off + j * 3 + 2, none⟩ = some (.string s.y)
theorem SharesAt.below {w w' : World} {a0 : Option Addr} {l : List Shr} (h : SharesAt w a0 l) (hb : Below w.heap.size w w') : SharesAt w' a0 l := fun j s hj => by
  obtain ⟨b, off, rfl, hbl, h1, h2, h3⟩ := h j s hj
  exact ⟨b, off, rfl, Nat.lt_of_lt_of_le hbl hb.size, by rw [hb.cell (p := ⟨b, _, none⟩) hbl]; exact h1, by rw [hb.cell (p := ⟨b, _, none⟩) hbl]; exact h2, by rw [hb.cell (p := ⟨b, _, none⟩) hbl]; exact h3⟩
theorem SharesAt.take {w : World} {a0 : Option Addr} {l : List Shr} (h : SharesAt w a0 l) (n : Nat) : SharesAt w a0 (l.take n) := fun j s hj => by
  rw [List.getElem?_take] at hj
  split at hj
  · exact h j s hj
  · cases hj
theorem SharesAt.drop {w : World} {b off : Nat} {l : List Shr} (h : SharesAt w (some ⟨b, off, none⟩) l) (n : Nat) : SharesAt w (some ⟨b, off + n * 3, none⟩) (l.drop n) := fun j s hj => by
  rw [List.getElem?_drop] at hj
  obtain ⟨b', off', e, hbl, h1, h2, h3⟩ := h (n + j) s hj
  injection e with e; injection e with e1 e2; subst e1 e2
  exact ⟨b, off + n * 3, rfl, hbl, by rw [show off + n * 3 + j * 3 = off + (n + j) * 3 by omega]; exact h1, by rw [show off + n * 3 + j * 3 = off + (n + j) * 3 by omega]; exact h2, by rw [show off + n * 3 + j * 3 = off + (n + j) * 3 by omega]; exact h3⟩
theorem SharesAt.nil (w : World) (a0 : Option Addr) : SharesAt w a0 [] := fun j s hj => by simp at hj
/-- A list of shares of the call's own (T: api's, or the reference's). -/
def OwnS (T : TypeId) (B : Nat) (w : World) (a : Option Addr) (cap : Nat) (l : List Shr) : Prop := Own T 3 B w a l.length cap (shs l)
theorem OwnS.at {T : TypeId} {B : Nat} {w : World} {a : Option Addr} {cap : Nat} {l : List Shr} (h : OwnS T B w a cap l) : SharesAt w a l := fun j s hj => by
  have hlt := (List.getElem?_eq_some_iff.1 hj).1
  obtain ⟨g, rfl, -, h2, -⟩ := Own.addr h (by omega)
  have e : ∀ k, k < 3 → w.cell? ⟨g, j * 3 + k, none⟩ = s.cells[k]? := fun k hk => by
    rw [Own.cell h (by omega)]
    exact shs_at l j s hj k hk
  exact ⟨g, 0, rfl, h2, by rw [Nat.zero_add]; exact e 0 (by omega), by rw [Nat.zero_add]; exact e 1 (by omega), by rw [Nat.zero_add]; exact e 2 (by omega)⟩
theorem OwnS.cells {T : TypeId} {B : Nat} {w : World} {g cap : Nat} {l : List Shr} (h : OwnS T B w (some ⟨g, 0, none⟩) cap l) {j : Nat} {s : Shr} (hj : l[j]? = some s) :
    w.cell? ⟨g, j * 3, none⟩ = some (.int .i64 s.x) ∧ w.cell? ⟨g, j * 3 + 1, none⟩ = some (.int .i64 s.need) ∧ w.cell? ⟨g, j * 3 + 2, none⟩ = some (.string s.y) ∧ ∀ k, w.frozen? ⟨g, k, none⟩ = false := by
  have hlt := (List.getElem?_eq_some_iff.1 hj).1
  have e : ∀ k, k < 3 → w.cell? ⟨g, j * 3 + k, none⟩ = s.cells[k]? := fun k hk => by
    rw [Own.cell h (by omega)]
    exact shs_at l j s hj k hk
  exact ⟨e 0 (by omega), e 1 (by omega), e 2 (by omega), fun k => World.ownsRow.frozenAt h.1 k⟩
theorem OwnS.below {T : TypeId} {B : Nat} {w w' : World} {a : Option Addr} {cap : Nat} {l : List Shr} (h : OwnS T B w a cap l) (hb : Below w.heap.size w w') : OwnS T B w' a cap l := Own.below h hb
theorem OwnX.below {B : Nat} {w w' : World} {a : Option Addr} {cap : Nat} {l : List ByteArray} (h : OwnX B w a cap l) (hb : Below w.heap.size w w') : OwnX B w' a cap l := Own.below h hb
theorem shs_set3 {l : List Shr} {j : Nat} (hj : j < l.length) (s : Shr) : (((shs l).set (j * 3) (.int .i64 s.x)).set (j * 3 + 1) (.int .i64 s.need)).set (j * 3 + 2) (.string s.y) = shs (l.set j s) := by
  apply List.ext_getElem?
  intro i
  have hlen := shs_length l
  by_cases hi : i < l.length * 3
  · obtain ⟨q, r, hr, rfl⟩ : ∃ q r, r < 3 ∧ i = q * 3 + r := ⟨i / 3, i % 3, Nat.mod_lt _ (by decide), by omega⟩
    have hq : q < l.length := by omega
    obtain ⟨t, ht⟩ : ∃ t, (l.set j s)[q]? = some t := ⟨_, List.getElem?_eq_getElem (by rw [List.length_set]; exact hq)⟩
    rw [shs_at _ q t ht r hr]
    by_cases e : q = j
    · subst e
      rw [List.getElem?_set_self hq, Option.some.injEq] at ht
      subst ht
      simp only [List.getElem?_set, List.length_set]
      rcases (by omega : r = 0 ∨ r = 1 ∨ r = 2) with rfl | rfl | rfl
      · rw [if_neg (by omega), if_neg (by omega), if_pos (by omega), if_pos (by omega)]; rfl
      · rw [if_neg (by omega), if_pos (by omega), if_pos (by omega)]; rfl
      · rw [if_pos (by omega), if_pos (by omega)]; rfl
    · rw [List.getElem?_set_ne (fun e2 => e e2.symm)] at ht
      simp only [List.getElem?_set, List.length_set]
      rw [if_neg (by omega), if_neg (by omega), if_neg (by omega)]
      exact shs_at l q t ht r hr
  · rw [List.getElem?_eq_none (by simp only [List.length_set]; omega), List.getElem?_eq_none (by rw [shs_length, List.length_set]; omega)]
/-- A share is another now. -/
theorem OwnS.put {T : TypeId} {B : Nat} {w : World} {g cap : Nat} {l : List Shr} (h : OwnS T B w (some ⟨g, 0, none⟩) cap l) {j : Nat} (hj : j < l.length) (s : Shr) :
    OwnS T B (((w.setCell ⟨g, j * 3, none⟩ (.int .i64 s.x)).setCell ⟨g, j * 3 + 1, none⟩ (.int .i64 s.need)).setCell ⟨g, j * 3 + 2, none⟩ (.string s.y)) (some ⟨g, 0, none⟩) cap (l.set j s) := by
  unfold OwnS
  rw [List.length_set, ← shs_set3 hj s]
  exact Own.put (Own.put (Own.put h _ _) _ _) _ _
theorem shs_setY {l : List Shr} {j : Nat} {t : Shr} (hj : l[j]? = some t) (y : ByteArray) : (shs l).set (j * 3 + 2) (.string y) = shs (l.set j ⟨t.x, t.need, y⟩) := by
  have hlt := (List.getElem?_eq_some_iff.1 hj).1
  rw [← shs_set3 hlt]
  have e0 := shs_at l j t hj 0 (by omega)
  have e1 := shs_at l j t hj 1 (by omega)
  congr 1
  apply List.ext_getElem?
  intro i
  simp only [List.getElem?_set, List.length_set]
  have hlen := shs_length l
  by_cases h1 : j * 3 + 1 = i
  · subst h1; rw [if_pos rfl, if_pos (by omega), e1]; rfl
  · rw [if_neg h1]
    by_cases h0 : j * 3 = i
    · subst h0; rw [if_pos rfl, if_pos (by omega)]; exact e0
    · rw [if_neg h0]
/-- A share's bytes are others now. -/
theorem OwnS.putY {T : TypeId} {B : Nat} {w : World} {g cap : Nat} {l : List Shr} (h : OwnS T B w (some ⟨g, 0, none⟩) cap l) {j : Nat} {t : Shr} (hj : l[j]? = some t) (y : ByteArray) :
    OwnS T B (w.setCell ⟨g, j * 3 + 2, none⟩ (.string y)) (some ⟨g, 0, none⟩) cap (l.set j ⟨t.x, t.need, y⟩) := by
  unfold OwnS
  rw [List.length_set, ← shs_setY hj y]
  exact Own.put h _ _
theorem Tryd.info_shr : (Tryd.prog.info? 41).map (fun i => (i.zero, i.size, i.bytes)) = some (some (.agg #[.int .i64 0, .int .i64 0, .string ⟨#[]⟩]), 3, 32) := by kernel_rfl
def zeroShr : Shr := ⟨0, 0, ⟨#[]⟩⟩
theorem make_shares (w : World) (n : Nat) (hn : n ≤ 1000000) : ∃ w', (Instr.makeSlice 25 (.int .i64 (n : Int)) (.int .i64 (n : Int))).run Tryd.prog w = .ok (.slice (some ⟨w.heap.size, 0, none⟩) n n) w' ∧ OwnS 41 w.heap.size w' (some ⟨w.heap.size, 0, none⟩) n (List.replicate n zeroShr) ∧ Below w.heap.size w w' := by
  obtain ⟨i0, hi0, hz0, hz1, hz2⟩ := info_parts Tryd.info_shr
  obtain ⟨w', h1, h2, h3⟩ := run_makeSlice_full (P := Tryd.prog) w 0 25 41 i0 (.agg #[.int .i64 0, .int .i64 0, .string ⟨#[]⟩]) 3 Tryd.underlying25 hi0 hz0 hz1 .i64 .i64 n (by omega) (by rw [hz2]; omega) (by unfold maxLen; omega) (Nat.zero_le _)
  refine ⟨w', h1, ?_, (Below.refl _ _).grown h3 (Nat.le_refl _) (fun k hk => by cases hk)⟩
  unfold OwnS
  rw [List.length_replicate]
  have e : shs (List.replicate n zeroShr) = (madeCells (Value.agg #[.int .i64 0, .int .i64 0, .string ⟨#[]⟩]).cells (n * 3)).toList := by
    have hl := shs_length (List.replicate n zeroShr)
    rw [List.length_replicate] at hl
    apply List.ext_getElem?
    intro i
    by_cases hi : i < n * 3
    · obtain ⟨q, r, hr, rfl⟩ : ∃ q r, r < 3 ∧ i = q * 3 + r := ⟨i / 3, i % 3, Nat.mod_lt _ (by decide), by omega⟩
      rw [shs_at _ q zeroShr (by rw [List.getElem?_replicate, if_pos (by omega)]) r hr]
      simp only [madeCells, Value.cells, Array.getElem?_toList]
      rcases (by omega : r = 0 ∨ r = 1 ∨ r = 2) with rfl | rfl | rfl
      · have hi' : q * 3 < n * 3 := by omega
        simp [hi', Shr.cells, zeroShr]
      · simp [hi, Shr.cells, zeroShr, Nat.add_mod]
      · simp [hi, Shr.cells, zeroShr, Nat.add_mod]
    · rw [List.getElem?_eq_none (by omega), List.getElem?_eq_none (by simp [madeCells]; omega)]
  rw [e]; exact ⟨h2, fun g hg => by simp [Value.ownBlock] at hg; omega⟩
end Go.Proofs.YtefpfedpgedloaaDoor
