/- What a Run's cells say; how a copy of a text, a store of the size, a store of the words turn them. -/
import Derived.Test.YtnpdmkgefaobeaaDoorMem
import Derived.Test.YtnpdmkgefaobeaaDoorPad
import Derived.Laws.CopyOwn
namespace Go.Proofs.YtnpdmkgefaobeaaDoor
open Go.RowKit

/-- The cells of a Run: the words, the bytes of its block, its size. -/
def Blk (c : Array Value) (st : St) (f : Nat → UInt8) (n : Nat) : Prop :=
  c.size = 73 ∧ (∀ i, i < 8 → c[i]? = some (.int .u32 (V (st.get i)))) ∧ (∀ j, j < 64 → c[8 + j]? = some (.int .u8 ((f j).toNat : Int))) ∧ c[72]? = some (.int .i64 n)
/-- The bytes f begin as those behind the last whole block of l. -/
def Tail (f : Nat → UInt8) (l : List UInt8) : Prop := ∀ j, j < l.length % 64 → f j = l.getD (64 * (l.length / 64) + j) 0
/-- A Run that has taken l. -/
def RunOf (c : Array Value) (l : List UInt8) : Prop := ∃ st f, Blk c st f l.length ∧ first.add st = absorb first l (l.length / 64) ∧ Tail f l

theorem RunOf.size {c : Array Value} {l : List UInt8} (h : RunOf c l) : c.size = 73 := by obtain ⟨_, _, h, _⟩ := h; exact h.1
theorem Blk.oneCell {c : Array Value} {st : St} {f : Nat → UInt8} {n : Nat} (h : Blk c st f n) : c.all (·.oneCell') = true := by
  obtain ⟨hz, h1, h2, h3⟩ := h
  refine Array.all_eq_true.2 fun j hj => ?_
  have hg := Array.getElem?_eq_getElem hj
  by_cases a : j < 8
  · rw [h1 j a] at hg; rw [← Option.some.inj hg]; rfl
  · by_cases b : j < 72
    · have := h2 (j - 8) (by omega)
      rw [show 8 + (j - 8) = j by omega] at this
      rw [this] at hg; rw [← Option.some.inj hg]; rfl
    · obtain rfl : j = 72 := by omega
      rw [h3] at hg; rw [← Option.some.inj hg]; rfl
theorem RunOf.oneCell {c : Array Value} {l : List UInt8} (h : RunOf c l) : c.all (·.oneCell') = true := by obtain ⟨_, _, h, _⟩ := h; exact h.oneCell
theorem first_add (s r : St) : first.add (s.add r) = (first.add s).add r := St.ext_get fun i _ => by simp only [St.get_add, BitVec.add_assoc]

def mix (f : Nat → UInt8) (r n : Nat) (l : List UInt8) (j : Nat) : UInt8 := if r ≤ j ∧ j < r + n then l.getD (j - r) 0 else f j

theorem getD_app (l r : List UInt8) (i : Nat) : (l ++ r).getD i 0 = if i < l.length then l.getD i 0 else r.getD (i - l.length) 0 := by
  by_cases h : i < l.length
  · rw [if_pos h, getD_left _ _ _ _ h]
  · rw [if_neg h, List.getD_eq_getElem?_getD, List.getElem?_append_right (by omega), ← List.getD_eq_getElem?_getD]
theorem getD_take (l : List UInt8) (n i : Nat) (h : i < n) : (l.take n).getD i 0 = l.getD i 0 := by
  rw [List.getD_eq_getElem?_getD, List.getElem?_take_of_lt h, ← List.getD_eq_getElem?_getD]

/-- The block is not whole yet. -/
theorem tail_part {f : Nat → UInt8} {l s : List UInt8} {n : Nat} (h : Tail f l) (hn : n ≤ s.length) (h64 : l.length % 64 + n < 64) :
    Tail (mix f (l.length % 64) n s) (l ++ s.take n) ∧ (l ++ s.take n).length / 64 = l.length / 64 := by
  have hlen : (l ++ s.take n).length = l.length + n := by simp; omega
  have hd : (l.length + n) / 64 = l.length / 64 := by omega
  have hm : (l.length + n) % 64 = l.length % 64 + n := by omega
  refine ⟨fun j hj => ?_, by rw [hlen, hd]⟩
  rw [hlen] at hj ⊢
  rw [hd, getD_app]
  unfold mix
  by_cases e : l.length % 64 ≤ j
  · rw [if_pos (by omega), if_neg (by omega), getD_take _ _ _ (by omega)]
    congr 1; omega
  · rw [if_neg (by omega), if_pos (by omega)]
    exact h j (by omega)
/-- The block is whole. -/
theorem tail_whole {f : Nat → UInt8} {l s : List UInt8} {n : Nat} (h : Tail f l) (hn : n ≤ s.length) (h64 : l.length % 64 + n = 64) :
    (∀ j, j < 64 → mix f (l.length % 64) n s j = (l ++ s.take n).getD (64 * (l.length / 64) + j) 0) ∧ (l ++ s.take n).length / 64 = l.length / 64 + 1 ∧ (l ++ s.take n).length % 64 = 0 := by
  have hlen : (l ++ s.take n).length = l.length + n := by simp; omega
  refine ⟨fun j hj => ?_, by rw [hlen]; omega, by rw [hlen]; omega⟩
  rw [getD_app]
  unfold mix
  by_cases e : l.length % 64 ≤ j
  · rw [if_pos (by omega), if_neg (by omega), getD_take _ _ _ (by omega)]
    congr 1; omega
  · rw [if_neg (by omega), if_pos (by omega)]
    exact h j (by omega)
theorem absorb_app (s : St) (l r : List UInt8) (n : Nat) (h : 64 * n ≤ l.length) : absorb s (l ++ r) n = absorb s l n :=
  absorb_congr s n (fun j hj => by rw [getD_app, if_pos (by omega)])

theorem run_part {c : Array Value} {st : St} {f : Nat → UInt8} {l s : List UInt8} {n : Nat} (hb : Blk c st (mix f (l.length % 64) n s) (l.length + n)) (ha : first.add st = absorb first l (l.length / 64)) (ht : Tail f l)
    (hn : n ≤ s.length) (h64 : l.length % 64 + n < 64) : RunOf c (l ++ s.take n) := by
  obtain ⟨h1, h2⟩ := tail_part ht hn h64
  have hlen : (l ++ s.take n).length = l.length + n := by simp; omega
  exact ⟨st, _, by rw [hlen]; exact hb, by rw [h2, absorb_app _ _ _ _ (by omega)]; exact ha, h1⟩
theorem run_whole {c : Array Value} {st : St} {f g : Nat → UInt8} {l s : List UInt8} {n : Nat} (ha : first.add st = absorb first l (l.length / 64)) (ht : Tail f l)
    (hn : n ≤ s.length) (h64 : l.length % 64 + n = 64) (hb : Blk c (st.add (rounds (wordOf (mix f (l.length % 64) n s)) (first.add st) 64)) g (l.length + n)) : RunOf c (l ++ s.take n) := by
  obtain ⟨h1, h2, h3⟩ := tail_whole ht hn h64
  have hlen : (l ++ s.take n).length = l.length + n := by simp; omega
  refine ⟨_, g, by rw [hlen]; exact hb, ?_, fun j hj => by omega⟩
  rw [h2, absorb, absorb_app _ _ _ _ (by omega), ← ha, first_add]
  exact take_congr (fun i hi => wordOf_congr h1 hi) _

/-! ### The cells -/
theorem blk_copy {c : Array Value} {st : St} {f : Nat → UInt8} {m : Nat} (hb : Blk c st f m) (r n : Nat) (s : List UInt8) (hr : r + n ≤ 64) (hn : n ≤ s.length) :
    Blk (c.toList.take (8 + r) ++ ((s.take n).map (fun b => Value.int .u8 b.toNat) ++ c.toList.drop (8 + r + n))).toArray st (mix f r n s) m := by
  obtain ⟨hz, h1, h2, h3⟩ := hb
  have hl : c.toList.length = 73 := by simpa using hz
  have hlt : ((s.take n).map (fun b => Value.int .u8 b.toNat)).length = n := by simp; omega
  have hget : ∀ i, (c.toList.take (8 + r) ++ ((s.take n).map (fun b => Value.int .u8 b.toNat) ++ c.toList.drop (8 + r + n))).toArray[i]? =
      if i < 8 + r then c[i]? else if i < 8 + r + n then some (.int .u8 ((s.getD (i - (8 + r)) 0).toNat : Int)) else c[i]? := by
    intro i
    rw [List.getElem?_toArray]
    by_cases e : i < 8 + r
    · rw [if_pos e, List.getElem?_append_left (by simp; omega), List.getElem?_take_of_lt e, Array.getElem?_toList]
    · have hlen : (c.toList.take (8 + r)).length = 8 + r := by simp; omega
      rw [if_neg e, List.getElem?_append_right (by omega), hlen]
      by_cases e2 : i < 8 + r + n
      · rw [if_pos e2, List.getElem?_append_left (by omega), List.getElem?_map, List.getElem?_take_of_lt (by omega), List.getD_eq_getElem?_getD, List.getElem?_eq_getElem (by omega)]
        rfl
      · rw [if_neg e2, List.getElem?_append_right (by omega), hlt, List.getElem?_drop, Array.getElem?_toList]
        congr 1; omega
  refine ⟨by simp; omega, fun i hi => by rw [hget, if_pos (by omega), h1 i hi], fun j hj => ?_, ?_⟩
  · rw [hget]
    unfold mix
    by_cases e : 8 + j < 8 + r
    · rw [if_pos e, if_neg (by omega), h2 j hj]
    · rw [if_neg e]
      by_cases e2 : 8 + j < 8 + r + n
      · rw [if_pos e2, if_pos (by omega), show 8 + j - (8 + r) = j - r by omega]
      · rw [if_neg e2, if_neg (by omega), h2 j hj]
  · rw [hget, if_neg (by omega), if_neg (by omega)]; exact h3
theorem blk_size {c : Array Value} {st : St} {f : Nat → UInt8} {m : Nat} (hb : Blk c st f m) (n : Nat) : Blk (c.setIfInBounds 72 (.int .i64 n)) st f n := by
  obtain ⟨hz, h1, h2, h3⟩ := hb
  refine ⟨by simpa using hz, fun i hi => ?_, fun j hj => ?_, ?_⟩
  · rw [Array.getElem?_setIfInBounds, if_neg (by omega), h1 i hi]
  · rw [Array.getElem?_setIfInBounds, if_neg (by omega), h2 j hj]
  · rw [Array.getElem?_setIfInBounds, if_pos rfl, if_pos (by omega)]
/-- Cells that are laid over a block's cells from o on. -/
theorem heap_setCells (b : Nat) (t : TypeId) : ∀ (vs : List Value) (o : Nat) (w : World) (c : Array Value), w.heap[b]? = some (.cells c t (0, 0)) → o + vs.length ≤ c.size →
    ∃ c' : Array Value, (w.setCells b o vs).heap[b]? = some (.cells c' t (0, 0)) ∧ c'.size = c.size ∧ ∀ i, c'[i]? = if o ≤ i ∧ i < o + vs.length then vs[i - o]? else c[i]?
  | [], o, w, c, h, _ => ⟨c, h, rfl, fun i => by rw [if_neg (by simp)]⟩
  | v :: r, o, w, c, h, hl => by
    obtain ⟨c', h1, h2, h3⟩ := heap_setCells b t r (o + 1) (w.setCell ⟨b, o, none⟩ v) _ (heap_setCell_same _ _ _ _ _ _ h) (by simp at hl ⊢; omega)
    refine ⟨c', h1, by simpa using h2, fun i => ?_⟩
    rw [h3, Array.getElem?_setIfInBounds]
    simp only [List.length_cons] at hl ⊢
    by_cases e : o = i
    · subst e; rw [if_neg (by omega), if_pos rfl, if_pos (by omega), if_pos (by omega)]; simp
    · by_cases e2 : o + 1 ≤ i ∧ i < o + 1 + r.length
      · rw [if_pos e2, if_pos (by omega), show i - o = (i - (o + 1)) + 1 by omega]; simp
      · rw [if_neg e2, if_neg e, if_neg (by omega)]
theorem below_setCells {B : Nat} {a : World} (b : Nat) (hb : B ≤ b) : ∀ (vs : List Value) (o : Nat) (w : World), Below B a w → Below B a (w.setCells b o vs)
  | [], _, _, h => h
  | v :: r, o, _, h => below_setCells b hb r (o + 1) _ (h.setCell hb v)
theorem heap_setCells_other (b k : Nat) (hk : k ≠ b) : ∀ (vs : List Value) (o : Nat) (w : World), (w.setCells b o vs).heap[k]? = w.heap[k]?
  | [], _, _ => rfl
  | v :: r, o, w => (heap_setCells_other b k hk r (o + 1) _).trans (heap_setCell_other w _ k v hk)
theorem blk_words {w : World} {b : Nat} {c : Array Value} {t : TypeId} {st st' : St} {f : Nat → UInt8} {m : Nat} (h : w.heap[b]? = some (.cells c t (0, 0))) (hb : Blk c st f m) :
    ∃ c', (w.setCells b 0 (cells8 st').toList).heap[b]? = some (.cells c' t (0, 0)) ∧ Blk c' st' f m := by
  obtain ⟨hz, _, h2, h3⟩ := hb
  have hl : (cells8 st').toList.length = 8 := rfl
  obtain ⟨c', g1, g2, g3⟩ := heap_setCells b t (cells8 st').toList 0 w c h (by rw [hl]; omega)
  refine ⟨c', g1, by omega, fun i hi => ?_, fun j hj => ?_, ?_⟩
  · rw [g3, if_pos (by rw [hl]; omega), Nat.sub_zero, Array.getElem?_toList, cells8_get st' i hi]
  · rw [g3, if_neg (by rw [hl]; omega), h2 j hj]
  · rw [g3, if_neg (by rw [hl]; omega), h3]

/-! ### copy(b[..], s), s a text -/
theorem run_firstCells_take {P : Program} (w : World) (size n : Nat) (s : ByteArray) : (Builtin.firstCells size n (.string s)).run P w = .ok ((s.data.toList.take n).map fun b => Value.int .u8 b.toNat).toArray w := by
  simp only [Builtin.firstCells, Sem.run_pure]
  congr 1
  apply Array.ext'
  simp
theorem wpList_copy_str {P : Program} {w : World} {ops : Array Oper} {rest : List Oper} {o : Oper} {a : Act} {Q : Exit → Act → World → Prop} (hgd : o.guard = none) (d s : Operand) (dT sT : TypeId)
    (ho : o.op = .call { callee := .builtin .copy, args := #[d, s], argTypes := #[dT, sT] }) (elem : TypeId) (hu : P.underlying dT = some (.slice elem)) (hsz : (P.info? elem).map (·.size) = some 1)
    (g off dLen dCap : Nat) (x : ByteArray) (hd : a.eval d = .slice (some ⟨g, off, none⟩) dLen dCap) (hs : a.eval s = .string x)
    (cur : Array Value) (t : TypeId) (hg : w.heap[g]? = some (.cells cur t (0, 0))) (n : Nat) (hn : n = Nat.min x.size dLen) (hfit : off + dLen ≤ cur.size)
    (h : ∀ vs : List Value, vs = (x.data.toList.take n).map (fun b => Value.int .u8 b.toNat) → wpList P ops Q rest (a.put o.dst (goInt n)) (w.setRow g (cur.toList.take off ++ (vs ++ cur.toList.drop (off + n))).toArray)) : wpList P ops Q (o :: rest) a w := by
  refine wpList_plain hgd fun K hK => ?_
  have hx : x.data.toList.length = x.size := rfl
  obtain ⟨vs, hvs⟩ : ∃ vs : List Value, vs = (x.data.toList.take n).map (fun b => Value.int .u8 b.toNat) := ⟨_, rfl⟩
  have hfc := fun size => run_firstCells_take (P := P) w size n x
  rw [← hvs] at hfc
  have hlen : vs.length = n := by
    rw [hvs, List.length_map, List.length_take, hx, hn]
    exact Nat.min_eq_left (Nat.min_le_left _ _)
  have hnd : n ≤ dLen := by rw [hn]; exact Nat.min_le_right _ _
  have hst := run_storeCells_at P g off t vs 0 cur w hg (by rw [hlen]; omega) (fun v hv => by
    rw [hvs] at hv
    simp only [List.mem_map] at hv
    obtain ⟨b, _, rfl⟩ := hv
    rfl)
  have h' := h vs hvs
  clear h hvs
  have hrun : (Builtin.copy_ #[dT, sT] o.type #[.slice (some ⟨g, off, none⟩) dLen dCap, .string x]).run P w =
      .ok (goInt n) (w.setRow g (cur.toList.take off ++ (vs ++ cur.toList.drop (off + n))).toArray) := by
    cases hq : P.info? elem with
    | none => simp [hq] at hsz
    | some i =>
      rw [Nat.add_zero, hlen] at hst
      simp [Builtin.copy_, run_underlying hu, Builtin.lenOf, hfc, sizeOf, typeInfo, hq, ← hn, hst]
  unfold Oper.wp
  simp [execOp, ho, resolve, invoke, builtin, hd, hs, hrun, Result.andThen]
  exact hK _ _ h'
/-- The same, into a Run's block: what the block says behind it. -/
theorem wpList_copy_blk {P : Program} {w : World} {ops : Array Oper} {rest : List Oper} {o : Oper} {a : Act} {Q : Exit → Act → World → Prop} (hgd : o.guard = none) (d s : Operand) (dT sT : TypeId)
    (ho : o.op = .call { callee := .builtin .copy, args := #[d, s], argTypes := #[dT, sT] }) (elem : TypeId) (hu : P.underlying dT = some (.slice elem)) (hsz : (P.info? elem).map (·.size) = some 1)
    (g off dLen : Nat) (x : ByteArray) (hd : a.eval d = .slice (some ⟨g, off, none⟩) dLen dLen) (hs : a.eval s = .string x)
    (c : Array Value) (t : TypeId) (st : St) (f : Nat → UInt8) (m r n : Nat) (B : Nat) (W : World)
    (hyp : Hid (w.heap[g]? = some (.cells c t (0, 0)) ∧ Blk c st f m ∧ Below B W w ∧ B ≤ g ∧ off = 8 + r ∧ dLen = 64 - r ∧ r < 64 ∧ n = Nat.min x.size dLen))
    (h : ∀ c' w', Hid (w'.heap[g]? = some (.cells c' t (0, 0)) ∧ Blk c' st (mix f r n x.data.toList) m ∧ Below B W w' ∧ ∀ k, k ≠ g → w'.heap[k]? = w.heap[k]?) → wpList P ops Q rest (a.put o.dst (goInt n)) w') : wpList P ops Q (o :: rest) a w := by
  obtain ⟨hg, hblk, hb, hB, ho8, hdl, hr, hn⟩ := hyp.out
  have hn1 : n ≤ x.size := by rw [hn]; exact Nat.min_le_left _ _
  have hn2 : n ≤ dLen := by rw [hn]; exact Nat.min_le_right _ _
  refine wpList_copy_str hgd d s dT sT ho elem hu hsz g off dLen dLen x hd hs c t hg n hn (by rw [hblk.1]; omega) (fun vs hvs => ?_)
  refine h _ _ (show _ ∧ _ from ⟨setRow_heap _ _ _ _ _ _ hg, ?_, below_setRow hb _ _ hB, fun k hk => setRow_other _ _ _ _ hk⟩)
  subst hvs ho8
  exact blk_copy hblk r n x.data.toList (by omega) hn1
end Go.Proofs.YtnpdmkgefaobeaaDoor
