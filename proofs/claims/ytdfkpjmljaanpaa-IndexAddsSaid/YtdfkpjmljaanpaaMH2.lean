/- Merged by program: takeIn: a block is taken in. | wordsOf: the words of a block. | ending: what stands behind a text of n bytes. | What a Run's cells say; how a copy of a text, a store of the size, a store of the words turn them. | With: a run, and a text behind it. | Sum of a Run; Begin; Size; Sum, Twice of a text. -/
import Derived.Test.YtdfkpjmljaanpaaMH1
import Derived.Deep.QuietTactic
import Derived.BigQuiet
import Derived.StillTailTactics
import Derived.Deep.DeepMust
import Derived.Deep.WholeRow
import Derived.Test.YtdfkpjmljaanpaaMB
import Derived.Laws.CopyOwn
import Derived.Deep.RegionHeld3
import Derived.Deep.RegionWith
import Derived.Lib.Strings
import Derived.Lib.IndexBytes
namespace Go.Proofs.Ytdfkpjmljaanpaa
open Go.RowKit

attribute [local go_sem] V_add V_add' V_xor V_and V_or V_not V_not' V_shr V_shl V_shl'
attribute [local go_sem] V_div8 V_div1024

theorem nextEq {m : Nat → BitVec 32} {t k15 k2 j15 j2 k7 j7 jt : Nat} {x15 x2 x7 x16 : BitVec 32}
    (h : k15 = t - 15 ∧ k2 = t - 2 ∧ j15 = (t - 15) % 16 ∧ j2 = (t - 2) % 16 ∧ x15 = ww m (t - 15) ∧ x2 = ww m (t - 2))
    (g : k7 = t - 7 ∧ j7 = (t - 7) % 16 ∧ jt = t % 16 ∧ x7 = ww m (t - 7) ∧ x16 = ww m (t - 16)) (ht : ¬ t < 16) :
    x16 + ((ror x15 7 ^^^ ror x15 18 ^^^ x15 >>> 3) + x7 + (ror x2 17 ^^^ ror x2 19 ^^^ x2 >>> 10)) = ww m t := by
  rw [ww_next m t ht, h.2.2.2.2.1, h.2.2.2.2.2, g.2.2.2.1, g.2.2.2.2]
  simp only [BitVec.add_assoc]



section
variable {m : Nat → BitVec 32} {r q : St} {t : Nat} {k x : BitVec 32}
theorem rel_a (h : q = rounds m r t) (g : x = ww m t ∧ k = kk t) : Value.int .u32 (V (uOf q k x + vOf q)) = .int .u32 (V (rounds m r (t + 1)).a) := by rw [rounds, ← h, g.1, g.2]; rfl
theorem rel_b (h : q = rounds m r t) : Value.int .u32 (V q.a) = .int .u32 (V (rounds m r (t + 1)).b) := by rw [rounds, ← h]; rfl
theorem rel_c (h : q = rounds m r t) : Value.int .u32 (V q.b) = .int .u32 (V (rounds m r (t + 1)).c) := by rw [rounds, ← h]; rfl
theorem rel_d (h : q = rounds m r t) : Value.int .u32 (V q.c) = .int .u32 (V (rounds m r (t + 1)).d) := by rw [rounds, ← h]; rfl
theorem rel_e (h : q = rounds m r t) (g : x = ww m t ∧ k = kk t) : Value.int .u32 (V (q.d + uOf q k x)) = .int .u32 (V (rounds m r (t + 1)).e) := by rw [rounds, ← h, g.1, g.2]; rfl
theorem rel_f (h : q = rounds m r t) : Value.int .u32 (V q.e) = .int .u32 (V (rounds m r (t + 1)).f) := by rw [rounds, ← h]; rfl
theorem rel_g (h : q = rounds m r t) : Value.int .u32 (V q.f) = .int .u32 (V (rounds m r (t + 1)).g) := by rw [rounds, ← h]; rfl
theorem rel_h (h : q = rounds m r t) : Value.int .u32 (V q.g) = .int .u32 (V (rounds m r (t + 1)).h) := by rw [rounds, ← h]; rfl
end

end Go.Proofs.Ytdfkpjmljaanpaa
namespace Go.Proofs.Ytdfkpjmljaanpaa
open Go.RowKit

attribute [local go_sem] V_add V_add' V_xor V_and V_or V_not V_not' V_shr V_div8 V_div1024 V_shl V_shl' V_byte V_byte' V_mul24 V_mul16 V_mul8

theorem words_oneCell {a : Array Value} {n : Nat} {g : Nat → BitVec 32} (hz : a.size = n) (h : ∀ j, j < n → a[j]? = some (.int .u32 (V (g j)))) : a.all (·.oneCell') = true := by
  refine Array.all_eq_true.2 fun j hj => ?_
  have := h j (by omega)
  rw [Array.getElem?_eq_getElem hj] at this
  rw [Option.some.inj this]; rfl

end Go.Proofs.Ytdfkpjmljaanpaa
namespace Go.Proofs.Ytdfkpjmljaanpaa
open Go.RowKit

/-- Byte j of the array at the head of round i. -/
def enAt (n i j : Nat) : UInt8 := if j = 0 then 128 else if padLen n ≤ j + i ∧ j < padLen n then padAt n j else 0
theorem en_byte (n i p : Nat) (hi : i < 8) (hp : p + 1 + i = padLen n) : ((n : Int) * 8 / 2 ^ (8 * i)) % 256 = ((padAt n p).toNat : Int) := by
  have hb := padLen_bd n
  rw [padAt, if_neg (by omega), if_neg (by omega), show padLen n - 1 - p = i by omega]
  rw [UInt8.toNat_ofNat']
  have e : ((2 : Int) ^ (8 * i)) = ((256 ^ i : Nat) : Int) := by rw [Int.pow_mul]; simp
  rw [e, Nat.mul_comm 8 n]
  simp

/-- An array or a struct that is put together, as a value of one's own spelling. -/
theorem wpList_build_to {P : Program} {ops : Array Oper} {rest : List Oper} {o : Oper} {a : Act} {w : World} {Q : Exit → Act → World → Prop} (hg : o.guard = none) (t : TypeId) (parts : Array (Nat × Operand)) (ho : o.op = .build t parts)
    (cells : Array Value) (hb : P.built t (parts.map fun (i, x) => (i, a.eval x)).toList = some cells) (h : wpList P ops Q rest (a.put o.dst (.agg cells)) w) : wpList P ops Q (o :: rest) a w :=
  wpList_build hg t parts ho (by rw [hb]; rfl) (by rw [hb]; exact h)

theorem blocksI_nat (n : Nat) : blocksI (n : Int) = ((blocksN n : Nat) : Int) := by
  unfold blocksI blocksN
  rw [if_neg (by omega)]
  by_cases h : n % 64 + 9 > 64
  · rw [if_pos h, if_pos (by omega)]; omega
  · rw [if_neg h, if_neg (by omega)]; omega
def zero128 : Array Value := Array.replicate 128 (.int .u8 0)
def end128 : Array Value := zero128.setIfInBounds 0 (.int .u8 128)
theorem rep_get (N : Nat) (u v : Value) (j : Nat) (hj : j < N) : ((Array.replicate N u).setIfInBounds 0 v)[j]? = some (if j = 0 then v else u) := by
  rw [Array.getElem?_setIfInBounds]
  by_cases e : 0 = j
  · subst e; rw [if_pos rfl, if_pos (by simpa using hj), if_pos rfl]
  · rw [if_neg e, if_neg (by omega), Array.getElem?_replicate, if_pos hj]
theorem end128_get (n j : Nat) (hj : j < 128) : end128[j]? = some (.int .u8 ((enAt n 0 j).toNat : Int)) := by
  have := padLen_bd n
  unfold end128 zero128 enAt
  rw [rep_get 128 _ _ j hj]
  by_cases e : j = 0
  · rw [if_pos e, if_pos e]; rfl
  · rw [if_neg e, if_neg e, if_neg (by omega)]; rfl
theorem end128_size : end128.size = 128 := by rw [end128, zero128, Array.size_setIfInBounds, Array.size_replicate]
theorem en_all {n : Nat} {a : Array Value} (hall : ∀ j, j < 128 → a[j]? = some (.int .u8 ((enAt n 8 j).toNat : Int))) (j : Nat) (hj : j < padLen n) : a[j]? = some (.int .u8 ((padAt n j).toNat : Int)) := by
  have := padLen_bd n
  rw [hall j (by omega)]
  unfold enAt
  by_cases h0 : j = 0
  · rw [if_pos h0, padAt, if_pos h0]
  · rw [if_neg h0]
    by_cases h1 : padLen n ≤ j + 8 ∧ j < padLen n
    · rw [if_pos h1]
    · rw [if_neg h1, padAt, if_neg h0, if_pos (by omega)]
theorem nums_pad (n j : Nat) (hj : j < padLen n) : (nums (padL n)).getD j 0 = ((padAt n j).toNat : Int) := by
  simp [nums, List.getD_eq_getElem?_getD, padL_get n j hj]

end Go.Proofs.Ytdfkpjmljaanpaa
namespace Go.Proofs.Ytdfkpjmljaanpaa
open Go.RowKit

/-- The cells of a Run: the words, the bytes of its block, its size. -/
def Blk (c : Array Value) (st : St) (f : Nat → UInt8) (n : Nat) : Prop :=
  c.size = 73 ∧ (∀ i, i < 8 → c[i]? = some (.int .u32 (V (st.get i)))) ∧ (∀ j, j < 64 → c[8 + j]? = some (.int .u8 ((f j).toNat : Int))) ∧ c[72]? = some (.int .i64 n)
/-- The bytes f begin as those behind the last whole block of l. -/
def Tail (f : Nat → UInt8) (l : List UInt8) : Prop := ∀ j, j < l.length % 64 → f j = l.getD (64 * (l.length / 64) + j) 0
/-- A Run that has taken l. -/
def RunOf (c : Array Value) (l : List UInt8) : Prop := ∃ st f, Blk c st f l.length ∧ first.add st = absorb first l (l.length / 64) ∧ Tail f l

theorem RunOf.size {c : Array Value} {l : List UInt8} (h : RunOf c l) : c.size = 73 := by obtain ⟨_, _, h, _⟩ := h; exact h.1
theorem Blk.oneCell {c : Array Value} {st : St} {f : Nat → UInt8} {n : Nat} (h : Blk c st f n) : c.all (·.oneCell') = true := by
  obtain ⟨hz, h1, h2, h3⟩ := h
  refine Array.all_eq_true.2 fun j hj => ?_
  have hg := Array.getElem?_eq_getElem hj
  by_cases a : j < 8
  · rw [h1 j a] at hg; rw [← Option.some.inj hg]; rfl
  · by_cases b : j < 72
    · have := h2 (j - 8) (by omega)
      rw [show 8 + (j - 8) = j by omega] at this
      rw [this] at hg; rw [← Option.some.inj hg]; rfl
    · obtain rfl : j = 72 := by omega
      rw [h3] at hg; rw [← Option.some.inj hg]; rfl
theorem RunOf.oneCell {c : Array Value} {l : List UInt8} (h : RunOf c l) : c.all (·.oneCell') = true := by obtain ⟨_, _, h, _⟩ := h; exact h.oneCell
theorem first_add (s r : St) : first.add (s.add r) = (first.add s).add r := St.ext_get fun i _ => by simp only [St.get_add, BitVec.add_assoc]

def mix (f : Nat → UInt8) (r n : Nat) (l : List UInt8) (j : Nat) : UInt8 := if r ≤ j ∧ j < r + n then l.getD (j - r) 0 else f j

theorem getD_app (l r : List UInt8) (i : Nat) : (l ++ r).getD i 0 = if i < l.length then l.getD i 0 else r.getD (i - l.length) 0 := by
  by_cases h : i < l.length
  · rw [if_pos h, getD_left _ _ _ _ h]
  · rw [if_neg h, List.getD_eq_getElem?_getD, List.getElem?_append_right (by omega), ← List.getD_eq_getElem?_getD]
theorem getD_take (l : List UInt8) (n i : Nat) (h : i < n) : (l.take n).getD i 0 = l.getD i 0 := by
  rw [List.getD_eq_getElem?_getD, List.getElem?_take_of_lt h, ← List.getD_eq_getElem?_getD]

/-- The block is not whole yet. -/
theorem tail_part {f : Nat → UInt8} {l s : List UInt8} {n : Nat} (h : Tail f l) (hn : n ≤ s.length) (h64 : l.length % 64 + n < 64) :
    Tail (mix f (l.length % 64) n s) (l ++ s.take n) ∧ (l ++ s.take n).length / 64 = l.length / 64 := by
  have hlen : (l ++ s.take n).length = l.length + n := by simp; omega
  have hd : (l.length + n) / 64 = l.length / 64 := by omega
  have hm : (l.length + n) % 64 = l.length % 64 + n := by omega
  refine ⟨fun j hj => ?_, by rw [hlen, hd]⟩
  rw [hlen] at hj ⊢
  rw [hd, getD_app]
  unfold mix
  by_cases e : l.length % 64 ≤ j
  · rw [if_pos (by omega), if_neg (by omega), getD_take _ _ _ (by omega)]
    congr 1; omega
  · rw [if_neg (by omega), if_pos (by omega)]
    exact h j (by omega)
/-- The block is whole. -/
theorem tail_whole {f : Nat → UInt8} {l s : List UInt8} {n : Nat} (h : Tail f l) (hn : n ≤ s.length) (h64 : l.length % 64 + n = 64) :
    (∀ j, j < 64 → mix f (l.length % 64) n s j = (l ++ s.take n).getD (64 * (l.length / 64) + j) 0) ∧ (l ++ s.take n).length / 64 = l.length / 64 + 1 ∧ (l ++ s.take n).length % 64 = 0 := by
  have hlen : (l ++ s.take n).length = l.length + n := by simp; omega
  refine ⟨fun j hj => ?_, by rw [hlen]; omega, by rw [hlen]; omega⟩
  rw [getD_app]
  unfold mix
  by_cases e : l.length % 64 ≤ j
  · rw [if_pos (by omega), if_neg (by omega), getD_take _ _ _ (by omega)]
    congr 1; omega
  · rw [if_neg (by omega), if_pos (by omega)]
    exact h j (by omega)
theorem absorb_app (s : St) (l r : List UInt8) (n : Nat) (h : 64 * n ≤ l.length) : absorb s (l ++ r) n = absorb s l n :=
  absorb_congr s n (fun j hj => by rw [getD_app, if_pos (by omega)])

theorem run_part {c : Array Value} {st : St} {f : Nat → UInt8} {l s : List UInt8} {n : Nat} (hb : Blk c st (mix f (l.length % 64) n s) (l.length + n)) (ha : first.add st = absorb first l (l.length / 64)) (ht : Tail f l)
    (hn : n ≤ s.length) (h64 : l.length % 64 + n < 64) : RunOf c (l ++ s.take n) := by
  obtain ⟨h1, h2⟩ := tail_part ht hn h64
  have hlen : (l ++ s.take n).length = l.length + n := by simp; omega
  exact ⟨st, _, by rw [hlen]; exact hb, by rw [h2, absorb_app _ _ _ _ (by omega)]; exact ha, h1⟩
theorem run_whole {c : Array Value} {st : St} {f g : Nat → UInt8} {l s : List UInt8} {n : Nat} (ha : first.add st = absorb first l (l.length / 64)) (ht : Tail f l)
    (hn : n ≤ s.length) (h64 : l.length % 64 + n = 64) (hb : Blk c (st.add (rounds (wordOf (mix f (l.length % 64) n s)) (first.add st) 64)) g (l.length + n)) : RunOf c (l ++ s.take n) := by
  obtain ⟨h1, h2, h3⟩ := tail_whole ht hn h64
  have hlen : (l ++ s.take n).length = l.length + n := by simp; omega
  refine ⟨_, g, by rw [hlen]; exact hb, ?_, fun j hj => by omega⟩
  rw [h2, absorb, absorb_app _ _ _ _ (by omega), ← ha, first_add]
  exact take_congr (fun i hi => wordOf_congr h1 hi) _

/-! ### The cells -/
theorem blk_copy {c : Array Value} {st : St} {f : Nat → UInt8} {m : Nat} (hb : Blk c st f m) (r n : Nat) (s : List UInt8) (hr : r + n ≤ 64) (hn : n ≤ s.length) :
    Blk (c.toList.take (8 + r) ++ ((s.take n).map (fun b => Value.int .u8 b.toNat) ++ c.toList.drop (8 + r + n))).toArray st (mix f r n s) m := by
  obtain ⟨hz, h1, h2, h3⟩ := hb
  have hl : c.toList.length = 73 := by simpa using hz
  have hlt : ((s.take n).map (fun b => Value.int .u8 b.toNat)).length = n := by simp; omega
  have hget : ∀ i, (c.toList.take (8 + r) ++ ((s.take n).map (fun b => Value.int .u8 b.toNat) ++ c.toList.drop (8 + r + n))).toArray[i]? =
      if i < 8 + r then c[i]? else if i < 8 + r + n then some (.int .u8 ((s.getD (i - (8 + r)) 0).toNat : Int)) else c[i]? := by
    intro i
    rw [List.getElem?_toArray]
    by_cases e : i < 8 + r
    · rw [if_pos e, List.getElem?_append_left (by simp; omega), List.getElem?_take_of_lt e, Array.getElem?_toList]
    · have hlen : (c.toList.take (8 + r)).length = 8 + r := by simp; omega
      rw [if_neg e, List.getElem?_append_right (by omega), hlen]
      by_cases e2 : i < 8 + r + n
      · rw [if_pos e2, List.getElem?_append_left (by omega), List.getElem?_map, List.getElem?_take_of_lt (by omega), List.getD_eq_getElem?_getD, List.getElem?_eq_getElem (by omega)]
        rfl
      · rw [if_neg e2, List.getElem?_append_right (by omega), hlt, List.getElem?_drop, Array.getElem?_toList]
        congr 1; omega
  refine ⟨by simp; omega, fun i hi => by rw [hget, if_pos (by omega), h1 i hi], fun j hj => ?_, ?_⟩
  · rw [hget]
    unfold mix
    by_cases e : 8 + j < 8 + r
    · rw [if_pos e, if_neg (by omega), h2 j hj]
    · rw [if_neg e]
      by_cases e2 : 8 + j < 8 + r + n
      · rw [if_pos e2, if_pos (by omega), show 8 + j - (8 + r) = j - r by omega]
      · rw [if_neg e2, if_neg (by omega), h2 j hj]
  · rw [hget, if_neg (by omega), if_neg (by omega)]; exact h3
theorem blk_size {c : Array Value} {st : St} {f : Nat → UInt8} {m : Nat} (hb : Blk c st f m) (n : Nat) : Blk (c.setIfInBounds 72 (.int .i64 n)) st f n := by
  obtain ⟨hz, h1, h2, h3⟩ := hb
  refine ⟨by simpa using hz, fun i hi => ?_, fun j hj => ?_, ?_⟩
  · rw [Array.getElem?_setIfInBounds, if_neg (by omega), h1 i hi]
  · rw [Array.getElem?_setIfInBounds, if_neg (by omega), h2 j hj]
  · rw [Array.getElem?_setIfInBounds, if_pos rfl, if_pos (by omega)]
/-- Cells that are laid over a block's cells from o on. -/
theorem blk_words {w : World} {b : Nat} {c : Array Value} {t : TypeId} {st st' : St} {f : Nat → UInt8} {m : Nat} (h : w.heap[b]? = some (.cells c t (0, 0))) (hb : Blk c st f m) :
    ∃ c', (w.setCells b 0 (cells8 st').toList).heap[b]? = some (.cells c' t (0, 0)) ∧ Blk c' st' f m := by
  obtain ⟨hz, _, h2, h3⟩ := hb
  have hl : (cells8 st').toList.length = 8 := rfl
  obtain ⟨c', g1, g2, g3⟩ := heap_setCells b t (cells8 st').toList 0 w c h (by rw [hl]; omega)
  refine ⟨c', g1, by omega, fun i hi => ?_, fun j hj => ?_, ?_⟩
  · rw [g3, if_pos (by rw [hl]; omega), Nat.sub_zero, Array.getElem?_toList, cells8_get st' i hi]
  · rw [g3, if_neg (by rw [hl]; omega), h2 j hj]
  · rw [g3, if_neg (by rw [hl]; omega), h3]

/-! ### copy(b[..], s), s a text -/
theorem run_firstCells_take {P : Program} (w : World) (size n : Nat) (s : ByteArray) : (Builtin.firstCells size n (.string s)).run P w = .ok ((s.data.toList.take n).map fun b => Value.int .u8 b.toNat).toArray w := by
  simp only [Builtin.firstCells, Sem.run_pure]
  congr 1
  apply Array.ext'
  simp
theorem wpList_copy_str {P : Program} {w : World} {ops : Array Oper} {rest : List Oper} {o : Oper} {a : Act} {Q : Exit → Act → World → Prop} (hgd : o.guard = none) (d s : Operand) (dT sT : TypeId)
    (ho : o.op = .call { callee := .builtin .copy, args := #[d, s], argTypes := #[dT, sT] }) (elem : TypeId) (hu : P.underlying dT = some (.slice elem)) (hsz : (P.info? elem).map (·.size) = some 1)
    (g off dLen dCap : Nat) (x : ByteArray) (hd : a.eval d = .slice (some ⟨g, off, none⟩) dLen dCap) (hs : a.eval s = .string x)
    (cur : Array Value) (t : TypeId) (hg : w.heap[g]? = some (.cells cur t (0, 0))) (n : Nat) (hn : n = Nat.min x.size dLen) (hfit : off + dLen ≤ cur.size)
    (h : ∀ vs : List Value, vs = (x.data.toList.take n).map (fun b => Value.int .u8 b.toNat) → wpList P ops Q rest (a.put o.dst (goInt n)) (w.setRow g (cur.toList.take off ++ (vs ++ cur.toList.drop (off + n))).toArray)) : wpList P ops Q (o :: rest) a w := by
  refine wpList_plain hgd fun K hK => ?_
  have hx : x.data.toList.length = x.size := rfl
  obtain ⟨vs, hvs⟩ : ∃ vs : List Value, vs = (x.data.toList.take n).map (fun b => Value.int .u8 b.toNat) := ⟨_, rfl⟩
  have hfc := fun size => run_firstCells_take (P := P) w size n x
  rw [← hvs] at hfc
  have hlen : vs.length = n := by
    rw [hvs, List.length_map, List.length_take, hx, hn]
    exact Nat.min_eq_left (Nat.min_le_left _ _)
  have hnd : n ≤ dLen := by rw [hn]; exact Nat.min_le_right _ _
  have hst := run_storeCells_at P g off t vs 0 cur w hg (by rw [hlen]; omega) (fun v hv => by
    rw [hvs] at hv
    simp only [List.mem_map] at hv
    obtain ⟨b, _, rfl⟩ := hv
    rfl)
  have h' := h vs hvs
  clear h hvs
  have hrun : (Builtin.copy_ #[dT, sT] o.type #[.slice (some ⟨g, off, none⟩) dLen dCap, .string x]).run P w =
      .ok (goInt n) (w.setRow g (cur.toList.take off ++ (vs ++ cur.toList.drop (off + n))).toArray) := by
    cases hq : P.info? elem with
    | none => simp [hq] at hsz
    | some i =>
      rw [Nat.add_zero, hlen] at hst
      simp [Builtin.copy_, run_underlying hu, Builtin.lenOf, hfc, sizeOf, typeInfo, hq, ← hn, hst]
  unfold Oper.wp
  simp [execOp, ho, resolve, invoke, builtin, hd, hs, hrun, Result.andThen]
  exact hK _ _ h'
/-- The same, into a Run's block: what the block says behind it. -/
theorem wpList_copy_blk {P : Program} {w : World} {ops : Array Oper} {rest : List Oper} {o : Oper} {a : Act} {Q : Exit → Act → World → Prop} (hgd : o.guard = none) (d s : Operand) (dT sT : TypeId)
    (ho : o.op = .call { callee := .builtin .copy, args := #[d, s], argTypes := #[dT, sT] }) (elem : TypeId) (hu : P.underlying dT = some (.slice elem)) (hsz : (P.info? elem).map (·.size) = some 1)
    (g off dLen : Nat) (x : ByteArray) (hd : a.eval d = .slice (some ⟨g, off, none⟩) dLen dLen) (hs : a.eval s = .string x)
    (c : Array Value) (t : TypeId) (st : St) (f : Nat → UInt8) (m r n : Nat) (B : Nat) (W : World)
    (hyp : Hid (w.heap[g]? = some (.cells c t (0, 0)) ∧ Blk c st f m ∧ Below B W w ∧ B ≤ g ∧ off = 8 + r ∧ dLen = 64 - r ∧ r < 64 ∧ n = Nat.min x.size dLen))
    (h : ∀ c' w', Hid (w'.heap[g]? = some (.cells c' t (0, 0)) ∧ Blk c' st (mix f r n x.data.toList) m ∧ Below B W w' ∧ ∀ k, k ≠ g → w'.heap[k]? = w.heap[k]?) → wpList P ops Q rest (a.put o.dst (goInt n)) w') : wpList P ops Q (o :: rest) a w := by
  obtain ⟨hg, hblk, hb, hB, ho8, hdl, hr, hn⟩ := hyp.out
  have hn1 : n ≤ x.size := by rw [hn]; exact Nat.min_le_left _ _
  have hn2 : n ≤ dLen := by rw [hn]; exact Nat.min_le_right _ _
  refine wpList_copy_str hgd d s dT sT ho elem hu hsz g off dLen dLen x hd hs c t hg n hn (by rw [hblk.1]; omega) (fun vs hvs => ?_)
  refine h _ _ (show _ ∧ _ from ⟨setRow_heap _ _ _ _ _ _ hg, ?_, below_setRow hb _ _ hB, fun k hk => setRow_other _ _ _ _ hk⟩)
  subst hvs ho8
  exact blk_copy hblk r n x.data.toList (by omega) hn1
end Go.Proofs.Ytdfkpjmljaanpaa
namespace Go.Proofs.Ytdfkpjmljaanpaa
open Go.RowKit

def zero73 : Array Value := Array.replicate 8 (.int .u32 0) ++ Array.replicate 64 (.int .u8 0) ++ #[.int .i64 0]
theorem zero73_size : zero73.size = 73 := by simp only [zero73, Array.size_append, Array.size_replicate]; rfl
def strLen : Value → Nat
  | .string r => r.size
  | _ => 0
theorem extract_rest (s : ByteArray) (n : Nat) : (s.extract n s.size).data.toList = s.data.toList.drop n := by
  exact Lib.extract_to_end s n

theorem cell72 {w2 : World} {g : Nat} {c1 : Array Value} {t : TypeId} {st : St} {f : Nat → UInt8} {m : Nat} {R : Prop} (h : Hid (w2.heap[g]? = some (.cells c1 t (0, 0)) ∧ Blk c1 st f m ∧ R)) : w2.cell? ⟨g, 72, none⟩ = some (.int .i64 m) := by
  rw [cell_of_row _ _ _ _ _ _ h.out.1]; exact h.out.2.1.2.2.2
theorem free72 {w2 : World} {g : Nat} {c1 : Array Value} {t : TypeId} {R : Prop} (h : Hid (w2.heap[g]? = some (.cells c1 t (0, 0)) ∧ R)) : w2.frozen? ⟨g, 72, none⟩ = false := frozen_of_row _ _ _ _ _ h.out.1

theorem bytes_of {c : Array Value} {st : St} {f : Nat → UInt8} {m : Nat} (h : Blk c st f m) : (c.extract 8 72).size = 64 ∧ ∀ j, j < 64 → (c.extract 8 72)[j]? = some (.int .u8 ((f j).toNat : Int)) := by
  refine ⟨by rw [Array.size_extract, h.1]; decide, fun j hj => ?_⟩
  rw [Array.getElem?_extract, if_pos (by rw [h.1]; omega)]
  exact h.2.2.1 j hj
theorem words_of {c : Array Value} {st : St} {f : Nat → UInt8} {m : Nat} (h : Blk c st f m) : c.extract 0 8 = cells8 st :=
  cells8_of (by rw [Array.size_extract, h.1]; decide) fun i hi => by
    rw [Array.getElem?_extract, if_pos (by rw [h.1]; omega), Nat.zero_add]; exact h.2.1 i hi
/-- The cells of a block that may be written. -/
def rowOf (W : World) (g : Nat) : Array Value := match W.heap[g]? with | some (.cells c _ (0, 0)) => c | _ => #[]
theorem rowOf_eq {W : World} {g : Nat} {c : Array Value} {t : TypeId} (h : W.heap[g]? = some (.cells c t (0, 0))) : rowOf W g = c := by simp [rowOf, h]
theorem rowOf_heap {W : World} {g : Nat} {n : Nat} (h : (rowOf W g).size = n + 1) : ∃ t, W.heap[g]? = some (.cells (rowOf W g) t (0, 0)) := by
  cases hq : W.heap[g]? with
  | none => simp [rowOf, hq] at h
  | some o =>
    cases o with
    | cells c t fr =>
      obtain ⟨x, y⟩ := fr
      by_cases e : x = 0 ∧ y = 0
      · obtain ⟨rfl, rfl⟩ := e; exact ⟨t, by rw [rowOf_eq hq]⟩
      · exfalso
        revert h
        unfold rowOf
        rw [hq]
        split
        · rename_i h2; simp at h2; omega
        · simp
    | _ => simp [rowOf, hq] at h
theorem rowOf_drew (W : World) (g : Nat) : rowOf W.drew g = rowOf W g := rfl
theorem rowOf_below {W W' : World} {g : Nat} (h : Below W.heap.size W W') (hg : g < W.heap.size) : rowOf W' g = rowOf W g := by
  unfold rowOf; rw [h.block g hg]
theorem lt_of_row {W : World} {g n : Nat} (h : (rowOf W g).size = n + 1) : g < W.heap.size := by
  obtain ⟨t, ht⟩ := rowOf_heap h
  rcases Nat.lt_or_ge g W.heap.size with k | k
  · exact k
  · rw [Array.getElem?_eq_none k] at ht; cases ht
/-- The loads and the store of whole rows, closed to the walk till their block is known. -/
def ldRow (T : TypeId) (p : Value) : Sem Value := Instr.loadAt T p
def stRow (T : TypeId) (p v : Value) : Sem Unit := Instr.storeAt T p v
theorem keepCall {A B C : World} (h : Below A.heap.size A B) (k : Below B.heap.size B C) : Below A.heap.size A C := h.trans (k.mono h.size)
theorem rowAfter {W W4 : World} {g : Nat} {c : Array Value} (h : rowOf W g = c) (hz : c.size = 73) (hb : Below W.drew.heap.size W.drew W4) : rowOf W4 g = c := by
  have hlt : g < W.heap.size := lt_of_row (n := 72) (by rw [h]; exact hz)
  exact (rowOf_below hb hlt).trans h
theorem rowAfter2 {W W4 : World} {g : Nat} {c : Array Value} (h : rowOf W g = c) (hz : c.size = 73) (hb : Below W.heap.size W W4) : rowOf W4 g = c := by
  have hlt : g < W.heap.size := lt_of_row (n := 72) (by rw [h]; exact hz)
  exact (rowOf_below hb hlt).trans h
theorem belowOfDrew {W W4 : World} (hb : Below W.drew.heap.size W.drew W4) : Below W.heap.size W W4 := ⟨hb.os, hb.tape, hb.output, hb.size, hb.block⟩

/-- The block and its Run behind the store of the size. -/
theorem size_stored {R : Prop} {w2 w : World} {g : Nat} {c1 : Array Value} {t : TypeId} {st : St} {f : Nat → UInt8} {m : Nat} {dl n : Nat} (hBg : w.heap.size ≤ g)
    (h : Hid (w2.heap[g]? = some (.cells c1 t (0, 0)) ∧ Blk c1 st f m ∧ Below w.heap.size w w2 ∧ R)) :
    (w2.setCell ⟨g, 72, none⟩ (.int .i64 ((dl : Int) + n))).heap[g]? = some (.cells (c1.setIfInBounds 72 (.int .i64 ((dl : Int) + n))) t (0, 0)) ∧ Blk (c1.setIfInBounds 72 (.int .i64 ((dl : Int) + n))) st f (dl + n) ∧
    Below w.heap.size w (w2.setCell ⟨g, 72, none⟩ (.int .i64 ((dl : Int) + n))) :=
  ⟨heap_setCell_same _ _ _ _ _ _ h.out.1, by have := blk_size h.out.2.1 (dl + n); simpa using this, h.out.2.2.1.setCell hBg _⟩

/-- The Run behind a block that was taken in. -/
theorem with_whole {w W3 w4 w5 : World} {g : Nat} {c3 : Array Value} {t : TypeId} {st st' : St} {f : Nat → UInt8} {m : Nat} {z : Obj}
    (g1 : W3.heap[g]? = some (.cells c3 t (0, 0))) (g2 : Blk c3 st f m) (g3 : Below w.heap.size w W3) (g4 : W3.heap[g + 1]? = some z) (h4 : Below W3.heap.size W3 w4) (h5 : Below w4.heap.size w4 w5)
    (hg : w.heap.size ≤ g := by exact Nat.le_refl _) :
    ∃ c4, (w5.setCells g 0 (cells8 st').toList).heap[g]? = some (.cells c4 t (0, 0)) ∧ Blk c4 st' f m ∧ (w5.setCells g 0 (cells8 st').toList).heap[g + 1]? = some z ∧ Below w.heap.size w (w5.setCells g 0 (cells8 st').toList) := by
  have hb := keepCall h4 h5
  have lt : g + 1 < W3.heap.size := by
    rcases Nat.lt_or_ge (g + 1) W3.heap.size with k | k
    · exact k
    · rw [Array.getElem?_eq_none k] at g4; cases g4
  have e1 := (hb.block g (by omega)).trans g1
  obtain ⟨c4, q1, q2⟩ := blk_words (st' := st') e1 g2
  exact ⟨c4, q1, q2, (heap_setCells_other g (g + 1) (by omega) _ 0 w5).trans ((hb.block (g + 1) lt).trans g4), below_setCells g hg _ 0 w5 (g3.trans (hb.mono g3.size))⟩

end Go.Proofs.Ytdfkpjmljaanpaa
namespace Go.Proofs.Ytdfkpjmljaanpaa
open Go.RowKit

attribute [local go_sem] V_add V_add' V_shr
/-- 73 cells. -/
def Whole73 (c : Array Value) : Prop := c.size = 73 ∧ c.all (·.oneCell') = true
def zeroSt : St := { a := 0, b := 0, c := 0, d := 0, e := 0, f := 0, g := 0, h := 0 }
theorem zeroSt_get : ∀ i, zeroSt.get i = 0
  | 0 => rfl | 1 => rfl | 2 => rfl | 3 => rfl | 4 => rfl | 5 => rfl | 6 => rfl | _ + 7 => rfl
theorem V_zero : V 0 = 0 := rfl
theorem begin_run : RunOf zero73 [] := by
  have l8 : (Array.replicate 8 (Value.int .u32 0)).size = 8 := Array.size_replicate
  have l64 : (Array.replicate 64 (Value.int .u8 0)).size = 64 := Array.size_replicate
  have l72 : (Array.replicate 8 (Value.int .u32 0) ++ Array.replicate 64 (Value.int .u8 0)).size = 72 := by rw [Array.size_append, l8, l64]
  refine ⟨zeroSt, fun _ => 0, ⟨zero73_size, fun i hi => ?_, fun j hj => ?_, ?_⟩, ?_, fun j hj => absurd hj (by simp)⟩
  · rw [zero73, Array.getElem?_append_left (by omega), Array.getElem?_append_left (by omega), Array.getElem?_replicate, if_pos hi, zeroSt_get, V_zero]
  · rw [zero73, Array.getElem?_append_left (by omega), Array.getElem?_append_right (by omega), l8, show 8 + j - 8 = j by omega, Array.getElem?_replicate, if_pos hj]
    rfl
  · rw [zero73, Array.getElem?_append_right (by omega), l72]
    rfl
  · refine St.ext_get fun i _ => ?_
    rw [St.get_add, zeroSt_get]
    simp [absorb]

theorem first_get : ∀ k, k < 8 → first.get k = hh k
  | 0, _ => rfl | 1, _ => rfl | 2, _ => rfl | 3, _ => rfl | 4, _ => rfl | 5, _ => rfl | 6, _ => rfl | 7, _ => rfl
  | n + 8, h => absurd h (by omega)
theorem out_byte {l : List UInt8} {st : St} {i k : Nat} (hk : k = i / 4) (hx : hh k + st.get k = (shaSt l).get k) : V ((hh k + st.get k) >>> (24 - i % 4 * 8)) % 256 = ((outAt (shaSt l) i).toNat : Int) := by
  rw [hx, hk, outAt, V, UInt8.toNat_ofNat']
  simp
end Go.Proofs.Ytdfkpjmljaanpaa
