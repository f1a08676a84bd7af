/- Disks in memory: which block has which role; extents, changes that wait, the head. -/
import Derived.Test.YtefpfedpgedloaaDMath
import Derived.Test.YtefpfedpgedloaaBytesB
namespace Go.Proofs.Ytefpfedpgedloaa
open Go.RowKit
open Dk

/-- A change of the world: blocks whose role is R may be written, new blocks may have any role; no other block has turned. -/
structure Touch (R : Nat → Prop) (ρ ρ' : Nat → Nat) (w w' : World) : Prop where
  os : w'.os = w.os
  tape : w'.tape = w.tape
  output : w'.output = w.output
  size : w.heap.size ≤ w'.heap.size
  old : ∀ g, g < w.heap.size → ρ' g = ρ g
  same : ∀ g, g < w.heap.size → ¬ R (ρ g) → w'.heap[g]? = w.heap[g]?
  lab : ∀ g, w'.heap.size ≤ g → ρ' g = ρ g
theorem Touch.refl (R : Nat → Prop) (ρ : Nat → Nat) (w : World) : Touch R ρ ρ w w := ⟨rfl, rfl, rfl, Nat.le_refl _, fun _ _ => rfl, fun _ _ _ => rfl, fun _ _ => rfl⟩
theorem Touch.trans {R : Nat → Prop} {ρ ρ' ρ'' : Nat → Nat} {a b c : World} (h : Touch R ρ ρ' a b) (k : Touch R ρ' ρ'' b c) : Touch R ρ ρ'' a c :=
  ⟨k.os.trans h.os, k.tape.trans h.tape, k.output.trans h.output, Nat.le_trans h.size k.size, fun g hg => (k.old g (Nat.lt_of_lt_of_le hg h.size)).trans (h.old g hg),
    fun g hg hr => (k.same g (Nat.lt_of_lt_of_le hg h.size) (by rw [h.old g hg]; exact hr)).trans (h.same g hg hr), fun g hg => (k.lab g hg).trans (h.lab g (Nat.le_trans k.size hg))⟩
theorem Touch.mono {R R' : Nat → Prop} {ρ ρ' : Nat → Nat} {a b : World} (h : Touch R ρ ρ' a b) (hr : ∀ r, R r → R' r) : Touch R' ρ ρ' a b :=
  ⟨h.os, h.tape, h.output, h.size, h.old, fun g hg k => h.same g hg (fun e => k (hr _ e)), h.lab⟩
theorem Touch.of_below {R : Nat → Prop} (ρ : Nat → Nat) {a b : World} (h : Below a.heap.size a b) : Touch R ρ ρ a b :=
  ⟨h.os, h.tape, h.output, h.size, fun _ _ => rfl, fun g hg _ => h.block g hg, fun _ _ => rfl⟩
/-- No labelled block lies beyond the heap. -/
def Lab (ρ : Nat → Nat) (w : World) : Prop := ∀ g, w.heap.size ≤ g → ρ g = 0
theorem Lab.touch {R : Nat → Prop} {ρ ρ' : Nat → Nat} {a b : World} (h : Lab ρ a) (t : Touch R ρ ρ' a b) : Lab ρ' b := fun g hg => (t.lab g hg).trans (h g (Nat.le_trans t.size hg))
theorem Lab.below {ρ : Nat → Nat} {a b : World} (h : Lab ρ a) (t : a.heap.size ≤ b.heap.size) : Lab ρ b := fun g hg => h g (Nat.le_trans t hg)
/-- All that has a role lies from B on. -/
def From (B : Nat) (ρ : Nat → Nat) : Prop := ∀ g, g < B → ρ g = 0
theorem Touch.below {B : Nat} {R : Nat → Prop} {ρ ρ' : Nat → Nat} {a b : World} (t : Touch R ρ ρ' a b) (h : From B ρ) (hR : ¬ R 0) (hB : B ≤ a.heap.size) : Below B a b :=
  ⟨t.os, t.tape, t.output, t.size, fun g hg => t.same g (by omega) (by rw [h g hg]; exact hR)⟩
theorem From.touch {B : Nat} {R : Nat → Prop} {ρ ρ' : Nat → Nat} {a b : World} (h : From B ρ) (t : Touch R ρ ρ' a b) (hB : B ≤ a.heap.size) : From B ρ' := fun g hg => (t.old g (by omega)).trans (h g hg)
/-- A new role for a new block. -/
def lay (ρ : Nat → Nat) (g r : Nat) : Nat → Nat := fun k => if k = g then r else ρ k
theorem lay_same (ρ : Nat → Nat) (g r : Nat) : lay ρ g r g = r := if_pos rfl
theorem lay_other {ρ : Nat → Nat} {g r k : Nat} (h : k ≠ g) : lay ρ g r k = ρ k := if_neg h
/-- What a change of the world asks of blocks of a role. -/
def KeptR (r : Nat) (ρ ρ' : Nat → Nat) (w w' : World) : Prop := ∀ g, g < w.heap.size → ρ g = r → ρ' g = r ∧ w'.heap[g]? = w.heap[g]?
theorem Touch.kept {R : Nat → Prop} {ρ ρ' : Nat → Nat} {a b : World} (t : Touch R ρ ρ' a b) {r : Nat} (h : ¬ R r) : KeptR r ρ ρ' a b :=
  fun g hg e => ⟨(t.old g hg).trans e, t.same g hg (by rw [e]; exact h)⟩

/-- A row of bytes of a role (or nil). -/
def BRow (w : World) (ρ : Nat → Nat) (r : Nat) (v : Value) (s : ByteArray) : Prop :=
  ∃ a cap, v = .slice a s.size cap ∧ w.ownsRow 0 5 1 (.slice a s.size cap) s.size (bcells s.data.toList) ∧ ∀ g, (Value.slice a s.size cap).ownBlock = some g → ρ g = r
theorem ownsRow_same {w w' : World} {e : TypeId} {k : Nat} {v : Value} {n : Nat} {xs : List Value} (h : w.ownsRow 0 e k v n xs) (hs : ∀ g, v.ownBlock = some g → w'.heap[g]? = w.heap[g]?) : w'.ownsRow 0 e k v n xs := by
  obtain ⟨h1, h2⟩ := h
  refine ⟨h1, ?_⟩
  rcases h2 with h2 | ⟨g, c, cur, rfl, hB, hg, h3⟩
  · exact .inl h2
  · exact .inr ⟨g, c, cur, rfl, hB, (hs g rfl).trans hg, h3⟩
theorem BRow.kept {w w' : World} {ρ ρ' : Nat → Nat} {r : Nat} {v : Value} {s : ByteArray} (h : BRow w ρ r v s) (k : KeptR r ρ ρ' w w') : BRow w' ρ' r v s := by
  obtain ⟨a, cap, e, ho, hr⟩ := h
  refine ⟨a, cap, e, ownsRow_same ho fun g hg => (k g (ho.lt g hg).2 (hr g hg)).2, fun g hg => (k g (ho.lt g hg).2 (hr g hg)).1⟩
theorem BRow.nil (w : World) (ρ : Nat → Nat) (r : Nat) : BRow w ρ r (.slice none 0 0) ⟨#[]⟩ := ⟨none, 0, rfl, World.ownsRow_nil _ _ _ _, fun g hg => by simp [Value.ownBlock] at hg⟩
/-- Extents: a row of rows of bytes. -/
structure Tab (w : World) (ρ : Nat → Nat) (rt : Nat) (f : Nat → Nat) (t : Nat) (l : List ByteArray) : Prop where
  role : ρ t = rt
  row : ∃ cur : Array Value, w.heap[t]? = some (.cells cur 69 (0, 0)) ∧ cur.size = l.length ∧ ∀ i, i < l.length → ∃ v, cur[i]? = some v ∧ BRow w ρ (f i) v (exAt l i)
theorem Tab.lt {w : World} {ρ : Nat → Nat} {rt : Nat} {f : Nat → Nat} {t : Nat} {l : List ByteArray} (h : Tab w ρ rt f t l) : t < w.heap.size := by
  obtain ⟨cur, h1, -⟩ := h.row
  exact (Array.getElem?_eq_some_iff.1 h1).1
theorem Tab.kept {w w' : World} {ρ ρ' : Nat → Nat} {rt : Nat} {f : Nat → Nat} {t : Nat} {l : List ByteArray} (h : Tab w ρ rt f t l) (k : KeptR rt ρ ρ' w w') (kf : ∀ i, i < l.length → KeptR (f i) ρ ρ' w w') : Tab w' ρ' rt f t l := by
  obtain ⟨k1, k2⟩ := k t h.lt h.role
  obtain ⟨cur, h1, h2, h3⟩ := h.row
  exact ⟨k1, cur, k2.trans h1, h2, fun i hi => by
    obtain ⟨v, e, hb⟩ := h3 i hi
    exact ⟨v, e, hb.kept (kf i hi)⟩⟩
/-- A change's cells. -/
def chgCells (c : Chg) : List Value := [.int .i64 ((c.kind : Int) + 1), .int .i64 (c.x : Int), .int .i64 (c.long : Int), .string c.text]
def chgsCells (cs : List Chg) : List Value := cs.flatMap chgCells
theorem chgsCells_length : ∀ cs : List Chg, (chgsCells cs).length = cs.length * 4
  | [] => rfl
  | c :: cs => by
    have ih := chgsCells_length cs
    simp only [chgsCells, List.flatMap_cons, List.length_append, List.length_cons] at ih ⊢
    rw [ih]; simp [chgCells]; omega
theorem chgsCells_snoc (cs : List Chg) (c : Chg) : chgsCells (cs ++ [c]) = chgsCells cs ++ chgCells c := by simp [chgsCells]
theorem chgsCells_at : ∀ (cs : List Chg) (k : Nat) (c : Chg), cs[k]? = some c → ∀ j, j < 4 → (chgsCells cs)[k * 4 + j]? = (chgCells c)[j]?
  | [], k, c, h, j, _ => by simp at h
  | d :: cs, 0, c, h, j, hj => by
    simp only [List.getElem?_cons_zero, Option.some.injEq] at h
    subst h
    simp only [chgsCells, List.flatMap_cons]
    rw [List.getElem?_append_left (by simp [chgCells]; omega)]
    simp
  | d :: cs, k + 1, c, h, j, hj => by
    have ih := chgsCells_at cs k c (by simpa using h) j hj
    simp only [chgsCells, List.flatMap_cons] at ih ⊢
    rw [List.getElem?_append_right (by simp [chgCells]; omega), ← ih]
    congr 1
    simp [chgCells]
    omega
/-- The changes that wait. -/
def Waits (w : World) (ρ : Nat → Nat) (r : Nat) (v : Value) (cs : List Chg) : Prop :=
  ∃ a cap, v = .slice a cs.length cap ∧ w.ownsRow 0 74 4 (.slice a cs.length cap) cs.length (chgsCells cs) ∧ ∀ g, (Value.slice a cs.length cap).ownBlock = some g → ρ g = r
theorem Waits.kept {w w' : World} {ρ ρ' : Nat → Nat} {r : Nat} {v : Value} {cs : List Chg} (h : Waits w ρ r v cs) (k : KeptR r ρ ρ' w w') : Waits w' ρ' r v cs := by
  obtain ⟨a, cap, e, ho, hr⟩ := h
  exact ⟨a, cap, e, ownsRow_same ho fun g hg => (k g (ho.lt g hg).2 (hr g hg)).2, fun g hg => (k g (ho.lt g hg).2 (hr g hg)).1⟩
theorem Waits.nil (w : World) (ρ : Nat → Nat) (r : Nat) : Waits w ρ r (.slice none 0 0) [] := ⟨none, 0, rfl, World.ownsRow_nil _ _ _ _, fun g hg => by simp [Value.ownBlock] at hg⟩
/-- The roles of the rows of the extents for good, and of those that are read. -/
def fS (i : Nat) : Nat := 5 + 2 * i
def fN (i : Nat) : Nat := 6 + 2 * i
/-- The head's cells. -/
def headCells (D : Disk) (ts tn : Nat) (wv : Value) : Array Value :=
  #[.int .i64 D.room, .slice (some ⟨ts, 0, none⟩) D.sure.length D.sure.length, .slice (some ⟨tn, 0, none⟩) D.sure.length D.sure.length, wv, .int .i64 D.changes, .int .i64 D.falls, .bool D.down, .bool D.laid, .int .i64 D.after, .int .i64 D.keep, .int .i64 D.torn]
/-- A disk in memory: what stands for good, and what is read. -/
structure Raw (w : World) (ρ : Nat → Nat) (b : Nat) (D : Disk) (N : List ByteArray) : Prop where
  role : ρ b = 1
  lab : Lab ρ w
  num : N.length = D.sure.length
  body : ∃ ts tn wv, w.heap[b]? = some (.cells (headCells D ts tn wv) 62 (0, 0)) ∧ Tab w ρ 2 fS ts D.sure ∧ Tab w ρ 3 fN tn N ∧ Waits w ρ 4 wv D.waits
structure DiskAt (w : World) (ρ : Nat → Nat) (b : Nat) (D : Disk) : Prop where
  raw : Raw w ρ b D D.now
  ok : D.Ok
theorem DiskAt.body {w : World} {ρ : Nat → Nat} {b : Nat} {D : Disk} (h : DiskAt w ρ b D) : ∃ ts tn wv, w.heap[b]? = some (.cells (headCells D ts tn wv) 62 (0, 0)) ∧ Tab w ρ 2 fS ts D.sure ∧ Tab w ρ 3 fN tn D.now ∧ Waits w ρ 4 wv D.waits := h.raw.body
theorem Raw.touch {R : Nat → Prop} {w w' : World} {ρ ρ' : Nat → Nat} {b : Nat} {D : Disk} {N : List ByteArray} (h : Raw w ρ b D N) (t : Touch R ρ ρ' w w') (hR : ∀ r, r ≠ 0 → ¬ R r) : Raw w' ρ' b D N := by
  obtain ⟨ts, tn, wv, h1, h2, h3, h4⟩ := h.body
  have hb := (Array.getElem?_eq_some_iff.1 h1).1
  obtain ⟨k1, k2⟩ := t.kept (hR 1 (by decide)) b hb h.role
  exact ⟨k1, h.lab.touch t, h.num, ts, tn, wv, k2.trans h1, h2.kept (t.kept (hR 2 (by decide))) (fun i _ => t.kept (hR _ (by unfold fS; omega))), h3.kept (t.kept (hR 3 (by decide))) (fun i _ => t.kept (hR _ (by unfold fN; omega))), h4.kept (t.kept (hR 4 (by decide)))⟩
theorem DiskAt.touch {R : Nat → Prop} {w w' : World} {ρ ρ' : Nat → Nat} {b : Nat} {D : Disk} (h : DiskAt w ρ b D) (t : Touch R ρ ρ' w w') (hR : ∀ r, r ≠ 0 → ¬ R r) : DiskAt w' ρ' b D := ⟨h.raw.touch t hR, h.ok⟩
theorem Raw.below {w w' : World} {ρ : Nat → Nat} {b : Nat} {D : Disk} {N : List ByteArray} (h : Raw w ρ b D N) (hb : Below w.heap.size w w') : Raw w' ρ b D N :=
  h.touch (R := fun _ => False) (Touch.of_below ρ hb) (fun _ _ e => e)
theorem DiskAt.below {w w' : World} {ρ : Nat → Nat} {b : Nat} {D : Disk} (h : DiskAt w ρ b D) (hb : Below w.heap.size w w') : DiskAt w' ρ b D := ⟨h.raw.below hb, h.ok⟩
theorem Raw.lt {w : World} {ρ : Nat → Nat} {b : Nat} {D : Disk} {N : List ByteArray} (h : Raw w ρ b D N) : b < w.heap.size := by
  obtain ⟨_, _, _, h1, _⟩ := h.body
  exact (Array.getElem?_eq_some_iff.1 h1).1
/-- A cell of the head is another now. -/
theorem raw_put {w w2 : World} {ρ : Nat → Nat} {b : Nat} {D D' : Disk} {N' : List ByteArray} {ts tn ts' tn' : Nat} {wv wv' v : Value} {j : Nat} (hr : ρ b = 1) (hl : Lab ρ w) (hn : N'.length = D'.sure.length)
    (h1 : w.heap[b]? = some (.cells (headCells D ts tn wv) 62 (0, 0))) (hw : w2 = w.setCell ⟨b, j, none⟩ v) (hc : (headCells D ts tn wv).setIfInBounds j v = headCells D' ts' tn' wv')
    (hS : Tab w ρ 2 fS ts' D'.sure) (hN : Tab w ρ 3 fN tn' N') (hW : Waits w ρ 4 wv' D'.waits) : Raw w2 ρ b D' N' ∧ Touch (· = 1) ρ ρ w w2 := by
  subst hw
  have hsz : (w.setCell ⟨b, j, none⟩ v).heap.size = w.heap.size := by simp [World.setCell]
  have ht : Touch (· = 1) ρ ρ w (w.setCell ⟨b, j, none⟩ v) := ⟨rfl, rfl, rfl, by rw [hsz]; exact Nat.le_refl _, fun _ _ => rfl, fun g hg hne => heap_setCell_other w _ g v (fun e => hne (by rw [e]; exact hr)), fun _ _ => rfl⟩
  refine ⟨⟨hr, fun g hg => hl g (by rw [hsz] at hg; exact hg), hn, ts', tn', wv', ?_, hS.kept (ht.kept (by decide)) (fun i _ => ht.kept (by unfold fS; omega)), hN.kept (ht.kept (by decide)) (fun i _ => ht.kept (by unfold fN; omega)), hW.kept (ht.kept (by decide))⟩, ht⟩
  rw [← hc]
  exact heap_setCell_same _ _ _ _ _ _ h1
theorem touch_drew {R : Nat → Prop} {ρ ρ' : Nat → Nat} {a b : World} (h : Touch R ρ ρ' a b) : Touch R ρ ρ' a b.drew := ⟨h.os, h.tape, h.output, h.size, h.old, h.same, h.lab⟩
theorem tab_drew {w : World} {ρ : Nat → Nat} {rt : Nat} {f : Nat → Nat} {t : Nat} {l : List ByteArray} (h : Tab w ρ rt f t l) : Tab w.drew ρ rt f t l := ⟨h.role, h.row⟩
theorem raw_drew {w : World} {ρ : Nat → Nat} {b : Nat} {D : Disk} {N : List ByteArray} (h : Raw w ρ b D N) : Raw w.drew ρ b D N := by
  obtain ⟨ts, tn, wv, h1, h2, h3, h4⟩ := h.body
  exact ⟨h.role, h.lab, h.num, ts, tn, wv, h1, tab_drew h2, tab_drew h3, h4⟩
end Go.Proofs.Ytefpfedpgedloaa
