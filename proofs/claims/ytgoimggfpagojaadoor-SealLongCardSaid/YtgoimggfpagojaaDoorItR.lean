/- Items that lie one behind the other in memory of the call's own: how lists of them are made. -/
import Derived.Test.YtgoimggfpagojaaDoorOwnR
import Derived.Test.YtgoimggfpagojaaDoorItF
import Derived.Test.YtgoimggfpagojaaDoorMC4
namespace Go.Proofs.YtgoimggfpagojaaDoor
open Go.RowKit
open Cn

theorem item_rec : RecT 104 102 4 56 (.agg #[.int .i64 0, .int .i64 0, .string ⟨#[]⟩, .slice none 0 0]) := ⟨Tryd.underlying102, by kernel_rfl, rfl, by decide⟩
theorem ritem_rec : RecT 74 72 4 56 (.agg #[.int .i64 0, .int .i64 0, .string ⟨#[]⟩, .slice none 0 0]) := ⟨Tryd.underlying72, by kernel_rfl, rfl, by decide⟩
theorem it_size (x : It) : x.cells.size = 4 := rfl
theorem it_one (x : It) : ∀ u ∈ x.cells.toList, u.oneCell' = true := fun u hu => by
  simp only [It.cells, List.mem_cons, List.not_mem_nil, or_false] at hu
  rcases hu with rfl | rfl | rfl | rfl <;> rfl
theorem cells_rowAt {w : World} {b o : Nat} {l : List It} (h : ∀ j x, l[j]? = some x → ∀ m, m < 4 → w.cell? ⟨b, o + (j * 4 + m), none⟩ = x.cells[m]?) : RowAt w b o l := fun j x hx => by
  have g0 := h j x hx 0 (by decide)
  have g1 := h j x hx 1 (by decide)
  have g2 := h j x hx 2 (by decide)
  have g3 := h j x hx 3 (by decide)
  rw [Nat.add_zero] at g0
  rw [← Nat.add_assoc] at g1 g2 g3
  exact ⟨g0, g1, g2, g3⟩
/-- Items in a block, as laid there. -/
theorem lies_flat {w : World} {b : Nat} {t : TypeId} {S : Nat → Prop} (ls : List It) (c : Array Value) (h : w.heap[b]? = some (.cells c t (0, 0))) (hc : c = (flat ls).toArray) (hS : S b) (hm : ls.length ≤ 1000000) : Lies w S (some ⟨b, 0, none⟩) ls := by
  refine ⟨by unfold maxLen; omega, fun _ => ⟨b, 0, rfl, (Array.getElem?_eq_some_iff.1 h).1, hS, cells_rowAt fun j x hx m hmm => ?_⟩⟩
  rw [Nat.zero_add, Lib.cell_of_heap h, hc, List.getElem?_toArray]
  exact flat_get ls j x m hx hmm
/-- Items of a row of the call's own. -/
theorem lies_own {T : TypeId} {B : Nat} {w : World} {a : Option Addr} {cap : Nat} {l : List It} (h : OwnR T 4 It.cells B w a cap l) (hm : l.length ≤ 1000000) : Lies w (B ≤ ·) a l := by
  refine ⟨by unfold maxLen; omega, fun hne => ?_⟩
  have hpos := List.length_pos_iff.2 hne
  obtain ⟨g, rfl, hB, hl, -⟩ := h.at it_size (List.getElem?_eq_getElem hpos)
  refine ⟨g, 0, rfl, hl, hB, cells_rowAt fun j x hx m hmm => ?_⟩
  obtain ⟨g', e, -, -, hc⟩ := h.at it_size hx
  injection e with e
  injection e with e
  subst e
  rw [Nat.zero_add]
  exact hc m hmm
mutual
def szP : Pt → Nat
  | .mk _ _ _ l => 1 + szPAll l
def szPAll : List Pt → Nat
  | [] => 0
  | x :: r => szP x + szPAll r
end
mutual
theorem sz_pure : ∀ x : It, x.sz = szP x.pure
  | .mk _ _ _ _ _ l => by rw [It.sz, It.pure, szP, szAll_pure l]
theorem szAll_pure : ∀ l : List It, It.szAll l = szPAll (It.pureAll l)
  | [] => rfl
  | x :: r => by rw [It.szAll, It.pureAll, szPAll, sz_pure x, szAll_pure r]
end
theorem It.In.weak {w : World} {S T : Nat → Prop} {x : It} (h : x.In w S) (hs : ∀ b, b < w.heap.size → S b → T b) : x.In w T :=
  It.In.kept (w' := w) ⟨fun b hb hl => ⟨hs b hl hb, rfl⟩, Nat.le_refl _⟩ x h
theorem It.InAll.weak {w : World} {S T : Nat → Prop} {l : List It} (h : It.InAll w S l) (hs : ∀ b, b < w.heap.size → S b → T b) : It.InAll w T l :=
  It.InAll.kept (w' := w) ⟨fun b hb hl => ⟨hs b hl hb, rfl⟩, Nat.le_refl _⟩ l h
/-- A list of items in the making: these are there (T: api's items, or the reference's). -/
structure Mk (T : TypeId) (w0 : World) (ps : List Pt) (l : List It) (a : Option Addr) (cap : Nat) (wr : World) : Prop where
  pure : It.pureAll l = ps
  own : OwnR T 4 It.cells w0.heap.size wr a cap l
  all : It.InAll wr (fun b => w0.heap.size ≤ b ∧ (Value.slice a l.length cap).ownBlock ≠ some b) l
  below : Below w0.heap.size w0 wr
theorem Mk.start (T : TypeId) {w0 wr : World} (hb : Below w0.heap.size w0 wr) : Mk T w0 [] [] none 0 wr := ⟨rfl, OwnR.nil _ _ _ _ _, trivial, hb⟩
theorem Mk.len {T : TypeId} {w0 wr : World} {ps : List Pt} {l : List It} {a : Option Addr} {cap : Nat} (h : Mk T w0 ps l a cap wr) : l.length = ps.length := by rw [← h.pure, It.pureAll_length]
theorem Mk.call {T : TypeId} {w0 wr wr' : World} {ps : List Pt} {l : List It} {a : Option Addr} {cap : Nat} (h : Mk T w0 ps l a cap wr) (hb : Below wr.heap.size wr wr') : Mk T w0 ps l a cap wr' :=
  ⟨h.pure, h.own.call hb, It.InAll.kept (keptS_any hb) _ h.all, h.below.trans (hb.mono h.below.size)⟩
theorem Mk.drew {T : TypeId} {w0 wr : World} {ps : List Pt} {l : List It} {a : Option Addr} {cap : Nat} (h : Mk T w0 ps l a cap wr) : Mk T w0 ps l a cap wr.drew :=
  h.call ((Below.refl _ _).drew)
theorem Mk.lies {T : TypeId} {w0 wr : World} {ps : List Pt} {l : List It} {a : Option Addr} {cap : Nat} (h : Mk T w0 ps l a cap wr) (hm : ps.length ≤ 1000000) : Lies wr (w0.heap.size ≤ ·) a l ∧ It.InAll wr (w0.heap.size ≤ ·) l :=
  ⟨lies_own h.own (by rw [h.len]; exact hm), h.all.weak fun b _ hb => hb.1⟩
/-- One item more was appended. -/
theorem Mk.next {T : TypeId} {w0 wr wr' : World} {ps : List Pt} {l : List It} {a : Option Addr} {cap : Nat} (h : Mk T w0 ps l a cap wr) {y : It} {p : Pt} (hy : y.In wr (fun b => w0.heap.size ≤ b ∧ (Value.slice a l.length cap).ownBlock ≠ some b)) (hp : y.pure = p)
    {g1 cap1 : Nat} (ho : OwnR T 4 It.cells w0.heap.size wr' (some ⟨g1, 0, none⟩) cap1 (l ++ [y])) (hgr : wr.grownBy wr' (Value.slice a l.length cap).ownBlock)
    (hat : (Value.slice a l.length cap).ownBlock = some g1 ∨ g1 = wr.heap.size) : Mk T w0 (ps ++ [p]) (l ++ [y]) (some ⟨g1, 0, none⟩) cap1 wr' := by
  have hk : KeptS (fun b => w0.heap.size ≤ b ∧ (Value.slice a l.length cap).ownBlock ≠ some b) (fun b => w0.heap.size ≤ b ∧ (Value.slice (some ⟨g1, 0, none⟩) (l ++ [y]).length cap1).ownBlock ≠ some b) wr wr' := by
    refine ⟨fun b hb hl => ⟨⟨hb.1, ?_⟩, hgr.block b hl (fun e => hb.2 e.symm)⟩, hgr.size⟩
    intro e
    have e : g1 = b := by simpa [Value.ownBlock] using e
    subst e
    rcases hat with e | e
    · exact hb.2 e
    · omega
  refine ⟨by rw [It.pureAll_eq, List.map_append, ← It.pureAll_eq, h.pure, ← hp]; rfl, ho, ?_, h.below.grown hgr h.below.size (fun k hk => (h.own.lt k hk).1)⟩
  refine It.inAll_of fun x hx => ?_
  rcases List.mem_append.1 hx with hx | hx
  · exact It.In.kept hk x (It.inAll_mem h.all x hx)
  · rw [List.mem_singleton] at hx
    subst hx
    exact It.In.kept hk _ hy
end Go.Proofs.YtgoimggfpagojaaDoor
