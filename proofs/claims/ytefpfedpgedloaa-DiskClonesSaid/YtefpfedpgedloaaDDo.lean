/- disk.change.do: a change is made of extents. -/
import Derived.Test.YtefpfedpgedloaaDRep
import Derived.Test.YtefpfedpgedloaaAppS
import Derived.Deep.RegionLaw
import Derived.Deep.RegionHeld3
namespace Go.Proofs.Ytefpfedpgedloaa
open Go.RowKit
open Dk

/-- One extent's cell: where it lies, what it holds. -/
theorem Tab.at {w : World} {ρ : Nat → Nat} {rt : Nat} {f : Nat → Nat} {t : Nat} {l : List ByteArray} (h : Tab w ρ rt f t l) {x : Nat} (hx : x < l.length) :
    ∃ a cap, w.cell? ⟨t, x, none⟩ = some (.slice a (exAt l x).size cap) ∧ w.ownsRow 0 5 1 (.slice a (exAt l x).size cap) (exAt l x).size (bcells (exAt l x).data.toList) ∧ (∀ g, (Value.slice a (exAt l x).size cap).ownBlock = some g → ρ g = f x) ∧ w.frozen? ⟨t, x, none⟩ = false := by
  obtain ⟨cur, h1, h2, h3⟩ := h.row
  obtain ⟨v, e, a, cap, rfl, ho, hr⟩ := h3 x hx
  exact ⟨a, cap, by rw [cell_of_row _ _ _ _ _ _ h1]; exact e, ho, hr, frozen_of_row _ _ _ _ _ h1⟩
/-- One extent is another row now. -/
theorem Tab.set {w w' w2 : World} {ρ ρ' : Nat → Nat} {rt : Nat} {f : Nat → Nat} {t : Nat} {l : List ByteArray} (h : Tab w ρ rt f t l) {x : Nat} (hx : x < l.length) {s : ByteArray} {v : Value}
    (kt : KeptR rt ρ ρ' w w') (kf : ∀ i, i < l.length → i ≠ x → KeptR (f i) ρ ρ' w w') (hw : w2 = w'.setCell ⟨t, x, none⟩ v) (hv : BRow w' ρ' (f x) v s) (hfx : ∀ i, i < l.length → f i ≠ rt) : Tab w2 ρ' rt f t (l.set x s) := by
  subst hw
  obtain ⟨k1, k2⟩ := kt t h.lt h.role
  obtain ⟨cur, h1, h2, h3⟩ := h.row
  have hk : ∀ r, r ≠ rt → KeptR r ρ' ρ' w' (w'.setCell ⟨t, x, none⟩ v) := fun r hr g hg e => ⟨e, heap_setCell_other w' _ g v (fun e2 => hr (by rw [← e, e2]; exact k1))⟩
  refine ⟨k1, cur.setIfInBounds x v, heap_setCell_same _ _ _ _ _ _ (k2.trans h1), by simpa using h2, fun i hi => ?_⟩
  rw [List.length_set] at hi
  by_cases e : i = x
  · subst e
    refine ⟨v, by rw [Array.getElem?_setIfInBounds_self_of_lt (by omega)], ?_⟩
    rw [exAt_set_same hx]
    exact hv.kept (hk _ (hfx i hi))
  · obtain ⟨u, e1, e2⟩ := h3 i hi
    refine ⟨u, by rw [Array.getElem?_setIfInBounds_ne (fun e3 => e e3.symm)]; exact e1, ?_⟩
    rw [exAt_set_other (fun e3 => e e3.symm)]
    exact (e2.kept (kf i hi e)).kept (hk _ (hfx i hi))

/-- What stands behind a store of a row into an extent's place. -/
theorem tab_put {w w1 w2 : World} {ρ : Nat → Nat} {rt : Nat} {f : Nat → Nat} {t : Nat} {l : List ByteArray} {x : Nat} {s : ByteArray} {row : Option Nat} {ad : Option Addr} {cap : Nat}
    (hT : Tab w ρ rt f t l) (hx : x < l.length) (hA : Below w.heap.size w w1) (hg : w1.grownBy w2 row) (hrow : ∀ g, row = some g → ρ g = f x ∧ g < w.heap.size)
    (ho : w2.ownsRow 0 5 1 (.slice ad s.size cap) s.size (bcells s.data.toList)) (hb : ∀ g, (Value.slice ad s.size cap).ownBlock = some g → row = some g ∨ (w.heap.size ≤ g ∧ g < w2.heap.size))
    (hfx : ∀ i, i < l.length → f i ≠ rt) (hff : ∀ i, i ≠ x → f i ≠ f x) :
    ∃ ρ', Tab (w2.setCell ⟨t, x, none⟩ (.slice ad s.size cap)) ρ' rt f t (l.set x s) ∧ Touch (fun r => r = rt ∨ r = f x) ρ ρ' w (w2.setCell ⟨t, x, none⟩ (.slice ad s.size cap)) := by
  have hsz1 := hA.size
  have hsz2 := hg.size
  have hss : (w2.setCell ⟨t, x, none⟩ (.slice ad s.size cap)).heap.size = w2.heap.size := by simp [World.setCell]
  obtain ⟨ρ', r1, r2, r3⟩ : ∃ ρ' : Nat → Nat, (∀ g, g < w.heap.size → ρ' g = ρ g) ∧ (∀ g, w2.heap.size ≤ g → ρ' g = ρ g) ∧ (∀ g, (Value.slice ad s.size cap).ownBlock = some g → ρ' g = f x) := by
    cases e : (Value.slice ad s.size cap).ownBlock with
    | none => exact ⟨ρ, fun _ _ => rfl, fun _ _ => rfl, fun g hg => by simp at hg⟩
    | some g0 =>
      rcases hb g0 e with h | ⟨h1, h2⟩
      · exact ⟨ρ, fun _ _ => rfl, fun _ _ => rfl, fun g hg => by rw [← Option.some.inj hg]; exact (hrow g0 h).1⟩
      · exact ⟨lay ρ g0 (f x), fun g hg => lay_other (by omega), fun g hg => lay_other (by omega), fun g hg => by rw [← Option.some.inj hg]; exact lay_same _ _ _⟩
  have hkeep : ∀ g, g < w.heap.size → ρ g ≠ f x → w2.heap[g]? = w.heap[g]? := fun g hg' hn => (hg.block g (by omega) (fun e => hn (hrow g e.symm).1)).trans (hA.block g hg')
  refine ⟨ρ', hT.set hx (fun g hg e => ⟨(r1 g hg).trans e, hkeep g hg (by rw [e]; exact (hfx x hx).symm)⟩) (fun i hi hne g hg e => ⟨(r1 g hg).trans e, hkeep g hg (by rw [e]; exact hff i hne)⟩) rfl ⟨ad, cap, rfl, ho, r3⟩ hfx, ?_⟩
  refine ⟨hg.os.trans hA.os, hg.tape.trans hA.tape, hg.output.trans hA.output, by rw [hss]; omega, r1, fun g hg' hR => ?_, fun g hg' => r2 g (by rw [hss] at hg'; exact hg')⟩
  rw [heap_setCell_other w2 _ g _ (fun e => hR (.inl (by rw [e]; exact hT.role)))]
  exact hkeep g hg' (fun e => hR (.inr e))
theorem grown_drew {w1 w2 : World} {row : Option Nat} (h : w1.drew.grownBy w2 row) : w1.grownBy w2 row := ⟨h.os, h.tape, h.output, h.size, h.block⟩
theorem bcells_append (a b : ByteArray) : bcells a.data.toList ++ byteCells b = bcells (a ++ b).data.toList := by
  simp [bcells, byteCells]
theorem do_app_fin {w w1 w2 : World} {ρ : Nat → Nat} {rt : Nat} {f : Nat → Nat} {t : Nat} {l : List ByteArray} {x : Nat} {s text : ByteArray} {a ad : Option Addr} {cap cap2 : Nat} {long : Nat}
    (hT : Tab w ρ rt f t l) (hx : x < l.length) (hA : Below w.heap.size w w1) (hg : w1.drew.grownBy w2 (Value.slice a s.size cap).ownBlock) (ho0 : w.ownsRow 0 5 1 (.slice a s.size cap) s.size (bcells s.data.toList))
    (hr : ∀ g, (Value.slice a s.size cap).ownBlock = some g → ρ g = f x) (hs : s = exAt l x)
    (ho : w2.ownsRow 0 5 1 (.slice ad (s.size + text.size) cap2) (s.size + text.size) (bcells s.data.toList ++ byteCells text)) (hb : ∀ g, (Value.slice ad (s.size + text.size) cap2).ownBlock = some g → (Value.slice a s.size cap).ownBlock = some g ∨ (g = w1.drew.heap.size ∧ g < w2.heap.size))
    (hfx : ∀ i, i < l.length → f i ≠ rt) (hff : ∀ i, i ≠ x → f i ≠ f x) :
    ∃ ρ', Tab (w2.setCell ⟨t, x, none⟩ (.slice ad (s.size + text.size) cap2)) ρ' rt f t (made l ⟨0, x, long, text⟩) ∧ Touch (fun r => r = rt ∨ r = f x) ρ ρ' w (w2.setCell ⟨t, x, none⟩ (.slice ad (s.size + text.size) cap2)) := by
  have h1 := hA.size
  have := tab_put (s := s ++ text) (ad := ad) (cap := cap2) hT hx hA (grown_drew hg) (fun g e => ⟨hr g e, (ho0.lt g e).2⟩) (by rw [ByteArray.size_append, ← bcells_append]; exact ho)
    (fun g e => by
      rw [ByteArray.size_append] at e
      rcases hb g e with h | ⟨h, h2⟩
      · exact .inl h
      · exact .inr ⟨by rw [h]; exact h1, h2⟩) hfx hff
  rw [ByteArray.size_append] at this
  rw [made, made1, if_pos rfl]
  show ∃ ρ', Tab _ ρ' rt f t (l.set x (exAt l x ++ text)) ∧ _
  rw [← hs]
  exact this

set_option maxRecDepth 100000 in
set_option maxHeartbeats 1000000 in
theorem do_app (c : Chg) (hk : c.kind = 0) (l : List ByteArray) (t rt : Nat) (f : Nat → Nat) (ρ : Nat → Nat) (w : World) (hT : Tab w ρ rt f t l) (hm : May l c) (hz : Sz l) (hs : c.text.size ≤ 65536) (hfx : ∀ i, i < l.length → f i ≠ rt) (hff : ∀ i, i ≠ c.x → f i ≠ f c.x) (hn : l.length ≤ 64) :
    Calls Try.prog 44 #[.agg (chgCells c).toArray, .slice (some ⟨t, 0, none⟩) l.length l.length] w fun e w' => e = .returned (.tuple #[]) ∧ ∃ ρ', Tab w' ρ' rt f t (made l c) ∧ Touch (fun r => r = rt ∨ r = f c.x) ρ ρ' w w' := by
  obtain ⟨a, cap, hc, ho, hr, hfz⟩ := hT.at hm.1
  have hlt := hT.lt
  have hxl : (c.x : Int) < l.length := by have := hm.1; omega
  have hxl2 := hm.1
  obtain ⟨kind, x, long, text⟩ := c
  simp only at hk
  subst hk
  simp only [chgCells] at *
  have hsz := hz.at x
  obtain ⟨s, hs0⟩ : ∃ s, s = exAt l x := ⟨_, rfl⟩
  rw [← hs0] at hc ho hr hsz
  have H := Lib.hid (And.intro hT (And.intro hm (And.intro ho (And.intro hr (And.intro hs0 (And.intro hfx hff))))))
  clear hT hm ho hr hs0 hfx hff hz
  have hl64 : (l.length : Int) ≤ 64 := by omega
  have hx0 : ((0:Nat):Int) + 1 = 1 := rfl
  go_enter Try.func44, Try.ntmps44
  go_wp2_with fail
  have hA := Below.refl w.heap.size w |>.alloc (Nat.le_refl _) (.cells #[.int .i64 1, .int .i64 x, .int .i64 long, .string text] 74)
  have hbox : (w.alloc (.cells #[.int .i64 1, .int .i64 x, .int .i64 long, .string text] 74)).heap[w.heap.size]? = some (.cells #[.int .i64 1, .int .i64 x, .int .i64 long, .string text] 74 (0, 0)) := heap_alloc_new _ _
  have b1 : w.heap.size < (w.alloc (.cells #[.int .i64 1, .int .i64 x, .int .i64 long, .string text] 74)).heap.size := by simp
  generalize w.alloc _ = w1 at *
  have q1 : w1.cell? ⟨w.heap.size, 1, none⟩ = some (.int .i64 x) := by rw [cell_of_row _ _ _ _ _ _ hbox]; rfl
  have q3 : w1.cell? ⟨w.heap.size, 3, none⟩ = some (.string text) := by rw [cell_of_row _ _ _ _ _ _ hbox]; rfl
  have qt : w1.cell? ⟨t, x, none⟩ = some (.slice a s.size cap) := (hA.cell (p := ⟨t, x, none⟩) hlt).trans hc
  have qf : w1.frozen? ⟨t, x, none⟩ = false := (hA.frozen (p := ⟨t, x, none⟩) hlt).trans hfz
  have ho1 := ownsRow_same H.out.2.2.1 (fun g hg => hA.block g (H.out.2.2.1.lt g hg).2)
  have hnt : ∀ g, (Value.slice a s.size cap).ownBlock = some g → g ≠ t := fun g hg e => H.out.2.2.2.2.2.1 x (by omega) (by rw [← H.out.2.2.2.1 g hg, e]; exact H.out.1.role)
  have hnb : ∀ g, (Value.slice a s.size cap).ownBlock = some g → g ≠ w.heap.size := fun g hg e => by have := (H.out.2.2.1.lt g hg).2; omega
  have HA := Lib.hid (And.intro hA (And.intro ho1 (And.intro hnt (And.intro hnb b1))))
  have hlt1 : t < w1.heap.size := by omega
  clear hA ho1 hnt hnb hc hfz hbox
  go_region_law (refine step_append_str rfl (.tmp 32) (.tmp 34) rfl (.slice a s.size cap) s.size _ (by simp [Act.eval]) HA.out.2.1 text (by simp [Act.eval]) (by omega) ?_; intro ad cap2 w2 ho2 hg2 hb2; have q2 : w2.cell? ⟨t, x, none⟩ = some (.slice a s.size cap) := (hg2.cell_far ⟨t, x, none⟩ (by simpa using hlt1) (fun e => HA.out.2.2.1 t e.symm rfl)).trans (by simpa using qt); have qf2 : w2.frozen? ⟨t, x, none⟩ = false := (hg2.frozen_far ⟨t, x, none⟩ (by simpa using hlt1) (fun e => HA.out.2.2.1 t e.symm rfl)).trans (by simpa using qf); have qb2 : w2.cell? ⟨w.heap.size, 1, none⟩ = some (.int .i64 x) := (hg2.cell_far ⟨w.heap.size, 1, none⟩ (by simpa using b1) (fun e => HA.out.2.2.2.1 w.heap.size e.symm rfl)).trans (by simpa using q1); have H2 := Lib.hid (And.intro ho2 (And.intro hg2 hb2)); clear ho2 hg2 hb2)
  all_goals (go_wp2_with fail; go_end0; refine ⟨rfl, ?_⟩; exact do_app_fin H.out.1 hxl2 HA.out.1 H2.out.2.1 H.out.2.2.1 H.out.2.2.2.1 H.out.2.2.2.2.1 H2.out.1 H2.out.2.2 H.out.2.2.2.2.2.1 H.out.2.2.2.2.2.2)
end Go.Proofs.Ytefpfedpgedloaa
