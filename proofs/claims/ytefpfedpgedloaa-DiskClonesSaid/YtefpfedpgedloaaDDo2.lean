/- disk.change.do: a change that trims, or empties. -/
import Derived.Test.YtefpfedpgedloaaDDo
import Derived.Test.YtefpfedpgedloaaDPlain
import Derived.RegionTactic
namespace Go.Proofs.Ytefpfedpgedloaa
open Go.RowKit
open Dk
theorem own_take {w : World} {e : TypeId} {a : Option Addr} {n cap : Nat} {xs : List Value} (h : w.ownsRow 0 e 1 (.slice a n cap) n xs) (k : Nat) (hk : k ≤ n) : w.ownsRow 0 e 1 (.slice a k cap) k (xs.take k) := by
  have hl := h.1
  refine ⟨by rw [List.length_take]; omega, ?_⟩
  rcases h.2 with ⟨e, hn⟩ | ⟨g, c, cur, e, hB, hg, hn, hc, hs, ht⟩
  · injection e with e1 e2 e3
    subst e1 e3
    exact .inl ⟨by rw [show k = 0 by omega], by omega⟩
  · injection e with e1 e2 e3
    subst e1 e3
    refine .inr ⟨g, cap, cur, rfl, hB, hg, by omega, hc, hs, ?_⟩
    rw [← ht, List.take_take]; congr 1; omega
theorem own_form {w : World} {e : TypeId} {a : Option Addr} {n cap : Nat} {xs : List Value} (h : w.ownsRow 0 e 1 (.slice a n cap) n xs) : (a = none ∧ n = 0 ∧ cap = 0) ∨ (∃ g, a = some ⟨g, 0, none⟩ ∧ n ≤ cap ∧ cap ≤ maxLen) := by
  rcases h.2 with ⟨e, hn⟩ | ⟨g, c, cur, e, hB, hg, hn, hc, hs, ht⟩
  · injection e with e1 e2 e3
    exact .inl ⟨e1, hn, e3⟩
  · injection e with e1 e2 e3
    subst e3
    exact .inr ⟨g, e1, hn, hc⟩
theorem bcells_take (s : ByteArray) (k : Nat) : (bcells s.data.toList).take k = bcells (s.extract 0 k).data.toList := by
  rw [extract_data]; simp [bcells, List.map_take]
/-- What stands behind a trim. -/
theorem do_trim_fin {w w1 w2 : World} {ρ : Nat → Nat} {rt : Nat} {f : Nat → Nat} {t : Nat} {l : List ByteArray} {x : Nat} {s : ByteArray} {a : Option Addr} {cap k : Nat} {c : Chg}
    (hT : Tab w ρ rt f t l) (hx : x < l.length) (hA : Below w.heap.size w w1) (ho0 : w.ownsRow 0 5 1 (.slice a s.size cap) s.size (bcells s.data.toList))
    (hr : ∀ g, (Value.slice a s.size cap).ownBlock = some g → ρ g = f x) (hk : k ≤ s.size) (hc : made l c = l.set x (s.extract 0 k)) (hw : w2 = (w1.setCell ⟨t, x, none⟩ (.slice a k cap)).drew)
    (hfx : ∀ i, i < l.length → f i ≠ rt) (hff : ∀ i, i ≠ x → f i ≠ f x) :
    ∃ ρ', Tab w2 ρ' rt f t (made l c) ∧ Touch (fun r => r = rt ∨ r = f x) ρ ρ' w w2 := by
  subst hw
  rw [hc]
  have hsz : (s.extract 0 k).size = k := by rw [ByteArray.size_extract]; omega
  have ho1 := ownsRow_same ho0 (fun g hg => hA.block g (ho0.lt g hg).2)
  have ho2 := own_take ho1 k hk
  rw [bcells_take] at ho2
  have hob : (Value.slice a k cap).ownBlock = (Value.slice a s.size cap).ownBlock := by cases a <;> rfl
  have := tab_put (s := s.extract 0 k) (ad := a) (cap := cap) (row := (Value.slice a s.size cap).ownBlock) hT hx hA (w2 := w1) ⟨rfl, rfl, rfl, Nat.le_refl _, fun _ _ _ => rfl⟩ (fun g e => ⟨hr g e, (ho0.lt g e).2⟩) (by rw [hsz]; exact ho2)
    (fun g e => by rw [hsz, hob] at e; exact .inl e) hfx hff
  rw [hsz] at this
  obtain ⟨ρ', h1, h2⟩ := this
  exact ⟨ρ', ⟨h1.role, h1.row⟩, ⟨h2.os, h2.tape, h2.output, h2.size, h2.old, h2.same, h2.lab⟩⟩
theorem made_trim {l : List ByteArray} {x long : Nat} {text : ByteArray} : made l ⟨1, x, long, text⟩ = l.set x ((exAt l x).extract 0 long) := by rw [made, made1, if_neg (show ¬ (1 : Nat) = 0 by decide), if_pos rfl]
theorem made_empty {l : List ByteArray} {x long : Nat} {text : ByteArray} : made l ⟨2, x, long, text⟩ = l.set x ((exAt l x).extract 0 0) := by
  rw [made, made1, if_neg (show ¬ (2 : Nat) = 0 by decide), if_neg (show ¬ (2 : Nat) = 1 by decide)]
  congr 1
  exact (ext_list (by rw [extract_data]; rfl)).symm

set_option maxRecDepth 100000 in
set_option maxHeartbeats 1000000 in
theorem do_trim (c : Chg) (hk : c.kind = 1) (l : List ByteArray) (t rt : Nat) (f : Nat → Nat) (ρ : Nat → Nat) (w : World) (hT : Tab w ρ rt f t l) (hm : May l c) (hz : Sz l) (hfx : ∀ i, i < l.length → f i ≠ rt) (hff : ∀ i, i ≠ c.x → f i ≠ f c.x) (hn : l.length ≤ 64) :
    Calls Try.prog 44 #[.agg (chgCells c).toArray, .slice (some ⟨t, 0, none⟩) l.length l.length] w fun e w' => e = .returned (.tuple #[]) ∧ ∃ ρ', Tab w' ρ' rt f t (made l c) ∧ Touch (fun r => r = rt ∨ r = f c.x) ρ ρ' w w' := by
  obtain ⟨a, cap, hc, ho, hr, hfz⟩ := hT.at hm.1
  have hlt := hT.lt
  have hxl : (c.x : Int) < l.length := by have := hm.1; omega
  have hxl2 := hm.1
  have hll := hm.2.2 hk
  obtain ⟨kind, x, long, text⟩ := c
  simp only at hk
  subst hk
  simp only [chgCells] at *
  have hsz := hz.at x
  obtain ⟨s, hs0⟩ : ∃ s, s = exAt l x := ⟨_, rfl⟩
  rw [← hs0] at hc ho hr hsz hll
  have H := Lib.hid (And.intro hT (And.intro hm (And.intro ho (And.intro hr (And.intro hs0 (And.intro hfx hff))))))
  clear hT hm hr hs0 hfx hff hz
  have hl64 : (l.length : Int) ≤ 64 := by omega
  rcases own_form ho with ⟨rfl, h0, rfl⟩ | ⟨g, rfl, hcap, hcapm⟩
  · obtain rfl : long = 0 := by omega
    clear ho
    go_enter Try.func44, Try.ntmps44
    go_wp2_with fail
    have hA := Below.refl w.heap.size w |>.alloc (Nat.le_refl _) (.cells #[.int .i64 2, .int .i64 x, .int .i64 0, .string text] 74)
    have hbox : (w.alloc (.cells #[.int .i64 2, .int .i64 x, .int .i64 0, .string text] 74)).heap[w.heap.size]? = some (.cells #[.int .i64 2, .int .i64 x, .int .i64 0, .string text] 74 (0, 0)) := heap_alloc_new _ _
    generalize w.alloc _ = w1 at *
    have q1 : w1.cell? ⟨w.heap.size, 1, none⟩ = some (.int .i64 x) := by rw [cell_of_row _ _ _ _ _ _ hbox]; rfl
    have q2 : w1.cell? ⟨w.heap.size, 2, none⟩ = some (.int .i64 0) := by rw [cell_of_row _ _ _ _ _ _ hbox]; rfl
    have qt : w1.cell? ⟨t, x, none⟩ = some (.slice none s.size 0) := (hA.cell (p := ⟨t, x, none⟩) hlt).trans hc
    have qf : w1.frozen? ⟨t, x, none⟩ = false := (hA.frozen (p := ⟨t, x, none⟩) hlt).trans hfz
    have HA := Lib.hid hA
    clear hA hc hfz hbox
    go_region
    go_wp2_with fail
    go_end0
    refine ⟨rfl, ?_⟩
    exact do_trim_fin (k := 0) H.out.1 hxl2 HA.out H.out.2.2.1 H.out.2.2.2.1 (by omega) (by rw [made_trim, ← H.out.2.2.2.2.1]) rfl H.out.2.2.2.2.2.1 H.out.2.2.2.2.2.2
  · clear ho
    have hlc : (long : Int) ≤ cap := by omega
    go_enter Try.func44, Try.ntmps44
    go_wp2_with fail
    have hA := Below.refl w.heap.size w |>.alloc (Nat.le_refl _) (.cells #[.int .i64 2, .int .i64 x, .int .i64 long, .string text] 74)
    have hbox : (w.alloc (.cells #[.int .i64 2, .int .i64 x, .int .i64 long, .string text] 74)).heap[w.heap.size]? = some (.cells #[.int .i64 2, .int .i64 x, .int .i64 long, .string text] 74 (0, 0)) := heap_alloc_new _ _
    generalize w.alloc _ = w1 at *
    have q1 : w1.cell? ⟨w.heap.size, 1, none⟩ = some (.int .i64 x) := by rw [cell_of_row _ _ _ _ _ _ hbox]; rfl
    have q2 : w1.cell? ⟨w.heap.size, 2, none⟩ = some (.int .i64 long) := by rw [cell_of_row _ _ _ _ _ _ hbox]; rfl
    have qt : w1.cell? ⟨t, x, none⟩ = some (.slice (some ⟨g, 0, none⟩) s.size cap) := (hA.cell (p := ⟨t, x, none⟩) hlt).trans hc
    have qf : w1.frozen? ⟨t, x, none⟩ = false := (hA.frozen (p := ⟨t, x, none⟩) hlt).trans hfz
    have HA := Lib.hid hA
    clear hA hc hfz hbox
    go_region
    go_wp2_with fail
    go_end0
    refine ⟨rfl, ?_⟩
    exact do_trim_fin (k := long) H.out.1 hxl2 HA.out H.out.2.2.1 H.out.2.2.2.1 (by omega) (by rw [made_trim, ← H.out.2.2.2.2.1]) rfl H.out.2.2.2.2.2.1 H.out.2.2.2.2.2.2
set_option maxRecDepth 100000 in
set_option maxHeartbeats 1000000 in
theorem do_empty (c : Chg) (hk : c.kind = 2) (l : List ByteArray) (t rt : Nat) (f : Nat → Nat) (ρ : Nat → Nat) (w : World) (hT : Tab w ρ rt f t l) (hm : May l c) (hz : Sz l) (hfx : ∀ i, i < l.length → f i ≠ rt) (hff : ∀ i, i ≠ c.x → f i ≠ f c.x) (hn : l.length ≤ 64) :
    Calls Try.prog 44 #[.agg (chgCells c).toArray, .slice (some ⟨t, 0, none⟩) l.length l.length] w fun e w' => e = .returned (.tuple #[]) ∧ ∃ ρ', Tab w' ρ' rt f t (made l c) ∧ Touch (fun r => r = rt ∨ r = f c.x) ρ ρ' w w' := by
  obtain ⟨a, cap, hc, ho, hr, hfz⟩ := hT.at hm.1
  have hlt := hT.lt
  have hxl : (c.x : Int) < l.length := by have := hm.1; omega
  have hxl2 := hm.1
  obtain ⟨kind, x, long, text⟩ := c
  simp only at hk
  subst hk
  simp only [chgCells] at *
  have hsz := hz.at x
  obtain ⟨s, hs0⟩ : ∃ s, s = exAt l x := ⟨_, rfl⟩
  rw [← hs0] at hc ho hr hsz
  have H := Lib.hid (And.intro hT (And.intro hm (And.intro ho (And.intro hr (And.intro hs0 (And.intro hfx hff))))))
  clear hT hm hr hs0 hfx hff hz
  have hl64 : (l.length : Int) ≤ 64 := by omega
  rcases own_form ho with ⟨rfl, h0, rfl⟩ | ⟨g, rfl, hcap, hcapm⟩
  · clear ho
    go_enter Try.func44, Try.ntmps44
    go_wp2_with fail
    have hA := Below.refl w.heap.size w |>.alloc (Nat.le_refl _) (.cells #[.int .i64 3, .int .i64 x, .int .i64 0, .string text] 74)
    have hbox : (w.alloc (.cells #[.int .i64 3, .int .i64 x, .int .i64 0, .string text] 74)).heap[w.heap.size]? = some (.cells #[.int .i64 3, .int .i64 x, .int .i64 0, .string text] 74 (0, 0)) := heap_alloc_new _ _
    generalize w.alloc _ = w1 at *
    have q1 : w1.cell? ⟨w.heap.size, 1, none⟩ = some (.int .i64 x) := by rw [cell_of_row _ _ _ _ _ _ hbox]; rfl
    have q2 : w1.cell? ⟨w.heap.size, 2, none⟩ = some (.int .i64 0) := by rw [cell_of_row _ _ _ _ _ _ hbox]; rfl
    have qt : w1.cell? ⟨t, x, none⟩ = some (.slice none s.size 0) := (hA.cell (p := ⟨t, x, none⟩) hlt).trans hc
    have qf : w1.frozen? ⟨t, x, none⟩ = false := (hA.frozen (p := ⟨t, x, none⟩) hlt).trans hfz
    have HA := Lib.hid hA
    clear hA hc hfz hbox
    go_region
    go_wp2_with fail
    go_end0
    refine ⟨rfl, ?_⟩
    exact do_trim_fin (k := 0) H.out.1 hxl2 HA.out H.out.2.2.1 H.out.2.2.2.1 (by omega) (by rw [made_empty, ← H.out.2.2.2.2.1]) rfl H.out.2.2.2.2.2.1 H.out.2.2.2.2.2.2
  · clear ho
    go_enter Try.func44, Try.ntmps44
    go_wp2_with fail
    have hA := Below.refl w.heap.size w |>.alloc (Nat.le_refl _) (.cells #[.int .i64 3, .int .i64 x, .int .i64 0, .string text] 74)
    have hbox : (w.alloc (.cells #[.int .i64 3, .int .i64 x, .int .i64 0, .string text] 74)).heap[w.heap.size]? = some (.cells #[.int .i64 3, .int .i64 x, .int .i64 0, .string text] 74 (0, 0)) := heap_alloc_new _ _
    generalize w.alloc _ = w1 at *
    have q1 : w1.cell? ⟨w.heap.size, 1, none⟩ = some (.int .i64 x) := by rw [cell_of_row _ _ _ _ _ _ hbox]; rfl
    have q2 : w1.cell? ⟨w.heap.size, 2, none⟩ = some (.int .i64 0) := by rw [cell_of_row _ _ _ _ _ _ hbox]; rfl
    have qt : w1.cell? ⟨t, x, none⟩ = some (.slice (some ⟨g, 0, none⟩) s.size cap) := (hA.cell (p := ⟨t, x, none⟩) hlt).trans hc
    have qf : w1.frozen? ⟨t, x, none⟩ = false := (hA.frozen (p := ⟨t, x, none⟩) hlt).trans hfz
    have HA := Lib.hid hA
    clear hA hc hfz hbox
    go_region
    go_wp2_with fail
    go_end0
    refine ⟨rfl, ?_⟩
    exact do_trim_fin (k := 0) H.out.1 hxl2 HA.out H.out.2.2.1 H.out.2.2.2.1 (by omega) (by rw [made_empty, ← H.out.2.2.2.2.1]) rfl H.out.2.2.2.2.2.1 H.out.2.2.2.2.2.2
/-- A CHANGE IS MADE. -/
theorem do_any (c : Chg) (l : List ByteArray) (t rt : Nat) (f : Nat → Nat) (ρ : Nat → Nat) (w : World) (hT : Tab w ρ rt f t l) (hm : May l c) (hz : Sz l) (hs : c.kind = 0 → c.text.size ≤ 65536) (hfx : ∀ i, i < l.length → f i ≠ rt) (hff : ∀ i, i ≠ c.x → f i ≠ f c.x) (hn : l.length ≤ 64) :
    Calls Try.prog 44 #[.agg (chgCells c).toArray, .slice (some ⟨t, 0, none⟩) l.length l.length] w fun e w' => e = .returned (.tuple #[]) ∧ ∃ ρ', Tab w' ρ' rt f t (made l c) ∧ Touch (fun r => r = rt ∨ r = f c.x) ρ ρ' w w' := by
  have h2 := hm.2.1
  by_cases h0 : c.kind = 0
  · exact do_app c h0 l t rt f ρ w hT hm hz (hs h0) hfx hff hn
  · by_cases h1 : c.kind = 1
    · exact do_trim c h1 l t rt f ρ w hT hm hz hfx hff hn
    · exact do_empty c (by omega) l t rt f ρ w hT hm hz hfx hff hn
end Go.Proofs.Ytefpfedpgedloaa
