/- A book in memory, and what keeps it. -/
import Derived.Test.YtnkkbinbeildmaaPyMem
import Derived.Test.YtnkkbinbeildmaaBkMath
namespace Go.Proofs.Ytnkkbinbeildmaa
open Go.RowKit
/-- All blocks stay as they were but one, and one more. -/
structure KeptB (b : Nat) (R : Option Nat) (w w' : World) : Prop where
  os : w'.os = w.os
  tape : w'.tape = w.tape
  output : w'.output = w.output
  size : w.heap.size ≤ w'.heap.size
  block : ∀ k, k < w.heap.size → k ≠ b → R ≠ some k → w'.heap[k]? = w.heap[k]?
theorem KeptB.of {b : Nat} {R : Option Nat} {w w' : World} (h : Below w.heap.size w w') : KeptB b R w w' := ⟨h.os, h.tape, h.output, h.size, fun k hk _ _ => h.block k hk⟩
theorem KeptB.below {B b : Nat} {R : Option Nat} {w0 w w' : World} (h : KeptB b R w w') (h0 : Below B w0 w) (hB : B ≤ w.heap.size) (hb : B ≤ b) (hR : ∀ g, R = some g → B ≤ g) : Below B w0 w' :=
  h0.trans ⟨h.os, h.tape, h.output, h.size, fun k hk => h.block k (by omega) (by omega) (fun e => by have := hR k e; omega)⟩
theorem KeptB.trans {b : Nat} {R R' : Option Nat} {w w' w'' : World} (h : KeptB b R w w') (h2 : KeptB b R' w' w'') (hR : R' = R ∨ ∀ g, R' = some g → w.heap.size ≤ g) : KeptB b R w w'' :=
  ⟨h2.os.trans h.os, h2.tape.trans h.tape, h2.output.trans h.output, Nat.le_trans h.size h2.size, fun k hk hkb hkR => by
    rw [h2.block k (Nat.lt_of_lt_of_le hk h.size) hkb (fun e => by
      rcases hR with hR | hR
      · exact hkR (hR ▸ e)
      · have := hR k e; omega)]
    exact h.block k hk hkb hkR⟩
theorem KeptB.pre {b : Nat} {R : Option Nat} {w w' w'' : World} (h : Below w.heap.size w w') (h2 : KeptB b R w' w'') : KeptB b R w w'' :=
  ⟨h2.os.trans h.os, h2.tape.trans h.tape, h2.output.trans h.output, Nat.le_trans h.size h2.size, fun k hk hkb hkR => by
    rw [h2.block k (Nat.lt_of_lt_of_le hk h.size) hkb hkR]; exact h.block k hk⟩
theorem KeptB.post {b : Nat} {R : Option Nat} {w w' w'' : World} (h : KeptB b R w w') (h2 : Below w'.heap.size w' w'') : KeptB b R w w'' :=
  ⟨h2.os.trans h.os, h2.tape.trans h.tape, h2.output.trans h.output, Nat.le_trans h.size h2.size, fun k hk hkb hkR => by
    rw [h2.block k (Nat.lt_of_lt_of_le hk h.size)]; exact h.block k hk hkb hkR⟩
theorem Try.en_rec : RecT 102 88 6 64 (.agg #[.int .i64 0, .string ⟨#[]⟩, .int .i64 0, .string ⟨#[]⟩, .int .i64 0, .int .i64 0]) := ⟨Try.underlying88, by kernel_rfl, rfl, by decide⟩
/-- A book at a block; R: where its entries lie. -/
def BkAt (B : Nat) (w : World) (b : Nat) (R : Option Nat) (l : List En) : Prop :=
  B ≤ b ∧ ∃ ad cap, w.heap[b]? = some (.cells #[.slice ad l.length cap] 90 (0, 0)) ∧ OwnR 102 6 enCs B w ad cap l ∧ R = (Value.slice ad l.length cap).ownBlock
variable {B b : Nat} {w w' : World} {R : Option Nat} {l : List En}
theorem BkAt.lt (h : BkAt B w b R l) : b < w.heap.size := by
  obtain ⟨-, ad, cap, h1, -⟩ := h
  exact (Array.getElem?_eq_some_iff.1 h1).1
theorem BkAt.row (h : BkAt B w b R l) : ∀ g, R = some g → B ≤ g ∧ g < w.heap.size ∧ g ≠ b := fun g hg => by
  obtain ⟨h0, ad, cap, h1, h2, h3⟩ := h
  have := h2.lt g (h3 ▸ hg)
  refine ⟨this.1, this.2, fun e => ?_⟩
  subst e
  rcases h2.2 with ⟨e, -⟩ | ⟨g', c, cur, e, -, hg', -⟩
  · rw [h3, e] at hg; cases hg
  · rw [h3, e] at hg
    have : g' = g := by simpa [Value.ownBlock] using hg
    subst this
    rw [h1] at hg'
    injection hg' with hg'
    injection hg' with h5 h6
    exact absurd h6 (by decide)
theorem BkAt.below (h : BkAt B w b R l) (hb : Below w.heap.size w w') : BkAt B w' b R l := by
  have hlt := h.lt
  obtain ⟨h0, ad, cap, h1, h2, h3⟩ := h
  exact ⟨h0, ad, cap, (hb.block b hlt).trans h1, h2.call hb, h3⟩
theorem BkAt.mono {C : Nat} (h : BkAt B w b R l) (hC : C ≤ B) : BkAt C w b R l := by
  obtain ⟨h0, ad, cap, h1, h2, h3⟩ := h
  exact ⟨Nat.le_trans hC h0, ad, cap, h1, h2.mono hC, h3⟩
/-- A book beside one that was written. -/
theorem BkAt.kept {b' : Nat} {R' : Option Nat} (h : BkAt B w b R l) (hk : KeptB b' R' w w') (h1 : b ≠ b') (h2 : R' ≠ some b) (h3 : R ≠ some b') (h4 : R = none ∨ R ≠ R') : BkAt B w' b R l := by
  have hlt := h.lt
  obtain ⟨h0, ad, cap, h5, h6, h7⟩ := h
  refine ⟨h0, ad, cap, (hk.block b hlt h1 h2).trans h5, ⟨h6.1, ?_⟩, h7⟩
  rcases h6.2 with h8 | ⟨g, c, cur, e, hB, hg, h9⟩
  · exact .inl h8
  · have hR : R = some g := by rw [h7, e]; rfl
    refine .inr ⟨g, c, cur, e, hB, (hk.block g (Array.getElem?_eq_some_iff.1 hg).1 (fun e => h3 (by rw [hR, e])) (fun e => ?_)).trans hg, h9⟩
    rcases h4 with h4 | h4
    · rw [h4] at hR; cases hR
    · exact h4 (hR.trans e.symm)
theorem RecsAt.kept {α : Type} {k : Nat} {c : α → Array Value} {a0 : Option Addr} {m : List α} (h : RecsAt k c w a0 m) (ha : ∀ g o, a0 = some ⟨g, o, none⟩ → g ≠ b ∧ R ≠ some g) (hk : KeptB b R w w') : RecsAt k c w' a0 m := fun j x hj => by
  obtain ⟨g, off, rfl, hg, hc⟩ := h j x hj
  obtain ⟨h1, h2⟩ := ha g off rfl
  refine ⟨g, off, rfl, Nat.lt_of_lt_of_le hg hk.size, fun m hm => ?_⟩
  rw [← hc m hm]
  unfold World.cell?
  rw [hk.block g hg h1 h2]
theorem en_size (x : En) : (enCs x).size = 6 := rfl
theorem en_one (x : En) : ∀ u ∈ (enCs x).toList, u.oneCell' = true := by
  intro u hu
  simp [enCs] at hu
  rcases hu with rfl | rfl | rfl | rfl | rfl | rfl <;> rfl
/-- An entry's state is another now. -/
theorem rcs_setS {l : List En} {i : Nat} {x : En} (hi : l[i]? = some x) (s : Int) : (rcs enCs l).set (i * 6 + 5) (.int .i64 s) = rcs enCs (Bk.setS l i s) := by
  have hlt := (List.getElem?_eq_some_iff.1 hi).1
  have hl := rcs_length en_size l
  have hl2 := rcs_length en_size (Bk.setS l i s)
  rw [Bk.setS_length] at hl2
  apply List.ext_getElem?
  intro j
  by_cases hj : j < l.length * 6
  · obtain ⟨q, r, hr, rfl⟩ : ∃ q r, r < 6 ∧ j = q * 6 + r := ⟨j / 6, j % 6, Nat.mod_lt _ (by decide), by omega⟩
    have hq : q < l.length := by omega
    obtain ⟨y, hy⟩ : ∃ y, l[q]? = some y := ⟨_, List.getElem?_eq_getElem hq⟩
    rw [rcs_at en_size _ q _ (Bk.setS_at hy) r hr, List.getElem?_set, hl]
    by_cases e : q = i
    · subst e
      rw [hi] at hy; injection hy with hy; subst hy
      rw [if_pos rfl]
      by_cases e2 : r = 5
      · subst e2; rw [if_pos rfl, if_pos (by omega)]; rfl
      · rw [if_neg (by omega), rcs_at en_size _ q _ hi r hr]
        rcases (by omega : r = 0 ∨ r = 1 ∨ r = 2 ∨ r = 3 ∨ r = 4) with rfl | rfl | rfl | rfl | rfl <;> rfl
    · rw [if_neg (by omega), if_neg e, rcs_at en_size _ q _ hy r hr]
  · rw [List.getElem?_eq_none (by simp only [List.length_set]; omega), List.getElem?_eq_none (by omega)]
theorem BkAt.setState (h : BkAt B w b R l) {i : Nat} {x : En} (hi : l[i]? = some x) (s : Int) {g : Nat} (hg : R = some g) :
    BkAt B (w.setCell ⟨g, i * 6 + 5, none⟩ (.int .i64 s)) b R (Bk.setS l i s) ∧ KeptB b R w (w.setCell ⟨g, i * 6 + 5, none⟩ (.int .i64 s)) := by
  have hr := h.row g hg
  obtain ⟨h0, ad, cap, h1, h2, h3⟩ := h
  have had : ad = some ⟨g, 0, none⟩ := by
    rcases h2.2 with ⟨e, -⟩ | ⟨g', c, cur, e, -⟩
    · rw [h3, e] at hg; cases hg
    · rw [h3, e] at hg
      have e2 : g' = g := by simpa [Value.ownBlock] using hg
      subst e2
      injection e
  subst had
  refine ⟨⟨h0, _, cap, ?_, ?_, by rw [Bk.setS_length]; exact h3⟩, ⟨rfl, rfl, rfl, by simp, fun k hk _ hkR => heap_setCell_other w _ k _ (fun e => hkR (by rw [hg]; exact congrArg some e.symm))⟩⟩
  · rw [Bk.setS_length]
    exact (heap_setCell_other w _ b _ (fun e => hr.2.2 e.symm)).trans h1
  · unfold OwnR
    rw [Bk.setS_length, ← rcs_setS hi]
    exact (World.ownsRow.stored h2 _ _).1
end Go.Proofs.Ytnkkbinbeildmaa
