/- segs: a store and its disk in memory; Append. -/
import Derived.Test.YtdmbombjkinboaaGreatYTurn2
namespace Go.Proofs.YtdmbombjkinboaaGreat
open Go.RowKit
open Dk Sg Fr

/-- A store and its disk in memory: U are the store's own blocks. -/
structure SAt (w : World) (ρ : Nat → Nat) (U : Nat → Prop) (s b : Nat) (D : Disk) (S : Stor) : Prop where
  disk : DiskAt w ρ b D
  off : ∀ g, U g → ρ g = 0 ∧ g < w.heap.size
  us : U s
  body : ∃ a cap ar cr, Hd w s b S (.slice a S.segs.length cap) (.slice ar S.recs.length cr) ∧ OwnG w a cap S.segs ∧ (∀ g, (Value.slice a S.segs.length cap).ownBlock = some g → U g) ∧ OwnT 0 w ar cr S.recs ∧ (∀ g, (Value.slice ar S.recs.length cr).ownBlock = some g → U g)
/-- What a call of a store may do to the world. -/
structure Move (ρ : Nat → Nat) (U : Nat → Prop) (ρ' : Nat → Nat) (U' : Nat → Prop) (w w' : World) : Prop where
  os : w'.os = w.os
  tape : w'.tape = w.tape
  output : w'.output = w.output
  size : w.heap.size ≤ w'.heap.size
  old : ∀ g, g < w.heap.size → ρ' g = ρ g
  oldU : ∀ g, g < w.heap.size → (U' g ↔ U g)
  same : ∀ g, g < w.heap.size → ρ g = 0 → ¬ U g → w'.heap[g]? = w.heap[g]?
  lab : ∀ g, w'.heap.size ≤ g → ρ' g = ρ g
theorem Move.refl (ρ : Nat → Nat) (U : Nat → Prop) (w : World) : Move ρ U ρ U w w := ⟨rfl, rfl, rfl, Nat.le_refl _, fun _ _ => rfl, fun _ _ => Iff.rfl, fun _ _ _ _ => rfl, fun _ _ => rfl⟩
theorem Move.trans {ρ ρ' ρ'' : Nat → Nat} {U U' U'' : Nat → Prop} {a b c : World} (h : Move ρ U ρ' U' a b) (k : Move ρ' U' ρ'' U'' b c) : Move ρ U ρ'' U'' a c :=
  ⟨k.os.trans h.os, k.tape.trans h.tape, k.output.trans h.output, Nat.le_trans h.size k.size, fun g hg => (k.old g (Nat.lt_of_lt_of_le hg h.size)).trans (h.old g hg),
    fun g hg => (k.oldU g (Nat.lt_of_lt_of_le hg h.size)).trans (h.oldU g hg),
    fun g hg h0 hx => (k.same g (Nat.lt_of_lt_of_le hg h.size) ((h.old g hg).trans h0) (fun e => hx ((h.oldU g hg).1 e))).trans (h.same g hg h0 hx), fun g hg => (k.lab g hg).trans (h.lab g (Nat.le_trans k.size hg))⟩
theorem Move.below {ρ : Nat → Nat} {U : Nat → Prop} {a b : World} (h : Below a.heap.size a b) : Move ρ U ρ U a b := ⟨h.os, h.tape, h.output, h.size, fun _ _ => rfl, fun _ _ => Iff.rfl, fun g hg _ _ => h.block g hg, fun _ _ => rfl⟩
/-- A world that has turned but below: a store is as it was. -/
theorem SAt.below {w w' : World} {ρ : Nat → Nat} {U : Nat → Prop} {s b : Nat} {D : Disk} {S : Stor} (h : SAt w ρ U s b D S) (hb : Below w.heap.size w w') : SAt w' ρ U s b D S := by
  obtain ⟨a, cap, ar, cr, h1, h2, h3, h4, h5⟩ := h.body
  exact ⟨h.disk.below hb, fun g hg => ⟨(h.off g hg).1, Nat.lt_of_lt_of_le (h.off g hg).2 hb.size⟩, h.us, a, cap, ar, cr, h1.same (hb.block _ h1.lt), h2.call hb, h3, h4.call hb, h5⟩
/-- What a call leaves of all that was made ahead of the disk. -/
theorem Move.blw {ρ ρ' : Nat → Nat} {U U' : Nat → Prop} {w w' : World} {B : Nat} (h : Move ρ U ρ' U' w w') (hr : ∀ g, g < B → ρ g = 0 ∧ ¬ U g) (hB : B ≤ w.heap.size) : Below B w w' :=
  ⟨h.os, h.tape, h.output, h.size, fun g hg => h.same g (Nat.lt_of_lt_of_le hg hB) (hr g hg).1 (hr g hg).2⟩
theorem Move.from_ {ρ ρ' : Nat → Nat} {U U' : Nat → Prop} {w w' : World} {B : Nat} (h : Move ρ U ρ' U' w w') (hr : ∀ g, g < B → ρ g = 0 ∧ ¬ U g) (hB : B ≤ w.heap.size) : ∀ g, g < B → ρ' g = 0 ∧ ¬ U' g :=
  fun g hg => ⟨(h.old g (Nat.lt_of_lt_of_le hg hB)).trans (hr g hg).1, fun e => (hr g hg).2 ((h.oldU g (Nat.lt_of_lt_of_le hg hB)).1 e)⟩
/-- The bounds of a store. -/
structure Fine (S : Stor) : Prop where
  at_ : S.at_ ≤ 1
  epoch : S.epoch ≤ 1099511627776
  segs : S.segs.length ≤ 62
  exts : ∀ x ∈ S.exts, x < 64
  recs : S.recs.length ≤ 999999
  ne : S.segs ≠ []
theorem OwnT.ne {w : World} {s b : Nat} {S : Stor} {vs vr : Value} {a : Option Addr} {cap : Nat} {l : List ByteArray} (hd : Hd w s b S vs vr) (h : OwnT 0 w a cap l) : (Value.slice a l.length cap).ownBlock ≠ some s := fun e => by
  rcases h.2 with ⟨e1, hn⟩ | ⟨g, c, cur, e1, hB, hg, -⟩
  · injection e1 with e2 _ _; subst e2; cases e
  · injection e1 with e2 _ _
    subst e2
    injection e with e
    have e : g = s := e
    subst e
    unfold Hd at hd
    rw [hd] at hg
    injection hg with hg
    injection hg with _ hg _
    exact absurd hg (by decide)
theorem OwnT.ne_seg {w : World} {a a' : Option Addr} {cap cap' : Nat} {l : List ByteArray} {k : List (Nat × Nat)} (hk : OwnG w a' cap' k) (h : OwnT 0 w a cap l) {g : Nat} (e : (Value.slice a l.length cap).ownBlock = some g) : (Value.slice a' k.length cap').ownBlock ≠ some g := fun e' => by
  rcases h.2 with ⟨e1, hn⟩ | ⟨g1, c, cur, e1, hB, hg, -⟩
  · injection e1 with e2 _ _; subst e2; cases e
  · injection e1 with e2 _ _
    subst e2
    injection e with e
    have e : g1 = g := e
    subst e
    rcases hk.2 with ⟨e1, hn⟩ | ⟨g2, c, cur, e1, hB, hg2, -⟩
    · injection e1 with e2 _ _; subst e2; cases e'
    · injection e1 with e2 _ _
      subst e2
      injection e' with e
      have e : g2 = g1 := e
      subst e
      rw [hg] at hg2
      injection hg2 with hg
      injection hg with _ hg _
      exact absurd hg (by decide)
theorem OwnT.same {w w' : World} {a : Option Addr} {cap : Nat} {l : List ByteArray} (h : OwnT 0 w a cap l) (hs : ∀ g, (Value.slice a l.length cap).ownBlock = some g → w'.heap[g]? = w.heap[g]?) : OwnT 0 w' a cap l := ownsRow_same h hs
/-- append of one text, at a step. -/
theorem step_append_rec {ops : Array Oper} {o : Oper} {act : Act} {K : Act → World → Prop} {Q : Exit → Act → World → Prop} {E : Prop} {w : World} (hgd : o.guard = none) (s x : Operand)
    (ho : o.op = .call { callee := .builtin .append, args := #[s, x], argTypes := #[30, 30] })
    {a : Option Addr} {cap0 : Nat} {l : List ByteArray} (hown : OwnT 0 w a cap0 l) (n : Nat) (hn : l.length = n) (hs : act.eval s = .slice a n cap0)
    (g c' : Nat) (c : ByteArray) (hx : act.eval x = .slice (some ⟨g, 0, none⟩) 1 c') (hc : w.heap[g]? = some (.cells #[.string c] 9 (0, 0)))
    (hlen : n < 1000000)
    (h : ∀ g cap w', OwnT 0 w' (some ⟨g, 0, none⟩) cap (l ++ [c]) → w.grownBy w' (Value.slice a l.length cap0).ownBlock → ((Value.slice a l.length cap0).ownBlock = some g ∨ g = w.heap.size) → K (act.put o.dst (.slice (some ⟨g, 0, none⟩) (n + 1) cap)) w') :
    if Region.wanted o (yielded ops act.tmps) = true then Oper.wp Tryz.prog o act w K Q else E := by
  subst hn
  obtain ⟨i0, hi0, hz0, hz1, hz2⟩ := info_parts Tryz.info_str
  refine step_append_lies w hgd s x 30 ho 0 9 i0 _ 1 16 Tryz.underlying30 hi0 hz0 hz1 hz2 rfl (by decide) (.slice a l.length cap0) l.length (scells l) hs hown ⟨g, 0, none⟩ 1 c' [.string c] hx rfl
    (fun j u hj => ?_) (by simp [Value.oneCell']) (by decide) (by unfold maxLen; omega) (by omega) (Nat.zero_le _) w.heap.size rfl (fun g cap w' h1 h2 h3 _ => h g cap w' ?_ h2 h3)
  · rw [show (⟨g, 0, none⟩ : Addr).add j = ⟨g, j, none⟩ by unfold Addr.add; split <;> simp_all, cell_of_row _ _ _ _ _ _ hc]
    simpa using hj
  · unfold OwnT
    rw [scells_snoc, List.length_append]; exact h1
end Go.Proofs.YtdmbombjkinboaaGreat
