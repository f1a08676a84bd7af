/- append of one text to a slice of texts that the call made itself. -/
import Derived.Test.YtdmbombjkinboaaFScan
namespace Go.Proofs.Ytdmbombjkinboaa
open Go.RowKit
/-- append of one text. -/
theorem wpList_append_text {ops : Array Oper} {rest : List Oper} {o : Oper} {act : Act} {Q : Exit → Act → World → Prop} {w w0 : World} (hgd : o.guard = none) (s x : Operand)
    (ho : o.op = .call { callee := .builtin .append, args := #[s, x], argTypes := #[35, 35] })
    {B : Nat} {a : Option Addr} {cap0 : Nat} {l : List ByteArray} (hown : OwnT B w a cap0 l) (n : Nat) (hn : l.length = n) (hs : act.eval s = .slice a n cap0)
    (g c' : Nat) (c : ByteArray) (hx : act.eval x = .slice (some ⟨g, 0, none⟩) 1 c') (hc : w.cell? ⟨g, 0, none⟩ = some (.string c))
    (hlen : n < 1000000) (hbase : B ≤ w.heap.size) (hb0 : Below B w0 w)
    (h : ∀ g cap w', OwnT B w' (some ⟨g, 0, none⟩) cap (l ++ [c]) → Below B w0 w' → w.grownBy w' (Value.slice a l.length cap0).ownBlock → wpList Try.prog ops Q rest (act.put o.dst (.slice (some ⟨g, 0, none⟩) (n + 1) cap)) w') : wpList Try.prog ops Q (o :: rest) act w := by
  subst hn
  obtain ⟨i0, hi0, hz0, hz1, hz2⟩ := info_parts Try.info_str
  refine wpList_append_lies w hgd s x 35 ho B 9 i0 _ 1 16 Try.underlying35 hi0 hz0 hz1 hz2 rfl (by decide) (.slice a l.length cap0) l.length (scells l) hs hown ⟨g, 0, none⟩ 1 c' [.string c] hx rfl
    (fun j u hj => ?_) (by simp [Value.oneCell']) (by decide) (by unfold maxLen; omega) (by omega) hbase w.heap.size rfl (fun g cap w' h1 h2 _ _ => h g cap w' ?_ ?_ h2)
  · match j, hj with
    | 0, hj =>
      simp at hj
      subst hj
      rw [show (⟨g, 0, none⟩ : Addr).add 0 = ⟨g, 0, none⟩ from by simp [Addr.add]]
      exact hc
  · unfold OwnT
    rw [scells_snoc, List.length_append]; exact h1
  · exact hb0.grown h2 hbase (fun k hk => (World.ownsRow.lt hown k hk).1)

theorem OwnT.lt {B : Nat} {w : World} {a : Option Addr} {cap : Nat} {l : List ByteArray} (h : OwnT B w a cap l) {k : Nat} (e : (Value.slice a l.length cap).ownBlock = some k) : B ≤ k ∧ k < w.heap.size := World.ownsRow.lt h k e
theorem OwnT.nil (B : Nat) (w : World) : OwnT B w none 0 [] := World.ownsRow_nil _ _ _ _
theorem OwnT.alloc {B : Nat} {w : World} {a : Option Addr} {cap : Nat} {l : List ByteArray} (h : OwnT B w a cap l) (o : Obj) : OwnT B (w.alloc o) a cap l := World.ownsRow.alloc h o
theorem OwnT.base {B B' : Nat} {w : World} {a : Option Addr} {cap : Nat} {l : List ByteArray} (h : OwnT B w a cap l) (hB : B' ≤ B) : OwnT B' w a cap l := ownsRow_base h hB
/-- A cell of another block is another one now. -/
theorem OwnT.set {B : Nat} {w : World} {a : Option Addr} {cap : Nat} {l : List ByteArray} (h : OwnT B w a cap l) (p : Addr) (v : Value) (hp : p.block < B) : OwnT B (w.setCell p v) a cap l := by
  obtain ⟨h1, h2⟩ := h
  refine ⟨h1, ?_⟩
  rcases h2 with h2 | ⟨g, c, cur, e, hb, hg, h3⟩
  · exact .inl h2
  · exact .inr ⟨g, c, cur, e, hb, (Below.heap_setCell _ _ _ g (by omega)).trans hg, h3⟩
theorem OwnT.drew {B : Nat} {w : World} {a : Option Addr} {cap : Nat} {l : List ByteArray} (h : OwnT B w a cap l) : OwnT B w.drew a cap l := h
end Go.Proofs.Ytdmbombjkinboaa
