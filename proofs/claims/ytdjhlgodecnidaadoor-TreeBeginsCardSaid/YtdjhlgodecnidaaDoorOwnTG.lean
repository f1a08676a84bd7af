/- append of many texts where the operation is guarded ('&&', '||') and wanted. -/
import Derived.Test.YtdjhlgodecnidaaDoorOwnT
namespace Go.Proofs.YtdjhlgodecnidaaDoor
open Go.RowKit

theorem wpList_append_textsG {ops : Array Oper} {rest : List Oper} {o : Oper} {act : Act} {Q : Exit → Act → World → Prop} {w w0 : World} (hwt : Region.wanted o (yielded ops act.tmps) = true) (s x : Operand)
    (ho : o.op = .call { callee := .builtin .append, args := #[s, x], argTypes := #[22, 22] })
    {B : Nat} {a : Option Addr} {cap : Nat} {l : List ByteArray} (hown : OwnT B w a cap l) (n : Nat) (hn : l.length = n) (hs : act.eval s = .slice a n cap)
    (b0 : Option Addr) (c' m : Nat) (ls : List ByteArray) (hm : ls.length = m) (hx : act.eval x = .slice b0 m c') (hT : TextsAt w b0 ls)
    (hlen : n + m ≤ 1000000000) (hbase : B ≤ w.heap.size) (hb0 : Below B w0 w)
    (h : ∀ ad cap w', OwnT B w' ad cap (l ++ ls) → Below B w0 w' → wpList Tryd.prog ops Q rest (act.put o.dst (.slice ad (n + m) cap)) w') : wpList Tryd.prog ops Q (o :: rest) act w :=
  wpList_step fun K hK => by
    subst hn hm
    obtain ⟨i0, hi0, hz0, hz1, hz2⟩ := info_parts Tryd.info_str
    have hown0 : w.ownsRow 0 9 1 (.slice a l.length cap) l.length (scells l) := hown.mono (Nat.zero_le _)
    rw [if_pos hwt]
    obtain ⟨ad, cap', w', hr, h1, h2, h3⟩ := run_append_src (P := Tryd.prog) w 22 22 o.type 9 i0 _ 1 16 Tryd.underlying22 hi0 hz0 hz1 hz2 rfl _ l.length (scells l) hown0 _ ls.length (scells ls) (srcT hT c') (by omega) (by omega)
    unfold Oper.wp execOp
    simp only [ho, resolve, invoke, builtin, Sem.run_bind, Sem.run_pure, Result.andThen_ok, List.map_toArray, List.map_cons, List.map_nil, hs, hx, hr]
    refine hK _ _ ?_
    have hO : OwnT 0 w' ad cap' (l ++ ls) := by unfold OwnT; rw [scells_append, List.length_append]; exact h1
    refine h ad cap' w' (hO.base fun g hg => ?_) (hb0.grown h2 hbase (fun k hk => (World.ownsRow.lt hown k hk).1))
    rw [List.length_append] at hg
    rcases h3 g hg with h4 | h4
    · exact (World.ownsRow.lt hown g h4).1
    · rw [h4.1]; exact hbase
end Go.Proofs.YtdjhlgodecnidaaDoor
