/- append to a slice of texts that has no room (s[:n:n]): a new row, whoever owns the old one. -/
import Derived.Test.YtdjhlgodecnidaaDoorOwnT
namespace Go.Proofs.YtdjhlgodecnidaaDoor
open Go.RowKit

theorem scells_at {l : List ByteArray} {j : Nat} (h : j < l.length) : (scells l)[j]? = some (.string (l.getD j ByteArray.empty)) := by
  unfold scells
  rw [List.getElem?_map, List.getD_eq_getElem?_getD, List.getElem?_eq_getElem h]; rfl
set_option maxRecDepth 100000 in
theorem step_append_full {ops : Array Oper} {o : Oper} {act : Act} {K : Act → World → Prop} {Q : Exit → Act → World → Prop} {E : Prop} {w : World} (hgd : o.guard = none) (s x : Operand)
    (ho : o.op = .call { callee := .builtin .append, args := #[s, x], argTypes := #[22, 22] })
    (base : Option Addr) (n : Nat) (l : List ByteArray) (hl : l.length = n) (hs : act.eval s = .slice base n n) (hTl : TextsAt w base l)
    (b0 : Option Addr) (c' m : Nat) (ls : List ByteArray) (hm : ls.length = m) (hx : act.eval x = .slice b0 m c') (hT : TextsAt w b0 ls)
    (hlen : n + m ≤ 1000000) (hm1 : 1 ≤ m)
    (h : ∀ cap w', TextsAt w' (some ⟨w.heap.size, 0, none⟩) (l ++ ls) → Below w.heap.size w w' → n + m ≤ cap → cap ≤ maxLen → K (act.put o.dst (.slice (some ⟨w.heap.size, 0, none⟩) (n + m) cap)) w') :
    if Region.wanted o (yielded ops act.tmps) = true then Oper.wp Tryd.prog o act w K Q else E := by
  have hw : Region.wanted o (yielded ops act.tmps) = true := by simp [Region.wanted, hgd]
  rw [if_pos hw]
  obtain ⟨i0, hi0, hz0, hz1, hz2⟩ := info_parts Tryd.info_str
  subst hl hm
  have hold : (Builtin.firstCells i0.size l.length (.slice base l.length l.length)).run Tryd.prog w.drew = .ok (scells l).toArray w.drew := by
    rw [hz1]
    cases l with
    | nil =>
      cases base with
      | none => exact run_firstCells_none w.drew 1 0 0 0
      | some a => exact run_firstCells_some (P := Tryd.prog) w.drew 1 0 a 0 0 [] rfl (fun j u hu => by cases hu)
    | cons y r =>
      obtain ⟨b, off, rfl, hb, -⟩ := hTl 0 (by simp)
      refine run_firstCells_some (P := Tryd.prog) w.drew 1 _ ⟨b, off, none⟩ _ _ (scells (y :: r)) (by rw [scells_length, Nat.mul_one]) (fun j u hu => ?_)
      have hjl : j < (y :: r).length := by
        have := (List.getElem?_eq_some_iff.1 hu).1
        rwa [scells_length] at this
      obtain ⟨b', off', e, -, hc⟩ := hTl j hjl
      injection e with e
      injection e with e1 e2
      subst e1 e2
      rw [show (⟨b, off, none⟩ : Addr).add j = ⟨b, off + j, none⟩ from Go.WideShapes.add_plain b off j]
      have hd : w.drew.cell? ⟨b, off + j, none⟩ = w.cell? ⟨b, off + j, none⟩ := World.cell?_of_block (a := ⟨b, off + j, none⟩) (w := w) (w' := w.drew) rfl
      rw [hd, hc]
      rw [← hu]
      exact (scells_at hjl).symm
  have hr := run_append_grow_src (P := Tryd.prog) w 22 22 o.type 9 i0 _ Tryd.underlying22 hi0 hz0 base l.length l.length (scells l) hold _ ls.length (scells ls) (by rw [hz1]; exact srcT hT c') (by omega) (by omega) (growslice_fits (by omega) (by rw [hz2]; omega))
  unfold Oper.wp execOp
  simp only [ho, resolve, invoke, builtin, Sem.run_bind, Sem.run_pure, Result.andThen_ok, List.map_toArray, List.map_cons, List.map_nil, hs, hx, hr]
  refine h _ _ (fun j hj => ?_) ((Below.refl _ _).drew.alloc (Nat.le_refl _) _) (grownCap_ge _ _ _ _) (grownCap_le_maxLen _ _ _ _ (by unfold maxLen; omega))
  refine ⟨w.heap.size, 0, rfl, by simp, ?_⟩
  rw [cell_of_row _ _ _ _ _ _ (show (w.drew.alloc _).heap[w.heap.size]? = _ from heap_alloc_new w.drew _), Nat.zero_add, ← scells_append]
  rw [Array.getElem?_append_left (by simp [scells]; rw [List.length_append] at hj; omega)]
  rw [List.getElem?_toArray]
  exact scells_at hj
end Go.Proofs.YtdjhlgodecnidaaDoor
