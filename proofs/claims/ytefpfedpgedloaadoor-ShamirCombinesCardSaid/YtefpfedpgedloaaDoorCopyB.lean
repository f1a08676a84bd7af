/- copy of a text into an own slice of bytes. -/
import Derived.Test.YtefpfedpgedloaaDoorBytesB
import Derived.Test.YtefpfedpgedloaaDoorRow
import Derived.Laws.CopyOwn
namespace Go.Proofs.YtefpfedpgedloaaDoor
open Go.RowKit

theorem run_firstCells_take {P : Program} (w : World) (size n : Nat) (s : ByteArray) : (Builtin.firstCells size n (.string s)).run P w = .ok ((s.data.toList.take n).map fun b => Value.int .u8 b.toNat).toArray w := by
  simp only [Builtin.firstCells, Sem.run_pure]
  congr 1
  apply Array.ext'
  simp
theorem wpList_copy_str {P : Program} {w : World} {ops : Array Oper} {rest : List Oper} {o : Oper} {a : Act} {Q : Exit → Act → World → Prop} (hgd : o.guard = none) (d s : Operand) (dT sT : TypeId)
    (ho : o.op = .call { callee := .builtin .copy, args := #[d, s], argTypes := #[dT, sT] }) (elem : TypeId) (hu : P.underlying dT = some (.slice elem)) (hsz : (P.info? elem).map (·.size) = some 1)
    (g off dLen dCap : Nat) (x : ByteArray) (hd : a.eval d = .slice (some ⟨g, off, none⟩) dLen dCap) (hs : a.eval s = .string x)
    (cur : Array Value) (t : TypeId) (hg : w.heap[g]? = some (.cells cur t (0, 0))) (n : Nat) (hn : n = Nat.min x.size dLen) (hfit : off + dLen ≤ cur.size)
    (h : ∀ vs : List Value, vs = (x.data.toList.take n).map (fun b => Value.int .u8 b.toNat) → wpList P ops Q rest (a.put o.dst (goInt n)) (w.setRow g (cur.toList.take off ++ (vs ++ cur.toList.drop (off + n))).toArray)) : wpList P ops Q (o :: rest) a w := by
  refine wpList_plain hgd fun K hK => ?_
  have hx : x.data.toList.length = x.size := rfl
  obtain ⟨vs, hvs⟩ : ∃ vs : List Value, vs = (x.data.toList.take n).map (fun b => Value.int .u8 b.toNat) := ⟨_, rfl⟩
  have hfc := fun size => run_firstCells_take (P := P) w size n x
  rw [← hvs] at hfc
  have hlen : vs.length = n := by
    rw [hvs, List.length_map, List.length_take, hx, hn]
    exact Nat.min_eq_left (Nat.min_le_left _ _)
  have hnd : n ≤ dLen := by rw [hn]; exact Nat.min_le_right _ _
  have hst := run_storeCells_at P g off t vs 0 cur w hg (by rw [hlen]; omega) (fun v hv => by
    rw [hvs] at hv
    simp only [List.mem_map] at hv
    obtain ⟨b, _, rfl⟩ := hv
    rfl)
  have h' := h vs hvs
  clear h hvs
  have hrun : (Builtin.copy_ #[dT, sT] o.type #[.slice (some ⟨g, off, none⟩) dLen dCap, .string x]).run P w =
      .ok (goInt n) (w.setRow g (cur.toList.take off ++ (vs ++ cur.toList.drop (off + n))).toArray) := by
    cases hq : P.info? elem with
    | none => simp [hq] at hsz
    | some i =>
      rw [Nat.add_zero, hlen] at hst
      simp [Builtin.copy_, run_underlying hu, Builtin.lenOf, hfc, sizeOf, typeInfo, hq, ← hn, hst]
  unfold Oper.wp
  simp [execOp, ho, resolve, invoke, builtin, hd, hs, hrun, Result.andThen]
  exact hK _ _ h'

theorem wpList_copy_own_text {w : World} {ops : Array Oper} {rest : List Oper} {o : Oper} {a : Act} {Q : Exit → Act → World → Prop} (hgd : o.guard = none) (d s : Operand) (dT sT : TypeId)
    (ho : o.op = .call { callee := .builtin .copy, args := #[d, s], argTypes := #[dT, sT] }) (hu : Tryd.prog.underlying dT = some (.slice 5))
    {B : Nat} {w0 : World} {g cap n : Nat} {l : List UInt8} (x : ByteArray) (hyp : Hid (OwnB B w (some ⟨g, 0, none⟩) cap l ∧ l.length = n ∧ x.size ≤ n ∧ Below B w0 w)) (hd : a.eval d = .slice (some ⟨g, 0, none⟩) n cap) (hs : a.eval s = .string x)
    (h : ∀ w', Hid (OwnB B w' (some ⟨g, 0, none⟩) cap (x.data.toList ++ l.drop x.size) ∧ Below B w0 w') → wpList Tryd.prog ops Q rest (a.put o.dst (goInt x.size)) w') : wpList Tryd.prog ops Q (o :: rest) a w := by
  obtain ⟨hown, hl, hx, hb⟩ := hyp.out
  subst hl
  obtain ⟨h1, h2⟩ := hown
  rcases h2 with ⟨e, _⟩ | ⟨k, c, cur, e, hB, hg, hn, hc, hsz, ht⟩
  · injection e with e1 _ _
    injection e1
  · have e' := e
    injection e' with e1 _ e3
    injection e1 with e1
    injection e1 with e1 _ _
    subst e1 e3
    refine wpList_copy_str hgd d s dT sT ho 5 hu (by kernel_rfl) g 0 l.length cap x hd hs cur 5 hg x.size (Nat.min_eq_left hx).symm (by omega) (fun vs hvs => ?_)
    refine h _ (Lib.hid ⟨⟨by simp [bcells], .inr ⟨g, cap, _, rfl, hB, setRow_heap _ _ _ _ _ _ hg, ?_, hc, ?_, ?_⟩⟩, ?_⟩)
    · rw [List.length_append, List.length_drop]
      have : x.data.toList.length = x.size := by simp
      omega
    · have hv : vs.length = x.size := by rw [hvs, List.length_map, List.length_take]; simp
      simp [hv]; omega
    · have hv : vs = bcells x.data.toList := by
        rw [hvs, List.take_of_length_le (by simp)]; rfl
      have hvl : vs.length = x.size := by rw [hv, bcells_length]; simp
      have hlen : (x.data.toList ++ l.drop x.size).length = l.length := by
        rw [List.length_append, List.length_drop]
        have : x.data.toList.length = x.size := by simp
        omega
      rw [hlen, Nat.mul_one] at *
      rw [List.take_zero, List.nil_append, Nat.zero_add]
      show (vs ++ cur.toList.drop x.size).take l.length = _
      rw [List.take_append, List.take_of_length_le (by omega), hvl, ← List.drop_take, ht]
      rw [hv]
      simp [bcells, List.map_drop]
    · exact below_setRow hb _ _ hB
end Go.Proofs.YtefpfedpgedloaaDoor
