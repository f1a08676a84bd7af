/- Plain mathematics of segs: no extent has more than its room, while no cut is laid. No walk. -/
import Derived.Test.YtdmbombjkinboaaGreatYLive4
namespace Go.Proofs.YtdmbombjkinboaaGreat
open Dk Sg Fr
namespace Sg

/-- No cut is laid, and no extent has more than its room. -/
def Rm (D : Disk) : Prop := D.laid = false ∧ ∀ x, ((exAt D.now x).size : Int) ≤ D.room
theorem Rm.new {n : Nat} {room : Int} (h : 0 ≤ room) : Rm (Disk.new n room) := ⟨rfl, fun x => by
  have : exAt (Disk.new n room).now x = ⟨#[]⟩ := by
    show exAt (List.replicate n (⟨#[]⟩ : ByteArray)) x = _
    unfold exAt
    rw [List.getD_eq_getElem?_getD, List.getElem?_replicate]
    split <;> rfl
  rw [this]; exact h⟩
theorem Rm.sync {D : Disk} (h : Rm D) : Rm D.sync.1 := by
  unfold Disk.sync
  split
  · exact h
  · exact ⟨h.1, h.2⟩
theorem Rm.act {D : Disk} (h : Rm D) {kind : Nat} (_ : kind ≤ 2) (x long : Int) (text : ByteArray) : Rm (D.act kind x long text).1 := by
  unfold Disk.act
  split
  · next hr =>
    obtain ⟨-, h0, h1, h2, h3⟩ := Disk.refused_zero hr
    unfold Disk.puts
    rw [if_neg (by rw [h.1]; simp)]
    refine ⟨h.1, fun y => ?_⟩
    have hn : ({ D with waits := D.waits ++ [⟨kind, x.toNat, long.toNat, text⟩], changes := D.changes + 1, after := if D.laid = true then D.after - 1 else D.after } : Disk).now = made D.now ⟨kind, x.toNat, long.toNat, text⟩ := madeAll_snoc _ _ _
    rw [hn]
    show ((exAt (made D.now ⟨kind, x.toNat, long.toNat, text⟩) y).size : Int) ≤ D.room
    by_cases e : x.toNat = y
    · subst e
      rw [exAt_made_same (c := ⟨kind, x.toNat, long.toNat, text⟩) (by show x.toNat < _; rw [D.now_length]; omega)]
      have hy := h.2 x.toNat
      unfold made1
      by_cases k0 : kind = 0
      · rw [if_pos k0, ByteArray.size_append]
        have := h3 k0
        show (((exAt D.now x.toNat).size + text.size : Nat) : Int) ≤ D.room
        omega
      · rw [if_neg k0]
        by_cases k1 : kind = 1
        · rw [if_pos k1, ByteArray.size_extract]
          show ((min long.toNat (exAt D.now x.toNat).size - 0 : Nat) : Int) ≤ D.room
          omega
        · rw [if_neg k1]
          show ((0 : Nat) : Int) ≤ D.room
          omega
    · rw [exAt_made_other (c := ⟨kind, x.toNat, long.toNat, text⟩) e]
      exact h.2 y
  · exact h
theorem rm_syncS {D : Disk} {S : Stor} (h : Rm D) : Rm (syncS D S).1 := by
  unfold syncS andS; split <;> exact h.sync
theorem rm_putS {D : Disk} {S : Stor} {x : Nat} {t : ByteArray} (h : Rm D) : Rm (putS D S x t).1 := by
  unfold putS
  by_cases h1 : (D.act 2 x 0 ⟨#[]⟩).2 = 0
  · rw [andS_ok h1]
    have b1 := h.act (kind := 2) (by decide) (x : Int) 0 ⟨#[]⟩
    by_cases h2 : ((D.act 2 x 0 ⟨#[]⟩).1.act 0 x 0 t).2 = 0
    · rw [andS_ok h2]
      exact rm_syncS (b1.act (kind := 0) (by decide) (x : Int) 0 t)
    · rw [andS_no h2]; exact b1.act (kind := 0) (by decide) (x : Int) 0 t
  · rw [andS_no h1]; exact h.act (kind := 2) (by decide) (x : Int) 0 ⟨#[]⟩
theorem rm_layS {D : Disk} {S : Stor} (h : Rm D) : Rm (layS D S).1 := by
  unfold layS
  split
  · exact rm_putS h
  · have b1 := h.act (kind := 0) (by decide) (S.at_ : Int) 0 (entS S.ent)
    by_cases h1 : (D.act 0 S.at_ 0 (entS S.ent)).2 = 0
    · rw [andS_ok h1]; exact rm_syncS b1
    · rw [andS_no h1]; exact b1
theorem rm_turnS {D : Disk} {S : Stor} (h : Rm D) : Rm (turnS D S).1 := by
  unfold turnS
  split
  · exact h
  · have b1 := rm_putS (S := S) (x := S.free) (t := headS S.segs.length S.recs.length) h
    by_cases h1 : (putS D S S.free (headS S.segs.length S.recs.length)).2.2 = 0
    · rw [thenS_ok h1]; exact rm_layS b1
    · rw [thenS_no h1]; exact b1
theorem rm_appendS {D : Disk} {S : Stor} {r : ByteArray} (h : Rm D) : Rm (appendS D S r).1 := by
  have ha : Rm (aheadS D S r).1 := by
    unfold aheadS
    split
    · exact rm_turnS h
    · exact h
  by_cases h0 : r.size = 0
  · rw [show appendS D S r = (D, S, 0, 1) from if_pos h0]; exact h
  by_cases h1 : 900 < r.size
  · rw [show appendS D S r = (D, S, 0, 2) from (if_neg h0).trans (if_pos h1)]; exact h
  by_cases h2 : fellS D S = true
  · rw [appendS_fell h0 h1 h2]; exact h
  rw [appendS_main h0 h1 (by simpa using h2)]
  unfold behindS
  split
  · exact ha
  split
  · exact ha.act (kind := 0) (by decide) _ _ _
  · exact ha.act (kind := 0) (by decide) _ _ _
theorem rm_trims : ∀ (T : List (Nat × Nat)) (D : Disk), Rm D → Rm (trimsS D T).1
  | [], _, h => h
  | (x, m) :: T, D, h => by
    rw [trimsS_cons]
    split
    · exact rm_trims T _ (h.act (by decide) _ _ _)
    · exact h.act (by decide) _ _ _
theorem rm_openS {D : Disk} {S : Stor} {T : List (Nat × Nat)} (h : Rm D) : Rm (openS D S T).1 := by
  unfold openS
  have h1 := rm_trims T D h
  by_cases e : (trimsS D T).2 = 0
  · rw [andS_ok e]
    unfold beginS
    split
    · exact rm_turnS h1
    · exact rm_syncS h1
  · rw [andS_no e]; exact h1
/-- How many records there may be. -/
theorem Live.few {n N : Nat} {D : Disk} {S : Stor} (h : Live n N D S) (hr : Rm D) (h1 : D.room ≤ 1024) (hn : n ≤ 10) : S.recs.length ≤ 900 := by
  obtain ⟨Ls, c, l, hi, hf, -⟩ := h.img
  have h2 := flat_few l 112 fun s hs => by
    obtain ⟨i, hi2⟩ := List.mem_iff_getElem?.1 hs
    obtain ⟨x, rs⟩ := s
    have h2 := (hi.segs i x rs hi2).wh.scan.le
    have h3 : (exAt D.now x).data.toList.length = (exAt D.now x).size := rfl
    have h4 := hr.2 x
    simp at h2
    show rs.length ≤ 112
    omega
  have h3 := hi.num
  have : l.length * 112 ≤ 8 * 112 := Nat.mul_le_mul_right _ (by omega)
  rw [hf.recs]; omega
end Sg
end Go.Proofs.YtdmbombjkinboaaGreat
