/- Plain mathematics: any so many shares as are needed tell every other one. No walk. -/
import Derived.Test.YtefpfedpgedloaaDoorVMath
namespace Go.Proofs.YtefpfedpgedloaaDoor
open Go.RowKit
open Gf

theorem val_at0 (c : UInt8) (l : List UInt8) : val (c :: l) 0 = c := by
  show c ^^^ mul 0 _ = c
  rw [zero_mul, UInt8.xor_zero]
/-- At 0 lies the secret. -/
theorem shY_zero (s d : ByteArray) (q : Nat) : shY s d q 0 = s := by
  have e : ((List.range s.size).map fun i => val (hideL s d i q) 0) = s.data.toList := by
    apply List.ext_getElem?
    intro i
    by_cases hi : i < s.size
    · rw [List.getElem?_map, List.getElem?_range hi]
      show some (val (co s.data.toList i :: _) 0) = _
      rw [val_at0]
      unfold co
      rw [List.getD_eq_getElem?_getD, List.getElem?_eq_getElem (by rw [data_len]; exact hi)]; rfl
    · rw [List.getElem?_eq_none (by simp; omega), List.getElem?_eq_none (by rw [data_len]; omega)]
  unfold shY
  rw [e]
  exact str_of s
theorem any_out {s d : ByteArray} {need : Int} {N : Nat} {c : List Shr} (h : mayP s d need N = true) (hc : c.Sublist (splt s d need N)) (hn : need ≤ c.length) (x : UInt8) : outc c x = (shY s d (need.toNat - 1) x, 0) := by
  have hpm := mayP_iff.1 h
  have hA := (splt_alk h).sub hc
  have hne : c ≠ [] := fun e => by subst e; have := hpm.2.1; simp at hn; omega
  have hlen : c.length ≤ N := by have := hc.length_le; rwa [splt_length] at this
  have hg : ∀ i, i < s.size → Goes need.toNat i (str (hideL s d i (need.toNat - 1))) c := fun i hi => (splt_goes (n := N) hpm.2.1 hi).sub fun u hu => hc.subset hu
  rw [outc_goes hA hne hn (fun i hi => ⟨_, hg i hi⟩) x (fun i => val (hideL s d i (need.toNat - 1)) x) (fun i hi p hp => by
    rw [goes_one hA.bys (by omega) hp (hg i hi) x]
    show val (str _).data.toList x = _
    rw [str_data])]
  rfl
theorem any_few {s d : ByteArray} {need : Int} {N : Nat} {c : List Shr} (h : mayP s d need N = true) (hc : c.Sublist (splt s d need N)) (hn : (c.length : Int) < need) (x : UInt8) : outc c x = (⟨#[]⟩, 4) := by
  have hA := (splt_alk h).sub hc
  unfold outc
  rw [hA.alk, if_neg (show ¬ (true = false) by decide)]
  by_cases e : c = []
  · rw [if_pos (.inl e)]
  · rw [hA.need0 e, if_pos (.inr hn)]
end Go.Proofs.YtefpfedpgedloaaDoor
