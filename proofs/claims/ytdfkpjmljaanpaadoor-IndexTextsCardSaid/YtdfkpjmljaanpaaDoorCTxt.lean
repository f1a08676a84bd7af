/- What is written is decoded as it was; what is decoded, written, are the bytes: by canon and by the reference. No walk. -/
import Derived.Test.YtdfkpjmljaanpaaDoorCRDec
import Derived.Test.YtdfkpjmljaanpaaDoorMC5
namespace Go.Proofs.YtdfkpjmljaanpaaDoor
open Go.RowKit
open Cn

theorem decR_bytes {p : Pt} (h : may p 6 = true) (hl : (Cn.bytes p).length ≤ 65536) : decR (Cn.bytes p) = .ok p := by
  have hi := item_bytes 6 p 0 0 [] h (by omega)
  rw [List.append_nil] at hi
  unfold decR
  rw [hi]
  simp
theorem decR_ok {l : List UInt8} {x : Pt} (h : decR l = .ok x) : Cn.bytes x = l ∧ may x 6 = true ∧ l.length ≤ 65536 := by
  unfold decR at h
  split at h
  · cases h
  · rename_i x2 q r hr
    split at h
    · rename_i h3
      injection h with h; subst h
      obtain ⟨e1, e2, e3, e4⟩ := item_ok _ _ _ _ _ _ _ hr
      rw [h3, List.append_nil] at e1
      refine ⟨e1.symm, e2, ?_⟩
      rw [e1]; omega
    · cases h
theorem rdecR_of {l : List UInt8} {x : Pt} (h : decR l = .ok x) : rdecR l = .ok x := by
  unfold decR at h
  split at h
  · cases h
  · rename_i x2 q r hr
    rw [← ritem_item] at hr
    split at h
    · rename_i h3
      injection h with h
      subst h
      unfold rdecR
      rw [hr]
      simp only
      rw [if_pos h3]
    · cases h
theorem decR_of {l : List UInt8} {x : Pt} (h : rdecR l = .ok x) : decR l = .ok x := by
  unfold rdecR at h
  split at h
  · cases h
  · rename_i x2 q r hr
    rw [ritem_item] at hr
    split at h
    · rename_i h3
      injection h with h
      subst h
      unfold decR
      rw [hr]
      simp only
      rw [if_pos h3]
    · cases h
/-- What hangs on the item alone, or that there is none, is the same for both. -/
theorem rdecR_same {α : Type} (f : Except Int Pt → α) (hf : ∀ a b, f (.error a) = f (.error b)) (l : List UInt8) : f (rdecR l) = f (decR l) := by
  cases h : decR l with
  | ok x => rw [rdecR_of h]
  | error e =>
    cases h2 : rdecR l with
    | error e2 => exact hf _ _
    | ok x => rw [decR_of h2] at h; cases h
end Go.Proofs.YtdfkpjmljaanpaaDoor
