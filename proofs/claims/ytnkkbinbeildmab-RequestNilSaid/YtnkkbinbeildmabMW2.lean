/- Merged by program: The reference of words: letter, Norm, Put, Of, Tag, Tags (lockboxref15). | The reference's Norm (lockboxref15). | The reference's Put (lockboxref15). -/
import Derived.Test.YtnkkbinbeildmabMW1
import Derived.Test.YtnkkbinbeildmabMB
import Derived.Test.YtnkkbinbeildmabOwnT
namespace Go.Proofs.Ytnkkbinbeildmab
open Go.RowKit

theorem let1_nat (c : UInt8) : Wd.let1 c = if 65 ≤ c.toNat ∧ c.toNat ≤ 90 then c + 32 else if (97 ≤ c.toNat ∧ c.toNat ≤ 122) ∨ (48 ≤ c.toNat ∧ c.toNat ≤ 57) then c else 0 := by
  unfold Wd.let1
  simp only [UInt8.le_iff_toNat_le]
  rfl
theorem let1_up {c : UInt8} (h1 : 65 ≤ c.toNat) (h2 : c.toNat ≤ 90) : (Wd.let1 c).toNat = c.toNat + 32 := by
  rw [let1_nat, if_pos ⟨h1, h2⟩, UInt8.toNat_add]
  show (c.toNat + 32) % 256 = _
  omega
theorem let1_low {c : UInt8} (h : (97 ≤ c.toNat ∧ c.toNat ≤ 122) ∨ (48 ≤ c.toNat ∧ c.toNat ≤ 57)) : Wd.let1 c = c := by
  rw [let1_nat, if_neg (by omega), if_pos h]
theorem let1_no {c : UInt8} (h1 : ¬ (65 ≤ c.toNat ∧ c.toNat ≤ 90)) (h2 : ¬ ((97 ≤ c.toNat ∧ c.toNat ≤ 122) ∨ (48 ≤ c.toNat ∧ c.toNat ≤ 57))) : Wd.let1 c = 0 := by
  rw [let1_nat, if_neg h1, if_neg h2]
end Go.Proofs.Ytnkkbinbeildmab
namespace Go.Proofs.Ytnkkbinbeildmab
open Go.RowKit

/-- What Norm answers, as values. -/
def normR (s : ByteArray) : Value := match Wd.norm s.data.toList with
  | .ok x => .tuple #[.string (str x), .int .i64 0]
  | .error e => .tuple #[.string ⟨#[]⟩, .int .i64 e]
/-- The first k bytes as letters. -/
def lets (s : ByteArray) (k : Nat) : List UInt8 := (s.data.toList.take k).map Wd.let1
theorem lets_length {s : ByteArray} {k : Nat} (h : k ≤ s.size) : (lets s k).length = k := by
  unfold lets
  rw [List.length_map, List.length_take]
  have : s.data.toList.length = s.size := rfl
  omega
theorem lets_snoc {s : ByteArray} {k : Nat} (h : k < s.size) : lets s (k + 1) = lets s k ++ [Wd.let1 s[k]] := by
  have hk : k < s.data.toList.length := h
  unfold lets
  rw [List.take_add_one, List.getElem?_eq_getElem hk, List.map_append]
  rfl
theorem lets_all (s : ByteArray) : lets s s.size = s.data.toList.map Wd.let1 := by
  unfold lets
  rw [List.take_of_length_le (show s.data.toList.length ≤ s.size from Nat.le_refl _)]
theorem norm_bad {s : ByteArray} {k : Nat} (h : k < s.size) (hz : Wd.let1 s[k] = 0) : normR s = .tuple #[.string ⟨#[]⟩, .int .i64 3] := by
  have : Wd.norm s.data.toList = .error 3 := by
    unfold Wd.norm
    rw [if_pos]
    rw [List.any_eq_true]
    exact ⟨s[k], List.getElem_mem (l := s.data.toList) h, by simp [hz]⟩
  unfold normR
  rw [this]
theorem norm_any {s : ByteArray} (h : ∀ k (hk : k < s.size), Wd.let1 s[k] ≠ 0) : Wd.norm s.data.toList = if s.size = 0 then .error 3 else if 24 < s.size then .error 2 else .ok (s.data.toList.map Wd.let1) := by
  unfold Wd.norm
  have hl : s.data.toList.length = s.size := rfl
  rw [if_neg]
  · by_cases e : s.size = 0
    · rw [if_pos (List.length_eq_zero_iff.1 (hl.trans e)), if_pos e]
    · rw [if_neg (fun e2 => e (by rw [← hl, e2]; rfl)), if_neg e, hl]
  · rw [List.any_eq_true]
    rintro ⟨c, hc, e⟩
    obtain ⟨k, hk, rfl⟩ := List.getElem_of_mem hc
    have e' : Wd.let1 s.data.toList[k] = 0 := by simpa using e
    exact h k hk e'
end Go.Proofs.Ytnkkbinbeildmab
namespace Go.Proofs.Ytnkkbinbeildmab
open Go.RowKit

/-- What still has to come behind what stands: the flag says whether the text is in already. -/
def tailP (f : Bool) (s : ByteArray) (r : List ByteArray) : List ByteArray := if f = true then r else Wd.put r s
theorem tail_cons {l : List ByteArray} {k : Nat} (h : k < l.length) : l.drop k = l.getD k ByteArray.empty :: l.drop (k + 1) := by
  rw [List.drop_eq_getElem_cons h, List.getD_eq_getElem?_getD, List.getElem?_eq_getElem h]; rfl
theorem tail_in (x s : ByteArray) (r : List ByteArray) : tailP true s (x :: r) = x :: tailP true s r := rfl
theorem tail_is (s : ByteArray) (f : Bool) (r : List ByteArray) : tailP f s (s :: r) = s :: tailP true s r := by
  unfold tailP
  cases f
  · simp [Wd.put]
  · simp
theorem tail_more {x s : ByteArray} (h : x ≠ s) (h2 : Wd.less s x = true) (r : List ByteArray) : tailP false s (x :: r) = s :: x :: tailP true s r := by
  simp [tailP, Wd.put, h, h2]
theorem tail_less {x s : ByteArray} (h : x ≠ s) (h2 : Wd.less s x = false) (r : List ByteArray) : tailP false s (x :: r) = x :: tailP false s r := by
  simp [tailP, Wd.put, h, h2]
theorem list_ne {x s : ByteArray} (h : x ≠ s) : (x.toList == s.toList) = false := by
  cases e : x.toList == s.toList with
  | false => rfl
  | true => exact absurd (Wd.toList_eq (by simpa using e)) h
theorem TextsAt.cell {w w' : World} {b off : Nat} {l : List ByteArray} (h : TextsAt w (some ⟨b, off, none⟩) l) (hb : Below w.heap.size w w') (k : Nat) (hk : k < l.length) : w'.cell? ⟨b, off + k, none⟩ = some (.string (l.getD k ByteArray.empty)) := by
  obtain ⟨b', off', e, -, hc⟩ := h.below hb k hk
  injection e with e
  injection e with e1 e2
  subst e1 e2
  exact hc
end Go.Proofs.Ytnkkbinbeildmab
