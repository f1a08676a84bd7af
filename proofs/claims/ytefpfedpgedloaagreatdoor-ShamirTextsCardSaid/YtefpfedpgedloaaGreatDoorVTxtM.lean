/- Plain mathematics of a share's bytes: what is written is read as it was, by canon and by the reference. No walk. -/
import Derived.Test.YtefpfedpgedloaaGreatDoorMV1
import Derived.Test.YtefpfedpgedloaaGreatDoorCRDec
import Derived.Test.YtefpfedpgedloaaGreatDoorCShape
import Derived.Test.YtefpfedpgedloaaGreatDoorCFront
import Derived.Test.YtefpfedpgedloaaGreatDoorCRDe
namespace Go.Proofs.YtefpfedpgedloaaGreatDoor
open Go.RowKit
open Cn

/-- A share as an item; its bytes. -/
def shT (s : Shr) : Pt := .mk 3 0 ⟨#[]⟩ [.mk 1 s.x ⟨#[]⟩ [], .mk 1 s.need ⟨#[]⟩ [], .mk 2 0 s.y []]
def txtS (s : Shr) : ByteArray := if okS s = true then ⟨(Cn.bytes (shT s)).toArray⟩ else ⟨#[]⟩
def nnt : List UInt8 := [110, 110, 116]
theorem num_small {n : Int} (h0 : 0 ≤ n) (h : n ≤ 255) : (num n.toNat).length ≤ 2 := by
  rw [num_length]
  have := width_le (n := n.toNat) (k := 1) (by omega) (by decide)
  omega
theorem shT_may {s : Shr} (h : okS s = true) : may (shT s) 6 = true := by
  have h1 := okS_iff.1 h
  have hz : (ByteArray.mk #[]).size = 0 := rfl
  unfold shT
  simp [may, mayAll, hz]
  omega
theorem shT_len {s : Shr} (h : okS s = true) : (Cn.bytes (shT s)).length ≤ 1000 := by
  have h1 := okS_iff.1 h
  have a1 := num_small (n := s.x) (by omega) (by omega)
  have a2 := num_small (n := s.need) (by omega) (by omega)
  have a3 := num_small (n := (s.y.size : Int)) (by omega) (by omega)
  rw [Int.toNat_natCast] at a3
  have a4 := num_small (n := 3) (by decide) (by decide)
  have hl : s.y.data.toList.length = s.y.size := by simp
  unfold shT
  rw [bytes_list, bytesAll, bytesAll, bytesAll, bytesAll, bytes_num, bytes_num, bytes_text]
  simp only [List.length_cons, List.length_append, List.length_nil, hl]
  have a4' : (num (0 + 1 + 1 + 1)).length ≤ 2 := a4
  omega
theorem shT_pos (s : Shr) : Cn.bytes (shT s) ≠ [] := fun e => by
  have := bytes_pos (shT s)
  rw [e] at this
  simp at this
theorem txtS_empty {s : Shr} : (txtS s).size = 0 ↔ okS s = false := by
  unfold txtS
  cases h : okS s with
  | false => rw [if_neg (by decide)]; simp; rfl
  | true =>
    rw [if_pos rfl, size_toArray]
    constructor
    · intro e; exact absurd (List.length_eq_zero_iff.1 e) (shT_pos s)
    · intro e; cases e
/-- The share that an item says. -/
def shOf : Pt → Shr
  | .mk _ _ _ [.mk _ x _ _, .mk _ n _ _, .mk _ _ y _] => ⟨x, n, y⟩
  | _ => ⟨0, 0, ⟨#[]⟩⟩
def rdE : Except Int Pt → Shr × Int
  | .error _ => (⟨0, 0, ⟨#[]⟩⟩, 3)
  | .ok x => if shapeP x nnt = true ∧ okS (shOf x) = true then (shOf x, 0) else (⟨0, 0, ⟨#[]⟩⟩, 3)
/-- The share of bytes, and the error. -/
def rdS (t : ByteArray) : Shr × Int := rdE (decR t.data.toList)
theorem rdS_ref (t : ByteArray) : rdE (rdecR t.data.toList) = rdS t := by
  unfold rdS
  cases h : decR t.data.toList with
  | error e =>
    cases h2 : rdecR t.data.toList with
    | error e2 => rfl
    | ok x =>
      exfalso
      unfold rdecR at h2
      split at h2
      · cases h2
      · rename_i x2 q r hr
        rw [ritem_item] at hr
        unfold decR at h
        rw [hr] at h
        simp only at h
        split at h2
        · rename_i h3
          rw [if_pos h3] at h
          cases h
        · cases h2
  | ok x =>
    unfold decR at h
    split at h
    · cases h
    · rename_i x2 q r hr
      rw [← ritem_item] at hr
      split at h
      · rename_i h3
        injection h with h
        subst h
        unfold rdecR
        rw [hr]
        simp only
        rw [if_pos h3]
      · cases h
theorem shape_may {x : Pt} (hs : shapeP x nnt = true) (hm : may x 6 = true) : x = shT (shOf x) := by
  rcases may_cases hm with ⟨n, rfl, -, -⟩ | ⟨s, rfl, -⟩ | ⟨l, rfl, -, -, hl⟩
  · simp [shapeP] at hs
  · simp [shapeP] at hs
  · unfold shapeP nnt at hs
    match l, hs, hl with
    | [], hs, _ => simp [fitAll] at hs
    | [a], hs, _ => simp [fitAll] at hs
    | [a, b], hs, _ => simp [fitAll] at hs
    | a :: b :: c :: d :: e, hs, _ => simp [fitAll] at hs
    | [a, b, c], hs, hl =>
      simp only [mayAll, Bool.and_eq_true] at hl
      obtain ⟨ma, mb, mc, -⟩ := hl
      obtain ⟨ka, na, sa, la⟩ := a
      obtain ⟨kb, nb, sb, lb⟩ := b
      obtain ⟨kc, nc, sc, lc⟩ := c
      simp [fitAll, fitP] at hs
      obtain ⟨rfl, rfl, rfl⟩ := hs
      rcases may_cases ma with ⟨n, e, -, -⟩ | ⟨s, e, -⟩ | ⟨l, e, -, -, -⟩
      · injection e with e1 e2 e3 e4
        subst e2 e3 e4
        rcases may_cases mb with ⟨n2, e, -, -⟩ | ⟨s, e, -⟩ | ⟨l, e, -, -, -⟩
        · injection e with e1 e2 e3 e4
          subst e2 e3 e4
          rcases may_cases mc with ⟨n3, e, -, -⟩ | ⟨s, e, -⟩ | ⟨l, e, -, -, -⟩
          · injection e with e1; exact absurd e1 (by decide)
          · injection e with e1 e2 e3 e4
            subst e2 e3 e4
            rfl
          · injection e with e1; exact absurd e1 (by decide)
        · injection e with e1; exact absurd e1 (by decide)
        · injection e with e1; exact absurd e1 (by decide)
      · injection e with e1; exact absurd e1 (by decide)
      · injection e with e1; exact absurd e1 (by decide)
/-- What is written is read as it was. -/
theorem rdS_txt {s : Shr} (h : okS s = true) : rdS (txtS s) = (s, 0) := by
  have hl := shT_len h
  have hi := item_bytes 6 (shT s) 0 0 [] (shT_may h) (by omega)
  rw [List.append_nil] at hi
  unfold rdS txtS
  rw [if_pos h]
  have hd : decR (ByteArray.mk (Cn.bytes (shT s)).toArray).data.toList = .ok (shT s) := by
    unfold decR
    rw [show (ByteArray.mk (Cn.bytes (shT s)).toArray).data.toList = Cn.bytes (shT s) from by simp]
    rw [hi]
    simp
  rw [hd]
  unfold rdE
  simp only
  have e1 : shOf (shT s) = s := rfl
  rw [e1, if_pos ⟨by unfold shT; simp [shapeP, nnt, fitAll, fitP], h⟩]
/-- What is read, written again, are the bytes. -/
theorem txt_rdS {t : ByteArray} (h : (rdS t).2 = 0) : txtS (rdS t).1 = t := by
  unfold rdS at h ⊢
  cases hd : decR t.data.toList with
  | error e => rw [hd] at h; exact absurd (show (3 : Int) = 0 from h) (by decide)
  | ok x =>
    rw [hd] at h
    unfold rdE at h ⊢
    simp only at h ⊢
    by_cases hc : shapeP x nnt = true ∧ okS (shOf x) = true
    · rw [if_pos hc]
      simp only
      unfold decR at hd
      split at hd
      · cases hd
      · rename_i x2 q r hr
        split at hd
        · rename_i h3
          injection hd with hd
          subst hd
          obtain ⟨e1, e2, e3, e4⟩ := item_ok _ _ _ _ _ _ _ hr
          unfold txtS
          rw [if_pos hc.2, ← shape_may hc.1 e2]
          apply Go.WideShapes.bytes_inj
          rw [h3, List.append_nil] at e1
          rw [e1]
        · cases hd
    · rw [if_neg hc] at h; exact absurd (show (3 : Int) = 0 from h) (by decide)
end Go.Proofs.YtefpfedpgedloaaGreatDoor
