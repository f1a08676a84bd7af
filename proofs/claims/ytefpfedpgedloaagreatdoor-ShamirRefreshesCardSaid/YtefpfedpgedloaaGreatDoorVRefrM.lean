/- Plain mathematics of refreshing: shares of nothing are added up. No walk. -/
import Derived.Test.YtefpfedpgedloaaGreatDoorMV1
namespace Go.Proofs.YtefpfedpgedloaaGreatDoor
open Go.RowKit
open Gf

/-- So many bytes 0. -/
def zS (m : Nat) : ByteArray := str (List.replicate m 0)
theorem zS_size (m : Nat) : (zS m).size = m := by unfold zS; rw [str_size, List.length_replicate]
theorem co_zS (m i : Nat) : co (zS m).data.toList i = 0 := by
  unfold zS co; rw [str_data, List.getD_eq_getElem?_getD, List.getElem?_replicate]; split <;> rfl
/-- Two texts added up byte by byte, as long as the first. -/
def xorY (a b : ByteArray) : ByteArray := str ((List.range a.size).map fun i => co a.data.toList i ^^^ co b.data.toList i)
theorem xorY_size (a b : ByteArray) : (xorY a b).size = a.size := by unfold xorY; rw [str_size]; simp
theorem co_xorY {a b : ByteArray} {i : Nat} (h : i < a.size) : co (xorY a b).data.toList i = co a.data.toList i ^^^ co b.data.toList i := by
  unfold xorY; rw [str_data, co_range _ _ _ h]
/-- A refreshed share. -/
def rf (need : Int) (m : Nat) (d : ByteArray) (s : Shr) : Shr := ⟨s.x, need, xorY (shY (zS m) d (need.toNat - 1) (bx s.x)) s.y⟩
def rfr (need : Int) (m : Nat) (d : ByteArray) (l : List Shr) : List Shr := l.map (rf need m d)
section
variable {need : Int} {m : Nat} {d : ByteArray} {l : List Shr}
theorem rfr_length : (rfr need m d l).length = l.length := by simp [rfr]
theorem rf_size (s : Shr) : (rf need m d s).y.size = m := by show (xorY _ _).size = m; rw [xorY_size, shY_size, zS_size]
theorem co_rf (s : Shr) {i : Nat} (hi : i < m) : co (rf need m d s).y.data.toList i = val (hideL (zS m) d i (need.toNat - 1)) (bx s.x) ^^^ co s.y.data.toList i := by
  show co (xorY _ _).data.toList i = _
  rw [co_xorY (by rw [shY_size, zS_size]; exact hi), co_shY _ _ _ _ _ (by rw [zS_size]; exact hi)]
theorem rfr_alk (h : Alk need m l) : Alk need m (rfr need m d l) := by
  refine ⟨fun t ht => ?_, fun t ht => ?_, fun t ht => ?_, ?_⟩
  · obtain ⟨s, hs, rfl⟩ := List.mem_map.1 ht
    have h1 := okS_iff.1 (h.ok s hs)
    have h2 := h.size s hs
    have h3 := h.need s hs
    rw [okS_iff, rf_size]
    exact ⟨h1.1, by rw [← h3] at *; exact h1.2.1, by omega, by omega⟩
  · obtain ⟨s, hs, rfl⟩ := List.mem_map.1 ht; rfl
  · obtain ⟨s, hs, rfl⟩ := List.mem_map.1 ht; exact rf_size s
  · have e : (rfr need m d l).map Shr.x = l.map Shr.x := by unfold rfr; rw [List.map_map]; rfl
    rw [e]; exact h.unlike
/-- Twice is as it was. -/
theorem rfr_twice (h : Alk need m l) : rfr need m d (rfr need m d l) = l := by
  unfold rfr
  rw [List.map_map]
  refine (List.map_congr_left (g := id) fun s hs => ?_).trans (List.map_id l)
  show rf need m d (rf need m d s) = s
  have hz := h.size s hs
  have hy : (rf need m d (rf need m d s)).y = s.y := by
    apply ByteArray.ext; apply Array.ext'
    apply List.ext_getElem (by rw [data_len, data_len, rf_size, hz])
    intro i h1 h2
    have hi : i < m := by rw [data_len, hz] at h2; exact h2
    have e := co_rf (need := need) (m := m) (d := d) (rf need m d s) hi
    rw [co_rf s hi, show (rf need m d s).x = s.x from rfl, ← UInt8.xor_assoc, UInt8.xor_self, UInt8.zero_xor] at e
    unfold co at e
    rwa [List.getD_eq_getElem?_getD, List.getD_eq_getElem?_getD, List.getElem?_eq_getElem h1, List.getElem?_eq_getElem h2] at e
  have hn := h.need s hs
  obtain ⟨x, n, y⟩ := s
  show (⟨x, need, (rf need m d (rf need m d ⟨x, n, y⟩)).y⟩ : Shr) = ⟨x, n, y⟩
  rw [hy, ← hn]
/-- What goes through refreshed shares. -/
def addH (need : Int) (m : Nat) (d : ByteArray) (i : Nat) (p : ByteArray) : ByteArray := str (addP p.data.toList (hideL (zS m) d i (need.toNat - 1)))
theorem addH_val (i : Nat) (p : ByteArray) (x : UInt8) : valB (addH need m d i p) x = valB p x ^^^ val (hideL (zS m) d i (need.toNat - 1)) x := by
  show val (str _).data.toList x = _
  rw [str_data, val_addP]; rfl
theorem val_first (c : UInt8) (l : List UInt8) : val (c :: l) 0 = c := by
  show c ^^^ mul 0 _ = c
  rw [zero_mul, UInt8.xor_zero]
theorem addH_val0 (i : Nat) (p : ByteArray) : valB (addH need m d i p) 0 = valB p 0 := by
  rw [addH_val]
  unfold hideL
  rw [val_first, co_zS, UInt8.xor_zero]
theorem rfr_goes {i : Nat} (hi : i < m) (hn : 1 ≤ need) {p : ByteArray} (hp : Goes need.toNat i p l) : Goes need.toNat i (addH need m d i p) (rfr need m d l) := by
  refine ⟨?_, fun t ht => ?_⟩
  · unfold addH
    rw [str_size, addP_length, hideL_length, data_len]
    have := hp.1
    omega
  · obtain ⟨s, hs, rfl⟩ := List.mem_map.1 ht
    rw [co_rf s hi, addH_val, UInt8.xor_comm]
    show _ ^^^ valB p (bx s.x) = _
    rw [hp.2 s hs]; rfl
theorem outc_odd (h : Alk need m l) (hne : l ≠ []) (hN : need ≤ l.length) (g : ¬ ∀ i, i < m → ∃ p, Goes need.toNat i p l) (x : UInt8) : outc l x = (⟨#[]⟩, 12) := by
  have hok : 1 ≤ need ∧ need ≤ 255 := by
    match l, hne with
    | s :: l, _ => have := (okS_iff.1 (h.ok s (by simp))).2.1; rw [h.need s (by simp)] at this; exact this
  unfold outc
  rw [h.alk, if_neg (show ¬ (true = false) by decide), h.need0 hne, h.len0 hne, if_neg (show ¬ (l = [] ∨ (l.length : Int) < need) from fun k => k.elim hne (fun k => by omega)), if_neg (fun k => g ((fits_iff h (by omega) (by omega)).1 k))]
theorem rfr_out (h : Alk need m l) (hne : l ≠ []) (hN : need ≤ l.length) : outc (rfr need m d l) 0 = outc l 0 := by
  have hok : 1 ≤ need ∧ need ≤ 255 := by
    match l, hne with
    | s :: l, _ => have := (okS_iff.1 (h.ok s (by simp))).2.1; rw [h.need s (by simp)] at this; exact this
  have h' := rfr_alk (d := d) h
  have hne' : rfr need m d l ≠ [] := fun e => hne (by have := rfr_length (need := need) (m := m) (d := d) (l := l); rw [e] at this; exact List.length_eq_zero_iff.1 this.symm)
  have hN' : need ≤ (rfr need m d l).length := by rw [rfr_length]; exact hN
  by_cases g : ∀ i, i < m → ∃ p, Goes need.toNat i p l
  · have e1 := outc_goes h hne hN g 0 (fun i => valB (pol i (l.take need.toNat)) 0) (fun i _ p hp => (pol_val h (by omega) (by omega) hp 0).symm)
    have e2 := outc_goes h' hne' hN' (fun i hi => by obtain ⟨p, hp⟩ := g i hi; exact ⟨_, rfr_goes hi hok.1 hp⟩) 0 (fun i => valB (pol i (l.take need.toNat)) 0) (fun i hi p hp => by
      have hq := rfr_goes (d := d) hi hok.1 hp
      rw [rfr_twice h] at hq
      rw [← addH_val0 (need := need) (m := m) (d := d) i p]
      exact (pol_val h (by omega) (by omega) hq 0).symm)
    rw [e1, e2]
  · rw [outc_odd h hne hN g, outc_odd h' hne' hN' (fun g' => g fun i hi => by
      obtain ⟨p, hp⟩ := g' i hi
      have hq := rfr_goes (d := d) hi hok.1 hp
      rw [rfr_twice h] at hq
      exact ⟨_, hq⟩)]
end
end Go.Proofs.YtefpfedpgedloaaGreatDoor
