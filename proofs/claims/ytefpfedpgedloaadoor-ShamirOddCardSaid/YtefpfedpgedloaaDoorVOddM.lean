/- Plain mathematics of a share that was turned: more than are needed do not fit, and just as many make another secret. No walk. -/
import Derived.Test.YtefpfedpgedloaaDoorVMath
namespace Go.Proofs.YtefpfedpgedloaaDoor
open Go.RowKit
open Gf

/-- A text with a byte turned. -/
def turnY (y : ByteArray) (i : Nat) (z : UInt8) : ByteArray := str (y.data.toList.set i (co y.data.toList i ^^^ z))
theorem turnY_size (y : ByteArray) (i : Nat) (z : UInt8) : (turnY y i z).size = y.size := by unfold turnY; rw [str_size, List.length_set]; exact data_len y
theorem co_turnY {y : ByteArray} {i : Nat} {z : UInt8} (h : i < y.size) : co (turnY y i z).data.toList i = co y.data.toList i ^^^ z := by
  unfold turnY; rw [str_data]
  conv => lhs; unfold co
  rw [List.getD_eq_getElem?_getD, List.getElem?_set_self (by rw [data_len]; exact h)]; rfl
def turnS (t : Shr) (i : Nat) (z : UInt8) : Shr := ⟨t.x, t.need, turnY t.y i z⟩
theorem xor_ne {a z : UInt8} (h : z ≠ 0) : a ^^^ z ≠ a := fun e => h (by
  have : a ^^^ (a ^^^ z) = a ^^^ a := by rw [e]
  rwa [← UInt8.xor_assoc, UInt8.xor_self, UInt8.zero_xor] at this)
theorem turned_alk {n : Int} {m : Nat} {l : List Shr} (h : Alk n m l) {k : Nat} {t : Shr} (ht : l[k]? = some t) (i : Nat) (z : UInt8) : Alk n m (l.set k (turnS t i z)) := by
  have hm : t ∈ l := List.mem_of_getElem? ht
  have hx : (l.set k (turnS t i z)).map Shr.x = l.map Shr.x := by
    apply List.ext_getElem?
    intro j
    rw [List.getElem?_map, List.getElem?_map]
    by_cases e : k = j
    · subst e
      rw [List.getElem?_set_self (List.getElem?_eq_some_iff.1 ht).1, ht]; rfl
    · rw [List.getElem?_set_ne e]
  refine ⟨fun s hs => ?_, fun s hs => ?_, fun s hs => ?_, by rw [hx]; exact h.unlike⟩
  all_goals rcases List.mem_or_eq_of_mem_set hs with hs | rfl
  · exact h.ok s hs
  · have := okS_iff.1 (h.ok t hm)
    rw [okS_iff]
    refine ⟨this.1, this.2.1, ?_⟩
    show 1 ≤ (turnY _ _ _).size ∧ (turnY _ _ _).size ≤ 64
    rw [turnY_size]; exact this.2.2
  · exact h.need s hs
  · exact h.need t hm
  · exact h.size s hs
  · show (turnY _ _ _).size = m
    rw [turnY_size]; exact h.size t hm
/-- All but the turned one. -/
theorem rest_mem {l : List Shr} {k : Nat} {u s : Shr} (h : s ∈ l.eraseIdx k) : s ∈ l ∧ s ∈ l.set k u := by
  obtain ⟨j, hj, e⟩ := List.mem_eraseIdx_iff_getElem?.1 h
  refine ⟨List.mem_of_getElem? e, List.mem_of_getElem? (i := j) ?_⟩
  rw [List.getElem?_set_ne (Ne.symm hj)]; exact e
theorem val_zero0 (c : UInt8) (l : List UInt8) : val (c :: l) 0 = c := by
  show c ^^^ mul 0 _ = c
  rw [zero_mul, UInt8.xor_zero]
section
variable {s d : ByteArray} {need : Int} {N k i : Nat} {t : Shr} {z : UInt8}
/-- Through the turned shares no polynomial goes that meets the old one everywhere. -/
theorem turned_off (h : mayP s d need N = true) (ht : (splt s d need N)[k]? = some t) (hi : i < s.size) (hz : z ≠ 0) {p : ByteArray}
    (hp : Goes need.toNat i p ((splt s d need N).set k (turnS t i z))) : ¬ ∀ x, valB p x = valB (str (hideL s d i (need.toNat - 1))) x := fun e => by
  have hm : t ∈ splt s d need N := List.mem_of_getElem? ht
  have hpm := mayP_iff.1 h
  have g := (splt_goes (s := s) (d := d) (n := N) hpm.2.1 hi).2 t hm
  have q := hp.2 (turnS t i z) (List.mem_of_getElem? (i := k) (by rw [List.getElem?_set_self (List.getElem?_eq_some_iff.1 ht).1]))
  have hts : t.y.size = s.size := (splt_alk h).size t hm
  rw [show (turnS t i z).y = turnY t.y i z from rfl, show (turnS t i z).x = t.x from rfl, co_turnY (by omega), e, g] at q
  exact xor_ne hz q.symm
theorem odd_more (h : mayP s d need N = true) (ht : (splt s d need N)[k]? = some t) (hi : i < s.size) (hz : z ≠ 0) (hN : need < N) : outc ((splt s d need N).set k (turnS t i z)) 0 = (⟨#[]⟩, 12) := by
  have hpm := mayP_iff.1 h
  have hA := splt_alk h
  have hB := turned_alk hA ht i z
  have hk : k < N := by have := (List.getElem?_eq_some_iff.1 ht).1; rwa [splt_length] at this
  have hlen : ((splt s d need N).set k (turnS t i z)).length = N := by rw [List.length_set, splt_length]
  have hne : (splt s d need N).set k (turnS t i z) ≠ [] := fun e => by rw [e] at hlen; simp at hlen; omega
  have hne' : ¬ fits need.toNat s.size ((splt s d need N).set k (turnS t i z)) = true := fun hf => by
    obtain ⟨p, hp⟩ := (fits_iff hB (by omega) (by omega)).1 hf i hi
    refine turned_off h ht hi hz hp (fun x => ?_)
    refine goes_one (d := (splt s d need N).eraseIdx k) (N := need.toNat) (i := i) (hA.sub (List.eraseIdx_sublist _ _)).bys ?_ (hp.sub fun u hu => (rest_mem hu).2) ((splt_goes hpm.2.1 hi).sub fun u hu => (rest_mem (u := t) hu).1) x
    rw [List.length_eraseIdx, splt_length, if_pos hk]; omega
  unfold outc
  rw [hB.alk, if_neg (show ¬ (true = false) by decide), hB.need0 hne, hB.len0 hne, hlen, if_neg (show ¬ (_ ∨ (N : Int) < need) from fun e => e.elim hne (fun e => by omega)), if_neg hne']
theorem odd_just (h : mayP s d need N = true) (ht : (splt s d need N)[k]? = some t) (hi : i < s.size) (hz : z ≠ 0) (hN : ¬ need < N) :
    ∃ r, outc ((splt s d need N).set k (turnS t i z)) 0 = (r, 0) ∧ r.size = s.size ∧ r ≠ s := by
  have hpm := mayP_iff.1 h
  have hA := splt_alk h
  have hB := turned_alk hA ht i z
  have hk : k < N := by have := (List.getElem?_eq_some_iff.1 ht).1; rwa [splt_length] at this
  obtain ⟨L, hL⟩ : ∃ L, L = (splt s d need N).set k (turnS t i z) := ⟨_, rfl⟩
  have hlen : L.length = N := by rw [hL, List.length_set, splt_length]
  have hoff := fun (p : ByteArray) (hp : Goes need.toNat i p L) => turned_off h ht hi hz (p := p) (hL ▸ hp)
  have hrest : ∀ u ∈ (splt s d need N).eraseIdx k, u ∈ L := fun u hu => hL ▸ (rest_mem hu).2
  rw [← hL] at hB ⊢
  have hne : L ≠ [] := fun e => by rw [e] at hlen; simp at hlen; omega
  have hnN : need.toNat = N := by omega
  have hg : ∀ j, Goes need.toNat j (pol j L) L := fun j => by
    have := pol_goes hB.bys (by omega) j
    rw [hlen] at this
    rw [hnN]; exact this
  refine ⟨_, outc_goes hB hne (by omega) (fun j _ => ⟨_, hg j⟩) 0 (fun j => valB (pol j L) 0) (fun j hj p hp => goes_one hB.bys (by omega) hp (hg j) 0), by rw [str_size]; simp, fun e => ?_⟩
  have e1 : valB (pol i L) 0 = co s.data.toList i := by
    rw [← e, str_data, co_range _ _ _ hi]
  refine hoff _ (hg i) (fun x => ?_)
  have hz0 : ∀ u ∈ (splt s d need N).eraseIdx k, u.x ≠ 0 := fun u hu => by
    have := (okS_iff.1 (hA.ok u (rest_mem (u := t) hu).1)).1; omega
  have hq := splt_goes (s := s) (d := d) (n := N) hpm.2.1 hi
  have hnd : (((⟨0, need, s⟩ : Shr) :: (splt s d need N).eraseIdx k).map Shr.x).Nodup := by
    rw [List.map_cons, List.nodup_cons]
    refine ⟨fun hm => ?_, (hA.sub (List.eraseIdx_sublist _ _)).unlike⟩
    obtain ⟨u, hu, e⟩ := List.mem_map.1 hm
    exact hz0 u hu e
  refine goes_one (d := (⟨0, need, s⟩ : Shr) :: (splt s d need N).eraseIdx k) (N := need.toNat) (i := i) (bys_nodup (fun u hu => ?_) hnd) ?_ ⟨(hg i).1, fun u hu => ?_⟩ ⟨hq.1, fun u hu => ?_⟩ x
  · rcases List.mem_cons.1 hu with rfl | hu
    · exact ⟨Int.le_refl _, by show (0 : Int) ≤ 255; decide⟩
    · have := (okS_iff.1 (hA.ok u (rest_mem (u := t) hu).1)).1; omega
  · rw [List.length_cons, List.length_eraseIdx, splt_length, if_pos hk]; omega
  · rcases List.mem_cons.1 hu with rfl | hu
    · exact e1
    · exact (hg i).2 u (hrest u hu)
  · rcases List.mem_cons.1 hu with rfl | hu
    · show val (str (hideL s d i _)).data.toList 0 = _
      rw [str_data]; exact val_zero0 _ _
    · exact hq.2 u (rest_mem (u := t) hu).1
end
end Go.Proofs.YtefpfedpgedloaaDoor
