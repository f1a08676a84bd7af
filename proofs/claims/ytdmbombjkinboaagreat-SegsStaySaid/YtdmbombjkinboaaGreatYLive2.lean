/- Plain mathematics of segs: turning, appending, opening, whatever power fails. No walk. -/
import Derived.Test.YtdmbombjkinboaaGreatYLive
namespace Go.Proofs.YtdmbombjkinboaaGreat
open Dk Sg Fr
namespace Sg

theorem segsAt_fst (l : List (Nat × List ByteArray)) (i : Nat) : (segsAt l i).map (·.1) = l.map (·.1) := by
  apply List.ext_getElem?
  intro j
  unfold segsAt
  rw [List.getElem?_map, List.getElem?_mapIdx, List.getElem?_map]
  cases l[j]? <;> rfl
theorem segsAt_snoc (l : List (Nat × List ByteArray)) (s : Nat × List ByteArray) : segsAt (l ++ [s]) (l.length + 1) = segsAt l l.length ++ [(s.1, (flat l).length)] := by
  apply List.ext_getElem?
  intro j
  by_cases hj : j < l.length
  · obtain ⟨⟨x, rs⟩, hx⟩ : ∃ y, l[j]? = some y := ⟨_, List.getElem?_eq_getElem hj⟩
    rw [segsAt_get (x := x) (rs := rs) (by rw [List.getElem?_append_left hj]; exact hx), List.getElem?_append_left (by rw [segsAt_length]; exact hj), segsAt_get hx, if_pos (by omega), if_pos hj, ahead_app (by omega)]
  · by_cases e : j = l.length
    · subst e
      obtain ⟨x, rs⟩ := s
      rw [segsAt_get (x := x) (rs := rs) (by rw [List.getElem?_append_right (Nat.le_refl _)]; simp), List.getElem?_append_right (by rw [segsAt_length]; omega), segsAt_length, if_pos (by omega), ahead_app (by omega), ahead_all, Nat.sub_self]
      rfl
    · rw [List.getElem?_eq_none (by rw [segsAt_length]; simp; omega), List.getElem?_eq_none (by rw [List.length_append, segsAt_length]; simp; omega)]
/-- A store is what the extents hold. -/
structure Fits (S : Stor) (c : Nat × Ent) (l : List (Nat × List ByteArray)) : Prop where
  at_ : S.at_ = c.1
  epoch : S.epoch = c.2.epoch
  segs : S.segs = segsAt l l.length
  recs : S.recs = flat l
theorem Fits.exts {S : Stor} {c : Nat × Ent} {l : List (Nat × List ByteArray)} (h : Fits S c l) : S.exts = l.map (·.1) := by
  unfold Stor.exts; rw [h.segs, segsAt_fst]
theorem Fits.num {S : Stor} {c : Nat × Ent} {l : List (Nat × List ByteArray)} (h : Fits S c l) : S.segs.length = l.length := by rw [h.segs, segsAt_length]
theorem freeN_lt (l : List Nat) : ∀ (f x y : Nat), x ≤ y → y < freeN l f x → y ∈ l
  | 0, x, y, h1, h2 => by rw [freeN] at h2; omega
  | f + 1, x, y, h1, h2 => by
    rw [freeN] at h2
    split at h2
    · rename_i hx
      by_cases e : y = x
      · rw [e]; exact hx
      · exact freeN_lt l f (x + 1) y (by omega) h2
    · omega
theorem free_ok {n N : Nat} {X : List ByteArray} {Ls : Nat → List Ent} {c : Nat × Ent} {l : List (Nat × List ByteArray)} {T : List (Nat × Nat)} {S : Stor} (h : Img n X N Ls c l T) (hf : Fits S c l) (hl : l.length + 2 < n) :
    S.free ∉ c.2.exts ∧ 2 ≤ S.free ∧ S.free < n := by
  have he : S.exts = c.2.exts := by rw [hf.exts, h.exts]
  have h64 := h.n64
  have hb : ∀ x ∈ c.2.exts, x < 64 := fun x hx => by have := (h.ext.1 x hx).2; omega
  unfold Stor.free
  rw [he]
  refine ⟨freeN_not hb 64 2 (by omega), freeN_ge _ _ _, ?_⟩
  apply Nat.lt_of_not_le
  intro hn
  have hs : (List.range n).drop 2 ⊆ c.2.exts := fun x hx => by
    obtain ⟨i, hi⟩ := List.mem_iff_getElem?.1 hx
    rw [List.getElem?_drop] at hi
    obtain ⟨h1, h2⟩ := List.getElem?_eq_some_iff.1 hi
    rw [List.getElem_range] at h2
    rw [List.length_range] at h1
    exact freeN_lt _ 64 2 x (by omega) (by omega)
  have hd : ((List.range n).drop 2).Nodup := List.nodup_range.sublist (List.drop_sublist _ _)
  have := List.Nodup.length_le_of_subset hd hs
  rw [List.length_drop, List.length_range, ← h.exts, List.length_map] at this
  omega
theorem head_may {n k : Nat} (hn : n < 256) (hk : k < 256 ^ 4) : may (headB n k) ∧ (headS n k).size ≤ 28 := by
  have h := head_len n k hn hk
  refine ⟨⟨h.1, by omega⟩, ?_⟩
  unfold headS
  rw [str_size, frm_length]; omega
theorem ent_size {n : Nat} {e : Ent} (h : EntOk n e) : (entS e).size ≤ 168 := by
  have := (h.len (EntOk.num62 h)).2
  unfold entS
  rw [str_size, frm_length]; omega
theorem Wh.one {b : List UInt8} (h : may b) : Wh (str (frm b)) [b] := by
  have := Wh.snoc Wh.nil h
  rwa [none_app] at this
theorem roomD_up {D : Disk} (hu : D.down = false) {x : Nat} (hx : x < D.sure.length) : roomD D x = D.room - ((exAt D.now x).size : Int) := by
  have : eerr D x = 0 := by unfold eerr; rw [if_neg (by rw [hu]; decide), if_neg (by omega)]
  unfold roomD
  rw [if_pos this, Int.toNat_natCast]
/-- What laying a list makes of a disk. -/
theorem layS_out {P : List ByteArray → Prop} {n N f : Nat} {D : Disk} {S : Stor} {Ls : Nat → List Ent} {c : Nat × Ent} {l : List (Nat × List ByteArray)} (hP : ∀ Y, Rec n (N + 1) (flat l) Y → P Y) (hs : Steady P D.sure D.waits) (hu : D.down = false) (hi : Img n D.now N Ls c l []) (hrm : 1024 ≤ D.room)
    (hat : S.at_ = c.1) (hent : S.ent = ⟨c.2.epoch + 1, c.2.exts ++ [f]⟩) (hf : f ∉ c.2.exts) (hf2 : 2 ≤ f) (hfn : f < n) (hw : Wh (exAt D.now f) [headB l.length (flat l).length]) (he : c.2.epoch < 1099511627776) :
    ((layS D S).2.2 = 0 ∧ Kept D (layS D S).1 ∧ (layS D S).1.waits = [] ∧ ∃ j Ls', (layS D S).2.1 = { S with at_ := j, sure := S.recs.length } ∧ Img n (layS D S).1.sure (N + 1) Ls' (j, ⟨c.2.epoch + 1, c.2.exts ++ [f]⟩) (l ++ [(f, [])]) []) ∨
    ((layS D S).2.2 = 9 ∧ FellTo P D (layS D S).1) := by
  have hc1 := hi.c1
  have hn := hi.n3
  have hnl : D.sure.length = n := by rw [← D.now_length]; exact hi.len
  unfold layS
  rw [hent]
  by_cases hr : roomD D S.at_ < ((entS ⟨c.2.epoch + 1, c.2.exts ++ [f]⟩).size : Int)
  · rw [if_pos hr, hat]
    have hg := hi.gone (j := 1 - c.1) (by omega) (by omega)
    have hjn : 1 - c.1 < D.now.length := by rw [hi.len]; omega
    have hw' : Wh (exAt (D.now.set (1 - c.1) ⟨#[]⟩) f) [headB l.length (flat l).length] := by rw [exAt_set_other (by omega)]; exact hw
    obtain ⟨hok, hl⟩ := hg.list (j := 1 - c.1) (by omega) hf hf2 hfn hw' he
    rw [exAt_empty hjn] at hl
    have ht := fun k => hg.list_torn (j := 1 - c.1) (by omega) hf hf2 hfn hw' he k
    have hsz := ent_size hok
    rcases putS_out (P := P) (D := D) { S with at_ := 1 - c.1 } (x := 1 - c.1) (t := entS ⟨c.2.epoch + 1, c.2.exts ++ [f]⟩) hs hu (by rw [hnl]; omega) (hP _ ⟨_, _, _, _, hg.mono (Nat.le_succ N), rfl⟩) (fun k => hP _ (by have := ht k; rwa [exAt_empty hjn] at this)) (hP _ ⟨_, _, _, _, hl, by rw [flat_snoc, List.append_nil]⟩) (by omega) with ⟨p1, p2, p3, p4, p5⟩ | ⟨p1, p2⟩
    · exact .inl ⟨p1, p3, p5, 1 - c.1, _, p2, by rw [p4]; exact hl⟩
    · exact .inr ⟨p1, p2⟩
  · rw [if_neg hr, hat]
    obtain ⟨hok, hl⟩ := hi.list hc1 hf hf2 hfn hw he
    have hroom : ((entS ⟨c.2.epoch + 1, c.2.exts ++ [f]⟩).size : Int) ≤ D.room - ((exAt D.now c.1).size : Int) := by
      rw [hat, roomD_up hu (by rw [hnl]; omega)] at hr
      omega
    have a := act_out (P := P) (kind := 0) (x := c.1) (long := 0) (text := entS ⟨c.2.epoch + 1, c.2.exts ++ [f]⟩) hs hu (refused_none hu (by rw [hnl]; omega) (fun e => by cases e) (fun _ => hroom)) (fun _ k => hP _ (hi.list_torn hc1 hf hf2 hfn hw he k)) (hP _ ⟨_, _, _, _, hl, by rw [flat_snoc, List.append_nil]⟩)
    rcases a with ⟨q1, q2, q3, q4⟩ | ⟨q1, q2⟩
    · rw [show (0 : Int) = ((0 : Nat) : Int) from rfl, andS_ok q1, syncS_out S q2.up]
      exact .inl ⟨rfl, q2.trans (kept_sync q2.up), rfl, c.1, _, by rw [← hat], by show Img n (D.act 0 (c.1 : Int) ((0 : Nat) : Int) _).1.now _ _ _ _ _; rw [q3]; exact hl⟩
    · rw [show (0 : Int) = ((0 : Nat) : Int) from rfl, andS_no (by rw [q1]; decide)]
      exact .inr ⟨q1, q2⟩
/-- What turning to another segment makes of a disk and its store. -/
theorem turnS_out {P : List ByteArray → Prop} {n N : Nat} {D : Disk} {S : Stor} {Ls : Nat → List Ent} {c : Nat × Ent} {l : List (Nat × List ByteArray)} (hP : ∀ Y, Rec n (N + 1) (flat l) Y → P Y) (hs : Steady P D.sure D.waits) (hu : D.down = false) (hi : Img n D.now N Ls c l []) (hf : Fits S c l) (hrm : 1024 ≤ D.room) (hN : N < 1099511627776) (hrl : (flat l).length < 256 ^ 4) :
    (leftS D S = 0 ∧ turnS D S = (D, S, 6)) ∨
    (leftS D S ≠ 0 ∧ (turnS D S).2.2 = 9 ∧ FellTo P D (turnS D S).1) ∨
    (leftS D S ≠ 0 ∧ (turnS D S).2.2 = 0 ∧ Kept D (turnS D S).1 ∧ (turnS D S).1.waits = [] ∧ ∃ c' Ls', Img n (turnS D S).1.sure (N + 1) Ls' c' (l ++ [(S.free, [])]) [] ∧ Fits (turnS D S).2.1 c' (l ++ [(S.free, [])]) ∧ (turnS D S).2.1.sure = (flat l).length ∧ (turnS D S).2.1.falls = S.falls) := by
  have hnl : D.sure.length = n := by rw [← D.now_length]; exact hi.len
  have hep : S.epoch < 1099511627776 := by rw [hf.epoch]; have := hi.epoch; omega
  have hlt : l.length + 2 ≤ n := hi.num
  have h64 := hi.n64
  unfold turnS
  by_cases h0 : leftS D S = 0
  · left
    have hm : mayTurnS D S = 6 := by unfold mayTurnS; rw [if_pos (.inl h0)]
    rw [hm, if_pos (by decide)]
    exact ⟨h0, rfl⟩
  · right
    have hm : mayTurnS D S = 0 := by unfold mayTurnS; rw [if_neg (by rintro (e | e) <;> omega)]
    rw [hm, if_neg (by decide)]
    have hll : l.length + 2 < n := by
      unfold leftS at h0
      rw [hnl, hf.num] at h0
      omega
    obtain ⟨g1, g2, g3⟩ := free_ok hi hf hll
    rw [show S.segs.length = l.length from hf.num, show S.recs.length = (flat l).length by rw [hf.recs]]
    obtain ⟨hmay, hsz⟩ := head_may (n := l.length) (k := (flat l).length) (by omega) hrl
    have hoth : ∀ t, P (D.now.set S.free t) := fun t => hP _ ⟨_, _, _, _, (hi.other g2 g1 t).mono (Nat.le_succ N), rfl⟩
    rcases putS_out (P := P) (D := D) S (x := S.free) (t := headS l.length (flat l).length) hs hu (by rw [hnl]; exact g3) (hoth _) (fun k => hoth _) (hoth _) (by omega) with ⟨p1, p2, p3, p4, p5⟩ | ⟨p1, p2⟩
    · rw [thenS_ok p1, p2]
      have hnow : (putS D S S.free (headS l.length (flat l).length)).1.now = D.now.set S.free (headS l.length (flat l).length) := by
        unfold Disk.now; rw [p5, p4]; rfl
      generalize (putS D S S.free (headS l.length (flat l).length)).1 = D1 at *
      have hi1 : Img n D1.now N Ls c l [] := by rw [hnow]; exact hi.other g2 g1 _
      have hw : Wh (exAt D1.now S.free) [headB l.length (flat l).length] := by
        rw [hnow, exAt_set_same (by rw [D.now_length, hnl]; exact g3)]
        exact Wh.one hmay
      have hst : Steady P D1.sure D1.waits := by rw [p5, p4]; exact hoth _
      have hex : S.exts = c.2.exts := by rw [hf.exts, hi.exts]
      rcases layS_out (f := S.free) (S := { S with sure := S.recs.length, segs := S.segs ++ [(S.free, (flat l).length)], epoch := S.epoch + 1 }) hP hst p3.up hi1 (by rw [p3.room]; exact hrm) hf.at_ (by unfold Stor.ent Stor.exts; rw [List.map_append, ← hf.epoch, ← hex]; rfl) g1 g2 g3 hw (by rw [← hf.epoch]; exact hep) with ⟨q1, q2, q3, j, Ls', q4, q5⟩ | ⟨q1, q2⟩
      · right
        refine ⟨h0, q1, p3.trans q2, q3, _, Ls', q5, ?_, ?_, ?_⟩
        · rw [q4]
          exact ⟨rfl, by show S.epoch + 1 = c.2.epoch + 1; rw [hf.epoch], by show S.segs ++ _ = _; rw [List.length_append, hf.segs]; exact (segsAt_snoc l (S.free, [])).symm, by show S.recs = _; rw [hf.recs, flat_snoc, List.append_nil]⟩
        · rw [q4]; show S.recs.length = _; rw [hf.recs]
        · rw [q4]
      · exact .inl ⟨h0, q1, q2.after p3⟩
    · rw [thenS_no (by rw [p1]; decide)]
      exact .inl ⟨h0, p1, p2⟩
end Sg
end Go.Proofs.YtdmbombjkinboaaGreat
