/- Plain mathematics of segs: a store that stands, its appends; how it is opened. No walk. -/
import Derived.Test.YtdmbombjkinboaaGreatYLive2
namespace Go.Proofs.YtdmbombjkinboaaGreat
open Dk Sg Fr
namespace Sg

theorem flat_few : ∀ (l : List (Nat × List ByteArray)) (K : Nat), (∀ s ∈ l, s.2.length ≤ K) → (flat l).length ≤ l.length * K
  | [], K, _ => Nat.zero_le _
  | s :: l, K, h => by
    have h1 := flat_few l K fun t ht => h t (List.mem_cons_of_mem _ ht)
    have h2 := h s (List.mem_cons_self ..)
    have e : flat (s :: l) = s.2 ++ flat l := rfl
    rw [e, List.length_append, List.length_cons, Nat.add_mul]; omega
theorem Img.few {n N : Nat} {X : List ByteArray} {Ls : Nat → List Ent} {c : Nat × Ent} {l : List (Nat × List ByteArray)} {T : List (Nat × Nat)} (h : Img n X N Ls c l T) (hz : Sz X) : (flat l).length ≤ 451422 := by
  have h1 := flat_few l 7281 fun s hs => by
    obtain ⟨i, hi⟩ := List.mem_iff_getElem?.1 hs
    obtain ⟨x, rs⟩ := s
    have key : ∀ m er, Scans (exAt X x).data.toList (headB i (ahead l i) :: rs.map (·.data.toList)) m er → rs.length ≤ 7281 := fun m er hh => by
      have h2 := hh.le
      have h3 : (exAt X x).data.toList.length = (exAt X x).size := rfl
      have h4 := hz.at x
      simp at h2
      omega
    rcases h.segs i x rs hi with ⟨-, hw⟩ | ⟨m, -, hw⟩
    · exact key _ _ hw.scan
    · exact key _ _ hw
  have h2 := h.num
  have h3 := h.n64
  have : l.length * 7281 ≤ 62 * 7281 := Nat.mul_le_mul_right _ (by omega)
  omega
/-- A store that stands on its disk. -/
structure Live (n N : Nat) (D : Disk) (S : Stor) : Prop where
  up : D.down = false
  falls : D.falls = S.falls
  room : 1024 ≤ D.room
  steady : Steady (Safe n N S.recs S.sure) D.sure D.waits
  img : ∃ Ls c l, Img n D.now N Ls c l [] ∧ Fits S c l ∧ l ≠ []
  sure : S.sure ≤ S.recs.length
theorem Live.mono {n N M : Nat} {D : Disk} {S : Stor} (h : Live n N D S) (hN : N ≤ M) : Live n M D S := by
  obtain ⟨Ls, c, l, h1, h2, h3⟩ := h.img
  exact ⟨h.up, h.falls, h.room, h.steady.mono fun Y hY => hY.mono hN, ⟨Ls, c, l, h1.mono hN, h2, h3⟩, h.sure⟩
theorem Live.fine {n N : Nat} {D : Disk} {S : Stor} (h : Live n N D S) (hok : D.Ok) (hN : N ≤ 1099511627776) : Fine S := by
  obtain ⟨Ls, c, l, h1, h2, h3⟩ := h.img
  have hn := h1.num
  have h64 := h1.n64
  refine ⟨by rw [h2.at_]; have := h1.c1; omega, by rw [h2.epoch]; have := h1.epoch; omega, by rw [h2.num]; omega, fun x hx => ?_, by rw [h2.recs]; have := h1.few hok.fits.all; omega, fun e => h3 ?_⟩
  · rw [h2.exts, h1.exts] at hx
    have := (h1.ext.1 x hx).2
    omega
  · have := h2.num
    rw [e] at this
    exact List.length_eq_zero_iff.1 this.symm
theorem Live.num {n N : Nat} {D : Disk} {S : Stor} (h : Live n N D S) : D.sure.length = n ∧ 3 ≤ n ∧ n ≤ 64 := by
  obtain ⟨Ls, c, l, h1, -, -⟩ := h.img
  exact ⟨by rw [← D.now_length]; exact h1.len, h1.n3, h1.n64⟩
/-- The power fails. -/
theorem Live.fail {n N : Nat} {D : Disk} {S : Stor} (h : Live n N D S) (keep torn : Int) : (D.fail keep torn).down = true ∧ (D.fail keep torn).waits = [] ∧ Safe n N S.recs S.sure (D.fail keep torn).sure ∧ (D.fail keep torn).room = D.room := by
  unfold Disk.fail
  rw [if_neg (by rw [h.up]; decide)]
  exact ⟨rfl, rfl, h.steady.kept keep torn, rfl⟩
/-- A cut is laid. -/
theorem Live.lay {n N : Nat} {D : Disk} {S : Stor} (h : Live n N D S) (a k t : Int) : Live n N (D.lay a k t) S := ⟨h.up, h.falls, h.room, h.steady, h.img, h.sure⟩
theorem Live.fell {n N : Nat} {D : Disk} {S : Stor} (h : Live n N D S) : fellS D S = false := by
  unfold fellS
  rw [h.up, h.falls]; simp
theorem Rec.of {n N : Nat} {X : List ByteArray} {Ls : Nat → List Ent} {c : Nat × Ent} {l : List (Nat × List ByteArray)} {T : List (Nat × Nat)} (h : Img n X N Ls c l T) : Rec n N (flat l) X := ⟨Ls, c, l, T, h, rfl⟩
/-- Sync. -/
theorem Live.sync {n N : Nat} {D : Disk} {S : Stor} (h : Live n N D S) : syncPub D S = ({ D with sure := D.now, waits := [] }, { S with sure := S.recs.length }, 0) ∧ Live n N { D with sure := D.now, waits := [] } { S with sure := S.recs.length } := by
  obtain ⟨Ls, c, l, h1, h2, h3⟩ := h.img
  refine ⟨?_, h.up, h.falls, h.room, ?_, ⟨Ls, c, l, h1, ⟨h2.at_, h2.epoch, h2.segs, h2.recs⟩, h3⟩, Nat.le_refl _⟩
  · unfold syncPub
    rw [h.fell, if_neg (by decide), syncS_out S h.up]
  · exact Safe.of (Nat.le_refl _) (by rw [h2.recs]; exact .of h1)
theorem last_of {S : Stor} {c : Nat × Ent} {l0 : List (Nat × List ByteArray)} {x : Nat} {rs : List ByteArray} (h : Fits S c (l0 ++ [(x, rs)])) : S.last = x := by
  unfold Stor.last
  rw [h.segs, List.length_append, List.length_singleton, segsAt_snoc, List.getLastD_eq_getLast?, List.getLast?_append]
  rfl
theorem frm_size (r : ByteArray) : (str (frm r.data.toList)).size = 8 + r.size := by rw [str_size, frm_length]; rfl
/-- The last step of an append. -/
theorem append_step {n N k0 : Nat} {D : Disk} {S : Stor} {Ls : Nat → List Ent} {c : Nat × Ent} {l0 : List (Nat × List ByteArray)} {x : Nat} {rs : List ByteArray} {r : ByteArray} (hu : D.down = false) (hi : Img n D.now N Ls c (l0 ++ [(x, rs)]) []) (hf : Fits S c (l0 ++ [(x, rs)])) (hr : 1 ≤ r.size ∧ r.size ≤ 900)
    (hs : Steady (Safe n N (S.recs ++ [r]) k0) D.sure D.waits) (hk : k0 ≤ S.recs.length) (hroom : (8 + r.size : Int) ≤ D.room - ((exAt D.now x).size : Int)) :
    ((D.act 0 S.last 0 (str (frm r.data.toList))).2 = 0 ∧ Kept D (D.act 0 S.last 0 (str (frm r.data.toList))).1 ∧ Steady (Safe n N (S.recs ++ [r]) k0) (D.act 0 S.last 0 (str (frm r.data.toList))).1.sure (D.act 0 S.last 0 (str (frm r.data.toList))).1.waits ∧
      Img n (D.act 0 S.last 0 (str (frm r.data.toList))).1.now N Ls c (l0 ++ [(x, rs ++ [r])]) [] ∧ Fits { S with recs := S.recs ++ [r] } c (l0 ++ [(x, rs ++ [r])])) ∨
    ((D.act 0 S.last 0 (str (frm r.data.toList))).2 = 9 ∧ FellTo (Safe n N (S.recs ++ [r]) k0) D (D.act 0 S.last 0 (str (frm r.data.toList))).1) := by
  have hx := hi.mem (s := (x, rs)) (by simp)
  have hnl : D.sure.length = n := by rw [← D.now_length]; exact hi.len
  have hfl : flat (l0 ++ [(x, rs ++ [r])]) = S.recs ++ [r] := by rw [hf.recs, flat_snoc, flat_snoc, List.append_assoc]
  have hfit : Fits { S with recs := S.recs ++ [r] } c (l0 ++ [(x, rs ++ [r])]) := by
    refine ⟨hf.at_, hf.epoch, ?_, hfl.symm⟩
    show S.segs = _
    rw [hf.segs, List.length_append, List.length_append]
    show segsAt (l0 ++ [(x, rs)]) (l0.length + 1) = segsAt (l0 ++ [(x, rs ++ [r])]) (l0.length + 1)
    rw [segsAt_snoc, segsAt_snoc]
  have hm := hi.more hr
  have hP1 : Safe n N (S.recs ++ [r]) k0 (made D.now ⟨0, x, 0, str (frm r.data.toList)⟩) := Safe.of (by rw [List.length_append]; omega) (by rw [← hfl]; exact .of hm)
  have hPt : ∀ t, Safe n N (S.recs ++ [r]) k0 (made D.now ⟨0, x, 0, (str (frm r.data.toList)).extract 0 t⟩) := fun t => by
    rcases hi.more_torn hr t with e | e
    · rw [← hf.recs] at e
      exact ⟨S.recs.length, hk, by rw [List.length_append]; omega, by rw [List.take_left]; exact e⟩
    · rw [← hf.recs] at e
      exact Safe.of (by rw [List.length_append]; omega) e
  rw [last_of hf]
  rcases act_out (kind := 0) (x := x) (long := 0) (text := str (frm r.data.toList)) hs hu (refused_none hu (by rw [hnl]; exact hx.2) (fun e => by cases e) (fun _ => by rw [frm_size]; omega)) (fun _ => hPt) hP1 with ⟨q1, q2, q3, q4⟩ | ⟨q1, q2⟩
  · exact .inl ⟨q1, q2, q4, by
      show Img n (D.act 0 (x : Int) ((0 : Nat) : Int) _).1.now _ _ _ _ _
      rw [q3]; exact hm, hfit⟩
  · exact .inr ⟨q1, q2⟩
theorem ne_snoc {α : Type} {l : List α} (h : l ≠ []) : ∃ k a, l = k ++ [a] := by
  rcases List.eq_nil_or_concat l with e | ⟨k, a, e⟩
  · exact absurd e h
  · exact ⟨k, a, by rw [e, List.concat_eq_append]⟩
/-- Append. -/
theorem Live.append {n N : Nat} {D : Disk} {S : Stor} (h : Live n N D S) (hok : D.Ok) (hN : N < 1099511627776) (r : ByteArray) :
    (r.size = 0 ∧ appendS D S r = (D, S, 0, 1)) ∨ (900 < r.size ∧ appendS D S r = (D, S, 0, 2)) ∨
    (1 ≤ r.size ∧ r.size ≤ 900 ∧ ((leftS D S = 0 ∧ roomD D S.last < (r.size : Int) + 8 ∧ appendS D S r = (D, S, 0, 6)) ∨
      ((appendS D S r).2.2.2 = 9 ∧ FellTo (Safe n (N + 1) (S.recs ++ [r]) S.sure) D (appendS D S r).1) ∨
      ((appendS D S r).2.2.2 = 0 ∧ (appendS D S r).2.2.1 = (S.recs.length : Int) ∧ Live n (N + 1) (appendS D S r).1 (appendS D S r).2.1 ∧ (appendS D S r).2.1.recs = S.recs ++ [r] ∧ S.sure ≤ (appendS D S r).2.1.sure ∧ Kept D (appendS D S r).1))) := by
  by_cases h0 : r.size = 0
  · exact .inl ⟨h0, if_pos h0⟩
  by_cases h9 : 900 < r.size
  · exact .inr (.inl ⟨h9, (if_neg h0).trans (if_pos h9)⟩)
  refine .inr (.inr ⟨by omega, by omega, ?_⟩)
  have hr : 1 ≤ r.size ∧ r.size ≤ 900 := ⟨by omega, by omega⟩
  obtain ⟨Ls, c, l, hi, hf, hl⟩ := h.img
  obtain ⟨l0, ⟨x, rs⟩, rfl⟩ := ne_snoc hl
  have hnl := h.num.1
  have hx := hi.mem (s := (x, rs)) (by simp)
  have hlast := last_of hf
  unfold appendS
  rw [if_neg h0, if_neg h9, h.fell, if_neg (by decide)]
  by_cases ht : roomD D S.last < (r.size : Int) + 8
  · rw [if_pos ht]
    rcases turnS_out (P := Safe n (N + 1) (S.recs ++ [r]) S.sure) (fun Y hY => ⟨S.recs.length, h.sure, by rw [List.length_append]; omega, by rw [List.take_left, hf.recs]; exact hY⟩) (h.steady.mono fun Y hY => hY.more (Nat.le_succ N) r) h.up hi hf h.room hN (by have := hi.few hok.fits.all; omega) with ⟨p1, p2⟩ | ⟨p1, p2, p3⟩ | ⟨p1, p2, p3, p4, c', Ls', p5, p6, p7, p8⟩
    · left
      rw [p2]
      exact ⟨p1, ht, rfl⟩
    · right; left
      simp only [p2]
      exact ⟨rfl, p3⟩
    · right
      simp only [p2]
      rw [if_neg (by decide)]
      have hrec : (turnS D S).2.1.recs = S.recs := (turnS_keeps D S).1
      generalize (turnS D S).1 = D1 at *
      generalize (turnS D S).2.1 = S1 at *
      have hnow : D1.now = D1.sure := by unfold Disk.now; rw [p4]; rfl
      have hx1 := p5.mem (s := (S.free, [])) (by simp)
      have hw : Wh (exAt D1.now S.free) [headB (l0 ++ [(x, rs)]).length (ahead (l0 ++ [(x, rs)] ++ [(S.free, [])]) (l0 ++ [(x, rs)]).length)] := by
        rw [hnow]
        exact (p5.segs (l0 ++ [(x, rs)]).length S.free [] (by rw [List.getElem?_append_right (Nat.le_refl _)]; simp)).wh
      have hfew := hi.few hok.fits.all
      have hnum := hi.num
      have h64 := hi.n64
      have hsz : (exAt D1.now S.free).size ≤ 28 := by
        rw [ahead_app (Nat.le_refl _), ahead_all] at hw
        have h1 := (head_may (n := (l0 ++ [(x, rs)]).length) (k := (flat (l0 ++ [(x, rs)])).length) (by omega) (by omega)).2
        have h2 := congrArg List.length hw.1
        have h3 : (exAt D1.now S.free).data.toList.length = (exAt D1.now S.free).size := rfl
        unfold headS at h1
        rw [str_size] at h1
        rw [h3] at h2
        rw [h2]
        show (frm _ ++ []).length ≤ 28
        rw [List.append_nil]; exact h1
      have hst : Steady (Safe n (N + 1) (S1.recs ++ [r]) S1.sure) D1.sure D1.waits := by
        rw [p4]
        refine ⟨S1.recs.length, by rw [p7, p6.recs, flat_snoc (l0 ++ [(x, rs)]), List.append_nil]; exact Nat.le_refl _, by rw [List.length_append]; omega, ?_⟩
        rw [List.take_left, p6.recs]
        exact .of p5
      have hkk : S1.sure ≤ S1.recs.length := by rw [p7, p6.recs, flat_snoc (l0 ++ [(x, rs)]), List.append_nil]; exact Nat.le_refl _
      rcases append_step p3.up (by rw [hnow]; exact p5) p6 hr hst hkk (by rw [p3.room]; have := h.room; omega) with ⟨q1, q2, q3, q4, q5⟩ | ⟨q1, q2⟩
      · right
        simp only [q1]
        rw [if_neg (by decide)]
        refine ⟨rfl, by rw [hrec], ⟨q2.up, ?_, by rw [q2.room, p3.room]; exact h.room, q3, ⟨_, _, _, q4, q5, by simp⟩, by show S1.sure ≤ (S1.recs ++ [r]).length; rw [List.length_append]; omega⟩, by show S1.recs ++ [r] = _; rw [hrec], ?_, p3.trans q2⟩
        · show _ = S1.falls
          rw [q2.falls, p3.falls, p8]; exact h.falls
        · show S.sure ≤ S1.sure
          rw [p7, ← hf.recs]; exact h.sure
      · left
        simp only [q1]
        rw [if_pos (by decide)]
        refine ⟨rfl, (q2.after p3).mono fun Y hY => ?_⟩
        obtain ⟨m, m1, m2, m3⟩ := hY
        rw [hrec] at m2 m3
        exact ⟨m, by rw [p7, ← hf.recs] at m1; have := h.sure; omega, m2, m3⟩
  · rw [if_neg ht]
    right
    rw [if_neg (by simp)]
    have hroom : (8 + r.size : Int) ≤ D.room - ((exAt D.now x).size : Int) := by
      rw [hlast, roomD_up h.up (by rw [hnl]; exact hx.2)] at ht
      omega
    rcases append_step h.up hi hf hr (h.steady.mono fun Y hY => hY.more (Nat.le_refl N) r) h.sure hroom with ⟨q1, q2, q3, q4, q5⟩ | ⟨q1, q2⟩
    · right
      simp only [q1]
      rw [if_neg (by decide)]
      refine ⟨rfl, rfl, ⟨q2.up, by rw [q2.falls]; exact h.falls, by rw [q2.room]; exact h.room, q3.mono fun Y hY => hY.mono (Nat.le_succ N), ⟨_, _, _, q4.mono (Nat.le_succ N), q5, by simp⟩, by show S.sure ≤ (S.recs ++ [r]).length; rw [List.length_append]; have := h.sure; omega⟩, rfl, Nat.le_refl _, q2⟩
    · left
      simp only [q1]
      rw [if_pos (by decide)]
      exact ⟨rfl, q2.mono fun Y hY => hY.mono (Nat.le_succ N)⟩
end Sg
end Go.Proofs.YtdmbombjkinboaaGreat
