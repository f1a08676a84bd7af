/- Plain mathematics of segs: what Open makes of a disk. No walk. -/
import Derived.Test.YtdmbombjkinboaaGreatYLive3
namespace Go.Proofs.YtdmbombjkinboaaGreat
open Dk Sg Fr
namespace Sg

theorem pickL_spec (x : Nat) : ∀ (l : List Ent) (c : Nat × Ent), c.2.epoch ≤ (pickL x l c).2.epoch ∧ (∀ e ∈ l, e.epoch ≤ (pickL x l c).2.epoch) ∧ (pickL x l c = c ∨ ∃ e ∈ l, pickL x l c = (x, e))
  | [], c => ⟨Nat.le_refl _, fun e h => (by cases h), .inl rfl⟩
  | e :: l, c => by
    obtain ⟨h1, h2, h3⟩ := pickL_spec x l (if c.2.epoch ≤ e.epoch then (x, e) else c)
    have hp : pickL x (e :: l) c = pickL x l (if c.2.epoch ≤ e.epoch then (x, e) else c) := rfl
    rw [hp]
    by_cases hc : c.2.epoch ≤ e.epoch
    · rw [if_pos hc] at h1 h2 h3 ⊢
      refine ⟨Nat.le_trans hc h1, fun d hd => ?_, .inr ?_⟩
      · rcases List.mem_cons.1 hd with rfl | hd
        · exact h1
        · exact h2 d hd
      · rcases h3 with h3 | ⟨d, hd, h3⟩
        · exact ⟨e, List.mem_cons_self .., h3⟩
        · exact ⟨d, List.mem_cons_of_mem _ hd, h3⟩
    · rw [if_neg hc] at h1 h2 h3 ⊢
      refine ⟨h1, fun d hd => ?_, ?_⟩
      · rcases List.mem_cons.1 hd with rfl | hd
        · omega
        · exact h2 d hd
      · rcases h3 with h3 | ⟨d, hd, h3⟩
        · exact .inl h3
        · exact .inr ⟨d, List.mem_cons_of_mem _ hd, h3⟩
theorem Img.pick {n N : Nat} {X : List ByteArray} {Ls : Nat → List Ent} {c : Nat × Ent} {l : List (Nat × List ByteArray)} {T : List (Nat × Nat)} (h : Img n X N Ls c l T) : pickL 1 (Ls 1) (pickL 0 (Ls 0) (0, ⟨0, []⟩)) = c := by
  obtain ⟨a1, a2, a3⟩ := pickL_spec 0 (Ls 0) (0, ⟨0, []⟩)
  obtain ⟨b1, b2, b3⟩ := pickL_spec 1 (Ls 1) (pickL 0 (Ls 0) (0, ⟨0, []⟩))
  have e0 := h.ents 0 (by decide)
  have e1 := h.ents 1 (by decide)
  rcases h.cnt with hc | ⟨hc1, hc2⟩
  · have n0 : ∀ e ∈ Ls 0, False := fun e he => by have := (e0 e he).2.1; have h3 := (e0 e he).1.one; rw [hc] at this; exact absurd (Nat.le_trans h3 this) (by simp)
    have n1 : ∀ e ∈ Ls 1, False := fun e he => by have := (e1 e he).2.1; have h3 := (e1 e he).1.one; rw [hc] at this; exact absurd (Nat.le_trans h3 this) (by simp)
    rcases b3 with b3 | ⟨e, he, -⟩
    · rw [b3]
      rcases a3 with a3 | ⟨e, he, -⟩
      · rw [a3, hc]
      · exact (n0 e he).elim
    · exact (n1 e he).elim
  · have hge : c.2.epoch ≤ (pickL 1 (Ls 1) (pickL 0 (Ls 0) (0, ⟨0, []⟩))).2.epoch := by
      have : c.1 = 0 ∨ c.1 = 1 := by omega
      rcases this with e | e
      · rw [e] at hc2; exact Nat.le_trans (a2 _ hc2) b1
      · rw [e] at hc2; exact b2 _ hc2
    have hone := (h.ents c.1 hc1 c.2 hc2).1.one
    rcases b3 with b3 | ⟨e, he, b3⟩
    · rw [b3] at hge ⊢
      rcases a3 with a3 | ⟨e, he, a3⟩
      · rw [a3] at hge
        exact absurd (Nat.le_trans hone hge) (by simp)
      · rw [a3] at hge ⊢
        have h1 := (e0 e he).2
        obtain ⟨k1, k2⟩ := h1.2 (Nat.le_antisymm h1.1 hge)
        rw [k1, k2]
    · rw [b3] at hge ⊢
      have h1 := (e1 e he).2
      obtain ⟨k1, k2⟩ := h1.2 (Nat.le_antisymm h1.1 hge)
      rw [k1, k2]
/-- Where the frames of an extent end, and why. -/
def tr (T : List (Nat × Nat)) (y : Nat) (bs : List (List UInt8)) : Nat × Nat :=
  match T.find? (fun t => t.1 == y) with
  | some t => (t.2, 7)
  | none => ((frms bs).length, 4)
theorem key_one {T : List (Nat × Nat)} (hd : (T.map (·.1)).Nodup) {y a b : Nat} (ha : (y, a) ∈ T) (hb : (y, b) ∈ T) : a = b := by
  induction T with
  | nil => cases ha
  | cons t T ih =>
    rw [List.map_cons, List.nodup_cons] at hd
    rcases List.mem_cons.1 ha with ha | ha
    · rcases List.mem_cons.1 hb with hb | hb
      · rw [← ha] at hb; injection hb with _ hb; exact hb.symm
      · exact absurd (by rw [← ha]; exact List.mem_map.2 ⟨_, hb, rfl⟩) hd.1
    · rcases List.mem_cons.1 hb with hb | hb
      · exact absurd (by rw [← hb]; exact List.mem_map.2 ⟨_, ha, rfl⟩) hd.1
      · exact ih hd.2 ha hb
theorem tr_spec {T : List (Nat × Nat)} (hd : (T.map (·.1)).Nodup) {y : Nat} {t : ByteArray} {bs : List (List UInt8)} (h : Hl T y t bs) :
    Scans t.data.toList bs (tr T y bs).1 (tr T y bs).2 ∧ (((tr T y bs).2 = 4 ∧ y ∉ T.map (·.1)) ∨ ((tr T y bs).2 = 7 ∧ (y, (tr T y bs).1) ∈ T)) := by
  unfold tr
  cases hf : T.find? (fun t => t.1 == y) with
  | none =>
    have hn : y ∉ T.map (·.1) := fun hm => by
      obtain ⟨t, ht, e⟩ := List.mem_map.1 hm
      have := List.find?_eq_none.1 hf t ht
      simp [e] at this
    rcases h with ⟨-, hw⟩ | ⟨m, hm, -⟩
    · exact ⟨hw.scan, .inl ⟨rfl, hn⟩⟩
    · exact absurd (List.mem_map.2 ⟨_, hm, rfl⟩) hn
  | some s =>
    have h1 := List.find?_some hf
    have h2 := List.mem_of_find?_eq_some hf
    obtain ⟨s1, s2⟩ := s
    have h1 : s1 = y := by simpa using h1
    subst h1
    rcases h with ⟨hn, -⟩ | ⟨m, hm, hs⟩
    · exact absurd (List.mem_map.2 ⟨_, h2, rfl⟩) hn
    · have := key_one hd hm h2
      subst this
      exact ⟨hs, .inr ⟨rfl, h2⟩⟩
theorem Img.retear {n N : Nat} {X : List ByteArray} {Ls : Nat → List Ent} {c : Nat × Ent} {l : List (Nat × List ByteArray)} {T T' : List (Nat × Nat)} (h : Img n X N Ls c l T) (hm : ∀ t, t ∈ T' ↔ t ∈ T) (hd : (T'.map (·.1)).Nodup) : Img n X N Ls c l T' := by
  have hk : ∀ y, y ∈ T'.map (·.1) ↔ y ∈ T.map (·.1) := fun y => by
    rw [List.mem_map, List.mem_map]
    exact ⟨fun ⟨t, h1, h2⟩ => ⟨t, (hm t).1 h1, h2⟩, fun ⟨t, h1, h2⟩ => ⟨t, (hm t).2 h1, h2⟩⟩
  have key : ∀ y t bs, Hl T y t bs → Hl T' y t bs := fun y t bs hh => by
    rcases hh with ⟨h1, h2⟩ | ⟨m, h1, h2⟩
    · exact .inl ⟨fun k => h1 ((hk y).1 k), h2⟩
    · exact .inr ⟨m, (hm _).2 h1, h2⟩
  exact ⟨h.len, h.n3, h.n64, fun j hj => key _ _ _ (h.lists j hj), h.ents, h.cnt, h.epoch, h.exts, fun i x rs hi => key _ _ _ (h.segs i x rs hi), h.recs, hd, fun t ht => h.tears t ((hm t).1 ht)⟩
theorem tS_still {T : List (Nat × Nat)} {l : List (Nat × List ByteArray)} {E : Nat → Nat × Nat} : ∀ {k : Nat}, (∀ i, i < k → (E i).2 = 4) → tS T l E k = T
  | 0, _ => rfl
  | k + 1, h => by
    have e : tS T l E (k + 1) = tearsOf (E k).2 (l.getD k (0, [])).1 (E k).1 (tS T l E k) := rfl
    rw [e, tS_still fun i hi => h i (by omega), h k (by omega)]
    rfl
/-- What is read when a store is opened. -/
theorem Img.form {n N : Nat} {X : List ByteArray} {Ls : Nat → List Ent} {c : Nat × Ent} {l : List (Nat × List ByteArray)} {T0 : List (Nat × Nat)} (h : Img n X N Ls c l T0) (hz : Sz X) :
    ∃ (L : Nat → Lst) (E : Nat → Nat × Nat), (∀ j, j < 2 → Scans (exAt X j).data.toList ((L j).l.map entB) (L j).m (L j).er ∧ ((L j).er = 4 ∨ (L j).er = 7) ∧ ∀ e ∈ (L j).l, EntOk n e ∧ e.exts.length ≤ 62) ∧ cAt L 2 = c ∧
      (∀ D : Disk, D.now = X → SegsOk n D l E) ∧ Img n X N Ls c l (tS (tAt L 2) l E l.length) := by
  obtain ⟨B, hB⟩ : ∃ B : Nat → List (List UInt8), B = fun i => headB i (ahead l i) :: (l.getD i (0, [])).2.map (·.data.toList) := ⟨_, rfl⟩
  obtain ⟨E, hE⟩ : ∃ E : Nat → Nat × Nat, E = fun i => tr T0 (l.getD i (0, [])).1 (B i) := ⟨_, rfl⟩
  obtain ⟨L, hL⟩ : ∃ L : Nat → Lst, L = fun j => ⟨Ls j, (tr T0 j ((Ls j).map entB)).1, (tr T0 j ((Ls j).map entB)).2⟩ := ⟨_, rfl⟩
  have hl0 : ∀ j, (L j).l = Ls j := fun j => by rw [hL]
  have hlt : ∀ j, j < 2 → Scans (exAt X j).data.toList ((Ls j).map entB) (L j).m (L j).er ∧ (((L j).er = 4 ∧ j ∉ T0.map (·.1)) ∨ ((L j).er = 7 ∧ (j, (L j).m) ∈ T0)) := fun j hj => by
    rw [hL]; exact tr_spec h.dup (h.lists j hj)
  have hst : ∀ i x rs, l[i]? = some (x, rs) → Scans (exAt X x).data.toList (headB i (ahead l i) :: rs.map (·.data.toList)) (E i).1 (E i).2 ∧ (((E i).2 = 4 ∧ x ∉ T0.map (·.1)) ∨ ((E i).2 = 7 ∧ (x, (E i).1) ∈ T0)) := fun i x rs hi => by
    have e : l.getD i (0, []) = (x, rs) := by rw [List.getD_eq_getElem?_getD, hi]; rfl
    rw [hE, hB]
    simp only [e]
    exact tr_spec h.dup (h.segs i x rs hi)
  have hnd : (l.map (·.1)).Nodup := by rw [h.exts]; exact h.ext.2
  have hlast : ∀ i x rs, l[i]? = some (x, rs) → x ∈ T0.map (·.1) → i + 1 = l.length := fun i x rs hi hx => by
    obtain ⟨t, ht, e⟩ := List.mem_map.1 hx
    have h2 := (h.mem (List.mem_of_getElem? hi)).1
    rcases h.tears t ht with h3 | h3
    · rw [e] at h3
      have h2 : 2 ≤ x := h2
      omega
    · rw [e, List.getLast?_eq_getElem?] at h3
      have hil := (List.getElem?_eq_some_iff.1 hi).1
      cases hz' : l[l.length - 1]? with
      | none => rw [hz'] at h3; cases h3
      | some s =>
        rw [hz'] at h3
        have h3 : s.1 = x := Option.some.inj h3
        have g1 : (l.map (·.1))[i]? = some x := by rw [List.getElem?_map, hi]; rfl
        have g2 : (l.map (·.1))[l.length - 1]? = some x := by rw [List.getElem?_map, hz', ← h3]; rfl
        have := (List.getElem?_inj (by rw [List.length_map]; exact hil) hnd).1 (g1.trans g2.symm)
        omega
  refine ⟨L, E, fun j hj => ?_, ?_, fun D hD => ?_, ?_⟩
  · rw [hl0]
    obtain ⟨h1, h2⟩ := hlt j hj
    exact ⟨h1, h2.imp (fun e => e.1) (fun e => e.1), fun e he => ⟨(h.ents j hj e he).1, EntOk.num62 (h.ents j hj e he).1⟩⟩
  · show pickL 1 (L 1).l (pickL 0 (L 0).l (0, ⟨0, []⟩)) = c
    rw [hl0, hl0]; exact h.pick
  · have hnum := h.num
    have h64 := h.n64
    refine ⟨by omega, by have := h.few hz; unfold flat at this; omega, fun i x rs hi => ?_⟩
    rw [hD]
    obtain ⟨h1, h2⟩ := hst i x rs hi
    exact ⟨(h.mem (List.mem_of_getElem? hi)).2, h1, h2.imp (fun e => e.1) (fun e => ⟨e.1, hlast i x rs hi (List.mem_map.2 ⟨_, e.2, rfl⟩)⟩), fun r hr => (h.recs _ (List.mem_of_getElem? hi) r hr).2⟩
  · have e2 : tAt L 2 = tearsOf (L 1).er 1 (L 1).m (tearsOf (L 0).er 0 (L 0).m []) := rfl
    have a0 := (hlt 0 (by decide)).2
    have a1 := (hlt 1 (by decide)).2
    have key : ∀ {y m : Nat}, (y, m) ∈ T0 → y ∈ T0.map (·.1) := fun hm => List.mem_map.2 ⟨_, hm, rfl⟩
    by_cases hl : l = []
    · have e3 : tS (tAt L 2) l E l.length = tAt L 2 := by rw [hl]; rfl
      rw [e3, e2]
      have hT : ∀ t ∈ T0, t.1 = 0 ∨ t.1 = 1 := fun t ht => by
        rcases h.tears t ht with h3 | h3
        · omega
        · rw [hl] at h3; cases h3
      refine h.retear (fun t => ⟨fun ht => ?_, fun ht => ?_⟩) ?_
      · unfold tearsOf at ht
        rcases a0 with ⟨x0, y0⟩ | ⟨x0, y0⟩ <;> rcases a1 with ⟨x1, y1⟩ | ⟨x1, y1⟩ <;> (rw [x0, x1] at ht; simp at ht) <;> (first | (rcases ht with rfl | rfl <;> assumption) | (subst ht; assumption))
      · obtain ⟨y, m⟩ := t
        unfold tearsOf
        rcases hT (y, m) ht with e | e
        · have e : y = 0 := e
          subst e
          rcases a0 with ⟨x0, y0⟩ | ⟨x0, y0⟩
          · exact absurd (key ht) y0
          · rw [key_one h.dup ht y0, x0]
            split <;> simp
        · have e : y = 1 := e
          subst e
          rcases a1 with ⟨x1, y1⟩ | ⟨x1, y1⟩
          · exact absurd (key ht) y1
          · rw [key_one h.dup ht y1, x1]
            simp
      · unfold tearsOf
        rcases a0 with ⟨x0, -⟩ | ⟨x0, -⟩ <;> rcases a1 with ⟨x1, -⟩ | ⟨x1, -⟩ <;> (rw [x0, x1]; simp)
    · obtain ⟨l0, ⟨x, rs⟩, rfl⟩ := ne_snoc hl
      have hxl : (l0 ++ [(x, rs)])[l0.length]? = some (x, rs) := by rw [List.getElem?_append_right (Nat.le_refl _)]; simp
      have hx2 : 2 ≤ x := (h.mem (List.mem_of_getElem? hxl)).1
      have a2 := (hst l0.length x rs hxl).2
      have e4 : ∀ i, i < l0.length → (E i).2 = 4 := fun i hi => by
        obtain ⟨⟨z, zs⟩, hz⟩ : ∃ y, (l0 ++ [(x, rs)])[i]? = some y := ⟨_, List.getElem?_eq_getElem (by simp; omega)⟩
        rcases (hst i z zs hz).2 with e | e
        · exact e.1
        · have := hlast i z zs hz (key e.2)
          rw [List.length_append, List.length_singleton] at this
          omega
      have e3 : tS (tAt L 2) (l0 ++ [(x, rs)]) E (l0 ++ [(x, rs)]).length = tearsOf (E l0.length).2 x (E l0.length).1 (tAt L 2) := by
        rw [List.length_append, List.length_singleton]
        show tearsOf (E l0.length).2 ((l0 ++ [(x, rs)]).getD l0.length (0, [])).1 (E l0.length).1 (tS (tAt L 2) _ E l0.length) = _
        rw [tS_still e4, List.getD_eq_getElem?_getD, hxl]
        rfl
      rw [e3, e2]
      have hT : ∀ t ∈ T0, t.1 = 0 ∨ t.1 = 1 ∨ t.1 = x := fun t ht => by
        rcases h.tears t ht with h3 | h3
        · omega
        · rw [List.getLast?_append] at h3
          have h3 : x = t.1 := Option.some.inj h3
          omega
      refine h.retear (fun t => ⟨fun ht => ?_, fun ht => ?_⟩) ?_
      · unfold tearsOf at ht
        rcases a0 with ⟨x0, y0⟩ | ⟨x0, y0⟩ <;> rcases a1 with ⟨x1, y1⟩ | ⟨x1, y1⟩ <;> rcases a2 with ⟨z2, y2⟩ | ⟨z2, y2⟩ <;> (rw [x0, x1, z2] at ht; simp at ht) <;>
          (first | (rcases ht with rfl | rfl | rfl <;> assumption) | (rcases ht with rfl | rfl <;> assumption) | (subst ht; assumption))
      · obtain ⟨y, m⟩ := t
        unfold tearsOf
        rcases hT (y, m) ht with e | e | e
        · have e : y = 0 := e
          subst e
          rcases a0 with ⟨x0, y0⟩ | ⟨x0, y0⟩
          · exact absurd (key ht) y0
          · rw [key_one h.dup ht y0, x0]
            split <;> split <;> simp
        · have e : y = 1 := e
          subst e
          rcases a1 with ⟨x1, y1⟩ | ⟨x1, y1⟩
          · exact absurd (key ht) y1
          · rw [key_one h.dup ht y1, x1]
            split <;> simp
        · have e : y = x := e
          subst e
          rcases a2 with ⟨z2, y2⟩ | ⟨z2, y2⟩
          · exact absurd (key ht) y2
          · rw [key_one h.dup ht y2, z2]
            simp
      · unfold tearsOf
        rcases a0 with ⟨x0, -⟩ | ⟨x0, -⟩ <;> rcases a1 with ⟨x1, -⟩ | ⟨x1, -⟩ <;> rcases a2 with ⟨z2, -⟩ | ⟨z2, -⟩ <;> (rw [x0, x1, z2]; simp) <;> omega
theorem trimsS_cons (D : Disk) (x m : Nat) (T : List (Nat × Nat)) : trimsS D ((x, m) :: T) = if (D.act 1 (x : Int) (m : Int) ⟨#[]⟩).2 = 0 then trimsS (D.act 1 (x : Int) (m : Int) ⟨#[]⟩).1 T else D.act 1 (x : Int) (m : Int) ⟨#[]⟩ := by
  have e : trimsS D ((x, m) :: T) = T.foldl (fun r t => if r.2 = 0 then r.1.act 1 t.1 t.2 ⟨#[]⟩ else r) (D.act 1 (x : Int) (m : Int) ⟨#[]⟩) := rfl
  rw [e]
  by_cases h : (D.act 1 (x : Int) (m : Int) ⟨#[]⟩).2 = 0
  · rw [if_pos h]
    unfold trimsS
    congr 1
    rw [← h]
  · rw [if_neg h]
    exact trims_stop _ _ h
/-- What is torn is trimmed off. -/
theorem trims_out {P : List ByteArray → Prop} {n N : Nat} {Ls : Nat → List Ent} {c : Nat × Ent} {l : List (Nat × List ByteArray)} (hP : ∀ Y, Rec n N (flat l) Y → P Y) : ∀ (T : List (Nat × Nat)) (D : Disk), D.down = false → Img n D.now N Ls c l T → Steady P D.sure D.waits →
    ((trimsS D T).2 = 0 ∧ Kept D (trimsS D T).1 ∧ Img n (trimsS D T).1.now N Ls c l [] ∧ Steady P (trimsS D T).1.sure (trimsS D T).1.waits) ∨ ((trimsS D T).2 = 9 ∧ FellTo P D (trimsS D T).1)
  | [], D, hu, hi, hs => .inl ⟨rfl, Kept.refl hu, hi, hs⟩
  | (x, m) :: T, D, hu, hi, hs => by
    rw [trimsS_cons]
    obtain ⟨h1, h2, h3⟩ := hi.trim
    have hnl : D.sure.length = n := by rw [← D.now_length]; exact hi.len
    rcases act_out (P := P) (kind := 1) (x := x) (long := m) (text := ⟨#[]⟩) hs hu (refused_none hu (by rw [hnl]; exact h1) (fun _ => h2) (fun e => by cases e)) (fun e => by cases e) (hP _ (.of h3)) with ⟨q1, q2, q3, q4⟩ | ⟨q1, q2⟩
    · rw [if_pos q1]
      rcases trims_out hP T (D.act 1 (x : Int) (m : Int) ⟨#[]⟩).1 q2.up (by rw [q3]; exact h3) q4 with ⟨r1, r2, r3, r4⟩ | ⟨r1, r2⟩
      · exact .inl ⟨r1, q2.trans r2, r3, r4⟩
      · exact .inr ⟨r1, r2.after q2⟩
    · rw [if_neg (by rw [q1]; decide)]
      exact .inr ⟨q1, q2⟩
/-- Open. -/
theorem open_out {n N : Nat} {D : Disk} {Ls : Nat → List Ent} {c : Nat × Ent} {l : List (Nat × List ByteArray)} {T : List (Nat × Nat)} (hu : D.down = false) (hw : D.waits = []) (hi : Img n D.sure N Ls c l T) (hz : Sz D.sure) (hrm : 1024 ≤ D.room) (hN : N < 1099511627776) :
    ((openS D (stS D.falls c l l.length) T).2.2 = 0 ∧ Live n (N + 1) (openS D (stS D.falls c l l.length) T).1 (openS D (stS D.falls c l l.length) T).2.1 ∧ (openS D (stS D.falls c l l.length) T).2.1.recs = flat l ∧ (openS D (stS D.falls c l l.length) T).2.1.sure = (flat l).length ∧ Kept D (openS D (stS D.falls c l l.length) T).1 ∧ (openS D (stS D.falls c l l.length) T).1.waits = []) ∨
    ((openS D (stS D.falls c l l.length) T).2.2 = 9 ∧ FellTo (Rec n (N + 1) (flat l)) D (openS D (stS D.falls c l l.length) T).1) := by
  have hnow : D.now = D.sure := by unfold Disk.now; rw [hw]; rfl
  have hst : Steady (Rec n (N + 1) (flat l)) D.sure D.waits := by rw [hw]; exact (Rec.of hi).mono (Nat.le_succ N)
  have hfew := hi.few hz
  have hfit : Fits (stS D.falls c l l.length) c l := ⟨rfl, rfl, rfl, by show (l.take l.length).flatMap (·.2) = _; rw [List.take_length]; rfl⟩
  unfold openS
  rcases trims_out (P := Rec n (N + 1) (flat l)) (fun Y hY => hY.mono (Nat.le_succ N)) T D hu (by rw [hnow]; exact hi) hst with ⟨p1, p2, p3, p4⟩ | ⟨p1, p2⟩
  · rw [andS_ok p1]
    generalize (trimsS D T).1 = D1 at *
    unfold beginS
    by_cases hl : (stS D.falls c l l.length).segs = []
    · rw [if_pos hl]
      have hl0 : l = [] := by
        have := hfit.num
        rw [hl] at this
        exact List.length_eq_zero_iff.1 this.symm
      have hleft : leftS D1 (stS D.falls c l l.length) ≠ 0 := by
        unfold leftS
        rw [hl, ← D1.now_length, p3.len]
        have := p3.n3
        simp; omega
      rcases turnS_out (P := Rec n (N + 1) (flat l)) (fun Y hY => hY) p4 p2.up p3 hfit (by rw [p2.room]; exact hrm) hN (by omega) with ⟨q1, -⟩ | ⟨-, q2, q3⟩ | ⟨-, q2, q3, q4, c', Ls', q5, q6, q7, q8⟩
      · exact absurd q1 hleft
      · exact .inr ⟨q2, q3.after p2⟩
      · left
        have hrec : (turnS D1 (stS D.falls c l l.length)).2.1.recs = flat l := by rw [q6.recs, flat_snoc, List.append_nil]
        refine ⟨q2, ⟨q3.up, ?_, by rw [q3.room, p2.room]; exact hrm, ?_, ⟨Ls', c', _, by unfold Disk.now; rw [q4]; exact q5, q6, by simp⟩, by rw [q7, hrec]; exact Nat.le_refl _⟩, hrec, q7, p2.trans q3, q4⟩
        · rw [q3.falls, p2.falls, q8]; rfl
        · rw [q4]
          refine Safe.of (by rw [q7, hrec]; exact Nat.le_refl _) ?_
          rw [q6.recs]; exact .of q5
    · rw [if_neg hl, syncS_out _ p2.up]
      left
      have hne : l ≠ [] := fun e => hl (by rw [e]; rfl)
      refine ⟨rfl, ⟨p2.up, p2.falls, by show 1024 ≤ D1.room; rw [p2.room]; exact hrm, ?_, ⟨Ls, c, l, p3.mono (Nat.le_succ N), ⟨hfit.at_, hfit.epoch, hfit.segs, hfit.recs⟩, hne⟩, Nat.le_refl _⟩, hfit.recs, by rw [← hfit.recs], p2.trans (kept_sync p2.up), rfl⟩
      refine Safe.of (Nat.le_refl _) ?_
      show Rec n (N + 1) (stS D.falls c l l.length).recs D1.now
      rw [hfit.recs]
      exact (Rec.of p3).mono (Nat.le_succ N)
  · rw [andS_no (by rw [p1]; decide)]
    exact .inr ⟨p1, p2⟩
theorem bud_openS {n : Nat} {D : Disk} {S : Stor} {T : List (Nat × Nat)} (h : Bud n D) (hT : T.length ≤ 3) : Bud (n + 7) (openS D S T).1 := by
  unfold openS
  have h1 := (bud_trims h T).mono (m := n + 3) (by omega)
  by_cases e : (trimsS D T).2 = 0
  · rw [andS_ok e]
    unfold beginS
    split
    · exact bud_turnS h1
    · unfold syncS andS
      split <;> exact h1.sync.mono (by omega)
  · rw [andS_no e]
    exact h1.mono (by omega)
theorem Img.tears3 {n N : Nat} {X : List ByteArray} {Ls : Nat → List Ent} {c : Nat × Ent} {l : List (Nat × List ByteArray)} {T : List (Nat × Nat)} (h : Img n X N Ls c l T) : T.length ≤ 3 := by
  have hs : T.map (·.1) ⊆ [0, 1, (l.getLast?.map (·.1)).getD 0] := fun x hx => by
    obtain ⟨t, ht, rfl⟩ := List.mem_map.1 hx
    rcases h.tears t ht with e | e
    · have : t.1 = 0 ∨ t.1 = 1 := by omega
      rcases this with e | e <;> simp [e]
    · rw [e]; simp
  have := List.Nodup.length_le_of_subset h.dup hs
  rw [List.length_map] at this
  exact this
end Sg
end Go.Proofs.YtdmbombjkinboaaGreat
