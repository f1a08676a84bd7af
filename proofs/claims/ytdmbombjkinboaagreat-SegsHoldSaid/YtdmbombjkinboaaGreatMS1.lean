/- Merged by program: Plain mathematics of segs: what a disk's extents hold; what a change makes of it. No walk. | Plain mathematics of segs: what the calls of a store make of its disk, whatever power fails. No walk. | Plain mathematics of segs: turning, appending, opening, whatever power fails. No walk. | Plain mathematics of segs: a store that stands, its appends; how it is opened. No walk. | Plain mathematics of segs: what Open makes of a disk. No walk. | Plain mathematics of segs: no extent has more than its room, while no cut is laid. No walk. -/
import Derived.Test.YtdmbombjkinboaaGreatYOpn3
namespace Go.Proofs.YtdmbombjkinboaaGreat
open Dk Sg Fr
namespace Sg

/-- An extent holds these bodies, and nothing else. -/
def Wh (t : ByteArray) (bs : List (List UInt8)) : Prop := t.data.toList = frms bs ∧ ∀ b ∈ bs, may b
theorem fst_none {s : List UInt8} {n : Nat} (h : fst s = (n, 4)) : s = [] := by
  unfold fst at h
  split at h
  · assumption
  repeat (split at h; · injection h with _ h; exact absurd h (by decide))
  injection h with _ h; exact absurd h (by decide)
theorem Wh.of {t : ByteArray} {bs : List (List UInt8)} {m : Nat} (h : Scans t.data.toList bs m 4) : Wh t bs := by
  obtain ⟨h1, h2, h3⟩ := h.front
  have h4 : fst (t.data.toList.drop m) = ((fst (t.data.toList.drop m)).1, 4) := by rw [← h3]
  have h5 := fst_none h4
  refine ⟨?_, h2⟩
  rw [← h1]
  conv => lhs; rw [← List.take_append_drop m t.data.toList]
  rw [h5, List.append_nil]
theorem Wh.scan {t : ByteArray} {bs : List (List UInt8)} (h : Wh t bs) : Scans t.data.toList bs (frms bs).length 4 := by
  rw [h.1]; exact Scans.all h.2
theorem Wh.nil : Wh ⟨#[]⟩ [] := ⟨rfl, fun _ h => by cases h⟩
theorem Wh.snoc {t : ByteArray} {bs : List (List UInt8)} {b : List UInt8} (h : Wh t bs) (hb : may b) : Wh (t ++ str (frm b)) (bs ++ [b]) := by
  refine ⟨?_, fun x hx => ?_⟩
  · rw [frms_append, ByteArray.toList_data_append, h.1]
    show _ ++ frm b = _ ++ (frm b ++ [])
    rw [List.append_nil]
  · rcases List.mem_append.1 hx with hx | hx
    · exact h.2 x hx
    · rw [List.mem_singleton.1 hx]; exact hb
/-- A frame that is torn. -/
theorem torn_cases (t : ByteArray) {b : List UInt8} (hb : may b) (k : Nat) :
    (∀ bs, Wh t bs → Wh (t ++ (str (frm b)).extract 0 k) bs) ∨ (∀ bs, Wh t bs → Scans (t ++ (str (frm b)).extract 0 k).data.toList bs t.size 7) ∨ (t ++ (str (frm b)).extract 0 k = t ++ str (frm b)) := by
  by_cases hk : (frm b).length ≤ k
  · right; right
    congr 1
    apply ext_list
    rw [dextract_data, str_data, List.take_of_length_le hk]
  · by_cases h0 : k = 0
    · left
      subst h0
      intro bs h
      have : (str (frm b)).extract 0 0 = ⟨#[]⟩ := by apply ext_list; rw [dextract_data]; rfl
      rw [this]
      have : t ++ (⟨#[]⟩ : ByteArray) = t := by apply ext_list; rw [ByteArray.toList_data_append]; simp
      rw [this]; exact h
    · right; left
      intro bs h
      have hf := fst_cut b hb k (by omega) (by rw [frm_length] at hk; omega)
      have hs : Scans ((frm b).take k) [] 0 7 := .stop hf (by decide)
      have := Scans.frms h.2 hs
      rw [List.append_nil, Nat.add_zero, ← h.1] at this
      rw [ByteArray.toList_data_append, dextract_data, str_data]
      have e : t.size = t.data.toList.length := rfl
      rw [e]
      exact this
/-- Bodies in an extent that is whole, or torn as the tears say. -/
def Hl (T : List (Nat × Nat)) (x : Nat) (t : ByteArray) (bs : List (List UInt8)) : Prop := (x ∉ T.map (·.1) ∧ Wh t bs) ∨ ∃ m, (x, m) ∈ T ∧ Scans t.data.toList bs m 7
theorem Hl.wh {x : Nat} {t : ByteArray} {bs : List (List UInt8)} (h : Hl [] x t bs) : Wh t bs := by
  rcases h with h | ⟨m, h, -⟩
  · exact h.2
  · cases h
theorem Hl.of {x : Nat} {t : ByteArray} {bs : List (List UInt8)} (h : Wh t bs) : Hl [] x t bs := .inl ⟨by simp, h⟩
/-- All records of segments. -/
def flat (l : List (Nat × List ByteArray)) : List ByteArray := l.flatMap (·.2)
theorem flat_snoc (l : List (Nat × List ByteArray)) (s : Nat × List ByteArray) : flat (l ++ [s]) = flat l ++ s.2 := by unfold flat; rw [List.flatMap_append]; simp
/-- What extents hold: the lists, the one that counts, the segments with their records, the tears. -/
structure Img (n : Nat) (X : List ByteArray) (N : Nat) (Ls : Nat → List Ent) (c : Nat × Ent) (l : List (Nat × List ByteArray)) (T : List (Nat × Nat)) : Prop where
  len : X.length = n
  n3 : 3 ≤ n
  n64 : n ≤ 64
  lists : ∀ j, j < 2 → Hl T j (exAt X j) ((Ls j).map entB)
  ents : ∀ j, j < 2 → ∀ e ∈ Ls j, EntOk n e ∧ e.epoch ≤ c.2.epoch ∧ (e.epoch = c.2.epoch → j = c.1 ∧ e = c.2)
  cnt : c = (0, ⟨0, []⟩) ∨ (c.1 < 2 ∧ c.2 ∈ Ls c.1)
  epoch : c.2.epoch ≤ N
  exts : l.map (·.1) = c.2.exts
  segs : ∀ i x rs, l[i]? = some (x, rs) → Hl T x (exAt X x) (headB i (ahead l i) :: rs.map (·.data.toList))
  recs : ∀ s ∈ l, ∀ r ∈ s.2, 1 ≤ r.size ∧ r.size ≤ 900
  dup : (T.map (·.1)).Nodup
  tears : ∀ t ∈ T, t.1 < 2 ∨ l.getLast?.map (·.1) = some t.1
theorem Img.mono {n N M : Nat} {X : List ByteArray} {Ls : Nat → List Ent} {c : Nat × Ent} {l : List (Nat × List ByteArray)} {T : List (Nat × Nat)} (h : Img n X N Ls c l T) (hN : N ≤ M) : Img n X M Ls c l T :=
  ⟨h.len, h.n3, h.n64, h.lists, h.ents, h.cnt, Nat.le_trans h.epoch hN, h.exts, h.segs, h.recs, h.dup, h.tears⟩
section
variable {n N : Nat} {X : List ByteArray} {Ls : Nat → List Ent} {c : Nat × Ent} {l : List (Nat × List ByteArray)} {T : List (Nat × Nat)}
theorem Img.c1 (h : Img n X N Ls c l T) : c.1 < 2 := by
  rcases h.cnt with e | e
  · rw [e]; decide
  · exact e.1
theorem Img.ext (h : Img n X N Ls c l T) : (∀ x ∈ c.2.exts, 2 ≤ x ∧ x < n) ∧ c.2.exts.Nodup := by
  rcases h.cnt with e | ⟨e1, e2⟩
  · rw [e]; exact ⟨fun x hx => (by cases hx), List.nodup_nil⟩
  · have := (h.ents c.1 e1 c.2 e2).1
    exact ⟨this.exts, this.dup⟩
theorem Img.mem (h : Img n X N Ls c l T) {s : Nat × List ByteArray} (hs : s ∈ l) : 2 ≤ s.1 ∧ s.1 < n := h.ext.1 s.1 (by rw [← h.exts]; exact List.mem_map.2 ⟨s, hs, rfl⟩)
theorem nodup_bound {l : List Nat} {n : Nat} (hd : l.Nodup) (hx : ∀ x ∈ l, 2 ≤ x ∧ x < n) : l.length + 2 ≤ n ∨ l = [] := by
  by_cases h : l = []
  · exact .inr h
  left
  have hs : l ⊆ (List.range n).drop 2 := fun x hxl => by
    obtain ⟨h1, h2⟩ := hx x hxl
    rw [List.mem_iff_getElem?]
    refine ⟨x - 2, ?_⟩
    rw [List.getElem?_drop, show 2 + (x - 2) = x by omega, List.getElem?_range h2]
  have := List.Nodup.length_le_of_subset hd hs
  rw [List.length_drop, List.length_range] at this
  have : 0 < l.length := List.length_pos_iff.2 h
  omega
theorem Img.num (h : Img n X N Ls c l T) : l.length + 2 ≤ n := by
  have h1 : l.length = c.2.exts.length := by rw [← h.exts, List.length_map]
  have := h.n3
  rcases nodup_bound h.ext.2 h.ext.1 with e | e
  · omega
  · rw [h1, e]; simp; omega
theorem EntOk.num62 {n : Nat} {e : Ent} (h : EntOk n e) : e.exts.length ≤ 62 := by
  have := h.num
  rcases nodup_bound h.dup h.exts with h1 | h1
  · omega
  · rw [h1]; exact Nat.zero_le _
/-- Another extent than those that count is another one now. -/
theorem Img.other (h : Img n X N Ls c l T) {x : Nat} (h2 : 2 ≤ x) (hx : x ∉ c.2.exts) (s : ByteArray) : Img n (X.set x s) N Ls c l T := by
  refine ⟨by rw [List.length_set]; exact h.len, h.n3, h.n64, fun j hj => ?_, h.ents, h.cnt, h.epoch, h.exts, fun i y rs hi => ?_, h.recs, h.dup, h.tears⟩
  · rw [exAt_set_other (by omega)]; exact h.lists j hj
  · have : x ≠ y := fun e => hx (by rw [← h.exts, e]; exact List.mem_map.2 ⟨_, List.mem_of_getElem? hi, rfl⟩)
    rw [exAt_set_other this]; exact h.segs i y rs hi
/-- What is torn is trimmed off. -/
theorem Hl.trim {x m y : Nat} {t : ByteArray} {bs : List (List UInt8)} (hd : (((x, m) :: T).map (·.1)).Nodup) (h : Hl ((x, m) :: T) y t bs) (s : ByteArray) (hs : y = x → s = t.extract 0 m) (hs' : y ≠ x → s = t) : Hl T y s bs := by
  rw [List.map_cons, List.nodup_cons] at hd
  by_cases e : y = x
  · subst e
    rcases h with ⟨h1, -⟩ | ⟨m', h1, h2⟩
    · exact absurd (List.mem_cons_self ..) h1
    · have hm : m' = m := by
        rcases List.mem_cons.1 h1 with h1 | h1
        · injection h1
        · exact absurd (List.mem_map.2 ⟨_, h1, rfl⟩) hd.1
      subst hm
      refine .inl ⟨hd.1, ?_⟩
      rw [hs rfl]
      exact ⟨by rw [dextract_data]; exact h2.front.1, h2.front.2.1⟩
  · rw [hs' e]
    rcases h with ⟨h1, h2⟩ | ⟨m', h1, h2⟩
    · exact .inl ⟨fun k => h1 (List.mem_cons_of_mem _ k), h2⟩
    · rcases List.mem_cons.1 h1 with h1 | h1
      · injection h1 with h1 _; exact absurd h1 e
      · exact .inr ⟨m', h1, h2⟩
theorem Img.trim {x m : Nat} (h : Img n X N Ls c l ((x, m) :: T)) : x < n ∧ m ≤ (exAt X x).size ∧ Img n (X.set x ((exAt X x).extract 0 m)) N Ls c l T := by
  have hx : x < 2 ∨ l.getLast?.map (·.1) = some x := h.tears (x, m) (List.mem_cons_self ..)
  have hxn : x < n := by
    rcases hx with h1 | h1
    · have := h.n3; omega
    · cases e : l.getLast? with
      | none => rw [e] at h1; cases h1
      | some s =>
        rw [e] at h1
        have h1 : s.1 = x := Option.some.inj h1
        have := (h.mem (List.mem_of_getLast? e)).2
        omega
  have key : ∀ bs, Hl ((x, m) :: T) x (exAt X x) bs → m ≤ (exAt X x).size := fun bs hh => by
    have hd := h.dup
    rw [List.map_cons, List.nodup_cons] at hd
    rcases hh with ⟨h1, -⟩ | ⟨m', h1, h2⟩
    · exact absurd (List.mem_cons_self ..) h1
    · rcases List.mem_cons.1 h1 with h1 | h1
      · injection h1 with _ h1
        have := h2.le.1
        rw [h1] at this
        exact this
      · exact absurd (List.mem_map.2 ⟨_, h1, rfl⟩) hd.1
  have hm : m ≤ (exAt X x).size := by
    rcases hx with h1 | h1
    · exact key _ (h.lists x h1)
    · cases e : l.getLast? with
      | none => rw [e] at h1; cases h1
      | some s =>
        rw [e] at h1
        injection h1 with h1
        obtain ⟨i, hi⟩ := List.mem_iff_getElem?.1 (List.mem_of_getLast? e)
        obtain ⟨y, rs⟩ := s
        have h1 : y = x := h1
        subst h1
        exact key _ (h.segs i y rs hi)
  refine ⟨hxn, hm, ⟨by rw [List.length_set]; exact h.len, h.n3, h.n64, fun j hj => ?_, h.ents, h.cnt, h.epoch, h.exts, fun i y rs hi => ?_, h.recs, ?_, fun t ht => h.tears t (List.mem_cons_of_mem _ ht)⟩⟩
  · exact Hl.trim h.dup (h.lists j hj) _ (fun e => by subst e; rw [exAt_set_same (by rw [h.len]; exact hxn)]) (fun e => exAt_set_other (fun k => e k.symm) _)
  · exact Hl.trim h.dup (h.segs i y rs hi) _ (fun e => by subst e; rw [exAt_set_same (by rw [h.len]; exact hxn)]) (fun e => exAt_set_other (fun k => e k.symm) _)
  · have := h.dup
    rw [List.map_cons, List.nodup_cons] at this
    exact this.2
/-- An extent that counts holds the same bodies, and is torn. -/
theorem Img.tear (h : Img n X N Ls c l []) {y m : Nat} {s : ByteArray} (hy : y < 2 ∨ l.getLast?.map (·.1) = some y) (hyn : y < n) (hs : ∀ bs, Wh (exAt X y) bs → Scans s.data.toList bs m 7) : Img n (X.set y s) N Ls c l [(y, m)] := by
  have key : ∀ z bs, Hl [] z (exAt X z) bs → Hl [(y, m)] z (exAt (X.set y s) z) bs := fun z bs hh => by
    by_cases e : y = z
    · subst e
      rw [exAt_set_same (by rw [h.len]; exact hyn)]
      exact .inr ⟨m, by simp, hs bs hh.wh⟩
    · rw [exAt_set_other e]
      exact .inl ⟨by simp; exact fun k => e k.symm, hh.wh⟩
  refine ⟨by rw [List.length_set]; exact h.len, h.n3, h.n64, fun j hj => key _ _ (h.lists j hj), h.ents, h.cnt, h.epoch, h.exts, fun i z rs hi => key _ _ (h.segs i z rs hi), h.recs, by simp, fun t ht => ?_⟩
  rw [List.mem_singleton.1 ht]; exact hy
/-- An extent that counts holds the same bodies. -/
theorem Img.same (h : Img n X N Ls c l []) {y : Nat} {s : ByteArray} (hyn : y < n) (hs : ∀ bs, Wh (exAt X y) bs → Wh s bs) : Img n (X.set y s) N Ls c l [] := by
  have key : ∀ z bs, Hl [] z (exAt X z) bs → Hl [] z (exAt (X.set y s) z) bs := fun z bs hh => by
    by_cases e : y = z
    · subst e
      rw [exAt_set_same (by rw [h.len]; exact hyn)]
      exact .of (hs bs hh.wh)
    · rw [exAt_set_other e]; exact hh
  exact ⟨by rw [List.length_set]; exact h.len, h.n3, h.n64, fun j hj => key _ _ (h.lists j hj), h.ents, h.cnt, h.epoch, h.exts, fun i z rs hi => key _ _ (h.segs i z rs hi), h.recs, h.dup, fun t ht => (by cases ht)⟩
theorem ahead_app {l k : List (Nat × List ByteArray)} {i : Nat} (h : i ≤ l.length) : ahead (l ++ k) i = ahead l i := by
  unfold ahead; rw [List.take_append_of_le_length h]
theorem ahead_all (l : List (Nat × List ByteArray)) : ahead l l.length = (flat l).length := by unfold ahead flat; rw [List.take_length]
theorem get_snoc {α : Type} {l : List α} {a b : α} {i : Nat} (h : (l ++ [a])[i]? = some b) : (i < l.length ∧ l[i]? = some b) ∨ (i = l.length ∧ b = a) := by
  by_cases hi : i < l.length
  · rw [List.getElem?_append_left hi] at h; exact .inl ⟨hi, h⟩
  · rw [List.getElem?_append_right (by omega)] at h
    have : i - l.length = 0 := by
      have := (List.getElem?_eq_some_iff.1 h).1
      simp at this; omega
    rw [this] at h
    exact .inr ⟨by omega, by simpa using h.symm⟩
theorem may_rec {r : ByteArray} (h : 1 ≤ r.size ∧ r.size ≤ 900) : may r.data.toList := by
  unfold may
  have : r.data.toList.length = r.size := rfl
  omega
/-- A record more. -/
theorem Img.more {l0 : List (Nat × List ByteArray)} {x : Nat} {rs : List ByteArray} (h : Img n X N Ls c (l0 ++ [(x, rs)]) []) {r : ByteArray} (hr : 1 ≤ r.size ∧ r.size ≤ 900) : Img n (X.set x (exAt X x ++ str (frm r.data.toList))) N Ls c (l0 ++ [(x, rs ++ [r])]) [] := by
  have hx := h.mem (s := (x, rs)) (by simp)
  have hnd := h.ext.2
  rw [← h.exts, List.map_append, List.nodup_append] at hnd
  refine ⟨by rw [List.length_set]; exact h.len, h.n3, h.n64, fun j hj => ?_, h.ents, h.cnt, h.epoch, ?_, fun i z zs hi => ?_, fun s hs q hq => ?_, h.dup, fun t ht => (by cases ht)⟩
  · have hx2 : 2 ≤ x := hx.1
    rw [exAt_set_other (by omega)]; exact h.lists j hj
  · rw [← h.exts, List.map_append, List.map_append]; rfl
  · rcases get_snoc hi with ⟨h1, h2⟩ | ⟨h1, h2⟩
    · have h3 := h.segs i z zs (by rw [List.getElem?_append_left h1]; exact h2)
      rw [ahead_app (by omega)] at h3
      rw [ahead_app (by omega), exAt_set_other (fun e => hnd.2.2 z (List.mem_map.2 ⟨_, List.mem_of_getElem? h2, rfl⟩) x (by simp) e.symm)]
      exact h3
    · injection h2 with h2 h4
      subst h1 h2 h4
      have h3 := h.segs l0.length z rs (by rw [List.getElem?_append_right (Nat.le_refl _)]; simp)
      rw [ahead_app (by omega)] at h3
      rw [ahead_app (by omega), exAt_set_same (by rw [h.len]; exact hx.2), List.map_append]
      exact .of (Wh.snoc (bs := headB l0.length (ahead l0 l0.length) :: rs.map (·.data.toList)) h3.wh (may_rec hr))
  · rcases List.mem_append.1 hs with hs | hs
    · exact h.recs s (List.mem_append_left _ hs) q hq
    · rw [List.mem_singleton.1 hs] at hq
      rcases List.mem_append.1 hq with hq | hq
      · exact h.recs (x, rs) (by simp) q hq
      · rw [List.mem_singleton.1 hq]; exact hr
/-- A list more. -/
theorem Img.list (h : Img n X N Ls c l []) {j f : Nat} (hj : j < 2) (hf : f ∉ c.2.exts) (hf2 : 2 ≤ f) (hfn : f < n) (hw : Wh (exAt X f) [headB l.length (flat l).length]) (he : c.2.epoch < 1099511627776) :
    EntOk n ⟨c.2.epoch + 1, c.2.exts ++ [f]⟩ ∧ Img n (X.set j (exAt X j ++ entS ⟨c.2.epoch + 1, c.2.exts ++ [f]⟩)) (N + 1) (fun k => if k = j then Ls j ++ [⟨c.2.epoch + 1, c.2.exts ++ [f]⟩] else Ls k) (j, ⟨c.2.epoch + 1, c.2.exts ++ [f]⟩) (l ++ [(f, [])]) [] := by
  have hok : EntOk n ⟨c.2.epoch + 1, c.2.exts ++ [f]⟩ := by
    refine ⟨Nat.succ_pos _, he, fun x hx => ?_, ?_, h.n64⟩
    · rcases List.mem_append.1 hx with hx | hx
      · exact h.ext.1 x hx
      · rw [List.mem_singleton.1 hx]; exact ⟨hf2, hfn⟩
    · show (c.2.exts ++ [f]).Nodup
      rw [List.nodup_append]
      exact ⟨h.ext.2, by simp, fun a ha b hb e => hf (by rw [List.mem_singleton.1 hb] at e; rw [← e]; exact ha)⟩
  have hlen := hok.len (EntOk.num62 hok)
  have hjn : j < X.length := by have := h.len; have := h.n3; omega
  have hmay : may (entB ⟨c.2.epoch + 1, c.2.exts ++ [f]⟩) := ⟨hlen.1, by omega⟩
  refine ⟨hok, ⟨by rw [List.length_set]; exact h.len, h.n3, h.n64, fun k hk => ?_, fun k hk e hme => ?_, ?_, Nat.succ_le_succ h.epoch, ?_, fun i z zs hi => ?_, fun s hs q hq => ?_, by simp, fun t ht => (by cases ht)⟩⟩
  · by_cases e : k = j
    · subst e
      rw [exAt_set_same hjn]
      simp only [if_true]
      rw [List.map_append]
      exact .of (Wh.snoc (h.lists k hk).wh hmay)
    · simp only [if_neg e]
      rw [exAt_set_other (fun k => e k.symm)]; exact h.lists k hk
  · have key : ∀ e ∈ Ls k, EntOk n e ∧ e.epoch ≤ c.2.epoch + 1 ∧ (e.epoch = c.2.epoch + 1 → k = j ∧ e = ⟨c.2.epoch + 1, c.2.exts ++ [f]⟩) := fun e he => by
      obtain ⟨h1, h2, -⟩ := h.ents k hk e he
      exact ⟨h1, by omega, fun k => by omega⟩
    by_cases ek : k = j
    · subst ek
      simp only [if_true] at hme
      rcases List.mem_append.1 hme with hme | hme
      · exact key e hme
      · rw [List.mem_singleton.1 hme]
        exact ⟨hok, Nat.le_refl _, fun _ => ⟨rfl, rfl⟩⟩
    · simp only [if_neg ek] at hme
      exact key e hme
  · exact .inr ⟨hj, by simp⟩
  · show (l ++ [(f, ([] : List ByteArray))]).map (fun s => s.1) = c.2.exts ++ [f]
    rw [List.map_append, h.exts]; rfl
  · rcases get_snoc hi with ⟨h1, h2⟩ | ⟨h1, h2⟩
    · have hz := h.mem (List.mem_of_getElem? h2)
      rw [ahead_app (by omega), exAt_set_other (show j ≠ z by have : 2 ≤ z := hz.1; omega)]
      exact h.segs i z zs h2
    · injection h2 with h2 h4
      subst h1 h2 h4
      rw [ahead_app (by omega), exAt_set_other (show j ≠ z by omega), ahead_all]
      exact .of hw
  · rcases List.mem_append.1 hs with hs | hs
    · exact h.recs s hs q hq
    · rw [List.mem_singleton.1 hs] at hq
      cases hq
/-- The other lists are gone. -/
theorem Img.gone (h : Img n X N Ls c l []) {j : Nat} (hj : j < 2) (hc : j ≠ c.1) : Img n (X.set j ⟨#[]⟩) N (fun k => if k = j then [] else Ls k) c l [] := by
  have hjn : j < X.length := by have := h.len; have := h.n3; omega
  refine ⟨by rw [List.length_set]; exact h.len, h.n3, h.n64, fun k hk => ?_, fun k hk e hme => ?_, ?_, h.epoch, h.exts, fun i z zs hi => ?_, h.recs, by simp, fun t ht => (by cases ht)⟩
  · by_cases e : k = j
    · subst e
      rw [exAt_set_same hjn]
      simp only [if_true]
      exact .of Wh.nil
    · simp only [if_neg e]
      rw [exAt_set_other (fun k => e k.symm)]; exact h.lists k hk
  · by_cases ek : k = j
    · subst ek
      simp at hme
    · simp only [if_neg ek] at hme
      exact h.ents k hk e hme
  · rcases h.cnt with e | ⟨e1, e2⟩
    · exact .inl e
    · exact .inr ⟨e1, by rw [if_neg (Ne.symm hc)]; exact e2⟩
  · have hz := h.mem (List.mem_of_getElem? hi)
    rw [exAt_set_other (show j ≠ z by have : 2 ≤ z := hz.1; omega)]
    exact h.segs i z zs hi
end
end Sg
end Go.Proofs.YtdmbombjkinboaaGreat
namespace Go.Proofs.YtdmbombjkinboaaGreat
open Dk Sg Fr
namespace Sg

/-- Whatever of the changes that wait is made for good, P holds of the extents. -/
def Steady (P : List ByteArray → Prop) : List ByteArray → List Chg → Prop
  | X, [] => P X
  | X, c :: cs => P X ∧ (c.kind = 0 → ∀ t, P (made X { c with text := c.text.extract 0 t })) ∧ Steady P (made X c) cs
theorem Steady.first {P : List ByteArray → Prop} {X : List ByteArray} {cs : List Chg} (h : Steady P X cs) : P X := by
  cases cs with
  | nil => exact h
  | cons c cs => exact h.1
theorem Steady.mono {P Q : List ByteArray → Prop} (hPQ : ∀ Y, P Y → Q Y) : ∀ {cs : List Chg} {X : List ByteArray}, Steady P X cs → Steady Q X cs
  | [], X, h => hPQ X h
  | _ :: cs, X, h => ⟨hPQ X h.1, fun k t => hPQ _ (h.2.1 k t), Steady.mono hPQ (cs := cs) h.2.2⟩
theorem Steady.at {P : List ByteArray → Prop} : ∀ {cs : List Chg} {X : List ByteArray} (k : Nat), Steady P X cs → P (madeAll X (cs.take k)) ∧ ∀ c t, cs[k]? = some c → c.kind = 0 → P (made (madeAll X (cs.take k)) { c with text := c.text.extract 0 t })
  | [], X, k, h => ⟨by rw [List.take_nil]; exact h, fun c t hc => by simp at hc⟩
  | c :: cs, X, 0, h => ⟨h.1, fun d t hd h0 => by
      simp only [List.getElem?_cons_zero, Option.some.injEq] at hd
      subst hd
      exact h.2.1 h0 t⟩
  | c :: cs, X, k + 1, h => by
    have ih := Steady.at (cs := cs) k h.2.2
    rw [List.take_succ_cons]
    exact ⟨ih.1, fun d t hd h0 => ih.2 d t (by simpa using hd) h0⟩
theorem Steady.kept {P : List ByteArray → Prop} {X : List ByteArray} {ws : List Chg} (h : Steady P X ws) (keep torn : Int) : P (madeAll X (kept ws keep torn)) := by
  unfold Dk.kept
  obtain ⟨h1, h2⟩ := h.at (keepOf ws.length keep)
  cases hc : ws[keepOf ws.length keep]? with
  | none => rw [tornOf_none, List.append_nil]; exact h1
  | some c =>
    by_cases hk : c.kind = 0 ∧ 0 < torn
    · rw [tornOf_yes hk, madeAll_snoc]; exact h2 c _ hc hk.1
    · rw [tornOf_no hk, List.append_nil]; exact h1
theorem Steady.snoc {P : List ByteArray → Prop} {c : Chg} : ∀ {cs : List Chg} {X : List ByteArray}, Steady P X cs → (c.kind = 0 → ∀ t, P (made (madeAll X cs) { c with text := c.text.extract 0 t })) → P (made (madeAll X cs) c) → Steady P X (cs ++ [c])
  | [], _, h, h1, h2 => ⟨h, h1, h2⟩
  | _ :: cs, _, h, h1, h2 => ⟨h.1, h.2.1, Steady.snoc (cs := cs) h.2.2 h1 h2⟩
/-- A disk that is up goes on. -/
structure Kept (D D1 : Disk) : Prop where
  up : D1.down = false
  room : D1.room = D.room
  num : D1.sure.length = D.sure.length
  falls : D1.falls = D.falls
  laid : D.laid = false → D1.laid = false
theorem Kept.refl {D : Disk} (h : D.down = false) : Kept D D := ⟨h, rfl, rfl, rfl, id⟩
theorem Kept.trans {a b c : Disk} (h : Kept a b) (k : Kept b c) : Kept a c := ⟨k.up, k.room.trans h.room, k.num.trans h.num, k.falls.trans h.falls, fun e => k.laid (h.laid e)⟩
/-- The power failed: a cut struck. -/
structure FellTo (P : List ByteArray → Prop) (D D1 : Disk) : Prop where
  down : D1.down = true
  waits : D1.waits = []
  p : P D1.sure
  room : D1.room = D.room
  num : D1.sure.length = D.sure.length
  was : D.laid = true
  laid : D1.laid = false
theorem FellTo.mono {P Q : List ByteArray → Prop} {D D1 : Disk} (h : FellTo P D D1) (hPQ : ∀ Y, P Y → Q Y) : FellTo Q D D1 := ⟨h.down, h.waits, hPQ _ h.p, h.room, h.num, h.was, h.laid⟩
theorem FellTo.after {P : List ByteArray → Prop} {D D1 D2 : Disk} (k : Kept D D1) (h : FellTo P D1 D2) : FellTo P D D2 :=
  ⟨h.down, h.waits, h.p, h.room.trans k.room, h.num.trans k.num, (by
    cases e : D.laid with
    | true => rfl
    | false => exact absurd (h.was.symm.trans (k.laid e)) (by decide)), h.laid⟩
theorem act_out {P : List ByteArray → Prop} {D : Disk} (hs : Steady P D.sure D.waits) (hu : D.down = false) {kind x long : Nat} {text : ByteArray} (hr : D.refused kind x long text = 0)
    (h1 : kind = 0 → ∀ t, P (made D.now ⟨kind, x, long, text.extract 0 t⟩)) (h2 : P (made D.now ⟨kind, x, long, text⟩)) :
    ((D.act kind x long text).2 = 0 ∧ Kept D (D.act kind x long text).1 ∧ (D.act kind x long text).1.now = made D.now ⟨kind, x, long, text⟩ ∧ Steady P (D.act kind x long text).1.sure (D.act kind x long text).1.waits) ∨
    ((D.act kind x long text).2 = 9 ∧ FellTo P D (D.act kind x long text).1) := by
  have hst : Steady P D.sure (D.waits ++ [⟨kind, x, long, text⟩]) := hs.snoc h1 h2
  unfold Disk.act
  rw [if_pos hr, Int.toNat_natCast, Int.toNat_natCast]
  unfold Disk.puts
  by_cases hl : D.laid = true ∧ D.after ≤ 0
  · rw [if_pos hl]
    right
    refine ⟨rfl, ?_⟩
    unfold Disk.fail
    rw [if_neg (by simp [hu])]
    exact ⟨rfl, rfl, hst.kept _ _, rfl, madeAll_length _ _, hl.1, rfl⟩
  · rw [if_neg hl]
    left
    refine ⟨rfl, ⟨hu, rfl, rfl, rfl, id⟩, ?_, hst⟩
    show madeAll D.sure (D.waits ++ [_]) = _
    rw [madeAll_snoc]; rfl
theorem refused_none {D : Disk} (hu : D.down = false) {kind x long : Nat} {text : ByteArray} (hx : x < D.sure.length) (h1 : kind = 1 → long ≤ (exAt D.now x).size) (h0 : kind = 0 → (text.size : Int) ≤ D.room - ((exAt D.now x).size : Int)) : D.refused kind x long text = 0 := by
  unfold Disk.refused
  rw [if_neg (by rw [hu]; decide), if_neg (by omega), if_neg, if_neg]
  · rintro ⟨e, h⟩
    have := h0 e
    rw [Int.toNat_natCast] at h
    omega
  · rintro ⟨e, h⟩
    have := h1 e
    rw [Int.toNat_natCast] at h
    omega
theorem now_sync (D : Disk) : ({ D with sure := D.now, waits := [] } : Disk).now = D.now := rfl
theorem syncS_out {D : Disk} (S : Stor) (hu : D.down = false) : syncS D S = ({ D with sure := D.now, waits := [] }, { S with sure := S.recs.length }, 0) := by
  unfold syncS
  rw [sync_err D hu, andS_ok rfl]
theorem kept_sync {D : Disk} (hu : D.down = false) : Kept D { D with sure := D.now, waits := [] } := ⟨hu, rfl, D.now_length, rfl, id⟩
theorem set_two (X : List ByteArray) (x : Nat) (a b : ByteArray) : (X.set x a).set x b = X.set x b := by
  apply List.ext_getElem?
  intro i
  rw [List.getElem?_set, List.getElem?_set, List.getElem?_set, List.length_set]
  by_cases h : x = i <;> simp [h]
theorem none_app (t : ByteArray) : (⟨#[]⟩ : ByteArray) ++ t = t := by apply ext_list; rw [ByteArray.toList_data_append]; rfl
theorem exAt_empty {X : List ByteArray} {x : Nat} (h : x < X.length) (t : ByteArray) : (X.set x ⟨#[]⟩).set x (exAt (X.set x ⟨#[]⟩) x ++ t) = X.set x t := by
  rw [exAt_set_same h, set_two, none_app]
theorem putS_out {P : List ByteArray → Prop} {D : Disk} (S : Stor) {x : Nat} {t : ByteArray} (hs : Steady P D.sure D.waits) (hu : D.down = false) (hx : x < D.sure.length) (h0 : P (D.now.set x ⟨#[]⟩)) (ht : ∀ k, P (D.now.set x (t.extract 0 k))) (h1 : P (D.now.set x t)) (hr : (t.size : Int) ≤ D.room) :
    ((putS D S x t).2.2 = 0 ∧ (putS D S x t).2.1 = { S with sure := S.recs.length } ∧ Kept D (putS D S x t).1 ∧ (putS D S x t).1.sure = D.now.set x t ∧ (putS D S x t).1.waits = []) ∨ ((putS D S x t).2.2 = 9 ∧ FellTo P D (putS D S x t).1) := by
  have hxn : x < D.now.length := by rw [D.now_length]; exact hx
  have a1 := act_out (kind := 2) (x := x) (long := 0) (text := ⟨#[]⟩) hs hu (refused_none hu hx (fun e => by cases e) (fun e => by cases e)) (fun e => by cases e) h0
  have e2 : made D.now ⟨2, x, 0, ⟨#[]⟩⟩ = D.now.set x ⟨#[]⟩ := rfl
  rw [e2] at a1
  unfold putS
  rcases a1 with ⟨p1, p2, p3, p4⟩ | ⟨p1, p2⟩
  · rw [show (0 : Int) = ((0 : Nat) : Int) from rfl, andS_ok p1]
    generalize (D.act 2 (x : Int) ((0 : Nat) : Int) ⟨#[]⟩).1 = D1 at *
    have e3 : ∀ u, made D1.now ⟨0, x, 0, u⟩ = D.now.set x u := fun u => by
      rw [p3]; exact exAt_empty hxn u
    have a2 := act_out (kind := 0) (x := x) (long := 0) (text := t) p4 p2.up (refused_none p2.up (by rw [p2.num]; exact hx) (fun e => by cases e) (fun _ => by rw [p3, exAt_set_same hxn, p2.room]; show _ ≤ _ - ((0 : Nat) : Int); omega)) (fun _ k => by rw [e3]; exact ht k) (by rw [e3]; exact h1)
    rw [e3] at a2
    rcases a2 with ⟨q1, q2, q3, q4⟩ | ⟨q1, q2⟩
    · rw [andS_ok q1, syncS_out S q2.up]
      left
      exact ⟨rfl, rfl, (p2.trans q2).trans (kept_sync q2.up), q3, rfl⟩
    · rw [andS_no (by rw [q1]; decide)]
      right
      exact ⟨q1, q2.after p2⟩
  · rw [show (0 : Int) = ((0 : Nat) : Int) from rfl, andS_no (by rw [p1]; decide)]
    right
    exact ⟨p1, p2⟩
/-- The extents hold the records R, whole or with a torn end. -/
def Rec (n N : Nat) (R : List ByteArray) (X : List ByteArray) : Prop := ∃ Ls c l T, Img n X N Ls c l T ∧ flat l = R
/-- The extents hold a beginning of R, of at least k records. -/
def Safe (n N : Nat) (R : List ByteArray) (k : Nat) (X : List ByteArray) : Prop := ∃ m, k ≤ m ∧ m ≤ R.length ∧ Rec n N (R.take m) X
theorem Rec.mono {n N M : Nat} {R X : List ByteArray} (h : Rec n N R X) (hN : N ≤ M) : Rec n M R X := by
  obtain ⟨Ls, c, l, T, h1, h2⟩ := h
  exact ⟨Ls, c, l, T, h1.mono hN, h2⟩
theorem Safe.of {n N : Nat} {R X : List ByteArray} {k : Nat} (hk : k ≤ R.length) (h : Rec n N R X) : Safe n N R k X := ⟨R.length, hk, Nat.le_refl _, by rw [List.take_length]; exact h⟩
theorem Safe.more {n N M : Nat} {R X : List ByteArray} {k : Nat} (h : Safe n N R k X) (hN : N ≤ M) (r : ByteArray) : Safe n M (R ++ [r]) k X := by
  obtain ⟨m, h1, h2, h3⟩ := h
  exact ⟨m, h1, by rw [List.length_append]; omega, by rw [List.take_append_of_le_length h2]; exact h3.mono hN⟩
theorem Safe.mono {n N M : Nat} {R X : List ByteArray} {k : Nat} (h : Safe n N R k X) (hN : N ≤ M) : Safe n M R k X := by
  obtain ⟨m, h1, h2, h3⟩ := h
  exact ⟨m, h1, h2, h3.mono hN⟩
section
variable {n N : Nat} {X : List ByteArray} {Ls : Nat → List Ent} {c : Nat × Ent} {l : List (Nat × List ByteArray)} {T : List (Nat × Nat)}
/-- A record that is torn. -/
theorem Img.more_torn {l0 : List (Nat × List ByteArray)} {x : Nat} {rs : List ByteArray} (h : Img n X N Ls c (l0 ++ [(x, rs)]) []) {r : ByteArray} (hr : 1 ≤ r.size ∧ r.size ≤ 900) (k : Nat) :
    Rec n N (flat (l0 ++ [(x, rs)])) (X.set x (exAt X x ++ (str (frm r.data.toList)).extract 0 k)) ∨ Rec n N (flat (l0 ++ [(x, rs)]) ++ [r]) (X.set x (exAt X x ++ (str (frm r.data.toList)).extract 0 k)) := by
  have hx := h.mem (s := (x, rs)) (by simp)
  rcases torn_cases (exAt X x) (may_rec hr) k with e | e | e
  · exact .inl ⟨_, _, _, _, h.same hx.2 e, rfl⟩
  · exact .inl ⟨_, _, _, _, h.tear (.inr (by simp)) hx.2 e, rfl⟩
  · rw [e]
    refine .inr ⟨_, _, _, _, h.more hr, ?_⟩
    rw [flat_snoc, flat_snoc, List.append_assoc]
/-- A list that is torn. -/
theorem Img.list_torn (h : Img n X N Ls c l []) {j f : Nat} (hj : j < 2) (hf : f ∉ c.2.exts) (hf2 : 2 ≤ f) (hfn : f < n) (hw : Wh (exAt X f) [headB l.length (flat l).length]) (he : c.2.epoch < 1099511627776) (k : Nat) :
    Rec n (N + 1) (flat l) (X.set j (exAt X j ++ (entS ⟨c.2.epoch + 1, c.2.exts ++ [f]⟩).extract 0 k)) := by
  obtain ⟨hok, hi⟩ := h.list hj hf hf2 hfn hw he
  have hlen := hok.len (EntOk.num62 hok)
  have hjn : j < n := by have := h.n3; omega
  rcases torn_cases (exAt X j) (b := entB ⟨c.2.epoch + 1, c.2.exts ++ [f]⟩) ⟨hlen.1, by omega⟩ k with e | e | e
  · exact ⟨_, _, _, _, (h.same hjn e).mono (Nat.le_succ _), rfl⟩
  · exact ⟨_, _, _, _, (h.tear (.inl hj) hjn e).mono (Nat.le_succ _), rfl⟩
  · unfold entS at hi ⊢
    rw [e]
    exact ⟨_, _, _, _, hi, by rw [flat_snoc, List.append_nil]⟩
end
end Sg
end Go.Proofs.YtdmbombjkinboaaGreat
namespace Go.Proofs.YtdmbombjkinboaaGreat
open Dk Sg Fr
namespace Sg

theorem segsAt_fst (l : List (Nat × List ByteArray)) (i : Nat) : (segsAt l i).map (·.1) = l.map (·.1) := by
  apply List.ext_getElem?
  intro j
  unfold segsAt
  rw [List.getElem?_map, List.getElem?_mapIdx, List.getElem?_map]
  cases l[j]? <;> rfl
theorem segsAt_snoc (l : List (Nat × List ByteArray)) (s : Nat × List ByteArray) : segsAt (l ++ [s]) (l.length + 1) = segsAt l l.length ++ [(s.1, (flat l).length)] := by
  apply List.ext_getElem?
  intro j
  by_cases hj : j < l.length
  · obtain ⟨⟨x, rs⟩, hx⟩ : ∃ y, l[j]? = some y := ⟨_, List.getElem?_eq_getElem hj⟩
    rw [segsAt_get (x := x) (rs := rs) (by rw [List.getElem?_append_left hj]; exact hx), List.getElem?_append_left (by rw [segsAt_length]; exact hj), segsAt_get hx, if_pos (by omega), if_pos hj, ahead_app (by omega)]
  · by_cases e : j = l.length
    · subst e
      obtain ⟨x, rs⟩ := s
      rw [segsAt_get (x := x) (rs := rs) (by rw [List.getElem?_append_right (Nat.le_refl _)]; simp), List.getElem?_append_right (by rw [segsAt_length]; omega), segsAt_length, if_pos (by omega), ahead_app (by omega), ahead_all, Nat.sub_self]
      rfl
    · rw [List.getElem?_eq_none (by rw [segsAt_length]; simp; omega), List.getElem?_eq_none (by rw [List.length_append, segsAt_length]; simp; omega)]
/-- A store is what the extents hold. -/
structure Fits (S : Stor) (c : Nat × Ent) (l : List (Nat × List ByteArray)) : Prop where
  at_ : S.at_ = c.1
  epoch : S.epoch = c.2.epoch
  segs : S.segs = segsAt l l.length
  recs : S.recs = flat l
theorem Fits.exts {S : Stor} {c : Nat × Ent} {l : List (Nat × List ByteArray)} (h : Fits S c l) : S.exts = l.map (·.1) := by
  unfold Stor.exts; rw [h.segs, segsAt_fst]
theorem Fits.num {S : Stor} {c : Nat × Ent} {l : List (Nat × List ByteArray)} (h : Fits S c l) : S.segs.length = l.length := by rw [h.segs, segsAt_length]
theorem freeN_lt (l : List Nat) : ∀ (f x y : Nat), x ≤ y → y < freeN l f x → y ∈ l
  | 0, x, y, h1, h2 => by rw [freeN] at h2; omega
  | f + 1, x, y, h1, h2 => by
    rw [freeN] at h2
    split at h2
    · rename_i hx
      by_cases e : y = x
      · rw [e]; exact hx
      · exact freeN_lt l f (x + 1) y (by omega) h2
    · omega
theorem free_ok {n N : Nat} {X : List ByteArray} {Ls : Nat → List Ent} {c : Nat × Ent} {l : List (Nat × List ByteArray)} {T : List (Nat × Nat)} {S : Stor} (h : Img n X N Ls c l T) (hf : Fits S c l) (hl : l.length + 2 < n) :
    S.free ∉ c.2.exts ∧ 2 ≤ S.free ∧ S.free < n := by
  have he : S.exts = c.2.exts := by rw [hf.exts, h.exts]
  have h64 := h.n64
  have hb : ∀ x ∈ c.2.exts, x < 64 := fun x hx => by have := (h.ext.1 x hx).2; omega
  unfold Stor.free
  rw [he]
  refine ⟨freeN_not hb 64 2 (by omega), freeN_ge _ _ _, ?_⟩
  apply Nat.lt_of_not_le
  intro hn
  have hs : (List.range n).drop 2 ⊆ c.2.exts := fun x hx => by
    obtain ⟨i, hi⟩ := List.mem_iff_getElem?.1 hx
    rw [List.getElem?_drop] at hi
    obtain ⟨h1, h2⟩ := List.getElem?_eq_some_iff.1 hi
    rw [List.getElem_range] at h2
    rw [List.length_range] at h1
    exact freeN_lt _ 64 2 x (by omega) (by omega)
  have hd : ((List.range n).drop 2).Nodup := List.nodup_range.sublist (List.drop_sublist _ _)
  have := List.Nodup.length_le_of_subset hd hs
  rw [List.length_drop, List.length_range, ← h.exts, List.length_map] at this
  omega
theorem head_may {n k : Nat} (hn : n < 256) (hk : k < 256 ^ 4) : may (headB n k) ∧ (headS n k).size ≤ 28 := by
  have h := head_len n k hn hk
  refine ⟨⟨h.1, by omega⟩, ?_⟩
  unfold headS
  rw [str_size, frm_length]; omega
theorem ent_size {n : Nat} {e : Ent} (h : EntOk n e) : (entS e).size ≤ 168 := by
  have := (h.len (EntOk.num62 h)).2
  unfold entS
  rw [str_size, frm_length]; omega
theorem Wh.one {b : List UInt8} (h : may b) : Wh (str (frm b)) [b] := by
  have := Wh.snoc Wh.nil h
  rwa [none_app] at this
theorem roomD_up {D : Disk} (hu : D.down = false) {x : Nat} (hx : x < D.sure.length) : roomD D x = D.room - ((exAt D.now x).size : Int) := by
  have : eerr D x = 0 := by unfold eerr; rw [if_neg (by rw [hu]; decide), if_neg (by omega)]
  unfold roomD
  rw [if_pos this, Int.toNat_natCast]
/-- What laying a list makes of a disk. -/
theorem layS_out {P : List ByteArray → Prop} {n N f : Nat} {D : Disk} {S : Stor} {Ls : Nat → List Ent} {c : Nat × Ent} {l : List (Nat × List ByteArray)} (hP : ∀ Y, Rec n (N + 1) (flat l) Y → P Y) (hs : Steady P D.sure D.waits) (hu : D.down = false) (hi : Img n D.now N Ls c l []) (hrm : 1024 ≤ D.room)
    (hat : S.at_ = c.1) (hent : S.ent = ⟨c.2.epoch + 1, c.2.exts ++ [f]⟩) (hf : f ∉ c.2.exts) (hf2 : 2 ≤ f) (hfn : f < n) (hw : Wh (exAt D.now f) [headB l.length (flat l).length]) (he : c.2.epoch < 1099511627776) :
    ((layS D S).2.2 = 0 ∧ Kept D (layS D S).1 ∧ (layS D S).1.waits = [] ∧ ∃ j Ls', (layS D S).2.1 = { S with at_ := j, sure := S.recs.length } ∧ Img n (layS D S).1.sure (N + 1) Ls' (j, ⟨c.2.epoch + 1, c.2.exts ++ [f]⟩) (l ++ [(f, [])]) []) ∨
    ((layS D S).2.2 = 9 ∧ FellTo P D (layS D S).1) := by
  have hc1 := hi.c1
  have hn := hi.n3
  have hnl : D.sure.length = n := by rw [← D.now_length]; exact hi.len
  unfold layS
  rw [hent]
  by_cases hr : roomD D S.at_ < ((entS ⟨c.2.epoch + 1, c.2.exts ++ [f]⟩).size : Int)
  · rw [if_pos hr, hat]
    have hg := hi.gone (j := 1 - c.1) (by omega) (by omega)
    have hjn : 1 - c.1 < D.now.length := by rw [hi.len]; omega
    have hw' : Wh (exAt (D.now.set (1 - c.1) ⟨#[]⟩) f) [headB l.length (flat l).length] := by rw [exAt_set_other (by omega)]; exact hw
    obtain ⟨hok, hl⟩ := hg.list (j := 1 - c.1) (by omega) hf hf2 hfn hw' he
    rw [exAt_empty hjn] at hl
    have ht := fun k => hg.list_torn (j := 1 - c.1) (by omega) hf hf2 hfn hw' he k
    have hsz := ent_size hok
    rcases putS_out (P := P) (D := D) { S with at_ := 1 - c.1 } (x := 1 - c.1) (t := entS ⟨c.2.epoch + 1, c.2.exts ++ [f]⟩) hs hu (by rw [hnl]; omega) (hP _ ⟨_, _, _, _, hg.mono (Nat.le_succ N), rfl⟩) (fun k => hP _ (by have := ht k; rwa [exAt_empty hjn] at this)) (hP _ ⟨_, _, _, _, hl, by rw [flat_snoc, List.append_nil]⟩) (by omega) with ⟨p1, p2, p3, p4, p5⟩ | ⟨p1, p2⟩
    · exact .inl ⟨p1, p3, p5, 1 - c.1, _, p2, by rw [p4]; exact hl⟩
    · exact .inr ⟨p1, p2⟩
  · rw [if_neg hr, hat]
    obtain ⟨hok, hl⟩ := hi.list hc1 hf hf2 hfn hw he
    have hroom : ((entS ⟨c.2.epoch + 1, c.2.exts ++ [f]⟩).size : Int) ≤ D.room - ((exAt D.now c.1).size : Int) := by
      rw [hat, roomD_up hu (by rw [hnl]; omega)] at hr
      omega
    have a := act_out (P := P) (kind := 0) (x := c.1) (long := 0) (text := entS ⟨c.2.epoch + 1, c.2.exts ++ [f]⟩) hs hu (refused_none hu (by rw [hnl]; omega) (fun e => by cases e) (fun _ => hroom)) (fun _ k => hP _ (hi.list_torn hc1 hf hf2 hfn hw he k)) (hP _ ⟨_, _, _, _, hl, by rw [flat_snoc, List.append_nil]⟩)
    rcases a with ⟨q1, q2, q3, q4⟩ | ⟨q1, q2⟩
    · rw [show (0 : Int) = ((0 : Nat) : Int) from rfl, andS_ok q1, syncS_out S q2.up]
      exact .inl ⟨rfl, q2.trans (kept_sync q2.up), rfl, c.1, _, by rw [← hat], by show Img n (D.act 0 (c.1 : Int) ((0 : Nat) : Int) _).1.now _ _ _ _ _; rw [q3]; exact hl⟩
    · rw [show (0 : Int) = ((0 : Nat) : Int) from rfl, andS_no (by rw [q1]; decide)]
      exact .inr ⟨q1, q2⟩
/-- What turning to another segment makes of a disk and its store. -/
theorem turnS_out {P : List ByteArray → Prop} {n N : Nat} {D : Disk} {S : Stor} {Ls : Nat → List Ent} {c : Nat × Ent} {l : List (Nat × List ByteArray)} (hP : ∀ Y, Rec n (N + 1) (flat l) Y → P Y) (hs : Steady P D.sure D.waits) (hu : D.down = false) (hi : Img n D.now N Ls c l []) (hf : Fits S c l) (hrm : 1024 ≤ D.room) (hN : N < 1099511627776) (hrl : (flat l).length < 256 ^ 4) :
    (leftS D S = 0 ∧ turnS D S = (D, S, 6)) ∨
    (leftS D S ≠ 0 ∧ (turnS D S).2.2 = 9 ∧ FellTo P D (turnS D S).1) ∨
    (leftS D S ≠ 0 ∧ (turnS D S).2.2 = 0 ∧ Kept D (turnS D S).1 ∧ (turnS D S).1.waits = [] ∧ ∃ c' Ls', Img n (turnS D S).1.sure (N + 1) Ls' c' (l ++ [(S.free, [])]) [] ∧ Fits (turnS D S).2.1 c' (l ++ [(S.free, [])]) ∧ (turnS D S).2.1.sure = (flat l).length ∧ (turnS D S).2.1.falls = S.falls) := by
  have hnl : D.sure.length = n := by rw [← D.now_length]; exact hi.len
  have hep : S.epoch < 1099511627776 := by rw [hf.epoch]; have := hi.epoch; omega
  have hlt : l.length + 2 ≤ n := hi.num
  have h64 := hi.n64
  unfold turnS
  by_cases h0 : leftS D S = 0
  · left
    have hm : mayTurnS D S = 6 := by unfold mayTurnS; rw [if_pos (.inl h0)]
    rw [hm, if_pos (by decide)]
    exact ⟨h0, rfl⟩
  · right
    have hm : mayTurnS D S = 0 := by unfold mayTurnS; rw [if_neg (by rintro (e | e) <;> omega)]
    rw [hm, if_neg (by decide)]
    have hll : l.length + 2 < n := by
      unfold leftS at h0
      rw [hnl, hf.num] at h0
      omega
    obtain ⟨g1, g2, g3⟩ := free_ok hi hf hll
    rw [show S.segs.length = l.length from hf.num, show S.recs.length = (flat l).length by rw [hf.recs]]
    obtain ⟨hmay, hsz⟩ := head_may (n := l.length) (k := (flat l).length) (by omega) hrl
    have hoth : ∀ t, P (D.now.set S.free t) := fun t => hP _ ⟨_, _, _, _, (hi.other g2 g1 t).mono (Nat.le_succ N), rfl⟩
    rcases putS_out (P := P) (D := D) S (x := S.free) (t := headS l.length (flat l).length) hs hu (by rw [hnl]; exact g3) (hoth _) (fun k => hoth _) (hoth _) (by omega) with ⟨p1, p2, p3, p4, p5⟩ | ⟨p1, p2⟩
    · rw [thenS_ok p1, p2]
      have hnow : (putS D S S.free (headS l.length (flat l).length)).1.now = D.now.set S.free (headS l.length (flat l).length) := by
        unfold Disk.now; rw [p5, p4]; rfl
      generalize (putS D S S.free (headS l.length (flat l).length)).1 = D1 at *
      have hi1 : Img n D1.now N Ls c l [] := by rw [hnow]; exact hi.other g2 g1 _
      have hw : Wh (exAt D1.now S.free) [headB l.length (flat l).length] := by
        rw [hnow, exAt_set_same (by rw [D.now_length, hnl]; exact g3)]
        exact Wh.one hmay
      have hst : Steady P D1.sure D1.waits := by rw [p5, p4]; exact hoth _
      have hex : S.exts = c.2.exts := by rw [hf.exts, hi.exts]
      rcases layS_out (f := S.free) (S := { S with sure := S.recs.length, segs := S.segs ++ [(S.free, (flat l).length)], epoch := S.epoch + 1 }) hP hst p3.up hi1 (by rw [p3.room]; exact hrm) hf.at_ (by unfold Stor.ent Stor.exts; rw [List.map_append, ← hf.epoch, ← hex]; rfl) g1 g2 g3 hw (by rw [← hf.epoch]; exact hep) with ⟨q1, q2, q3, j, Ls', q4, q5⟩ | ⟨q1, q2⟩
      · right
        refine ⟨h0, q1, p3.trans q2, q3, _, Ls', q5, ?_, ?_, ?_⟩
        · rw [q4]
          exact ⟨rfl, by show S.epoch + 1 = c.2.epoch + 1; rw [hf.epoch], by show S.segs ++ _ = _; rw [List.length_append, hf.segs]; exact (segsAt_snoc l (S.free, [])).symm, by show S.recs = _; rw [hf.recs, flat_snoc, List.append_nil]⟩
        · rw [q4]; show S.recs.length = _; rw [hf.recs]
        · rw [q4]
      · exact .inl ⟨h0, q1, q2.after p3⟩
    · rw [thenS_no (by rw [p1]; decide)]
      exact .inl ⟨h0, p1, p2⟩
end Sg
end Go.Proofs.YtdmbombjkinboaaGreat
namespace Go.Proofs.YtdmbombjkinboaaGreat
open Dk Sg Fr
namespace Sg

theorem flat_few : ∀ (l : List (Nat × List ByteArray)) (K : Nat), (∀ s ∈ l, s.2.length ≤ K) → (flat l).length ≤ l.length * K
  | [], K, _ => Nat.zero_le _
  | s :: l, K, h => by
    have h1 := flat_few l K fun t ht => h t (List.mem_cons_of_mem _ ht)
    have h2 := h s (List.mem_cons_self ..)
    have e : flat (s :: l) = s.2 ++ flat l := rfl
    rw [e, List.length_append, List.length_cons, Nat.add_mul]; omega
theorem Img.few {n N : Nat} {X : List ByteArray} {Ls : Nat → List Ent} {c : Nat × Ent} {l : List (Nat × List ByteArray)} {T : List (Nat × Nat)} (h : Img n X N Ls c l T) (hz : Sz X) : (flat l).length ≤ 451422 := by
  have h1 := flat_few l 7281 fun s hs => by
    obtain ⟨i, hi⟩ := List.mem_iff_getElem?.1 hs
    obtain ⟨x, rs⟩ := s
    have key : ∀ m er, Scans (exAt X x).data.toList (headB i (ahead l i) :: rs.map (·.data.toList)) m er → rs.length ≤ 7281 := fun m er hh => by
      have h2 := hh.le
      have h3 : (exAt X x).data.toList.length = (exAt X x).size := rfl
      have h4 := hz.at x
      simp at h2
      omega
    rcases h.segs i x rs hi with ⟨-, hw⟩ | ⟨m, -, hw⟩
    · exact key _ _ hw.scan
    · exact key _ _ hw
  have h2 := h.num
  have h3 := h.n64
  have : l.length * 7281 ≤ 62 * 7281 := Nat.mul_le_mul_right _ (by omega)
  omega
/-- A store that stands on its disk. -/
structure Live (n N : Nat) (D : Disk) (S : Stor) : Prop where
  up : D.down = false
  falls : D.falls = S.falls
  room : 1024 ≤ D.room
  steady : Steady (Safe n N S.recs S.sure) D.sure D.waits
  img : ∃ Ls c l, Img n D.now N Ls c l [] ∧ Fits S c l ∧ l ≠ []
  sure : S.sure ≤ S.recs.length
theorem Live.mono {n N M : Nat} {D : Disk} {S : Stor} (h : Live n N D S) (hN : N ≤ M) : Live n M D S := by
  obtain ⟨Ls, c, l, h1, h2, h3⟩ := h.img
  exact ⟨h.up, h.falls, h.room, h.steady.mono fun Y hY => hY.mono hN, ⟨Ls, c, l, h1.mono hN, h2, h3⟩, h.sure⟩
theorem Live.fine {n N : Nat} {D : Disk} {S : Stor} (h : Live n N D S) (hok : D.Ok) (hN : N ≤ 1099511627776) : Fine S := by
  obtain ⟨Ls, c, l, h1, h2, h3⟩ := h.img
  have hn := h1.num
  have h64 := h1.n64
  refine ⟨by rw [h2.at_]; have := h1.c1; omega, by rw [h2.epoch]; have := h1.epoch; omega, by rw [h2.num]; omega, fun x hx => ?_, by rw [h2.recs]; have := h1.few hok.fits.all; omega, fun e => h3 ?_⟩
  · rw [h2.exts, h1.exts] at hx
    have := (h1.ext.1 x hx).2
    omega
  · have := h2.num
    rw [e] at this
    exact List.length_eq_zero_iff.1 this.symm
theorem Live.num {n N : Nat} {D : Disk} {S : Stor} (h : Live n N D S) : D.sure.length = n ∧ 3 ≤ n ∧ n ≤ 64 := by
  obtain ⟨Ls, c, l, h1, -, -⟩ := h.img
  exact ⟨by rw [← D.now_length]; exact h1.len, h1.n3, h1.n64⟩
/-- The power fails. -/
theorem Live.fail {n N : Nat} {D : Disk} {S : Stor} (h : Live n N D S) (keep torn : Int) : (D.fail keep torn).down = true ∧ (D.fail keep torn).waits = [] ∧ Safe n N S.recs S.sure (D.fail keep torn).sure ∧ (D.fail keep torn).room = D.room := by
  unfold Disk.fail
  rw [if_neg (by rw [h.up]; decide)]
  exact ⟨rfl, rfl, h.steady.kept keep torn, rfl⟩
/-- A cut is laid. -/
theorem Live.lay {n N : Nat} {D : Disk} {S : Stor} (h : Live n N D S) (a k t : Int) : Live n N (D.lay a k t) S := ⟨h.up, h.falls, h.room, h.steady, h.img, h.sure⟩
theorem Live.fell {n N : Nat} {D : Disk} {S : Stor} (h : Live n N D S) : fellS D S = false := by
  unfold fellS
  rw [h.up, h.falls]; simp
theorem Rec.of {n N : Nat} {X : List ByteArray} {Ls : Nat → List Ent} {c : Nat × Ent} {l : List (Nat × List ByteArray)} {T : List (Nat × Nat)} (h : Img n X N Ls c l T) : Rec n N (flat l) X := ⟨Ls, c, l, T, h, rfl⟩
/-- Sync. -/
theorem Live.sync {n N : Nat} {D : Disk} {S : Stor} (h : Live n N D S) : syncPub D S = ({ D with sure := D.now, waits := [] }, { S with sure := S.recs.length }, 0) ∧ Live n N { D with sure := D.now, waits := [] } { S with sure := S.recs.length } := by
  obtain ⟨Ls, c, l, h1, h2, h3⟩ := h.img
  refine ⟨?_, h.up, h.falls, h.room, ?_, ⟨Ls, c, l, h1, ⟨h2.at_, h2.epoch, h2.segs, h2.recs⟩, h3⟩, Nat.le_refl _⟩
  · unfold syncPub
    rw [h.fell, if_neg (by decide), syncS_out S h.up]
  · exact Safe.of (Nat.le_refl _) (by rw [h2.recs]; exact .of h1)
theorem last_of {S : Stor} {c : Nat × Ent} {l0 : List (Nat × List ByteArray)} {x : Nat} {rs : List ByteArray} (h : Fits S c (l0 ++ [(x, rs)])) : S.last = x := by
  unfold Stor.last
  rw [h.segs, List.length_append, List.length_singleton, segsAt_snoc, List.getLastD_eq_getLast?, List.getLast?_append]
  rfl
theorem frm_size (r : ByteArray) : (str (frm r.data.toList)).size = 8 + r.size := by rw [str_size, frm_length]; rfl
/-- The last step of an append. -/
theorem append_step {n N k0 : Nat} {D : Disk} {S : Stor} {Ls : Nat → List Ent} {c : Nat × Ent} {l0 : List (Nat × List ByteArray)} {x : Nat} {rs : List ByteArray} {r : ByteArray} (hu : D.down = false) (hi : Img n D.now N Ls c (l0 ++ [(x, rs)]) []) (hf : Fits S c (l0 ++ [(x, rs)])) (hr : 1 ≤ r.size ∧ r.size ≤ 900)
    (hs : Steady (Safe n N (S.recs ++ [r]) k0) D.sure D.waits) (hk : k0 ≤ S.recs.length) (hroom : (8 + r.size : Int) ≤ D.room - ((exAt D.now x).size : Int)) :
    ((D.act 0 S.last 0 (str (frm r.data.toList))).2 = 0 ∧ Kept D (D.act 0 S.last 0 (str (frm r.data.toList))).1 ∧ Steady (Safe n N (S.recs ++ [r]) k0) (D.act 0 S.last 0 (str (frm r.data.toList))).1.sure (D.act 0 S.last 0 (str (frm r.data.toList))).1.waits ∧
      Img n (D.act 0 S.last 0 (str (frm r.data.toList))).1.now N Ls c (l0 ++ [(x, rs ++ [r])]) [] ∧ Fits { S with recs := S.recs ++ [r] } c (l0 ++ [(x, rs ++ [r])])) ∨
    ((D.act 0 S.last 0 (str (frm r.data.toList))).2 = 9 ∧ FellTo (Safe n N (S.recs ++ [r]) k0) D (D.act 0 S.last 0 (str (frm r.data.toList))).1) := by
  have hx := hi.mem (s := (x, rs)) (by simp)
  have hnl : D.sure.length = n := by rw [← D.now_length]; exact hi.len
  have hfl : flat (l0 ++ [(x, rs ++ [r])]) = S.recs ++ [r] := by rw [hf.recs, flat_snoc, flat_snoc, List.append_assoc]
  have hfit : Fits { S with recs := S.recs ++ [r] } c (l0 ++ [(x, rs ++ [r])]) := by
    refine ⟨hf.at_, hf.epoch, ?_, hfl.symm⟩
    show S.segs = _
    rw [hf.segs, List.length_append, List.length_append]
    show segsAt (l0 ++ [(x, rs)]) (l0.length + 1) = segsAt (l0 ++ [(x, rs ++ [r])]) (l0.length + 1)
    rw [segsAt_snoc, segsAt_snoc]
  have hm := hi.more hr
  have hP1 : Safe n N (S.recs ++ [r]) k0 (made D.now ⟨0, x, 0, str (frm r.data.toList)⟩) := Safe.of (by rw [List.length_append]; omega) (by rw [← hfl]; exact .of hm)
  have hPt : ∀ t, Safe n N (S.recs ++ [r]) k0 (made D.now ⟨0, x, 0, (str (frm r.data.toList)).extract 0 t⟩) := fun t => by
    rcases hi.more_torn hr t with e | e
    · rw [← hf.recs] at e
      exact ⟨S.recs.length, hk, by rw [List.length_append]; omega, by rw [List.take_left]; exact e⟩
    · rw [← hf.recs] at e
      exact Safe.of (by rw [List.length_append]; omega) e
  rw [last_of hf]
  rcases act_out (kind := 0) (x := x) (long := 0) (text := str (frm r.data.toList)) hs hu (refused_none hu (by rw [hnl]; exact hx.2) (fun e => by cases e) (fun _ => by rw [frm_size]; omega)) (fun _ => hPt) hP1 with ⟨q1, q2, q3, q4⟩ | ⟨q1, q2⟩
  · exact .inl ⟨q1, q2, q4, by
      show Img n (D.act 0 (x : Int) ((0 : Nat) : Int) _).1.now _ _ _ _ _
      rw [q3]; exact hm, hfit⟩
  · exact .inr ⟨q1, q2⟩
theorem ne_snoc {α : Type} {l : List α} (h : l ≠ []) : ∃ k a, l = k ++ [a] := by
  rcases List.eq_nil_or_concat l with e | ⟨k, a, e⟩
  · exact absurd e h
  · exact ⟨k, a, by rw [e, List.concat_eq_append]⟩
/-- Append. -/
theorem Live.append {n N : Nat} {D : Disk} {S : Stor} (h : Live n N D S) (hok : D.Ok) (hN : N < 1099511627776) (r : ByteArray) :
    (r.size = 0 ∧ appendS D S r = (D, S, 0, 1)) ∨ (900 < r.size ∧ appendS D S r = (D, S, 0, 2)) ∨
    (1 ≤ r.size ∧ r.size ≤ 900 ∧ ((leftS D S = 0 ∧ roomD D S.last < (r.size : Int) + 8 ∧ appendS D S r = (D, S, 0, 6)) ∨
      ((appendS D S r).2.2.2 = 9 ∧ FellTo (Safe n (N + 1) (S.recs ++ [r]) S.sure) D (appendS D S r).1) ∨
      ((appendS D S r).2.2.2 = 0 ∧ (appendS D S r).2.2.1 = (S.recs.length : Int) ∧ Live n (N + 1) (appendS D S r).1 (appendS D S r).2.1 ∧ (appendS D S r).2.1.recs = S.recs ++ [r] ∧ S.sure ≤ (appendS D S r).2.1.sure ∧ Kept D (appendS D S r).1))) := by
  by_cases h0 : r.size = 0
  · exact .inl ⟨h0, if_pos h0⟩
  by_cases h9 : 900 < r.size
  · exact .inr (.inl ⟨h9, (if_neg h0).trans (if_pos h9)⟩)
  refine .inr (.inr ⟨by omega, by omega, ?_⟩)
  have hr : 1 ≤ r.size ∧ r.size ≤ 900 := ⟨by omega, by omega⟩
  obtain ⟨Ls, c, l, hi, hf, hl⟩ := h.img
  obtain ⟨l0, ⟨x, rs⟩, rfl⟩ := ne_snoc hl
  have hnl := h.num.1
  have hx := hi.mem (s := (x, rs)) (by simp)
  have hlast := last_of hf
  unfold appendS
  rw [if_neg h0, if_neg h9, h.fell, if_neg (by decide)]
  by_cases ht : roomD D S.last < (r.size : Int) + 8
  · rw [if_pos ht]
    rcases turnS_out (P := Safe n (N + 1) (S.recs ++ [r]) S.sure) (fun Y hY => ⟨S.recs.length, h.sure, by rw [List.length_append]; omega, by rw [List.take_left, hf.recs]; exact hY⟩) (h.steady.mono fun Y hY => hY.more (Nat.le_succ N) r) h.up hi hf h.room hN (by have := hi.few hok.fits.all; omega) with ⟨p1, p2⟩ | ⟨p1, p2, p3⟩ | ⟨p1, p2, p3, p4, c', Ls', p5, p6, p7, p8⟩
    · left
      rw [p2]
      exact ⟨p1, ht, rfl⟩
    · right; left
      simp only [p2]
      exact ⟨rfl, p3⟩
    · right
      simp only [p2]
      rw [if_neg (by decide)]
      have hrec : (turnS D S).2.1.recs = S.recs := (turnS_keeps D S).1
      generalize (turnS D S).1 = D1 at *
      generalize (turnS D S).2.1 = S1 at *
      have hnow : D1.now = D1.sure := by unfold Disk.now; rw [p4]; rfl
      have hx1 := p5.mem (s := (S.free, [])) (by simp)
      have hw : Wh (exAt D1.now S.free) [headB (l0 ++ [(x, rs)]).length (ahead (l0 ++ [(x, rs)] ++ [(S.free, [])]) (l0 ++ [(x, rs)]).length)] := by
        rw [hnow]
        exact (p5.segs (l0 ++ [(x, rs)]).length S.free [] (by rw [List.getElem?_append_right (Nat.le_refl _)]; simp)).wh
      have hfew := hi.few hok.fits.all
      have hnum := hi.num
      have h64 := hi.n64
      have hsz : (exAt D1.now S.free).size ≤ 28 := by
        rw [ahead_app (Nat.le_refl _), ahead_all] at hw
        have h1 := (head_may (n := (l0 ++ [(x, rs)]).length) (k := (flat (l0 ++ [(x, rs)])).length) (by omega) (by omega)).2
        have h2 := congrArg List.length hw.1
        have h3 : (exAt D1.now S.free).data.toList.length = (exAt D1.now S.free).size := rfl
        unfold headS at h1
        rw [str_size] at h1
        rw [h3] at h2
        rw [h2]
        show (frm _ ++ []).length ≤ 28
        rw [List.append_nil]; exact h1
      have hst : Steady (Safe n (N + 1) (S1.recs ++ [r]) S1.sure) D1.sure D1.waits := by
        rw [p4]
        refine ⟨S1.recs.length, by rw [p7, p6.recs, flat_snoc (l0 ++ [(x, rs)]), List.append_nil]; exact Nat.le_refl _, by rw [List.length_append]; omega, ?_⟩
        rw [List.take_left, p6.recs]
        exact .of p5
      have hkk : S1.sure ≤ S1.recs.length := by rw [p7, p6.recs, flat_snoc (l0 ++ [(x, rs)]), List.append_nil]; exact Nat.le_refl _
      rcases append_step p3.up (by rw [hnow]; exact p5) p6 hr hst hkk (by rw [p3.room]; have := h.room; omega) with ⟨q1, q2, q3, q4, q5⟩ | ⟨q1, q2⟩
      · right
        simp only [q1]
        rw [if_neg (by decide)]
        refine ⟨rfl, by rw [hrec], ⟨q2.up, ?_, by rw [q2.room, p3.room]; exact h.room, q3, ⟨_, _, _, q4, q5, by simp⟩, by show S1.sure ≤ (S1.recs ++ [r]).length; rw [List.length_append]; omega⟩, by show S1.recs ++ [r] = _; rw [hrec], ?_, p3.trans q2⟩
        · show _ = S1.falls
          rw [q2.falls, p3.falls, p8]; exact h.falls
        · show S.sure ≤ S1.sure
          rw [p7, ← hf.recs]; exact h.sure
      · left
        simp only [q1]
        rw [if_pos (by decide)]
        refine ⟨rfl, (q2.after p3).mono fun Y hY => ?_⟩
        obtain ⟨m, m1, m2, m3⟩ := hY
        rw [hrec] at m2 m3
        exact ⟨m, by rw [p7, ← hf.recs] at m1; have := h.sure; omega, m2, m3⟩
  · rw [if_neg ht]
    right
    rw [if_neg (by simp)]
    have hroom : (8 + r.size : Int) ≤ D.room - ((exAt D.now x).size : Int) := by
      rw [hlast, roomD_up h.up (by rw [hnl]; exact hx.2)] at ht
      omega
    rcases append_step h.up hi hf hr (h.steady.mono fun Y hY => hY.more (Nat.le_refl N) r) h.sure hroom with ⟨q1, q2, q3, q4, q5⟩ | ⟨q1, q2⟩
    · right
      simp only [q1]
      rw [if_neg (by decide)]
      refine ⟨rfl, rfl, ⟨q2.up, by rw [q2.falls]; exact h.falls, by rw [q2.room]; exact h.room, q3.mono fun Y hY => hY.mono (Nat.le_succ N), ⟨_, _, _, q4.mono (Nat.le_succ N), q5, by simp⟩, by show S.sure ≤ (S.recs ++ [r]).length; rw [List.length_append]; have := h.sure; omega⟩, rfl, Nat.le_refl _, q2⟩
    · left
      simp only [q1]
      rw [if_pos (by decide)]
      exact ⟨rfl, q2.mono fun Y hY => hY.mono (Nat.le_succ N)⟩
end Sg
end Go.Proofs.YtdmbombjkinboaaGreat
namespace Go.Proofs.YtdmbombjkinboaaGreat
open Dk Sg Fr
namespace Sg

theorem pickL_spec (x : Nat) : ∀ (l : List Ent) (c : Nat × Ent), c.2.epoch ≤ (pickL x l c).2.epoch ∧ (∀ e ∈ l, e.epoch ≤ (pickL x l c).2.epoch) ∧ (pickL x l c = c ∨ ∃ e ∈ l, pickL x l c = (x, e))
  | [], c => ⟨Nat.le_refl _, fun e h => (by cases h), .inl rfl⟩
  | e :: l, c => by
    obtain ⟨h1, h2, h3⟩ := pickL_spec x l (if c.2.epoch ≤ e.epoch then (x, e) else c)
    have hp : pickL x (e :: l) c = pickL x l (if c.2.epoch ≤ e.epoch then (x, e) else c) := rfl
    rw [hp]
    by_cases hc : c.2.epoch ≤ e.epoch
    · rw [if_pos hc] at h1 h2 h3 ⊢
      refine ⟨Nat.le_trans hc h1, fun d hd => ?_, .inr ?_⟩
      · rcases List.mem_cons.1 hd with rfl | hd
        · exact h1
        · exact h2 d hd
      · rcases h3 with h3 | ⟨d, hd, h3⟩
        · exact ⟨e, List.mem_cons_self .., h3⟩
        · exact ⟨d, List.mem_cons_of_mem _ hd, h3⟩
    · rw [if_neg hc] at h1 h2 h3 ⊢
      refine ⟨h1, fun d hd => ?_, ?_⟩
      · rcases List.mem_cons.1 hd with rfl | hd
        · omega
        · exact h2 d hd
      · rcases h3 with h3 | ⟨d, hd, h3⟩
        · exact .inl h3
        · exact .inr ⟨d, List.mem_cons_of_mem _ hd, h3⟩
theorem Img.pick {n N : Nat} {X : List ByteArray} {Ls : Nat → List Ent} {c : Nat × Ent} {l : List (Nat × List ByteArray)} {T : List (Nat × Nat)} (h : Img n X N Ls c l T) : pickL 1 (Ls 1) (pickL 0 (Ls 0) (0, ⟨0, []⟩)) = c := by
  obtain ⟨a1, a2, a3⟩ := pickL_spec 0 (Ls 0) (0, ⟨0, []⟩)
  obtain ⟨b1, b2, b3⟩ := pickL_spec 1 (Ls 1) (pickL 0 (Ls 0) (0, ⟨0, []⟩))
  have e0 := h.ents 0 (by decide)
  have e1 := h.ents 1 (by decide)
  rcases h.cnt with hc | ⟨hc1, hc2⟩
  · have n0 : ∀ e ∈ Ls 0, False := fun e he => by have := (e0 e he).2.1; have h3 := (e0 e he).1.one; rw [hc] at this; exact absurd (Nat.le_trans h3 this) (by simp)
    have n1 : ∀ e ∈ Ls 1, False := fun e he => by have := (e1 e he).2.1; have h3 := (e1 e he).1.one; rw [hc] at this; exact absurd (Nat.le_trans h3 this) (by simp)
    rcases b3 with b3 | ⟨e, he, -⟩
    · rw [b3]
      rcases a3 with a3 | ⟨e, he, -⟩
      · rw [a3, hc]
      · exact (n0 e he).elim
    · exact (n1 e he).elim
  · have hge : c.2.epoch ≤ (pickL 1 (Ls 1) (pickL 0 (Ls 0) (0, ⟨0, []⟩))).2.epoch := by
      have : c.1 = 0 ∨ c.1 = 1 := by omega
      rcases this with e | e
      · rw [e] at hc2; exact Nat.le_trans (a2 _ hc2) b1
      · rw [e] at hc2; exact b2 _ hc2
    have hone := (h.ents c.1 hc1 c.2 hc2).1.one
    rcases b3 with b3 | ⟨e, he, b3⟩
    · rw [b3] at hge ⊢
      rcases a3 with a3 | ⟨e, he, a3⟩
      · rw [a3] at hge
        exact absurd (Nat.le_trans hone hge) (by simp)
      · rw [a3] at hge ⊢
        have h1 := (e0 e he).2
        obtain ⟨k1, k2⟩ := h1.2 (Nat.le_antisymm h1.1 hge)
        rw [k1, k2]
    · rw [b3] at hge ⊢
      have h1 := (e1 e he).2
      obtain ⟨k1, k2⟩ := h1.2 (Nat.le_antisymm h1.1 hge)
      rw [k1, k2]
/-- Where the frames of an extent end, and why. -/
def tr (T : List (Nat × Nat)) (y : Nat) (bs : List (List UInt8)) : Nat × Nat :=
  match T.find? (fun t => t.1 == y) with
  | some t => (t.2, 7)
  | none => ((frms bs).length, 4)
theorem key_one {T : List (Nat × Nat)} (hd : (T.map (·.1)).Nodup) {y a b : Nat} (ha : (y, a) ∈ T) (hb : (y, b) ∈ T) : a = b := by
  induction T with
  | nil => cases ha
  | cons t T ih =>
    rw [List.map_cons, List.nodup_cons] at hd
    rcases List.mem_cons.1 ha with ha | ha
    · rcases List.mem_cons.1 hb with hb | hb
      · rw [← ha] at hb; injection hb with _ hb; exact hb.symm
      · exact absurd (by rw [← ha]; exact List.mem_map.2 ⟨_, hb, rfl⟩) hd.1
    · rcases List.mem_cons.1 hb with hb | hb
      · exact absurd (by rw [← hb]; exact List.mem_map.2 ⟨_, ha, rfl⟩) hd.1
      · exact ih hd.2 ha hb
theorem tr_spec {T : List (Nat × Nat)} (hd : (T.map (·.1)).Nodup) {y : Nat} {t : ByteArray} {bs : List (List UInt8)} (h : Hl T y t bs) :
    Scans t.data.toList bs (tr T y bs).1 (tr T y bs).2 ∧ (((tr T y bs).2 = 4 ∧ y ∉ T.map (·.1)) ∨ ((tr T y bs).2 = 7 ∧ (y, (tr T y bs).1) ∈ T)) := by
  unfold tr
  cases hf : T.find? (fun t => t.1 == y) with
  | none =>
    have hn : y ∉ T.map (·.1) := fun hm => by
      obtain ⟨t, ht, e⟩ := List.mem_map.1 hm
      have := List.find?_eq_none.1 hf t ht
      simp [e] at this
    rcases h with ⟨-, hw⟩ | ⟨m, hm, -⟩
    · exact ⟨hw.scan, .inl ⟨rfl, hn⟩⟩
    · exact absurd (List.mem_map.2 ⟨_, hm, rfl⟩) hn
  | some s =>
    have h1 := List.find?_some hf
    have h2 := List.mem_of_find?_eq_some hf
    obtain ⟨s1, s2⟩ := s
    have h1 : s1 = y := by simpa using h1
    subst h1
    rcases h with ⟨hn, -⟩ | ⟨m, hm, hs⟩
    · exact absurd (List.mem_map.2 ⟨_, h2, rfl⟩) hn
    · have := key_one hd hm h2
      subst this
      exact ⟨hs, .inr ⟨rfl, h2⟩⟩
theorem Img.retear {n N : Nat} {X : List ByteArray} {Ls : Nat → List Ent} {c : Nat × Ent} {l : List (Nat × List ByteArray)} {T T' : List (Nat × Nat)} (h : Img n X N Ls c l T) (hm : ∀ t, t ∈ T' ↔ t ∈ T) (hd : (T'.map (·.1)).Nodup) : Img n X N Ls c l T' := by
  have hk : ∀ y, y ∈ T'.map (·.1) ↔ y ∈ T.map (·.1) := fun y => by
    rw [List.mem_map, List.mem_map]
    exact ⟨fun ⟨t, h1, h2⟩ => ⟨t, (hm t).1 h1, h2⟩, fun ⟨t, h1, h2⟩ => ⟨t, (hm t).2 h1, h2⟩⟩
  have key : ∀ y t bs, Hl T y t bs → Hl T' y t bs := fun y t bs hh => by
    rcases hh with ⟨h1, h2⟩ | ⟨m, h1, h2⟩
    · exact .inl ⟨fun k => h1 ((hk y).1 k), h2⟩
    · exact .inr ⟨m, (hm _).2 h1, h2⟩
  exact ⟨h.len, h.n3, h.n64, fun j hj => key _ _ _ (h.lists j hj), h.ents, h.cnt, h.epoch, h.exts, fun i x rs hi => key _ _ _ (h.segs i x rs hi), h.recs, hd, fun t ht => h.tears t ((hm t).1 ht)⟩
theorem tS_still {T : List (Nat × Nat)} {l : List (Nat × List ByteArray)} {E : Nat → Nat × Nat} : ∀ {k : Nat}, (∀ i, i < k → (E i).2 = 4) → tS T l E k = T
  | 0, _ => rfl
  | k + 1, h => by
    have e : tS T l E (k + 1) = tearsOf (E k).2 (l.getD k (0, [])).1 (E k).1 (tS T l E k) := rfl
    rw [e, tS_still fun i hi => h i (by omega), h k (by omega)]
    rfl
/-- What is read when a store is opened. -/
theorem Img.form {n N : Nat} {X : List ByteArray} {Ls : Nat → List Ent} {c : Nat × Ent} {l : List (Nat × List ByteArray)} {T0 : List (Nat × Nat)} (h : Img n X N Ls c l T0) (hz : Sz X) :
    ∃ (L : Nat → Lst) (E : Nat → Nat × Nat), (∀ j, j < 2 → Scans (exAt X j).data.toList ((L j).l.map entB) (L j).m (L j).er ∧ ((L j).er = 4 ∨ (L j).er = 7) ∧ ∀ e ∈ (L j).l, EntOk n e ∧ e.exts.length ≤ 62) ∧ cAt L 2 = c ∧
      (∀ D : Disk, D.now = X → SegsOk n D l E) ∧ Img n X N Ls c l (tS (tAt L 2) l E l.length) := by
  obtain ⟨B, hB⟩ : ∃ B : Nat → List (List UInt8), B = fun i => headB i (ahead l i) :: (l.getD i (0, [])).2.map (·.data.toList) := ⟨_, rfl⟩
  obtain ⟨E, hE⟩ : ∃ E : Nat → Nat × Nat, E = fun i => tr T0 (l.getD i (0, [])).1 (B i) := ⟨_, rfl⟩
  obtain ⟨L, hL⟩ : ∃ L : Nat → Lst, L = fun j => ⟨Ls j, (tr T0 j ((Ls j).map entB)).1, (tr T0 j ((Ls j).map entB)).2⟩ := ⟨_, rfl⟩
  have hl0 : ∀ j, (L j).l = Ls j := fun j => by rw [hL]
  have hlt : ∀ j, j < 2 → Scans (exAt X j).data.toList ((Ls j).map entB) (L j).m (L j).er ∧ (((L j).er = 4 ∧ j ∉ T0.map (·.1)) ∨ ((L j).er = 7 ∧ (j, (L j).m) ∈ T0)) := fun j hj => by
    rw [hL]; exact tr_spec h.dup (h.lists j hj)
  have hst : ∀ i x rs, l[i]? = some (x, rs) → Scans (exAt X x).data.toList (headB i (ahead l i) :: rs.map (·.data.toList)) (E i).1 (E i).2 ∧ (((E i).2 = 4 ∧ x ∉ T0.map (·.1)) ∨ ((E i).2 = 7 ∧ (x, (E i).1) ∈ T0)) := fun i x rs hi => by
    have e : l.getD i (0, []) = (x, rs) := by rw [List.getD_eq_getElem?_getD, hi]; rfl
    rw [hE, hB]
    simp only [e]
    exact tr_spec h.dup (h.segs i x rs hi)
  have hnd : (l.map (·.1)).Nodup := by rw [h.exts]; exact h.ext.2
  have hlast : ∀ i x rs, l[i]? = some (x, rs) → x ∈ T0.map (·.1) → i + 1 = l.length := fun i x rs hi hx => by
    obtain ⟨t, ht, e⟩ := List.mem_map.1 hx
    have h2 := (h.mem (List.mem_of_getElem? hi)).1
    rcases h.tears t ht with h3 | h3
    · rw [e] at h3
      have h2 : 2 ≤ x := h2
      omega
    · rw [e, List.getLast?_eq_getElem?] at h3
      have hil := (List.getElem?_eq_some_iff.1 hi).1
      cases hz' : l[l.length - 1]? with
      | none => rw [hz'] at h3; cases h3
      | some s =>
        rw [hz'] at h3
        have h3 : s.1 = x := Option.some.inj h3
        have g1 : (l.map (·.1))[i]? = some x := by rw [List.getElem?_map, hi]; rfl
        have g2 : (l.map (·.1))[l.length - 1]? = some x := by rw [List.getElem?_map, hz', ← h3]; rfl
        have := (List.getElem?_inj (by rw [List.length_map]; exact hil) hnd).1 (g1.trans g2.symm)
        omega
  refine ⟨L, E, fun j hj => ?_, ?_, fun D hD => ?_, ?_⟩
  · rw [hl0]
    obtain ⟨h1, h2⟩ := hlt j hj
    exact ⟨h1, h2.imp (fun e => e.1) (fun e => e.1), fun e he => ⟨(h.ents j hj e he).1, EntOk.num62 (h.ents j hj e he).1⟩⟩
  · show pickL 1 (L 1).l (pickL 0 (L 0).l (0, ⟨0, []⟩)) = c
    rw [hl0, hl0]; exact h.pick
  · have hnum := h.num
    have h64 := h.n64
    refine ⟨by omega, by have := h.few hz; unfold flat at this; omega, fun i x rs hi => ?_⟩
    rw [hD]
    obtain ⟨h1, h2⟩ := hst i x rs hi
    exact ⟨(h.mem (List.mem_of_getElem? hi)).2, h1, h2.imp (fun e => e.1) (fun e => ⟨e.1, hlast i x rs hi (List.mem_map.2 ⟨_, e.2, rfl⟩)⟩), fun r hr => (h.recs _ (List.mem_of_getElem? hi) r hr).2⟩
  · have e2 : tAt L 2 = tearsOf (L 1).er 1 (L 1).m (tearsOf (L 0).er 0 (L 0).m []) := rfl
    have a0 := (hlt 0 (by decide)).2
    have a1 := (hlt 1 (by decide)).2
    have key : ∀ {y m : Nat}, (y, m) ∈ T0 → y ∈ T0.map (·.1) := fun hm => List.mem_map.2 ⟨_, hm, rfl⟩
    by_cases hl : l = []
    · have e3 : tS (tAt L 2) l E l.length = tAt L 2 := by rw [hl]; rfl
      rw [e3, e2]
      have hT : ∀ t ∈ T0, t.1 = 0 ∨ t.1 = 1 := fun t ht => by
        rcases h.tears t ht with h3 | h3
        · omega
        · rw [hl] at h3; cases h3
      refine h.retear (fun t => ⟨fun ht => ?_, fun ht => ?_⟩) ?_
      · unfold tearsOf at ht
        rcases a0 with ⟨x0, y0⟩ | ⟨x0, y0⟩ <;> rcases a1 with ⟨x1, y1⟩ | ⟨x1, y1⟩ <;> (rw [x0, x1] at ht; simp at ht) <;> (first | (rcases ht with rfl | rfl <;> assumption) | (subst ht; assumption))
      · obtain ⟨y, m⟩ := t
        unfold tearsOf
        rcases hT (y, m) ht with e | e
        · have e : y = 0 := e
          subst e
          rcases a0 with ⟨x0, y0⟩ | ⟨x0, y0⟩
          · exact absurd (key ht) y0
          · rw [key_one h.dup ht y0, x0]
            split <;> simp
        · have e : y = 1 := e
          subst e
          rcases a1 with ⟨x1, y1⟩ | ⟨x1, y1⟩
          · exact absurd (key ht) y1
          · rw [key_one h.dup ht y1, x1]
            simp
      · unfold tearsOf
        rcases a0 with ⟨x0, -⟩ | ⟨x0, -⟩ <;> rcases a1 with ⟨x1, -⟩ | ⟨x1, -⟩ <;> (rw [x0, x1]; simp)
    · obtain ⟨l0, ⟨x, rs⟩, rfl⟩ := ne_snoc hl
      have hxl : (l0 ++ [(x, rs)])[l0.length]? = some (x, rs) := by rw [List.getElem?_append_right (Nat.le_refl _)]; simp
      have hx2 : 2 ≤ x := (h.mem (List.mem_of_getElem? hxl)).1
      have a2 := (hst l0.length x rs hxl).2
      have e4 : ∀ i, i < l0.length → (E i).2 = 4 := fun i hi => by
        obtain ⟨⟨z, zs⟩, hz⟩ : ∃ y, (l0 ++ [(x, rs)])[i]? = some y := ⟨_, List.getElem?_eq_getElem (by simp; omega)⟩
        rcases (hst i z zs hz).2 with e | e
        · exact e.1
        · have := hlast i z zs hz (key e.2)
          rw [List.length_append, List.length_singleton] at this
          omega
      have e3 : tS (tAt L 2) (l0 ++ [(x, rs)]) E (l0 ++ [(x, rs)]).length = tearsOf (E l0.length).2 x (E l0.length).1 (tAt L 2) := by
        rw [List.length_append, List.length_singleton]
        show tearsOf (E l0.length).2 ((l0 ++ [(x, rs)]).getD l0.length (0, [])).1 (E l0.length).1 (tS (tAt L 2) _ E l0.length) = _
        rw [tS_still e4, List.getD_eq_getElem?_getD, hxl]
        rfl
      rw [e3, e2]
      have hT : ∀ t ∈ T0, t.1 = 0 ∨ t.1 = 1 ∨ t.1 = x := fun t ht => by
        rcases h.tears t ht with h3 | h3
        · omega
        · rw [List.getLast?_append] at h3
          have h3 : x = t.1 := Option.some.inj h3
          omega
      refine h.retear (fun t => ⟨fun ht => ?_, fun ht => ?_⟩) ?_
      · unfold tearsOf at ht
        rcases a0 with ⟨x0, y0⟩ | ⟨x0, y0⟩ <;> rcases a1 with ⟨x1, y1⟩ | ⟨x1, y1⟩ <;> rcases a2 with ⟨z2, y2⟩ | ⟨z2, y2⟩ <;> (rw [x0, x1, z2] at ht; simp at ht) <;>
          (first | (rcases ht with rfl | rfl | rfl <;> assumption) | (rcases ht with rfl | rfl <;> assumption) | (subst ht; assumption))
      · obtain ⟨y, m⟩ := t
        unfold tearsOf
        rcases hT (y, m) ht with e | e | e
        · have e : y = 0 := e
          subst e
          rcases a0 with ⟨x0, y0⟩ | ⟨x0, y0⟩
          · exact absurd (key ht) y0
          · rw [key_one h.dup ht y0, x0]
            split <;> split <;> simp
        · have e : y = 1 := e
          subst e
          rcases a1 with ⟨x1, y1⟩ | ⟨x1, y1⟩
          · exact absurd (key ht) y1
          · rw [key_one h.dup ht y1, x1]
            split <;> simp
        · have e : y = x := e
          subst e
          rcases a2 with ⟨z2, y2⟩ | ⟨z2, y2⟩
          · exact absurd (key ht) y2
          · rw [key_one h.dup ht y2, z2]
            simp
      · unfold tearsOf
        rcases a0 with ⟨x0, -⟩ | ⟨x0, -⟩ <;> rcases a1 with ⟨x1, -⟩ | ⟨x1, -⟩ <;> rcases a2 with ⟨z2, -⟩ | ⟨z2, -⟩ <;> (rw [x0, x1, z2]; simp) <;> omega
theorem trimsS_cons (D : Disk) (x m : Nat) (T : List (Nat × Nat)) : trimsS D ((x, m) :: T) = if (D.act 1 (x : Int) (m : Int) ⟨#[]⟩).2 = 0 then trimsS (D.act 1 (x : Int) (m : Int) ⟨#[]⟩).1 T else D.act 1 (x : Int) (m : Int) ⟨#[]⟩ := by
  have e : trimsS D ((x, m) :: T) = T.foldl (fun r t => if r.2 = 0 then r.1.act 1 t.1 t.2 ⟨#[]⟩ else r) (D.act 1 (x : Int) (m : Int) ⟨#[]⟩) := rfl
  rw [e]
  by_cases h : (D.act 1 (x : Int) (m : Int) ⟨#[]⟩).2 = 0
  · rw [if_pos h]
    unfold trimsS
    congr 1
    rw [← h]
  · rw [if_neg h]
    exact trims_stop _ _ h
/-- What is torn is trimmed off. -/
theorem trims_out {P : List ByteArray → Prop} {n N : Nat} {Ls : Nat → List Ent} {c : Nat × Ent} {l : List (Nat × List ByteArray)} (hP : ∀ Y, Rec n N (flat l) Y → P Y) : ∀ (T : List (Nat × Nat)) (D : Disk), D.down = false → Img n D.now N Ls c l T → Steady P D.sure D.waits →
    ((trimsS D T).2 = 0 ∧ Kept D (trimsS D T).1 ∧ Img n (trimsS D T).1.now N Ls c l [] ∧ Steady P (trimsS D T).1.sure (trimsS D T).1.waits) ∨ ((trimsS D T).2 = 9 ∧ FellTo P D (trimsS D T).1)
  | [], D, hu, hi, hs => .inl ⟨rfl, Kept.refl hu, hi, hs⟩
  | (x, m) :: T, D, hu, hi, hs => by
    rw [trimsS_cons]
    obtain ⟨h1, h2, h3⟩ := hi.trim
    have hnl : D.sure.length = n := by rw [← D.now_length]; exact hi.len
    rcases act_out (P := P) (kind := 1) (x := x) (long := m) (text := ⟨#[]⟩) hs hu (refused_none hu (by rw [hnl]; exact h1) (fun _ => h2) (fun e => by cases e)) (fun e => by cases e) (hP _ (.of h3)) with ⟨q1, q2, q3, q4⟩ | ⟨q1, q2⟩
    · rw [if_pos q1]
      rcases trims_out hP T (D.act 1 (x : Int) (m : Int) ⟨#[]⟩).1 q2.up (by rw [q3]; exact h3) q4 with ⟨r1, r2, r3, r4⟩ | ⟨r1, r2⟩
      · exact .inl ⟨r1, q2.trans r2, r3, r4⟩
      · exact .inr ⟨r1, r2.after q2⟩
    · rw [if_neg (by rw [q1]; decide)]
      exact .inr ⟨q1, q2⟩
/-- Open. -/
theorem open_out {n N : Nat} {D : Disk} {Ls : Nat → List Ent} {c : Nat × Ent} {l : List (Nat × List ByteArray)} {T : List (Nat × Nat)} (hu : D.down = false) (hw : D.waits = []) (hi : Img n D.sure N Ls c l T) (hz : Sz D.sure) (hrm : 1024 ≤ D.room) (hN : N < 1099511627776) :
    ((openS D (stS D.falls c l l.length) T).2.2 = 0 ∧ Live n (N + 1) (openS D (stS D.falls c l l.length) T).1 (openS D (stS D.falls c l l.length) T).2.1 ∧ (openS D (stS D.falls c l l.length) T).2.1.recs = flat l ∧ (openS D (stS D.falls c l l.length) T).2.1.sure = (flat l).length ∧ Kept D (openS D (stS D.falls c l l.length) T).1 ∧ (openS D (stS D.falls c l l.length) T).1.waits = []) ∨
    ((openS D (stS D.falls c l l.length) T).2.2 = 9 ∧ FellTo (Rec n (N + 1) (flat l)) D (openS D (stS D.falls c l l.length) T).1) := by
  have hnow : D.now = D.sure := by unfold Disk.now; rw [hw]; rfl
  have hst : Steady (Rec n (N + 1) (flat l)) D.sure D.waits := by rw [hw]; exact (Rec.of hi).mono (Nat.le_succ N)
  have hfew := hi.few hz
  have hfit : Fits (stS D.falls c l l.length) c l := ⟨rfl, rfl, rfl, by show (l.take l.length).flatMap (·.2) = _; rw [List.take_length]; rfl⟩
  unfold openS
  rcases trims_out (P := Rec n (N + 1) (flat l)) (fun Y hY => hY.mono (Nat.le_succ N)) T D hu (by rw [hnow]; exact hi) hst with ⟨p1, p2, p3, p4⟩ | ⟨p1, p2⟩
  · rw [andS_ok p1]
    generalize (trimsS D T).1 = D1 at *
    unfold beginS
    by_cases hl : (stS D.falls c l l.length).segs = []
    · rw [if_pos hl]
      have hl0 : l = [] := by
        have := hfit.num
        rw [hl] at this
        exact List.length_eq_zero_iff.1 this.symm
      have hleft : leftS D1 (stS D.falls c l l.length) ≠ 0 := by
        unfold leftS
        rw [hl, ← D1.now_length, p3.len]
        have := p3.n3
        simp; omega
      rcases turnS_out (P := Rec n (N + 1) (flat l)) (fun Y hY => hY) p4 p2.up p3 hfit (by rw [p2.room]; exact hrm) hN (by omega) with ⟨q1, -⟩ | ⟨-, q2, q3⟩ | ⟨-, q2, q3, q4, c', Ls', q5, q6, q7, q8⟩
      · exact absurd q1 hleft
      · exact .inr ⟨q2, q3.after p2⟩
      · left
        have hrec : (turnS D1 (stS D.falls c l l.length)).2.1.recs = flat l := by rw [q6.recs, flat_snoc, List.append_nil]
        refine ⟨q2, ⟨q3.up, ?_, by rw [q3.room, p2.room]; exact hrm, ?_, ⟨Ls', c', _, by unfold Disk.now; rw [q4]; exact q5, q6, by simp⟩, by rw [q7, hrec]; exact Nat.le_refl _⟩, hrec, q7, p2.trans q3, q4⟩
        · rw [q3.falls, p2.falls, q8]; rfl
        · rw [q4]
          refine Safe.of (by rw [q7, hrec]; exact Nat.le_refl _) ?_
          rw [q6.recs]; exact .of q5
    · rw [if_neg hl, syncS_out _ p2.up]
      left
      have hne : l ≠ [] := fun e => hl (by rw [e]; rfl)
      refine ⟨rfl, ⟨p2.up, p2.falls, by show 1024 ≤ D1.room; rw [p2.room]; exact hrm, ?_, ⟨Ls, c, l, p3.mono (Nat.le_succ N), ⟨hfit.at_, hfit.epoch, hfit.segs, hfit.recs⟩, hne⟩, Nat.le_refl _⟩, hfit.recs, by rw [← hfit.recs], p2.trans (kept_sync p2.up), rfl⟩
      refine Safe.of (Nat.le_refl _) ?_
      show Rec n (N + 1) (stS D.falls c l l.length).recs D1.now
      rw [hfit.recs]
      exact (Rec.of p3).mono (Nat.le_succ N)
  · rw [andS_no (by rw [p1]; decide)]
    exact .inr ⟨p1, p2⟩
theorem bud_openS {n : Nat} {D : Disk} {S : Stor} {T : List (Nat × Nat)} (h : Bud n D) (hT : T.length ≤ 3) : Bud (n + 7) (openS D S T).1 := by
  unfold openS
  have h1 := (bud_trims h T).mono (m := n + 3) (by omega)
  by_cases e : (trimsS D T).2 = 0
  · rw [andS_ok e]
    unfold beginS
    split
    · exact bud_turnS h1
    · unfold syncS andS
      split <;> exact h1.sync.mono (by omega)
  · rw [andS_no e]
    exact h1.mono (by omega)
theorem Img.tears3 {n N : Nat} {X : List ByteArray} {Ls : Nat → List Ent} {c : Nat × Ent} {l : List (Nat × List ByteArray)} {T : List (Nat × Nat)} (h : Img n X N Ls c l T) : T.length ≤ 3 := by
  have hs : T.map (·.1) ⊆ [0, 1, (l.getLast?.map (·.1)).getD 0] := fun x hx => by
    obtain ⟨t, ht, rfl⟩ := List.mem_map.1 hx
    rcases h.tears t ht with e | e
    · have : t.1 = 0 ∨ t.1 = 1 := by omega
      rcases this with e | e <;> simp [e]
    · rw [e]; simp
  have := List.Nodup.length_le_of_subset h.dup hs
  rw [List.length_map] at this
  exact this
end Sg
end Go.Proofs.YtdmbombjkinboaaGreat
namespace Go.Proofs.YtdmbombjkinboaaGreat
open Dk Sg Fr
namespace Sg

/-- No cut is laid, and no extent has more than its room. -/
def Rm (D : Disk) : Prop := D.laid = false ∧ ∀ x, ((exAt D.now x).size : Int) ≤ D.room
theorem Rm.new {n : Nat} {room : Int} (h : 0 ≤ room) : Rm (Disk.new n room) := ⟨rfl, fun x => by
  have : exAt (Disk.new n room).now x = ⟨#[]⟩ := by
    show exAt (List.replicate n (⟨#[]⟩ : ByteArray)) x = _
    unfold exAt
    rw [List.getD_eq_getElem?_getD, List.getElem?_replicate]
    split <;> rfl
  rw [this]; exact h⟩
theorem Rm.sync {D : Disk} (h : Rm D) : Rm D.sync.1 := by
  unfold Disk.sync
  split
  · exact h
  · exact ⟨h.1, h.2⟩
theorem Rm.act {D : Disk} (h : Rm D) {kind : Nat} (_ : kind ≤ 2) (x long : Int) (text : ByteArray) : Rm (D.act kind x long text).1 := by
  unfold Disk.act
  split
  · next hr =>
    obtain ⟨-, h0, h1, h2, h3⟩ := Disk.refused_zero hr
    unfold Disk.puts
    rw [if_neg (by rw [h.1]; simp)]
    refine ⟨h.1, fun y => ?_⟩
    have hn : ({ D with waits := D.waits ++ [⟨kind, x.toNat, long.toNat, text⟩], changes := D.changes + 1, after := if D.laid = true then D.after - 1 else D.after } : Disk).now = made D.now ⟨kind, x.toNat, long.toNat, text⟩ := madeAll_snoc _ _ _
    rw [hn]
    show ((exAt (made D.now ⟨kind, x.toNat, long.toNat, text⟩) y).size : Int) ≤ D.room
    by_cases e : x.toNat = y
    · subst e
      rw [exAt_made_same (c := ⟨kind, x.toNat, long.toNat, text⟩) (by show x.toNat < _; rw [D.now_length]; omega)]
      have hy := h.2 x.toNat
      unfold made1
      by_cases k0 : kind = 0
      · rw [if_pos k0, ByteArray.size_append]
        have := h3 k0
        show (((exAt D.now x.toNat).size + text.size : Nat) : Int) ≤ D.room
        omega
      · rw [if_neg k0]
        by_cases k1 : kind = 1
        · rw [if_pos k1, ByteArray.size_extract]
          show ((min long.toNat (exAt D.now x.toNat).size - 0 : Nat) : Int) ≤ D.room
          omega
        · rw [if_neg k1]
          show ((0 : Nat) : Int) ≤ D.room
          omega
    · rw [exAt_made_other (c := ⟨kind, x.toNat, long.toNat, text⟩) e]
      exact h.2 y
  · exact h
theorem rm_syncS {D : Disk} {S : Stor} (h : Rm D) : Rm (syncS D S).1 := by
  unfold syncS andS; split <;> exact h.sync
theorem rm_putS {D : Disk} {S : Stor} {x : Nat} {t : ByteArray} (h : Rm D) : Rm (putS D S x t).1 := by
  unfold putS
  by_cases h1 : (D.act 2 x 0 ⟨#[]⟩).2 = 0
  · rw [andS_ok h1]
    have b1 := h.act (kind := 2) (by decide) (x : Int) 0 ⟨#[]⟩
    by_cases h2 : ((D.act 2 x 0 ⟨#[]⟩).1.act 0 x 0 t).2 = 0
    · rw [andS_ok h2]
      exact rm_syncS (b1.act (kind := 0) (by decide) (x : Int) 0 t)
    · rw [andS_no h2]; exact b1.act (kind := 0) (by decide) (x : Int) 0 t
  · rw [andS_no h1]; exact h.act (kind := 2) (by decide) (x : Int) 0 ⟨#[]⟩
theorem rm_layS {D : Disk} {S : Stor} (h : Rm D) : Rm (layS D S).1 := by
  unfold layS
  split
  · exact rm_putS h
  · have b1 := h.act (kind := 0) (by decide) (S.at_ : Int) 0 (entS S.ent)
    by_cases h1 : (D.act 0 S.at_ 0 (entS S.ent)).2 = 0
    · rw [andS_ok h1]; exact rm_syncS b1
    · rw [andS_no h1]; exact b1
theorem rm_turnS {D : Disk} {S : Stor} (h : Rm D) : Rm (turnS D S).1 := by
  unfold turnS
  split
  · exact h
  · have b1 := rm_putS (S := S) (x := S.free) (t := headS S.segs.length S.recs.length) h
    by_cases h1 : (putS D S S.free (headS S.segs.length S.recs.length)).2.2 = 0
    · rw [thenS_ok h1]; exact rm_layS b1
    · rw [thenS_no h1]; exact b1
theorem rm_appendS {D : Disk} {S : Stor} {r : ByteArray} (h : Rm D) : Rm (appendS D S r).1 := by
  have ha : Rm (aheadS D S r).1 := by
    unfold aheadS
    split
    · exact rm_turnS h
    · exact h
  by_cases h0 : r.size = 0
  · rw [show appendS D S r = (D, S, 0, 1) from if_pos h0]; exact h
  by_cases h1 : 900 < r.size
  · rw [show appendS D S r = (D, S, 0, 2) from (if_neg h0).trans (if_pos h1)]; exact h
  by_cases h2 : fellS D S = true
  · rw [appendS_fell h0 h1 h2]; exact h
  rw [appendS_main h0 h1 (by simpa using h2)]
  unfold behindS
  split
  · exact ha
  split
  · exact ha.act (kind := 0) (by decide) _ _ _
  · exact ha.act (kind := 0) (by decide) _ _ _
theorem rm_trims : ∀ (T : List (Nat × Nat)) (D : Disk), Rm D → Rm (trimsS D T).1
  | [], _, h => h
  | (x, m) :: T, D, h => by
    rw [trimsS_cons]
    split
    · exact rm_trims T _ (h.act (by decide) _ _ _)
    · exact h.act (by decide) _ _ _
theorem rm_openS {D : Disk} {S : Stor} {T : List (Nat × Nat)} (h : Rm D) : Rm (openS D S T).1 := by
  unfold openS
  have h1 := rm_trims T D h
  by_cases e : (trimsS D T).2 = 0
  · rw [andS_ok e]
    unfold beginS
    split
    · exact rm_turnS h1
    · exact rm_syncS h1
  · rw [andS_no e]; exact h1
/-- How many records there may be. -/
theorem Live.few {n N : Nat} {D : Disk} {S : Stor} (h : Live n N D S) (hr : Rm D) (h1 : D.room ≤ 1024) (hn : n ≤ 10) : S.recs.length ≤ 900 := by
  obtain ⟨Ls, c, l, hi, hf, -⟩ := h.img
  have h2 := flat_few l 112 fun s hs => by
    obtain ⟨i, hi2⟩ := List.mem_iff_getElem?.1 hs
    obtain ⟨x, rs⟩ := s
    have h2 := (hi.segs i x rs hi2).wh.scan.le
    have h3 : (exAt D.now x).data.toList.length = (exAt D.now x).size := rfl
    have h4 := hr.2 x
    simp at h2
    show rs.length ≤ 112
    omega
  have h3 := hi.num
  have : l.length * 112 ≤ 8 * 112 := Nat.mul_le_mul_right _ (by omega)
  rw [hf.recs]; omega
end Sg
end Go.Proofs.YtdmbombjkinboaaGreat
