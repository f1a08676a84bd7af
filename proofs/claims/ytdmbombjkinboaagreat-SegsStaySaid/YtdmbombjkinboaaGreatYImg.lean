/- Plain mathematics of segs: what a disk's extents hold; what a change makes of it. No walk. -/
import Derived.Test.YtdmbombjkinboaaGreatYOpn3
namespace Go.Proofs.YtdmbombjkinboaaGreat
open Dk Sg Fr
namespace Sg

/-- An extent holds these bodies, and nothing else. -/
def Wh (t : ByteArray) (bs : List (List UInt8)) : Prop := t.data.toList = frms bs ∧ ∀ b ∈ bs, may b
theorem fst_none {s : List UInt8} {n : Nat} (h : fst s = (n, 4)) : s = [] := by
  unfold fst at h
  split at h
  · assumption
  repeat (split at h; · injection h with _ h; exact absurd h (by decide))
  injection h with _ h; exact absurd h (by decide)
theorem Wh.of {t : ByteArray} {bs : List (List UInt8)} {m : Nat} (h : Scans t.data.toList bs m 4) : Wh t bs := by
  obtain ⟨h1, h2, h3⟩ := h.front
  have h4 : fst (t.data.toList.drop m) = ((fst (t.data.toList.drop m)).1, 4) := by rw [← h3]
  have h5 := fst_none h4
  refine ⟨?_, h2⟩
  rw [← h1]
  conv => lhs; rw [← List.take_append_drop m t.data.toList]
  rw [h5, List.append_nil]
theorem Wh.scan {t : ByteArray} {bs : List (List UInt8)} (h : Wh t bs) : Scans t.data.toList bs (frms bs).length 4 := by
  rw [h.1]; exact Scans.all h.2
theorem Wh.nil : Wh ⟨#[]⟩ [] := ⟨rfl, fun _ h => by cases h⟩
theorem Wh.snoc {t : ByteArray} {bs : List (List UInt8)} {b : List UInt8} (h : Wh t bs) (hb : may b) : Wh (t ++ str (frm b)) (bs ++ [b]) := by
  refine ⟨?_, fun x hx => ?_⟩
  · rw [frms_append, ByteArray.toList_data_append, h.1]
    show _ ++ frm b = _ ++ (frm b ++ [])
    rw [List.append_nil]
  · rcases List.mem_append.1 hx with hx | hx
    · exact h.2 x hx
    · rw [List.mem_singleton.1 hx]; exact hb
/-- A frame that is torn. -/
theorem torn_cases (t : ByteArray) {b : List UInt8} (hb : may b) (k : Nat) :
    (∀ bs, Wh t bs → Wh (t ++ (str (frm b)).extract 0 k) bs) ∨ (∀ bs, Wh t bs → Scans (t ++ (str (frm b)).extract 0 k).data.toList bs t.size 7) ∨ (t ++ (str (frm b)).extract 0 k = t ++ str (frm b)) := by
  by_cases hk : (frm b).length ≤ k
  · right; right
    congr 1
    apply ext_list
    rw [dextract_data, str_data, List.take_of_length_le hk]
  · by_cases h0 : k = 0
    · left
      subst h0
      intro bs h
      have : (str (frm b)).extract 0 0 = ⟨#[]⟩ := by apply ext_list; rw [dextract_data]; rfl
      rw [this]
      have : t ++ (⟨#[]⟩ : ByteArray) = t := by apply ext_list; rw [ByteArray.toList_data_append]; simp
      rw [this]; exact h
    · right; left
      intro bs h
      have hf := fst_cut b hb k (by omega) (by rw [frm_length] at hk; omega)
      have hs : Scans ((frm b).take k) [] 0 7 := .stop hf (by decide)
      have := Scans.frms h.2 hs
      rw [List.append_nil, Nat.add_zero, ← h.1] at this
      rw [ByteArray.toList_data_append, dextract_data, str_data]
      have e : t.size = t.data.toList.length := rfl
      rw [e]
      exact this
/-- Bodies in an extent that is whole, or torn as the tears say. -/
def Hl (T : List (Nat × Nat)) (x : Nat) (t : ByteArray) (bs : List (List UInt8)) : Prop := (x ∉ T.map (·.1) ∧ Wh t bs) ∨ ∃ m, (x, m) ∈ T ∧ Scans t.data.toList bs m 7
theorem Hl.wh {x : Nat} {t : ByteArray} {bs : List (List UInt8)} (h : Hl [] x t bs) : Wh t bs := by
  rcases h with h | ⟨m, h, -⟩
  · exact h.2
  · cases h
theorem Hl.of {x : Nat} {t : ByteArray} {bs : List (List UInt8)} (h : Wh t bs) : Hl [] x t bs := .inl ⟨by simp, h⟩
/-- All records of segments. -/
def flat (l : List (Nat × List ByteArray)) : List ByteArray := l.flatMap (·.2)
theorem flat_snoc (l : List (Nat × List ByteArray)) (s : Nat × List ByteArray) : flat (l ++ [s]) = flat l ++ s.2 := by unfold flat; rw [List.flatMap_append]; simp
/-- What extents hold: the lists, the one that counts, the segments with their records, the tears. -/
structure Img (n : Nat) (X : List ByteArray) (N : Nat) (Ls : Nat → List Ent) (c : Nat × Ent) (l : List (Nat × List ByteArray)) (T : List (Nat × Nat)) : Prop where
  len : X.length = n
  n3 : 3 ≤ n
  n64 : n ≤ 64
  lists : ∀ j, j < 2 → Hl T j (exAt X j) ((Ls j).map entB)
  ents : ∀ j, j < 2 → ∀ e ∈ Ls j, EntOk n e ∧ e.epoch ≤ c.2.epoch ∧ (e.epoch = c.2.epoch → j = c.1 ∧ e = c.2)
  cnt : c = (0, ⟨0, []⟩) ∨ (c.1 < 2 ∧ c.2 ∈ Ls c.1)
  epoch : c.2.epoch ≤ N
  exts : l.map (·.1) = c.2.exts
  segs : ∀ i x rs, l[i]? = some (x, rs) → Hl T x (exAt X x) (headB i (ahead l i) :: rs.map (·.data.toList))
  recs : ∀ s ∈ l, ∀ r ∈ s.2, 1 ≤ r.size ∧ r.size ≤ 900
  dup : (T.map (·.1)).Nodup
  tears : ∀ t ∈ T, t.1 < 2 ∨ l.getLast?.map (·.1) = some t.1
theorem Img.mono {n N M : Nat} {X : List ByteArray} {Ls : Nat → List Ent} {c : Nat × Ent} {l : List (Nat × List ByteArray)} {T : List (Nat × Nat)} (h : Img n X N Ls c l T) (hN : N ≤ M) : Img n X M Ls c l T :=
  ⟨h.len, h.n3, h.n64, h.lists, h.ents, h.cnt, Nat.le_trans h.epoch hN, h.exts, h.segs, h.recs, h.dup, h.tears⟩
section
variable {n N : Nat} {X : List ByteArray} {Ls : Nat → List Ent} {c : Nat × Ent} {l : List (Nat × List ByteArray)} {T : List (Nat × Nat)}
theorem Img.c1 (h : Img n X N Ls c l T) : c.1 < 2 := by
  rcases h.cnt with e | e
  · rw [e]; decide
  · exact e.1
theorem Img.ext (h : Img n X N Ls c l T) : (∀ x ∈ c.2.exts, 2 ≤ x ∧ x < n) ∧ c.2.exts.Nodup := by
  rcases h.cnt with e | ⟨e1, e2⟩
  · rw [e]; exact ⟨fun x hx => (by cases hx), List.nodup_nil⟩
  · have := (h.ents c.1 e1 c.2 e2).1
    exact ⟨this.exts, this.dup⟩
theorem Img.mem (h : Img n X N Ls c l T) {s : Nat × List ByteArray} (hs : s ∈ l) : 2 ≤ s.1 ∧ s.1 < n := h.ext.1 s.1 (by rw [← h.exts]; exact List.mem_map.2 ⟨s, hs, rfl⟩)
theorem nodup_bound {l : List Nat} {n : Nat} (hd : l.Nodup) (hx : ∀ x ∈ l, 2 ≤ x ∧ x < n) : l.length + 2 ≤ n ∨ l = [] := by
  by_cases h : l = []
  · exact .inr h
  left
  have hs : l ⊆ (List.range n).drop 2 := fun x hxl => by
    obtain ⟨h1, h2⟩ := hx x hxl
    rw [List.mem_iff_getElem?]
    refine ⟨x - 2, ?_⟩
    rw [List.getElem?_drop, show 2 + (x - 2) = x by omega, List.getElem?_range h2]
  have := List.Nodup.length_le_of_subset hd hs
  rw [List.length_drop, List.length_range] at this
  have : 0 < l.length := List.length_pos_iff.2 h
  omega
theorem Img.num (h : Img n X N Ls c l T) : l.length + 2 ≤ n := by
  have h1 : l.length = c.2.exts.length := by rw [← h.exts, List.length_map]
  have := h.n3
  rcases nodup_bound h.ext.2 h.ext.1 with e | e
  · omega
  · rw [h1, e]; simp; omega
theorem EntOk.num62 {n : Nat} {e : Ent} (h : EntOk n e) : e.exts.length ≤ 62 := by
  have := h.num
  rcases nodup_bound h.dup h.exts with h1 | h1
  · omega
  · rw [h1]; exact Nat.zero_le _
/-- Another extent than those that count is another one now. -/
theorem Img.other (h : Img n X N Ls c l T) {x : Nat} (h2 : 2 ≤ x) (hx : x ∉ c.2.exts) (s : ByteArray) : Img n (X.set x s) N Ls c l T := by
  refine ⟨by rw [List.length_set]; exact h.len, h.n3, h.n64, fun j hj => ?_, h.ents, h.cnt, h.epoch, h.exts, fun i y rs hi => ?_, h.recs, h.dup, h.tears⟩
  · rw [exAt_set_other (by omega)]; exact h.lists j hj
  · have : x ≠ y := fun e => hx (by rw [← h.exts, e]; exact List.mem_map.2 ⟨_, List.mem_of_getElem? hi, rfl⟩)
    rw [exAt_set_other this]; exact h.segs i y rs hi
/-- What is torn is trimmed off. -/
theorem Hl.trim {x m y : Nat} {t : ByteArray} {bs : List (List UInt8)} (hd : (((x, m) :: T).map (·.1)).Nodup) (h : Hl ((x, m) :: T) y t bs) (s : ByteArray) (hs : y = x → s = t.extract 0 m) (hs' : y ≠ x → s = t) : Hl T y s bs := by
  rw [List.map_cons, List.nodup_cons] at hd
  by_cases e : y = x
  · subst e
    rcases h with ⟨h1, -⟩ | ⟨m', h1, h2⟩
    · exact absurd (List.mem_cons_self ..) h1
    · have hm : m' = m := by
        rcases List.mem_cons.1 h1 with h1 | h1
        · injection h1
        · exact absurd (List.mem_map.2 ⟨_, h1, rfl⟩) hd.1
      subst hm
      refine .inl ⟨hd.1, ?_⟩
      rw [hs rfl]
      exact ⟨by rw [dextract_data]; exact h2.front.1, h2.front.2.1⟩
  · rw [hs' e]
    rcases h with ⟨h1, h2⟩ | ⟨m', h1, h2⟩
    · exact .inl ⟨fun k => h1 (List.mem_cons_of_mem _ k), h2⟩
    · rcases List.mem_cons.1 h1 with h1 | h1
      · injection h1 with h1 _; exact absurd h1 e
      · exact .inr ⟨m', h1, h2⟩
theorem Img.trim {x m : Nat} (h : Img n X N Ls c l ((x, m) :: T)) : x < n ∧ m ≤ (exAt X x).size ∧ Img n (X.set x ((exAt X x).extract 0 m)) N Ls c l T := by
  have hx : x < 2 ∨ l.getLast?.map (·.1) = some x := h.tears (x, m) (List.mem_cons_self ..)
  have hxn : x < n := by
    rcases hx with h1 | h1
    · have := h.n3; omega
    · cases e : l.getLast? with
      | none => rw [e] at h1; cases h1
      | some s =>
        rw [e] at h1
        have h1 : s.1 = x := Option.some.inj h1
        have := (h.mem (List.mem_of_getLast? e)).2
        omega
  have key : ∀ bs, Hl ((x, m) :: T) x (exAt X x) bs → m ≤ (exAt X x).size := fun bs hh => by
    have hd := h.dup
    rw [List.map_cons, List.nodup_cons] at hd
    rcases hh with ⟨h1, -⟩ | ⟨m', h1, h2⟩
    · exact absurd (List.mem_cons_self ..) h1
    · rcases List.mem_cons.1 h1 with h1 | h1
      · injection h1 with _ h1
        have := h2.le.1
        rw [h1] at this
        exact this
      · exact absurd (List.mem_map.2 ⟨_, h1, rfl⟩) hd.1
  have hm : m ≤ (exAt X x).size := by
    rcases hx with h1 | h1
    · exact key _ (h.lists x h1)
    · cases e : l.getLast? with
      | none => rw [e] at h1; cases h1
      | some s =>
        rw [e] at h1
        injection h1 with h1
        obtain ⟨i, hi⟩ := List.mem_iff_getElem?.1 (List.mem_of_getLast? e)
        obtain ⟨y, rs⟩ := s
        have h1 : y = x := h1
        subst h1
        exact key _ (h.segs i y rs hi)
  refine ⟨hxn, hm, ⟨by rw [List.length_set]; exact h.len, h.n3, h.n64, fun j hj => ?_, h.ents, h.cnt, h.epoch, h.exts, fun i y rs hi => ?_, h.recs, ?_, fun t ht => h.tears t (List.mem_cons_of_mem _ ht)⟩⟩
  · exact Hl.trim h.dup (h.lists j hj) _ (fun e => by subst e; rw [exAt_set_same (by rw [h.len]; exact hxn)]) (fun e => exAt_set_other (fun k => e k.symm) _)
  · exact Hl.trim h.dup (h.segs i y rs hi) _ (fun e => by subst e; rw [exAt_set_same (by rw [h.len]; exact hxn)]) (fun e => exAt_set_other (fun k => e k.symm) _)
  · have := h.dup
    rw [List.map_cons, List.nodup_cons] at this
    exact this.2
/-- An extent that counts holds the same bodies, and is torn. -/
theorem Img.tear (h : Img n X N Ls c l []) {y m : Nat} {s : ByteArray} (hy : y < 2 ∨ l.getLast?.map (·.1) = some y) (hyn : y < n) (hs : ∀ bs, Wh (exAt X y) bs → Scans s.data.toList bs m 7) : Img n (X.set y s) N Ls c l [(y, m)] := by
  have key : ∀ z bs, Hl [] z (exAt X z) bs → Hl [(y, m)] z (exAt (X.set y s) z) bs := fun z bs hh => by
    by_cases e : y = z
    · subst e
      rw [exAt_set_same (by rw [h.len]; exact hyn)]
      exact .inr ⟨m, by simp, hs bs hh.wh⟩
    · rw [exAt_set_other e]
      exact .inl ⟨by simp; exact fun k => e k.symm, hh.wh⟩
  refine ⟨by rw [List.length_set]; exact h.len, h.n3, h.n64, fun j hj => key _ _ (h.lists j hj), h.ents, h.cnt, h.epoch, h.exts, fun i z rs hi => key _ _ (h.segs i z rs hi), h.recs, by simp, fun t ht => ?_⟩
  rw [List.mem_singleton.1 ht]; exact hy
/-- An extent that counts holds the same bodies. -/
theorem Img.same (h : Img n X N Ls c l []) {y : Nat} {s : ByteArray} (hyn : y < n) (hs : ∀ bs, Wh (exAt X y) bs → Wh s bs) : Img n (X.set y s) N Ls c l [] := by
  have key : ∀ z bs, Hl [] z (exAt X z) bs → Hl [] z (exAt (X.set y s) z) bs := fun z bs hh => by
    by_cases e : y = z
    · subst e
      rw [exAt_set_same (by rw [h.len]; exact hyn)]
      exact .of (hs bs hh.wh)
    · rw [exAt_set_other e]; exact hh
  exact ⟨by rw [List.length_set]; exact h.len, h.n3, h.n64, fun j hj => key _ _ (h.lists j hj), h.ents, h.cnt, h.epoch, h.exts, fun i z rs hi => key _ _ (h.segs i z rs hi), h.recs, h.dup, fun t ht => (by cases ht)⟩
theorem ahead_app {l k : List (Nat × List ByteArray)} {i : Nat} (h : i ≤ l.length) : ahead (l ++ k) i = ahead l i := by
  unfold ahead; rw [List.take_append_of_le_length h]
theorem ahead_all (l : List (Nat × List ByteArray)) : ahead l l.length = (flat l).length := by unfold ahead flat; rw [List.take_length]
theorem get_snoc {α : Type} {l : List α} {a b : α} {i : Nat} (h : (l ++ [a])[i]? = some b) : (i < l.length ∧ l[i]? = some b) ∨ (i = l.length ∧ b = a) := by
  by_cases hi : i < l.length
  · rw [List.getElem?_append_left hi] at h; exact .inl ⟨hi, h⟩
  · rw [List.getElem?_append_right (by omega)] at h
    have : i - l.length = 0 := by
      have := (List.getElem?_eq_some_iff.1 h).1
      simp at this; omega
    rw [this] at h
    exact .inr ⟨by omega, by simpa using h.symm⟩
theorem may_rec {r : ByteArray} (h : 1 ≤ r.size ∧ r.size ≤ 900) : may r.data.toList := by
  unfold may
  have : r.data.toList.length = r.size := rfl
  omega
/-- A record more. -/
theorem Img.more {l0 : List (Nat × List ByteArray)} {x : Nat} {rs : List ByteArray} (h : Img n X N Ls c (l0 ++ [(x, rs)]) []) {r : ByteArray} (hr : 1 ≤ r.size ∧ r.size ≤ 900) : Img n (X.set x (exAt X x ++ str (frm r.data.toList))) N Ls c (l0 ++ [(x, rs ++ [r])]) [] := by
  have hx := h.mem (s := (x, rs)) (by simp)
  have hnd := h.ext.2
  rw [← h.exts, List.map_append, List.nodup_append] at hnd
  refine ⟨by rw [List.length_set]; exact h.len, h.n3, h.n64, fun j hj => ?_, h.ents, h.cnt, h.epoch, ?_, fun i z zs hi => ?_, fun s hs q hq => ?_, h.dup, fun t ht => (by cases ht)⟩
  · have hx2 : 2 ≤ x := hx.1
    rw [exAt_set_other (by omega)]; exact h.lists j hj
  · rw [← h.exts, List.map_append, List.map_append]; rfl
  · rcases get_snoc hi with ⟨h1, h2⟩ | ⟨h1, h2⟩
    · have h3 := h.segs i z zs (by rw [List.getElem?_append_left h1]; exact h2)
      rw [ahead_app (by omega)] at h3
      rw [ahead_app (by omega), exAt_set_other (fun e => hnd.2.2 z (List.mem_map.2 ⟨_, List.mem_of_getElem? h2, rfl⟩) x (by simp) e.symm)]
      exact h3
    · injection h2 with h2 h4
      subst h1 h2 h4
      have h3 := h.segs l0.length z rs (by rw [List.getElem?_append_right (Nat.le_refl _)]; simp)
      rw [ahead_app (by omega)] at h3
      rw [ahead_app (by omega), exAt_set_same (by rw [h.len]; exact hx.2), List.map_append]
      exact .of (Wh.snoc (bs := headB l0.length (ahead l0 l0.length) :: rs.map (·.data.toList)) h3.wh (may_rec hr))
  · rcases List.mem_append.1 hs with hs | hs
    · exact h.recs s (List.mem_append_left _ hs) q hq
    · rw [List.mem_singleton.1 hs] at hq
      rcases List.mem_append.1 hq with hq | hq
      · exact h.recs (x, rs) (by simp) q hq
      · rw [List.mem_singleton.1 hq]; exact hr
/-- A list more. -/
theorem Img.list (h : Img n X N Ls c l []) {j f : Nat} (hj : j < 2) (hf : f ∉ c.2.exts) (hf2 : 2 ≤ f) (hfn : f < n) (hw : Wh (exAt X f) [headB l.length (flat l).length]) (he : c.2.epoch < 1099511627776) :
    EntOk n ⟨c.2.epoch + 1, c.2.exts ++ [f]⟩ ∧ Img n (X.set j (exAt X j ++ entS ⟨c.2.epoch + 1, c.2.exts ++ [f]⟩)) (N + 1) (fun k => if k = j then Ls j ++ [⟨c.2.epoch + 1, c.2.exts ++ [f]⟩] else Ls k) (j, ⟨c.2.epoch + 1, c.2.exts ++ [f]⟩) (l ++ [(f, [])]) [] := by
  have hok : EntOk n ⟨c.2.epoch + 1, c.2.exts ++ [f]⟩ := by
    refine ⟨Nat.succ_pos _, he, fun x hx => ?_, ?_, h.n64⟩
    · rcases List.mem_append.1 hx with hx | hx
      · exact h.ext.1 x hx
      · rw [List.mem_singleton.1 hx]; exact ⟨hf2, hfn⟩
    · show (c.2.exts ++ [f]).Nodup
      rw [List.nodup_append]
      exact ⟨h.ext.2, by simp, fun a ha b hb e => hf (by rw [List.mem_singleton.1 hb] at e; rw [← e]; exact ha)⟩
  have hlen := hok.len (EntOk.num62 hok)
  have hjn : j < X.length := by have := h.len; have := h.n3; omega
  have hmay : may (entB ⟨c.2.epoch + 1, c.2.exts ++ [f]⟩) := ⟨hlen.1, by omega⟩
  refine ⟨hok, ⟨by rw [List.length_set]; exact h.len, h.n3, h.n64, fun k hk => ?_, fun k hk e hme => ?_, ?_, Nat.succ_le_succ h.epoch, ?_, fun i z zs hi => ?_, fun s hs q hq => ?_, by simp, fun t ht => (by cases ht)⟩⟩
  · by_cases e : k = j
    · subst e
      rw [exAt_set_same hjn]
      simp only [if_true]
      rw [List.map_append]
      exact .of (Wh.snoc (h.lists k hk).wh hmay)
    · simp only [if_neg e]
      rw [exAt_set_other (fun k => e k.symm)]; exact h.lists k hk
  · have key : ∀ e ∈ Ls k, EntOk n e ∧ e.epoch ≤ c.2.epoch + 1 ∧ (e.epoch = c.2.epoch + 1 → k = j ∧ e = ⟨c.2.epoch + 1, c.2.exts ++ [f]⟩) := fun e he => by
      obtain ⟨h1, h2, -⟩ := h.ents k hk e he
      exact ⟨h1, by omega, fun k => by omega⟩
    by_cases ek : k = j
    · subst ek
      simp only [if_true] at hme
      rcases List.mem_append.1 hme with hme | hme
      · exact key e hme
      · rw [List.mem_singleton.1 hme]
        exact ⟨hok, Nat.le_refl _, fun _ => ⟨rfl, rfl⟩⟩
    · simp only [if_neg ek] at hme
      exact key e hme
  · exact .inr ⟨hj, by simp⟩
  · show (l ++ [(f, ([] : List ByteArray))]).map (fun s => s.1) = c.2.exts ++ [f]
    rw [List.map_append, h.exts]; rfl
  · rcases get_snoc hi with ⟨h1, h2⟩ | ⟨h1, h2⟩
    · have hz := h.mem (List.mem_of_getElem? h2)
      rw [ahead_app (by omega), exAt_set_other (show j ≠ z by have : 2 ≤ z := hz.1; omega)]
      exact h.segs i z zs h2
    · injection h2 with h2 h4
      subst h1 h2 h4
      rw [ahead_app (by omega), exAt_set_other (show j ≠ z by omega), ahead_all]
      exact .of hw
  · rcases List.mem_append.1 hs with hs | hs
    · exact h.recs s hs q hq
    · rw [List.mem_singleton.1 hs] at hq
      cases hq
/-- The other lists are gone. -/
theorem Img.gone (h : Img n X N Ls c l []) {j : Nat} (hj : j < 2) (hc : j ≠ c.1) : Img n (X.set j ⟨#[]⟩) N (fun k => if k = j then [] else Ls k) c l [] := by
  have hjn : j < X.length := by have := h.len; have := h.n3; omega
  refine ⟨by rw [List.length_set]; exact h.len, h.n3, h.n64, fun k hk => ?_, fun k hk e hme => ?_, ?_, h.epoch, h.exts, fun i z zs hi => ?_, h.recs, by simp, fun t ht => (by cases ht)⟩
  · by_cases e : k = j
    · subst e
      rw [exAt_set_same hjn]
      simp only [if_true]
      exact .of Wh.nil
    · simp only [if_neg e]
      rw [exAt_set_other (fun k => e k.symm)]; exact h.lists k hk
  · by_cases ek : k = j
    · subst ek
      simp at hme
    · simp only [if_neg ek] at hme
      exact h.ents k hk e hme
  · rcases h.cnt with e | ⟨e1, e2⟩
    · exact .inl e
    · exact .inr ⟨e1, by rw [if_neg (Ne.symm hc)]; exact e2⟩
  · have hz := h.mem (List.mem_of_getElem? hi)
    rw [exAt_set_other (show j ≠ z by have : 2 ≤ z := hz.1; omega)]
    exact h.segs i z zs hi
end
end Sg
end Go.Proofs.YtdmbombjkinboaaGreat
