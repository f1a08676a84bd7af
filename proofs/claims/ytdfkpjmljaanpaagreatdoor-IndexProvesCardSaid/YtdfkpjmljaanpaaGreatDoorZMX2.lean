/- MX2, what is wanted of it. -/
import Derived.Test.YtdfkpjmljaanpaaGreatDoorZMX1
import Derived.Test.YtdfkpjmljaanpaaGreatDoorZMW1
namespace Go.Proofs.YtdfkpjmljaanpaaGreatDoor
open Go.RowKit
open Cn
namespace Ix
/-- The rows' tags. -/
def tg (l : List Rw) : List ByteArray := l.map Rw.tag
theorem tg_length (l : List Rw) : (tg l).length = l.length := by unfold tg; rw [List.length_map]
theorem rise_tg {l : List Rw} : Rise l ↔ Wd.Rises (tg l) := by
  unfold Rise Wd.Rises tg
  rw [List.pairwise_map]
/-- Where a tag's row stands, or would stand. -/
def rk (l : List Rw) (t : ByteArray) : Nat := Wd.rank (tg l) t
def isR (l : List Rw) (t : ByteArray) : Bool := decide ((tg l)[rk l t]? = some t)
theorem rk_le (l : List Rw) (t : ByteArray) : rk l t ≤ l.length := by
  have h := Wd.rank_le (tg l) t
  rwa [tg_length] at h
theorem tg_getD {l : List Rw} {j : Nat} {r : Rw} (h : l[j]? = some r) (t : ByteArray) : (tg l).getD j t = r.tag := by
  unfold tg
  rw [List.getD_eq_getElem?_getD, List.getElem?_map, h]; rfl
theorem rk_lt {l : List Rw} {t : ByteArray} {j : Nat} {r : Rw} (h : l[j]? = some r) (hj : j < rk l t) : Wd.less r.tag t = true := by
  have h1 := Wd.rank_lt (l := tg l) (s := t) (t := j) hj
  rwa [tg_getD h] at h1
theorem rk_ge {l : List Rw} {t : ByteArray} {j : Nat} {r : Rw} (hr : Rise l) (h : l[j]? = some r) (hj : rk l t ≤ j) : Wd.less r.tag t = false := by
  have h1 := Wd.rank_ge (l := tg l) (s := t) (t := j) (rise_tg.1 hr) hj
  rwa [tg_getD h] at h1
theorem isR_iff {l : List Rw} {t : ByteArray} : isR l t = true ↔ ∃ r, l[rk l t]? = some r ∧ r.tag = t := by
  unfold isR
  rw [decide_eq_true_eq]
  unfold tg
  rw [List.getElem?_map]
  constructor
  · intro h
    obtain ⟨r, h1, h2⟩ := Option.map_eq_some_iff.1 h
    exact ⟨r, h1, h2⟩
  · rintro ⟨r, h1, h2⟩
    rw [h1, ← h2]; rfl
theorem isR_some {l : List Rw} {t : ByteArray} (hr : Rise l) (h : isR l t = true) : ∃ r, l[rk l t]? = some r ∧ r.tag = t ∧ fnd l t = some r := by
  obtain ⟨r, h1, h2⟩ := isR_iff.1 h
  exact ⟨r, h1, h2, fnd_of hr (List.mem_of_getElem? h1) h2⟩
/-- A tag that has no row: those from its place on stand behind it. -/
theorem isR_ge {l : List Rw} {t : ByteArray} (hr : Rise l) (h : isR l t = false) {j : Nat} {r : Rw} (hj : l[j]? = some r) (hk : rk l t ≤ j) : Wd.less t r.tag = true := by
  have h1 := rk_ge hr hj hk
  rcases less_cases t r.tag with h2 | h2 | h2
  · exact h2
  · exfalso
    by_cases e : j = rk l t
    · subst e
      have : isR l t = true := isR_iff.2 ⟨r, hj, h2.symm⟩
      rw [h] at this; cases this
    · have hjl := (List.getElem?_eq_some_iff.1 hj).1
      have h3 := List.getElem?_eq_getElem (show rk l t < l.length by omega)
      have h4 := rk_ge hr h3 (Nat.le_refl _)
      obtain ⟨_, e2⟩ := List.getElem?_eq_some_iff.1 hj
      have h5 := List.pairwise_iff_getElem.1 hr (rk l t) j (by omega) hjl (by omega)
      rw [e2, ← h2, h4] at h5; cases h5
  · rw [h1] at h2; cases h2
theorem isR_none {l : List Rw} {t : ByteArray} (hr : Rise l) (h : isR l t = false) : fnd l t = none := by
  refine fnd_none fun x hx e => ?_
  obtain ⟨j, hj, rfl⟩ := List.mem_iff_getElem.1 hx
  have h1 := List.getElem?_eq_getElem hj
  rcases Nat.lt_or_ge j (rk l t) with h2 | h2
  · exact Wd.less_ne (rk_lt h1 h2) e
  · exact Wd.less_ne (isR_ge hr h h1 h2) e.symm
theorem fnd_set : ∀ {l : List Rw} {i : Nat} {r q : Rw} {u : ByteArray}, l[i]? = some r → r.tag ≠ u → q.tag ≠ u → fnd (l.set i q) u = fnd l u
  | [], i, r, q, u, h, _, _ => by simp at h
  | x :: l, 0, r, q, u, h, h1, h2 => by
    simp only [List.getElem?_cons_zero, Option.some.injEq] at h
    subst h
    rw [List.set_cons_zero, fnd, fnd, if_neg h1, if_neg h2]
  | x :: l, i + 1, r, q, u, h, h1, h2 => by
    rw [List.set_cons_succ, fnd, fnd, fnd_set (by simpa using h) h1 h2]
theorem fnd_app {u : ByteArray} : ∀ (a b : List Rw), fnd (a ++ b) u = match fnd a u with
    | some r => some r
    | none => fnd b u
  | [], b => rfl
  | x :: a, b => by
    rw [List.cons_append, fnd, fnd]
    by_cases e : x.tag = u
    · rw [if_pos e, if_pos e]
    · rw [if_neg e, if_neg e, fnd_app a b]
theorem fnd_ins {l : List Rw} {i : Nat} {q : Rw} {u : ByteArray} (h : q.tag ≠ u) : fnd (l.take i ++ q :: l.drop i) u = fnd l u := by
  conv => rhs; rw [← List.take_append_drop i l]
  rw [fnd_app, fnd_app, fnd, if_neg h]
theorem set_rise {l : List Rw} {i : Nat} {r q : Rw} (hr : Rise l) (h : l[i]? = some r) (hq : q.tag = r.tag) : Rise (l.set i q) := by
  rw [rise_tg] at hr ⊢
  have : tg (l.set i q) = tg l := by
    unfold tg
    rw [List.map_set, hq]
    obtain ⟨h1, h2⟩ := List.getElem?_eq_some_iff.1 h
    apply List.ext_getElem?
    intro j
    by_cases e : i = j
    · subst e
      rw [List.getElem?_set_self (by rw [List.length_map]; exact h1), List.getElem?_map, h]; rfl
    · rw [List.getElem?_set_ne e]
  rw [this]; exact hr
theorem ins_rise {l : List Rw} {t : ByteArray} {q : Rw} (hr : Rise l) (h : isR l t = false) (hq : q.tag = t) : Rise (l.take (rk l t) ++ q :: l.drop (rk l t)) := by
  have hlt : ∀ x ∈ l.take (rk l t), Wd.less x.tag t = true := fun x hx => by
    obtain ⟨j, hj, rfl⟩ := List.mem_iff_getElem.1 hx
    have hj2 := hj
    rw [List.length_take] at hj2
    rw [List.getElem_take]
    exact rk_lt (List.getElem?_eq_getElem (by omega)) (by omega)
  have hge : ∀ x ∈ l.drop (rk l t), Wd.less t x.tag = true := fun x hx => by
    obtain ⟨j, hj, rfl⟩ := List.mem_iff_getElem.1 hx
    have hj2 := hj
    rw [List.length_drop] at hj2
    rw [List.getElem_drop]
    exact isR_ge hr h (j := rk l t + j) (List.getElem?_eq_getElem (by omega)) (by omega)
  unfold Rise
  rw [List.pairwise_append, List.pairwise_cons]
  refine ⟨List.Pairwise.sublist (List.take_sublist _ _) hr, ⟨fun x hx => ?_, List.Pairwise.sublist (List.drop_sublist _ _) hr⟩, fun a ha b hb => ?_⟩
  · rw [hq]; exact hge x hx
  · rcases List.mem_cons.1 hb with rfl | hb
    · rw [hq]; exact hlt a ha
    · exact Wd.less_trans (hlt a ha) (hge b hb)
theorem pre_not {pre : List ByteArray} {t : ByteArray} (hp : Wd.Rises (pre ++ [t])) : t ∉ pre := fun h => by
  have h1 := (List.pairwise_append.1 hp).2.2 t h t (List.mem_singleton.2 rfl)
  rw [Wd.less_irrefl] at h1; cases h1
theorem pre_rises {pre : List ByteArray} {t : ByteArray} (hp : Wd.Rises (pre ++ [t])) : Wd.Rises pre := (List.pairwise_append.1 hp).1
theorem inB_app {pre : List ByteArray} {t u : ByteArray} (h : t ≠ u) : inB (pre ++ [t]) u = inB pre u := by
  unfold inB
  rw [List.any_append, List.any_cons, List.any_nil, decide_eq_false h, Bool.false_or, Bool.or_false]
/-- ONE TAG MORE, that has a row: this is counted up. -/
theorem step_has {n : Int} {rs : List Rw} {pre : List ByteArray} {t : ByteArray} (hr : Rise rs) (hp : Wd.Rises (pre ++ [t])) {l : List Rw} (hl : l = (mrg n rs pre).1) (h : isR l t = true) :
    ∃ r, l[rk l t]? = some r ∧ r.tag = t ∧ fnd rs t = some r ∧ (mrg n rs (pre ++ [t])).1 = l.set (rk l t) ⟨t, r.cnt + 1, n⟩ := by
  have hpr := pre_rises hp
  have hlr : Rise l := by rw [hl]; exact mrg_rise n rs pre hr hpr
  obtain ⟨r, h1, h2, h3⟩ := isR_some hlr h
  have hin : inB pre t = false := by
    cases e : inB pre t with
    | false => rfl
    | true => exact absurd (inB_iff.1 e) (pre_not hp)
  have h4 : fnd rs t = some r := by
    have := mrg_fnd n t rs pre hr hpr
    rw [hin, if_neg (by decide), ← hl, h3] at this
    exact this.symm
  refine ⟨r, h1, h2, h4, ?_⟩
  have hs : Rise (l.set (rk l t) ⟨t, r.cnt + 1, n⟩) := set_rise hlr h1 h2.symm
  refine risen_eq (mrg_rise n rs _ hr hp) hs fun u => ?_
  rw [mrg_fnd n u rs _ hr hp]
  by_cases e : t = u
  · subst e
    have hi := (List.getElem?_eq_some_iff.1 h1).1
    rw [if_pos (inB_iff.2 (List.mem_append_right _ (List.mem_singleton.2 rfl))), h4]
    exact (fnd_of hs (List.mem_iff_getElem?.2 ⟨rk l t, List.getElem?_set_self hi⟩) rfl).symm
  · rw [inB_app e, fnd_set h1 (by rw [h2]; exact e) e, hl, mrg_fnd n u rs pre hr hpr]
/-- ONE TAG MORE, that has none: a row is put in. -/
theorem step_new {n : Int} {rs : List Rw} {pre : List ByteArray} {t : ByteArray} (hr : Rise rs) (hp : Wd.Rises (pre ++ [t])) {l : List Rw} (hl : l = (mrg n rs pre).1) (h : isR l t = false) :
    fnd rs t = none ∧ (mrg n rs (pre ++ [t])).1 = l.take (rk l t) ++ ⟨t, 1, n⟩ :: l.drop (rk l t) := by
  have hpr := pre_rises hp
  have hlr : Rise l := by rw [hl]; exact mrg_rise n rs pre hr hpr
  have h3 := isR_none hlr h
  have hin : inB pre t = false := by
    cases e : inB pre t with
    | false => rfl
    | true => exact absurd (inB_iff.1 e) (pre_not hp)
  have h4 : fnd rs t = none := by
    have := mrg_fnd n t rs pre hr hpr
    rw [hin, if_neg (by decide), ← hl, h3] at this
    exact this.symm
  refine ⟨h4, ?_⟩
  have hs : Rise (l.take (rk l t) ++ (⟨t, 1, n⟩ : Rw) :: l.drop (rk l t)) := ins_rise hlr h rfl
  refine risen_eq (mrg_rise n rs _ hr hp) hs fun u => ?_
  rw [mrg_fnd n u rs _ hr hp]
  by_cases e : t = u
  · subst e
    rw [if_pos (inB_iff.2 (List.mem_append_right _ (List.mem_singleton.2 rfl))), h4]
    exact (fnd_of hs (List.mem_append_right _ List.mem_cons_self) rfl).symm
  · rw [inB_app e, fnd_ins e, hl, mrg_fnd n u rs pre hr hpr]
/-- One posting more. -/
theorem step_po {n : Int} {rs : List Rw} {pre : List ByteArray} {t : ByteArray} (hr : Rise rs) (hp : Wd.Rises (pre ++ [t])) : (mrg n rs (pre ++ [t])).2 = (mrg n rs pre).2 ++ [⟨t, pv (fnd rs t)⟩] := by
  rw [mrg_po n rs _ hr hp, mrg_po n rs _ hr (pre_rises hp), List.map_append]; rfl
/-- A row put in, and then set: the row is put in. -/
theorem ins_set {l : List Rw} {i : Nat} (hi : i ≤ l.length) (q r : Rw) : (l.take i ++ q :: l.drop i).set i r = l.take i ++ r :: l.drop i := by
  rw [List.set_append_right _ _ (by rw [List.length_take]; omega), List.length_take, Nat.min_eq_left hi, Nat.sub_self, List.set_cons_zero]
theorem ins_at {l : List Rw} {i : Nat} (hi : i ≤ l.length) (q : Rw) : (l.take i ++ q :: l.drop i)[i]? = some q := by
  rw [List.getElem?_append_right (by rw [List.length_take]; omega), List.length_take, Nat.min_eq_left hi, Nat.sub_self, List.getElem?_cons_zero]
/-- WHAT A PROOF SHOWS, as the program takes it: the rows from a place to another one. -/
def pFrom (rs : List Rw) (t : ByteArray) : Nat := if isR rs t = true then rk rs t else rk rs t - 1
def pTo (rs : List Rw) (t : ByteArray) : Nat := min (rk rs t + 1) rs.length
end Ix
end Go.Proofs.YtdfkpjmljaanpaaGreatDoor
namespace Go.Proofs.YtdfkpjmljaanpaaGreatDoor
open Go.RowKit
open Cn
namespace Ix
open Tr
/-- A row, as a proof shows it. -/
def shI (rs : List Rw) (i : Nat) : Sh := ⟨i, rs.getD i Rw.zero, way (lvs rs) i⟩
/-- The rows of so many places, from one on. -/
def pRows (rs : List Rw) (a : Nat) (k : Nat) : List Sh := (List.range k).map fun j => shI rs (a + j)
theorem pRows_succ (rs : List Rw) (a k : Nat) : pRows rs a (k + 1) = pRows rs a k ++ [shI rs (a + k)] := by
  unfold pRows
  rw [List.range_succ, List.map_append]; rfl
theorem pRows_length (rs : List Rw) (a k : Nat) : (pRows rs a k).length = k := by unfold pRows; rw [List.length_map, List.length_range]
theorem shI_at {rs : List Rw} {i : Nat} (h : i < rs.length) : shI rs i = ⟨i, rs[i], way (lvs rs) i⟩ := by
  unfold shI
  rw [List.getD_eq_getElem?_getD, List.getElem?_eq_getElem h]; rfl
/-- WHAT A PROOF SHOWS. -/
theorem prv_from {rs : List Rw} (hr : Rise rs) (t : ByteArray) : prvI rs t = pRows rs (pFrom rs t) (pTo rs t - pFrom rs t) := by
  have hk := rk_le rs t
  unfold pFrom pTo prvI
  by_cases h : isR rs t = true
  · rw [if_pos h]
    obtain ⟨r, h1, h2, h3⟩ := isR_some hr h
    have hi := (List.getElem?_eq_some_iff.1 h1).1
    obtain ⟨i, h4, h5⟩ := prv_some hr h3
    have hi2 := (List.getElem?_eq_some_iff.1 h4).1
    have e : i = rk rs t := by
      rcases Nat.lt_trichotomy i (rk rs t) with h6 | h6 | h6
      · have := rise_at hr h4 h1 h6
        rw [Wd.less_irrefl] at this; cases this
      · exact h6
      · have := rise_at hr h1 h4 h6
        rw [Wd.less_irrefl] at this; cases this
    subst e
    rw [h5 _ (Nat.le_refl _), if_pos hi, show min (rk rs t + 1) rs.length - rk rs t = 0 + 1 by omega, pRows_succ, Nat.add_zero, shI_at hi]
    rw [List.getElem?_eq_getElem hi] at h1
    rw [Option.some.inj h1]; rfl
  · have hf : isR rs t = false := by simpa using h
    rw [if_neg h]
    rw [prv_none (isR_none hr hf) hk (fun i r hi hlt => rk_lt hi hlt) (fun i r hi hge => isR_ge hr hf hi hge) _ (Nat.le_refl _)]
    by_cases h0 : 0 < rk rs t
    · rw [dif_pos ⟨h0, by omega, by omega⟩]
      by_cases h1 : rk rs t < rs.length
      · rw [dif_pos ⟨h1, h1⟩, show min (rk rs t + 1) rs.length - (rk rs t - 1) = 0 + 1 + 1 by omega, pRows_succ, pRows_succ, Nat.add_zero, shI_at (by omega), show rk rs t - 1 + (0 + 1) = rk rs t by omega, shI_at h1]; rfl
      · rw [dif_neg (by omega), show min (rk rs t + 1) rs.length - (rk rs t - 1) = 0 + 1 by omega, pRows_succ, Nat.add_zero, shI_at (by omega)]; rfl
    · rw [dif_neg (by omega)]
      by_cases h1 : rk rs t < rs.length
      · rw [dif_pos ⟨h1, h1⟩, show min (rk rs t + 1) rs.length - (rk rs t - 1) = 0 + 1 by omega, pRows_succ, Nat.add_zero, show rk rs t - 1 = rk rs t by omega, shI_at h1]; rfl
      · rw [dif_neg (by omega), show min (rk rs t + 1) rs.length - (rk rs t - 1) = 0 by omega]; rfl
/-- Are the rows of a proof as they must be for a tag? -/
def shwB (t : ByteArray) (n : Int) : List Sh → Bool
  | [] => decide (n = 0)
  | [a] => decide (t = a.row.tag) || (Wd.less t a.row.tag && decide (a.pl = 0)) || (Wd.less a.row.tag t && decide (a.pl = IntKind.i64.wrap (n - 1)))
  | [a, b] => decide (b.pl = IntKind.i64.wrap (a.pl + 1)) && Wd.less a.row.tag t && Wd.less t b.row.tag
  | _ => false
def gotI (t : ByteArray) : List Sh → Rw × Bool × Bool
  | [a] => if a.row.tag = t then (a.row, true, true) else (Rw.zero, false, true)
  | _ => (Rw.zero, false, true)
theorem leads_bound {rt : ByteArray} {n : Int} {s : Sh} (h : leadsB rt n s = true) : 1 ≤ n ∧ n ≤ 4096 ∧ 0 ≤ s.pl ∧ s.pl < n ∧ digB s.way = true ∧ rwOk s.row := by
  unfold leadsB at h
  rw [Bool.and_eq_true, decide_eq_true_eq] at h
  obtain ⟨h1, h2⟩ := h
  unfold clI at h2
  by_cases hb : 1 ≤ n ∧ n ≤ 4096 ∧ 0 ≤ s.pl ∧ s.pl < n ∧ digB s.way = true
  · exact ⟨hb.1, hb.2.1, hb.2.2.1, hb.2.2.2.1, hb.2.2.2.2, h1⟩
  · rw [if_neg hb] at h2; cases h2
theorem wrap_in {x : Int} (h1 : -9223372036854775808 ≤ x) (h2 : x ≤ 9223372036854775807) : IntKind.i64.wrap x = x := by rw [IntKind.wrap_i64]; omega
/-- THE PROGRAM'S Verify TELLS WHAT THE REFERENCE'S TELLS. -/
theorem ver_shw (rt t : ByteArray) (n : Int) (l : List Sh) :
    verI rt t n l = if shwB t n l = true ∧ (n = 0 → rt = rtI []) ∧ l.all (leadsB rt n) = true then gotI t l else (Rw.zero, false, false) := by
  unfold verI
  match l with
  | [] =>
    rw [if_pos List.all_nil, if_pos rfl]
    by_cases h : n = 0 ∧ rtI [] = rt
    · rw [if_pos ⟨by unfold shwB; exact decide_eq_true h.1, fun _ => h.2.symm, List.all_nil⟩, decide_eq_true h]; rfl
    · rw [if_neg, decide_eq_false h]
      rintro ⟨h1, h2, -⟩
      unfold shwB at h1
      have h3 := of_decide_eq_true h1
      exact h ⟨h3, (h2 h3).symm⟩
  | [a] =>
    rw [if_neg (by simp : ¬ [a] = []), tellI]
    by_cases ha : [a].all (leadsB rt n) = true
    · have hb := leads_bound (s := a) (by simpa using ha)
      have hw : IntKind.i64.wrap (n - 1) = n - 1 := wrap_in (by omega) (by omega)
      rw [if_pos ha]
      have hg : gotI t [a] = if a.row.tag = t then (a.row, true, true) else (Rw.zero, false, true) := rfl
      have hs : shwB t n [a] = (decide (t = a.row.tag) || (Wd.less t a.row.tag && decide (a.pl = 0)) || (Wd.less a.row.tag t && decide (a.pl = IntKind.i64.wrap (n - 1)))) := rfl
      rw [hg, hs, hw]
      by_cases e : a.row.tag = t
      · rw [if_pos e, if_pos ⟨by rw [decide_eq_true e.symm]; rfl, fun h => by omega, ha⟩, if_pos e]
      · have e9 : decide (t = a.row.tag) = false := decide_eq_false (fun h => e h.symm)
        rw [if_neg e, if_neg e, e9, Bool.false_or]
        have e2 : decide (a.pl = n - 1) = decide (a.pl + 1 = n) := by
          congr 1; exact propext ⟨fun h => by omega, fun h => by omega⟩
        rw [e2]
        by_cases h : (Wd.less t a.row.tag && decide (a.pl = 0) || Wd.less a.row.tag t && decide (a.pl + 1 = n)) = true
        · rw [if_pos ⟨h, fun h => by omega, ha⟩, h]
        · rw [if_neg (fun h2 => h h2.1)]
          simp only [Bool.not_eq_true] at h
          rw [h]
    · rw [if_neg ha, if_neg (fun h => ha h.2.2)]
  | [a, b] =>
    rw [if_neg (by simp : ¬ [a, b] = []), tellI]
    by_cases ha : [a, b].all (leadsB rt n) = true
    · have ha2 := ha
      simp only [List.all_cons, List.all_nil, Bool.and_eq_true, Bool.and_true] at ha2
      have hb := leads_bound (s := a) ha2.1
      have hw : IntKind.i64.wrap (a.pl + 1) = a.pl + 1 := wrap_in (by omega) (by omega)
      rw [if_pos ha]
      have hg : gotI t [a, b] = (Rw.zero, false, true) := rfl
      have hs : shwB t n [a, b] = (decide (b.pl = IntKind.i64.wrap (a.pl + 1)) && Wd.less a.row.tag t && Wd.less t b.row.tag) := rfl
      rw [hg, hs, hw]
      have e2 : decide (b.pl = a.pl + 1) = decide (a.pl + 1 = b.pl) := by
        congr 1; exact propext ⟨fun h => h.symm, fun h => h.symm⟩
      rw [e2]
      by_cases h : (decide (a.pl + 1 = b.pl) && Wd.less a.row.tag t && Wd.less t b.row.tag) = true
      · rw [if_pos ⟨h, fun h => by omega, ha⟩]
        simp only [Bool.and_eq_true] at h
        rw [h.1.1, h.1.2, h.2]; rfl
      · rw [if_neg (fun h2 => h h2.1)]
        have h3 : (Wd.less a.row.tag t && Wd.less t b.row.tag && decide (a.pl + 1 = b.pl)) = false := by
          cases h4 : decide (a.pl + 1 = b.pl) <;> cases h5 : Wd.less a.row.tag t <;> cases h6 : Wd.less t b.row.tag <;> simp_all
        rw [h3]
    · rw [if_neg ha, if_neg (fun h => ha h.2.2)]
  | a :: b :: c :: r =>
    have h1 : tellI t n (a :: b :: c :: r) = (Rw.zero, false, false) := rfl
    have h2 : shwB t n (a :: b :: c :: r) = false := rfl
    rw [if_neg (by simp : ¬ (a :: b :: c :: r) = []), h1, h2]
    rw [if_neg (c := false = true ∧ (n = 0 → rt = rtI []) ∧ (a :: b :: c :: r).all (leadsB rt n) = true) (fun h => by cases h.1)]
    split <;> rfl
end Ix
end Go.Proofs.YtdfkpjmljaanpaaGreatDoor
