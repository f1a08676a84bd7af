/- Merged by program: Plain mathematics of frames: the frame of a body, what stands at the front of some bytes, all that stands there. No walk. | frame.sum, Wrap, Long; the reference's Wrap. | frame.first: where the frame at the front ends. | strings.Clone (the shelf's contract, laid at this program). | frame.Front: the body at the front, and what stands behind it. -/
import Derived.Test.YtdmbombjkinboaaGreatMZ
import Derived.Test.YtdmbombjkinboaaGreatMB
import Derived.Deep.QuietTactic
import Derived.BigQuiet
import Derived.IntWalk
import Derived.Deep.RegionWith
import Derived.Shelf.Strconv.Clone
namespace Go.Proofs.YtdmbombjkinboaaGreat
open Go.RowKit
namespace Fr

/-- A number in 3 bytes, the highest first; a word in 4 bytes, the lowest first. -/
def len3 (n : Nat) : List UInt8 := [UInt8.ofNat (n / 65536), UInt8.ofNat (n / 256), UInt8.ofNat n]
def le4 (x : BitVec 32) : List UInt8 := [UInt8.ofNat x.toNat, UInt8.ofNat (x.toNat / 256), UInt8.ofNat (x.toNat / 65536), UInt8.ofNat (x.toNat / 16777216)]
def sum4 (a b : List UInt8) : List UInt8 := le4 (Zc.sum (a ++ b))
/-- The frame of a body. -/
def frm (b : List UInt8) : List UInt8 := 229 :: (len3 b.length ++ (sum4 (len3 b.length) b ++ b))
/-- How long the body is that some bytes tell. -/
def long (s : List UInt8) : Nat := (s.getD 1 0).toNat * 65536 + (s.getD 2 0).toNat * 256 + (s.getD 3 0).toNat
/-- Where the frame at the front ends; or why there is none. -/
def fst (s : List UInt8) : Nat × Nat :=
  if s = [] then (0, 4)
  else if s.getD 0 0 ≠ 229 then (0, 3)
  else if s.length < 4 then (0, 7)
  else if long s = 0 ∨ 32768 < long s then (0, 3)
  else if s.length < 8 + long s then (0, 7)
  else if (s.drop 4).take 4 ≠ sum4 ((s.drop 1).take 3) ((s.drop 8).take (long s)) then (0, 8)
  else (8 + long s, 0)
/-- May these bytes be a body? -/
def may (b : List UInt8) : Prop := 1 ≤ b.length ∧ b.length ≤ 32768

theorem len3_length (n : Nat) : (len3 n).length = 3 := rfl
theorem le4_length (x : BitVec 32) : (le4 x).length = 4 := rfl
theorem sum4_length (a b : List UInt8) : (sum4 a b).length = 4 := rfl
theorem frm_length (b : List UInt8) : (frm b).length = 8 + b.length := by
  unfold frm
  simp only [List.length_cons, List.length_append, len3_length, sum4_length]; omega
theorem ofNat_toNat (n : Nat) : (UInt8.ofNat n).toNat = n % 256 := by simp
theorem long_frm (b r : List UInt8) (h : b.length < 16777216) : long (frm b ++ r) = b.length := by
  unfold long frm len3
  simp only [List.cons_append, List.getD_cons_succ, List.getD_cons_zero, List.nil_append, ofNat_toNat]
  omega
theorem le4_inj {x y : BitVec 32} (h : le4 x = le4 y) : x = y := by
  unfold le4 at h
  injection h with h1 h; injection h with h2 h; injection h with h3 h; injection h with h4 h
  have e1 := congrArg UInt8.toNat h1
  have e2 := congrArg UInt8.toNat h2
  have e3 := congrArg UInt8.toNat h3
  have e4 := congrArg UInt8.toNat h4
  simp only [ofNat_toNat] at e1 e2 e3 e4
  have := x.isLt
  have := y.isLt
  exact BitVec.eq_of_toNat_eq (by omega)
theorem frm_drop1 (b r : List UInt8) : ((frm b ++ r).drop 1).take 3 = len3 b.length := rfl
theorem frm_drop4 (b r : List UInt8) : ((frm b ++ r).drop 4).take 4 = sum4 (len3 b.length) b := rfl
theorem frm_drop8 (b r : List UInt8) : (frm b ++ r).drop 8 = b ++ r := rfl
theorem frm_body (b r : List UInt8) : ((frm b ++ r).drop 8).take b.length = b := by rw [frm_drop8, List.take_left]
theorem frm_rest (b r : List UInt8) : (frm b ++ r).drop (8 + b.length) = r := by
  rw [← List.drop_drop, frm_drop8, List.drop_left]
theorem fst_frm (b r : List UInt8) (h : may b) : fst (frm b ++ r) = (8 + b.length, 0) := by
  have hl := long_frm b r (by have := h.2; omega)
  have hn : (frm b ++ r).length = 8 + b.length + r.length := by rw [List.length_append, frm_length]
  unfold fst
  rw [hl, frm_drop1, frm_drop4, frm_body, hn]
  have h1 := h.1
  have h2 := h.2
  rw [if_neg (by unfold frm; simp), if_neg (by unfold frm; simp), if_neg (by omega), if_neg (by omega), if_neg (by omega), if_neg (by simp)]
theorem getD_take (s : List UInt8) (c i : Nat) (h : i < c) : (s.take c).getD i 0 = s.getD i 0 := by
  rw [List.getD_eq_getElem?_getD, List.getD_eq_getElem?_getD, List.getElem?_take_of_lt h]
theorem long_take (s : List UInt8) (c : Nat) (h : 4 ≤ c) : long (s.take c) = long s := by
  unfold long
  rw [getD_take _ _ _ (by omega), getD_take _ _ _ (by omega), getD_take _ _ _ (by omega)]
/-- A frame that is cut off ends. -/
theorem fst_cut (b : List UInt8) (h : may b) (c : Nat) (h0 : 0 < c) (hc : c < 8 + b.length) : fst ((frm b).take c) = (0, 7) := by
  have hl : long (frm b) = b.length := by have := long_frm b [] (by have := h.2; omega); rwa [List.append_nil] at this
  have hn : ((frm b).take c).length = c := by rw [List.length_take, frm_length]; omega
  have hne : (frm b).take c ≠ [] := fun e => by rw [e] at hn; simp at hn; omega
  unfold fst
  rw [if_neg hne, getD_take _ _ _ h0, if_neg (by unfold frm; simp), hn]
  by_cases h4 : c < 4
  · rw [if_pos h4]
  · rw [if_neg h4, long_take _ _ (by omega), hl]
    have h1 := h.1
    have h2 := h.2
    rw [if_neg (by omega), if_pos (by omega)]
theorem fst_ok {s : List UInt8} {n : Nat} (h : fst s = (n, 0)) :
    n = 8 + long s ∧ 1 ≤ long s ∧ long s ≤ 32768 ∧ n ≤ s.length ∧ s.getD 0 0 = 229 ∧ (s.drop 4).take 4 = sum4 ((s.drop 1).take 3) ((s.drop 8).take (long s)) := by
  unfold fst at h
  split at h
  · cases h
  split at h
  · cases h
  split at h
  · cases h
  split at h
  · cases h
  split at h
  · cases h
  split at h
  · cases h
  · rename_i h1 h2 h3 h4 h5 h6
    injection h with h _
    exact ⟨h.symm, by omega, by omega, by omega, by simpa using h2, by simpa using h6⟩
theorem fst_no {s : List UInt8} {n e : Nat} (h : fst s = (n, e)) (he : e ≠ 0) : n = 0 := by
  unfold fst at h
  repeat (split at h; · injection h with h _; exact h.symm)
  injection h with _ h
  exact absurd h.symm he
theorem fst_nil : fst [] = (0, 4) := rfl
/-- What stands at the front of some bytes, the rest of which is at hand. -/
theorem bytes4 (s : List UInt8) (h : 8 ≤ s.length) : s = s.getD 0 0 :: ((s.drop 1).take 3 ++ ((s.drop 4).take 4 ++ s.drop 8)) := by
  match s, h with
  | a :: b :: c :: d :: e :: f :: g :: i :: r, _ => rfl
theorem len3_long (s : List UInt8) (h : 4 ≤ s.length) : len3 (long s) = (s.drop 1).take 3 := by
  match s, h with
  | a :: b :: c :: d :: r, _ =>
    unfold len3 long
    simp only [List.getD_cons_succ, List.getD_cons_zero]
    have h1 := b.toNat_lt
    have h2 := c.toNat_lt
    have h3 := d.toNat_lt
    have e1 : UInt8.ofNat ((b.toNat * 65536 + c.toNat * 256 + d.toNat) / 65536) = b := UInt8.toNat_inj.1 (by rw [ofNat_toNat]; omega)
    have e2 : UInt8.ofNat ((b.toNat * 65536 + c.toNat * 256 + d.toNat) / 256) = c := UInt8.toNat_inj.1 (by rw [ofNat_toNat]; omega)
    have e3 : UInt8.ofNat (b.toNat * 65536 + c.toNat * 256 + d.toNat) = d := UInt8.toNat_inj.1 (by rw [ofNat_toNat]; omega)
    rw [e1, e2, e3]
    rfl
/-- Of bytes that are long enough: they begin with the frame of what stands behind the head, just if the sum is the one. -/
theorem frm_iff (s : List UInt8) (h0 : s.getD 0 0 = 229) (hn : 8 + long s ≤ s.length) :
    frm ((s.drop 8).take (long s)) = s.take (8 + long s) ↔ (s.drop 4).take 4 = sum4 ((s.drop 1).take 3) ((s.drop 8).take (long s)) := by
  have hb : ((s.drop 8).take (long s)).length = long s := by rw [List.length_take, List.length_drop]; omega
  have e : s.take (8 + long s) = 229 :: (len3 (long s) ++ ((s.drop 4).take 4 ++ (s.drop 8).take (long s))) := by
    rw [len3_long s (by omega)]
    have l1 : ((s.drop 1).take 3).length = 3 := by rw [List.length_take, List.length_drop]; omega
    have l2 : ((s.drop 4).take 4).length = 4 := by rw [List.length_take, List.length_drop]; omega
    have hs := bytes4 s (by omega)
    rw [h0] at hs
    generalize long s = L at *
    generalize (s.drop 1).take 3 = A at *
    generalize (s.drop 4).take 4 = B at *
    generalize s.drop 8 = C at *
    rw [hs, show 8 + L = (3 + (4 + L)) + 1 from by omega, List.take_succ_cons, ← l1, List.take_length_add_append, ← l2, List.take_length_add_append]
  rw [e]
  unfold frm
  rw [hb, len3_long s (by omega)]
  constructor
  · intro h
    injection h with _ h
    rw [List.append_cancel_left_eq] at h
    exact (List.append_inj h (by rw [sum4_length, List.length_take, List.length_drop]; omega)).1.symm
  · intro h
    rw [h]
theorem fst_frm_of {s : List UInt8} {n : Nat} (h : fst s = (n, 0)) : s.take n = frm ((s.take n).drop 8) ∧ may ((s.take n).drop 8) := by
  obtain ⟨h1, h2, h3, h4, h5, h6⟩ := fst_ok h
  have hd : (s.take n).drop 8 = (s.drop 8).take (long s) := by rw [List.drop_take, h1, Nat.add_sub_cancel_left]
  have hl : ((s.drop 8).take (long s)).length = long s := by rw [List.length_take, List.length_drop]; omega
  rw [hd]
  refine ⟨?_, by unfold may; omega⟩
  rw [(frm_iff s h5 (by omega)).2 h6, h1]

/-- All bodies that stand at the front, where they end, and why. -/
inductive Scans : List UInt8 → List (List UInt8) → Nat → Nat → Prop
  | stop {s : List UInt8} {n e : Nat} : fst s = (n, e) → e ≠ 0 → Scans s [] 0 e
  | more {s : List UInt8} {n : Nat} {l : List (List UInt8)} {m e : Nat} : fst s = (n, 0) → Scans (s.drop n) l m e → Scans s ((s.take n).drop 8 :: l) (n + m) e
theorem Scans.exists (s : List UInt8) : ∃ l m e, Scans s l m e := by
  obtain ⟨k, hk⟩ : ∃ k, s.length ≤ k := ⟨_, Nat.le_refl _⟩
  induction k generalizing s with
  | zero =>
    obtain rfl := List.length_eq_zero_iff.1 (Nat.le_zero.1 hk)
    exact ⟨_, _, _, .stop fst_nil (by decide)⟩
  | succ k ih =>
    by_cases h : (fst s).2 = 0
    · have h1 : fst s = ((fst s).1, 0) := by rw [← h]
      have h2 := fst_ok h1
      obtain ⟨l, m, e, hr⟩ := ih (s.drop (fst s).1) (by rw [List.length_drop]; omega)
      exact ⟨_, _, _, .more h1 hr⟩
    · exact ⟨_, _, _, .stop (n := (fst s).1) rfl h⟩
theorem Scans.only {s : List UInt8} {l l' : List (List UInt8)} {m m' e e' : Nat} (h : Scans s l m e) (k : Scans s l' m' e') : l = l' ∧ m = m' ∧ e = e' := by
  induction h generalizing l' m' e' with
  | stop h he =>
    cases k with
    | stop k ke => rw [h] at k; injection k with _ k; exact ⟨rfl, rfl, k⟩
    | more k _ => rw [h] at k; injection k with _ k; exact absurd k he
  | more h _ ih =>
    cases k with
    | stop k ke => rw [h] at k; injection k with _ k; exact absurd k.symm ke
    | more k kr =>
      rw [h] at k; injection k with k _
      subst k
      obtain ⟨rfl, rfl, rfl⟩ := ih kr
      exact ⟨rfl, rfl, rfl⟩
theorem Scans.le {s : List UInt8} {l : List (List UInt8)} {m e : Nat} (h : Scans s l m e) : m ≤ s.length ∧ 9 * l.length ≤ m ∧ e ≠ 0 := by
  induction h with
  | stop h he => exact ⟨by omega, by simp, he⟩
  | more h _ ih =>
    have := fst_ok h
    rw [List.length_drop] at ih
    rw [List.length_cons]
    omega
/-- Frames, one behind the other. -/
def frms (l : List (List UInt8)) : List UInt8 := (l.map frm).flatten
theorem frms_cons (b : List UInt8) (l : List (List UInt8)) : frms (b :: l) = frm b ++ frms l := rfl
theorem frms_nil : frms [] = [] := rfl
theorem frms_append (l k : List (List UInt8)) : frms (l ++ k) = frms l ++ frms k := by unfold frms; rw [List.map_append, List.flatten_append]
theorem Scans.frms {l k : List (List UInt8)} {r : List UInt8} {m e : Nat} (hl : ∀ b ∈ l, may b) (h : Scans r k m e) : Scans (frms l ++ r) (l ++ k) ((frms l).length + m) e := by
  induction l with
  | nil => rw [frms_nil, List.nil_append, List.nil_append, List.length_nil, Nat.zero_add]; exact h
  | cons b l ih =>
    rw [frms_cons, List.append_assoc, List.length_append, frm_length, Nat.add_assoc, List.cons_append]
    have h1 := fst_frm b (Fr.frms l ++ r) (hl b (List.mem_cons_self ..))
    have h2 := frm_body b (Fr.frms l ++ r)
    have h3 := frm_rest b (Fr.frms l ++ r)
    have h4 : ((frm b ++ (Fr.frms l ++ r)).take (8 + b.length)).drop 8 = b := by rw [List.drop_take, Nat.add_sub_cancel_left, h2]
    have := Scans.more h1 (by rw [h3]; exact ih (fun x hx => hl x (List.mem_cons_of_mem _ hx)))
    rwa [h4] at this
/-- What stands ahead of where they end are the frames of the bodies. -/
theorem Scans.front {s : List UInt8} {l : List (List UInt8)} {m e : Nat} (h : Scans s l m e) : s.take m = Fr.frms l ∧ (∀ b ∈ l, may b) ∧ (fst (s.drop m)).2 = e := by
  induction h with
  | stop h he => exact ⟨rfl, fun b hb => (by cases hb), (by rw [List.drop_zero, h])⟩
  | more h hr ih =>
    rename_i s n l m e
    obtain ⟨h1, h2⟩ := fst_frm_of h
    refine ⟨?_, ?_, ?_⟩
    · rw [List.take_add, frms_cons, ih.1, ← h1]
    · intro b hb
      rcases List.mem_cons.1 hb with rfl | hb
      · exact h2
      · exact ih.2.1 b hb
    · rw [← List.drop_drop]; exact ih.2.2
theorem Scans.none : Scans [] [] 0 4 := .stop fst_nil (by decide)
theorem Scans.all {l : List (List UInt8)} (hl : ∀ b ∈ l, may b) : Scans (Fr.frms l) l (Fr.frms l).length 4 := by
  have := Scans.frms hl Scans.none
  rwa [List.append_nil, List.append_nil, Nat.add_zero] at this
/-- Frames that are cut off tell those that are whole, and that they end. -/
theorem Scans.cut {l : List (List UInt8)} (hl : ∀ b ∈ l, may b) (c : Nat) (hc : c ≤ (Fr.frms l).length) :
    ∃ n, n ≤ l.length ∧ (Fr.frms (l.take n)).length ≤ c ∧ (n < l.length → c < (Fr.frms (l.take (n + 1))).length) ∧
      Scans ((Fr.frms l).take c) (l.take n) (Fr.frms (l.take n)).length (if (Fr.frms (l.take n)).length = c then 4 else 7) := by
  induction l generalizing c with
  | nil =>
    have h0 : c = 0 := Nat.le_zero.1 hc
    subst h0
    exact ⟨0, Nat.le_refl _, Nat.le_refl _, fun h => absurd h (by simp), Scans.none⟩
  | cons b l ih =>
    have hb := hl b (List.mem_cons_self ..)
    rw [frms_cons, List.length_append, frm_length] at hc
    by_cases h : c < 8 + b.length
    · refine ⟨0, by simp, by simp [frms_nil], fun _ => by rw [List.take_succ_cons, frms_cons, List.length_append, frm_length]; omega, ?_⟩
      rw [List.take_zero, frms_cons, List.take_append_of_le_length (by rw [frm_length]; omega)]
      by_cases h0 : c = 0
      · subst h0; exact Scans.none
      · have := fst_cut b hb c (by omega) h
        rw [if_neg (by rw [frms_nil]; simp; omega)]
        exact .stop this (by decide)
    · obtain ⟨n, h1, h2, h3, h4⟩ := ih (fun x hx => hl x (List.mem_cons_of_mem _ hx)) (c - (8 + b.length)) (by omega)
      refine ⟨n + 1, by simpa using h1, ?_, ?_, ?_⟩
      · rw [List.take_succ_cons, frms_cons, List.length_append, frm_length]; omega
      · intro hlt
        have := h3 (by simpa using hlt)
        rw [List.take_succ_cons, frms_cons, List.length_append, frm_length]; omega
      · rw [List.take_succ_cons, frms_cons, frms_cons, List.length_append, frm_length]
        have e : (frm b ++ Fr.frms l).take c = Fr.frms [b] ++ (Fr.frms l).take (c - (8 + b.length)) := by
          rw [List.take_append, frm_length, List.take_of_length_le (by rw [frm_length]; omega)]
          show _ = (frm b ++ []) ++ _
          rw [List.append_nil]
        rw [e]
        have hx := Scans.frms (l := [b]) (fun x hx => by rcases List.mem_singleton.1 hx with rfl; exact hb) h4
        have hlen : (Fr.frms [b]).length = 8 + b.length := by rw [frms_cons, frms_nil, List.append_nil, frm_length]
        rw [hlen] at hx
        by_cases h5 : (Fr.frms (l.take n)).length = c - (8 + b.length)
        · rw [if_pos h5] at hx
          rw [if_pos (by omega)]; exact hx
        · rw [if_neg h5] at hx
          rw [if_neg (by omega)]; exact hx

/-! ### A body some of whose bits are turned -/
theorem fB_far (p : Nat) (x : BitVec 32) (k q : Nat) : Zc.fB (24 + p) x k (24 + q) = Zc.fB p x k q := by
  unfold Zc.fB
  rw [show 24 + q - (24 + p) = q - p from by omega]
  congr 1
  congr 1
  · exact decide_eq_decide.2 (by omega)
  · exact decide_eq_decide.2 (by omega)
theorem byteF_far (p : Nat) (x : BitVec 32) (k i : Nat) : Zc.byteF (Zc.fB (24 + p) x k) (i + 3) = Zc.byteF (Zc.fB p x k) i := by
  apply Zc.u8_ext
  intro j hj
  rw [Zc.byteF_bit _ _ j hj, Zc.byteF_bit _ _ j hj, show 8 * (i + 3) + j = 24 + (8 * i + j) from by omega, fB_far]
theorem byteF_near (p : Nat) (x : BitVec 32) (k i : Nat) (hi : i < 3) : Zc.byteF (Zc.fB (24 + p) x k) i = 0 :=
  Zc.byteF_none fun j hj => by unfold Zc.fB; rw [decide_eq_false (by omega : ¬ 24 + p ≤ 8 * i + j)]; rfl
theorem turned_behind (a b : List UInt8) (ha : a.length = 3) (p : Nat) (x : BitVec 32) (k : Nat) : Zc.turned (a ++ b) (24 + p) x k = a ++ Zc.turned b p x k := by
  apply List.ext_getElem?
  intro i
  by_cases hi : i < (a ++ b).length
  · rw [Zc.turned_get _ _ _ _ i hi]
    by_cases h3 : i < 3
    · rw [byteF_near _ _ _ _ h3, UInt8.xor_zero, List.getElem?_append_left (by omega), List.getElem_append_left (by omega), List.getElem?_eq_getElem (by omega)]
    · obtain ⟨j, rfl⟩ : ∃ j, i = j + 3 := ⟨i - 3, by omega⟩
      rw [List.length_append] at hi
      rw [byteF_far, List.getElem?_append_right (by omega), List.getElem_append_right (by omega), Zc.turned_get _ _ _ _ _ (by omega)]
      simp only [ha, Nat.add_sub_cancel]
  · rw [List.getElem?_eq_none (by rw [Zc.turned_length]; omega), List.getElem?_eq_none (by rw [List.length_append, Zc.turned_length]; rw [List.length_append] at hi; omega)]
theorem burst_sum (a b : List UInt8) (ha : a.length = 3) (p : Nat) (x : BitVec 32) (hp : p < 8 * b.length) (h : sum4 a (Zc.turned b p x 32) = sum4 a b) : Zc.turned b p x 32 = b := by
  have h := le4_inj h
  rw [← turned_behind a b ha p x 32] at h
  have := Zc.burst_same (a ++ b) (24 + p) x (by rw [List.length_append]; omega) h
  rw [turned_behind a b ha p x 32] at this
  exact List.append_cancel_left this
/-- A frame whose body is another one of the same length: the sum tells. -/
theorem fst_turned (b t r : List UInt8) (hb : may b) (hl : t.length = b.length) (hs : sum4 (len3 b.length) t ≠ sum4 (len3 b.length) b) :
    fst ((frm b).take 8 ++ t ++ r) = (0, 8) := by
  have e : (frm b).take 8 = 229 :: (len3 b.length ++ sum4 (len3 b.length) b) := rfl
  have hlong : long ((frm b).take 8 ++ t ++ r) = b.length := by
    rw [e]
    unfold long len3
    simp only [List.cons_append, List.getD_cons_succ, List.getD_cons_zero, List.nil_append, ofNat_toNat]
    have := hb.2
    omega
  have hn : ((frm b).take 8 ++ t ++ r).length = 8 + b.length + r.length := by rw [List.length_append, List.length_append, List.length_take, frm_length]; omega
  have h1 : (((frm b).take 8 ++ t ++ r).drop 1).take 3 = len3 b.length := rfl
  have h4 : (((frm b).take 8 ++ t ++ r).drop 4).take 4 = sum4 (len3 b.length) b := rfl
  have h8 : ((frm b).take 8 ++ t ++ r).drop 8 = t ++ r := rfl
  have hbody : (((frm b).take 8 ++ t ++ r).drop 8).take b.length = t := by rw [h8, ← hl, List.take_left]
  unfold fst
  rw [hlong, h1, h4, hbody, hn]
  have m1 := hb.1
  have m2 := hb.2
  rw [if_neg (by rw [e]; simp), if_neg (by rw [e]; simp), if_neg (by omega), if_neg (by omega), if_neg (by omega), if_pos (fun h => hs h.symm)]
end Fr
end Go.Proofs.YtdmbombjkinboaaGreat
namespace Go.Proofs.YtdmbombjkinboaaGreat
open Go.RowKit
open Fr

attribute [local go_sem] V_shr V_div256 V_div65536 V_div16777216
theorem conv_row (cs : Array Value) (l : List UInt8) (hcs : cs = (bcells l).toArray) (n : Nat) (hn : l.length = n) (W : World) :
    (convert 51 9 (.slice (some ⟨W.heap.size, 0, none⟩) n n)).run Tryz.prog (W.alloc (.cells cs 5)) = .ok (.string (str l)) (W.alloc (.cells cs 5)) := by
  subst hcs hn
  rw [← strOfNums_nums]
  refine run_convert_bytes_arg (P := Tryz.prog) _ 51 5 Tryz.underlying51 Tryz.underlying5 W.heap.size 0 l.length l.length (nums l) (by simp [nums]) (fun j hj => ?_) 9 Tryz.underlying9
  rw [Nat.zero_add, cell_of_row _ _ _ _ _ _ (heap_alloc_new _ _)]
  simp [bcells, nums, List.getD_eq_getElem?_getD, hj]
theorem conv_3 (a b c : UInt8) (W : World) : (convert 51 9 (.slice (some ⟨W.heap.size, 0, none⟩) 3 3)).run Tryz.prog (W.alloc (.cells #[.int .u8 (a.toNat : Int), .int .u8 (b.toNat : Int), .int .u8 (c.toNat : Int)] 5)) = .ok (.string (str [a, b, c])) (W.alloc (.cells #[.int .u8 (a.toNat : Int), .int .u8 (b.toNat : Int), .int .u8 (c.toNat : Int)] 5)) :=
  conv_row _ [a, b, c] rfl 3 rfl W
theorem conv_4 (a b c d : UInt8) (W : World) : (convert 51 9 (.slice (some ⟨W.heap.size, 0, none⟩) 4 4)).run Tryz.prog (W.alloc (.cells #[.int .u8 (a.toNat : Int), .int .u8 (b.toNat : Int), .int .u8 (c.toNat : Int), .int .u8 (d.toNat : Int)] 5)) = .ok (.string (str [a, b, c, d])) (W.alloc (.cells #[.int .u8 (a.toNat : Int), .int .u8 (b.toNat : Int), .int .u8 (c.toNat : Int), .int .u8 (d.toNat : Int)] 5)) :=
  conv_row _ [a, b, c, d] rfl 4 rfl W
theorem conv_e5 (b c d : UInt8) (W : World) : (convert 51 9 (.slice (some ⟨W.heap.size, 0, none⟩) 4 4)).run Tryz.prog (W.alloc (.cells #[.int .u8 229, .int .u8 (b.toNat : Int), .int .u8 (c.toNat : Int), .int .u8 (d.toNat : Int)] 5)) = .ok (.string (str [229, b, c, d])) (W.alloc (.cells #[.int .u8 229, .int .u8 (b.toNat : Int), .int .u8 (c.toNat : Int), .int .u8 (d.toNat : Int)] 5)) :=
  conv_row _ [229, b, c, d] rfl 4 rfl W
theorem low_V (x : BitVec 32) : IntKind.u8.wrap (V x) = ((UInt8.ofNat x.toNat).toNat : Int) := by
  rw [ofNat_toNat]; unfold V; rw [IntKind.wrap_u8']; omega
theorem low_n (n : Nat) : IntKind.u8.wrap (n : Int) = ((UInt8.ofNat n).toNat : Int) := by
  rw [ofNat_toNat, IntKind.wrap_u8']; omega
theorem le4_eq (x : BitVec 32) : le4 x = [UInt8.ofNat x.toNat, UInt8.ofNat (x >>> 8).toNat, UInt8.ofNat (x >>> 16).toNat, UInt8.ofNat (x >>> 24).toNat] := by
  unfold le4
  simp only [BitVec.toNat_ushiftRight, Nat.shiftRight_eq_div_pow, Nat.reducePow]
set_option maxHeartbeats 1000000 in
theorem fsum_any (a b : ByteArray) (ha : a.size ≤ 100000) (hb : b.size ≤ 100000) (w : World) :
    Calls Tryz.prog 70 #[.string a, .string b] w fun e w' => e = .returned (.string (str (sum4 a.data.toList b.data.toList))) ∧ Below w.heap.size w w' := by
  obtain ⟨x, hx⟩ : ∃ x, x = Zc.sum (a.data.toList ++ b.data.toList) := ⟨_, rfl⟩
  have hm : Zc.more (Zc.sum a.data.toList) b.data.toList = x := by rw [hx, Zc.sum, Zc.more_more]; rfl
  have h4 : sum4 a.data.toList b.data.toList = [UInt8.ofNat x.toNat, UInt8.ofNat (x >>> 8).toNat, UInt8.ofNat (x >>> 16).toNat, UInt8.ofNat (x >>> 24).toNat] := by rw [← le4_eq, hx]; rfl
  have l0 := low_V x
  have l1 := low_V (x >>> 8)
  have l2 := low_V (x >>> 16)
  have l3 := low_V (x >>> 24)
  rw [h4]
  clear h4 hx
  have HM := Lib.hid hm
  clear hm
  generalize UInt8.ofNat x.toNat = c0 at *
  generalize UInt8.ofNat (x >>> 8).toNat = c1 at *
  generalize UInt8.ofNat (x >>> 16).toNat = c2 at *
  generalize UInt8.ofNat (x >>> 24).toNat = c3 at *
  go_enter Tryz.func70, Tryz.ntmps70
  go_wp2_with fail
  refine (sum_any a (by unfold maxLen; omega) _).mono ?_
  rintro e w1 ⟨rfl, h1⟩
  go_wp2_with fail
  refine (more_any _ b (by unfold maxLen; omega) _).mono ?_
  rintro e w2 ⟨rfl, h2⟩
  rw [HM.out]
  have hconv := conv_4 c0 c1 c2 c3
  go_wp2_with fail
  go_ret
  exact ⟨rfl, (below_call h1 h2).trans ((Below.refl _ w2).alloc (by have := h1.size; have := h2.size; omega) _)⟩

/-- Wrap's answer. -/
def wrapE (b : ByteArray) : Int := if b.size = 0 then 1 else if 32768 < b.size then 2 else 0
def wrapS (b : ByteArray) : ByteArray := if wrapE b = 0 then str (frm b.data.toList) else ⟨#[]⟩
theorem may_size {b : ByteArray} : may b.data.toList ↔ 1 ≤ b.size ∧ b.size ≤ 32768 := by unfold may; simp
theorem wrapE_ok {b : ByteArray} (h : may b.data.toList) : wrapE b = 0 := by
  have := may_size.1 h
  unfold wrapE; rw [if_neg (by omega), if_neg (by omega)]
theorem wrapE_may {b : ByteArray} (h : wrapE b = 0) : may b.data.toList := by
  rw [may_size]
  unfold wrapE at h
  by_cases h1 : b.size = 0
  · rw [if_pos h1] at h; cases h
  · rw [if_neg h1] at h
    by_cases h2 : 32768 < b.size
    · rw [if_pos h2] at h; cases h
    · omega
theorem wrapS_ok {b : ByteArray} (h : may b.data.toList) : wrapS b = str (frm b.data.toList) := by unfold wrapS; rw [if_pos (wrapE_ok h)]
theorem wrapS_no {b : ByteArray} (h : wrapE b ≠ 0) : wrapS b = ⟨#[]⟩ := by unfold wrapS; rw [if_neg h]
theorem str_cat (l k : List UInt8) : str l ++ str k = str (l ++ k) := by
  apply Go.WideShapes.bytes_inj
  rw [ByteArray.data_append]
  simp [str]
theorem str_cat' (l : List UInt8) (k : ByteArray) : str l ++ k = str (l ++ k.data.toList) := str_cat l k.data.toList
theorem str_cut (l : List UInt8) (m n : Nat) : (str l).extract m n = str ((l.take n).drop m) := by
  apply Go.WideShapes.bytes_inj
  rw [ByteArray.data_extract]
  simp [str]
  rw [List.drop_take]
theorem frm_parts (b : ByteArray) : str (frm b.data.toList) = (str (229 :: len3 b.size) ++ str (sum4 (len3 b.size) b.data.toList)) ++ b := by
  rw [str_cat, str_cat']
  unfold frm
  simp
theorem empty_size (b : ByteArray) : b.toList.isEmpty = decide (b.size = 0) := by
  rw [toList_data]
  have e : b.data.toList.length = b.size := by simp
  cases h : b.data.toList with
  | nil => rw [h] at e; simp at e; simp [← e]
  | cons a l => rw [h, List.length_cons] at e; rw [decide_eq_false (by omega)]; rfl
theorem size_empty {b : ByteArray} (h : b.toList.isEmpty = true) : b.size = 0 := by rw [empty_size] at h; simpa using h
theorem size_full {b : ByteArray} (h : ¬ b.toList.isEmpty = true) : ¬ b.size = 0 := by rw [empty_size] at h; simpa using h
set_option maxHeartbeats 1000000 in
theorem wrap_any (b : ByteArray) (hb : b.size ≤ 1000000) (w : World) :
    Calls Tryz.prog 44 #[.string b] w fun e w' => e = .returned (.tuple #[.string (wrapS b), .int .i64 (wrapE b)]) ∧ Below w.heap.size w w' := by
  by_cases h0 : (b.size : Int) = 0
  · have he : wrapE b = 1 := by unfold wrapE; rw [if_pos (by omega)]
    have hs : wrapS b = ⟨#[]⟩ := wrapS_no (by rw [he]; decide)
    rw [he, hs]
    clear he hs
    go_enter Tryz.func44, Tryz.ntmps44
    go_wp2_with fail
    go_ret2
    exact ⟨rfl, Below.refl _ _⟩
  by_cases h1 : (32768 : Int) < b.size
  · have he : wrapE b = 2 := by unfold wrapE; rw [if_neg (by omega), if_pos (by omega)]
    have hs : wrapS b = ⟨#[]⟩ := wrapS_no (by rw [he]; decide)
    rw [he, hs]
    clear he hs
    go_enter Tryz.func44, Tryz.ntmps44
    go_wp2_with fail
    go_ret2
    exact ⟨rfl, Below.refl _ _⟩
  have hm : may b.data.toList := may_size.2 (by omega)
  rw [wrapE_ok hm, wrapS_ok hm, frm_parts]
  clear hm
  have l0 : (b.size : Int) / 65536 = ((UInt8.ofNat (b.size / 65536)).toNat : Int) := by rw [ofNat_toNat]; omega
  have l1 : (b.size : Int) / 256 = ((UInt8.ofNat (b.size / 256)).toNat : Int) := by rw [ofNat_toNat]; omega
  have l2 := low_n b.size
  obtain ⟨c0, hc0⟩ : ∃ c, c = UInt8.ofNat (b.size / 65536) := ⟨_, rfl⟩
  obtain ⟨c1, hc1⟩ : ∃ c, c = UInt8.ofNat (b.size / 256) := ⟨_, rfl⟩
  obtain ⟨c2, hc2⟩ : ∃ c, c = UInt8.ofNat b.size := ⟨_, rfl⟩
  have hl3 : len3 b.size = [c0, c1, c2] := by rw [hc0, hc1, hc2]; rfl
  rw [← hc0] at l0
  rw [← hc1] at l1
  rw [← hc2] at l2
  rw [hl3]
  clear hc0 hc1 hc2 hl3
  obtain ⟨R, hR⟩ : ∃ R, R = str [229, c0, c1, c2] ++ str (sum4 [c0, c1, c2] b.data.toList) ++ b := ⟨_, rfl⟩
  rw [← hR]
  have HR := Lib.hid hR
  clear hR
  have hconv := conv_e5 c0 c1 c2
  have hcut : (str [229, c0, c1, c2]).extract 1 4 = str [c0, c1, c2] := str_cut _ _ _
  have hs1 : (str [229, c0, c1, c2]).size = 4 := rfl
  go_enter Tryz.func44, Tryz.ntmps44
  go_wp2_with fail
  refine (fsum_any (str [c0, c1, c2]) b (by rw [str_size]; show 3 ≤ 100000; decide) (by omega) _).mono ?_
  rintro e w1 ⟨rfl, hb1⟩
  rw [str_data]
  have hs2 : (str (sum4 [c0, c1, c2] b.data.toList)).size = 4 := rfl
  generalize str (sum4 [c0, c1, c2] b.data.toList) = S4 at *
  generalize str [229, c0, c1, c2] = H4 at *
  go_wp2_with fail
  go_ret2
  exact ⟨by rw [HR.out]; rfl, ((Below.refl _ w).alloc (Nat.le_refl _) _).trans (hb1.mono (by simp))⟩
theorem long_any (b : ByteArray) (hb : b.size ≤ 1000000) (w : World) :
    Calls Tryz.prog 42 #[.string b] w fun e w' => e = .returned (.int .i64 ((wrapS b).size : Int)) ∧ w = w' := by
  by_cases h0 : b.toList.isEmpty = true
  · have he : wrapE b = 1 := by unfold wrapE; rw [if_pos (size_empty h0)]
    have hs : wrapS b = ⟨#[]⟩ := wrapS_no (by rw [he]; decide)
    rw [hs, show ((⟨#[]⟩ : ByteArray).size : Int) = 0 from rfl]
    clear he hs
    go_enter Tryz.func42, Tryz.ntmps42
    go_wp2_with fail
    go_ret
    exact ⟨rfl, rfl⟩
  have h0' : b.toList.isEmpty = false := by simpa using h0
  by_cases h1 : (32768 : Int) < b.size
  · have he : wrapE b = 2 := by unfold wrapE; rw [if_neg (size_full h0), if_pos (by omega)]
    have hs : wrapS b = ⟨#[]⟩ := wrapS_no (by rw [he]; decide)
    rw [hs, show ((⟨#[]⟩ : ByteArray).size : Int) = 0 from rfl]
    clear he hs
    go_enter Tryz.func42, Tryz.ntmps42
    go_wp2_with fail
    go_ret
    exact ⟨rfl, rfl⟩
  have hm : may b.data.toList := may_size.2 (by have := size_full h0; omega)
  have hn : ((wrapS b).size : Int) = 8 + b.size := by rw [wrapS_ok hm, str_size, frm_length]; simp
  rw [hn]
  clear hn hm
  go_enter Tryz.func42, Tryz.ntmps42
  go_wp2_with fail
  go_ret
  exact ⟨rfl, rfl⟩
set_option maxHeartbeats 1000000 in
theorem rwrap_any (b : ByteArray) (hb : b.size ≤ 1000000) (w : World) :
    Calls Tryz.prog 60 #[.string b] w fun e w' => e = .returned (.tuple #[.string (wrapS b), .int .i64 (wrapE b)]) ∧ Below w.heap.size w w' := by
  by_cases h0 : b.toList.isEmpty = true
  · have he : wrapE b = 1 := by unfold wrapE; rw [if_pos (size_empty h0)]
    have hs : wrapS b = ⟨#[]⟩ := wrapS_no (by rw [he]; decide)
    rw [he, hs]
    clear he hs
    go_enter Tryz.func60, Tryz.ntmps60
    go_wp2_with fail
    go_ret2
    exact ⟨rfl, Below.refl _ _⟩
  have h0' : b.toList.isEmpty = false := by simpa using h0
  by_cases h1 : (32768 : Int) < b.size
  · have he : wrapE b = 2 := by unfold wrapE; rw [if_neg (size_full h0), if_pos (by omega)]
    have hs : wrapS b = ⟨#[]⟩ := wrapS_no (by rw [he]; decide)
    rw [he, hs]
    clear he hs
    go_enter Tryz.func60, Tryz.ntmps60
    go_wp2_with fail
    go_ret2
    exact ⟨rfl, Below.refl _ _⟩
  have hm : may b.data.toList := may_size.2 (by have := size_full h0; omega)
  rw [wrapE_ok hm, wrapS_ok hm, frm_parts]
  clear hm
  have l0 : (b.size : Int) / 65536 = ((UInt8.ofNat (b.size / 65536)).toNat : Int) := by rw [ofNat_toNat]; omega
  have l1 : (b.size : Int) / 256 = ((UInt8.ofNat (b.size / 256)).toNat : Int) := by rw [ofNat_toNat]; omega
  have l2 : (b.size : Int).tmod 256 = ((UInt8.ofNat b.size).toNat : Int) := by rw [ofNat_toNat, Int.tmod_eq_emod_of_nonneg (by omega)]; omega
  obtain ⟨c0, hc0⟩ : ∃ c, c = UInt8.ofNat (b.size / 65536) := ⟨_, rfl⟩
  obtain ⟨c1, hc1⟩ : ∃ c, c = UInt8.ofNat (b.size / 256) := ⟨_, rfl⟩
  obtain ⟨c2, hc2⟩ : ∃ c, c = UInt8.ofNat b.size := ⟨_, rfl⟩
  have hl3 : len3 b.size = [c0, c1, c2] := by rw [hc0, hc1, hc2]; rfl
  rw [← hc0] at l0
  rw [← hc1] at l1
  rw [← hc2] at l2
  have l3 : ((c1.toNat : Int)).tmod 256 = c1.toNat := by have := c1.toNat_lt; rw [Int.tmod_eq_emod_of_nonneg (by omega)]; omega
  have l4 : (c2.toNat : Int) % 256 = c2.toNat := by have := c2.toNat_lt; omega
  rw [hl3]
  clear hc0 hc1 hc2 hl3
  have hconv := conv_3 c0 c1 c2
  obtain ⟨x, hx⟩ : ∃ x, x = Zc.sum ([c0, c1, c2] ++ b.data.toList) := ⟨_, rfl⟩
  have h4 : sum4 [c0, c1, c2] b.data.toList = [UInt8.ofNat x.toNat, UInt8.ofNat (x >>> 8).toNat, UInt8.ofNat (x >>> 16).toNat, UInt8.ofNat (x >>> 24).toNat] := by rw [← le4_eq, hx]; rfl
  have hsum : Zc.sum (str [c0, c1, c2] ++ b).data.toList = x := by rw [str_cat', str_data, hx]
  have m0 := low_V x
  have m1 := low_V (x >>> 8)
  have m2 := low_V (x >>> 16)
  have m3 := low_V (x >>> 24)
  rw [h4]
  clear h4 hx
  generalize UInt8.ofNat x.toNat = d0 at *
  generalize UInt8.ofNat (x >>> 8).toNat = d1 at *
  generalize UInt8.ofNat (x >>> 16).toNat = d2 at *
  generalize UInt8.ofNat (x >>> 24).toNat = d3 at *
  obtain ⟨R, hR⟩ : ∃ R, R = str [229, c0, c1, c2] ++ str [d0, d1, d2, d3] ++ b := ⟨_, rfl⟩
  rw [← hR]
  have hcat : (⟨#[229]⟩ : ByteArray) ++ str [c0, c1, c2] = str [229, c0, c1, c2] := by
    rw [show (⟨#[229]⟩ : ByteArray) = str [229] from rfl, str_cat]; rfl
  have HR := Lib.hid (And.intro hR hsum)
  clear hR hsum
  have hs1 : (str [c0, c1, c2]).size = 3 := rfl
  have hs2 : (str [229, c0, c1, c2]).size = 4 := rfl
  have hs3 : (str [d0, d1, d2, d3]).size = 4 := rfl
  have hs4 : (⟨#[229]⟩ : ByteArray).size = 1 := rfl
  have hsz : (str [c0, c1, c2] ++ b).size ≤ maxLen := by rw [ByteArray.size_append, hs1]; unfold maxLen; omega
  have HZ := Lib.hid hsz
  clear hsz
  go_enter Tryz.func60, Tryz.ntmps60
  go_wp2_with fail
  refine (rsum_any _ HZ.out _).mono ?_
  rintro e w1 ⟨rfl, hw1⟩
  have hb1 : Below w.heap.size w w1 := hw1 ▸ (Below.refl _ w).alloc (Nat.le_refl _) _
  clear hw1
  have HB := Lib.hid hb1
  clear hb1
  rw [HR.out.2]
  have hconv4 := conv_4 d0 d1 d2 d3
  go_wp2_with fail
  go_ret2
  exact ⟨by rw [HR.out.1]; rfl, HB.out.alloc HB.out.size _⟩
end Go.Proofs.YtdmbombjkinboaaGreat
namespace Go.Proofs.YtdmbombjkinboaaGreat
open Go.RowKit
open Fr
open IntWalk (wrap64_in i64_left)

theorem or_i64 (a b : Nat) (ha : a < 4294967296) (hb : b < 4294967296) : bits .or .i64 (a : Int) (b : Int) = ((a ||| b : Nat) : Int) := by
  have hx : a ||| b < 2 ^ 32 := Nat.or_lt_two_pow (by omega) (by omega)
  show IntKind.i64.wrap ((BitVec.ofInt 64 (a : Int) ||| BitVec.ofInt 64 (b : Int)).toNat : Int) = _
  rw [BitVec.toNat_or, BitVec.ofInt_natCast, BitVec.ofInt_natCast, BitVec.toNat_ofNat, BitVec.toNat_ofNat, Nat.mod_eq_of_lt (by omega), Nat.mod_eq_of_lt (by omega)]
  rw [i64_left]
  exact wrap64_in _ (by omega)
theorem or24 (a b c : UInt8) : bits .or .i64 (bits .or .i64 (wrap64 (wrap64 (a.toNat : Int) * 65536)) (wrap64 (wrap64 (b.toNat : Int) * 256))) (wrap64 (c.toNat : Int)) = ((a.toNat * 65536 + b.toNat * 256 + c.toNat : Nat) : Int) := by
  have h1 := a.toNat_lt
  have h2 := b.toNat_lt
  have h3 := c.toNat_lt
  rw [wrap64_in (a.toNat : Int) (by omega), wrap64_in (b.toNat : Int) (by omega), wrap64_in (c.toNat : Int) (by omega), wrap64_in _ (by omega), wrap64_in _ (by omega)]
  have e1 : (a.toNat : Int) * (65536 : Int) = ((a.toNat <<< 16 : Nat) : Int) := by rw [Nat.shiftLeft_eq]; omega
  have e2 : (b.toNat : Int) * (256 : Int) = ((b.toNat * 256 : Nat) : Int) := by omega
  rw [e1, e2, or_i64 _ _ (by rw [Nat.shiftLeft_eq]; omega) (by omega), ← Nat.shiftLeft_add_eq_or_of_lt (by omega)]
  have e3 : a.toNat <<< 16 + b.toNat * 256 = (a.toNat * 256 + b.toNat) <<< 8 := by rw [Nat.shiftLeft_eq, Nat.shiftLeft_eq]; omega
  rw [e3, or_i64 _ _ (by rw [Nat.shiftLeft_eq]; omega) (by omega), ← Nat.shiftLeft_add_eq_or_of_lt (by omega), Nat.shiftLeft_eq]
  have e4 : (2 : Nat) ^ 8 = 256 := rfl
  rw [e4]
  have e5 : (a.toNat * 256 + b.toNat) * 256 + c.toNat = a.toNat * 65536 + b.toNat * 256 + c.toNat := by omega
  rw [e5]
theorem below_dN (w : World) (n : Nat) : Below w.heap.size w (w.drewN n) := ⟨rfl, rfl, rfl, Nat.le_refl _, fun _ _ => rfl⟩
theorem getD_at (s : ByteArray) (i : Nat) (h : i < s.size) : s.data.toList.getD i 0 = s[i] := by
  rw [List.getD_eq_getElem?_getD, List.getElem?_eq_getElem (by simpa using h)]; rfl
set_option maxHeartbeats 1000000 in
theorem first_any (s : ByteArray) (hs : s.size ≤ 200000) (w : World) :
    Calls Tryz.prog 109 #[.string s] w fun e w' => e = .returned (.tuple #[.int .i64 ((fst s.data.toList).1 : Int), .int .i64 ((fst s.data.toList).2 : Int)]) ∧ Below w.heap.size w w' := by
  by_cases h0 : s.toList.isEmpty = true
  · have e : fst s.data.toList = (0, 4) := by
      have := size_empty h0
      have : s.data.toList = [] := List.length_eq_zero_iff.1 (by simpa using this)
      rw [this]; rfl
    rw [e]
    clear e
    go_enter Tryz.func109, Tryz.ntmps109
    go_wp2_with fail
    go_ret2
    exact ⟨rfl, Below.refl _ _⟩
  have hf := size_full h0
  have h0' : s.toList.isEmpty = false := by simpa using h0
  have hne : s.data.toList ≠ [] := fun e => hf (by have := congrArg List.length e; simpa using this)
  have hpos : 0 < s.size := by omega
  obtain ⟨b0, hb0⟩ : ∃ b0, s[0] = b0 := ⟨_, rfl⟩
  have hd0 : s.data.toList.getD 0 0 = b0 := (getD_at s 0 hpos).trans hb0
  by_cases h1 : ((b0.toNat : Int) != 229) = true
  · have e : fst s.data.toList = (0, 3) := by
      unfold fst
      rw [if_neg hne, hd0, if_pos (fun e => by subst e; revert h1; decide)]
    rw [e]
    clear e hd0 hne hf h0
    go_enter Tryz.func109, Tryz.ntmps109
    go_wp2_with fail
    go_ret2
    exact ⟨rfl, Below.refl _ _⟩
  have h1' : ((b0.toNat : Int) != 229) = false := by simpa using h1
  have hb229 : b0 = 229 := by
    have : (b0.toNat : Int) = 229 := by simpa using h1
    exact UInt8.toNat_inj.1 (by show b0.toNat = 229; omega)
  by_cases h2 : (s.size : Int) < 4
  · have e : fst s.data.toList = (0, 7) := by
      unfold fst
      rw [if_neg hne, hd0, if_neg (by simpa using hb229), if_pos (by simp; omega)]
    rw [e]
    clear e hd0 hne hf h0 hb229 h1
    go_enter Tryz.func109, Tryz.ntmps109
    go_wp2_with fail
    go_ret2
    exact ⟨rfl, Below.refl _ _⟩
  have p1 : 1 < s.size := by omega
  have p2 : 2 < s.size := by omega
  have p3 : 3 < s.size := by omega
  obtain ⟨b1, hb1⟩ : ∃ b, s[1] = b := ⟨_, rfl⟩
  obtain ⟨b2, hb2⟩ : ∃ b, s[2] = b := ⟨_, rfl⟩
  obtain ⟨b3, hb3⟩ : ∃ b, s[3] = b := ⟨_, rfl⟩
  obtain ⟨n, hn⟩ : ∃ n, n = long s.data.toList := ⟨_, rfl⟩
  have hln : long s.data.toList = b1.toNat * 65536 + b2.toNat * 256 + b3.toNat := by
    unfold long; rw [getD_at s 1 p1, getD_at s 2 p2, getD_at s 3 p3, hb1, hb2, hb3]
  have hor := or24 b1 b2 b3
  rw [← hln, ← hn] at hor
  have hnlt : n < 16777216 := by have := b1.toNat_lt; have := b2.toNat_lt; have := b3.toNat_lt; omega
  have hfs : fst s.data.toList = if n = 0 ∨ 32768 < n then (0, 3) else if s.size < 8 + n then (0, 7) else if (s.data.toList.drop 4).take 4 ≠ sum4 ((s.data.toList.drop 1).take 3) ((s.data.toList.drop 8).take n) then (0, 8) else (8 + n, 0) := by
    unfold fst
    rw [if_neg hne, hd0, if_neg (by simpa using hb229), if_neg (by simp; omega), ← hn]
    simp
  clear hln hn
  have HF := Lib.hid hfs
  clear hfs hd0 hne hf h0 hb229 h1
  by_cases h3 : (n : Int) = 0
  · have h3' : ((n : Int) == 0) = true := by simpa using h3
    have e : fst s.data.toList = (0, 3) := by rw [HF.out, if_pos (by omega)]
    rw [e]
    clear e HF
    go_enter Tryz.func109, Tryz.ntmps109
    go_wp2_with fail
    go_quiet (fail)
    go_wp2_with fail
    go_ret2
    exact ⟨by kernel_rfl, below_dN _ _⟩
  have h3' : ((n : Int) == 0) = false := by simpa using h3
  by_cases h4 : (32768 : Int) < n
  · have h4' : decide ((32768 : Int) < n) = true := decide_eq_true h4
    have e : fst s.data.toList = (0, 3) := by rw [HF.out, if_pos (by omega)]
    rw [e]
    clear e HF
    go_enter Tryz.func109, Tryz.ntmps109
    go_wp2_with fail
    go_quiet (fail)
    go_wp2_with fail
    go_ret2
    exact ⟨by kernel_rfl, below_dN _ _⟩
  have h4' : decide ((32768 : Int) < n) = false := decide_eq_false h4
  by_cases h5 : (s.size : Int) < 8 + n
  · have h5' : decide ((s.size : Int) < 8 + n) = true := decide_eq_true h5
    have e : fst s.data.toList = (0, 7) := by rw [HF.out, if_neg (by omega), if_pos (by omega)]
    rw [e]
    clear e HF
    go_enter Tryz.func109, Tryz.ntmps109
    go_wp2_with fail
    go_quiet (fail)
    go_wp2_with fail
    go_ret2
    exact ⟨by kernel_rfl, below_dN _ _⟩
  have h5' : decide ((s.size : Int) < 8 + n) = false := decide_eq_false h5
  have k8 : (8 : Int) ≤ s.size := by omega
  have k8n : (8 : Int) + n ≤ s.size := by omega
  have k0n : (8 : Int) ≤ 8 + n := by omega
  obtain ⟨A, hA⟩ : ∃ A, s.extract 1 4 = A := ⟨_, rfl⟩
  obtain ⟨B, hB⟩ : ∃ B, s.extract 8 ((8 : Int) + (n : Int)).toNat = B := ⟨_, rfl⟩
  have tn : ((8 : Int) + (n : Int)).toNat = 8 + n := by omega
  obtain ⟨C, hC⟩ : ∃ C, s.extract 4 8 = C := ⟨_, rfl⟩
  have dA : A.data.toList = (s.data.toList.drop 1).take 3 := by rw [← hA]; simp
  have dB : B.data.toList = (s.data.toList.drop 8).take n := by rw [← hB, tn]; simp
  have dC : C.data.toList = (s.data.toList.drop 4).take 4 := by rw [← hC]; simp
  have sA : A.size ≤ 100000 := by rw [← hA, ByteArray.size_extract]; omega
  have sB : B.size ≤ 100000 := by rw [← hB, tn, ByteArray.size_extract]; omega
  obtain ⟨S, hS⟩ : ∃ S, S = str (sum4 A.data.toList B.data.toList) := ⟨_, rfl⟩
  have HX := Lib.hid (fun W => fsum_any A B sA sB W)
  rw [← hS] at HX
  have hfs : fst s.data.toList = if C.data.toList ≠ sum4 A.data.toList B.data.toList then (0, 8) else (8 + n, 0) := by
    rw [HF.out, if_neg (by omega), if_neg (by omega), dA, dB, dC]
  clear HF dA dB dC sA sB tn
  have hcs : (C.toList == S.toList) = decide (C.data.toList = sum4 A.data.toList B.data.toList) := by
    rw [hS, toList_data, toList_data, str_data]
    by_cases h : C.data.toList = sum4 A.data.toList B.data.toList <;> simp [h]
  clear hS
  by_cases hq : C.data.toList = sum4 A.data.toList B.data.toList
  · rw [if_neg (by simpa using hq)] at hfs
    rw [decide_eq_true hq] at hcs
    rw [hfs]
    clear hfs hq
    go_enter Tryz.func109, Tryz.ntmps109
    go_wp2_with fail
    go_quiet (fail)
    go_wp2_with fail
    go_region_with (go_at_call 70; refine (HX.out _).mono ?_; rintro e w4 ⟨rfl, hb4⟩; have HB4 := Lib.hid hb4; clear hb4)
    all_goals go_wp2_with fail
    all_goals go_ret2
    all_goals exact ⟨rfl, (below_dN w _).trans (HB4.out.mono (Nat.le_refl _))⟩
  · rw [if_pos (by simpa using hq)] at hfs
    rw [decide_eq_false hq] at hcs
    rw [hfs]
    clear hfs hq
    go_enter Tryz.func109, Tryz.ntmps109
    go_wp2_with fail
    go_quiet (fail)
    go_wp2_with fail
    go_region_with (go_at_call 70; refine (HX.out _).mono ?_; rintro e w4 ⟨rfl, hb4⟩; have HB4 := Lib.hid hb4; clear hb4)
    all_goals go_wp2_with fail
    all_goals go_ret2
    all_goals exact ⟨rfl, (below_dN w _).trans (HB4.out.mono (Nat.le_refl _))⟩
end Go.Proofs.YtdmbombjkinboaaGreat
namespace Go.Proofs
open Go.Shelf
def Tryz.lays316_ren : Go.Shelf.Ren := ⟨fun | 316 => 72 | n => n, fun | 0 => 0 | 3 => 3 | 4 => 4 | 5 => 5 | 9 => 9 | 37 => 51 | 127 => 145 | n => n, fun | n => n⟩
theorem Tryz.lays316 : Go.Proofs.LaysM.n316 Tryz.prog Tryz.lays316_ren := {
  mixed := by kernel_rfl
  f316 := Tryz.func72.trans (congrArg some (by kernel_rfl))
  t0 := Tryz.underlying0
  a0 := Tryz.isAgg0
  z0 := Tryz.sizeOf0
  v0 := Tryz.zeroValue0
  t3 := Tryz.underlying3
  a3 := Tryz.isAgg3
  z3 := Tryz.sizeOf3
  v3 := Tryz.zeroValue3
  t4 := Tryz.underlying4
  a4 := Tryz.isAgg4
  z4 := Tryz.sizeOf4
  v4 := Tryz.zeroValue4
  t9 := Tryz.underlying9
  a9 := Tryz.isAgg9
  z9 := Tryz.sizeOf9
  v9 := Tryz.zeroValue9
  t37 := Tryz.underlying51
  a37 := Tryz.isAgg51
  z37 := Tryz.sizeOf51
  v37 := Tryz.zeroValue51
  t127 := Tryz.underlying145
  a127 := Tryz.isAgg145
  z127 := Tryz.sizeOf145
  v127 := Tryz.zeroValue145
  t5 := Tryz.underlying5
  a5 := Tryz.isAgg5
  z5 := Tryz.sizeOf5
  v5 := Tryz.zeroValue5
  i0 := by kernel_rfl
  i3 := by kernel_rfl
  i4 := by kernel_rfl
  i5 := by kernel_rfl
  i9 := by kernel_rfl
  i37 := by kernel_rfl
  i127 := by kernel_rfl }
end Go.Proofs
namespace Go.Proofs.YtdmbombjkinboaaGreat
open Go.RowKit

theorem clone_in (s : ByteArray) (w : World) (hlim : s.size ≤ 281474976710656) : Calls Tryz.prog 72 #[.string s] w fun e w' => e = .returned (.string s) ∧ Below w.heap.size w w' := Any.stringslite_Clone Tryz.lays316 s w hlim
theorem clone_any (s : ByteArray) (w : World) (hlim : s.size ≤ 281474976710656) : Calls Tryz.prog 46 #[.string s] w fun e w' => e = .returned (.string s) ∧ Below w.heap.size w w' := by
  go_enter Tryz.func46, Tryz.ntmps46
  go_wp2_with fail
  refine (clone_in s _ hlim).mono ?_
  rintro e w1 ⟨rfl, h1⟩
  go_wp2_with fail
  go_ret
  exact ⟨rfl, h1⟩
end Go.Proofs.YtdmbombjkinboaaGreat
namespace Go.Proofs.YtdmbombjkinboaaGreat
open Go.RowKit
open Fr

/-- Front's answer. -/
def frB (s : ByteArray) : ByteArray := if (fst s.data.toList).2 = 0 then s.extract 8 (fst s.data.toList).1 else ⟨#[]⟩
def frR (s : ByteArray) : ByteArray := if (fst s.data.toList).2 = 0 then s.extract (fst s.data.toList).1 s.size else ⟨#[]⟩
def frE (s : ByteArray) : Int := ((fst s.data.toList).2 : Int)
end Go.Proofs.YtdmbombjkinboaaGreat
