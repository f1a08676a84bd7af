/- Plain mathematics of frames: the frame of a body, what stands at the front of some bytes, all that stands there. No walk. -/
import Derived.Test.YtdmbombjkinboaaZBurst
namespace Go.Proofs.Ytdmbombjkinboaa
open Go.RowKit
namespace Fr

/-- A number in 3 bytes, the highest first; a word in 4 bytes, the lowest first. -/
def len3 (n : Nat) : List UInt8 := [UInt8.ofNat (n / 65536), UInt8.ofNat (n / 256), UInt8.ofNat n]
def le4 (x : BitVec 32) : List UInt8 := [UInt8.ofNat x.toNat, UInt8.ofNat (x.toNat / 256), UInt8.ofNat (x.toNat / 65536), UInt8.ofNat (x.toNat / 16777216)]
def sum4 (a b : List UInt8) : List UInt8 := le4 (Zc.sum (a ++ b))
/-- The frame of a body. -/
def frm (b : List UInt8) : List UInt8 := 229 :: (len3 b.length ++ (sum4 (len3 b.length) b ++ b))
/-- How long the body is that some bytes tell. -/
def long (s : List UInt8) : Nat := (s.getD 1 0).toNat * 65536 + (s.getD 2 0).toNat * 256 + (s.getD 3 0).toNat
/-- Where the frame at the front ends; or why there is none. -/
def fst (s : List UInt8) : Nat × Nat :=
  if s = [] then (0, 4)
  else if s.getD 0 0 ≠ 229 then (0, 3)
  else if s.length < 4 then (0, 7)
  else if long s = 0 ∨ 32768 < long s then (0, 3)
  else if s.length < 8 + long s then (0, 7)
  else if (s.drop 4).take 4 ≠ sum4 ((s.drop 1).take 3) ((s.drop 8).take (long s)) then (0, 8)
  else (8 + long s, 0)
/-- May these bytes be a body? -/
def may (b : List UInt8) : Prop := 1 ≤ b.length ∧ b.length ≤ 32768

theorem len3_length (n : Nat) : (len3 n).length = 3 := rfl
theorem le4_length (x : BitVec 32) : (le4 x).length = 4 := rfl
theorem sum4_length (a b : List UInt8) : (sum4 a b).length = 4 := rfl
theorem frm_length (b : List UInt8) : (frm b).length = 8 + b.length := by
  unfold frm
  simp only [List.length_cons, List.length_append, len3_length, sum4_length]; omega
theorem ofNat_toNat (n : Nat) : (UInt8.ofNat n).toNat = n % 256 := by simp
theorem long_frm (b r : List UInt8) (h : b.length < 16777216) : long (frm b ++ r) = b.length := by
  unfold long frm len3
  simp only [List.cons_append, List.getD_cons_succ, List.getD_cons_zero, List.nil_append, ofNat_toNat]
  omega
theorem le4_inj {x y : BitVec 32} (h : le4 x = le4 y) : x = y := by
  unfold le4 at h
  injection h with h1 h; injection h with h2 h; injection h with h3 h; injection h with h4 h
  have e1 := congrArg UInt8.toNat h1
  have e2 := congrArg UInt8.toNat h2
  have e3 := congrArg UInt8.toNat h3
  have e4 := congrArg UInt8.toNat h4
  simp only [ofNat_toNat] at e1 e2 e3 e4
  have := x.isLt
  have := y.isLt
  exact BitVec.eq_of_toNat_eq (by omega)
theorem frm_drop1 (b r : List UInt8) : ((frm b ++ r).drop 1).take 3 = len3 b.length := rfl
theorem frm_drop4 (b r : List UInt8) : ((frm b ++ r).drop 4).take 4 = sum4 (len3 b.length) b := rfl
theorem frm_drop8 (b r : List UInt8) : (frm b ++ r).drop 8 = b ++ r := rfl
theorem frm_body (b r : List UInt8) : ((frm b ++ r).drop 8).take b.length = b := by rw [frm_drop8, List.take_left]
theorem frm_rest (b r : List UInt8) : (frm b ++ r).drop (8 + b.length) = r := by
  rw [← List.drop_drop, frm_drop8, List.drop_left]
theorem fst_frm (b r : List UInt8) (h : may b) : fst (frm b ++ r) = (8 + b.length, 0) := by
  have hl := long_frm b r (by have := h.2; omega)
  have hn : (frm b ++ r).length = 8 + b.length + r.length := by rw [List.length_append, frm_length]
  unfold fst
  rw [hl, frm_drop1, frm_drop4, frm_body, hn]
  have h1 := h.1
  have h2 := h.2
  rw [if_neg (by unfold frm; simp), if_neg (by unfold frm; simp), if_neg (by omega), if_neg (by omega), if_neg (by omega), if_neg (by simp)]
theorem getD_take (s : List UInt8) (c i : Nat) (h : i < c) : (s.take c).getD i 0 = s.getD i 0 := by
  rw [List.getD_eq_getElem?_getD, List.getD_eq_getElem?_getD, List.getElem?_take_of_lt h]
theorem long_take (s : List UInt8) (c : Nat) (h : 4 ≤ c) : long (s.take c) = long s := by
  unfold long
  rw [getD_take _ _ _ (by omega), getD_take _ _ _ (by omega), getD_take _ _ _ (by omega)]
/-- A frame that is cut off ends. -/
theorem fst_cut (b : List UInt8) (h : may b) (c : Nat) (h0 : 0 < c) (hc : c < 8 + b.length) : fst ((frm b).take c) = (0, 7) := by
  have hl : long (frm b) = b.length := by have := long_frm b [] (by have := h.2; omega); rwa [List.append_nil] at this
  have hn : ((frm b).take c).length = c := by rw [List.length_take, frm_length]; omega
  have hne : (frm b).take c ≠ [] := fun e => by rw [e] at hn; simp at hn; omega
  unfold fst
  rw [if_neg hne, getD_take _ _ _ h0, if_neg (by unfold frm; simp), hn]
  by_cases h4 : c < 4
  · rw [if_pos h4]
  · rw [if_neg h4, long_take _ _ (by omega), hl]
    have h1 := h.1
    have h2 := h.2
    rw [if_neg (by omega), if_pos (by omega)]
theorem fst_ok {s : List UInt8} {n : Nat} (h : fst s = (n, 0)) :
    n = 8 + long s ∧ 1 ≤ long s ∧ long s ≤ 32768 ∧ n ≤ s.length ∧ s.getD 0 0 = 229 ∧ (s.drop 4).take 4 = sum4 ((s.drop 1).take 3) ((s.drop 8).take (long s)) := by
  unfold fst at h
  split at h
  · cases h
  split at h
  · cases h
  split at h
  · cases h
  split at h
  · cases h
  split at h
  · cases h
  split at h
  · cases h
  · rename_i h1 h2 h3 h4 h5 h6
    injection h with h _
    exact ⟨h.symm, by omega, by omega, by omega, by simpa using h2, by simpa using h6⟩
theorem fst_no {s : List UInt8} {n e : Nat} (h : fst s = (n, e)) (he : e ≠ 0) : n = 0 := by
  unfold fst at h
  repeat (split at h; · injection h with h _; exact h.symm)
  injection h with _ h
  exact absurd h.symm he
theorem fst_nil : fst [] = (0, 4) := rfl
/-- What stands at the front of some bytes, the rest of which is at hand. -/
theorem bytes4 (s : List UInt8) (h : 8 ≤ s.length) : s = s.getD 0 0 :: ((s.drop 1).take 3 ++ ((s.drop 4).take 4 ++ s.drop 8)) := by
  match s, h with
  | a :: b :: c :: d :: e :: f :: g :: i :: r, _ => rfl
theorem len3_long (s : List UInt8) (h : 4 ≤ s.length) : len3 (long s) = (s.drop 1).take 3 := by
  match s, h with
  | a :: b :: c :: d :: r, _ =>
    unfold len3 long
    simp only [List.getD_cons_succ, List.getD_cons_zero]
    have h1 := b.toNat_lt
    have h2 := c.toNat_lt
    have h3 := d.toNat_lt
    have e1 : UInt8.ofNat ((b.toNat * 65536 + c.toNat * 256 + d.toNat) / 65536) = b := UInt8.toNat_inj.1 (by rw [ofNat_toNat]; omega)
    have e2 : UInt8.ofNat ((b.toNat * 65536 + c.toNat * 256 + d.toNat) / 256) = c := UInt8.toNat_inj.1 (by rw [ofNat_toNat]; omega)
    have e3 : UInt8.ofNat (b.toNat * 65536 + c.toNat * 256 + d.toNat) = d := UInt8.toNat_inj.1 (by rw [ofNat_toNat]; omega)
    rw [e1, e2, e3]
    rfl
/-- Of bytes that are long enough: they begin with the frame of what stands behind the head, just if the sum is the one. -/
theorem frm_iff (s : List UInt8) (h0 : s.getD 0 0 = 229) (hn : 8 + long s ≤ s.length) :
    frm ((s.drop 8).take (long s)) = s.take (8 + long s) ↔ (s.drop 4).take 4 = sum4 ((s.drop 1).take 3) ((s.drop 8).take (long s)) := by
  have hb : ((s.drop 8).take (long s)).length = long s := by rw [List.length_take, List.length_drop]; omega
  have e : s.take (8 + long s) = 229 :: (len3 (long s) ++ ((s.drop 4).take 4 ++ (s.drop 8).take (long s))) := by
    rw [len3_long s (by omega)]
    have l1 : ((s.drop 1).take 3).length = 3 := by rw [List.length_take, List.length_drop]; omega
    have l2 : ((s.drop 4).take 4).length = 4 := by rw [List.length_take, List.length_drop]; omega
    have hs := bytes4 s (by omega)
    rw [h0] at hs
    generalize long s = L at *
    generalize (s.drop 1).take 3 = A at *
    generalize (s.drop 4).take 4 = B at *
    generalize s.drop 8 = C at *
    rw [hs, show 8 + L = (3 + (4 + L)) + 1 from by omega, List.take_succ_cons, ← l1, List.take_length_add_append, ← l2, List.take_length_add_append]
  rw [e]
  unfold frm
  rw [hb, len3_long s (by omega)]
  constructor
  · intro h
    injection h with _ h
    rw [List.append_cancel_left_eq] at h
    exact (List.append_inj h (by rw [sum4_length, List.length_take, List.length_drop]; omega)).1.symm
  · intro h
    rw [h]
theorem fst_frm_of {s : List UInt8} {n : Nat} (h : fst s = (n, 0)) : s.take n = frm ((s.take n).drop 8) ∧ may ((s.take n).drop 8) := by
  obtain ⟨h1, h2, h3, h4, h5, h6⟩ := fst_ok h
  have hd : (s.take n).drop 8 = (s.drop 8).take (long s) := by rw [List.drop_take, h1, Nat.add_sub_cancel_left]
  have hl : ((s.drop 8).take (long s)).length = long s := by rw [List.length_take, List.length_drop]; omega
  rw [hd]
  refine ⟨?_, by unfold may; omega⟩
  rw [(frm_iff s h5 (by omega)).2 h6, h1]

/-- All bodies that stand at the front, where they end, and why. -/
inductive Scans : List UInt8 → List (List UInt8) → Nat → Nat → Prop
  | stop {s : List UInt8} {n e : Nat} : fst s = (n, e) → e ≠ 0 → Scans s [] 0 e
  | more {s : List UInt8} {n : Nat} {l : List (List UInt8)} {m e : Nat} : fst s = (n, 0) → Scans (s.drop n) l m e → Scans s ((s.take n).drop 8 :: l) (n + m) e
theorem Scans.exists (s : List UInt8) : ∃ l m e, Scans s l m e := by
  obtain ⟨k, hk⟩ : ∃ k, s.length ≤ k := ⟨_, Nat.le_refl _⟩
  induction k generalizing s with
  | zero =>
    obtain rfl := List.length_eq_zero_iff.1 (Nat.le_zero.1 hk)
    exact ⟨_, _, _, .stop fst_nil (by decide)⟩
  | succ k ih =>
    by_cases h : (fst s).2 = 0
    · have h1 : fst s = ((fst s).1, 0) := by rw [← h]
      have h2 := fst_ok h1
      obtain ⟨l, m, e, hr⟩ := ih (s.drop (fst s).1) (by rw [List.length_drop]; omega)
      exact ⟨_, _, _, .more h1 hr⟩
    · exact ⟨_, _, _, .stop (n := (fst s).1) rfl h⟩
theorem Scans.only {s : List UInt8} {l l' : List (List UInt8)} {m m' e e' : Nat} (h : Scans s l m e) (k : Scans s l' m' e') : l = l' ∧ m = m' ∧ e = e' := by
  induction h generalizing l' m' e' with
  | stop h he =>
    cases k with
    | stop k ke => rw [h] at k; injection k with _ k; exact ⟨rfl, rfl, k⟩
    | more k _ => rw [h] at k; injection k with _ k; exact absurd k he
  | more h _ ih =>
    cases k with
    | stop k ke => rw [h] at k; injection k with _ k; exact absurd k.symm ke
    | more k kr =>
      rw [h] at k; injection k with k _
      subst k
      obtain ⟨rfl, rfl, rfl⟩ := ih kr
      exact ⟨rfl, rfl, rfl⟩
theorem Scans.le {s : List UInt8} {l : List (List UInt8)} {m e : Nat} (h : Scans s l m e) : m ≤ s.length ∧ 9 * l.length ≤ m ∧ e ≠ 0 := by
  induction h with
  | stop h he => exact ⟨by omega, by simp, he⟩
  | more h _ ih =>
    have := fst_ok h
    rw [List.length_drop] at ih
    rw [List.length_cons]
    omega
/-- Frames, one behind the other. -/
def frms (l : List (List UInt8)) : List UInt8 := (l.map frm).flatten
theorem frms_cons (b : List UInt8) (l : List (List UInt8)) : frms (b :: l) = frm b ++ frms l := rfl
theorem frms_nil : frms [] = [] := rfl
theorem frms_append (l k : List (List UInt8)) : frms (l ++ k) = frms l ++ frms k := by unfold frms; rw [List.map_append, List.flatten_append]
theorem Scans.frms {l k : List (List UInt8)} {r : List UInt8} {m e : Nat} (hl : ∀ b ∈ l, may b) (h : Scans r k m e) : Scans (frms l ++ r) (l ++ k) ((frms l).length + m) e := by
  induction l with
  | nil => rw [frms_nil, List.nil_append, List.nil_append, List.length_nil, Nat.zero_add]; exact h
  | cons b l ih =>
    rw [frms_cons, List.append_assoc, List.length_append, frm_length, Nat.add_assoc, List.cons_append]
    have h1 := fst_frm b (Fr.frms l ++ r) (hl b (List.mem_cons_self ..))
    have h2 := frm_body b (Fr.frms l ++ r)
    have h3 := frm_rest b (Fr.frms l ++ r)
    have h4 : ((frm b ++ (Fr.frms l ++ r)).take (8 + b.length)).drop 8 = b := by rw [List.drop_take, Nat.add_sub_cancel_left, h2]
    have := Scans.more h1 (by rw [h3]; exact ih (fun x hx => hl x (List.mem_cons_of_mem _ hx)))
    rwa [h4] at this
/-- What stands ahead of where they end are the frames of the bodies. -/
theorem Scans.front {s : List UInt8} {l : List (List UInt8)} {m e : Nat} (h : Scans s l m e) : s.take m = Fr.frms l ∧ (∀ b ∈ l, may b) ∧ (fst (s.drop m)).2 = e := by
  induction h with
  | stop h he => exact ⟨rfl, fun b hb => (by cases hb), (by rw [List.drop_zero, h])⟩
  | more h hr ih =>
    rename_i s n l m e
    obtain ⟨h1, h2⟩ := fst_frm_of h
    refine ⟨?_, ?_, ?_⟩
    · rw [List.take_add, frms_cons, ih.1, ← h1]
    · intro b hb
      rcases List.mem_cons.1 hb with rfl | hb
      · exact h2
      · exact ih.2.1 b hb
    · rw [← List.drop_drop]; exact ih.2.2
theorem Scans.none : Scans [] [] 0 4 := .stop fst_nil (by decide)
theorem Scans.all {l : List (List UInt8)} (hl : ∀ b ∈ l, may b) : Scans (Fr.frms l) l (Fr.frms l).length 4 := by
  have := Scans.frms hl Scans.none
  rwa [List.append_nil, List.append_nil, Nat.add_zero] at this
/-- Frames that are cut off tell those that are whole, and that they end. -/
theorem Scans.cut {l : List (List UInt8)} (hl : ∀ b ∈ l, may b) (c : Nat) (hc : c ≤ (Fr.frms l).length) :
    ∃ n, n ≤ l.length ∧ (Fr.frms (l.take n)).length ≤ c ∧ (n < l.length → c < (Fr.frms (l.take (n + 1))).length) ∧
      Scans ((Fr.frms l).take c) (l.take n) (Fr.frms (l.take n)).length (if (Fr.frms (l.take n)).length = c then 4 else 7) := by
  induction l generalizing c with
  | nil =>
    have h0 : c = 0 := Nat.le_zero.1 hc
    subst h0
    exact ⟨0, Nat.le_refl _, Nat.le_refl _, fun h => absurd h (by simp), Scans.none⟩
  | cons b l ih =>
    have hb := hl b (List.mem_cons_self ..)
    rw [frms_cons, List.length_append, frm_length] at hc
    by_cases h : c < 8 + b.length
    · refine ⟨0, by simp, by simp [frms_nil], fun _ => by rw [List.take_succ_cons, frms_cons, List.length_append, frm_length]; omega, ?_⟩
      rw [List.take_zero, frms_cons, List.take_append_of_le_length (by rw [frm_length]; omega)]
      by_cases h0 : c = 0
      · subst h0; exact Scans.none
      · have := fst_cut b hb c (by omega) h
        rw [if_neg (by rw [frms_nil]; simp; omega)]
        exact .stop this (by decide)
    · obtain ⟨n, h1, h2, h3, h4⟩ := ih (fun x hx => hl x (List.mem_cons_of_mem _ hx)) (c - (8 + b.length)) (by omega)
      refine ⟨n + 1, by simpa using h1, ?_, ?_, ?_⟩
      · rw [List.take_succ_cons, frms_cons, List.length_append, frm_length]; omega
      · intro hlt
        have := h3 (by simpa using hlt)
        rw [List.take_succ_cons, frms_cons, List.length_append, frm_length]; omega
      · rw [List.take_succ_cons, frms_cons, frms_cons, List.length_append, frm_length]
        have e : (frm b ++ Fr.frms l).take c = Fr.frms [b] ++ (Fr.frms l).take (c - (8 + b.length)) := by
          rw [List.take_append, frm_length, List.take_of_length_le (by rw [frm_length]; omega)]
          show _ = (frm b ++ []) ++ _
          rw [List.append_nil]
        rw [e]
        have hx := Scans.frms (l := [b]) (fun x hx => by rcases List.mem_singleton.1 hx with rfl; exact hb) h4
        have hlen : (Fr.frms [b]).length = 8 + b.length := by rw [frms_cons, frms_nil, List.append_nil, frm_length]
        rw [hlen] at hx
        by_cases h5 : (Fr.frms (l.take n)).length = c - (8 + b.length)
        · rw [if_pos h5] at hx
          rw [if_pos (by omega)]; exact hx
        · rw [if_neg h5] at hx
          rw [if_neg (by omega)]; exact hx

/-! ### A body some of whose bits are turned -/
theorem fB_far (p : Nat) (x : BitVec 32) (k q : Nat) : Zc.fB (24 + p) x k (24 + q) = Zc.fB p x k q := by
  unfold Zc.fB
  rw [show 24 + q - (24 + p) = q - p from by omega]
  congr 1
  congr 1
  · exact decide_eq_decide.2 (by omega)
  · exact decide_eq_decide.2 (by omega)
theorem byteF_far (p : Nat) (x : BitVec 32) (k i : Nat) : Zc.byteF (Zc.fB (24 + p) x k) (i + 3) = Zc.byteF (Zc.fB p x k) i := by
  apply Zc.u8_ext
  intro j hj
  rw [Zc.byteF_bit _ _ j hj, Zc.byteF_bit _ _ j hj, show 8 * (i + 3) + j = 24 + (8 * i + j) from by omega, fB_far]
theorem byteF_near (p : Nat) (x : BitVec 32) (k i : Nat) (hi : i < 3) : Zc.byteF (Zc.fB (24 + p) x k) i = 0 :=
  Zc.byteF_none fun j hj => by unfold Zc.fB; rw [decide_eq_false (by omega : ¬ 24 + p ≤ 8 * i + j)]; rfl
theorem turned_behind (a b : List UInt8) (ha : a.length = 3) (p : Nat) (x : BitVec 32) (k : Nat) : Zc.turned (a ++ b) (24 + p) x k = a ++ Zc.turned b p x k := by
  apply List.ext_getElem?
  intro i
  by_cases hi : i < (a ++ b).length
  · rw [Zc.turned_get _ _ _ _ i hi]
    by_cases h3 : i < 3
    · rw [byteF_near _ _ _ _ h3, UInt8.xor_zero, List.getElem?_append_left (by omega), List.getElem_append_left (by omega), List.getElem?_eq_getElem (by omega)]
    · obtain ⟨j, rfl⟩ : ∃ j, i = j + 3 := ⟨i - 3, by omega⟩
      rw [List.length_append] at hi
      rw [byteF_far, List.getElem?_append_right (by omega), List.getElem_append_right (by omega), Zc.turned_get _ _ _ _ _ (by omega)]
      simp only [ha, Nat.add_sub_cancel]
  · rw [List.getElem?_eq_none (by rw [Zc.turned_length]; omega), List.getElem?_eq_none (by rw [List.length_append, Zc.turned_length]; rw [List.length_append] at hi; omega)]
theorem burst_sum (a b : List UInt8) (ha : a.length = 3) (p : Nat) (x : BitVec 32) (hp : p < 8 * b.length) (h : sum4 a (Zc.turned b p x 32) = sum4 a b) : Zc.turned b p x 32 = b := by
  have h := le4_inj h
  rw [← turned_behind a b ha p x 32] at h
  have := Zc.burst_same (a ++ b) (24 + p) x (by rw [List.length_append]; omega) h
  rw [turned_behind a b ha p x 32] at this
  exact List.append_cancel_left this
/-- A frame whose body is another one of the same length: the sum tells. -/
theorem fst_turned (b t r : List UInt8) (hb : may b) (hl : t.length = b.length) (hs : sum4 (len3 b.length) t ≠ sum4 (len3 b.length) b) :
    fst ((frm b).take 8 ++ t ++ r) = (0, 8) := by
  have e : (frm b).take 8 = 229 :: (len3 b.length ++ sum4 (len3 b.length) b) := rfl
  have hlong : long ((frm b).take 8 ++ t ++ r) = b.length := by
    rw [e]
    unfold long len3
    simp only [List.cons_append, List.getD_cons_succ, List.getD_cons_zero, List.nil_append, ofNat_toNat]
    have := hb.2
    omega
  have hn : ((frm b).take 8 ++ t ++ r).length = 8 + b.length + r.length := by rw [List.length_append, List.length_append, List.length_take, frm_length]; omega
  have h1 : (((frm b).take 8 ++ t ++ r).drop 1).take 3 = len3 b.length := rfl
  have h4 : (((frm b).take 8 ++ t ++ r).drop 4).take 4 = sum4 (len3 b.length) b := rfl
  have h8 : ((frm b).take 8 ++ t ++ r).drop 8 = t ++ r := rfl
  have hbody : (((frm b).take 8 ++ t ++ r).drop 8).take b.length = t := by rw [h8, ← hl, List.take_left]
  unfold fst
  rw [hlong, h1, h4, hbody, hn]
  have m1 := hb.1
  have m2 := hb.2
  rw [if_neg (by rw [e]; simp), if_neg (by rw [e]; simp), if_neg (by omega), if_neg (by omega), if_neg (by omega), if_pos (fun h => hs h.symm)]
end Fr
end Go.Proofs.Ytdmbombjkinboaa
