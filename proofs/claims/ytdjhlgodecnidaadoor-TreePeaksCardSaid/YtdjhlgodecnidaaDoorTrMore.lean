/- Bridges and peaks, without a program: where a bridge leads; what begins a log is the root of its first leaves, or there is a twin; leaf by leaf. -/
import Derived.Test.YtdjhlgodecnidaaDoorTrClimb
namespace Go.Proofs.YtdjhlgodecnidaaDoor
open Go.RowKit

namespace Tr
theorem climb_first : ∀ (last at' : Nat) (d : ByteArray) (w : List ByteArray) (r : ByteArray) (T lf : List ByteArray), at' ≤ last → climb at' last d w = some (r, T, lf) → ∀ y, ∃ z, climb at' at' y lf = some z := by
  intro last
  induction last using Nat.strongRecOn with
  | ind last ih =>
    intro a d w r T lf ha hc y
    by_cases h0 : last = 0
    · subst h0
      obtain rfl : a = 0 := by omega
      rw [climb_zero] at hc
      by_cases hwn : w = []
      · rw [if_pos hwn] at hc
        simp only [Option.some.injEq, Prod.mk.injEq] at hc
        obtain ⟨-, -, rfl⟩ := hc
        exact ⟨_, by rw [climb_zero, if_pos rfl]⟩
      · rw [if_neg hwn] at hc; cases hc
    · rw [climb_step _ _ h0] at hc
      have up1 : ∀ (d' : ByteArray) (w' : List ByteArray) (r' : ByteArray) (T' lf' : List ByteArray), a % 2 = 0 → climb (a / 2) (last / 2) d' w' = some (r', T', lf') → ∃ z, climb a a y lf' = some z := fun d' w' r' T' lf' he hcc => by
        obtain ⟨z, hz⟩ := ih _ (by omega) _ _ _ _ _ _ (by omega) hcc y
        by_cases hz0 : a = 0
        · subst hz0; exact ⟨z, hz⟩
        · exact ⟨z, by rw [climb_step _ _ hz0, if_pos ⟨rfl, he⟩, hz]⟩
      by_cases hal : a = last ∧ a % 2 = 0
      · rw [if_pos hal] at hc; exact up1 _ _ _ _ _ hal.2 hc
      · rw [if_neg hal] at hc
        cases w with
        | nil => cases hc
        | cons x q =>
          simp only at hc
          by_cases hev : a % 2 = 0
          · rw [if_pos hev] at hc
            cases hcc : climb (a / 2) (last / 2) (node d x) q with
            | none => rw [hcc] at hc; cases hc
            | some z =>
              obtain ⟨z1, z2, z3⟩ := z
              rw [hcc] at hc
              simp only [Option.map_some, Option.some.injEq, Prod.mk.injEq] at hc
              obtain ⟨-, -, rfl⟩ := hc
              exact up1 _ _ _ _ _ hev hcc
          · rw [if_neg hev] at hc
            cases hcc : climb (a / 2) (last / 2) (node x d) q with
            | none => rw [hcc] at hc; cases hc
            | some z =>
              obtain ⟨z1, z2, z3⟩ := z
              rw [hcc] at hc
              simp only [Option.map_some, Option.some.injEq, Prod.mk.injEq] at hc
              obtain ⟨-, -, rfl⟩ := hc
              obtain ⟨z, hz⟩ := ih _ (by omega) _ _ _ _ _ _ (by omega) hcc (node x y)
              refine ⟨(z.1, nodeT x y :: z.2.1, x :: z.2.2), ?_⟩
              rw [climb_step _ _ (by omega), if_neg (fun e => hev e.2)]
              simp only
              rw [if_neg hev, hz]; rfl
/-- Where a bridge leads that begins at the digest d: the root, and the texts. -/
def stepC (a last : Nat) (old d : ByteArray) (w : List ByteArray) : Option (ByteArray × List ByteArray) :=
  match climb a last d w with
  | none => none
  | some (r, T, lf) => match climb a a d lf with
    | none => none
    | some (r1, T1, _) => if r1 = old then some (r, T1 ++ T) else none
def crossP (q last : Nat) (old : ByteArray) (br : List ByteArray) : Option (ByteArray × List ByteArray) :=
  if q = 1 then stepC 0 last old old br else match br with
    | [] => none
    | x :: r => stepC (q - 1) last old x r
theorem getD_take {l : List ByteArray} {q : Nat} (h : 1 ≤ q) (hq : q ≤ l.length) : l.take (q - 1) ++ [l.getD (q - 1) ByteArray.empty] = l.take q := by
  rw [← take_succ_getD (by omega), show q - 1 + 1 = q by omega]
theorem level_last {n m j q : Nat} (hm : m = q * 2 ^ j) (h0 : 1 ≤ q) (hlt : m < n) : q - 1 ≤ (n - 1) / 2 ^ j ∧ q ≤ (n - 1) / 2 ^ j + 1 := by
  have hp := Nat.two_pow_pos j
  have : q ≤ (n - 1) / 2 ^ j := (Nat.le_div_iff_mul_le hp).2 (by omega)
  omega
/-- THE BRIDGE LEADS TO BOTH ROOTS. -/
theorem cross_way {l : List ByteArray} {m j q : Nat} (hm : m = q * 2 ^ j) (ho : q % 2 = 1) (hlt : m < l.length) :
    ∃ T, crossP q ((l.length - 1) / 2 ^ j) (root (l.take m)) (bridge l m true) = some (root l, T) := by
  obtain ⟨hq, hq2⟩ := level_last hm (by omega) hlt
  have hfit : Fit l.length (q * 2 ^ j) := by
    have := Nat.mul_le_mul (show 1 ≤ q by omega) (Nat.two_pow_pos j)
    exact ⟨by omega, Or.inl (by omega)⟩
  obtain ⟨b1, b2⟩ := bridge_up j l q true hfit
  have hul := up_length j l (by omega)
  have b3 := bridge_odd _ (up j l) q true rfl b2 ho
  obtain ⟨T, lf, c1, c2⟩ := climb_way _ (up j l) (q - 1) hul hq
  obtain ⟨T2, l2, c3⟩ := c2 ((up j l).getD (q - 1) ByteArray.empty)
  rw [getD_take (by omega) (by omega), ← up_take j l q (by omega), root_up, ← hm] at c3
  rw [root_up] at c1
  have hst : stepC (q - 1) ((l.length - 1) / 2 ^ j) (root (l.take m)) ((up j l).getD (q - 1) ByteArray.empty) (way (up j l) (q - 1)) = some (root l, T2 ++ T) := by
    unfold stepC
    rw [c1]
    simp only
    rw [c3]
    exact if_pos rfl
  refine ⟨T2 ++ T, ?_⟩
  rw [hm, b1, b3, ← hm]
  unfold crossP
  by_cases h1 : q = 1
  · rw [if_pos h1, if_pos ⟨rfl, h1⟩, List.nil_append]
    have hr : root (l.take m) = (up j l).getD 0 ByteArray.empty := by
      rw [← root_up j, hm, up_take j l q (by omega), h1, ← getD_take (l := up j l) (q := 1) (by omega) (by omega)]; rfl
    rw [h1, show 1 - 1 = 0 from rfl, ← hr] at hst
    rw [h1]
    exact hst
  · rw [if_neg h1, if_neg (fun e => h1 e.2), drop_cons (by omega), List.singleton_append]
    exact hst
/-- WHAT BEGINS A LOG IS THE ROOT OF ITS FIRST LEAVES, OR THERE IS A TWIN. -/
theorem cross_binds {l : List ByteArray} {m j q : Nat} (hm : m = q * 2 ^ j) (ho : q % 2 = 1) (hlt : m < l.length) (hD : Digs l) (old : ByteArray) (hold : old.size = 32) (br : List ByteArray) (hbr : Digs br) (T : List ByteArray)
    (hc : crossP q ((l.length - 1) / 2 ^ j) old br = some (root l, T)) : old = root (l.take m) ∨ TwinIn (T ++ sumT l) := by
  obtain ⟨hq, hq2⟩ := level_last hm (by omega) hlt
  have hul := up_length j l (by omega)
  have key : ∀ (d : ByteArray) (w : List ByteArray), d.size = 32 → Digs w → stepC (q - 1) ((l.length - 1) / 2 ^ j) old d w = some (root l, T) → old = root (l.take m) ∨ TwinIn (T ++ sumT l) := fun d w hd hw hs => by
    unfold stepC at hs
    split at hs
    · cases hs
    · rename_i r T0 lf hcl
      split at hs
      · cases hs
      · rename_i r1 T1 l1 hc1
        split at hs
        · rename_i hr1
          simp only [Option.some.injEq, Prod.mk.injEq] at hs
          obtain ⟨rfl, rfl⟩ := hs
          rw [← root_up j] at hcl
          rcases climb_binds _ (up j l) (q - 1) d w T0 lf hul hq (Digs.up j hD) hd hw hcl with ⟨k1, k2⟩ | k
          · obtain ⟨T', lf', c1, c2⟩ := climb_way _ (up j l) (q - 1) hul hq
            obtain ⟨T2, l2, c3⟩ := c2 ((up j l).getD (q - 1) ByteArray.empty)
            rw [getD_take (by omega) (by omega), ← up_take j l q (by omega), root_up, ← hm] at c3
            rw [k1, k2, c1] at hcl
            simp only [Option.some.injEq, Prod.mk.injEq] at hcl
            obtain ⟨-, -, rfl⟩ := hcl
            rw [← k1, hc1] at c3
            simp only [Option.some.injEq, Prod.mk.injEq] at c3
            exact Or.inl (hr1.symm.trans c3.1)
          · refine Or.inr (k.sub fun x hx => ?_)
            rcases List.mem_append.1 hx with hx | hx
            · exact List.mem_append.2 (Or.inl (List.mem_append.2 (Or.inr hx)))
            · exact List.mem_append.2 (Or.inr (sumT_up j l x hx))
        · cases hs
  unfold crossP at hc
  by_cases h1 : q = 1
  · rw [if_pos h1] at hc
    exact key old br hold hbr (by rw [h1]; exact hc)
  · rw [if_neg h1] at hc
    cases br with
    | nil => cases hc
    | cons x r => exact key x r (hbr x (by simp)) (fun y hy => hbr y (List.mem_cons_of_mem _ hy)) hc

/-- The peaks of digests: the roots of the whole trees, the greatest first. -/
def pkF : Nat → List ByteArray → List ByteArray
  | 0, _ => []
  | f + 1, l => if l = [] then [] else if l.length % 2 = 0 then pkF f (next l) else pkF f (next (l.take (l.length - 1))) ++ [l.getD (l.length - 1) ByteArray.empty]
def peaks (l : List ByteArray) : List ByteArray := pkF l.length l
theorem pkF_any : ∀ (f g : Nat) (l : List ByteArray), l.length ≤ f → l.length ≤ g → pkF f l = pkF g l := by
  intro f
  induction f with
  | zero =>
    intro g l h1 h2
    have : l = [] := List.length_eq_zero_iff.1 (by omega)
    subst this
    cases g <;> rfl
  | succ f ih =>
    intro g l h1 h2
    by_cases hl : l = []
    · subst hl; cases g <;> rfl
    · have hpos : 0 < l.length := List.length_pos_iff.2 hl
      cases g with
      | zero => omega
      | succ g =>
        rw [pkF, pkF, if_neg hl, if_neg hl]
        have n1 := next_length l
        have n2 := next_length (l.take (l.length - 1))
        rw [List.length_take] at n2
        by_cases he : l.length % 2 = 0
        · rw [if_pos he, if_pos he, ih g _ (by omega) (by omega)]
        · rw [if_neg he, if_neg he, ih g _ (by omega) (by omega)]
theorem peaks_nil : peaks [] = [] := rfl
theorem peaks_even {l : List ByteArray} (h : l.length % 2 = 0) : peaks l = peaks (next l) := by
  by_cases hl : l = []
  · subst hl; rfl
  · have hpos : 0 < l.length := List.length_pos_iff.2 hl
    have n1 := next_length l
    unfold peaks
    rw [show pkF l.length l = pkF (l.length - 1 + 1) l by congr 1; omega, pkF, if_neg hl, if_pos h]
    exact pkF_any _ _ _ (by omega) (Nat.le_refl _)
theorem peaks_odd {l : List ByteArray} (x : ByteArray) (h : l.length % 2 = 0) : peaks (l ++ [x]) = peaks l ++ [x] := by
  have e : peaks (l ++ [x]) = pkF l.length (next l) ++ [x] := by
    unfold peaks
    rw [show (l ++ [x]).length = l.length + 1 by simp, pkF, if_neg (by simp), if_neg (by simp; omega)]
    rw [show (l ++ [x]).length - 1 = l.length by simp, List.take_left, List.getD_eq_getElem?_getD, List.getElem?_append_right (Nat.le_refl _), Nat.sub_self]
    rfl
  have n1 := next_length l
  rw [e, peaks_even h]
  congr 1
  by_cases hl : l = []
  · subst hl; rfl
  · have hpos : 0 < l.length := List.length_pos_iff.2 hl
    exact pkF_any _ _ _ (by omega) (Nat.le_refl _)
/-- What the loop of With makes. -/
theorem peaks_step {l : List ByteArray} (y c : ByteArray) (h : l.length % 2 = 0) : peaks (l ++ [y] ++ [c]) = peaks (next l ++ [node y c]) := by
  rw [List.append_assoc, List.singleton_append, peaks_even (by simp; omega), next_snoc2 _ _ h]
/-- The root of peaks. -/
def rf : List ByteArray → ByteArray
  | [] => sumE ⟨#[]⟩
  | [x] => x
  | a :: b :: r => node a (rf (b :: r))
theorem rf_cons (a : ByteArray) {r : List ByteArray} (h : r ≠ []) : rf (a :: r) = node a (rf r) := by
  cases r with
  | nil => exact absurd rfl h
  | cons b r => rfl
theorem rf_snoc2 : ∀ (ps : List ByteArray) (x y : ByteArray), rf (ps ++ [x, y]) = rf (ps ++ [node x y])
  | [], x, y => rfl
  | a :: ps, x, y => by
    rw [List.cons_append, List.cons_append, rf_cons a (by simp), rf_cons a (by simp), rf_snoc2 ps x y]
theorem last_split {l : List ByteArray} (h : 0 < l.length) : l = l.take (l.length - 1) ++ [l.getD (l.length - 1) ByteArray.empty] := by
  conv => lhs; rw [← List.take_length (l := l)]
  rw [← take_succ_getD (by omega), show l.length - 1 + 1 = l.length by omega]
theorem rf_root : ∀ (n : Nat) (l : List ByteArray) (x : ByteArray), l.length = n → rf (peaks l ++ [x]) = root (l ++ [x]) := by
  intro n
  induction n using Nat.strongRecOn with
  | ind n ih =>
    intro l x hn
    by_cases hl : l = []
    · subst hl; rfl
    · have hpos : 0 < l.length := List.length_pos_iff.2 hl
      have n1 := next_length l
      by_cases he : l.length % 2 = 0
      · rw [peaks_even he, ih _ (by omega) (next l) x rfl, ← next_snoc x he, root_next']
      · have hs := last_split hpos
        obtain ⟨p, y, hp⟩ : ∃ p y, l = p ++ [y] := ⟨_, _, hs⟩
        have hpl : p.length % 2 = 0 := by rw [hp] at he; simp at he; omega
        have hpn := next_length p
        have hp1 : l.length = p.length + 1 := by rw [hp]; simp
        rw [hp, peaks_odd y hpl, List.append_assoc, List.singleton_append, rf_snoc2, peaks_even hpl, ih _ (by omega) (next p) (node y x) rfl, List.append_assoc, List.singleton_append, ← next_snoc2 y x hpl, root_next']
theorem rf_peaks : ∀ (n : Nat) (l : List ByteArray), l.length = n → rf (peaks l) = root l := by
  intro n
  induction n using Nat.strongRecOn with
  | ind n ih =>
    intro l hn
    by_cases hl : l = []
    · subst hl; rfl
    · have hpos : 0 < l.length := List.length_pos_iff.2 hl
      have n1 := next_length l
      by_cases he : l.length % 2 = 0
      · rw [peaks_even he, ih _ (by omega) (next l) rfl, root_next']
      · have hs := last_split hpos
        obtain ⟨p, y, hp⟩ : ∃ p y, l = p ++ [y] := ⟨_, _, hs⟩
        have hpl : p.length % 2 = 0 := by rw [hp] at he; simp at he; omega
        rw [hp, peaks_odd y hpl, rf_root _ p y rfl]
theorem peaks_length : ∀ (n : Nat) (l : List ByteArray), l.length = n → (peaks l).length ≤ n := by
  intro n
  induction n using Nat.strongRecOn with
  | ind n ih =>
    intro l hn
    by_cases hl : l = []
    · subst hl; exact Nat.zero_le _
    · have hpos : 0 < l.length := List.length_pos_iff.2 hl
      have n1 := next_length l
      by_cases he : l.length % 2 = 0
      · rw [peaks_even he]; have := ih _ (by omega) (next l) rfl; omega
      · have hs := last_split hpos
        obtain ⟨p, y, hp⟩ : ∃ p y, l = p ++ [y] := ⟨_, _, hs⟩
        have hpl : p.length % 2 = 0 := by rw [hp] at he; simp at he; omega
        have hp1 : l.length = p.length + 1 := by rw [hp]; simp
        rw [hp, peaks_odd y hpl]
        have := ih _ (by omega) p rfl
        simp; omega
end Tr
end Go.Proofs.YtdjhlgodecnidaaDoor
