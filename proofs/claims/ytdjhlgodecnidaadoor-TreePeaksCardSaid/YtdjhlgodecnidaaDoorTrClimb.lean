/- Where a way leads, without a program: the way of a place leads to the root; what leads to the root is what stands there, by the way of that place, or two unlike texts have one digest. Texts of a root; peaks. -/
import Derived.Test.YtdjhlgodecnidaaDoorTrMath
namespace Go.Proofs.YtdjhlgodecnidaaDoor
open Go.RowKit

namespace Tr
/-- Where a way leads: the root, the texts, what stood to the left; none, if it is too short or too long. -/
def climbF : Nat → Nat → Nat → ByteArray → List ByteArray → Option (ByteArray × List ByteArray × List ByteArray)
  | f, at', last, d, way =>
    if last = 0 then (if way = [] then some (d, [], []) else none) else
    match f with
    | 0 => none
    | f + 1 =>
      if at' = last ∧ at' % 2 = 0 then climbF f (at' / 2) (last / 2) d way else
      match way with
      | [] => none
      | w :: r =>
        if at' % 2 = 0 then (climbF f (at' / 2) (last / 2) (node d w) r).map fun x => (x.1, nodeT d w :: x.2.1, x.2.2)
        else (climbF f (at' / 2) (last / 2) (node w d) r).map fun x => (x.1, nodeT w d :: x.2.1, w :: x.2.2)
theorem climbF_zero (f at' : Nat) (d : ByteArray) (way : List ByteArray) : climbF f at' 0 d way = if way = [] then some (d, [], []) else none := by
  unfold climbF; rw [if_pos rfl]
theorem climbF_succ (f : Nat) {at' last : Nat} (d : ByteArray) (way : List ByteArray) (h : last ≠ 0) : climbF (f + 1) at' last d way =
    if at' = last ∧ at' % 2 = 0 then climbF f (at' / 2) (last / 2) d way else
      match way with
      | [] => none
      | w :: r =>
        if at' % 2 = 0 then (climbF f (at' / 2) (last / 2) (node d w) r).map fun x => (x.1, nodeT d w :: x.2.1, x.2.2)
        else (climbF f (at' / 2) (last / 2) (node w d) r).map fun x => (x.1, nodeT w d :: x.2.1, w :: x.2.2) := by
  rw [climbF.eq_def]
  exact if_neg h
theorem climbF_any : ∀ (f g at' last : Nat) (d : ByteArray) (way : List ByteArray), last ≤ f → last ≤ g → climbF f at' last d way = climbF g at' last d way := by
  intro f
  induction f with
  | zero => intro g at' last d way h1 h2; obtain rfl : last = 0 := by omega
            rw [climbF_zero, climbF_zero]
  | succ f ih =>
    intro g at' last d way h1 h2
    by_cases hl : last = 0
    · subst hl; rw [climbF_zero, climbF_zero]
    · cases g with
      | zero => omega
      | succ g =>
        rw [climbF_succ f d way hl, climbF_succ g d way hl]
        have e := fun d w => ih g (at' / 2) (last / 2) d w (by omega) (by omega)
        rw [e]
        cases way with
        | nil => rfl
        | cons w r => simp only [e]
def climb (at' last : Nat) (d : ByteArray) (way : List ByteArray) := climbF last at' last d way
theorem climb_zero (at' : Nat) (d : ByteArray) (way : List ByteArray) : climb at' 0 d way = if way = [] then some (d, [], []) else none := climbF_zero _ _ _ _
theorem climb_step {at' last : Nat} (d : ByteArray) (way : List ByteArray) (h : last ≠ 0) : climb at' last d way =
    if at' = last ∧ at' % 2 = 0 then climb (at' / 2) (last / 2) d way else
      match way with
      | [] => none
      | w :: r =>
        if at' % 2 = 0 then (climb (at' / 2) (last / 2) (node d w) r).map fun x => (x.1, nodeT d w :: x.2.1, x.2.2)
        else (climb (at' / 2) (last / 2) (node w d) r).map fun x => (x.1, nodeT w d :: x.2.1, w :: x.2.2) := by
  unfold climb
  rw [show climbF last at' last d way = climbF (last - 1 + 1) at' last d way by congr 1; omega, climbF_succ _ d way h]
  have e := fun d w => climbF_any (last - 1) (last / 2) (at' / 2) (last / 2) d w (by omega) (by omega)
  rw [e]
  cases way with
  | nil => rfl
  | cons w r => simp only [e]

theorem drop_cons {l : List ByteArray} {i : Nat} (h : i < l.length) : (l.drop i).take 1 = [l.getD i ByteArray.empty] := by
  rw [List.drop_eq_getElem_cons h, List.getD_eq_getElem?_getD, List.getElem?_eq_getElem h]
  rfl
theorem next_getD : ∀ (l : List ByteArray) (j : Nat), 2 * j + 1 < l.length → (next l).getD j ByteArray.empty = node (l.getD (2 * j) ByteArray.empty) (l.getD (2 * j + 1) ByteArray.empty)
  | [], j, h => by simp at h
  | [a], j, h => by simp at h
  | a :: b :: r, 0, _ => rfl
  | a :: b :: r, j + 1, h => by
    have := next_getD r j (by simp at h; omega)
    rw [next, List.getD_cons_succ, this, show 2 * (j + 1) = 2 * j + 1 + 1 by omega, List.getD_cons_succ, List.getD_cons_succ, show 2 * j + 1 + 1 + 1 = 2 * j + 1 + 1 + 1 from rfl, List.getD_cons_succ, List.getD_cons_succ]
theorem next_last : ∀ (l : List ByteArray) (j : Nat), 2 * j + 1 = l.length → (next l).getD j ByteArray.empty = l.getD (2 * j) ByteArray.empty
  | [], j, h => by simp at h
  | [a], j, h => by
    obtain rfl : j = 0 := by simp at h; omega
    rfl
  | a :: b :: r, 0, h => by simp at h
  | a :: b :: r, j + 1, h => by
    have := next_last r j (by simp at h; omega)
    rw [next, List.getD_cons_succ, this, show 2 * (j + 1) = 2 * j + 1 + 1 by omega, List.getD_cons_succ, List.getD_cons_succ]
theorem take_succ_getD {l : List ByteArray} {i : Nat} (h : i < l.length) : l.take (i + 1) = l.take i ++ [l.getD i ByteArray.empty] := by
  rw [List.take_add_one, List.getD_eq_getElem?_getD, List.getElem?_eq_getElem h]; rfl
theorem next_snoc {l : List ByteArray} (y : ByteArray) (h : l.length % 2 = 0) : next (l ++ [y]) = next l ++ [y] := by rw [next_append _ _ h, next_one]
theorem next_snoc2 {l : List ByteArray} (x y : ByteArray) (h : l.length % 2 = 0) : next (l ++ [x, y]) = next l ++ [node x y] := by rw [next_append _ _ h, next_pair]
/-- THE WAY OF A PLACE LEADS TO THE ROOT; what stood to its left leads, from any digest at that place, to the root of those ahead of it and it. -/
theorem climb_way : ∀ (last : Nat) (L : List ByteArray) (at' : Nat), L.length = last + 1 → at' ≤ last →
    ∃ T lf, climb at' last (L.getD at' ByteArray.empty) (way L at') = some (root L, T, lf) ∧ ∀ y, ∃ T2 l2, climb at' at' y lf = some (root (L.take at' ++ [y]), T2, l2) := by
  intro last
  induction last using Nat.strongRecOn with
  | ind last ih =>
    intro L a hL ha
    by_cases h0 : last = 0
    · subst h0
      obtain rfl : a = 0 := by omega
      match L, hL with
      | [x], _ => exact ⟨[], [], by rw [climb_zero, way_one (by simp), if_pos rfl]; rfl, fun y => ⟨[], [], by rw [climb_zero, if_pos rfl]; rfl⟩⟩
    · have hl := next_length L
      obtain ⟨T, lf, i1, i2⟩ := ih (last / 2) (by omega) (next L) (a / 2) (by rw [hl]; omega) (by omega)
      have hw := way_next _ L a rfl (by omega)
      rw [hw, climb_step _ _ h0]
      by_cases hodd : a % 2 = 1
      · -- a to the left
        rw [if_neg (fun e => by omega)]
        have hs : sib L a = [L.getD (a - 1) ByteArray.empty] := by unfold sib; rw [if_pos hodd, drop_cons (by omega)]
        have hg : (next L).getD (a / 2) ByteArray.empty = node (L.getD (a - 1) ByteArray.empty) (L.getD a ByteArray.empty) := by
          rw [next_getD L (a / 2) (by omega), show 2 * (a / 2) = a - 1 by omega, show a - 1 + 1 = a by omega]
        rw [hs, List.singleton_append]
        simp only
        rw [if_neg (by omega), ← hg, i1]
        refine ⟨_, _, by rw [root_next']; rfl, fun y => ?_⟩
        obtain ⟨T2, l2, j1⟩ := i2 (node (L.getD (a - 1) ByteArray.empty) y)
        rw [climb_step _ _ (by omega), if_neg (fun e => by omega)]
        simp only
        rw [if_neg (by omega), j1]
        refine ⟨nodeT (L.getD (a - 1) ByteArray.empty) y :: T2, L.getD (a - 1) ByteArray.empty :: l2, ?_⟩
        have e : root (L.take a ++ [y]) = root ((next L).take (a / 2) ++ [node (L.getD (a - 1) ByteArray.empty) y]) := by
          have ht : L.take a = L.take (a - 1) ++ [L.getD (a - 1) ByteArray.empty] := by
            rw [← take_succ_getD (by omega), show a - 1 + 1 = a by omega]
          rw [← root_next' (L.take a ++ [y]), ht, List.append_assoc, List.singleton_append, next_snoc2 _ _ (by rw [List.length_take]; omega), next_take (by omega) (by omega), show (a - 1) / 2 = a / 2 by omega]
        rw [e]; rfl
      · -- a to the right, or alone
        have hfirst : ∀ y, ∃ T2 l2, climb a a y lf = some (root (L.take a ++ [y]), T2, l2) := fun y => by
          obtain ⟨T2, l2, j1⟩ := i2 y
          by_cases hz : a = 0
          · subst hz
            rw [Nat.zero_div, List.take_zero] at j1
            exact ⟨_, _, by rw [List.take_zero]; exact j1⟩
          · refine ⟨T2, l2, ?_⟩
            rw [climb_step _ _ hz, if_pos ⟨rfl, by omega⟩, j1]
            rw [← root_next' (L.take a ++ [y]), next_snoc _ (by rw [List.length_take]; omega), next_take (by omega) (by omega)]
        by_cases hal : a = last
        · rw [if_pos ⟨hal, by omega⟩]
          have hs : sib L a = [] := by unfold sib; rw [if_neg hodd, List.drop_of_length_le (by omega)]; rfl
          have hg : (next L).getD (a / 2) ByteArray.empty = L.getD a ByteArray.empty := by
            rw [next_last L (a / 2) (by omega), show 2 * (a / 2) = a by omega]
          rw [hs, List.nil_append, ← hg, i1]
          exact ⟨_, _, by rw [root_next'], hfirst⟩
        · rw [if_neg (fun e => hal e.1)]
          have hs : sib L a = [L.getD (a + 1) ByteArray.empty] := by unfold sib; rw [if_neg hodd, drop_cons (by omega)]
          have hg : (next L).getD (a / 2) ByteArray.empty = node (L.getD a ByteArray.empty) (L.getD (a + 1) ByteArray.empty) := by
            rw [next_getD L (a / 2) (by omega), show 2 * (a / 2) = a by omega]
          rw [hs, List.singleton_append]
          simp only
          rw [if_pos (by omega), ← hg, i1]
          exact ⟨_, _, by rw [root_next']; rfl, hfirst⟩

/-- The texts of the nodes that are summed for a root. -/
def sumF : Nat → List ByteArray → List ByteArray
  | 0, _ => []
  | f + 1, l => if l.length < 2 then [] else sumF f (l.take (hf l.length)) ++ sumF f (l.drop (hf l.length)) ++ [nodeT (root (l.take (hf l.length))) (root (l.drop (hf l.length)))]
def sumT (l : List ByteArray) : List ByteArray := sumF l.length l
theorem sumF_any : ∀ (f g : Nat) (l : List ByteArray), l.length ≤ f → l.length ≤ g → sumF f l = sumF g l := by
  intro f
  induction f with
  | zero =>
    intro g l h1 h2
    cases g with
    | zero => rfl
    | succ g => rw [sumF, sumF, if_pos (by omega)]
  | succ f ih =>
    intro g l h1 h2
    cases g with
    | zero => rw [sumF, sumF, if_pos (by omega)]
    | succ g =>
      rw [sumF, sumF]
      by_cases h : l.length < 2
      · rw [if_pos h, if_pos h]
      · rw [if_neg h, if_neg h]
        have p1 := hf_pos l.length
        have p2 := hf_lt (n := l.length) (by omega)
        rw [ih g _ (by rw [List.length_take]; omega) (by rw [List.length_take]; omega), ih g _ (by rw [List.length_drop]; omega) (by rw [List.length_drop]; omega)]
theorem sumT_one {l : List ByteArray} (h : l.length < 2) : sumT l = [] := by
  unfold sumT
  cases hl : l.length with
  | zero => rfl
  | succ n => rw [sumF, if_pos h]
theorem sumT_two {l : List ByteArray} (h : 2 ≤ l.length) : sumT l = sumT (l.take (hf l.length)) ++ sumT (l.drop (hf l.length)) ++ [nodeT (root (l.take (hf l.length))) (root (l.drop (hf l.length)))] := by
  have p1 := hf_pos l.length
  have p2 := hf_lt h
  unfold sumT
  rw [show sumF l.length l = sumF (l.length - 1 + 1) l by congr 1; omega, sumF, if_neg (by omega)]
  rw [sumF_any (l.length - 1) (l.take (hf l.length)).length _ (by rw [List.length_take]; omega) (Nat.le_refl _), sumF_any (l.length - 1) (l.drop (hf l.length)).length _ (by rw [List.length_drop]; omega) (Nat.le_refl _)]
theorem sumT_length : ∀ (n : Nat) (l : List ByteArray), l.length = n → (sumT l).length = n - 1 := by
  intro n
  induction n using Nat.strongRecOn with
  | ind n ih =>
    intro l hn
    by_cases h : 2 ≤ l.length
    · have p1 := hf_pos l.length
      have p2 := hf_lt h
      rw [sumT_two h, List.length_append, List.length_append, ih (hf l.length) (by omega) _ (by rw [List.length_take]; omega), ih (l.length - hf l.length) (by omega) _ (by rw [List.length_drop])]
      simp; omega
    · rw [sumT_one (by omega)]; simp; omega
/-- The texts of a level's pairs. -/
def pairT : List ByteArray → List ByteArray
  | a :: b :: r => nodeT a b :: pairT r
  | _ => []
theorem pairT_append : ∀ (p q : List ByteArray), p.length % 2 = 0 → pairT (p ++ q) = pairT p ++ pairT q
  | [], q, _ => rfl
  | [a], q, h => by simp at h
  | a :: b :: r, q, h => by
    rw [List.cons_append, List.cons_append, pairT, pairT, List.cons_append, pairT_append r q (by simp at h; omega)]
theorem sumT_next : ∀ (n : Nat) (l : List ByteArray), l.length = n → ∀ x, x ∈ pairT l ∨ x ∈ sumT (next l) → x ∈ sumT l := by
  intro n
  induction n using Nat.strongRecOn with
  | ind n ih =>
    intro l hn x hx
    rcases len_cases l with rfl | ⟨a, rfl⟩ | h
    · rcases hx with hx | hx
      · simp [pairT] at hx
      · exact hx
    · rcases hx with hx | hx
      · simp [pairT] at hx
      · exact hx
    · by_cases h3 : 3 ≤ l.length
      · obtain ⟨m, m1, m2, m3⟩ := hf_even h3
        have p2 := hf_lt h
        have hl := next_length l
        have hp : pairT l = pairT (l.take (2 * m)) ++ pairT (l.drop (2 * m)) := by
          rw [← pairT_append _ _ (by rw [List.length_take]; omega), List.take_append_drop]
        have e1 : next (l.take (2 * m)) = (next l).take m := by rw [next_take (by omega) (by omega), show 2 * m / 2 = m by omega]
        have e2 : next (l.drop (2 * m)) = (next l).drop m := by rw [next_drop (by omega) (by omega), show 2 * m / 2 = m by omega]
        have i1 := ih (2 * m) (by omega) (l.take (2 * m)) (by rw [List.length_take]; omega) x
        have i2 := ih (l.length - 2 * m) (by omega) (l.drop (2 * m)) (by rw [List.length_drop]) x
        rw [e1] at i1
        rw [e2] at i2
        rw [sumT_two h, m2]
        rw [hp, sumT_two (l := next l) (by omega), hl, m3, ← e1, ← e2, root_next', root_next', e1, e2] at hx
        simp only [List.mem_append] at hx ⊢
        rcases hx with (hx | hx) | (hx | hx) | hx
        · exact Or.inl (Or.inl (i1 (Or.inl hx)))
        · exact Or.inl (Or.inr (i2 (Or.inl hx)))
        · exact Or.inl (Or.inl (i1 (Or.inr hx)))
        · exact Or.inl (Or.inr (i2 (Or.inr hx)))
        · exact Or.inr hx
      · match l, h, h3, hx with
        | [a, b], _, _, hx =>
          rcases hx with hx | hx
          · exact hx
          · rw [next_pair, sumT_one (by simp)] at hx; cases hx
        | a :: b :: c :: r, _, h3, _ => simp at h3
theorem sumT_up : ∀ (j : Nat) (l : List ByteArray) (x : ByteArray), x ∈ sumT (up j l) → x ∈ sumT l
  | 0, _, _, h => h
  | j + 1, l, x, h => sumT_next _ l rfl x (Or.inr (sumT_up j (next l) x h))
theorem pairT_mem : ∀ (l : List ByteArray) (j : Nat), 2 * j + 1 < l.length → nodeT (l.getD (2 * j) ByteArray.empty) (l.getD (2 * j + 1) ByteArray.empty) ∈ pairT l
  | [], j, h => by simp at h
  | [a], j, h => by simp at h
  | a :: b :: r, 0, _ => by simp [pairT]
  | a :: b :: r, j + 1, h => by
    have := pairT_mem r j (by simp at h; omega)
    rw [pairT, show 2 * (j + 1) = 2 * j + 1 + 1 by omega, List.getD_cons_succ, List.getD_cons_succ, List.getD_cons_succ, List.getD_cons_succ]
    exact List.mem_cons_of_mem _ this
theorem nodeT_data (a b : ByteArray) : (nodeT a b).data.toList = 1 :: (a.data.toList ++ b.data.toList) := by unfold nodeT; simp
theorem nodeT_inj {a b c d : ByteArray} (h : nodeT a b = nodeT c d) (ha : a.size = c.size) : a = c ∧ b = d := by
  have := congrArg (fun x => x.data.toList) h
  simp only [nodeT_data, List.cons.injEq, true_and] at this
  obtain ⟨h1, h2⟩ := List.append_inj this (by simpa using ha)
  exact ⟨Go.WideShapes.bytes_inj h1, Go.WideShapes.bytes_inj h2⟩
theorem sumE_inj {a b : ByteArray} (h : sumE a = sumE b) : sha a.data.toList = sha b.data.toList := by
  have := congrArg (fun x => x.data.toList) h
  simpa only [sumE, str_data] using this
/-- Two unlike texts of one digest among those. -/
def TwinIn (S : List ByteArray) : Prop := ∃ a b, a ∈ S ∧ b ∈ S ∧ a ≠ b ∧ sumE a = sumE b
theorem TwinIn.sub {S T : List ByteArray} (h : TwinIn S) (hs : ∀ x ∈ S, x ∈ T) : TwinIn T := by
  obtain ⟨a, b, ha, hb, hn, he⟩ := h
  exact ⟨a, b, hs a ha, hs b hb, hn, he⟩
def Digs (l : List ByteArray) : Prop := ∀ x ∈ l, x.size = 32
theorem Digs.next : ∀ {l : List ByteArray}, Digs l → Digs (next l)
  | [], h => h
  | [a], h => h
  | a :: b :: r, h => fun x hx => by
    rw [Tr.next, List.mem_cons] at hx
    rcases hx with rfl | hx
    · exact sumE_size _
    · exact Digs.next (l := r) (fun y hy => h y (List.mem_cons_of_mem _ (List.mem_cons_of_mem _ hy))) x hx
theorem Digs.getD {l : List ByteArray} (h : Digs l) {i : Nat} (hi : i < l.length) : (l.getD i ByteArray.empty).size = 32 := by
  rw [List.getD_eq_getElem?_getD, List.getElem?_eq_getElem hi]
  exact h _ (List.getElem_mem hi)
theorem Digs.up : ∀ (j : Nat) {l : List ByteArray}, Digs l → Digs (up j l)
  | 0, _, h => h
  | j + 1, _, h => Digs.up j h.next
/-- WHAT LEADS TO THE ROOT IS WHAT STANDS THERE, BY ITS WAY, OR THERE IS A TWIN. -/
theorem climb_binds : ∀ (last : Nat) (L : List ByteArray) (at' : Nat) (d : ByteArray) (w : List ByteArray) (T lf : List ByteArray), L.length = last + 1 → at' ≤ last → Digs L → d.size = 32 → Digs w →
    climb at' last d w = some (root L, T, lf) → (d = L.getD at' ByteArray.empty ∧ w = way L at') ∨ TwinIn (T ++ sumT L) := by
  intro last
  induction last using Nat.strongRecOn with
  | ind last ih =>
    intro L a d w T lf hL ha hD hd hw hc
    by_cases h0 : last = 0
    · subst h0
      obtain rfl : a = 0 := by omega
      match L, hL with
      | [x], _ =>
        rw [climb_zero] at hc
        by_cases hwn : w = []
        · rw [if_pos hwn] at hc
          simp only [Option.some.injEq, Prod.mk.injEq] at hc
          exact Or.inl ⟨hc.1, by rw [hwn, way_one (by simp)]⟩
        · rw [if_neg hwn] at hc; cases hc
    · have hl := next_length L
      rw [climb_step _ _ h0] at hc
      have hway := way_next _ L a rfl (by omega)
      have hsub : ∀ x, x ∈ sumT (next L) → x ∈ sumT L := fun x hx => sumT_next _ L rfl x (Or.inr hx)
      by_cases hal : a = last ∧ a % 2 = 0
      · rw [if_pos hal, ← root_next'] at hc
        rcases ih (last / 2) (by omega) (next L) (a / 2) d w T lf (by rw [hl]; omega) (by omega) hD.next hd hw hc with ⟨j1, j2⟩ | j
        · refine Or.inl ⟨?_, ?_⟩
          · rw [j1, next_last L (a / 2) (by omega), show 2 * (a / 2) = a by omega]
          · rw [hway, j2]
            have hs : sib L a = [] := by unfold sib; rw [if_neg (by omega), List.drop_of_length_le (by omega)]; rfl
            rw [hs, List.nil_append]
        · exact Or.inr (j.sub (fun x hx => by
            rcases List.mem_append.1 hx with hx | hx
            · exact List.mem_append.2 (Or.inl hx)
            · exact List.mem_append.2 (Or.inr (hsub x hx))))
      · rw [if_neg hal] at hc
        cases w with
        | nil => cases hc
        | cons x r =>
          simp only at hc
          have hx32 : x.size = 32 := hw x (by simp)
          have hr : Digs r := fun y hy => hw y (List.mem_cons_of_mem _ hy)
          by_cases hev : a % 2 = 0
          · rw [if_pos hev] at hc
            have halt : a < last := by omega
            have hg : (next L).getD (a / 2) ByteArray.empty = node (L.getD a ByteArray.empty) (L.getD (a + 1) ByteArray.empty) := by
              rw [next_getD L (a / 2) (by omega), show 2 * (a / 2) = a by omega]
            have hm := pairT_mem L (a / 2) (by omega)
            rw [show 2 * (a / 2) = a by omega] at hm
            have hm2 := sumT_next _ L rfl _ (Or.inl hm)
            cases hcc : climb (a / 2) (last / 2) (node d x) r with
            | none => rw [hcc] at hc; cases hc
            | some z =>
              obtain ⟨z1, z2, z3⟩ := z
              rw [hcc] at hc
              simp only [Option.map_some, Option.some.injEq, Prod.mk.injEq] at hc
              obtain ⟨c1, c2, c3⟩ := hc
              rw [c1, ← root_next'] at hcc
              subst c2
              rcases ih (last / 2) (by omega) (next L) (a / 2) (node d x) r z2 z3 (by rw [hl]; omega) (by omega) hD.next (sumE_size _) hr hcc with ⟨j1, j2⟩ | j
              · rw [hg] at j1
                by_cases ht : nodeT d x = nodeT (L.getD a ByteArray.empty) (L.getD (a + 1) ByteArray.empty)
                · obtain ⟨k1, k2⟩ := nodeT_inj ht (by rw [hd, hD.getD (by omega)])
                  refine Or.inl ⟨k1, ?_⟩
                  have hs : sib L a = [L.getD (a + 1) ByteArray.empty] := by unfold sib; rw [if_neg (by omega), drop_cons (by omega)]
                  rw [hway, hs, ← j2, k2]; rfl
                · exact Or.inr ⟨_, _, List.mem_append.2 (Or.inl (List.mem_cons_self ..)), List.mem_append.2 (Or.inr hm2), ht, j1⟩
              · exact Or.inr (j.sub (fun y hy => by
                  rcases List.mem_append.1 hy with hy | hy
                  · exact List.mem_append.2 (Or.inl (List.mem_cons_of_mem _ hy))
                  · exact List.mem_append.2 (Or.inr (hsub y hy))))
          · rw [if_neg hev] at hc
            have hg : (next L).getD (a / 2) ByteArray.empty = node (L.getD (a - 1) ByteArray.empty) (L.getD a ByteArray.empty) := by
              rw [next_getD L (a / 2) (by omega), show 2 * (a / 2) = a - 1 by omega, show a - 1 + 1 = a by omega]
            have hm := pairT_mem L (a / 2) (by omega)
            rw [show 2 * (a / 2) = a - 1 by omega, show a - 1 + 1 = a by omega] at hm
            have hm2 := sumT_next _ L rfl _ (Or.inl hm)
            cases hcc : climb (a / 2) (last / 2) (node x d) r with
            | none => rw [hcc] at hc; cases hc
            | some z =>
              obtain ⟨z1, z2, z3⟩ := z
              rw [hcc] at hc
              simp only [Option.map_some, Option.some.injEq, Prod.mk.injEq] at hc
              obtain ⟨c1, c2, c3⟩ := hc
              rw [c1, ← root_next'] at hcc
              subst c2
              rcases ih (last / 2) (by omega) (next L) (a / 2) (node x d) r z2 z3 (by rw [hl]; omega) (by omega) hD.next (sumE_size _) hr hcc with ⟨j1, j2⟩ | j
              · rw [hg] at j1
                by_cases ht : nodeT x d = nodeT (L.getD (a - 1) ByteArray.empty) (L.getD a ByteArray.empty)
                · obtain ⟨k1, k2⟩ := nodeT_inj ht (by rw [hx32, hD.getD (by omega)])
                  refine Or.inl ⟨k2, ?_⟩
                  have hs : sib L a = [L.getD (a - 1) ByteArray.empty] := by unfold sib; rw [if_pos (by omega), drop_cons (by omega)]
                  rw [hway, hs, ← j2, k1]; rfl
                · exact Or.inr ⟨_, _, List.mem_append.2 (Or.inl (List.mem_cons_self ..)), List.mem_append.2 (Or.inr hm2), ht, j1⟩
              · exact Or.inr (j.sub (fun y hy => by
                  rcases List.mem_append.1 hy with hy | hy
                  · exact List.mem_append.2 (Or.inl (List.mem_cons_of_mem _ hy))
                  · exact List.mem_append.2 (Or.inr (hsub y hy))))
/-- How many texts a way has: as many as it. -/
theorem climb_len : ∀ (last at' : Nat) (d : ByteArray) (w : List ByteArray) (x : ByteArray × List ByteArray × List ByteArray), climb at' last d w = some x → x.2.1.length = w.length ∧ x.2.2.length ≤ w.length := by
  intro last
  induction last using Nat.strongRecOn with
  | ind last ih =>
    intro a d w x hc
    by_cases h0 : last = 0
    · subst h0
      rw [climb_zero] at hc
      by_cases hwn : w = []
      · rw [if_pos hwn] at hc
        injection hc with hc
        subst hc hwn
        exact ⟨rfl, Nat.le_refl _⟩
      · rw [if_neg hwn] at hc; cases hc
    · rw [climb_step _ _ h0] at hc
      by_cases hal : a = last ∧ a % 2 = 0
      · rw [if_pos hal] at hc; exact ih _ (by omega) _ _ _ _ hc
      · rw [if_neg hal] at hc
        cases w with
        | nil => cases hc
        | cons y r =>
          simp only at hc
          by_cases hev : a % 2 = 0
          · rw [if_pos hev] at hc
            cases hcc : climb (a / 2) (last / 2) (node d y) r with
            | none => rw [hcc] at hc; cases hc
            | some z =>
              rw [hcc] at hc
              simp only [Option.map_some, Option.some.injEq] at hc
              subst hc
              have := ih _ (by omega) _ _ _ _ hcc
              simp; omega
          · rw [if_neg hev] at hc
            cases hcc : climb (a / 2) (last / 2) (node y d) r with
            | none => rw [hcc] at hc; cases hc
            | some z =>
              rw [hcc] at hc
              simp only [Option.map_some, Option.some.injEq] at hc
              subst hc
              have := ih _ (by omega) _ _ _ _ hcc
              simp; omega
end Tr
end Go.Proofs.YtdjhlgodecnidaaDoor
