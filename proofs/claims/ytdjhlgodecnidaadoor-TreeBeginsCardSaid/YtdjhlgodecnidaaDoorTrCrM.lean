/- Plain: where a bridge leads, in the program's words; sizes; what begins a log. -/
import Derived.Test.YtdjhlgodecnidaaDoorTrClm
import Derived.Lib.TrailingZeros
namespace Go.Proofs.YtdjhlgodecnidaaDoor
open Go.RowKit
open Tr

/-- What stood to the left stood on the way. -/
theorem climb_left : ∀ (last at' : Nat) (d : ByteArray) (w : List ByteArray) (x : ByteArray × List ByteArray × List ByteArray), climb at' last d w = some x → ∀ t ∈ x.2.2, t ∈ w := by
  intro last
  induction last using Nat.strongRecOn with
  | ind last ih =>
    intro a d w x hc
    by_cases h0 : last = 0
    · subst h0
      rw [climb_zero] at hc
      by_cases hwn : w = []
      · rw [if_pos hwn] at hc
        injection hc with hc
        subst hc
        intro t ht; cases ht
      · rw [if_neg hwn] at hc; cases hc
    · rw [climb_step _ _ h0] at hc
      by_cases hal : a = last ∧ a % 2 = 0
      · rw [if_pos hal] at hc; exact ih _ (by omega) _ _ _ _ hc
      · rw [if_neg hal] at hc
        cases w with
        | nil => cases hc
        | cons y r =>
          simp only at hc
          by_cases hev : a % 2 = 0
          · rw [if_pos hev] at hc
            cases hcc : climb (a / 2) (last / 2) (node d y) r with
            | none => rw [hcc] at hc; cases hc
            | some z =>
              rw [hcc] at hc
              simp only [Option.map_some, Option.some.injEq] at hc
              subst hc
              intro t ht
              exact List.mem_cons_of_mem _ (ih _ (by omega) _ _ _ _ hcc t ht)
          · rw [if_neg hev] at hc
            cases hcc : climb (a / 2) (last / 2) (node y d) r with
            | none => rw [hcc] at hc; cases hc
            | some z =>
              rw [hcc] at hc
              simp only [Option.map_some, Option.some.injEq] at hc
              subst hc
              intro t ht
              rcases List.mem_cons.1 ht with rfl | ht
              · exact List.mem_cons_self
              · exact List.mem_cons_of_mem _ (ih _ (by omega) _ _ _ _ hcc t ht)
/-- How often 2 divides m, and what is left. -/
def lv (m : Nat) : Nat := Lib.ctz 64 m
def od (m : Nat) : Nat := m / 2 ^ lv m
theorem lv_spec {m : Nat} (h0 : 1 ≤ m) (h : m ≤ 4096) : m = od m * 2 ^ lv m ∧ od m % 2 = 1 ∧ lv m < 64 := by
  obtain ⟨k, hk, hl⟩ := Lib.ctzFrom_spec 64 m h0 (by omega)
  have e : lv m = Lib.ctzFrom 64 m := by unfold lv Lib.ctz; rw [if_neg (by omega)]
  rw [← e] at hk hl
  have hp := Nat.two_pow_pos (lv m)
  have ho : od m = 2 * k + 1 := by
    exact Nat.div_eq_of_eq_mul_right hp hk
  refine ⟨by rw [ho, Nat.mul_comm]; exact hk, by omega, hl⟩
/-- What cross answers. -/
def crE : Option (ByteArray × List ByteArray) → ByteArray × List ByteArray × Int
  | some x => (x.1, x.2, 0)
  | none => (⟨#[]⟩, [], 12)
def crossR (m n : Nat) (old : ByteArray) (br : List ByteArray) : ByteArray × List ByteArray × Int := crE (crossP (od m) ((n - 1) / 2 ^ lv m) old br)
/-- What Cross answers. -/
def crossA (m n : Nat) (old : ByteArray) (br : List ByteArray) : ByteArray × List ByteArray × Int :=
  if old.size = 32 ∧ badB br = false then
    (if 1 ≤ m ∧ m < n then crossR m n old br else
     if br ≠ [] ∨ (m = 0 ∧ old ≠ root []) then (⟨#[]⟩, [], 12) else
     if m = 0 then (⟨#[]⟩, [], 0) else (old, [], 0))
  else (⟨#[]⟩, [], 1)
def beginsB (old : ByteArray) (m : Nat) (r : ByteArray) (n : Nat) (br : List ByteArray) : Bool := decide ((crossA m n old br).2.2 = 0) && (decide (m = 0) || decide ((crossA m n old br).1 = r))
theorem stepC_texts {a last : Nat} {old d : ByteArray} {w : List ByteArray} {r : ByteArray} {T : List ByteArray} (hd : d.size = 32) (hw : Digs w) (h : stepC a last old d w = some (r, T)) : T.length ≤ 2 * w.length ∧ ∀ t ∈ T, t.size = 65 := by
  unfold stepC at h
  split at h
  · cases h
  · rename_i r0 T0 lf hcl
    split at h
    · cases h
    · rename_i r1 T1 l1 hc1
      split at h
      · simp only [Option.some.injEq, Prod.mk.injEq] at h
        obtain ⟨rfl, rfl⟩ := h
        have l0 := climb_len _ _ _ _ _ hcl
        have l1 := climb_len _ _ _ _ _ hc1
        have hlf : Digs lf := fun x hx => hw x (climb_left _ _ _ _ _ hcl x hx)
        have t0 := climb_texts _ _ _ _ _ hd hw hcl
        have t1 := climb_texts _ _ _ _ _ hd hlf hc1
        simp only at l0 l1 t0 t1
        refine ⟨by rw [List.length_append]; omega, fun t ht => ?_⟩
        rcases List.mem_append.1 ht with ht | ht
        · exact t1 t ht
        · exact t0 t ht
      · cases h
theorem crossP_texts {q last : Nat} {old : ByteArray} {br : List ByteArray} {r : ByteArray} {T : List ByteArray} (hd : old.size = 32) (hw : Digs br) (h : crossP q last old br = some (r, T)) : T.length ≤ 2 * br.length ∧ ∀ t ∈ T, t.size = 65 := by
  unfold crossP at h
  split at h
  · exact stepC_texts hd hw h
  · cases br with
    | nil => cases h
    | cons x p =>
      have := stepC_texts (hw x (by simp)) (fun y hy => hw y (List.mem_cons_of_mem _ hy)) h
      exact ⟨by have := this.1; simp; omega, this.2⟩
/-- What begins a log by a bridge is the root of its first leaves, or there is a twin. -/
theorem begins_plain {ss : List ByteArray} {m : Nat} (hm : m ≤ ss.length) (hs : ss.length ≤ 4096) {old : ByteArray} {br : List ByteArray} {R : ByteArray} {T : List ByteArray} {E : Int} (hZ : crossA m ss.length old br = (R, T, E)) (hE : E = 0) (hR : m = 0 ∨ R = root (ss.map leaf)) (hne : old ≠ root ((ss.map leaf).take m)) :
    TwinIn (txts ss ++ T) ∧ T.length ≤ 2 * br.length ∧ ∀ t ∈ T, t.size = 65 := by
  have hl : (ss.map leaf).length = ss.length := List.length_map ..
  unfold crossA at hZ
  by_cases hc : old.size = 32 ∧ badB br = false
  · rw [if_pos hc] at hZ
    have hDg := badB_false.1 hc.2
    by_cases h1 : 1 ≤ m ∧ m < ss.length
    · rw [if_pos h1] at hZ
      unfold crossR at hZ
      obtain ⟨e1, e2, -⟩ := lv_spec h1.1 (by omega)
      cases hcl : crossP (od m) ((ss.length - 1) / 2 ^ lv m) old br with
      | none => rw [hcl] at hZ; simp only [crE, Prod.mk.injEq] at hZ; omega
      | some x =>
        obtain ⟨x1, xT⟩ := x
        rw [hcl] at hZ
        simp only [crE, Prod.mk.injEq] at hZ
        obtain ⟨rfl, rfl, -⟩ := hZ
        have ht := crossP_texts hc.1 hDg hcl
        rcases hR with h | hR
        · omega
        rw [hR] at hcl
        rw [← hl] at hcl
        rcases cross_binds e1 e2 (by omega) (digs_leaves ss) old hc.1 br hDg xT hcl with j | j
        · exact absurd j hne
        · refine ⟨j.sub fun x hx => ?_, ht.1, ht.2⟩
          rcases List.mem_append.1 hx with hx | hx
          · exact List.mem_append.2 (Or.inr hx)
          · exact List.mem_append.2 (Or.inl (mem_txts hx))
    · rw [if_neg h1] at hZ
      by_cases h2 : br ≠ [] ∨ (m = 0 ∧ old ≠ root [])
      · rw [if_pos h2] at hZ; simp only [Prod.mk.injEq] at hZ; omega
      · rw [if_neg h2] at hZ
        by_cases h3 : m = 0
        · exfalso
          apply hne
          rw [h3, List.take_zero]
          exact Decidable.byContradiction fun h => h2 (Or.inr ⟨h3, h⟩)
        · rw [if_neg h3] at hZ
          simp only [Prod.mk.injEq] at hZ
          exfalso
          apply hne
          rw [List.take_of_length_le (by have := hm; omega)]
          rcases hR with h | h
          · exact absurd h h3
          · rw [hZ.1]; exact h
  · rw [if_neg hc] at hZ
    simp only [Prod.mk.injEq] at hZ
    omega
/-- Ways and bridges are of digests. -/
theorem way_digs : ∀ (n : Nat) (l : List ByteArray) (i : Nat), l.length = n → Digs l → Digs (way l i) := by
  intro n
  induction n using Nat.strongRecOn with
  | ind n ih =>
    intro l i hn hD
    by_cases h : 2 ≤ l.length
    · have p1 := hf_pos l.length
      have p2 := hf_lt h
      have ht : Digs (l.take (hf l.length)) := fun x hx => hD x (List.mem_of_mem_take hx)
      have hd : Digs (l.drop (hf l.length)) := fun x hx => hD x (List.mem_of_mem_drop hx)
      rw [way_two h]
      split
      · intro x hx
        rcases List.mem_append.1 hx with hx | hx
        · exact ih (hf l.length) (by omega) _ i (by rw [List.length_take]; omega) ht x hx
        · rw [List.mem_singleton.1 hx]; exact root_size hd
      · intro x hx
        rcases List.mem_append.1 hx with hx | hx
        · exact ih (l.length - hf l.length) (by omega) _ _ (by rw [List.length_drop]) hd x hx
        · rw [List.mem_singleton.1 hx]; exact root_size ht
    · rw [way_one (by omega)]
      intro x hx; cases hx
theorem bridge_digs : ∀ (n : Nat) (l : List ByteArray) (m : Nat) (known : Bool), l.length = n → 1 ≤ m → m ≤ n → Digs l → Digs (bridge l m known) := by
  intro n
  induction n using Nat.strongRecOn with
  | ind n ih =>
    intro l m known hn h0 hm hD
    by_cases h : m < l.length
    · have p1 := hf_pos l.length
      have p2 := hf_lt (n := l.length) (by omega)
      have ht : Digs (l.take (hf l.length)) := fun x hx => hD x (List.mem_of_mem_take hx)
      have hd : Digs (l.drop (hf l.length)) := fun x hx => hD x (List.mem_of_mem_drop hx)
      rw [bridge_two h0 h]
      split
      · intro x hx
        rcases List.mem_append.1 hx with hx | hx
        · exact ih (hf l.length) (by omega) _ m known (by rw [List.length_take]; omega) h0 (by omega) ht x hx
        · rw [List.mem_singleton.1 hx]; exact root_size hd
      · intro x hx
        rcases List.mem_append.1 hx with hx | hx
        · exact ih (l.length - hf l.length) (by omega) _ _ false (by rw [List.length_drop]) (by omega) (by omega) hd x hx
        · rw [List.mem_singleton.1 hx]; exact root_size ht
    · obtain rfl : m = l.length := by omega
      rw [bridge_all h0]
      split
      · intro x hx; cases hx
      · intro x hx
        rw [List.mem_singleton.1 hx]; exact root_size hD
/-- The bridge of the first so many is a bridge. -/
theorem begins_way {l : List ByteArray} {m : Nat} (hm : m ≤ l.length) (hn : l.length ≤ 4096) (hD : Digs l) : beginsB (root (l.take m)) m (root l) l.length (if m = 0 then [] else bridge l m true) = true := by
  have hz : (root (l.take m)).size = 32 := root_size (fun x hx => hD x (List.mem_of_mem_take hx))
  have key : (crossA m l.length (root (l.take m)) (if m = 0 then [] else bridge l m true)).2.2 = 0 ∧ (m = 0 ∨ (crossA m l.length (root (l.take m)) (if m = 0 then [] else bridge l m true)).1 = root l) := by
    unfold crossA
    by_cases h0 : m = 0
    · rw [if_pos h0, if_pos ⟨hz, rfl⟩, if_neg (by omega), if_neg (fun h => by
        rcases h with h | ⟨-, h⟩
        · exact h rfl
        · rw [h0, List.take_zero] at h; exact h rfl), if_pos h0]
      exact ⟨rfl, Or.inl h0⟩
    · rw [if_neg h0, if_pos ⟨hz, badB_false.2 (bridge_digs _ l m true rfl (by omega) hm hD)⟩]
      by_cases h1 : m < l.length
      · rw [if_pos ⟨by omega, h1⟩]
        unfold crossR
        obtain ⟨e1, e2, -⟩ := lv_spec (m := m) (by omega) (by omega)
        obtain ⟨T, hT⟩ := cross_way e1 e2 h1
        rw [hT]
        exact ⟨rfl, Or.inr rfl⟩
      · have he : m = l.length := by omega
        have hbr : bridge l m true = [] := by rw [he, bridge_all (by omega)]; rfl
        rw [if_neg (by omega), hbr, if_neg (fun h => by
          rcases h with h | ⟨h, -⟩
          · exact h rfl
          · exact h0 h), if_neg h0]
        refine ⟨rfl, Or.inr ?_⟩
        show root (l.take m) = root l
        rw [he, List.take_length]
  unfold beginsB
  rw [decide_eq_true key.1, Bool.true_and]
  rcases key.2 with h | h
  · rw [decide_eq_true h]; rfl
  · rw [decide_eq_true h, Bool.or_true]
theorem stands_way {l : List ByteArray} {k : Nat} (hk : k < l.length) (hD : Digs l) : standsB (root l) l.length k (l.getD k ByteArray.empty) (way l k) = true := by
  obtain ⟨T, lf, h, -⟩ := climb_way (l.length - 1) l k (by omega) (by omega)
  unfold standsB climbA
  rw [if_pos ⟨hD.getD hk, badB_false.2 (way_digs _ l k rfl hD)⟩, h]
  simp [clE]
end Go.Proofs.YtdjhlgodecnidaaDoor
