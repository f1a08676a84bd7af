/- Merged by program: An item that comes in: it is a tree in memory. | size, Few. | fits, Shape: which items have a shape. | Same, by slices.EqualFunc: which items are the same. -/
import Derived.Test.YtdfkpjmljaanpaaMC2
import Derived.ProofKit
import Derived.OpenShut
import Derived.Deep.Slices
import Derived.SizedLaws
import Derived.Test.YtdfkpjmljaanpaaMC1
import Derived.Deep.RegionWith
import Derived.Deep.QuietTactic
import Derived.BigQuiet
namespace Go.Proofs.Ytdfkpjmljaanpaa
open Go.RowKit Go.ChangeShapes Go.WideShapes Go.ChangeAt
open Cn

mutual
/-- No text of an item is longer than what may come in. -/
def It.Small : It → Prop
  | .mk _ _ s _ _ l => s.size ≤ reachBytes ∧ It.SmallAll l
def It.SmallAll : List It → Prop
  | [] => True
  | x :: r => It.Small x ∧ It.SmallAll r
end
set_option maxRecDepth 100000 in
theorem It.small_mem : ∀ {l : List It}, It.SmallAll l → ∀ x ∈ l, x.Small
  | y :: r, h, x, hx => by
    rcases List.mem_cons.1 hx with rfl | hx
    · exact h.1
    · exact It.small_mem h.2 x hx
set_option maxRecDepth 100000 in
theorem It.small_of : ∀ {l : List It}, (∀ x ∈ l, x.Small) → It.SmallAll l
  | [], _ => trivial
  | y :: r, h => ⟨h y (by simp), It.small_of fun x hx => h x (by simp [hx])⟩
set_option maxRecDepth 100000 in
theorem cellsOf3 : Try.prog.cellsOf 3 = 1 := by kernel_rfl
set_option maxRecDepth 100000 in
theorem cellsOf9 : Try.prog.cellsOf 9 = 1 := by kernel_rfl
set_option maxRecDepth 100000 in
theorem weightsAll_mem {H : Type} (e : TypeId) : ∀ {l : List (DataW H)} {d : DataW H}, d ∈ l → (DataW.weightsAll Try.prog e l).all (· ≤ reachBytes) = true → (d.weights Try.prog e).all (· ≤ reachBytes) = true
  | y :: r, d, h, hw => by
    rw [DataW.weightsAll, List.all_append, Bool.and_eq_true] at hw
    rcases List.mem_cons.1 h with rfl | h
    · exact hw.1
    · exact weightsAll_mem e h hw.2
section
variable {H : Type} {enc : TypeId × Value → H} {W : World}
set_option maxRecDepth 100000 in
theorem list_of {n : Nat} {Q : Nat → It → Prop} (h : ∀ i, i < n → ∃ x, Q i x) : ∃ l : List It, l.length = n ∧ ∀ i x, l[i]? = some x → Q i x := by
  induction n with
  | zero => exact ⟨[], rfl, fun i x hx => by simp at hx⟩
  | succ n ih =>
    obtain ⟨l, hl, hq⟩ := ih fun i hi => h i (by omega)
    obtain ⟨x, hx⟩ := h n (by omega)
    refine ⟨l ++ [x], by simp [hl], fun i y hy => ?_⟩
    rcases Nat.lt_or_ge i n with hi | hi
    · rw [List.getElem?_append_left (by omega)] at hy
      exact hq i y hy
    · rw [List.getElem?_append_right (by omega)] at hy
      have : i = n := by
        rcases Nat.lt_or_ge (i - l.length) 1 with hh | hh
        · omega
        · rw [List.getElem?_eq_none (by simpa using hh)] at hy; simp at hy
      subst this
      rw [hl, Nat.sub_self] at hy
      simp at hy
      subst hy
      exact hx
end
end Go.Proofs.Ytdfkpjmljaanpaa
namespace Go.Proofs.Ytdfkpjmljaanpaa
open Go.RowKit
open Cn

theorem lt_of_heap' {w : World} {g : Nat} {o : Obj} (h : w.heap[g]? = some o) : g < w.heap.size := (Array.getElem?_eq_some_iff.1 h).1
theorem drop_at {l : List It} {i : Nat} {x : It} (h : l[i]? = some x) : It.pureAll (l.drop i) = x.pure :: It.pureAll (l.drop (i + 1)) := by
  obtain ⟨hi, rfl⟩ := List.getElem?_eq_some_iff.1 h
  rw [List.drop_eq_getElem_cons hi, It.pureAll]
end Go.Proofs.Ytdfkpjmljaanpaa
namespace Go.Proofs.Ytdfkpjmljaanpaa
open Go.RowKit
open Cn

/-- Does an item fit a letter? -/
def fitP (x : Pt) (c : Nat) : Bool := match x with
  | .mk k _ s _ => if c = 110 then decide (k = 1) else if c = 108 then decide (k = 3) else if c = 100 then decide (s.size = 32) && decide (k = 2) else if c = 116 then decide (k = 2) else false
def fitAll : List Pt → List UInt8 → Bool
  | [], [] => true
  | x :: r, c :: t => fitP x c.toNat && fitAll r t
  | _, _ => false
def shapeP (x : Pt) (t : List UInt8) : Bool := match x with
  | .mk k _ _ l => decide (k = 3) && fitAll l t
theorem fitAll_len : ∀ {l : List Pt} {t : List UInt8}, l.length ≠ t.length → fitAll l t = false
  | [], [], h => absurd rfl h
  | [], _ :: _, _ => rfl
  | _ :: _, [], _ => rfl
  | x :: r, c :: t, h => by rw [fitAll, fitAll_len (by simpa using h)]; simp
theorem drop_text {t : ByteArray} {i : Nat} (h : i < t.size) : t.data.toList.drop i = t[i] :: t.data.toList.drop (i + 1) := by
  rw [List.drop_eq_getElem_cons (by simpa using h)]; rfl
end Go.Proofs.Ytdfkpjmljaanpaa
namespace Go.Proofs.Ytdfkpjmljaanpaa
open Go.RowKit
open Cn

mutual
def sameP : Pt → Pt → Bool
  | .mk k n s l, .mk k' n' s' l' => decide (k = k') && decide (n = n') && decide (s.toList = s'.toList) && sameAll l l'
def sameAll : List Pt → List Pt → Bool
  | [], [] => true
  | [], _ :: _ => false
  | _ :: _, [] => false
  | x :: r, y :: m => sameP x y && sameAll r m
end
mutual
theorem sameP_refl : ∀ x, sameP x x = true
  | .mk k n s l => by simp [sameP, sameAll_refl l]
theorem sameAll_refl : ∀ l, sameAll l l = true
  | [] => rfl
  | x :: r => by simp [sameAll, sameP_refl x, sameAll_refl r]
end
theorem sameAll_len : ∀ {l m : List Pt}, l.length ≠ m.length → sameAll l m = false
  | [], [], h => absurd rfl h
  | [], _ :: _, _ => rfl
  | _ :: _, [], _ => rfl
  | x :: r, y :: m, h => by rw [sameAll, sameAll_len (by simpa using h)]; simp
end Go.Proofs.Ytdfkpjmljaanpaa
