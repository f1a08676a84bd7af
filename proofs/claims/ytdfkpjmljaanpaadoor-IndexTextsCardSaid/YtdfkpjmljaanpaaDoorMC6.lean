/- Merged by program: An item that comes in: it is a tree in memory. | size, Few. | fits, Shape: which items have a shape. | Same, by slices.EqualFunc: which items are the same. -/
import Derived.Test.YtdfkpjmljaanpaaDoorMC2
import Derived.ProofKit
import Derived.OpenShut
import Derived.Deep.Slices
import Derived.SizedLaws
import Derived.Test.YtdfkpjmljaanpaaDoorMC1
import Derived.Deep.RegionWith
import Derived.Deep.QuietTactic
import Derived.BigQuiet
namespace Go.Proofs.YtdfkpjmljaanpaaDoor
open Go.RowKit Go.ChangeShapes Go.WideShapes Go.ChangeAt
open Cn

mutual
/-- No text of an item is longer than what may come in. -/
def It.Small : It → Prop
  | .mk _ _ s _ _ l => s.size ≤ reachBytes ∧ It.SmallAll l
def It.SmallAll : List It → Prop
  | [] => True
  | x :: r => It.Small x ∧ It.SmallAll r
end
set_option maxRecDepth 100000 in
theorem It.small_mem : ∀ {l : List It}, It.SmallAll l → ∀ x ∈ l, x.Small
  | y :: r, h, x, hx => by
    rcases List.mem_cons.1 hx with rfl | hx
    · exact h.1
    · exact It.small_mem h.2 x hx
set_option maxRecDepth 100000 in
theorem It.small_of : ∀ {l : List It}, (∀ x ∈ l, x.Small) → It.SmallAll l
  | [], _ => trivial
  | y :: r, h => ⟨h y (by simp), It.small_of fun x hx => h x (by simp [hx])⟩
set_option maxRecDepth 100000 in
theorem cellsOf24 : Tryd.prog.cellsOf 134 = 4 := by kernel_rfl
set_option maxRecDepth 100000 in
theorem cellsOf3 : Tryd.prog.cellsOf 3 = 1 := by kernel_rfl
set_option maxRecDepth 100000 in
theorem cellsOf9 : Tryd.prog.cellsOf 9 = 1 := by kernel_rfl
set_option maxRecDepth 100000 in
theorem cellsOf22 : Tryd.prog.cellsOf 132 = 1 := by kernel_rfl
set_option maxRecDepth 100000 in
theorem weightsAll_mem {H : Type} (e : TypeId) : ∀ {l : List (DataW H)} {d : DataW H}, d ∈ l → (DataW.weightsAll Tryd.prog e l).all (· ≤ reachBytes) = true → (d.weights Tryd.prog e).all (· ≤ reachBytes) = true
  | y :: r, d, h, hw => by
    rw [DataW.weightsAll, List.all_append, Bool.and_eq_true] at hw
    rcases List.mem_cons.1 h with rfl | h
    · exact hw.1
    · exact weightsAll_mem e h hw.2
section
variable {H : Type} {enc : TypeId × Value → H} {W : World}
set_option maxRecDepth 100000 in
theorem list_of {n : Nat} {Q : Nat → It → Prop} (h : ∀ i, i < n → ∃ x, Q i x) : ∃ l : List It, l.length = n ∧ ∀ i x, l[i]? = some x → Q i x := by
  induction n with
  | zero => exact ⟨[], rfl, fun i x hx => by simp at hx⟩
  | succ n ih =>
    obtain ⟨l, hl, hq⟩ := ih fun i hi => h i (by omega)
    obtain ⟨x, hx⟩ := h n (by omega)
    refine ⟨l ++ [x], by simp [hl], fun i y hy => ?_⟩
    rcases Nat.lt_or_ge i n with hi | hi
    · rw [List.getElem?_append_left (by omega)] at hy
      exact hq i y hy
    · rw [List.getElem?_append_right (by omega)] at hy
      have : i = n := by
        rcases Nat.lt_or_ge (i - l.length) 1 with hh | hh
        · omega
        · rw [List.getElem?_eq_none (by simpa using hh)] at hy; simp at hy
      subst this
      rw [hl, Nat.sub_self] at hy
      simp at hy
      subst hy
      exact hx
set_option maxRecDepth 100000 in
theorem open_item : ∀ (fuel : Nat) (cs : List Value) (d : DataW H) (p : List MemPlace), DataW.trod enc Tryd.prog W 0 (fun _ => true) true fuel 134 cs = some (d, p) → (∀ x ∈ p, x.block < W.heap.size) →
    (d.weights Tryd.prog 134).all (· ≤ reachBytes) = true → ∃ it : It, cs = it.cells.toList ∧ it.In W (fun _ => True) ∧ it.Small := by
  intro fuel
  induction fuel using Nat.strongRecOn with
  | ind fuel ih =>
    intro cs d p h hp hw
    obtain ⟨xs, n, hn, hx, hl, hlen, hf⟩ := DataW.trod_struct Tryd.underlying134 h
    rw [cellsOf24] at hl
    match cs, hl, xs, hlen with
    | [c0, c1, c2, c3], _, [y0, y1, y2, y3], _ =>
      have f0 : DataW.trod enc Tryd.prog W 0 (fun _ => true) true n 3 (([c0, c1, c2, c3].drop 0).take (Tryd.prog.cellsOf 3)) = some y0 := hf 0 _ rfl
      have f1 : DataW.trod enc Tryd.prog W 0 (fun _ => true) true n 3 (([c0, c1, c2, c3].drop 1).take (Tryd.prog.cellsOf 3)) = some y1 := hf 1 _ rfl
      have f2 : DataW.trod enc Tryd.prog W 0 (fun _ => true) true n 9 (([c0, c1, c2, c3].drop 2).take (Tryd.prog.cellsOf 9)) = some y2 := hf 2 _ rfl
      have f3 : DataW.trod enc Tryd.prog W 0 (fun _ => true) true n 132 (([c0, c1, c2, c3].drop 3).take (Tryd.prog.cellsOf 132)) = some y3 := hf 3 _ rfl
      rw [cellsOf3] at f0 f1
      rw [cellsOf9] at f2
      rw [cellsOf22] at f3
      obtain ⟨k, e0, rfl, w0⟩ := DataW.trod_int Tryd.underlying3 f0
      obtain ⟨m, e1, rfl, w1⟩ := DataW.trod_int Tryd.underlying3 f1
      obtain ⟨s, e2, rfl, w2⟩ := DataW.trod_string Tryd.underlying9 f2
      simp at e0 e1 e2
      subst e0 e1 e2
      obtain ⟨d3, p3⟩ := y3
      simp only [List.map_cons, List.map_nil, List.flatMap_cons, List.flatMap_nil, List.nil_append, List.append_nil, Prod.mk.injEq] at hx
      obtain ⟨rfl, rfl⟩ := hx
      rw [DataW.weights, Tryd.underlying134] at hw
      simp only [List.map_cons, List.map_nil, DataW.weightsEach, DataW.weights, List.nil_append, List.append_nil, List.all_append, List.all_cons, List.all_nil, Bool.and_eq_true, decide_eq_true_eq, Bool.and_true] at hw
      obtain ⟨hs, hw3⟩ := hw
      rcases DataW.trod_slice Tryd.underlying132 f3 with ⟨hc, hx3⟩ | ⟨a, len, cap, elems, rest, n', hn', hc, hx3, hb, hlc, hcm, hel, helem, -, -⟩
      · simp at hc
        subst hc
        exact ⟨.mk k m s none 0 [], rfl, ⟨w2, ⟨Nat.zero_le _, fun h => absurd rfl h⟩, trivial⟩, ⟨by simpa using hs, trivial⟩⟩
      · simp at hc
        subst hc
        simp only [Prod.mk.injEq] at hx3
        obtain ⟨rfl, rfl⟩ := hx3
        rw [DataW.weights, Tryd.underlying132] at hw3
        simp only [List.all_cons, List.all_append, Bool.and_eq_true] at hw3
        obtain ⟨-, hw4, -⟩ := hw3
        have hq : ∀ i, i < len → ∃ x : It, W.cells? 0 (a.add (i * 4)) 4 = some x.cells.toList ∧ x.In W (fun _ => True) ∧ x.Small := fun i hi => by
          have h1 := helem i hi
          rw [cellsOf24, List.getElem?_eq_getElem (by omega), Option.bind_eq_some_iff] at h1
          obtain ⟨cs', h2, h3⟩ := h1
          have hmem : elems[i]'(by omega) ∈ elems := List.getElem_mem _
          obtain ⟨it, i1, i2, i3⟩ := ih n' (by omega) cs' (elems[i]'(by omega)).1 (elems[i]'(by omega)).2 h3 (fun x hx => hp x (by
            simp only [List.flatMap_append, List.mem_append, List.mem_flatMap]
            exact .inr (.inl ⟨_, hmem, hx⟩))) (weightsAll_mem _ (List.mem_map_of_mem hmem) hw4)
          exact ⟨it, by rw [h2, i1], i2, i3⟩
        obtain ⟨l, hl1, hl2⟩ := list_of hq
        refine ⟨.mk k m s (some a) cap l, by simp [It.cells, It.k, It.n, It.s, It.a, It.l, It.cap, hl1], ⟨w2, ⟨by omega, fun hne => ?_⟩, It.inAll_of fun x hx => ?_⟩, ⟨by simpa using hs, It.small_of fun x hx => ?_⟩⟩
        · obtain ⟨b, off, spot⟩ := a
          have hpos : 0 < len := by rw [← hl1]; exact List.length_pos_iff.2 hne
          have hcell : ∀ j x, l[j]? = some x → ∀ m, m < 4 → W.cell? ((⟨b, off, spot⟩ : Addr).add (j * 4) |>.add m) = x.cells.toList[m]? := fun j x hx m hm => by
            obtain ⟨-, -, h3⟩ := World.cells?_some (hl2 j x hx).1
            exact h3 m hm
          have hspot : spot = none := by
            have := hcell 0 (l[0]'(by omega)) (List.getElem?_eq_getElem (by omega)) 0 (by decide)
            simpa [Addr.add] using World.cell?_spot (this.trans (show _ = some (.int .i64 (l[0]'(by omega)).k) from rfl))
          subst hspot
          have hadd : ∀ (o x : Nat), (⟨b, o, none⟩ : Addr).add x = ⟨b, o + x, none⟩ := fun o x => by unfold Addr.add; split <;> simp_all
          refine ⟨b, off, rfl, hp (.cell b (off + 0)) ?_, trivial, fun j x hx => ?_⟩
          · rw [cellsOf24]
            simp only [List.mem_append]
            exact .inl (MemPlace.mem_row.2 ⟨0, by omega, rfl⟩)
          · have hc := hcell j x hx
            simp only [hadd] at hc
            exact ⟨hc 0 (by decide), hc 1 (by decide), hc 2 (by decide), hc 3 (by decide)⟩
        · obtain ⟨j, hj, e⟩ := List.mem_iff_getElem.1 hx
          exact (hl2 j x (by rw [List.getElem?_eq_getElem hj, e])).2.1
        · obtain ⟨j, hj, e⟩ := List.mem_iff_getElem.1 hx
          exact (hl2 j x (by rw [List.getElem?_eq_getElem hj, e])).2.2
end
end Go.Proofs.YtdfkpjmljaanpaaDoor
namespace Go.Proofs.YtdfkpjmljaanpaaDoor
open Go.RowKit
open Cn

theorem lt_of_heap' {w : World} {g : Nat} {o : Obj} (h : w.heap[g]? = some o) : g < w.heap.size := (Array.getElem?_eq_some_iff.1 h).1
theorem drop_at {l : List It} {i : Nat} {x : It} (h : l[i]? = some x) : It.pureAll (l.drop i) = x.pure :: It.pureAll (l.drop (i + 1)) := by
  obtain ⟨hi, rfl⟩ := List.getElem?_eq_some_iff.1 h
  rw [List.drop_eq_getElem_cons hi, It.pureAll]
end Go.Proofs.YtdfkpjmljaanpaaDoor
namespace Go.Proofs.YtdfkpjmljaanpaaDoor
open Go.RowKit
open Cn

/-- Does an item fit a letter? -/
def fitP (x : Pt) (c : Nat) : Bool := match x with
  | .mk k _ s _ => if c = 110 then decide (k = 1) else if c = 108 then decide (k = 3) else if c = 100 then decide (s.size = 32) && decide (k = 2) else if c = 116 then decide (k = 2) else false
def fitAll : List Pt → List UInt8 → Bool
  | [], [] => true
  | x :: r, c :: t => fitP x c.toNat && fitAll r t
  | _, _ => false
def shapeP (x : Pt) (t : List UInt8) : Bool := match x with
  | .mk k _ _ l => decide (k = 3) && fitAll l t
theorem fitAll_len : ∀ {l : List Pt} {t : List UInt8}, l.length ≠ t.length → fitAll l t = false
  | [], [], h => absurd rfl h
  | [], _ :: _, _ => rfl
  | _ :: _, [], _ => rfl
  | x :: r, c :: t, h => by rw [fitAll, fitAll_len (by simpa using h)]; simp
theorem drop_text {t : ByteArray} {i : Nat} (h : i < t.size) : t.data.toList.drop i = t[i] :: t.data.toList.drop (i + 1) := by
  rw [List.drop_eq_getElem_cons (by simpa using h)]; rfl
end Go.Proofs.YtdfkpjmljaanpaaDoor
namespace Go.Proofs.YtdfkpjmljaanpaaDoor
open Go.RowKit
open Cn

mutual
def sameP : Pt → Pt → Bool
  | .mk k n s l, .mk k' n' s' l' => decide (k = k') && decide (n = n') && decide (s.toList = s'.toList) && sameAll l l'
def sameAll : List Pt → List Pt → Bool
  | [], [] => true
  | [], _ :: _ => false
  | _ :: _, [] => false
  | x :: r, y :: m => sameP x y && sameAll r m
end
mutual
theorem sameP_refl : ∀ x, sameP x x = true
  | .mk k n s l => by simp [sameP, sameAll_refl l]
theorem sameAll_refl : ∀ l, sameAll l l = true
  | [] => rfl
  | x :: r => by simp [sameAll, sameP_refl x, sameAll_refl r]
end
theorem sameAll_len : ∀ {l m : List Pt}, l.length ≠ m.length → sameAll l m = false
  | [], [], h => absurd rfl h
  | [], _ :: _, _ => rfl
  | _ :: _, [], _ => rfl
  | x :: r, y :: m, h => by rw [sameAll, sameAll_len (by simpa using h)]; simp
end Go.Proofs.YtdfkpjmljaanpaaDoor
