/- Opening an argument that is a leaf: its tags lie in memory. -/
import Derived.Test.YtgoimggfpagojaaProg
import Derived.WalkKit
import Derived.Lib.Hide
import Derived.ProofKit
import Derived.OpenShut
import Derived.Deep.Slices
import Derived.Test.YtgoimggfpagojaaLfMem
namespace Go.Proofs.Ytgoimggfpagojaa
open Go.RowKit Go.ChangeShapes Go.WideShapes Go.ChangeAt

theorem cellsOfPo : Try.prog.cellsOf 50 = 2 := by kernel_rfl
theorem cellsOfLf : Try.prog.cellsOf 24 = 5 := by kernel_rfl
theorem cellsOfStrF : Try.prog.cellsOf 9 = 1 := by kernel_rfl
theorem cellsOfIntF : Try.prog.cellsOf 3 = 1 := by kernel_rfl
theorem cellsOfPos : Try.prog.cellsOf 22 = 1 := by kernel_rfl
/-- A number that a word of 64 bits holds. -/
def W64 (n : Int) : Prop := -9223372036854775808 ≤ n ∧ n ≤ 9223372036854775807
structure Po.Ok (p : Po) : Prop where
  tag : p.tag.size ≤ maxLen
  prev : W64 p.prev
def Po.cs (p : Po) : List Value := [.string p.tag, .int .i64 p.prev]
/-- A leaf as an argument. -/
structure LfA where
  l : Lf
  a : Option Addr
  cap : Nat
def LfA.cs (x : LfA) : Array Value := lfCs x.l x.a x.cap
structure LfA.Ok (x : LfA) (w : World) : Prop where
  n : W64 x.l.n
  k : W64 x.l.k
  d : x.l.d.size ≤ maxLen
  ix : x.l.x.size ≤ maxLen
  po : ∀ p ∈ x.l.tags, p.Ok
  len : x.l.tags.length ≤ x.cap
  cap : x.cap ≤ maxLen
  tags : PoAt w x.a x.l.tags
theorem LfA.Ok.below {x : LfA} {w w' : World} (h : x.Ok w) (hb : Below w.heap.size w w') : x.Ok w' := ⟨h.n, h.k, h.d, h.ix, h.po, h.len, h.cap, h.tags.below hb⟩
section
set_option maxRecDepth 100000
variable {H : Type} {enc : TypeId × Value → H} {W : World}
theorem open_posting {fuel : Nat} {cs : List Value} {x : DataW H × List MemPlace}
    (h : DataW.trod enc Try.prog W 0 (fun _ => true) true fuel 50 cs = some x) : ∃ p : Po, cs = p.cs ∧ p.Ok := by
  obtain ⟨xs, m, hm, hx, hl, hlen, hf⟩ := DataW.trod_struct Try.underlying50 h
  rw [cellsOfPo] at hl
  match cs, hl, xs, hlen with
  | [c0, c1], _, [y0, y1], _ =>
    have f0 : DataW.trod enc Try.prog W 0 (fun _ => true) true m 9 (([c0, c1].drop 0).take (Try.prog.cellsOf 9)) = some y0 := hf 0 _ rfl
    have f1 : DataW.trod enc Try.prog W 0 (fun _ => true) true m 3 (([c0, c1].drop 1).take (Try.prog.cellsOf 3)) = some y1 := hf 1 _ rfl
    rw [cellsOfStrF] at f0
    rw [cellsOfIntF] at f1
    obtain ⟨n0, e0, -, w0⟩ := DataW.trod_string Try.underlying9 (x := y0) f0
    obtain ⟨n1, e1, -, w1⟩ := DataW.trod_int Try.underlying3 (x := y1) f1
    simp at e0 e1
    subst e0 e1
    exact ⟨⟨n0, n1⟩, rfl, w0, bounds_i64 w1⟩
theorem pos_of_all {n : Nat} {Q : Nat → Po → Prop} (h : ∀ i, i < n → ∃ x, Q i x) : ∃ l : List Po, l.length = n ∧ ∀ i x, l[i]? = some x → Q i x := by
  induction n with
  | zero => exact ⟨[], rfl, fun i x hx => by simp at hx⟩
  | succ n ih =>
    obtain ⟨l, hl, hq⟩ := ih fun i hi => h i (by omega)
    obtain ⟨x, hx⟩ := h n (by omega)
    refine ⟨l ++ [x], by simp [hl], fun i y hy => ?_⟩
    rcases Nat.lt_or_ge i n with hi | hi
    · rw [List.getElem?_append_left (by omega)] at hy
      exact hq i y hy
    · rw [List.getElem?_append_right (by omega)] at hy
      have : i = n := by
        rcases Nat.lt_or_ge (i - l.length) 1 with hh | hh
        · omega
        · rw [List.getElem?_eq_none (by simpa using hh)] at hy; simp at hy
      subst this
      rw [hl, Nat.sub_self] at hy
      simp at hy
      subst hy
      exact hx
/-- The tags of a slice that came in. -/
theorem pos_of {a0 : Option Addr} {len cap : Nat} {d : DataW H} {p : List MemPlace} {fuel : Nat}
    (hf : DataW.trod enc Try.prog W 0 (fun _ => true) true fuel 22 [.slice a0 len cap] = some (d, p)) (hlt : ∀ x ∈ p, x.block < W.heap.size) :
    ∃ l : List Po, l.length = len ∧ len ≤ cap ∧ cap ≤ maxLen ∧ (∀ s ∈ l, s.Ok) ∧ PoAt W a0 l := by
  rcases DataW.trod_slice Try.underlying22 hf with ⟨hc, hx3⟩ | ⟨a, len', cap', elems, rest, n', hn', hc, hx3, hb, hlc, hcm, hel, helem, -, -⟩
  · simp at hc
    obtain ⟨rfl, rfl, rfl⟩ := hc
    exact ⟨[], rfl, Nat.le_refl _, Nat.zero_le _, fun s hs => by simp at hs, fun j x hx => by simp at hx⟩
  · simp at hc
    obtain ⟨rfl, rfl, rfl⟩ := hc
    simp only [Prod.mk.injEq] at hx3
    obtain ⟨rfl, rfl⟩ := hx3
    have hq : ∀ i, i < len → ∃ x : Po, W.cells? 0 (a.add (i * 2)) 2 = some x.cs ∧ x.Ok := fun i hi => by
      have h1 := helem i hi
      rw [cellsOfPo, List.getElem?_eq_getElem (by omega), Option.bind_eq_some_iff] at h1
      obtain ⟨cs', h2, h3⟩ := h1
      obtain ⟨x, i1, i2⟩ := open_posting h3
      exact ⟨x, by rw [h2, i1], i2⟩
    obtain ⟨l, hl1, hl2⟩ := pos_of_all hq
    refine ⟨l, hl1, hlc, hcm, fun s hs => by
      obtain ⟨j, hj⟩ := List.getElem?_of_mem hs
      exact (hl2 j s hj).2, fun j x hx => ?_⟩
    have hj : j < len := by rw [← hl1]; exact (List.getElem?_eq_some_iff.1 hx).1
    obtain ⟨b, off, spot⟩ := a
    have hcell : ∀ j x, l[j]? = some x → ∀ m, m < 2 → W.cell? ((⟨b, off, spot⟩ : Addr).add (j * 2) |>.add m) = x.cs[m]? := fun j x hx m hm => by
      obtain ⟨-, -, h3⟩ := World.cells?_some (hl2 j x hx).1
      exact h3 m hm
    have hspot : spot = none := by
      have := hcell 0 (l[0]'(by omega)) (List.getElem?_eq_getElem (by omega)) 0 (by decide)
      simpa [Addr.add] using World.cell?_spot (this.trans (show _ = some (.string (l[0]'(by omega)).tag) from rfl))
    subst hspot
    have hadd : ∀ (o x : Nat), (⟨b, o, none⟩ : Addr).add x = ⟨b, o + x, none⟩ := fun o x => by unfold Addr.add; split <;> simp_all
    have hc := fun k hk => hcell j x hx k hk
    simp only [hadd] at hc
    refine ⟨b, off, rfl, hlt (.cell b (off + 0)) ?_, by have := hc 0 (by decide); rw [Nat.add_zero] at this; exact this, hc 1 (by decide)⟩
    rw [cellsOfPo]
    simp only [List.mem_append]
    exact .inl (MemPlace.mem_row.2 ⟨0, by omega, rfl⟩)
theorem open_leaf {fuel : Nat} {cs : List Value} {d : DataW H} {p : List MemPlace}
    (h : DataW.trod enc Try.prog W 0 (fun _ => true) true fuel 24 cs = some (d, p)) (hlt : ∀ x ∈ p, x.block < W.heap.size) : ∃ a : LfA, cs = a.cs.toList ∧ a.Ok W := by
  obtain ⟨xs, m, hm, hx, hl, hlen, hf⟩ := DataW.trod_struct Try.underlying24 h
  rw [cellsOfLf] at hl
  match cs, hl, xs, hlen with
  | [c0, c1, c2, c3, c4], _, [y0, y1, y2, y3, y4], _ =>
    have f0 : DataW.trod enc Try.prog W 0 (fun _ => true) true m 3 (([c0, c1, c2, c3, c4].drop 0).take (Try.prog.cellsOf 3)) = some y0 := hf 0 _ rfl
    have f1 : DataW.trod enc Try.prog W 0 (fun _ => true) true m 3 (([c0, c1, c2, c3, c4].drop 1).take (Try.prog.cellsOf 3)) = some y1 := hf 1 _ rfl
    have f2 : DataW.trod enc Try.prog W 0 (fun _ => true) true m 9 (([c0, c1, c2, c3, c4].drop 2).take (Try.prog.cellsOf 9)) = some y2 := hf 2 _ rfl
    have f3 : DataW.trod enc Try.prog W 0 (fun _ => true) true m 22 (([c0, c1, c2, c3, c4].drop 3).take (Try.prog.cellsOf 22)) = some y3 := hf 3 _ rfl
    have f4 : DataW.trod enc Try.prog W 0 (fun _ => true) true m 9 (([c0, c1, c2, c3, c4].drop 4).take (Try.prog.cellsOf 9)) = some y4 := hf 4 _ rfl
    rw [cellsOfIntF] at f0 f1
    rw [cellsOfStrF] at f2 f4
    rw [cellsOfPos] at f3
    obtain ⟨n0, e0, -, w0⟩ := DataW.trod_int Try.underlying3 (x := y0) f0
    obtain ⟨n1, e1, -, w1⟩ := DataW.trod_int Try.underlying3 (x := y1) f1
    obtain ⟨n2, e2, rfl, w2⟩ := DataW.trod_string Try.underlying9 (x := y2) f2
    obtain ⟨n4, e4, rfl, w4⟩ := DataW.trod_string Try.underlying9 (x := y4) f4
    obtain ⟨d3, p3⟩ := y3
    simp only [List.map_cons, List.map_nil, List.flatMap_cons, List.flatMap_nil, List.nil_append, List.append_nil, Prod.mk.injEq] at hx
    have hp3 : ∀ x ∈ p3, x.block < W.heap.size := fun x hx3 => hlt x (by rw [hx.2]; simp [hx3])
    have f3' : DataW.trod enc Try.prog W 0 (fun _ => true) true m 22 [c3] = some (d3, p3) := f3
    have hc3 : ∃ a3 len3 cap3, c3 = .slice a3 len3 cap3 := by
      rcases DataW.trod_slice Try.underlying22 f3' with ⟨h0, -⟩ | ⟨a, len, cap, elems, rest, n, _, h0, -⟩
      · simp at h0; exact ⟨none, 0, 0, h0⟩
      · simp at h0; exact ⟨_, _, _, h0⟩
    obtain ⟨a3, len3, cap3, rfl⟩ := hc3
    obtain ⟨ss, h1, h2, h3, h4, h5⟩ := pos_of f3' hp3
    subst h1
    simp at e0 e1 e2 e4
    subst e0 e1 e2 e4
    exact ⟨⟨⟨n0, n1, n2, ss, n4⟩, a3, cap3⟩, rfl, bounds_i64 w0, bounds_i64 w1, w2, w4, h4, h2, h3, h5⟩
end
end Go.Proofs.Ytgoimggfpagojaa
