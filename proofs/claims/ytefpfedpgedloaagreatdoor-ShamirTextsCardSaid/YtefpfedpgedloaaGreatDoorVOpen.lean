/- Opening arguments that are a How, a pair of numbers, a list of shares. -/
import Derived.Test.YtefpfedpgedloaaGreatDoorProg
import Derived.WalkKit
import Derived.Lib.Hide
import Derived.ProofKit
import Derived.OpenShut
import Derived.Deep.Slices
import Derived.Test.YtefpfedpgedloaaGreatDoorMV1
namespace Go.Proofs.YtefpfedpgedloaaGreatDoor
open Go.RowKit Go.ChangeShapes Go.WideShapes Go.ChangeAt

theorem okWide_array {P : Program} {w : World} {r : Reach} {base : Nat} {t e : TypeId} {n : Nat} {v : Value} (ht : P.underlying t = some (.array n e)) (h : Value.okWide P w r base t v) : ∃ cs, v = .agg cs ∧ cs.size = P.cellsOf t := by
  simp only [Value.okWide, ht] at h
  obtain ⟨cs, h1, h2, _⟩ := h
  exact ⟨cs, h1, h2⟩
theorem cellsOfShr : Tryz.prog.cellsOf 32 = 3 := by kernel_rfl
theorem cellsOfStr : Tryz.prog.cellsOf 9 = 1 := by kernel_rfl
theorem cellsOfInt : Tryz.prog.cellsOf 3 = 1 := by kernel_rfl
/-- A number that a word of 64 bits holds. -/
def I64 (n : Int) : Prop := -9223372036854775808 ≤ n ∧ n ≤ 9223372036854775807
structure Shr.Ok (s : Shr) : Prop where
  x : I64 s.x
  need : I64 s.need
  y : s.y.size ≤ maxLen
/-- How a secret is split. -/
structure Hw where
  need : Int
  n : Int
  d : ByteArray
def Hw.cells (h : Hw) : Array Value := #[.int .i64 h.need, .int .i64 h.n, .string h.d]
structure Hw.Ok (h : Hw) : Prop where
  need : I64 h.need
  n : I64 h.n
  d : h.d.size ≤ maxLen
/-- Two numbers. -/
structure Two where
  a : Int
  b : Int
def Two.cells (h : Two) : Array Value := #[.int .i64 h.a, .int .i64 h.b]
structure Two.Ok (h : Two) : Prop where
  a : I64 h.a
  b : I64 h.b
section
set_option maxRecDepth 100000
variable {H : Type} {enc : TypeId × Value → H} {W : World}
theorem open_share {fuel : Nat} {cs : List Value} {x : DataW H × List MemPlace}
    (h : DataW.trod enc Tryz.prog W 0 (fun _ => true) true fuel 32 cs = some x) : ∃ a : Shr, cs = a.cells.toList ∧ a.Ok := by
  obtain ⟨xs, m, hm, hx, hl, hlen, hf⟩ := DataW.trod_struct Tryz.underlying32 h
  rw [cellsOfShr] at hl
  match cs, hl, xs, hlen with
  | [c0, c1, c2], _, [y0, y1, y2], _ =>
    have f0 : DataW.trod enc Tryz.prog W 0 (fun _ => true) true m 3 (([c0, c1, c2].drop 0).take (Tryz.prog.cellsOf 3)) = some y0 := hf 0 _ rfl
    have f1 : DataW.trod enc Tryz.prog W 0 (fun _ => true) true m 3 (([c0, c1, c2].drop 1).take (Tryz.prog.cellsOf 3)) = some y1 := hf 1 _ rfl
    have f2 : DataW.trod enc Tryz.prog W 0 (fun _ => true) true m 9 (([c0, c1, c2].drop 2).take (Tryz.prog.cellsOf 9)) = some y2 := hf 2 _ rfl
    rw [cellsOfInt] at f0 f1
    rw [cellsOfStr] at f2
    obtain ⟨n0, e0, -, w0⟩ := DataW.trod_int Tryz.underlying3 (x := y0) f0
    obtain ⟨n1, e1, -, w1⟩ := DataW.trod_int Tryz.underlying3 (x := y1) f1
    obtain ⟨n2, e2, -, w2⟩ := DataW.trod_string Tryz.underlying9 (x := y2) f2
    simp at e0 e1 e2
    subst e0 e1 e2
    exact ⟨⟨n0, n1, n2⟩, rfl, bounds_i64 w0, bounds_i64 w1, w2⟩
theorem shares_of_all {n : Nat} {Q : Nat → Shr → Prop} (h : ∀ i, i < n → ∃ x, Q i x) : ∃ l : List Shr, l.length = n ∧ ∀ i x, l[i]? = some x → Q i x := by
  induction n with
  | zero => exact ⟨[], rfl, fun i x hx => by simp at hx⟩
  | succ n ih =>
    obtain ⟨l, hl, hq⟩ := ih fun i hi => h i (by omega)
    obtain ⟨x, hx⟩ := h n (by omega)
    refine ⟨l ++ [x], by simp [hl], fun i y hy => ?_⟩
    rcases Nat.lt_or_ge i n with hi | hi
    · rw [List.getElem?_append_left (by omega)] at hy
      exact hq i y hy
    · rw [List.getElem?_append_right (by omega)] at hy
      have : i = n := by
        rcases Nat.lt_or_ge (i - l.length) 1 with hh | hh
        · omega
        · rw [List.getElem?_eq_none (by simpa using hh)] at hy; simp at hy
      subst this
      rw [hl, Nat.sub_self] at hy
      simp at hy
      subst hy
      exact hx
/-- The shares of a slice that came in. -/
theorem shares_of {a0 : Option Addr} {len cap : Nat} {d : DataW H} {p : List MemPlace} {fuel : Nat}
    (hf : DataW.trod enc Tryz.prog W 0 (fun _ => true) true fuel 22 [.slice a0 len cap] = some (d, p)) (hlt : ∀ x ∈ p, x.block < W.heap.size) :
    ∃ l : List Shr, l.length = len ∧ len ≤ maxLen ∧ (∀ s ∈ l, s.Ok) ∧ SharesAt W a0 l := by
  rcases DataW.trod_slice Tryz.underlying22 hf with ⟨hc, hx3⟩ | ⟨a, len', cap', elems, rest, n', hn', hc, hx3, hb, hlc, hcm, hel, helem, -, -⟩
  · simp at hc
    obtain ⟨rfl, rfl, rfl⟩ := hc
    exact ⟨[], rfl, Nat.zero_le _, fun s hs => by simp at hs, fun j x hx => by simp at hx⟩
  · simp at hc
    obtain ⟨rfl, rfl, rfl⟩ := hc
    simp only [Prod.mk.injEq] at hx3
    obtain ⟨rfl, rfl⟩ := hx3
    have hq : ∀ i, i < len → ∃ x : Shr, W.cells? 0 (a.add (i * 3)) 3 = some x.cells.toList ∧ x.Ok := fun i hi => by
      have h1 := helem i hi
      rw [cellsOfShr, List.getElem?_eq_getElem (by omega), Option.bind_eq_some_iff] at h1
      obtain ⟨cs', h2, h3⟩ := h1
      obtain ⟨x, i1, i2⟩ := open_share h3
      exact ⟨x, by rw [h2, i1], i2⟩
    obtain ⟨l, hl1, hl2⟩ := shares_of_all hq
    refine ⟨l, hl1, by omega, fun s hs => by
      obtain ⟨j, hj⟩ := List.getElem?_of_mem hs
      exact (hl2 j s hj).2, fun j x hx => ?_⟩
    have hj : j < len := by rw [← hl1]; exact (List.getElem?_eq_some_iff.1 hx).1
    obtain ⟨b, off, spot⟩ := a
    have hcell : ∀ j x, l[j]? = some x → ∀ m, m < 3 → W.cell? ((⟨b, off, spot⟩ : Addr).add (j * 3) |>.add m) = x.cells.toList[m]? := fun j x hx m hm => by
      obtain ⟨-, -, h3⟩ := World.cells?_some (hl2 j x hx).1
      exact h3 m hm
    have hspot : spot = none := by
      have := hcell 0 (l[0]'(by omega)) (List.getElem?_eq_getElem (by omega)) 0 (by decide)
      simpa [Addr.add] using World.cell?_spot (this.trans (show _ = some (.int .i64 (l[0]'(by omega)).x) from rfl))
    subst hspot
    have hadd : ∀ (o x : Nat), (⟨b, o, none⟩ : Addr).add x = ⟨b, o + x, none⟩ := fun o x => by unfold Addr.add; split <;> simp_all
    have hc := fun k hk => hcell j x hx k hk
    simp only [hadd] at hc
    refine ⟨b, off, rfl, hlt (.cell b (off + 0)) ?_, by have := hc 0 (by decide); rw [Nat.add_zero] at this; exact this, hc 1 (by decide), hc 2 (by decide)⟩
    rw [cellsOfShr]
    simp only [List.mem_append]
    exact .inl (MemPlace.mem_row.2 ⟨0, by omega, rfl⟩)
end
end Go.Proofs.YtefpfedpgedloaaGreatDoor
