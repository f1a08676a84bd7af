/- Opening an argument that is an act of lockboxlaw12, or a list of them. -/
import Derived.Test.YtdmbombjkinboaaGreatProg
import Derived.WalkKit
import Derived.Lib.Hide
import Derived.ProofKit
import Derived.OpenShut
import Derived.Deep.Slices
import Derived.Test.YtdmbombjkinboaaGreatMB
namespace Go.Proofs.YtdmbombjkinboaaGreat
open Go.RowKit Go.ChangeShapes Go.WideShapes Go.ChangeAt

theorem cellsOfAct : Tryz.prog.cellsOf 37 = 7 := by kernel_rfl
theorem cellsOfCut : Tryz.prog.cellsOf 35 = 3 := by kernel_rfl
theorem cellsOfStr : Tryz.prog.cellsOf 9 = 1 := by kernel_rfl
theorem cellsOfInt : Tryz.prog.cellsOf 3 = 1 := by kernel_rfl
/-- A number that a word of 64 bits holds. -/
def I64 (n : Int) : Prop := -9223372036854775808 ≤ n ∧ n ≤ 9223372036854775807
/-- An act. -/
structure Deed where
  kind : Int
  x : Int
  n : Int
  s : ByteArray
  after : Int
  keep : Int
  torn : Int
def Deed.cells (a : Deed) : Array Value := #[.int .i64 a.kind, .int .i64 a.x, .int .i64 a.n, .string a.s, .int .i64 a.after, .int .i64 a.keep, .int .i64 a.torn]
structure Deed.Ok (a : Deed) : Prop where
  kind : I64 a.kind
  x : I64 a.x
  n : I64 a.n
  s : a.s.size ≤ maxLen
  after : I64 a.after
  keep : I64 a.keep
  torn : I64 a.torn
section
variable {H : Type} {enc : TypeId × Value → H} {W : World}
set_option maxRecDepth 100000 in
theorem open_cut {fuel : Nat} {cs : List Value} {x : DataW H × List MemPlace}
    (h : DataW.trod enc Tryz.prog W 0 (fun _ => true) true fuel 35 cs = some x) : ∃ a b c : Int, cs = [.int .i64 a, .int .i64 b, .int .i64 c] ∧ I64 a ∧ I64 b ∧ I64 c := by
  obtain ⟨xs, m, hm, hx, hl, hlen, hf⟩ := DataW.trod_struct Tryz.underlying35 h
  rw [cellsOfCut] at hl
  match cs, hl, xs, hlen with
  | [c0, c1, c2], _, [y0, y1, y2], _ =>
    have f0 : DataW.trod enc Tryz.prog W 0 (fun _ => true) true m 3 (([c0, c1, c2].drop 0).take (Tryz.prog.cellsOf 3)) = some y0 := hf 0 _ rfl
    have f1 : DataW.trod enc Tryz.prog W 0 (fun _ => true) true m 3 (([c0, c1, c2].drop 1).take (Tryz.prog.cellsOf 3)) = some y1 := hf 1 _ rfl
    have f2 : DataW.trod enc Tryz.prog W 0 (fun _ => true) true m 3 (([c0, c1, c2].drop 2).take (Tryz.prog.cellsOf 3)) = some y2 := hf 2 _ rfl
    rw [cellsOfInt] at f0 f1 f2
    obtain ⟨n0, e0, -, w0⟩ := DataW.trod_int Tryz.underlying3 f0
    obtain ⟨n1, e1, -, w1⟩ := DataW.trod_int Tryz.underlying3 f1
    obtain ⟨n2, e2, -, w2⟩ := DataW.trod_int Tryz.underlying3 f2
    simp at e0 e1 e2
    subst e0 e1 e2
    exact ⟨n0, n1, n2, rfl, bounds_i64 w0, bounds_i64 w1, bounds_i64 w2⟩
set_option maxRecDepth 100000 in
theorem open_act {fuel : Nat} {cs : List Value} {x : DataW H × List MemPlace}
    (h : DataW.trod enc Tryz.prog W 0 (fun _ => true) true fuel 37 cs = some x) : ∃ a : Deed, cs = a.cells.toList ∧ a.Ok := by
  obtain ⟨xs, m, hm, hx, hl, hlen, hf⟩ := DataW.trod_struct Tryz.underlying37 h
  rw [cellsOfAct] at hl
  match cs, hl, xs, hlen with
  | [c0, c1, c2, c3, c4, c5, c6], _, [y0, y1, y2, y3, y4], _ =>
    have f0 : DataW.trod enc Tryz.prog W 0 (fun _ => true) true m 3 (([c0, c1, c2, c3, c4, c5, c6].drop 0).take (Tryz.prog.cellsOf 3)) = some y0 := hf 0 _ rfl
    have f1 : DataW.trod enc Tryz.prog W 0 (fun _ => true) true m 3 (([c0, c1, c2, c3, c4, c5, c6].drop 1).take (Tryz.prog.cellsOf 3)) = some y1 := hf 1 _ rfl
    have f2 : DataW.trod enc Tryz.prog W 0 (fun _ => true) true m 3 (([c0, c1, c2, c3, c4, c5, c6].drop 2).take (Tryz.prog.cellsOf 3)) = some y2 := hf 2 _ rfl
    have f3 : DataW.trod enc Tryz.prog W 0 (fun _ => true) true m 9 (([c0, c1, c2, c3, c4, c5, c6].drop 3).take (Tryz.prog.cellsOf 9)) = some y3 := hf 3 _ rfl
    have f4 : DataW.trod enc Tryz.prog W 0 (fun _ => true) true m 35 (([c0, c1, c2, c3, c4, c5, c6].drop 4).take (Tryz.prog.cellsOf 35)) = some y4 := hf 4 _ rfl
    rw [cellsOfInt] at f0 f1 f2
    rw [cellsOfStr] at f3
    rw [cellsOfCut] at f4
    obtain ⟨n0, e0, -, w0⟩ := DataW.trod_int Tryz.underlying3 f0
    obtain ⟨n1, e1, -, w1⟩ := DataW.trod_int Tryz.underlying3 f1
    obtain ⟨n2, e2, -, w2⟩ := DataW.trod_int Tryz.underlying3 f2
    obtain ⟨s, e3, -, w3⟩ := DataW.trod_string Tryz.underlying9 f3
    obtain ⟨a, b, c, e4, w4, w5, w6⟩ := open_cut f4
    simp at e0 e1 e2 e3 e4
    obtain ⟨e4, e5, e6⟩ := e4
    subst e0 e1 e2 e3 e4 e5 e6
    exact ⟨⟨n0, n1, n2, s, a, b, c⟩, rfl, bounds_i64 w0, bounds_i64 w1, bounds_i64 w2, w3, w4, w5, w6⟩
/-- Acts in memory. -/
def ActsAt (w : World) (a0 : Option Addr) (l : List Deed) : Prop :=
  ∀ j a, l[j]? = some a → a.Ok ∧ ∃ b off, a0 = some ⟨b, off, none⟩ ∧ b < w.heap.size ∧ ∀ k, k < 7 → w.cell? ⟨b, off + j * 7 + k, none⟩ = a.cells[k]?
theorem ActsAt.below {w w' : World} {a0 : Option Addr} {l : List Deed} (h : ActsAt w a0 l) (hb : Below w.heap.size w w') : ActsAt w' a0 l := fun j a hj => by
  obtain ⟨h0, b, off, rfl, hbl, hc⟩ := h j a hj
  exact ⟨h0, b, off, rfl, Nat.lt_of_lt_of_le hbl hb.size, fun k hk => by rw [hb.cell (p := ⟨b, _, none⟩) hbl]; exact hc k hk⟩
theorem acts_of_all {n : Nat} {Q : Nat → Deed → Prop} (h : ∀ i, i < n → ∃ x, Q i x) : ∃ l : List Deed, l.length = n ∧ ∀ i x, l[i]? = some x → Q i x := by
  induction n with
  | zero => exact ⟨[], rfl, fun i x hx => by simp at hx⟩
  | succ n ih =>
    obtain ⟨l, hl, hq⟩ := ih fun i hi => h i (by omega)
    obtain ⟨x, hx⟩ := h n (by omega)
    refine ⟨l ++ [x], by simp [hl], fun i y hy => ?_⟩
    rcases Nat.lt_or_ge i n with hi | hi
    · rw [List.getElem?_append_left (by omega)] at hy
      exact hq i y hy
    · rw [List.getElem?_append_right (by omega)] at hy
      have : i = n := by
        rcases Nat.lt_or_ge (i - l.length) 1 with hh | hh
        · omega
        · rw [List.getElem?_eq_none (by simpa using hh)] at hy; simp at hy
      subst this
      rw [hl, Nat.sub_self] at hy
      simp at hy
      subst hy
      exact hx
set_option maxRecDepth 100000 in
/-- The acts of a slice that came in. -/
theorem acts_of {a0 : Option Addr} {len cap : Nat} {d : DataW H} {p : List MemPlace} {fuel : Nat}
    (hf : DataW.trod enc Tryz.prog W 0 (fun _ => true) true fuel 22 [.slice a0 len cap] = some (d, p)) (hlt : ∀ x ∈ p, x.block < W.heap.size) :
    ∃ l : List Deed, l.length = len ∧ len ≤ maxLen ∧ ActsAt W a0 l := by
  rcases DataW.trod_slice Tryz.underlying22 hf with ⟨hc, hx3⟩ | ⟨a, len', cap', elems, rest, n', hn', hc, hx3, hb, hlc, hcm, hel, helem, -, -⟩
  · simp at hc
    obtain ⟨rfl, rfl, rfl⟩ := hc
    exact ⟨[], rfl, Nat.zero_le _, fun j x hx => by simp at hx⟩
  · simp at hc
    obtain ⟨rfl, rfl, rfl⟩ := hc
    simp only [Prod.mk.injEq] at hx3
    obtain ⟨rfl, rfl⟩ := hx3
    have hq : ∀ i, i < len → ∃ x : Deed, W.cells? 0 (a.add (i * 7)) 7 = some x.cells.toList ∧ x.Ok := fun i hi => by
      have h1 := helem i hi
      rw [cellsOfAct, List.getElem?_eq_getElem (by omega), Option.bind_eq_some_iff] at h1
      obtain ⟨cs', h2, h3⟩ := h1
      obtain ⟨x, i1, i2⟩ := open_act h3
      exact ⟨x, by rw [h2, i1], i2⟩
    obtain ⟨l, hl1, hl2⟩ := acts_of_all hq
    refine ⟨l, hl1, by omega, fun j x hx => ?_⟩
    have hj : j < len := by rw [← hl1]; exact (List.getElem?_eq_some_iff.1 hx).1
    obtain ⟨b, off, spot⟩ := a
    have hcell : ∀ j x, l[j]? = some x → ∀ m, m < 7 → W.cell? ((⟨b, off, spot⟩ : Addr).add (j * 7) |>.add m) = x.cells.toList[m]? := fun j x hx m hm => by
      obtain ⟨-, -, h3⟩ := World.cells?_some (hl2 j x hx).1
      exact h3 m hm
    have hspot : spot = none := by
      have := hcell 0 (l[0]'(by omega)) (List.getElem?_eq_getElem (by omega)) 0 (by decide)
      simpa [Addr.add] using World.cell?_spot (this.trans (show _ = some (.int .i64 (l[0]'(by omega)).kind) from rfl))
    subst hspot
    have hadd : ∀ (o x : Nat), (⟨b, o, none⟩ : Addr).add x = ⟨b, o + x, none⟩ := fun o x => by unfold Addr.add; split <;> simp_all
    refine ⟨(hl2 j x hx).2, b, off, rfl, hlt (.cell b (off + 0)) ?_, fun k hk => ?_⟩
    · rw [cellsOfAct]
      simp only [List.mem_append]
      exact .inl (MemPlace.mem_row.2 ⟨0, by omega, rfl⟩)
    · have hc := hcell j x hx k hk
      simp only [hadd] at hc
      rw [hc, Array.getElem?_toList]
end
end Go.Proofs.YtdmbombjkinboaaGreat
