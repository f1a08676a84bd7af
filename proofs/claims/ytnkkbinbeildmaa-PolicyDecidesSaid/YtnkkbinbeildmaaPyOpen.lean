/- Opening an argument that is a request, a rule, an act, two numbers, or a list of rules or acts. -/
import Derived.Test.YtnkkbinbeildmaaProg
import Derived.WalkKit
import Derived.Lib.Hide
import Derived.ProofKit
import Derived.OpenShut
import Derived.Deep.Slices
import Derived.Test.YtnkkbinbeildmaaPyMem
namespace Go.Proofs.Ytnkkbinbeildmaa
open Go.RowKit Go.ChangeShapes Go.WideShapes Go.ChangeAt

theorem cells_of_req : Try.prog.cellsOf 24 = 5 := by kernel_rfl
theorem cells_of_rule : Try.prog.cellsOf 46 = 7 := by kernel_rfl
theorem cells_of_act21 : Try.prog.cellsOf 57 = 9 := by kernel_rfl
theorem cells_of_str : Try.prog.cellsOf 9 = 1 := by kernel_rfl
theorem cells_of_int : Try.prog.cellsOf 3 = 1 := by kernel_rfl
theorem cells_of_bool : Try.prog.cellsOf 4 = 1 := by kernel_rfl
section
variable {H : Type} {enc : TypeId × Value → H} {W : World}
set_option maxRecDepth 100000 in
theorem open_req {fuel : Nat} {cs : List Value} {x : DataW H × List MemPlace}
    (h : DataW.trod enc Try.prog W 0 (fun _ => true) true fuel 24 cs = some x) : ∃ q : Py.Q, cs = (qCs q).toList ∧ q.Ok := by
  obtain ⟨xs, m, hm, hx, hl, hlen, hf⟩ := DataW.trod_struct Try.underlying24 h
  rw [cells_of_req] at hl
  match cs, hl, xs, hlen with
  | [c0, c1, c2, c3, c4], _, [y0, y1, y2, y3, y4], _ =>
    have f0 : DataW.trod enc Try.prog W 0 (fun _ => true) true m 3 (([c0, c1, c2, c3, c4].drop 0).take (Try.prog.cellsOf 3)) = some y0 := hf 0 _ rfl
    have f1 : DataW.trod enc Try.prog W 0 (fun _ => true) true m 9 (([c0, c1, c2, c3, c4].drop 1).take (Try.prog.cellsOf 9)) = some y1 := hf 1 _ rfl
    have f2 : DataW.trod enc Try.prog W 0 (fun _ => true) true m 3 (([c0, c1, c2, c3, c4].drop 2).take (Try.prog.cellsOf 3)) = some y2 := hf 2 _ rfl
    have f3 : DataW.trod enc Try.prog W 0 (fun _ => true) true m 9 (([c0, c1, c2, c3, c4].drop 3).take (Try.prog.cellsOf 9)) = some y3 := hf 3 _ rfl
    have f4 : DataW.trod enc Try.prog W 0 (fun _ => true) true m 3 (([c0, c1, c2, c3, c4].drop 4).take (Try.prog.cellsOf 3)) = some y4 := hf 4 _ rfl
    rw [cells_of_int] at f0 f2 f4
    rw [cells_of_str] at f1 f3
    obtain ⟨n0, e0, -, w0⟩ := DataW.trod_int Try.underlying3 f0
    obtain ⟨s1, e1, -, w1⟩ := DataW.trod_string Try.underlying9 f1
    obtain ⟨n2, e2, -, w2⟩ := DataW.trod_int Try.underlying3 f2
    obtain ⟨s3, e3, -, w3⟩ := DataW.trod_string Try.underlying9 f3
    obtain ⟨n4, e4, -, w4⟩ := DataW.trod_int Try.underlying3 f4
    simp at e0 e1 e2 e3 e4
    subst e0 e1 e2 e3 e4
    exact ⟨⟨n0, s1, n2, s3, n4⟩, rfl, bounds_i64 w0, w1, bounds_i64 w2, w3, bounds_i64 w4⟩
set_option maxRecDepth 100000 in
theorem open_rule {fuel : Nat} {cs : List Value} {x : DataW H × List MemPlace}
    (h : DataW.trod enc Try.prog W 0 (fun _ => true) true fuel 46 cs = some x) : ∃ r : Py.R, cs = (ruCs r).toList ∧ r.Ok := by
  obtain ⟨xs, m, hm, hx, hl, hlen, hf⟩ := DataW.trod_struct Try.underlying46 h
  rw [cells_of_rule] at hl
  match cs, hl, xs, hlen with
  | [c0, c1, c2, c3, c4, c5, c6], _, [y0, y1, y2, y3, y4, y5, y6], _ =>
    have f0 : DataW.trod enc Try.prog W 0 (fun _ => true) true m 9 (([c0, c1, c2, c3, c4, c5, c6].drop 0).take (Try.prog.cellsOf 9)) = some y0 := hf 0 _ rfl
    have f1 : DataW.trod enc Try.prog W 0 (fun _ => true) true m 9 (([c0, c1, c2, c3, c4, c5, c6].drop 1).take (Try.prog.cellsOf 9)) = some y1 := hf 1 _ rfl
    have f2 : DataW.trod enc Try.prog W 0 (fun _ => true) true m 3 (([c0, c1, c2, c3, c4, c5, c6].drop 2).take (Try.prog.cellsOf 3)) = some y2 := hf 2 _ rfl
    have f3 : DataW.trod enc Try.prog W 0 (fun _ => true) true m 3 (([c0, c1, c2, c3, c4, c5, c6].drop 3).take (Try.prog.cellsOf 3)) = some y3 := hf 3 _ rfl
    have f4 : DataW.trod enc Try.prog W 0 (fun _ => true) true m 3 (([c0, c1, c2, c3, c4, c5, c6].drop 4).take (Try.prog.cellsOf 3)) = some y4 := hf 4 _ rfl
    have f5 : DataW.trod enc Try.prog W 0 (fun _ => true) true m 3 (([c0, c1, c2, c3, c4, c5, c6].drop 5).take (Try.prog.cellsOf 3)) = some y5 := hf 5 _ rfl
    have f6 : DataW.trod enc Try.prog W 0 (fun _ => true) true m 4 (([c0, c1, c2, c3, c4, c5, c6].drop 6).take (Try.prog.cellsOf 4)) = some y6 := hf 6 _ rfl
    rw [cells_of_str] at f0 f1
    rw [cells_of_int] at f2 f3 f4 f5
    rw [cells_of_bool] at f6
    obtain ⟨s0, e0, -, w0⟩ := DataW.trod_string Try.underlying9 f0
    obtain ⟨s1, e1, -, w1⟩ := DataW.trod_string Try.underlying9 f1
    obtain ⟨n2, e2, -, w2⟩ := DataW.trod_int Try.underlying3 f2
    obtain ⟨n3, e3, -, w3⟩ := DataW.trod_int Try.underlying3 f3
    obtain ⟨n4, e4, -, w4⟩ := DataW.trod_int Try.underlying3 f4
    obtain ⟨n5, e5, -, w5⟩ := DataW.trod_int Try.underlying3 f5
    obtain ⟨b6, e6, -⟩ := DataW.trod_bool Try.underlying4 f6
    simp at e0 e1 e2 e3 e4 e5 e6
    subst e0 e1 e2 e3 e4 e5 e6
    exact ⟨⟨s0, s1, n2, n3, n4, n5, b6⟩, rfl, w0, w1, bounds_i64 w2, bounds_i64 w3, bounds_i64 w4, bounds_i64 w5⟩
set_option maxRecDepth 100000 in
theorem open_act21 {fuel : Nat} {cs : List Value} {x : DataW H × List MemPlace}
    (h : DataW.trod enc Try.prog W 0 (fun _ => true) true fuel 57 cs = some x) : ∃ a : Bk.Act, cs = (acCs a).toList ∧ a.Ok := by
  obtain ⟨xs, m, hm, hx, hl, hlen, hf⟩ := DataW.trod_struct Try.underlying57 h
  rw [cells_of_act21] at hl
  match cs, hl, xs, hlen with
  | [c0, c1, c2, c3, c4, c5, c6, c7, c8], _, [y0, y1, y2, y3, y4], _ =>
    have f0 : DataW.trod enc Try.prog W 0 (fun _ => true) true m 3 (([c0, c1, c2, c3, c4, c5, c6, c7, c8].drop 0).take (Try.prog.cellsOf 3)) = some y0 := hf 0 _ rfl
    have f1 : DataW.trod enc Try.prog W 0 (fun _ => true) true m 3 (([c0, c1, c2, c3, c4, c5, c6, c7, c8].drop 1).take (Try.prog.cellsOf 3)) = some y1 := hf 1 _ rfl
    have f2 : DataW.trod enc Try.prog W 0 (fun _ => true) true m 3 (([c0, c1, c2, c3, c4, c5, c6, c7, c8].drop 2).take (Try.prog.cellsOf 3)) = some y2 := hf 2 _ rfl
    have f3 : DataW.trod enc Try.prog W 0 (fun _ => true) true m 24 (([c0, c1, c2, c3, c4, c5, c6, c7, c8].drop 3).take (Try.prog.cellsOf 24)) = some y3 := hf 3 _ rfl
    have f4 : DataW.trod enc Try.prog W 0 (fun _ => true) true m 9 (([c0, c1, c2, c3, c4, c5, c6, c7, c8].drop 8).take (Try.prog.cellsOf 9)) = some y4 := hf 4 _ rfl
    rw [cells_of_int] at f0 f1 f2
    rw [cells_of_req] at f3
    rw [cells_of_str] at f4
    obtain ⟨n0, e0, -, w0⟩ := DataW.trod_int Try.underlying3 f0
    obtain ⟨n1, e1, -, w1⟩ := DataW.trod_int Try.underlying3 f1
    obtain ⟨n2, e2, -, w2⟩ := DataW.trod_int Try.underlying3 f2
    obtain ⟨q, e3, w3⟩ := open_req f3
    obtain ⟨s, e4, -, w4⟩ := DataW.trod_string Try.underlying9 f4
    simp [qCs] at e0 e1 e2 e3 e4
    obtain ⟨e3, e5, e6, e7, e8⟩ := e3
    subst e0 e1 e2 e3 e4 e5 e6 e7 e8
    exact ⟨⟨n0, q, n1, s, n2⟩, rfl, bounds_i64 w0, bounds_i64 w1, bounds_i64 w2, w3, w4⟩
/-- Two numbers. -/
structure Two21 where
  x : Int
  y : Int
def Two21.cs (a : Two21) : Array Value := #[.int .i64 a.x, .int .i64 a.y]
structure Two21.Ok (a : Two21) : Prop where
  x : J64 a.x
  y : J64 a.y
theorem cells_of_two : Try.prog.cellsOf 25 = 2 := by kernel_rfl
set_option maxRecDepth 100000 in
theorem open_two21 {fuel : Nat} {cs : List Value} {x : DataW H × List MemPlace}
    (h : DataW.trod enc Try.prog W 0 (fun _ => true) true fuel 25 cs = some x) : ∃ a : Two21, cs = a.cs.toList ∧ a.Ok := by
  obtain ⟨xs, m, hm, hx, hl, hlen, hf⟩ := DataW.trod_array Try.underlying25 h
  rw [cells_of_two] at hl
  match cs, hl, xs, hlen with
  | [c0, c1], _, [y0, y1], _ =>
    have f0 := hf 0 (by decide)
    have f1 := hf 1 (by decide)
    rw [cells_of_int] at f0 f1
    obtain ⟨n0, e0, -, w0⟩ := DataW.trod_int Try.underlying3 (x := y0) f0
    obtain ⟨n1, e1, -, w1⟩ := DataW.trod_int Try.underlying3 (x := y1) f1
    simp at e0 e1
    subst e0 e1
    exact ⟨⟨n0, n1⟩, rfl, bounds_i64 w0, bounds_i64 w1⟩
theorem recs_all {α : Type} {n : Nat} {Q : Nat → α → Prop} (h : ∀ i, i < n → ∃ x, Q i x) : ∃ l : List α, l.length = n ∧ ∀ i x, l[i]? = some x → Q i x := by
  induction n with
  | zero => exact ⟨[], rfl, fun i x hx => by simp at hx⟩
  | succ n ih =>
    obtain ⟨l, hl, hq⟩ := ih fun i hi => h i (by omega)
    obtain ⟨x, hx⟩ := h n (by omega)
    refine ⟨l ++ [x], by simp [hl], fun i y hy => ?_⟩
    rcases Nat.lt_or_ge i n with hi | hi
    · rw [List.getElem?_append_left (by omega)] at hy
      exact hq i y hy
    · rw [List.getElem?_append_right (by omega)] at hy
      have : i = n := by
        rcases Nat.lt_or_ge (i - l.length) 1 with hh | hh
        · omega
        · rw [List.getElem?_eq_none (by simpa using hh)] at hy; simp at hy
      subst this
      rw [hl, Nat.sub_self] at hy
      simp at hy
      subst hy
      exact hx
set_option maxRecDepth 100000 in
/-- The records of a slice that came in. -/
theorem recs_of {α : Type} {T TS : TypeId} {k : Nat} {c : α → Array Value} {Ok : α → Prop} (hu : Try.prog.underlying TS = some (.slice T)) (hk : Try.prog.cellsOf T = k) (hk0 : 0 < k) (hc : ∀ x, (c x).size = k)
    (hopen : ∀ (fuel : Nat) (cs : List Value) (x : DataW H × List MemPlace), DataW.trod enc Try.prog W 0 (fun _ => true) true fuel T cs = some x → ∃ a, cs = (c a).toList ∧ Ok a)
    {a0 : Option Addr} {len cap : Nat} {d : DataW H} {p : List MemPlace} {fuel : Nat}
    (hf : DataW.trod enc Try.prog W 0 (fun _ => true) true fuel TS [.slice a0 len cap] = some (d, p)) (hlt : ∀ x ∈ p, x.block < W.heap.size) :
    ∃ l : List α, l.length = len ∧ len ≤ maxLen ∧ RecsAt k c W a0 l ∧ ∀ x ∈ l, Ok x := by
  rcases DataW.trod_slice hu hf with ⟨hcc, hx3⟩ | ⟨a, len', cap', elems, rest, n', hn', hcc, hx3, hb, hlc, hcm, hel, helem, -, -⟩
  · simp at hcc
    obtain ⟨rfl, rfl, rfl⟩ := hcc
    exact ⟨[], rfl, Nat.zero_le _, fun j x hx => by simp at hx, fun x hx => by cases hx⟩
  · simp at hcc
    obtain ⟨rfl, rfl, rfl⟩ := hcc
    simp only [Prod.mk.injEq] at hx3
    obtain ⟨rfl, rfl⟩ := hx3
    have hq : ∀ i, i < len → ∃ x : α, W.cells? 0 (a.add (i * k)) k = some (c x).toList ∧ Ok x := fun i hi => by
      have h1 := helem i hi
      rw [hk, List.getElem?_eq_getElem (by omega), Option.bind_eq_some_iff] at h1
      obtain ⟨cs', h2, h3⟩ := h1
      obtain ⟨x, i1, i2⟩ := hopen _ _ _ h3
      exact ⟨x, by rw [h2, i1], i2⟩
    obtain ⟨l, hl1, hl2⟩ := recs_all hq
    refine ⟨l, hl1, by omega, fun j x hx => ?_, fun x hx => ?_⟩
    rotate_left
    · obtain ⟨i, hi⟩ := List.mem_iff_getElem?.1 hx
      exact (hl2 i x hi).2
    have hj : j < len := by rw [← hl1]; exact (List.getElem?_eq_some_iff.1 hx).1
    obtain ⟨b, off, spot⟩ := a
    have hcell : ∀ j x, l[j]? = some x → ∀ m, m < k → W.cell? ((⟨b, off, spot⟩ : Addr).add (j * k) |>.add m) = (c x).toList[m]? := fun j x hx m hm => by
      obtain ⟨-, -, h3⟩ := World.cells?_some (hl2 j x hx).1
      exact h3 m hm
    have hspot : spot = none := by
      have h0 := hcell 0 (l[0]'(by omega)) (List.getElem?_eq_getElem (by omega)) 0 hk0
      rw [List.getElem?_eq_getElem (by rw [Array.length_toList, hc]; exact hk0)] at h0
      simpa [Addr.add] using World.cell?_spot h0
    subst hspot
    have hadd : ∀ (o x : Nat), (⟨b, o, none⟩ : Addr).add x = ⟨b, o + x, none⟩ := fun o x => by unfold Addr.add; split <;> simp_all
    refine ⟨b, off, rfl, hlt (.cell b (off + 0)) ?_, fun m hm => ?_⟩
    · rw [hk]
      simp only [List.mem_append]
      refine .inl (MemPlace.mem_row.2 ⟨0, ?_, rfl⟩)
      exact Nat.mul_pos (by omega) hk0
    · have hc2 := hcell j x hx m hm
      simp only [hadd] at hc2
      rw [hc2, Array.getElem?_toList]
set_option maxRecDepth 100000 in
theorem rules_of {a0 : Option Addr} {len cap : Nat} {d : DataW H} {p : List MemPlace} {fuel : Nat}
    (hf : DataW.trod enc Try.prog W 0 (fun _ => true) true fuel 22 [.slice a0 len cap] = some (d, p)) (hlt : ∀ x ∈ p, x.block < W.heap.size) :
    ∃ l : List Py.R, l.length = len ∧ len ≤ maxLen ∧ RecsAt 7 ruCs W a0 l ∧ ∀ x ∈ l, x.Ok :=
  recs_of Try.underlying22 cells_of_rule (by decide) (fun _ => rfl) (fun _ _ _ h => open_rule h) hf hlt
set_option maxRecDepth 100000 in
theorem acts21_of {a0 : Option Addr} {len cap : Nat} {d : DataW H} {p : List MemPlace} {fuel : Nat}
    (hf : DataW.trod enc Try.prog W 0 (fun _ => true) true fuel 51 [.slice a0 len cap] = some (d, p)) (hlt : ∀ x ∈ p, x.block < W.heap.size) :
    ∃ l : List Bk.Act, l.length = len ∧ len ≤ maxLen ∧ RecsAt 9 acCs W a0 l ∧ ∀ x ∈ l, x.Ok :=
  recs_of Try.underlying51 cells_of_act21 (by decide) (fun _ => rfl) (fun _ _ _ h => open_act21 h) hf hlt
end
end Go.Proofs.Ytnkkbinbeildmaa
