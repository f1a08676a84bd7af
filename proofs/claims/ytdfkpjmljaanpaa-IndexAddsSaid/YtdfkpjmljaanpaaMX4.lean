/- Merged by program: The reference of index: Text, Top (lockboxref18). | The reference of index: Leaves, Find (lockboxref18). | The reference of index: Root, Same (lockboxref18). -/
import Derived.Test.YtdfkpjmljaanpaaMX1
import Derived.Test.YtdfkpjmljaanpaaItF
import Derived.Test.YtdfkpjmljaanpaaMX3
import Derived.Test.YtdfkpjmljaanpaaCRefWrite
import Derived.Test.YtdfkpjmljaanpaaMT2
import Derived.Laws.StructEq
import Derived.BigQuiet
import Derived.Deep.QuietTactic
namespace Go.Proofs.Ytdfkpjmljaanpaa
open Go.RowKit
open Cn

/-- A row's cells. -/
def rwCs (r : Rw) : Array Value := #[.string r.tag, .int .i64 r.cnt, .int .i64 r.last]
theorem rwCs_size (r : Rw) : (rwCs r).size = 3 := rfl
theorem rwCs_one (r : Rw) : ∀ u ∈ (rwCs r).toList, u.oneCell' = true := fun u hu => by
  unfold rwCs at hu
  simp only [List.mem_cons, List.not_mem_nil, or_false] at hu
  rcases hu with rfl | rfl | rfl <;> rfl
theorem rrow_rec : RecT 62 27 3 32 (.agg #[.string ⟨#[]⟩, .int .i64 0, .int .i64 0]) := ⟨Try.underlying27, by kernel_rfl, rfl, by decide⟩
/-- The rows of a slice: where they lie. -/
def RwAt (w : World) (a0 : Option Addr) (l : List Rw) : Prop :=
  ∀ j r, l[j]? = some r → ∃ b off, a0 = some ⟨b, off, none⟩ ∧ b < w.heap.size ∧ w.cell? ⟨b, off + j * 3, none⟩ = some (.string r.tag) ∧ w.cell? ⟨b, off + j * 3 + 1, none⟩ = some (.int .i64 r.cnt) ∧ w.cell? ⟨b, off + j * 3 + 2, none⟩ = some (.int .i64 r.last)
theorem RwAt.below {w w' : World} {a0 : Option Addr} {l : List Rw} (h : RwAt w a0 l) (hb : Below w.heap.size w w') : RwAt w' a0 l := fun j r hj => by
  obtain ⟨b, off, rfl, hbl, h1, h2, h3⟩ := h j r hj
  exact ⟨b, off, rfl, Nat.lt_of_lt_of_le hbl hb.size, by rw [hb.cell (p := ⟨b, _, none⟩) hbl]; exact h1, by rw [hb.cell (p := ⟨b, _, none⟩) hbl]; exact h2, by rw [hb.cell (p := ⟨b, _, none⟩) hbl]; exact h3⟩
theorem RwAt.nil (w : World) (a0 : Option Addr) : RwAt w a0 [] := fun j r hj => by simp at hj
theorem rwAt_own {T : TypeId} {B : Nat} {w : World} {a : Option Addr} {cap : Nat} {l : List Rw} (h : OwnR T 3 rwCs B w a cap l) : RwAt w a l := fun j r hj => by
  obtain ⟨g, rfl, -, hl, hc⟩ := h.at rwCs_size hj
  refine ⟨g, 0, rfl, hl, ?_, ?_, ?_⟩
  · have := hc 0 (by decide)
    simpa [rwCs] using this
  · have := hc 1 (by decide)
    simpa [rwCs] using this
  · have := hc 2 (by decide)
    simpa [rwCs] using this
theorem RwAt.cells {w : World} {b off : Nat} {l : List Rw} (h : RwAt w (some ⟨b, off, none⟩) l) {j : Nat} {r : Rw} (hj : l[j]? = some r) : w.cell? ⟨b, off + j * 3, none⟩ = some (.string r.tag) ∧ w.cell? ⟨b, off + j * 3 + 1, none⟩ = some (.int .i64 r.cnt) ∧ w.cell? ⟨b, off + j * 3 + 2, none⟩ = some (.int .i64 r.last) := by
  obtain ⟨b', off', e, -, h1, h2, h3⟩ := h j r hj
  injection e with e
  injection e with e1 e2
  subst e1 e2
  exact ⟨h1, h2, h3⟩
theorem row3 {W : World} {g : Nat} {r : Rw} {t : TypeId} (e : W.heap[g]? = some (.cells (rwCs r) t (0, 0))) : W.cell? ⟨g, 0, none⟩ = some (.string r.tag) ∧ W.cell? ⟨g, 1, none⟩ = some (.int .i64 r.cnt) ∧ W.cell? ⟨g, 2, none⟩ = some (.int .i64 r.last) := by
  refine ⟨?_, ?_, ?_⟩ <;> (rw [cell_of_row _ _ _ _ _ _ e]; rfl)
end Go.Proofs.Ytdfkpjmljaanpaa
namespace Go.Proofs.Ytdfkpjmljaanpaa
open Go.RowKit
open Cn

theorem plc_drop {rs : List Rw} {i : Nat} {r : Rw} (h : rs[i]? = some r) (t : ByteArray) : Ix.plc (rs.drop i) t i = if r.tag = t then (i : Int) else Ix.plc (rs.drop (i + 1)) t (i + 1) := by
  obtain ⟨hi, rfl⟩ := List.getElem?_eq_some_iff.1 h
  rw [List.drop_eq_getElem_cons hi, Ix.plc]
end Go.Proofs.Ytdfkpjmljaanpaa
namespace Go.Proofs.Ytdfkpjmljaanpaa
open Go.RowKit
open Cn

theorem rbelow_call {a w w' : World} {B : Nat} (h : Below B a w) (hb : Below w.heap.size w w') (hB : B ≤ w.heap.size) : Below B a w' := h.trans (hb.mono hB)
/-- The same rows? -/
def eqRw (x y : Rw) : Bool := x.tag.toList == y.tag.toList && x.cnt == y.cnt && x.last == y.last
theorem eqRw_iff {x y : Rw} : eqRw x y = true ↔ x = y := by
  unfold eqRw
  simp only [Bool.and_eq_true, beq_iff_eq]
  constructor
  · rintro ⟨⟨h1, h2⟩, h3⟩
    obtain ⟨a, b, c⟩ := x
    obtain ⟨d, e, f⟩ := y
    simp only at h1 h2 h3
    rw [Wd.toList_eq h1, h2, h3]
  · rintro rfl
    exact ⟨⟨rfl, rfl⟩, rfl⟩
theorem equalRw (x y : Rw) (w : World) : (Op.equalIn 10000 62 (.agg #[.string x.tag, .int .i64 x.cnt, .int .i64 x.last]) (.agg #[.string y.tag, .int .i64 y.cnt, .int .i64 y.last])).run Try.prog w = .ok (eqRw x y) w := by
  have us0 := Try.underlying9
  have as0 := Try.isAgg9
  have zs0 := Try.sizeOf9
  have u3 := Try.underlying3
  have a3 := Try.isAgg3
  have z3 := Try.sizeOf3
  have hS : Try.prog.underlying 62 = some (.struct (Try.prog.fieldsOf 62)) := by kernel_rfl
  have hp : Try.prog.stoodInHeld 62 = false := by kernel_rfl
  rw [show (10000 : Nat) = 9999 + 1 from rfl, run_equalIn_agg w 9999 62 _ _ hS hp]
  simp only [Program.fieldsOf, Try.underlying62]
  go_simp
  unfold eqRw
  cases h1 : x.tag.toList == y.tag.toList <;> cases h2 : x.cnt == y.cnt <;> cases h3 : x.last == y.last <;> simp_all
def eqB : List Rw → List Rw → Bool
  | [], [] => true
  | x :: a, y :: b => eqRw x y && eqB a b
  | _, _ => false
theorem eqB_iff : ∀ {a b : List Rw}, eqB a b = true ↔ a = b
  | [], [] => by simp [eqB]
  | [], _ :: _ => by simp [eqB]
  | _ :: _, [] => by simp [eqB]
  | x :: a, y :: b => by rw [eqB, Bool.and_eq_true, eqRw_iff, eqB_iff, List.cons.injEq]
theorem eqB_drop {a b : List Rw} {i : Nat} {x y : Rw} (hx : a[i]? = some x) (hy : b[i]? = some y) : eqB (a.drop i) (b.drop i) = (eqRw x y && eqB (a.drop (i + 1)) (b.drop (i + 1))) := by
  obtain ⟨h1, rfl⟩ := List.getElem?_eq_some_iff.1 hx
  obtain ⟨h2, rfl⟩ := List.getElem?_eq_some_iff.1 hy
  rw [List.drop_eq_getElem_cons h1, List.drop_eq_getElem_cons h2, eqB]
theorem eqB_len {a b : List Rw} (h : a.length ≠ b.length) : eqB a b = false := by
  cases e : eqB a b with
  | false => rfl
  | true => exact absurd (congrArg List.length (eqB_iff.1 e)) h
set_option maxRecDepth 100000 in
set_option maxHeartbeats 1000000 in
theorem rsame18_any (xs ys : List Rw) (a0 b0 : Option Addr) (c d : Nat) (w : World) (hT : RwAt w a0 xs) (hU : RwAt w b0 ys) (hm : xs.length ≤ 1000000) :
    Calls Try.prog 9 #[.slice a0 xs.length c, .slice b0 ys.length d] w fun e w' => e = .returned (.bool (eqB xs ys)) ∧ Below w.heap.size w w' := by
  obtain ⟨n, hn⟩ : ∃ n, n = xs.length := ⟨_, rfl⟩
  obtain ⟨m, hM⟩ : ∃ m, m = ys.length := ⟨_, rfl⟩
  obtain ⟨E, hE⟩ : ∃ E, E = eqB xs ys := ⟨_, rfl⟩
  rw [← hn] at hm ⊢
  rw [← hM, ← hE]
  by_cases hnm : n = m
  · subst hnm
    have H := Lib.hid (And.intro hT (And.intro hU (And.intro hn (And.intro hM hE))))
    clear hT hU hn hM hE
    go_enter Try.func9, Try.ntmps9
    go_wp2_with fail
    go_loopw [5] (fun k wr => ∃ i : Nat, i ≤ n ∧ k = .int .i64 i ∧ E = eqB (xs.drop i) (ys.drop i) ∧ Below w.heap.size w wr) (fun k _ => n - (intOf k).toNat)
    case atStart => exact ⟨0, by omega, rfl, H.out.2.2.2.2, Below.refl _ _⟩
    case round =>
      obtain ⟨i, hi, rfl, hMi, hb⟩ := hrel
      by_cases hlt : i < n
      · obtain ⟨x, hx⟩ : ∃ x, xs[i]? = some x := ⟨xs[i]'(by rw [← H.out.2.2.1]; exact hlt), List.getElem?_eq_getElem (by rw [← H.out.2.2.1]; exact hlt)⟩
        obtain ⟨y, hy⟩ : ∃ y, ys[i]? = some y := ⟨ys[i]'(by rw [← H.out.2.2.2.1]; exact hlt), List.getElem?_eq_getElem (by rw [← H.out.2.2.2.1]; exact hlt)⟩
        obtain ⟨p, o, ha, hbl, c0, c1, c2⟩ := (H.out.1.below hb) i x hx
        obtain ⟨p', o', ha', hbl', d0, d1, d2⟩ := (H.out.2.1.below hb) i y hy
        subst ha ha'
        rw [eqB_drop hx hy] at hMi
        have he := fun W => equalRw x y W
        obtain ⟨Q, hQ⟩ : ∃ Q, Q = eqRw x y := ⟨_, rfl⟩
        rw [← hQ] at he hMi
        obtain ⟨x0, x1, x2⟩ := x
        obtain ⟨y0, y1, y2⟩ := y
        simp only at he c0 c1 c2 d0 d1 d2
        have HM := Lib.hid (And.intro hMi hb)
        clear hMi hx hy hQ hb hbl hbl'
        cases Q with
        | true =>
          go_wp2_with fail
          go_quiet (fail)
          have HB := Lib.hid (below_drewN HM.out.2 nq)
          generalize wr.drewN nq = w2 at *
          go_wp2_with fail
          go_roundw
          case rel => exact ⟨i + 1, by omega, by go_num, HM.out.1, HB.out⟩
          case measure => simp [intOf]; omega
        | false =>
          go_wp2_with fail
          go_quiet (fail)
          have HB := Lib.hid (below_drewN HM.out.2 nq)
          generalize wr.drewN nq = w2 at *
          go_wp2_with fail
          go_ret
          exact ⟨by rw [HM.out.1]; rfl, HB.out⟩
      · have hd : xs.drop i = [] := List.drop_eq_nil_of_le (by rw [← H.out.2.2.1]; omega)
        have hd2 : ys.drop i = [] := List.drop_eq_nil_of_le (by rw [← H.out.2.2.2.1]; omega)
        rw [hd, hd2] at hMi
        have HM := Lib.hid (And.intro (show E = true from hMi) hb)
        clear hMi hd hd2 hb
        go_wp2_with fail
        go_ret
        exact ⟨by rw [HM.out.1]; rfl, HM.out.2⟩
  · have e2 : ((n : Int) != (m : Int)) = true := by simp; omega
    have HM := Lib.hid (hE.trans (eqB_len (by rw [← hn, ← hM]; exact hnm)))
    clear hE hnm hn hM hT hU
    go_enter Try.func9, Try.ntmps9
    go_wp2_with fail
    go_ret
    exact ⟨by rw [HM.out]; rfl, Below.refl _ _⟩
end Go.Proofs.Ytdfkpjmljaanpaa
