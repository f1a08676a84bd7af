/- slices.Equal at tags: the shelf's contract, laid at this program; leaf.Same. -/
import Derived.Shelf.SlicesQ.Equal
import Derived.Laws.StructEq
import Derived.Test.YtgoimggfpagojaaLfMem
import Derived.BigQuiet
import Derived.Deep.QuietTactic
namespace Go.Proofs
open Go.Shelf
def Try.poEqual_ren : Go.Shelf.Ren := ⟨fun | 8 => 31 | n => n, fun | 0 => 0 | 3 => 3 | 4 => 4 | 22 => 22 | 24 => 50 | n => n, fun | n => n⟩
theorem Try.poEqual : Go.Proofs.SlLaysQ.n8 Try.prog Try.poEqual_ren := {
  mixed := by kernel_rfl
  f8 := ⟨"slices.Equal[[]lockbox/api.Posting,lockbox/api.Posting]", by decide, Try.func31.trans (congrArg some (by kernel_rfl))⟩
  t0 := Try.underlying0
  a0 := Try.isAgg0
  z0 := Try.sizeOf0
  v0 := Try.zeroValue0
  t3 := Try.underlying3
  a3 := Try.isAgg3
  z3 := Try.sizeOf3
  v3 := Try.zeroValue3
  t4 := Try.underlying4
  a4 := Try.isAgg4
  z4 := Try.sizeOf4
  v4 := Try.zeroValue4
  t22 := Try.underlying22
  a22 := Try.isAgg22
  z22 := Try.sizeOf22
  v22 := Try.zeroValue22 }

end Go.Proofs
namespace Go.Proofs.Ytgoimggfpagojaa
open Go.RowKit Go.Proofs

def encPo (p : Po) : List Value := [.string p.tag, .int .i64 p.prev]
def eqPo (x y : Po) : Bool := x.tag.toList == y.tag.toList && x.prev == y.prev
theorem eqPo_iff {x y : Po} : eqPo x y = true ↔ x = y := by
  unfold eqPo
  simp only [Bool.and_eq_true, beq_iff_eq]
  constructor
  · rintro ⟨h1, h2⟩
    obtain ⟨a, b⟩ := x
    obtain ⟨c, d⟩ := y
    simp only at h1 h2
    rw [Wd.toList_eq h1, h2]
  · rintro rfl
    exact ⟨rfl, rfl⟩
instance : Inhabited Po := ⟨⟨⟨#[]⟩, 0⟩⟩
theorem neqPo : NeqAt Try.prog 50 (fun x => .agg (encPo x).toArray) eqPo := by
  refine ⟨fun x y w => ?_, GuardAt.agg _ (by kernel_rfl)⟩
  have us0 := Try.underlying9
  have as0 := Try.isAgg9
  have zs0 := Try.sizeOf9
  have u3 := Try.underlying3
  have a3 := Try.isAgg3
  have z3 := Try.sizeOf3
  have hS : Try.prog.underlying 50 = some (.struct (Try.prog.fieldsOf 50)) := by kernel_rfl
  have hp : Try.prog.stoodInHeld 50 = false := by kernel_rfl
  simp only [encPo]
  rw [run_neq_struct, show (10000 : Nat) = 9999 + 1 from rfl, run_equalIn_agg w 9999 50 _ _ hS hp]
  simp only [Program.fieldsOf, Try.underlying50]
  go_simp
  unfold eqPo
  cases h1 : x.tag.toList == y.tag.toList <;> cases h2 : x.prev == y.prev <;> simp_all
theorem allEq_iff : ∀ {xs ys : List Po}, Lib.allEq eqPo xs ys = true ↔ xs = ys
  | [], [] => by simp [Lib.allEq]
  | [], _ :: _ => by simp [Lib.allEq]
  | _ :: _, [] => by simp [Lib.allEq]
  | x :: xs, y :: ys => by
    rw [Lib.allEq, Bool.and_eq_true, eqPo_iff, allEq_iff, List.cons.injEq]
set_option maxRecDepth 100000 in
set_option maxHeartbeats 1000000 in
/-- Of unlike lengths. -/
theorem poEqual_lens (a1 a2 : Option Addr) (n c m d : Nat) (hnm : n ≠ m) (w : World) : Calls Try.prog 31 #[.slice a1 n c, .slice a2 m d] w fun e w' => e = .returned (.bool false) ∧ w' = w := by
  have e : ((n : Int) == (m : Int)) = false := by simp; omega
  have e2 : ((n : Int) != (m : Int)) = true := by simp; omega
  go_enter Try.func31, Try.ntmps31
  go_wp2
  go_ret
  exact ⟨rfl, rfl⟩
set_option maxRecDepth 100000 in
set_option maxHeartbeats 1000000 in
theorem poEqual_any (a1 a2 : Option Addr) (c1 c2 : Nat) (xs ys : List Po) (w : World) (h1 : PoAt w a1 xs) (h2 : PoAt w a2 ys) (hx : xs.length ≤ 1000000000) (hy : ys.length ≤ 1000000000) :
    Calls Try.prog 31 #[.slice a1 xs.length c1, .slice a2 ys.length c2] w fun e w' => e = .returned (.bool (Lib.allEq eqPo xs ys)) ∧ ∃ q, w' = w.drewN q := by
  by_cases hl : xs.length = ys.length
  · by_cases h0 : xs = []
    · subst h0
      obtain rfl : ys = [] := List.eq_nil_of_length_eq_zero hl.symm
      simp only [List.length_nil, Lib.allEq]
      go_enter Try.func31, Try.ntmps31
      go_wp2
      go_loop [5, 13] (fun _ c => c = .int .i64 0) (fun _ _ => 0)
      case atStart => exact rfl
      case round =>
        obtain rfl := hrel
        go_wp2
        go_ret
        exact ⟨rfl, 0, rfl⟩
    · have hp1 := List.length_pos_iff.2 h0
      obtain ⟨b1, o1, rfl, -, -, -⟩ := h1 0 xs[0] (List.getElem?_eq_getElem hp1)
      obtain ⟨b2, o2, rfl, -, -, -⟩ := h2 0 ys[0] (List.getElem?_eq_getElem (by omega))
      have cells : ∀ {b o : Nat} {l : List Po}, PoAt w (some ⟨b, o, none⟩) l → ∀ j, j < l.length → ∀ i v, (encPo l[j]!)[i]? = some v → w.cell? ⟨b, o + j * 2 + i, none⟩ = some v := by
        intro b o l h j hj i v hv
        obtain ⟨e1, e2⟩ := h.cells (List.getElem?_eq_getElem hj)
        rw [getElem!_pos l j hj] at hv
        match i, hv with
        | 0, hv => injection hv with hv; subst hv; exact e1
        | 1, hv => injection hv with hv; subst hv; exact e2
        | i + 2, hv => simp [encPo] at hv
      have hc := AnyQ.slices_Equal Try.poEqual 2 Try.isAgg50 Try.sizeOf50 encPo (fun _ => rfl) eqPo neqPo b1 o1 xs.length c1 b2 o2 ys.length c2 xs ys w (Nat.le_refl _) (Nat.le_refl _) (by omega) (by omega) (cells h1) (cells h2)
      rw [List.take_length, List.take_length] at hc
      exact hc
  · refine (poEqual_lens a1 a2 _ c1 _ c2 hl w).mono fun e w' ⟨e1, e2⟩ => ⟨?_, 0, e2⟩
    rw [e1, Lib.allEq_len _ _ _ hl]
end Go.Proofs.Ytgoimggfpagojaa
