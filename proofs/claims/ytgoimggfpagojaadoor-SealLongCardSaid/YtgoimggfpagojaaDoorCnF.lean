/- Items of a shape: what they are made of, and where their parts lie. -/
import Derived.Test.YtgoimggfpagojaaDoorMC6
import Derived.Test.YtgoimggfpagojaaDoorCnT
namespace Go.Proofs.YtgoimggfpagojaaDoor
open Go.RowKit
open Cn

theorem fit_num {x : Pt} {d : Nat} (hm : may x d = true) (h : fitP x 110 = true) : ∃ n, x = numT n ∧ 0 ≤ n ∧ n ≤ 72057594037927935 := by
  rcases may_cases hm with ⟨m, rfl, h1, h2⟩ | ⟨t, rfl, -⟩ | ⟨t, rfl, -, -, -⟩
  · exact ⟨m, rfl, h1, h2⟩
  · simp [fitP] at h
  · simp [fitP] at h
theorem fit_txt {x : Pt} {d : Nat} (hm : may x d = true) (h : fitP x 116 = true) : ∃ s, x = txtT s := by
  rcases may_cases hm with ⟨m, rfl, h1, h2⟩ | ⟨t, rfl, -⟩ | ⟨t, rfl, -, -, -⟩
  · simp [fitP] at h
  · exact ⟨t, rfl⟩
  · simp [fitP] at h
theorem fit_dig {x : Pt} {d : Nat} (hm : may x d = true) (h : fitP x 100 = true) : ∃ s, x = txtT s ∧ s.size = 32 := by
  rcases may_cases hm with ⟨m, rfl, h1, h2⟩ | ⟨t, rfl, -⟩ | ⟨t, rfl, -, -, -⟩
  · simp [fitP] at h
  · exact ⟨t, rfl, by simpa [fitP] using h⟩
  · simp [fitP] at h
theorem fit_lst {x : Pt} {d : Nat} (hm : may x (d + 1) = true) (h : fitP x 108 = true) : ∃ l, x = lstT l ∧ l.length ≤ 1024 ∧ mayAll l d = true := by
  rcases may_cases hm with ⟨m, rfl, h1, h2⟩ | ⟨t, rfl, -⟩ | ⟨l, rfl, h1, -, h3⟩
  · simp [fitP] at h
  · simp [fitP] at h
  · exact ⟨l, rfl, h1, h3⟩
theorem shape_lst {x : Pt} {d : Nat} {t : List UInt8} (hm : may x (d + 1) = true) (h : shapeP x t = true) : ∃ l, x = lstT l ∧ l.length ≤ 1024 ∧ mayAll l d = true ∧ fitAll l t = true := by
  rcases may_cases hm with ⟨m, rfl, h1, h2⟩ | ⟨s, rfl, -⟩ | ⟨l, rfl, h1, -, h3⟩
  · simp [shapeP] at h
  · simp [shapeP] at h
  · exact ⟨l, rfl, h1, h3, by simpa [shapeP] using h⟩
theorem shape_of {l : List Pt} {t : List UInt8} : shapeP (lstT l) t = fitAll l t := by unfold lstT shapeP; simp
theorem pure_at {l : List It} {j : Nat} {p : Pt} (hp : (It.pureAll l)[j]? = some p) : ∃ y, l[j]? = some y ∧ y ∈ l ∧ y.pure = p := by
  rw [It.pureAll_eq, List.getElem?_map] at hp
  obtain ⟨y, h1, h2⟩ := Option.map_eq_some_iff.1 hp
  exact ⟨y, h1, List.mem_of_getElem? h1, h2⟩
theorem row_num {w : World} {b o : Nat} {l : List It} {j : Nat} {n : Int} (h : RowAt w b o l) (hp : (It.pureAll l)[j]? = some (numT n)) : w.cell? ⟨b, o + j * 4 + 1, none⟩ = some (.int .i64 n) := by
  obtain ⟨y, h1, -, h2⟩ := pure_at hp
  have := (h j y h1).2.1
  rw [It.pure_eq] at h2
  unfold numT at h2
  injection h2 with _ e
  rw [this, e]
theorem row_txt {w : World} {b o : Nat} {l : List It} {j : Nat} {s : ByteArray} (h : RowAt w b o l) (hp : (It.pureAll l)[j]? = some (txtT s)) : w.cell? ⟨b, o + j * 4 + 2, none⟩ = some (.string s) := by
  obtain ⟨y, h1, -, h2⟩ := pure_at hp
  have := (h j y h1).2.2.1
  rw [It.pure_eq] at h2
  unfold txtT at h2
  injection h2 with _ _ e
  rw [this, e]
theorem row_lst {w : World} {b o : Nat} {l : List It} {j : Nat} {ps : List Pt} (h : RowAt w b o l) (hp : (It.pureAll l)[j]? = some (lstT ps)) :
    ∃ y, l[j]? = some y ∧ y ∈ l ∧ It.pureAll y.l = ps ∧ w.cell? ⟨b, o + j * 4 + 3, none⟩ = some (.slice y.a y.l.length y.cap) := by
  obtain ⟨y, h1, h3, h2⟩ := pure_at hp
  have := (h j y h1).2.2.2
  rw [It.pure_eq] at h2
  unfold lstT at h2
  injection h2 with _ _ _ e
  exact ⟨y, h1, h3, e, this⟩
theorem Lies.row {w : World} {S : Nat → Prop} {a : Option Addr} {l : List It} (h : Lies w S a l) (hl : 0 < l.length) : ∃ b o, a = some ⟨b, o, none⟩ ∧ b < w.heap.size ∧ S b ∧ RowAt w b o l := h.2 (List.length_pos_iff.1 hl)
theorem RowAt.below {w w' : World} {b o : Nat} {l : List It} (h : RowAt w b o l) (hl : b < w.heap.size) (hb : Below w.heap.size w w') : RowAt w' b o l := h.same (hb.block b hl)
end Go.Proofs.YtgoimggfpagojaaDoor
