/- awake: the page's examples. -/
import Derived.Test.YtlfefgfpachehaaCFront
namespace Go.Proofs.Ytlfefgfpachehaa
open Go.RowKit
open Cn

def exA : Pt := .mk 3 0 ⟨#[]⟩ [.mk 1 0 ⟨#[]⟩ [], .mk 2 0 ⟨#[97]⟩ []]
theorem exA_s : encS exA = ⟨#[9, 1, 2, 0, 8, 1, 1, 97]⟩ := by kernel_rfl
theorem exA_e : encE exA = 0 := by kernel_rfl
theorem exB : decR [2, 1, 2] = .ok (.mk 1 258 ⟨#[]⟩ []) := by kernel_rfl
/-- Two items side by side. -/
def twoIt : List It := [.mk 1 0 ⟨#[]⟩ none 0 [], .mk 2 0 ⟨#[97]⟩ none 0 []]
theorem two_lies {w : World} {b : Nat} (h : w.heap[b]? = some (.cells #[.int .i64 1, .int .i64 0, .string ⟨#[]⟩, .slice none 0 0, .int .i64 2, .int .i64 0, .string ⟨#[97]⟩, .slice none 0 0] 24 (0, 0))) :
    Lies w (fun _ => True) (some ⟨b, 0, none⟩) twoIt ∧ It.InAll w (fun _ => True) twoIt := by
  refine ⟨⟨by decide, fun _ => ⟨b, 0, rfl, lt_of_heap h, trivial, fun j x hx => ?_⟩⟩, ?_⟩
  · rw [Lib.cell_of_heap h, Lib.cell_of_heap h, Lib.cell_of_heap h, Lib.cell_of_heap h]
    match j, hx with
    | 0, hx => simp [twoIt] at hx; subst hx; exact ⟨rfl, rfl, rfl, rfl⟩
    | 1, hx => simp [twoIt] at hx; subst hx; exact ⟨rfl, rfl, rfl, rfl⟩
    | j + 2, hx => simp [twoIt] at hx
  · exact ⟨⟨by decide, ⟨Nat.zero_le _, fun h => absurd rfl h⟩, trivial⟩, ⟨by decide, ⟨Nat.zero_le _, fun h => absurd rfl h⟩, trivial⟩, trivial⟩
set_option maxRecDepth 100000 in
set_option maxHeartbeats 400000 in
theorem awake_any (w : World) : Calls Try.prog 10 #[] w fun e w' => e = .returned (.bool true) ∧ Below w.heap.size w w' := by
  go_enter Try.func10, Try.ntmps10
  go_wp2_with fail
  refine (num_any 0 _).mono ?_
  rintro e w1 ⟨rfl, hb1⟩
  go_wp2_with fail
  refine (text_any _ _).mono ?_
  rintro e w2 ⟨rfl, hb2⟩
  have hb12 := hb1.trans (hb2.mono hb1.size)
  have HB := Lib.hid hb12
  clear hb1 hb2 hb12
  go_wp2_with fail
  have hrow := heap_alloc_new w2 (.cells #[.int .i64 1, .int .i64 0, .string ⟨#[]⟩, .slice none 0 0, .int .i64 2, .int .i64 0, .string ⟨#[97]⟩, .slice none 0 0] 24)
  have hb3 : Below w.heap.size w (w2.alloc (.cells #[.int .i64 1, .int .i64 0, .string ⟨#[]⟩, .slice none 0 0, .int .i64 2, .int .i64 0, .string ⟨#[97]⟩, .slice none 0 0] 24)) := HB.out.alloc HB.out.size _
  generalize World.alloc w2 _ = w3 at *
  obtain ⟨hl, hi⟩ := two_lies hrow
  have HB3 := Lib.hid hb3
  have hlist := list_any (fun _ => True) twoIt (some ⟨w2.heap.size, 0, none⟩) 2 w3 hl hi (by decide)
  clear hb3 hrow hl hi
  refine hlist.mono ?_
  clear hlist
  rintro e w4 ⟨x, rfl, hp, hin, hb4⟩
  have HB4 := Lib.hid (HB3.out.trans (hb4.mono HB3.out.size))
  have henc := encode_any _ x w4 hin
  rw [hp, show Pt.mk 3 0 ⟨#[]⟩ (It.pureAll twoIt) = exA from rfl, exA_s, exA_e] at henc
  have HE := Lib.hid henc
  clear hp hin hb4 henc
  obtain ⟨xk, xn, xs, xa, xc, xl⟩ := x
  simp only [It.val, It.cells, It.k, It.n, It.s, It.a, It.cap, It.l] at HE ⊢
  go_wp2_with fail
  refine HE.out.mono ?_
  rintro e w5 ⟨rfl, hb5⟩
  have HB5 := Lib.hid (HB4.out.trans (hb5.mono HB4.out.size))
  clear hb5
  go_wp2_with fail
  have hdec := decode_any ⟨#[2, 1, 2]⟩ (by decide) w5
  rw [show (ByteArray.mk #[2, 1, 2]).data.toList = [2, 1, 2] from rfl, exB] at hdec
  refine hdec.mono ?_
  clear hdec
  rintro e w6 ⟨hb6, it, hp6, rfl, -⟩
  have HB6 := Lib.hid (HB5.out.trans (hb6.mono HB5.out.size))
  clear hb6
  obtain ⟨yk, yn, ys, ya, yc, yl⟩ := it
  rw [It.pure_eq] at hp6
  injection hp6 with e1 e2 e3 e4
  simp only [It.k, It.n] at e1 e2
  subst e1 e2
  clear e3 e4
  simp only [It.val, It.cells, It.k, It.n, It.s, It.a, It.cap, It.l]
  go_wp2_with fail
  go_ret
  exact ⟨rfl, HB6.out.alloc HB6.out.size _⟩
end Go.Proofs.Ytlfefgfpachehaa
