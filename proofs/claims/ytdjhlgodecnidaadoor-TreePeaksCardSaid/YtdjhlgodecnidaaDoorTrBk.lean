/- slices.Backward at texts: the iterator that yields places and texts from the last on; (tree.Peaks).Root. -/
import Derived.RangeFuncNested
import Derived.RangeFuncLeaves
import Derived.RangeFuncBox
import Derived.LoopIn
import Derived.Test.YtdjhlgodecnidaaDoorTrPeak
namespace Go.Proofs.YtdjhlgodecnidaaDoor
open Go.RowKit Go.Shelf
open Tr
attribute [local go_sem] Oper.semAt_some

/-- What is yielded: a place, and its text. -/
def encT (P : List ByteArray) {M : Nat} (x : Fin M) : Array Value := #[.int .i64 (x.1 : Int), .string (P.getD x.1 ByteArray.empty)]
/-- The places from the last on. -/
def bk (M : Nat) : List (Fin M) := List.ofFn fun j : Fin M => ⟨M - 1 - j.1, by omega⟩
theorem bk_length (M : Nat) : (bk M).length = M := by unfold bk; exact List.length_ofFn
theorem bk_at {M j : Nat} (h : j < M) : (bk M)[j]? = some ⟨M - 1 - j, by omega⟩ := by
  unfold bk; rw [List.getElem?_ofFn, dif_pos h]
theorem bk_next {M j : Nat} (h : j < M) : (bk M).take (j + 1) = (bk M).take j ++ [⟨M - 1 - j, by omega⟩] := by
  rw [List.take_add_one, bk_at h]; rfl
theorem bk_prefix {M : Nat} {pre : List (Fin M)} {x : Fin M} (h : pre ++ [x] <+: bk M) : pre <+: bk M ∧ pre.length < M ∧ x.1 = M - 1 - pre.length := by
  obtain ⟨t, ht⟩ := h
  have h1 : (bk M)[pre.length]? = some x := by rw [← ht]; simp
  have hl : pre.length < M := by
    have := (List.getElem?_eq_some_iff.1 h1).1
    rwa [bk_length] at this
  rw [bk_at hl] at h1
  injection h1 with h1
  exact ⟨⟨[x] ++ t, by rw [← ht]; simp⟩, hl, by rw [← h1]⟩
theorem tback_any (a : Option Addr) (K cap : Nat) (w : World) :
    Calls Tryd.prog 62 #[.slice a K cap] w fun e w' => e = .returned (.func (.func 96) #[] #[.pointer (some ⟨w.heap.size, 0, none⟩)]) ∧ w' = w.alloc (.cells #[.slice a K cap] 22) := by
  go_enter Tryd.func62, Tryd.ntmps62
  go_wp2_with fail
  go_ret
  exact ⟨rfl, rfl⟩
/-- What a round of the loop keeps: the box, and all blocks that were there ahead. -/
def KL (Bs lo : Nat) (A B : World) : Prop := A.heap.size ≤ B.heap.size ∧ B.heap[Bs]? = A.heap[Bs]? ∧ ∀ j, j < lo → B.heap[j]? = A.heap[j]?
theorem KL.trans {Bs lo : Nat} {A B C : World} (h : KL Bs lo A B) (k : KL Bs lo B C) : KL Bs lo A C := ⟨Nat.le_trans h.1 k.1, k.2.1.trans h.2.1, fun j hj => (k.2.2 j hj).trans (h.2.2 j hj)⟩
theorem KL.refl (Bs lo : Nat) (A : World) : KL Bs lo A A := ⟨Nat.le_refl _, rfl, fun _ _ => rfl⟩
set_option maxRecDepth 100000 in
set_option maxHeartbeats 2000000 in
theorem tback1_in (n : Nat) (hn : 1 ≤ n) (l Bs lo M cap : Nat) (a : Option Addr) (P : List ByteArray) (hM62 : M ≤ 1000000) (J Jx : List (Fin M) → World → Prop) (W : World) (hJ : AbidesFrom W.heap.size J)
    (hY : ∀ pre x W, J pre W → pre.length < M → YieldAt Fence.wide (n - 1) Tryd.prog l (encT P x) W fun e W' =>
      (e = .returned (.bool true) ∧ J (pre ++ [x]) W' ∧ KL Bs lo W W') ∨ (e = .returned (.bool false) ∧ Jx (pre ++ [x]) W'))
    (hc : W.cell? ⟨Bs, 0, none⟩ = some (.slice a M cap)) (hg : ∀ i, i < M → ∃ b off, a = some ⟨b, off, none⟩ ∧ b < lo ∧ W.cell? ⟨b, off + i, none⟩ = some (.string (P.getD i ByteArray.empty))) (h0 : J [] W) :
    CallsIn Fence.wide n Tryd.prog 96 #[.func (.yield l) #[] #[], .pointer (some ⟨Bs, 0, none⟩)] W fun e W' => (∃ v, e = .returned v) ∧
      ((∃ ys, ys = bk M ∧ J ys W') ∨ (∃ pre, pre <+: bk M ∧ Jx pre W')) := by
  have H := Lib.hid hg
  clear hg
  refine callsIn_of_wp Tryd.func96 rfl trivial ?_ rfl
  simp only [Tryd.ntmps96, List.size_toArray, List.length_cons, List.length_nil, Nat.reduceAdd, Nat.reduceSub, Array.replicate_succ, Array.replicate_zero, List.push_toArray, List.append_toArray, List.nil_append, List.cons_append]
  gi_wp2
  gi_loopw [3] (fun iv wr => ∃ (j : Nat) (i : Int), j ≤ M ∧ iv = .int .i64 i ∧ i + j + 1 = M ∧ J ((bk M).take j) wr ∧ KL Bs lo W wr) (fun iv _ => (intOf iv + 1).toNat)
  case atStart => exact ⟨0, _, Nat.zero_le _, rfl, by omega, by rw [List.take_zero]; exact h0, KL.refl _ _ _⟩
  case round =>
    obtain ⟨j, i, hj, rfl, hij, hJs, hk⟩ := hrel
    have hcb : wr.cell? ⟨Bs, 0, none⟩ = some (.slice a M cap) := by rw [← hc]; exact World.cell?_of_block (a := ⟨Bs, 0, none⟩) hk.2.1
    have HK := Lib.hid (And.intro hJs hk)
    clear hJs hk
    by_cases hlt : j < M
    · obtain ⟨k, rfl⟩ : ∃ k : Nat, i = k := ⟨i.toNat, by omega⟩
      have hkM : k < M := by omega
      have hkM' : (k : Int) < (M : Int) := by omega
      have hk1 : k = M - 1 - j := by omega
      obtain ⟨b, off, rfl, hbl, c0⟩ := H.out k hkM
      have c0' : wr.cell? ⟨b, off + k, none⟩ = some (.string (P.getD k ByteArray.empty)) := by rw [← c0]; exact World.cell?_of_block (a := ⟨b, off + k, none⟩) (HK.out.2.2.2 b hbl)
      obtain ⟨fn, tmps, assign, body, hy, hR⟩ := hY ((bk M).take j) ⟨k, hkM⟩ wr HK.out.1 (by rw [List.length_take, bk_length]; omega)
      unfold encT at hy
      obtain ⟨x, hx⟩ : ∃ x, x = P.getD k ByteArray.empty := ⟨_, rfl⟩
      simp only at hy
      rw [← hx] at hy c0'
      have HR := Lib.hid (And.intro hR hk1)
      clear c0 hR hk1 hx
      gi_wp2
      refine HR.out.1.mono ?_
      rintro e W3 (⟨rfl, hJ3, hk3⟩ | ⟨rfl, hJx3⟩)
      · gi_wp2
        go_roundw
        case rel => exact ⟨j + 1, _, by omega, rfl, by omega, by rw [bk_next hlt]; have e := HR.out.2; subst e; exact hJ3, HK.out.2.trans hk3⟩
        case measure => simp [intOf]
      · gi_wp2
        refine bodyPost_ret (results_none rfl _ _ _) rfl ?_
        refine ⟨⟨_, rfl⟩, .inr ⟨(bk M).take (j + 1), List.take_prefix _ _, ?_⟩⟩
        rw [bk_next hlt]; have e := HR.out.2; subst e; exact hJx3
    · obtain rfl : j = M := by omega
      have hi0 : ¬ (0 : Int) ≤ i := by omega
      gi_wp2
      go_end0
      refine ⟨⟨_, rfl⟩, .inl ?_⟩
      have := HK.out.1
      rwa [show (bk j).take j = bk j from List.take_of_length_le (by rw [bk_length]; omega)] at this
end Go.Proofs.YtdjhlgodecnidaaDoor
