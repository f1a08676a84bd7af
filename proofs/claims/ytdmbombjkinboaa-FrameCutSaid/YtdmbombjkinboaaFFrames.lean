/- frame.frames: the iterator that yields the frames at the front. -/
import Derived.RangeFuncBox
import Derived.RangeFuncLeaves
import Derived.Shelf.Abstract
import Derived.WalkKit
import Derived.OwnWalkIn
import Derived.TacticsInMore
import Derived.LoopNIn
import Derived.LoopIn
import Derived.Maps.AppendAt
import Derived.Test.YtdmbombjkinboaaFFront
namespace Go.Proofs.Ytdmbombjkinboaa
open Go.RowKit Go.Shelf
open Fr
attribute [local go_sem] Oper.semAt_some

/-- What is yielded: where each frame ends, and its body. -/
def prs : Nat → List (List UInt8) → List (Nat × ByteArray)
  | _, [] => []
  | p, b :: l => (p + (8 + b.length), str b) :: prs (p + (8 + b.length)) l
def encP (x : Nat × ByteArray) : Array Value := #[.int .i64 (x.1 : Int), .string x.2]
theorem frames_any (s : ByteArray) (w : World) :
    Calls Try.prog 24 #[.string s] w fun e w' => e = .returned (.func (.func 31) #[] #[.pointer (some ⟨w.heap.size, 0, none⟩)]) ∧ w' = w.alloc (.cells #[.string s] 9) := by
  go_enter Try.func24, Try.ntmps24
  go_wp2_with fail
  go_ret
  exact ⟨rfl, rfl⟩
/-- What a round of the loop keeps: the box that the iterator reads. -/
def KB (Bs : Nat) (A B : World) : Prop := A.heap.size ≤ B.heap.size ∧ B.heap[Bs]? = A.heap[Bs]?
theorem KB.trans {Bs : Nat} {A B C : World} (h : KB Bs A B) (k : KB Bs B C) : KB Bs A C := ⟨Nat.le_trans h.1 k.1, k.2.trans h.2⟩
theorem KB.cell {Bs : Nat} {A B : World} (h : KB Bs A B) {v : Value} (hc : A.cell? ⟨Bs, 0, none⟩ = some v) : B.cell? ⟨Bs, 0, none⟩ = some v := by
  rw [← hc]; simp [World.cell?, h.2]
set_option maxRecDepth 100000 in
set_option maxHeartbeats 2000000 in
theorem frames1_in (n : Nat) (hn : 1 ≤ n) (l Bs : Nat) (s : ByteArray) (hs : s.size ≤ 200000) (bs : List (List UInt8)) (m er : Nat) (hsc : Scans s.data.toList bs m er) (J Jx : List (Nat × ByteArray) → World → Prop) (W : World) (hJ : AbidesFrom W.heap.size J) (hBs : Bs < W.heap.size)
    (hY : ∀ pre x W, J pre W → pre.length < bs.length → YieldAt Fence.wide (n - 1) Try.prog l (encP x) W fun e W' =>
      (e = .returned (.bool true) ∧ J (pre ++ [x]) W' ∧ KB Bs W W') ∨ (e = .returned (.bool false) ∧ Jx (pre ++ [x]) W'))
    (hc : W.cell? ⟨Bs, 0, none⟩ = some (.string s)) (h0 : J [] W) :
    CallsIn Fence.wide n Try.prog 31 #[.func (.yield l) #[] #[], .pointer (some ⟨Bs, 0, none⟩)] W fun e W' => (∃ v, e = .returned v) ∧
      ((∃ ys, ys = prs 0 bs ∧ J ys W') ∨ (∃ pre, pre <+: prs 0 bs ∧ Jx pre W')) := by
  refine callsIn_of_wp Try.func31 rfl trivial ?_ rfl
  simp only [Try.ntmps31, List.size_toArray, List.length_cons, List.length_nil, Nat.reduceAdd, Nat.reduceSub, Array.replicate_succ, Array.replicate_zero, List.push_toArray, List.append_toArray, List.nil_append, List.cons_append]
  gi_wp2
  gi_loopw [3, 4, 5, 6] (fun a _ _ _ wr => ∃ (p : Nat) (pre : List (Nat × ByteArray)) (l' : List (List UInt8)) (m' : Nat), a = .int .i64 p ∧ p ≤ s.size ∧ prs 0 bs = pre ++ prs p l' ∧ Scans (s.data.toList.drop p) l' m' er ∧ pre.length + l'.length = bs.length ∧ J pre wr ∧ wr.cell? ⟨Bs, 0, none⟩ = some (.string s) ∧ W.heap.size ≤ wr.heap.size)
    (fun a _ _ _ _ => s.size - (intOf a).toNat)
  case atStart => exact ⟨0, [], bs, m, rfl, Nat.zero_le _, rfl, hsc, by simp, h0, hc, Nat.le_refl _⟩
  case round =>
    obtain ⟨p, pre, l', m', rfl, hp, hxs, hsr, hln, hJs, hcs, hsz⟩ := hrel
    have hX := first_any (s.extract p s.size) (by rw [ByteArray.size_extract]; omega)
    have hd : (s.extract p s.size).data.toList = s.data.toList.drop p := by simp; exact List.take_of_length_le (by simp)
    rw [hd] at hX
    have hp' : (p : Int) ≤ s.size := by omega
    cases hsr with
    | stop h he =>
      rw [h] at hX
      have he' : ((er : Int) != 0) = true := by simp; omega
      gi_wp2
      refine ⟨trivial, ?_⟩
      refine (callsIn_wide.2 (hX _)).mono ?_
      rintro e w1 ⟨rfl, h1⟩
      have hJ1 : J pre w1 := hJ pre wr w1 none hJs ⟨h1.os, h1.tape, h1.output, h1.size, fun k hk _ => h1.block k hk⟩ (fun r e => by cases e)
      gi_wp2
      refine bodyPost_ret (results_none rfl _ _ _) rfl ?_
      exact ⟨⟨_, rfl⟩, .inl ⟨pre, by rw [hxs]; simp [prs], hJ1⟩⟩
    | more h hr =>
      rename_i q l'' m''
      rw [h] at hX
      have hk := fst_ok h
      have hq : p + q ≤ s.size := by have := hk.2.2.2.1; rw [List.length_drop] at this; simp at this; omega
      have hq' : (p : Int) + q ≤ s.size := by omega
      have hq8 : (p : Int) + 8 ≤ (p : Int) + q := by omega
      have hp8 : (p : Int) + 8 ≤ s.size := by omega
      have hq9 : 9 ≤ q := by omega
      obtain ⟨b, hb⟩ : ∃ b, b = ((s.data.toList.drop p).take q).drop 8 := ⟨_, rfl⟩
      have hbl : 8 + b.length = q := by rw [hb, List.length_drop, List.length_take, List.length_drop]; simp; omega
      have hbx : s.extract (p + 8) (p + q) = str b := by
        have e := str_cut s.data.toList (p + 8) (p + q)
        rw [str_of] at e
        rw [e, hb]
        congr 1
        rw [List.take_drop, List.drop_drop]
      rw [← hb] at hxs hln
      have hln' : pre.length + l''.length + 1 = bs.length := by rw [List.length_cons] at hln; omega
      clear hln
      rw [prs, hbl] at hxs
      have HK := Lib.hid (And.intro hk (And.intro hxs (And.intro hr (And.intro hb hbl))))
      have hsl : ∀ W : World, (Instr.slice 9 (.string s) (some (.int .i64 ((p : Int) + 8))) (some (.int .i64 ((p : Int) + q))) none).run Try.prog W = .ok (.string (str b)) W := fun W => by
        rw [run_slice_string W _ _ _ _ _ _ Try.underlying9 (by omega) (by omega) (by omega), show ((p : Int) + 8).toNat = p + 8 from by omega, show ((p : Int) + q).toNat = p + q from by omega, hbx]
      clear hbx
      have hbs : (str b).size ≤ 281474976710656 := by rw [str_size]; omega
      clear hk hb hxs hr h hd
      gi_wp2
      refine ⟨trivial, ?_⟩
      refine (callsIn_wide.2 (hX _)).mono ?_
      rintro e w1 ⟨rfl, h1⟩
      have hJ1 : J pre w1 := hJ pre wr w1 none hJs ⟨h1.os, h1.tape, h1.output, h1.size, fun k hk _ => h1.block k hk⟩ (fun r e => by cases e)
      have hc1 : w1.cell? ⟨Bs, 0, none⟩ = some (.string s) := (h1.cell (p := ⟨Bs, 0, none⟩) (by show Bs < _; omega)).trans hcs
      have hz1 := h1.size
      gi_wp2
      refine ⟨trivial, ?_⟩
      refine (callsIn_wide.2 (clone_any _ _ hbs)).mono ?_
      rintro e w2 ⟨rfl, h2⟩
      have hJ2 : J pre w2 := hJ pre w1 w2 none hJ1 ⟨h2.os, h2.tape, h2.output, h2.size, fun k hk _ => h2.block k hk⟩ (fun r e => by cases e)
      have hz2 := h2.size
      have hc2 : w2.cell? ⟨Bs, 0, none⟩ = some (.string s) := (h2.cell (p := ⟨Bs, 0, none⟩) (by show Bs < _; omega)).trans hc1
      obtain ⟨fn, tmps, assign, body, hy, hR⟩ := hY pre (p + q, str b) w2 hJ2 (by omega)
      have hpq : ((p + q : Nat) : Int) = (p : Int) + q := by omega
      unfold encP at hy
      rw [hpq] at hy
      gi_wp2
      refine hR.mono ?_
      rintro e W3 (⟨rfl, hJ3, hk3⟩ | ⟨rfl, hJx3⟩)
      · gi_wp2
        go_roundw
        case rel => exact ⟨p + q, pre ++ [(p + q, str b)], l'', m'', by go_num, by omega, by rw [HK.out.2.1]; simp, by rw [← List.drop_drop]; exact HK.out.2.2.1, by rw [List.length_append, List.length_singleton]; omega, hJ3, hk3.cell hc2, by have := hk3.1; omega⟩
        case measure => simp [intOf]; omega
      · gi_wp2
        refine bodyPost_ret (results_none rfl _ _ _) rfl ?_
        exact ⟨⟨_, rfl⟩, .inr ⟨pre ++ [(p + q, str b)], ⟨prs (p + q) l'', by rw [HK.out.2.1]; simp⟩, hJx3⟩⟩
end Go.Proofs.Ytdmbombjkinboaa
