/- Merged by program: frame.frames: the iterator that yields the frames at the front. | frame.Scan: the bodies that stand at the front. | append of one text to a slice of texts that the call made itself. -/
import Derived.RangeFuncBox
import Derived.RangeFuncLeaves
import Derived.Shelf.Abstract
import Derived.WalkKit
import Derived.OwnWalkIn
import Derived.TacticsInMore
import Derived.LoopNIn
import Derived.LoopIn
import Derived.Maps.AppendAt
import Derived.Test.YtdmbombjkinboaaGreatMF1
import Derived.RangeFuncNested
import Derived.Test.YtdmbombjkinboaaGreatMB
namespace Go.Proofs.YtdmbombjkinboaaGreat
open Go.RowKit Go.Shelf
open Fr
attribute [local go_sem] Oper.semAt_some

/-- What is yielded: where each frame ends, and its body. -/
def prs : Nat → List (List UInt8) → List (Nat × ByteArray)
  | _, [] => []
  | p, b :: l => (p + (8 + b.length), str b) :: prs (p + (8 + b.length)) l
def encP (x : Nat × ByteArray) : Array Value := #[.int .i64 (x.1 : Int), .string x.2]
theorem frames_any (s : ByteArray) (w : World) :
    Calls Tryz.prog 108 #[.string s] w fun e w' => e = .returned (.func (.func 125) #[] #[.pointer (some ⟨w.heap.size, 0, none⟩)]) ∧ w' = w.alloc (.cells #[.string s] 9) := by
  go_enter Tryz.func108, Tryz.ntmps108
  go_wp2_with fail
  go_ret
  exact ⟨rfl, rfl⟩
/-- What a round of the loop keeps: the box that the iterator reads. -/
def KB (Bs : Nat) (A B : World) : Prop := A.heap.size ≤ B.heap.size ∧ B.heap[Bs]? = A.heap[Bs]?
theorem KB.trans {Bs : Nat} {A B C : World} (h : KB Bs A B) (k : KB Bs B C) : KB Bs A C := ⟨Nat.le_trans h.1 k.1, k.2.trans h.2⟩
theorem KB.cell {Bs : Nat} {A B : World} (h : KB Bs A B) {v : Value} (hc : A.cell? ⟨Bs, 0, none⟩ = some v) : B.cell? ⟨Bs, 0, none⟩ = some v := by
  rw [← hc]; simp [World.cell?, h.2]
set_option maxRecDepth 100000 in
set_option maxHeartbeats 2000000 in
theorem frames1_in (n : Nat) (hn : 1 ≤ n) (l Bs : Nat) (s : ByteArray) (hs : s.size ≤ 200000) (bs : List (List UInt8)) (m er : Nat) (hsc : Scans s.data.toList bs m er) (J Jx : List (Nat × ByteArray) → World → Prop) (W : World) (hJ : AbidesFrom W.heap.size J) (hBs : Bs < W.heap.size)
    (hY : ∀ pre x W, J pre W → pre.length < bs.length → YieldAt Fence.wide (n - 1) Tryz.prog l (encP x) W fun e W' =>
      (e = .returned (.bool true) ∧ J (pre ++ [x]) W' ∧ KB Bs W W') ∨ (e = .returned (.bool false) ∧ Jx (pre ++ [x]) W'))
    (hc : W.cell? ⟨Bs, 0, none⟩ = some (.string s)) (h0 : J [] W) :
    CallsIn Fence.wide n Tryz.prog 125 #[.func (.yield l) #[] #[], .pointer (some ⟨Bs, 0, none⟩)] W fun e W' => (∃ v, e = .returned v) ∧
      ((∃ ys, ys = prs 0 bs ∧ J ys W') ∨ (∃ pre, pre <+: prs 0 bs ∧ Jx pre W')) := by
  refine callsIn_of_wp Tryz.func125 rfl trivial ?_ rfl
  simp only [Tryz.ntmps125, List.size_toArray, List.length_cons, List.length_nil, Nat.reduceAdd, Nat.reduceSub, Array.replicate_succ, Array.replicate_zero, List.push_toArray, List.append_toArray, List.nil_append, List.cons_append]
  gi_wp2
  gi_loopw [3, 4, 5, 6] (fun a _ _ _ wr => ∃ (p : Nat) (pre : List (Nat × ByteArray)) (l' : List (List UInt8)) (m' : Nat), a = .int .i64 p ∧ p ≤ s.size ∧ prs 0 bs = pre ++ prs p l' ∧ Scans (s.data.toList.drop p) l' m' er ∧ pre.length + l'.length = bs.length ∧ J pre wr ∧ wr.cell? ⟨Bs, 0, none⟩ = some (.string s) ∧ W.heap.size ≤ wr.heap.size)
    (fun a _ _ _ _ => s.size - (intOf a).toNat)
  case atStart => exact ⟨0, [], bs, m, rfl, Nat.zero_le _, rfl, hsc, by simp, h0, hc, Nat.le_refl _⟩
  case round =>
    obtain ⟨p, pre, l', m', rfl, hp, hxs, hsr, hln, hJs, hcs, hsz⟩ := hrel
    have hX := first_any (s.extract p s.size) (by rw [ByteArray.size_extract]; omega)
    have hd : (s.extract p s.size).data.toList = s.data.toList.drop p := by simp; exact List.take_of_length_le (by simp)
    rw [hd] at hX
    have hp' : (p : Int) ≤ s.size := by omega
    cases hsr with
    | stop h he =>
      rw [h] at hX
      have he' : ((er : Int) != 0) = true := by simp; omega
      gi_wp2
      refine ⟨trivial, ?_⟩
      refine (callsIn_wide.2 (hX _)).mono ?_
      rintro e w1 ⟨rfl, h1⟩
      have hJ1 : J pre w1 := hJ pre wr w1 none hJs ⟨h1.os, h1.tape, h1.output, h1.size, fun k hk _ => h1.block k hk⟩ (fun r e => by cases e)
      gi_wp2
      refine bodyPost_ret (results_none rfl _ _ _) rfl ?_
      exact ⟨⟨_, rfl⟩, .inl ⟨pre, by rw [hxs]; simp [prs], hJ1⟩⟩
    | more h hr =>
      rename_i q l'' m''
      rw [h] at hX
      have hk := fst_ok h
      have hq : p + q ≤ s.size := by have := hk.2.2.2.1; rw [List.length_drop] at this; simp at this; omega
      have hq' : (p : Int) + q ≤ s.size := by omega
      have hq8 : (p : Int) + 8 ≤ (p : Int) + q := by omega
      have hp8 : (p : Int) + 8 ≤ s.size := by omega
      have hq9 : 9 ≤ q := by omega
      obtain ⟨b, hb⟩ : ∃ b, b = ((s.data.toList.drop p).take q).drop 8 := ⟨_, rfl⟩
      have hbl : 8 + b.length = q := by rw [hb, List.length_drop, List.length_take, List.length_drop]; simp; omega
      have hbx : s.extract (p + 8) (p + q) = str b := by
        have e := str_cut s.data.toList (p + 8) (p + q)
        rw [str_of] at e
        rw [e, hb]
        congr 1
        rw [List.take_drop, List.drop_drop]
      rw [← hb] at hxs hln
      have hln' : pre.length + l''.length + 1 = bs.length := by rw [List.length_cons] at hln; omega
      clear hln
      rw [prs, hbl] at hxs
      have HK := Lib.hid (And.intro hk (And.intro hxs (And.intro hr (And.intro hb hbl))))
      have hsl : ∀ W : World, (Instr.slice 9 (.string s) (some (.int .i64 ((p : Int) + 8))) (some (.int .i64 ((p : Int) + q))) none).run Tryz.prog W = .ok (.string (str b)) W := fun W => by
        rw [run_slice_string W _ _ _ _ _ _ Tryz.underlying9 (by omega) (by omega) (by omega), show ((p : Int) + 8).toNat = p + 8 from by omega, show ((p : Int) + q).toNat = p + q from by omega, hbx]
      clear hbx
      have hbs : (str b).size ≤ 281474976710656 := by rw [str_size]; omega
      clear hk hb hxs hr h hd
      gi_wp2
      refine ⟨trivial, ?_⟩
      refine (callsIn_wide.2 (hX _)).mono ?_
      rintro e w1 ⟨rfl, h1⟩
      have hJ1 : J pre w1 := hJ pre wr w1 none hJs ⟨h1.os, h1.tape, h1.output, h1.size, fun k hk _ => h1.block k hk⟩ (fun r e => by cases e)
      have hc1 : w1.cell? ⟨Bs, 0, none⟩ = some (.string s) := (h1.cell (p := ⟨Bs, 0, none⟩) (by show Bs < _; omega)).trans hcs
      have hz1 := h1.size
      gi_wp2
      refine ⟨trivial, ?_⟩
      refine (callsIn_wide.2 (clone_any _ _ hbs)).mono ?_
      rintro e w2 ⟨rfl, h2⟩
      have hJ2 : J pre w2 := hJ pre w1 w2 none hJ1 ⟨h2.os, h2.tape, h2.output, h2.size, fun k hk _ => h2.block k hk⟩ (fun r e => by cases e)
      have hz2 := h2.size
      have hc2 : w2.cell? ⟨Bs, 0, none⟩ = some (.string s) := (h2.cell (p := ⟨Bs, 0, none⟩) (by show Bs < _; omega)).trans hc1
      obtain ⟨fn, tmps, assign, body, hy, hR⟩ := hY pre (p + q, str b) w2 hJ2 (by omega)
      have hpq : ((p + q : Nat) : Int) = (p : Int) + q := by omega
      unfold encP at hy
      rw [hpq] at hy
      gi_wp2
      refine hR.mono ?_
      rintro e W3 (⟨rfl, hJ3, hk3⟩ | ⟨rfl, hJx3⟩)
      · gi_wp2
        go_roundw
        case rel => exact ⟨p + q, pre ++ [(p + q, str b)], l'', m'', by go_num, by omega, by rw [HK.out.2.1]; simp, by rw [← List.drop_drop]; exact HK.out.2.2.1, by rw [List.length_append, List.length_singleton]; omega, hJ3, hk3.cell hc2, by have := hk3.1; omega⟩
        case measure => simp [intOf]; omega
      · gi_wp2
        refine bodyPost_ret (results_none rfl _ _ _) rfl ?_
        exact ⟨⟨_, rfl⟩, .inr ⟨pre ++ [(p + q, str b)], ⟨prs (p + q) l'', by rw [HK.out.2.1]; simp⟩, hJx3⟩⟩
end Go.Proofs.YtdmbombjkinboaaGreat
namespace Go.Proofs.YtdmbombjkinboaaGreat
open Go.RowKit Go.Shelf
open Fr
attribute [local go_sem] Oper.semAt_some

/-- Texts as cells; a slice of texts that the call made itself (in a block from B on), or nil. -/
def scells (l : List ByteArray) : List Value := l.map Value.string
theorem scells_length (l : List ByteArray) : (scells l).length = l.length := by simp [scells]
theorem scells_snoc (l : List ByteArray) (x : ByteArray) : scells (l ++ [x]) = scells l ++ [.string x] := by simp [scells]
theorem Tryz.info_str : (Tryz.prog.info? 9).map (fun i => (i.zero, i.size, i.bytes)) = some (some (.string ⟨#[]⟩), 1, 16) := by kernel_rfl
def OwnT (B : Nat) (w : World) (a : Option Addr) (cap : Nat) (l : List ByteArray) : Prop :=
  w.ownsRow B 9 1 (.slice a l.length cap) l.length (scells l)
theorem OwnT.texts {B : Nat} {w : World} {a : Option Addr} {cap : Nat} {l : List ByteArray} (h : OwnT B w a cap l) : TextsAt w a l := fun j hj => by
  rcases h.2 with ⟨e, hn⟩ | ⟨g, c, cur, e, hB, hg, hn, hc, hs, ht⟩
  · omega
  · injection e with e1 e2 e3
    subst e1 e3
    refine ⟨g, 0, rfl, (World.ownsRow.lt h g rfl).2, ?_⟩
    have := World.ownsRow.cellAt h j (by simpa using hj)
    rw [Nat.zero_add, this]
    simp [scells, hj]
theorem ownsRow_below {w w' : World} {B : Nat} {e : TypeId} {k : Nat} {v : Value} {n : Nat} {xs : List Value} (h : w.ownsRow B e k v n xs) (hb : Below w.heap.size w w') : w'.ownsRow B e k v n xs := by
  obtain ⟨h1, h2⟩ := h
  refine ⟨h1, ?_⟩
  rcases h2 with h2 | ⟨g, c, cur, e, hB, hg, h3⟩
  · exact .inl h2
  · exact .inr ⟨g, c, cur, e, hB, (hb.block g (Array.getElem?_eq_some_iff.1 hg).1).trans hg, h3⟩
theorem ownsRow_base {w : World} {B B' : Nat} {e : TypeId} {k : Nat} {v : Value} {n : Nat} {xs : List Value} (h : w.ownsRow B e k v n xs) (hB : B' ≤ B) : w.ownsRow B' e k v n xs := by
  obtain ⟨h1, h2⟩ := h
  refine ⟨h1, ?_⟩
  rcases h2 with h2 | ⟨g, c, cur, e, hb, h3⟩
  · exact .inl h2
  · exact .inr ⟨g, c, cur, e, Nat.le_trans hB hb, h3⟩
theorem OwnT.call {B : Nat} {w w' : World} {a : Option Addr} {cap : Nat} {l : List ByteArray} (h : OwnT B w a cap l) (hb : Below w.heap.size w w') : OwnT B w' a cap l := ownsRow_below h hb

/-- Where the last one ends. -/
def lastEnd : Nat → List (Nat × ByteArray) → Nat
  | p, [] => p
  | _, x :: l => lastEnd x.1 l
theorem lastEnd_snoc : ∀ (p : Nat) (pre : List (Nat × ByteArray)) (x : Nat × ByteArray), lastEnd p (pre ++ [x]) = x.1
  | _, [], _ => rfl
  | _, y :: l, x => lastEnd_snoc y.1 l x
theorem prs_texts : ∀ (p : Nat) (l : List (List UInt8)), (prs p l).map (·.2) = l.map str
  | _, [] => rfl
  | p, b :: l => by rw [prs, List.map_cons, List.map_cons, prs_texts _ l]
theorem prs_length (p : Nat) (l : List (List UInt8)) : (prs p l).length = l.length := by have := congrArg List.length (prs_texts p l); simpa using this
theorem prs_end : ∀ (p : Nat) (l : List (List UInt8)), lastEnd p (prs p l) = p + (frms l).length
  | p, [] => rfl
  | p, b :: l => by
    have h := prs_end (p + (8 + b.length)) l
    rw [frms_cons, List.length_append, frm_length, prs]
    show lastEnd (p + (8 + b.length)) (prs (p + (8 + b.length)) l) = _
    rw [h]; omega
set_option maxRecDepth 100000 in
set_option maxHeartbeats 2000000 in
theorem scan_any (s : ByteArray) (hs : s.size ≤ 200000) (bs : List (List UInt8)) (m er : Nat) (hsc : Scans s.data.toList bs m er) (w : World) :
    Calls Tryz.prog 92 #[.string s] w fun e w' => ∃ a cap, e = .returned (.tuple #[.slice a bs.length cap, .int .i64 (m : Int), .int .i64 (er : Int)]) ∧ OwnT w.heap.size w' a cap (bs.map str) ∧ Below w.heap.size w w' := by
  have hle := hsc.le
  have hfr := hsc.front
  have hml : m = (frms bs).length := by rw [← hfr.1, List.length_take]; omega
  have hbn : bs.length ≤ 200000 := by have := hle.1; simp at this; omega
  obtain ⟨i0, hi, hz0, hz1, hz2⟩ := info_parts Tryz.info_str
  refine (callsIn_wide (n := 3)).1 ?_
  refine callsIn_of_wp_marks Tryz.func92 rfl trivial ?_ rfl
  simp only [Tryz.ntmps92, List.size_toArray, List.length_cons, List.length_nil, Nat.reduceAdd, Nat.reduceSub, Array.replicate_succ, Array.replicate_zero, List.push_toArray, List.append_toArray, List.nil_append, List.cons_append]
  gi_wp2
  refine ⟨trivial, ?_⟩
  refine (callsIn_wide.2 (frames_any s _)).mono ?_
  rintro e w' ⟨rfl, rfl⟩
  have bO := Boxed.new w 30 (.slice none 0 0)
  have bA := Boxed.new (w.alloc (.cells #[.slice none 0 0] 30)) 3 (.int .i64 0)
  have bS := Boxed.new ((w.alloc (.cells #[.slice none 0 0] 30)).alloc (.cells #[.int .i64 0] 3)) 9 (.string s)
  rw [World.size_alloc] at bA
  rw [World.size_alloc, World.size_alloc] at bS
  have hB0 : Below w.heap.size w (((w.alloc (.cells #[.slice none 0 0] 30)).alloc (.cells #[.int .i64 0] 3)).alloc (.cells #[.string s] 9)) :=
    (((Below.refl _ w).alloc (Nat.le_refl _) _).alloc (by simp) _).alloc (by simp; omega) _
  obtain ⟨W0, hW0⟩ : ∃ W0, W0 = (((w.alloc (.cells #[.slice none 0 0] 30)).alloc (.cells #[.int .i64 0] 3)).alloc (.cells #[.string s] 9)) := ⟨_, rfl⟩
  have hsz0 : W0.heap.size = w.heap.size + 3 := by rw [hW0]; simp
  have bO1 : Boxed W0 w.heap.size 30 (.slice none 0 0) := by rw [hW0]; exact (bO.alloc _).alloc _
  have bA1 : Boxed W0 (w.heap.size + 1) 3 (.int .i64 0) := by rw [hW0]; exact bA.alloc _
  rw [← hW0] at bS hB0
  gi_wp2
  rw [← hW0]
  have hst : SeqStopsK Fence.wide (3 - 1) Tryz.prog 125 #[.pointer (some ⟨w.heap.size + 1 + 1, 0, none⟩)] encP (KB (w.heap.size + 1 + 1)) (fun ys => ys = prs 0 bs) (fun pre => pre <+: prs 0 bs) bs.length W0 :=
    fun l J Jx W hW hJ hJx hY h0 => frames1_in _ (by decide) l (w.heap.size + 1 + 1) s hs bs m er hsc J Jx W hJ (by have := hW.size; omega) hY ((hW.cell (p := ⟨w.heap.size + 1 + 1, 0, none⟩) (by show w.heap.size + 1 + 1 < _; omega)).trans bS.cell) h0
  refine wpIn_rangeFunc_ownG rfl (by decide) (gf := 125) (lb := #[.pointer (some ⟨w.heap.size + 1 + 1, 0, none⟩)]) rfl trivial (enters_of Tryz.func125 (by kernel_rfl) rfl)
    hst (fun h k => h.trans k) (fun W l o o' hl h1 h2 h3 => ⟨by simp, World.putObj_heap_other (by omega)⟩) (Below.refl _ _) (fun _ => rfl)
    (fun pre W => (∃ v, Boxed W w.heap.size 30 v ∧ W.ownsRow (w.heap.size + 3) 9 1 v pre.length (scells (pre.map (·.2))) ∧ True) ∧ Boxed W (w.heap.size + 1) 3 (.int .i64 (lastEnd 0 pre : Nat)) ∧ Boxed W (w.heap.size + 1 + 1) 9 (.string s) ∧ Below w.heap.size w W)
    (fun _ _ _ => False)
    (OwnFrom.and (Own.from (holdsRow_own (w.heap.size + 3) w.heap.size 30 9 1 (fun pre : List (Nat × ByteArray) => pre.length) (fun pre : List (Nat × ByteArray) => scells (pre.map (·.2))) (fun _ _ => True)) _) (OwnFrom.and (Own.from (boxed_own _ _ _) _) (OwnFrom.and (Own.from (boxed_own _ _ (fun _ => .string s)) _) (ownFrom_below (Nat.le_refl _) (by omega)))))
    (fun _ _ _ _ _ hs _ _ => hs)
    ⟨⟨_, bO1, World.ownsRow_nil _ _ _ _, trivial⟩, bA1, bS, hB0⟩
    (fun x => { tmps := #[.string s, undef, .pointer (some ⟨w.heap.size, 0, none⟩), .pointer (some ⟨w.heap.size + 1, 0, none⟩), .int .i64 0, .int .i64 (x.1 : Int), .string x.2, .string s, .func (.func 125) #[] #[.pointer (some ⟨w.heap.size + 1 + 1, 0, none⟩)], .int .i64 (x.1 : Int), .string x.2, undef, undef, undef, undef, undef, undef, undef, undef, undef, undef, undef, undef, undef, undef, undef], defers := [] }) ?assign ?body ?done ?stop
  case assign =>
    intro l x W K hK
    simp only [encP]
    gi_wp2
    exact hK
  case body =>
    rintro l pre x W ⟨⟨v, hv, hrow, -⟩, hA, hS, hB⟩ hlt
    have hc := hv.cell
    have hca := hA.cell
    have hfa := hA.frozen
    have hWz : w.heap.size + 3 ≤ W.heap.size := by have := hS.lt; omega
    have hne : (w.heap.size : Nat) ≠ w.heap.size + 1 := by omega
    gi_wp2_with (gi_at_builtin; refine wpListIn_append_own _ rfl _ _ 30 rfl (w.heap.size + 3) 9 i0 (.string ⟨#[]⟩) 1 16 Tryz.underlying30 hi hz0 hz1 hz2 rfl (by decide) _ _ _ rfl (hrow.alloc _) ⟨W.heap.size, 0, none⟩ 1 1 [.string x.2] rfl rfl (cell_one_new _ _ _) (by simp [Value.oneCell']) (by unfold maxLen; omega) (by omega) (by simp; omega) ?_; intro v' w1 hown' hgrow _; obtain ⟨g', cap', rfl⟩ := ownsRow_succ hown'; obtain ⟨hv1, hv2, hr2, hk2, hb2⟩ := hv.appended (by decide) (ownsRow_base hrow (by omega)) hB.size (Nat.le_refl _) (ownsRow_base hown' (by omega)) hgrow; have hc1 := hv1.cell; have hf1 := hv1.frozen; have hA1 : Boxed w1 (w.heap.size + 1) 3 _ := (hA.alloc _).kept hgrow (hA.not_row (by decide) hrow); have hca1 := hA1.cell; have hfa1 := hA1.frozen)
    have hr3 := hown'.kept (grownBy_setCell' w1 w.heap.size (.slice (some ⟨g', 0, none⟩) (pre.length + 1) cap')) (.inr (hv1.not_row (by decide) hown').symm)
    have hv3 := hv2
    have hA3 := hA1.kept (grownBy_setCell' w1 w.heap.size (.slice (some ⟨g', 0, none⟩) (pre.length + 1) cap')) (fun e => by injection e; omega)
    have hS1 : Boxed w1 (w.heap.size + 1 + 1) 9 (.string s) := (hS.alloc _).kept hgrow (fun e => by have := hrow.lt _ e.symm; omega)
    have hS3 := hS1.kept (grownBy_setCell' w1 w.heap.size (.slice (some ⟨g', 0, none⟩) (pre.length + 1) cap')) (fun e => by injection e; omega)
    obtain ⟨W3, hW3⟩ : ∃ W3, W3 = w1.setCell ⟨w.heap.size, 0, none⟩ (.slice (some ⟨g', 0, none⟩) (pre.length + 1) cap') := ⟨_, rfl⟩
    rw [← hW3] at hr3 hv3 hA3 hS3 hk2 hb2
    rw [← hW3]
    have hg4 := grownBy_setCell' W3 (w.heap.size + 1) (.int .i64 (x.1 : Int))
    have hS4 := hS3.kept hg4 (fun e => by injection e; omega)
    refine ⟨(hk2.from _).trans ((KeepsOthers.setCell _ _ _).from _), ⟨Nat.le_trans hk2.size (by simp), ?_⟩, ⟨_, hv3.kept hg4 (fun e => by injection e; omega), ?_, trivial⟩, ?_, hS4, hB.trans (hb2.setCell (p := ⟨w.heap.size + 1, 0, none⟩) (Nat.le_succ _) _)⟩
    · rw [show _ = _ from hS4, show _ = _ from hS]
    · have := hr3.kept hg4 (.inr (hA3.not_row (by decide) hr3).symm)
      rw [List.length_append, List.length_singleton, List.map_append, List.map_singleton, scells_snoc]
      exact this
    · rw [lastEnd_snoc]; exact hA3.set _
  case done =>
    rintro D ys W hD hys ⟨⟨v, hv, hrow, -⟩, hA, hS, hB⟩ hK
    have e1 : lastEnd 0 ys = m := by rw [hys, prs_end, hml]; omega
    have e2 : ys.map (·.2) = bs.map str := by rw [hys, prs_texts]
    have e3 : ys.length = bs.length := by rw [hys, prs_length]
    rw [e1] at hA
    rw [e2, e3] at hrow
    clear e1 e2 e3 hys hst bO1 bA1 hB0 bS bO bA hW0
    obtain ⟨a, cap, rfl⟩ : ∃ a cap, v = .slice a bs.length cap := by
      rcases hrow.2 with ⟨e, hn⟩ | ⟨g, c, cur, e, _⟩
      · exact ⟨_, _, by rw [e, hn]⟩
      · exact ⟨_, _, e⟩
    have hX := first_any (s.extract m s.size) (by rw [ByteArray.size_extract]; omega)
    have hd : (s.extract m s.size).data.toList = s.data.toList.drop m := by simp; exact List.take_of_length_le (by simp)
    rw [hd] at hX
    have he : fst (s.data.toList.drop m) = ((fst (s.data.toList.drop m)).1, er) := by rw [← hfr.2.2]
    obtain ⟨q, hq⟩ : ∃ q, q = (fst (s.data.toList.drop m)).1 := ⟨_, rfl⟩
    rw [← hq] at he
    rw [he] at hX
    have hms : (m : Int) ≤ s.size := by have := hle.1; simp at this; omega
    clear he hq hd hfr hle hml hsc
    have hc := hv.cell
    have hca := hA.cell
    have hfa := hA.frozen
    have hf := hv.frozen
    gi_wp2
    refine ⟨trivial, ?_⟩
    refine (callsIn_wide.2 (hX _)).mono ?_
    rintro e w3 ⟨rfl, h3⟩
    gi_wp2
    have hK3 : w3.heap[D]? = some (.deferred (some [])) := (h3.block D (Array.getElem?_eq_some_iff.1 hK).1).trans hK
    have hv3 : Boxed w3 w.heap.size 30 _ := (h3.block _ hv.lt).trans hv
    have hA3 : Boxed w3 (w.heap.size + 1) 3 _ := (h3.block _ hA.lt).trans hA
    have hr3 := ownsRow_below hrow h3
    have hB3 : Below w.heap.size w w3 := below_call hB h3
    clear hc hca hfa hf hv hA hrow hB hK hX hS h3
    have hc := hv3.cell
    have hca := hA3.cell
    have hfa := hA3.frozen
    have hf := hv3.frozen
    have hne : (w.heap.size : Nat) ≠ w.heap.size + 1 := by omega
    refine wpIn_wide.2 ?_
    go_region
    all_goals gi_wp2
    have hr4 := (hr3.kept (grownBy_setCell' w3 w.heap.size (.slice a bs.length cap)) (.inr (hv3.not_row (by decide) hr3).symm))
    have hA4 := hA3.kept (grownBy_setCell' w3 w.heap.size (.slice a bs.length cap)) (fun e => by injection e; omega)
    have hr5 := (hr4.kept (grownBy_setCell' _ (w.heap.size + 1) (.int .i64 m)) (.inr (hA4.not_row (by decide) hr4).symm))
    have hv4 := hv3.set (.slice a bs.length cap)
    have hv5 := hv4.kept (grownBy_setCell' _ (w.heap.size + 1) (.int .i64 m)) (fun e => by injection e; omega)
    have hA5 := hA4.set (.int .i64 m)
    have hB5 := (hB3.setCell (p := ⟨w.heap.size, 0, none⟩) (Nat.le_refl _) (.slice a bs.length cap)).setCell (p := ⟨w.heap.size + 1, 0, none⟩) (Nat.le_succ _) (.int .i64 m)
    have hK5 := (KeepsOthers.setCell (w3.setCell ⟨w.heap.size, 0, none⟩ (.slice a bs.length cap)) ⟨w.heap.size + 1, 0, none⟩ (.int .i64 m)).same D _ ((KeepsOthers.setCell w3 ⟨w.heap.size, 0, none⟩ (.slice a bs.length cap)).same D _ hK3 rfl) rfl
    obtain ⟨W5, hW5⟩ : ∃ W5, W5 = (w3.setCell ⟨w.heap.size, 0, none⟩ (.slice a bs.length cap)).setCell ⟨w.heap.size + 1, 0, none⟩ (.int .i64 m) := ⟨_, rfl⟩
    rw [← hW5] at hr5 hv5 hA5 hB5 hK5
    rw [← hW5]
    clear hW5 hr4 hA4 hv4 hB3 hr3 hA3 hv3 hK3 hc hca hfa hf
    have hK6 : W5.drew.heap[D]? = some (.deferred (some [])) := hK5
    refine ⟨by simp, .inl ⟨_, _, rfl, run_takeDeferred hK6, ?_⟩⟩
    have q0 : (W5.drew.putObj D (.deferred none)).cell? ⟨w.heap.size, 0, none⟩ = some (.slice a bs.length cap) := cell_kept (W := W5.drew) hv5.cell (grownBy_putObj' W5.drew D (.deferred none)) (fun r e => by cases e; exact ⟨_, hK6, rfl⟩)
    have q1 : (W5.drew.putObj D (.deferred none)).cell? ⟨w.heap.size + 1, 0, none⟩ = some (.int .i64 m) := cell_kept (W := W5.drew) hA5.cell (grownBy_putObj' W5.drew D (.deferred none)) (fun r e => by cases e; exact ⟨_, hK6, rfl⟩)
    refine ⟨.tuple #[.slice a bs.length cap, .int .i64 m, .int .i64 er], ?_, a, cap, rfl, ?_, ?_⟩
    · simp [results, Tryz.results92, go_sem, q0, q1]
    · unfold OwnT
      have hr6 : W5.drew.ownsRow (w.heap.size + 3) 9 1 (.slice a bs.length cap) bs.length (scells (bs.map str)) := hr5
      have := ownsRow_putObj (ownsRow_base hr6 (B' := w.heap.size) (by omega)) (.deferred none) hK6 rfl
      rw [List.length_map]
      exact this
    · exact hB5.drew.trans (belowK_b (w := w) (Nat.le_refl _) W5.drew D _ _ (by omega) hK6 rfl rfl)
  case stop =>
    rintro D c pre W _ _ h _
    exact h.elim
end Go.Proofs.YtdmbombjkinboaaGreat
namespace Go.Proofs.YtdmbombjkinboaaGreat
open Go.RowKit
/-- append of one text. -/
theorem wpList_append_text {ops : Array Oper} {rest : List Oper} {o : Oper} {act : Act} {Q : Exit → Act → World → Prop} {w w0 : World} (hgd : o.guard = none) (s x : Operand)
    (ho : o.op = .call { callee := .builtin .append, args := #[s, x], argTypes := #[30, 30] })
    {B : Nat} {a : Option Addr} {cap0 : Nat} {l : List ByteArray} (hown : OwnT B w a cap0 l) (n : Nat) (hn : l.length = n) (hs : act.eval s = .slice a n cap0)
    (g c' : Nat) (c : ByteArray) (hx : act.eval x = .slice (some ⟨g, 0, none⟩) 1 c') (hc : w.cell? ⟨g, 0, none⟩ = some (.string c))
    (hlen : n < 1000000) (hbase : B ≤ w.heap.size) (hb0 : Below B w0 w)
    (h : ∀ g cap w', OwnT B w' (some ⟨g, 0, none⟩) cap (l ++ [c]) → Below B w0 w' → w.grownBy w' (Value.slice a l.length cap0).ownBlock → wpList Tryz.prog ops Q rest (act.put o.dst (.slice (some ⟨g, 0, none⟩) (n + 1) cap)) w') : wpList Tryz.prog ops Q (o :: rest) act w := by
  subst hn
  obtain ⟨i0, hi0, hz0, hz1, hz2⟩ := info_parts Tryz.info_str
  refine wpList_append_lies w hgd s x 30 ho B 9 i0 _ 1 16 Tryz.underlying30 hi0 hz0 hz1 hz2 rfl (by decide) (.slice a l.length cap0) l.length (scells l) hs hown ⟨g, 0, none⟩ 1 c' [.string c] hx rfl
    (fun j u hj => ?_) (by simp [Value.oneCell']) (by decide) (by unfold maxLen; omega) (by omega) hbase w.heap.size rfl (fun g cap w' h1 h2 _ _ => h g cap w' ?_ ?_ h2)
  · match j, hj with
    | 0, hj =>
      simp at hj
      subst hj
      rw [show (⟨g, 0, none⟩ : Addr).add 0 = ⟨g, 0, none⟩ from by simp [Addr.add]]
      exact hc
  · unfold OwnT
    rw [scells_snoc, List.length_append]; exact h1
  · exact hb0.grown h2 hbase (fun k hk => (World.ownsRow.lt hown k hk).1)

theorem OwnT.lt {B : Nat} {w : World} {a : Option Addr} {cap : Nat} {l : List ByteArray} (h : OwnT B w a cap l) {k : Nat} (e : (Value.slice a l.length cap).ownBlock = some k) : B ≤ k ∧ k < w.heap.size := World.ownsRow.lt h k e
theorem OwnT.nil (B : Nat) (w : World) : OwnT B w none 0 [] := World.ownsRow_nil _ _ _ _
theorem OwnT.alloc {B : Nat} {w : World} {a : Option Addr} {cap : Nat} {l : List ByteArray} (h : OwnT B w a cap l) (o : Obj) : OwnT B (w.alloc o) a cap l := World.ownsRow.alloc h o
theorem OwnT.base {B B' : Nat} {w : World} {a : Option Addr} {cap : Nat} {l : List ByteArray} (h : OwnT B w a cap l) (hB : B' ≤ B) : OwnT B' w a cap l := ownsRow_base h hB
/-- A cell of another block is another one now. -/
theorem OwnT.set {B : Nat} {w : World} {a : Option Addr} {cap : Nat} {l : List ByteArray} (h : OwnT B w a cap l) (p : Addr) (v : Value) (hp : p.block < B) : OwnT B (w.setCell p v) a cap l := by
  obtain ⟨h1, h2⟩ := h
  refine ⟨h1, ?_⟩
  rcases h2 with h2 | ⟨g, c, cur, e, hb, hg, h3⟩
  · exact .inl h2
  · exact .inr ⟨g, c, cur, e, hb, (Below.heap_setCell _ _ _ g (by omega)).trans hg, h3⟩
theorem OwnT.drew {B : Nat} {w : World} {a : Option Addr} {cap : Nat} {l : List ByteArray} (h : OwnT B w a cap l) : OwnT B w.drew a cap l := h
end Go.Proofs.YtdmbombjkinboaaGreat
