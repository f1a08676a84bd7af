/- TrJoin, what is wanted of it. -/
import Derived.Test.YtdfkpjmljaanpaaGreatDoorZMT2
import Derived.Test.YtdfkpjmljaanpaaGreatDoorZMT3
import Derived.Deep.DeepCutAuto
namespace Go.Proofs.YtdfkpjmljaanpaaGreatDoor
open Go.RowKit
open Tr
/-- Where a way led so far: the row at block g, the two lists that it holds, apart from one another. -/
structure CSt (w0 : World) (r : ByteArray) (T LF : List ByteArray) (W : World) : Prop where
  below : Below w0.heap.size w0 W
  has : ∃ ta tc la lc, W.heap[w0.heap.size]? = some (.cells #[.string r, .slice ta T.length tc, .slice la LF.length lc] 290 (0, 0)) ∧ OwnT (w0.heap.size + 1) W ta tc T ∧ OwnT (w0.heap.size + 1) W la lc LF ∧
    ∀ x, (Value.slice ta T.length tc).ownBlock = some x → (Value.slice la LF.length lc).ownBlock ≠ some x
theorem jrow3 {W : World} {g : Nat} {a b c : Value} {t : TypeId} (h : W.heap[g]? = some (.cells #[a, b, c] t (0, 0))) :
    W.cell? ⟨g, 0, none⟩ = some a ∧ W.cell? ⟨g, 1, none⟩ = some b ∧ W.cell? ⟨g, 2, none⟩ = some c ∧ ∀ j, W.frozen? ⟨g, j, none⟩ = false := by
  refine ⟨?_, ?_, ?_, fun j => frozen_of_row _ _ _ _ _ h⟩ <;> (rw [cell_of_row _ _ _ _ _ _ h]; rfl)
theorem OwnT.put {B : Nat} {W : World} {a : Option Addr} {cap : Nat} {l : List ByteArray} (h : OwnT B W a cap l) {g : Nat} (hg : g < B) (o : Nat) (v : Value) : OwnT B (W.setCell ⟨g, o, none⟩ v) a cap l := by
  obtain ⟨h1, h2⟩ := h
  refine ⟨h1, ?_⟩
  rcases h2 with h2 | ⟨k, c, cur, e, hB, hk, h3⟩
  · exact .inl h2
  · exact .inr ⟨k, c, cur, e, hB, (heap_setCell_other W _ k v (show k ≠ g by omega)).trans hk, h3⟩
theorem below_setCell' {B : Nat} {w0 w : World} {g : Nat} (hb : Below B w0 w) (hg : B ≤ g) (o : Nat) (v : Value) : Below B w0 (w.setCell ⟨g, o, none⟩ v) := hb.setCell hg v
theorem CSt.call {w0 W W' : World} {r : ByteArray} {T LF : List ByteArray} (h : CSt w0 r T LF W) (hb : Below W.heap.size W W') : CSt w0 r T LF W' := by
  obtain ⟨ta, tc, la, lc, hg, hO, hP, hd⟩ := h.has
  exact ⟨h.below.trans (hb.mono h.below.size), ta, tc, la, lc, (hb.block _ (Array.getElem?_eq_some_iff.1 hg).1).trans hg, hO.call hb, hP.call hb, hd⟩
theorem CSt.lt {w0 W : World} {r : ByteArray} {T LF : List ByteArray} (h : CSt w0 r T LF W) : w0.heap.size < W.heap.size := by
  obtain ⟨ta, tc, la, lc, hg, -⟩ := h.has
  exact (Array.getElem?_eq_some_iff.1 hg).1
/-- The root is set. -/
theorem CSt.root {w0 W : World} {r : ByteArray} {T LF : List ByteArray} (h : CSt w0 r T LF W) (r' : ByteArray) : CSt w0 r' T LF (W.setCell ⟨w0.heap.size, 0, none⟩ (.string r')) := by
  obtain ⟨ta, tc, la, lc, hg, hO, hP, hd⟩ := h.has
  exact ⟨below_setCell' h.below (Nat.le_refl _) _ _, ta, tc, la, lc, heap_setCell_same _ _ _ _ _ _ hg, hO.put (by omega) _ _, hP.put (by omega) _ _, hd⟩
/-- The texts have grown. -/
theorem CSt.texts {w0 W W' : World} {r : ByteArray} {T LF ls : List ByteArray} {ta la : Option Addr} {tc lc : Nat} (hb : Below w0.heap.size w0 W) (hg : W.heap[w0.heap.size]? = some (.cells #[.string r, .slice ta T.length tc, .slice la LF.length lc] 290 (0, 0)))
    (hO : OwnT (w0.heap.size + 1) W ta tc T) (hP : OwnT (w0.heap.size + 1) W la lc LF) (hd : ∀ x, (Value.slice ta T.length tc).ownBlock = some x → (Value.slice la LF.length lc).ownBlock ≠ some x)
    {ad : Option Addr} {cp : Nat} (hA : AppT (w0.heap.size + 1) W W' ta tc T ls ad cp) : W'.heap[w0.heap.size]? = some (.cells #[.string r, .slice ta T.length tc, .slice la LF.length lc] 290 (0, 0)) ∧
    CSt w0 r (T ++ ls) LF (W'.setCell ⟨w0.heap.size, 1, none⟩ (.slice ad (T.length + ls.length) cp)) := by
  have hlt := (Array.getElem?_eq_some_iff.1 hg).1
  have hg' : W'.heap[w0.heap.size]? = some (.cells #[.string r, .slice ta T.length tc, .slice la LF.length lc] 290 (0, 0)) := by
    refine (hA.grown.block _ hlt fun e => ?_).trans hg
    have := (World.ownsRow.lt hO _ e.symm).1; omega
  refine ⟨hg', below_setCell' (hb.grown hA.grown hb.size (fun k hk => by have := (World.ownsRow.lt hO k hk).1; omega)) (Nat.le_refl _) _ _, ad, cp, la, lc, ?_, hA.own.put (by omega) _ _, (hP.beside hA.grown (fun g e => hd g e)).put (by omega) _ _, fun x hx hy => ?_⟩
  · rw [List.length_append]; exact heap_setCell_same _ _ _ _ _ _ hg'
  · rcases hA.lies x hx with h | h
    · exact hd x h hy
    · have := (World.ownsRow.lt hP x hy).2; omega
/-- What stood to the left has grown. -/
theorem CSt.lefts {w0 W W' : World} {r : ByteArray} {T LF ls : List ByteArray} {ta la : Option Addr} {tc lc : Nat} (hb : Below w0.heap.size w0 W) (hg : W.heap[w0.heap.size]? = some (.cells #[.string r, .slice ta T.length tc, .slice la LF.length lc] 290 (0, 0)))
    (hO : OwnT (w0.heap.size + 1) W ta tc T) (hP : OwnT (w0.heap.size + 1) W la lc LF) (hd : ∀ x, (Value.slice ta T.length tc).ownBlock = some x → (Value.slice la LF.length lc).ownBlock ≠ some x)
    {ad : Option Addr} {cp : Nat} (hA : AppT (w0.heap.size + 1) W W' la lc LF ls ad cp) : W'.heap[w0.heap.size]? = some (.cells #[.string r, .slice ta T.length tc, .slice la LF.length lc] 290 (0, 0)) ∧
    CSt w0 r T (LF ++ ls) (W'.setCell ⟨w0.heap.size, 2, none⟩ (.slice ad (LF.length + ls.length) cp)) := by
  have hlt := (Array.getElem?_eq_some_iff.1 hg).1
  have hg' : W'.heap[w0.heap.size]? = some (.cells #[.string r, .slice ta T.length tc, .slice la LF.length lc] 290 (0, 0)) := by
    refine (hA.grown.block _ hlt fun e => ?_).trans hg
    have := (World.ownsRow.lt hP _ e.symm).1; omega
  refine ⟨hg', below_setCell' (hb.grown hA.grown hb.size (fun k hk => by have := (World.ownsRow.lt hP k hk).1; omega)) (Nat.le_refl _) _ _, ta, tc, ad, cp, ?_, (hO.beside hA.grown (fun g e => fun e2 => hd g e2 e)).put (by omega) _ _, hA.own.put (by omega) _ _, fun x hx hy => ?_⟩
  · rw [List.length_append]; exact heap_setCell_same _ _ _ _ _ _ hg'
  · rcases hA.lies x hy with h | h
    · exact hd x hx h
    · have := (World.ownsRow.lt hO x hx).2; omega
set_option maxRecDepth 100000 in
set_option maxHeartbeats 1000000 in
theorem join_any {w0 W : World} {r : ByteArray} {T LF : List ByteArray} (h : CSt w0 r T LF W) (hG : Glob w0) (a b : ByteArray) (ha : a.size ≤ 100000) (hb : b.size ≤ 100000) (hT : T.length ≤ 1000000) :
    Calls Tryz.prog 223 #[.pointer (some ⟨w0.heap.size, 0, none⟩), .string a, .string b] W fun e W' => e = .returned (.tuple #[]) ∧ CSt w0 (node a b) (T ++ [nodeT a b]) LF W' := by
  obtain ⟨ta, tc, la, lc, hg, hO, hP, hd⟩ := h.has
  obtain ⟨q0, q1, q2, qf⟩ := jrow3 hg
  have nt := fun W => nodeText_any a b ha hb W
  have hns := nodeT_size a b
  obtain ⟨X, hX⟩ : ∃ X, X = nodeT a b := ⟨_, rfl⟩
  have ds := fun W hG => dsum_any X (by rw [hX]; omega) W hG
  have hnd : node a b = str (sha X.data.toList) := by rw [hX]; rfl
  rw [← hX] at nt ⊢
  obtain ⟨N, hN⟩ : ∃ N, N = node a b := ⟨_, rfl⟩
  rw [← hnd, ← hN] at ds
  rw [← hN]
  obtain ⟨n, hn⟩ : ∃ n, n = T.length := ⟨_, rfl⟩
  rw [← hn] at hT q1
  have H := Lib.hid (And.intro h.below (And.intro hg (And.intro hO (And.intro hP (And.intro hd (And.intro nt (And.intro ds hn)))))))
  have HG := Lib.hid hG
  clear hg hO hP hd nt ds hns hX hnd hN hn ha hb h hG
  go_enter Tryz.func223, Tryz.ntmps223
  go_wp2_with fail
  refine (H.out.2.2.2.2.2.1 _).mono ?_
  rintro e w1 ⟨rfl, rfl⟩
  have hlt := (Array.getElem?_eq_some_iff.1 H.out.2.1).1
  have hba : Below w1.heap.size w1 (w1.alloc (.cells #[.string X] 9)) := (Below.refl _ _).alloc (Nat.le_refl _) _
  have hg2 := (hba.block _ hlt).trans H.out.2.1
  have HA := Lib.hid (And.intro (H.out.1.trans (hba.mono H.out.1.size)) (And.intro hg2 (And.intro (OwnT.call H.out.2.2.1 hba) (And.intro (OwnT.call H.out.2.2.2.1 hba) (show w0.heap.size + 1 ≤ (w1.alloc (.cells #[.string X] 9)).heap.size from by rw [World.size_alloc]; omega)))))
  clear hba hg2 hlt
  go_wp2_with (at_builtin; (refine wpList_append_texts3 rfl (.tmp 14) (.tmp 16) rfl HA.out.2.2.1 _ H.out.2.2.2.2.2.2.2.symm rfl _ _ 1 [X] rfl rfl (texts_one w1 X) (by omega) HA.out.2.2.2.2 ?_; intro ad cp w4 hA; obtain ⟨hg4, hS⟩ := CSt.texts HA.out.1 HA.out.2.1 HA.out.2.2.1 HA.out.2.2.2.1 H.out.2.2.2.2.1 hA; rw [show T.length + [X].length = n + 1 by rw [← H.out.2.2.2.2.2.2.2]; rfl] at hS; obtain ⟨p0, p1, p2, pf⟩ := jrow3 hg4; have HC := Lib.hid hS; clear hA hg4 hS))
  generalize World.setCell _ _ _ = w5 at *
  refine (H.out.2.2.2.2.2.2.1 _ (HG.out.below HC.out.below)).mono ?_
  rintro e w6 ⟨rfl, hb⟩
  have hS6 := HC.out.call hb
  obtain ⟨ta6, tc6, la6, lc6, hg6, -⟩ := hS6.has
  obtain ⟨r0, r1, r2, rf⟩ := jrow3 hg6
  have HD := Lib.hid (CSt.root hS6 N)
  clear hb hS6 hg6 p0 p1 p2 pf q0 q1 q2 qf
  go_wp2_with fail
  go_end0
  exact ⟨rfl, HD.out⟩
end Go.Proofs.YtdfkpjmljaanpaaGreatDoor
