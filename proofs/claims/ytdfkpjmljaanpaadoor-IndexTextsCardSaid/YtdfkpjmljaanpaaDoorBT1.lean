/- Merged by program: (*tree.climbed).join: one node further up. | tree.climb: where a way leads. | tree.isNoDigest, slices.ContainsFunc of it; tree.Climb, Stands. | tree.Climb, of any numbers; what index.summed makes of it. | Rows that are shown, in memory; lockboxlaw18.FewProof. | lockboxlaw18.shown. | index.summed: the texts that are summed for a row of a proof. -/
import Derived.Test.YtdfkpjmljaanpaaDoorMT2
import Derived.Test.YtdfkpjmljaanpaaDoorMT3
import Derived.Deep.DeepCutAuto
import Derived.Deep.RegionHeld
import Derived.ScopeJumps
import Derived.Test.YtdfkpjmljaanpaaDoorMX1
import Derived.Test.YtdfkpjmljaanpaaDoorFewer
import Derived.Test.YtdfkpjmljaanpaaDoorMB
import Derived.Test.YtdfkpjmljaanpaaDoorMX3
import Derived.Test.YtdfkpjmljaanpaaDoorMX9
namespace Go.Proofs.YtdfkpjmljaanpaaDoor
open Go.RowKit
open Tr
/-- Where a way led so far: the row at block g, the two lists that it holds, apart from one another. -/
structure CSt (w0 : World) (r : ByteArray) (T LF : List ByteArray) (W : World) : Prop where
  below : Below w0.heap.size w0 W
  has : ∃ ta tc la lc, W.heap[w0.heap.size]? = some (.cells #[.string r, .slice ta T.length tc, .slice la LF.length lc] 143 (0, 0)) ∧ OwnT (w0.heap.size + 1) W ta tc T ∧ OwnT (w0.heap.size + 1) W la lc LF ∧
    ∀ x, (Value.slice ta T.length tc).ownBlock = some x → (Value.slice la LF.length lc).ownBlock ≠ some x
theorem jrow3 {W : World} {g : Nat} {a b c : Value} {t : TypeId} (h : W.heap[g]? = some (.cells #[a, b, c] t (0, 0))) :
    W.cell? ⟨g, 0, none⟩ = some a ∧ W.cell? ⟨g, 1, none⟩ = some b ∧ W.cell? ⟨g, 2, none⟩ = some c ∧ ∀ j, W.frozen? ⟨g, j, none⟩ = false := by
  refine ⟨?_, ?_, ?_, fun j => frozen_of_row _ _ _ _ _ h⟩ <;> (rw [cell_of_row _ _ _ _ _ _ h]; rfl)
theorem OwnT.put {B : Nat} {W : World} {a : Option Addr} {cap : Nat} {l : List ByteArray} (h : OwnT B W a cap l) {g : Nat} (hg : g < B) (o : Nat) (v : Value) : OwnT B (W.setCell ⟨g, o, none⟩ v) a cap l := by
  obtain ⟨h1, h2⟩ := h
  refine ⟨h1, ?_⟩
  rcases h2 with h2 | ⟨k, c, cur, e, hB, hk, h3⟩
  · exact .inl h2
  · exact .inr ⟨k, c, cur, e, hB, (heap_setCell_other W _ k v (show k ≠ g by omega)).trans hk, h3⟩
theorem below_setCell' {B : Nat} {w0 w : World} {g : Nat} (hb : Below B w0 w) (hg : B ≤ g) (o : Nat) (v : Value) : Below B w0 (w.setCell ⟨g, o, none⟩ v) := hb.setCell hg v
theorem CSt.call {w0 W W' : World} {r : ByteArray} {T LF : List ByteArray} (h : CSt w0 r T LF W) (hb : Below W.heap.size W W') : CSt w0 r T LF W' := by
  obtain ⟨ta, tc, la, lc, hg, hO, hP, hd⟩ := h.has
  exact ⟨h.below.trans (hb.mono h.below.size), ta, tc, la, lc, (hb.block _ (Array.getElem?_eq_some_iff.1 hg).1).trans hg, hO.call hb, hP.call hb, hd⟩
theorem CSt.lt {w0 W : World} {r : ByteArray} {T LF : List ByteArray} (h : CSt w0 r T LF W) : w0.heap.size < W.heap.size := by
  obtain ⟨ta, tc, la, lc, hg, -⟩ := h.has
  exact (Array.getElem?_eq_some_iff.1 hg).1
/-- The root is set. -/
theorem CSt.root {w0 W : World} {r : ByteArray} {T LF : List ByteArray} (h : CSt w0 r T LF W) (r' : ByteArray) : CSt w0 r' T LF (W.setCell ⟨w0.heap.size, 0, none⟩ (.string r')) := by
  obtain ⟨ta, tc, la, lc, hg, hO, hP, hd⟩ := h.has
  exact ⟨below_setCell' h.below (Nat.le_refl _) _ _, ta, tc, la, lc, heap_setCell_same _ _ _ _ _ _ hg, hO.put (by omega) _ _, hP.put (by omega) _ _, hd⟩
/-- The texts have grown. -/
theorem CSt.texts {w0 W W' : World} {r : ByteArray} {T LF ls : List ByteArray} {ta la : Option Addr} {tc lc : Nat} (hb : Below w0.heap.size w0 W) (hg : W.heap[w0.heap.size]? = some (.cells #[.string r, .slice ta T.length tc, .slice la LF.length lc] 143 (0, 0)))
    (hO : OwnT (w0.heap.size + 1) W ta tc T) (hP : OwnT (w0.heap.size + 1) W la lc LF) (hd : ∀ x, (Value.slice ta T.length tc).ownBlock = some x → (Value.slice la LF.length lc).ownBlock ≠ some x)
    {ad : Option Addr} {cp : Nat} (hA : AppT (w0.heap.size + 1) W W' ta tc T ls ad cp) : W'.heap[w0.heap.size]? = some (.cells #[.string r, .slice ta T.length tc, .slice la LF.length lc] 143 (0, 0)) ∧
    CSt w0 r (T ++ ls) LF (W'.setCell ⟨w0.heap.size, 1, none⟩ (.slice ad (T.length + ls.length) cp)) := by
  have hlt := (Array.getElem?_eq_some_iff.1 hg).1
  have hg' : W'.heap[w0.heap.size]? = some (.cells #[.string r, .slice ta T.length tc, .slice la LF.length lc] 143 (0, 0)) := by
    refine (hA.grown.block _ hlt fun e => ?_).trans hg
    have := (World.ownsRow.lt hO _ e.symm).1; omega
  refine ⟨hg', below_setCell' (hb.grown hA.grown hb.size (fun k hk => by have := (World.ownsRow.lt hO k hk).1; omega)) (Nat.le_refl _) _ _, ad, cp, la, lc, ?_, hA.own.put (by omega) _ _, (hP.beside hA.grown (fun g e => hd g e)).put (by omega) _ _, fun x hx hy => ?_⟩
  · rw [List.length_append]; exact heap_setCell_same _ _ _ _ _ _ hg'
  · rcases hA.lies x hx with h | h
    · exact hd x h hy
    · have := (World.ownsRow.lt hP x hy).2; omega
/-- What stood to the left has grown. -/
theorem CSt.lefts {w0 W W' : World} {r : ByteArray} {T LF ls : List ByteArray} {ta la : Option Addr} {tc lc : Nat} (hb : Below w0.heap.size w0 W) (hg : W.heap[w0.heap.size]? = some (.cells #[.string r, .slice ta T.length tc, .slice la LF.length lc] 143 (0, 0)))
    (hO : OwnT (w0.heap.size + 1) W ta tc T) (hP : OwnT (w0.heap.size + 1) W la lc LF) (hd : ∀ x, (Value.slice ta T.length tc).ownBlock = some x → (Value.slice la LF.length lc).ownBlock ≠ some x)
    {ad : Option Addr} {cp : Nat} (hA : AppT (w0.heap.size + 1) W W' la lc LF ls ad cp) : W'.heap[w0.heap.size]? = some (.cells #[.string r, .slice ta T.length tc, .slice la LF.length lc] 143 (0, 0)) ∧
    CSt w0 r T (LF ++ ls) (W'.setCell ⟨w0.heap.size, 2, none⟩ (.slice ad (LF.length + ls.length) cp)) := by
  have hlt := (Array.getElem?_eq_some_iff.1 hg).1
  have hg' : W'.heap[w0.heap.size]? = some (.cells #[.string r, .slice ta T.length tc, .slice la LF.length lc] 143 (0, 0)) := by
    refine (hA.grown.block _ hlt fun e => ?_).trans hg
    have := (World.ownsRow.lt hP _ e.symm).1; omega
  refine ⟨hg', below_setCell' (hb.grown hA.grown hb.size (fun k hk => by have := (World.ownsRow.lt hP k hk).1; omega)) (Nat.le_refl _) _ _, ta, tc, ad, cp, ?_, (hO.beside hA.grown (fun g e => fun e2 => hd g e2 e)).put (by omega) _ _, hA.own.put (by omega) _ _, fun x hx hy => ?_⟩
  · rw [List.length_append]; exact heap_setCell_same _ _ _ _ _ _ hg'
  · rcases hA.lies x hy with h | h
    · exact hd x hx h
    · have := (World.ownsRow.lt hO x hx).2; omega
set_option maxRecDepth 100000 in
set_option maxHeartbeats 1000000 in
theorem join_any {w0 W : World} {r : ByteArray} {T LF : List ByteArray} (h : CSt w0 r T LF W) (hG : Glob w0) (a b : ByteArray) (ha : a.size ≤ 100000) (hb : b.size ≤ 100000) (hT : T.length ≤ 1000000) :
    Calls Tryd.prog 105 #[.pointer (some ⟨w0.heap.size, 0, none⟩), .string a, .string b] W fun e W' => e = .returned (.tuple #[]) ∧ CSt w0 (node a b) (T ++ [nodeT a b]) LF W' := by
  obtain ⟨ta, tc, la, lc, hg, hO, hP, hd⟩ := h.has
  obtain ⟨q0, q1, q2, qf⟩ := jrow3 hg
  have nt := fun W => nodeText_any a b ha hb W
  have hns := nodeT_size a b
  obtain ⟨X, hX⟩ : ∃ X, X = nodeT a b := ⟨_, rfl⟩
  have ds := fun W hG => dsum_any X (by rw [hX]; omega) W hG
  have hnd : node a b = str (sha X.data.toList) := by rw [hX]; rfl
  rw [← hX] at nt ⊢
  obtain ⟨N, hN⟩ : ∃ N, N = node a b := ⟨_, rfl⟩
  rw [← hnd, ← hN] at ds
  rw [← hN]
  obtain ⟨n, hn⟩ : ∃ n, n = T.length := ⟨_, rfl⟩
  rw [← hn] at hT q1
  have H := Lib.hid (And.intro h.below (And.intro hg (And.intro hO (And.intro hP (And.intro hd (And.intro nt (And.intro ds hn)))))))
  have HG := Lib.hid hG
  clear hg hO hP hd nt ds hns hX hnd hN hn ha hb h hG
  go_enter Tryd.func105, Tryd.ntmps105
  go_wp2_with fail
  refine (H.out.2.2.2.2.2.1 _).mono ?_
  rintro e w1 ⟨rfl, rfl⟩
  have hlt := (Array.getElem?_eq_some_iff.1 H.out.2.1).1
  have hba : Below w1.heap.size w1 (w1.alloc (.cells #[.string X] 9)) := (Below.refl _ _).alloc (Nat.le_refl _) _
  have hg2 := (hba.block _ hlt).trans H.out.2.1
  have HA := Lib.hid (And.intro (H.out.1.trans (hba.mono H.out.1.size)) (And.intro hg2 (And.intro (OwnT.call H.out.2.2.1 hba) (And.intro (OwnT.call H.out.2.2.2.1 hba) (show w0.heap.size + 1 ≤ (w1.alloc (.cells #[.string X] 9)).heap.size from by rw [World.size_alloc]; omega)))))
  clear hba hg2 hlt
  go_wp2_with (at_builtin; (refine wpList_append_texts3 rfl (.tmp 14) (.tmp 16) rfl HA.out.2.2.1 _ H.out.2.2.2.2.2.2.2.symm rfl _ _ 1 [X] rfl rfl (texts_one w1 X) (by omega) HA.out.2.2.2.2 ?_; intro ad cp w4 hA; obtain ⟨hg4, hS⟩ := CSt.texts HA.out.1 HA.out.2.1 HA.out.2.2.1 HA.out.2.2.2.1 H.out.2.2.2.2.1 hA; rw [show T.length + [X].length = n + 1 by rw [← H.out.2.2.2.2.2.2.2]; rfl] at hS; obtain ⟨p0, p1, p2, pf⟩ := jrow3 hg4; have HC := Lib.hid hS; clear hA hg4 hS))
  generalize World.setCell _ _ _ = w5 at *
  refine (H.out.2.2.2.2.2.2.1 _ (HG.out.below HC.out.below)).mono ?_
  rintro e w6 ⟨rfl, hb⟩
  have hS6 := HC.out.call hb
  obtain ⟨ta6, tc6, la6, lc6, hg6, -⟩ := hS6.has
  obtain ⟨r0, r1, r2, rf⟩ := jrow3 hg6
  have HD := Lib.hid (CSt.root hS6 N)
  clear hb hS6 hg6 p0 p1 p2 pf q0 q1 q2 qf
  go_wp2_with fail
  go_end0
  exact ⟨rfl, HD.out⟩
end Go.Proofs.YtdfkpjmljaanpaaDoor
namespace Go.Proofs.YtdfkpjmljaanpaaDoor
open Go.RowKit
open Go.RowKit (wrap64)
open Tr
/-- What climb answers. -/
def ClimbE (w : World) (G : Option (ByteArray × List ByteArray × List ByteArray)) (e : Ending) (w' : World) : Prop :=
  Below w.heap.size w w' ∧ ∃ r ta tn tc la ln lc, e = .returned (.tuple #[.agg #[.string r, .slice ta tn tc, .slice la ln lc], .bool G.isSome]) ∧
    ∀ x, G = some x → r = x.1 ∧ tn = x.2.1.length ∧ ln = x.2.2.length ∧ OwnT w.heap.size w' ta tc x.2.1 ∧ OwnT w.heap.size w' la lc x.2.2
/-- How the frame stands at the label. -/
def CJ (w : World) (d0 : ByteArray) (G : Option (ByteArray × List ByteArray × List ByteArray)) (act : Act) (W : World) : Prop :=
  ∃ (a l : Nat) (d : ByteArray) (ws T LF : List ByteArray) (b0 : Option Addr) (cap m : Nat) (u10 u11 u12 u13 u14 u15 u16 u17 u18 u19 u20 u21 u22 u23 u24 u25 u26 u27 u28 u29 u30 u31 u32 u33 u34 u35 u36 u37 u38 u39 u40 u41 u42 u43 u44 u45 u46 u47 u48 u49 u50 u51 u52 u53 u54 u55 u56 u57 u58 u59 u60 u61 u62 u63 u64 : Value),
    act = { tmps := List.toArray (.int .i64 (a : Int) :: .int .i64 (l : Int) :: .string d0 :: .slice b0 m cap :: undef :: undef :: undef :: undef :: .pointer (some ⟨w.heap.size, 0, none⟩) :: .bool false :: u10 :: u11 :: u12 :: u13 :: u14 :: u15 :: u16 :: u17 :: u18 :: u19 :: u20 :: u21 :: u22 :: u23 :: u24 :: u25 :: u26 :: u27 :: u28 :: u29 :: u30 :: u31 :: u32 :: u33 :: u34 :: u35 :: u36 :: u37 :: u38 :: u39 :: u40 :: u41 :: u42 :: u43 :: u44 :: u45 :: u46 :: u47 :: u48 :: u49 :: u50 :: u51 :: u52 :: u53 :: u54 :: u55 :: u56 :: u57 :: u58 :: u59 :: u60 :: u61 :: u62 :: u63 :: u64 :: []), defers := [] } ∧
    G = (climb a l d ws).map (fun x => (x.1, T ++ x.2.1, LF ++ x.2.2)) ∧ a ≤ l ∧ l ≤ 1000000 ∧ T.length + m ≤ 1000000 ∧ LF.length + m ≤ 1000000 ∧ d.size ≤ 100000 ∧ Digs ws ∧ m ≤ cap ∧ cap ≤ maxLen ∧ TextsAt w b0 ws ∧ CSt w d T LF W ∧ m = ws.length
theorem zero_st (w : World) : CSt w ⟨#[]⟩ [] [] (w.alloc (.cells #[.string ⟨#[]⟩, .slice none 0 0, .slice none 0 0] 143)) :=
  ⟨(Below.refl _ _).alloc (Nat.le_refl _) _, none, 0, none, 0, heap_alloc_new _ _, OwnT.nil _ _, OwnT.nil _ _, fun x hx => by cases hx⟩
theorem below_put3 {B : Nat} {w0 w : World} {g : Nat} (hb : Below B w0 w) (hg : B ≤ g) (a b c : Value) : Below B w0 (((w.setCell ⟨g, 0, none⟩ a).setCell ⟨g, 1, none⟩ b).setCell ⟨g, 2, none⟩ c) :=
  below_setCell' (below_setCell' (below_setCell' hb hg 0 a) hg 1 b) hg 2 c
theorem OwnT.put3 {B : Nat} {W : World} {a : Option Addr} {cap : Nat} {l : List ByteArray} (h : OwnT B W a cap l) {g : Nat} (hg : g < B) (x y z : Value) : OwnT B (((W.setCell ⟨g, 0, none⟩ x).setCell ⟨g, 1, none⟩ y).setCell ⟨g, 2, none⟩ z) a cap l :=
  ((h.put hg 0 x).put hg 1 y).put hg 2 z
set_option maxRecDepth 100000 in
set_option maxHeartbeats 6000000 in
theorem climb_any (a l : Nat) (hal : a ≤ l) (hl : l ≤ 1000000) (d : ByteArray) (hd : d.size ≤ 100000) (ws : List ByteArray) (hn : ws.length ≤ 1000000) (hws : Digs ws) (b0 : Option Addr) (cap : Nat) (hcap : ws.length ≤ cap) (hmax : cap ≤ maxLen) (w : World) (hG : Glob w) (hT : TextsAt w b0 ws) :
    Calls Tryd.prog 93 #[.int .i64 a, .int .i64 l, .string d, .slice b0 ws.length cap] w (ClimbE w (climb a l d ws)) := by
  obtain ⟨G, hG0⟩ : ∃ G, G = climb a l d ws := ⟨_, rfl⟩
  rw [← hG0]
  have hG00 : G = (climb a l d ws).map (fun x => (x.1, [] ++ x.2.1, [] ++ x.2.2)) := by
    rw [hG0]
    cases climb a l d ws with
    | none => rfl
    | some x => rfl
  clear hG0
  obtain ⟨T, hT0⟩ : ∃ T : List ByteArray, T = [] := ⟨_, rfl⟩
  obtain ⟨LF, hL0⟩ : ∃ T : List ByteArray, T = [] := ⟨_, rfl⟩
  have hG0 : G = (climb a l d ws).map (fun x => (x.1, T ++ x.2.1, LF ++ x.2.2)) := by rw [hT0, hL0]; exact hG00
  obtain ⟨m, hm⟩ : ∃ m, m = ws.length := ⟨_, rfl⟩
  rw [← hm] at hcap hn ⊢
  have hTl : T.length + m ≤ 1000000 := by rw [hT0]; simpa using hn
  have hLl : LF.length + m ≤ 1000000 := by rw [hL0]; simpa using hn
  have HG := Lib.hid hG
  obtain ⟨w1, hw1⟩ : ∃ w1, w1 = w.alloc (.cells #[.string ⟨#[]⟩, .slice none 0 0, .slice none 0 0] 143) := ⟨_, rfl⟩
  have hS1 : CSt w ⟨#[]⟩ [] [] w1 := by rw [hw1]; exact zero_st w
  obtain ⟨ta, tc, la, lc, hg, -⟩ := hS1.has
  obtain ⟨q0, q1, q2, qf⟩ := jrow3 hg
  have hS2 : CSt w d T LF (w1.setCell ⟨w.heap.size, 0, none⟩ (.string d)) := by rw [hT0, hL0]; exact CSt.root hS1 d
  obtain ⟨d0, hd0⟩ : ∃ x, x = d := ⟨_, rfl⟩
  have HH := Lib.hid (And.intro hS2 (And.intro hG0 (And.intro hTl (And.intro hLl (And.intro hws hm)))))
  clear hm hG hG00 hT0 hL0 hn hg hS1 hS2 hG0 hTl hLl hws
  go_enter Tryd.func93, Tryd.ntmps93
  go_wp2_with fail
  rw [← hw1, ← hd0]
  clear hw1
  refine wp_scope_jumps 0 (CJ w d0 G) (fun a' _ => (intOf (a'.tmps.getD 1 undef)).toNat) rfl ?_ ?_
  · go_wp2_with fail
    clear q0 q1 q2 qf
    generalize hW : World.setCell _ _ _ = W
    have hS : CSt w d T LF W := by rw [← hW]; first | exact HH.out.1 | (rw [hd0]; exact HH.out.1)
    obtain ⟨hG0, hTl, hLl, hws, hm⟩ := HH.out.2
    clear hW HH hd0
    go_step3
    have hmax' := hmax
    unfold maxLen at hmax'
    obtain ⟨a2, ha2⟩ : ∃ x, x = a / 2 := ⟨_, rfl⟩
    obtain ⟨l2, hl2⟩ : ∃ x, x = l / 2 := ⟨_, rfl⟩
    have HW := Lib.hid (show wrap64 ((a : Int) / 2) = (a2 : Int) ∧ wrap64 ((l : Int) / 2) = (l2 : Int) from ⟨by rw [IntWalk.wrap64_in _ (by omega), ha2]; rfl, by rw [IntWalk.wrap64_in _ (by omega), hl2]; rfl⟩)
    by_cases h0 : l = 0
    · subst h0
      rw [climb_zero] at hG0
      obtain ⟨ta, tc, la, lc, hg, hO, hP, -⟩ := hS.has
      obtain ⟨q0, q1, q2, qf⟩ := jrow3 hg
      have HS := Lib.hid (And.intro hS.below (And.intro (hO.mono (Nat.le_succ _)) (hP.mono (Nat.le_succ _))))
      have HS2 := Lib.hid (And.intro hO hP)
      clear ha2 hl2 hg hO hP hS hT hws hd hTl hLl hcap hmax hmax' hal hl
      by_cases hz : ws = []
      · have hm0 : m = 0 := by rw [hm, hz]; rfl
        have hGs : G = some (d, T, LF) := by rw [hG0, if_pos hz]; simp
        clear hz hm hG0
        subst hm0
        have HGs := Lib.hid hGs
        clear hGs
        go_wp2_with fail
        refine bodyPost_ret (v := .tuple #[.agg #[.string d, .slice ta T.length tc, .slice la LF.length lc], .bool true]) (by simp [results, Tryd.results93, go_sem, q0, q1, q2]) rfl ?_
        refine ⟨below_put3 HS.out.1 (Nat.le_refl _) _ _ _, d, ta, T.length, tc, la, LF.length, lc, by rw [HGs.out]; rfl, fun x hx => ?_⟩
        rw [HGs.out] at hx
        injection hx with hx
        subst hx
        exact ⟨rfl, rfl, rfl, ((HS2.out.1).put3 (by omega) _ _ _).mono (Nat.le_succ _), ((HS2.out.2).put3 (by omega) _ _ _).mono (Nat.le_succ _)⟩
      · have hm0 : ((m : Int) == 0) = false := by have : m ≠ 0 := fun e => hz (List.length_eq_zero_iff.1 (hm.symm.trans e)); simp; omega
        have hGs : G = none := by rw [hG0, if_neg hz]; rfl
        clear hz hm hG0
        have HGs := Lib.hid hGs
        clear hGs
        go_wp2_with fail
        refine bodyPost_ret (v := .tuple #[.agg #[.string d, .slice ta T.length tc, .slice la LF.length lc], .bool false]) (by simp [results, Tryd.results93, go_sem, q0, q1, q2]) rfl ?_
        refine ⟨below_put3 HS.out.1 (Nat.le_refl _) _ _ _, d, ta, T.length, tc, la, LF.length, lc, by rw [HGs.out]; rfl, fun x hx => ?_⟩
        rw [HGs.out] at hx
        cases hx
    rw [climb_step _ _ h0, ← ha2, ← hl2] at hG0
    have k0 : ((l : Int) == 0) = false := by simp; omega
    have ha2l : a2 ≤ l2 := by rw [ha2, hl2]; omega
    have hl2l : l2 < l := by rw [hl2]; omega
    clear ha2 hl2 h0
    by_cases hB : a = l ∧ a % 2 = 0
    · rw [if_pos hB] at hG0
      have k1 : ((a : Int) == (l : Int)) = true := by simp; omega
      have k2 : (((a : Int) % 2) == 0) = true := by simp; omega
      have k3 : ((a : Int) % 2) = 0 := by omega
      have HA := Lib.hid (And.intro hG0 (And.intro ha2l (And.intro hl2l (And.intro hl (And.intro hTl (And.intro hLl (And.intro hd (And.intro hws (And.intro hcap (And.intro hmax (And.intro hT (And.intro hS hm))))))))))))
      clear hG0 ha2l hl2l hl hTl hLl hd hws hcap hmax hmax' hT hS hm hB hal
      go_wp2_with fail
      go_step3
      rw [HW.out.1, HW.out.2]
      refine ⟨rfl, ?_⟩
      exact ⟨a2, l2, d, ws, T, LF, b0, cap, m, _, _, _, _, _, _, _, _, _, _, _, _, _, _, _, _, _, _, _, _, _, _, _, _, _, _, _, _, _, _, _, _, _, _, _, _, _, _, _, _, _, _, _, _, _, _, _, _, _, _, _, _, _, _, _, rfl, HA.out.1, HA.out.2.1, by have h1 := HA.out.2.2.1; have h2 := HA.out.2.2.2.1; omega, HA.out.2.2.2.2.1, HA.out.2.2.2.2.2.1, HA.out.2.2.2.2.2.2.1, HA.out.2.2.2.2.2.2.2.1, HA.out.2.2.2.2.2.2.2.2.1, HA.out.2.2.2.2.2.2.2.2.2.1, HA.out.2.2.2.2.2.2.2.2.2.2.1, HA.out.2.2.2.2.2.2.2.2.2.2.2.1, HA.out.2.2.2.2.2.2.2.2.2.2.2.2⟩
    rw [if_neg hB] at hG0
    have k1 : (((a : Int) == (l : Int)) && ((a : Int) % 2 == 0)) = false := by
      cases h1 : ((a : Int) == (l : Int)) with
      | false => rfl
      | true =>
        cases h2 : ((a : Int) % 2 == 0) with
        | false => rfl
        | true => exact absurd ⟨by have := beq_iff_eq.1 h1; omega, by have := beq_iff_eq.1 h2; omega⟩ hB
    cases ws with
    | nil =>
      obtain ⟨ta, tc, la, lc, hg, hO, hP, -⟩ := hS.has
      obtain ⟨q0, q1, q2, qf⟩ := jrow3 hg
      have HS := Lib.hid (And.intro hS.below hG0)
      have hm0 : m = 0 := hm
      subst hm0
      clear hm hg hO hP hS hT hws hd hTl hLl hcap hmax hmax' hl hG0
      by_cases he : a = l
      · have k4 : ((a : Int) == (l : Int)) = true := by simp; omega
        have k5 : ((a : Int) % 2 == 0) = false := by simp; omega
        have k6 : (a : Int) % 2 = 1 := by omega
        clear he k1 hB hal
        go_wp2_with fail
        refine bodyPost_ret (v := .tuple #[.agg #[.string ⟨#[]⟩, .slice none 0 0, .slice none 0 0], .bool false]) (by simp [results, Tryd.results93, go_sem, q0, q1, q2]) rfl ?_
        have hGn : G = none := HS.out.2
        exact ⟨below_put3 HS.out.1 (Nat.le_refl _) _ _ _, _, _, _, _, _, _, _, by rw [hGn]; rfl, fun x hx => by rw [hGn] at hx; cases hx⟩
      · have k4 : ((a : Int) == (l : Int)) = false := by simp; omega
        clear he k1 hB hal
        go_wp2_with fail
        refine bodyPost_ret (v := .tuple #[.agg #[.string ⟨#[]⟩, .slice none 0 0, .slice none 0 0], .bool false]) (by simp [results, Tryd.results93, go_sem, q0, q1, q2]) rfl ?_
        have hGn : G = none := HS.out.2
        exact ⟨below_put3 HS.out.1 (Nat.le_refl _) _ _ _, _, _, _, _, _, _, _, by rw [hGn]; rfl, fun x hx => by rw [hGn] at hx; cases hx⟩
    | cons x ws =>
      simp only at hG0
      have hx32 : x.size = 32 := hws x (by simp)
      have hws2 : Digs ws := fun y hy => hws y (List.mem_cons_of_mem _ hy)
      obtain ⟨b, off, rfl, hbl, hcx⟩ := hT 0 (by simp)
      rw [Nat.add_zero, show (x :: ws : List ByteArray).getD 0 ByteArray.empty = x from rfl] at hcx
      have hT2 : TextsAt w (some ⟨b, off + 1, none⟩) ws := by have := hT.drop 1; rwa [List.drop_one, List.tail_cons] at this
      have hm1 : m = ws.length + 1 := by rw [hm]; rfl
      obtain ⟨m2, hm2⟩ : ∃ y, y = ws.length := ⟨_, rfl⟩
      rw [← hm2] at hm1
      have k7 : ((m : Int) == 0) = false := by simp; omega
      have k8 : (m : Int) - 1 = (m2 : Int) := by omega
      have k9 : m - 1 = m2 := by omega
      obtain ⟨c2, hc2⟩ : ∃ y, y = cap - 1 := ⟨_, rfl⟩
      have k10 : cap - 1 = c2 := hc2.symm
      have k11 : ¬ (cap = 1) ∨ cap = 1 := by omega
      have k12 : 1 ≤ m := by omega
      have k13 : m ≤ cap := hcap
      have k14 : 0 < m := by omega
      have k15 : 1 ≤ cap := by omega
      by_cases hev : a % 2 = 0
      · have k3 : (a : Int) % 2 = 0 := by omega
        have k5 : ((a : Int) % 2 == 0) = true := by simp; omega
        have k4 : ((a : Int) == (l : Int)) = false := by simp; omega
        rw [if_pos hev] at hG0
        have hG1 : G = (climb a2 l2 (node d x) ws).map (fun z => (z.1, (T ++ [nodeT d x]) ++ z.2.1, LF ++ z.2.2)) := by
          rw [hG0, Option.map_map]
          congr 1
          funext z
          simp
        have hTl1 : T.length ≤ 1000000 := by omega
        have hTl2 : (T ++ [nodeT d x]).length + m2 ≤ 1000000 := by rw [List.length_append, List.length_singleton]; omega
        have hLl2 : LF.length + m2 ≤ 1000000 := by omega
        have jn := fun W (h : CSt w d T LF W) => join_any h HG.out d x hd (by omega) hTl1
        obtain ⟨ta, tc, la, lc, hg, hO, hP, hdd⟩ := hS.has
        obtain ⟨q0, q1, q2, qf⟩ := jrow3 hg
        have hcW : W.cell? ⟨b, off, none⟩ = some (.string x) := (hS.below.cell (p := ⟨b, off, none⟩) hbl).trans hcx
        have hlW := hS.lt
        have HA := Lib.hid (And.intro hG1 (And.intro ha2l (And.intro hl2l (And.intro hl (And.intro hTl2 (And.intro hLl2 (And.intro hws2 (And.intro hT2 (And.intro hm2 (And.intro jn (And.intro hbl (And.intro hc2 (And.intro k13 hmax)))))))))))))
        have hnd : (node d x).size ≤ 100000 := by have := sumE_size (nodeT d x); unfold node; omega
        have E0 : W.drew.cell? ⟨b, off, none⟩ = some (.string x) := hcW
        have S0 : CSt w d T LF W.drew := ⟨hS.below.drew, ta, tc, la, lc, hg, hO, hP, hdd⟩
        have d0 : W.drew.cell? ⟨w.heap.size, 0, none⟩ = some (.string d) := q0
        clear hG0 hG1 ha2l hl2l hl hTl hLl hTl1 hTl2 hLl2 hd hws hws2 hcap hmax hmax' hT hT2 hS hm hm1 hm2 hal hB hev k1 jn hg hO hP hdd hbl hcx hc2 k15 
        clear q1 q2 qf q0 hcW k11
        go_wp2_with fail
        refine wp_region_held (S := fun W2 => W2.cell? ⟨b, off, none⟩ = some (.string x)) (by kernel_rfl) ?_
        change wpAnyH _ _ _ _ _ _ _ _ (World.drew _)
        generalize World.drew _ = v0 at *
        refine wpAnyH_take (i := 0) (v := ?_) rfl (by kernel_rfl) (by kernel_rfl) (by kernel_rfl) (fun _ _ _ h => h) (Or.inl ⟨by kernel_rfl, ?_⟩) E0 ?_
        rotate_left
        · (intro W2 hS; go_simp; try (with_reducible rfl))
        refine wpAnyH_take (i := 2) (v := ?_) rfl (by kernel_rfl) (by kernel_rfl) (by kernel_rfl) (fun _ _ _ h => h) (Or.inl ⟨by kernel_rfl, ?_⟩) E0 ?_
        rotate_left
        · (intro W2 hS; go_simp; try (with_reducible rfl))
        refine wpAnyH_take (i := 3) (v := ?_) rfl (by kernel_rfl) (by kernel_rfl) (by kernel_rfl) (fun _ _ _ h => h) (Or.inl ⟨by kernel_rfl, ?_⟩) E0 ?_
        rotate_left
        · (intro W2 hS; go_simp; try (with_reducible rfl))
        refine wpAnyH_take (i := 4) (v := ?_) rfl (by kernel_rfl) (by kernel_rfl) (by kernel_rfl) (fun _ _ _ h => h) (Or.inl ⟨by kernel_rfl, ?_⟩) E0 ?_
        rotate_left
        · (intro W2 hS; go_simp; try (with_reducible rfl))
        refine wpAnyH_ready (rs := [1]) (by kernel_rfl) (by simp) ?_
        refine AllReadyH.cons rfl (fun K hK => ?_) AllReadyH.nil
        go_simp
        refine hK.out _ _ E0 (fun _ => ?_)
        clear hK K d0
        refine wpAnyH_ready (rs := [5]) (by kernel_rfl) (by simp) ?_
        refine AllReadyH.cons rfl (fun K hK => ?_) AllReadyH.nil
        go_simp
        refine (HA.out.2.2.2.2.2.2.2.2.2.1 _ S0).mono ?_
        rintro e v1 ⟨rfl, S1⟩
        have E1 : v1.cell? ⟨b, off, none⟩ = some (.string x) := (S1.below.cell (p := ⟨b, off, none⟩) HA.out.2.2.2.2.2.2.2.2.2.2.1).trans ((S0.below.cell (p := ⟨b, off, none⟩) HA.out.2.2.2.2.2.2.2.2.2.2.1).symm.trans E0)
        refine hK.out _ _ E1 (fun _ => ?_)
        clear hK K E0 S0
        refine wpAnyH_done (by kernel_rfl) ?_ _
        go_simp
        have HS1 := Lib.hid S1
        clear E1 S1
        by_cases hc1 : cap = 1
        · go_wp2_with fail
          go_step3
          rw [HW.out.1, HW.out.2]
          refine ⟨rfl, ?_⟩
          exact ⟨a2, l2, (node d x), ws, (T ++ [nodeT d x]), LF, (some ⟨b, off, none⟩), 0, m2, _, _, _, _, _, _, _, _, _, _, _, _, _, _, _, _, _, _, _, _, _, _, _, _, _, _, _, _, _, _, _, _, _, _, _, _, _, _, _, _, _, _, _, _, _, _, _, _, _, _, _, _, _, _, _, rfl, HA.out.1, HA.out.2.1, by have h1 := HA.out.2.2.1; have h2 := HA.out.2.2.2.1; omega, HA.out.2.2.2.2.1, HA.out.2.2.2.2.2.1, hnd, HA.out.2.2.2.2.2.2.1, by have h1 := HA.out.2.2.2.2.2.2.2.2.2.2.2.1; have h2 := HA.out.2.2.2.2.2.2.2.2.2.2.2.2.1; omega, Nat.zero_le _, (show TextsAt w (some ⟨b, off, none⟩) ws from fun j hj => by exfalso; have h1 := HA.out.2.2.2.2.2.2.2.2.1; have h2 := HA.out.2.2.2.2.2.2.2.2.2.2.2.2.1; omega), HS1.out, HA.out.2.2.2.2.2.2.2.2.1⟩
        · go_wp2_with fail
          go_step3
          rw [HW.out.1, HW.out.2]
          refine ⟨rfl, ?_⟩
          exact ⟨a2, l2, (node d x), ws, (T ++ [nodeT d x]), LF, (some ⟨b, off + 1, none⟩), c2, m2, _, _, _, _, _, _, _, _, _, _, _, _, _, _, _, _, _, _, _, _, _, _, _, _, _, _, _, _, _, _, _, _, _, _, _, _, _, _, _, _, _, _, _, _, _, _, _, _, _, _, _, _, _, _, _, rfl, HA.out.1, HA.out.2.1, by have h1 := HA.out.2.2.1; have h2 := HA.out.2.2.2.1; omega, HA.out.2.2.2.2.1, HA.out.2.2.2.2.2.1, hnd, HA.out.2.2.2.2.2.2.1, by have h1 := HA.out.2.2.2.2.2.2.2.2.2.2.2.1; have h2 := HA.out.2.2.2.2.2.2.2.2.2.2.2.2.1; omega, by have h1 := HA.out.2.2.2.2.2.2.2.2.2.2.2.1; have h3 := HA.out.2.2.2.2.2.2.2.2.2.2.2.2.2; omega, HA.out.2.2.2.2.2.2.2.1, HS1.out, HA.out.2.2.2.2.2.2.2.2.1⟩
      · by_cases hee : a = l
        · have k3 : (a : Int) % 2 = 1 := by omega
          have k5 : ((a : Int) % 2 == 0) = false := by simp; omega
          rw [if_neg hev] at hG0
          have k4 : ((a : Int) == (l : Int)) = true := by simp; omega
          have hG1 : G = (climb a2 l2 (node x d) ws).map (fun z => (z.1, (T ++ [nodeT x d]) ++ z.2.1, (LF ++ [x]) ++ z.2.2)) := by
            rw [hG0, Option.map_map]
            congr 1
            funext z
            simp
          have hTl1 : T.length ≤ 1000000 := by omega
          have hTl2 : (T ++ [nodeT x d]).length + m2 ≤ 1000000 := by rw [List.length_append, List.length_singleton]; omega
          have hLl2 : (LF ++ [x]).length + m2 ≤ 1000000 := by rw [List.length_append, List.length_singleton]; omega
          have jn := fun W (h : CSt w d T LF W) => join_any h HG.out x d (by omega) hd hTl1
          obtain ⟨ta, tc, la, lc, hg, hO, hP, hdd⟩ := hS.has
          obtain ⟨q0, q1, q2, qf⟩ := jrow3 hg
          have hcW : W.cell? ⟨b, off, none⟩ = some (.string x) := (hS.below.cell (p := ⟨b, off, none⟩) hbl).trans hcx
          have hlW := hS.lt
          have HA := Lib.hid (And.intro hG1 (And.intro ha2l (And.intro hl2l (And.intro hl (And.intro hTl2 (And.intro hLl2 (And.intro hws2 (And.intro hT2 (And.intro hm2 (And.intro jn (And.intro hbl (And.intro hc2 (And.intro k13 hmax)))))))))))))
          have hnd : (node x d).size ≤ 100000 := by have := sumE_size (nodeT x d); unfold node; omega
          have E0 : W.drew.cell? ⟨b, off, none⟩ = some (.string x) := hcW
          have S0 : CSt w d T LF W.drew := ⟨hS.below.drew, ta, tc, la, lc, hg, hO, hP, hdd⟩
          have d0 : W.drew.cell? ⟨w.heap.size, 0, none⟩ = some (.string d) := q0
          clear hG0 hG1 ha2l hl2l hl hTl hLl hTl1 hTl2 hLl2 hd hws hws2 hcap hmax hmax' hT hT2 hS hm hm1 hm2 hal hB hev k1 jn hg hO hP hdd hbl hcx hc2 k15 hee
          clear q1 q2 qf q0 hcW k11
          go_wp2_with fail
          refine wp_region_held (S := fun W2 => W2.cell? ⟨b, off, none⟩ = some (.string x)) (by kernel_rfl) ?_
          change wpAnyH _ _ _ _ _ _ _ _ (World.drew _)
          generalize World.drew _ = v0 at *
          refine wpAnyH_take (i := 0) (v := ?_) rfl (by kernel_rfl) (by kernel_rfl) (by kernel_rfl) (fun _ _ _ h => h) (Or.inl ⟨by kernel_rfl, ?_⟩) E0 ?_
          rotate_left
          · (intro W2 hS; go_simp; try (with_reducible rfl))
          refine wpAnyH_take (i := 1) (v := ?_) rfl (by kernel_rfl) (by kernel_rfl) (by kernel_rfl) (fun _ _ _ h => h) (Or.inl ⟨by kernel_rfl, ?_⟩) E0 ?_
          rotate_left
          · (intro W2 hS; go_simp; try (with_reducible rfl))
          refine wpAnyH_take (i := 2) (v := ?_) rfl (by kernel_rfl) (by kernel_rfl) (by kernel_rfl) (fun _ _ _ h => h) (Or.inl ⟨by kernel_rfl, ?_⟩) E0 ?_
          rotate_left
          · (intro W2 hS; go_simp; try (with_reducible rfl))
          refine wpAnyH_take (i := 3) (v := ?_) rfl (by kernel_rfl) (by kernel_rfl) (by kernel_rfl) (fun _ _ _ h => h) (Or.inl ⟨by kernel_rfl, ?_⟩) E0 ?_
          rotate_left
          · (intro W2 hS; go_simp; try (with_reducible rfl))
          refine wpAnyH_ready (rs := [4]) (by kernel_rfl) (by simp) ?_
          refine AllReadyH.cons rfl (fun K hK => ?_) AllReadyH.nil
          go_simp
          refine hK.out _ _ E0 (fun _ => ?_)
          clear hK K d0
          refine wpAnyH_ready (rs := [5]) (by kernel_rfl) (by simp) ?_
          refine AllReadyH.cons rfl (fun K hK => ?_) AllReadyH.nil
          go_simp
          refine (HA.out.2.2.2.2.2.2.2.2.2.1 _ S0).mono ?_
          rintro e v1 ⟨rfl, S1⟩
          have E1 : v1.cell? ⟨b, off, none⟩ = some (.string x) := (S1.below.cell (p := ⟨b, off, none⟩) HA.out.2.2.2.2.2.2.2.2.2.2.1).trans ((S0.below.cell (p := ⟨b, off, none⟩) HA.out.2.2.2.2.2.2.2.2.2.2.1).symm.trans E0)
          refine hK.out _ _ E1 (fun _ => ?_)
          clear hK K E0 S0
          refine wpAnyH_done (by kernel_rfl) ?_ _
          go_simp
          obtain ⟨ta, tc, la, lc, hg, hO, hP, hdd⟩ := S1.has
          obtain ⟨q0, q1, q2, qf⟩ := jrow3 hg
          have E2 : v1.drew.cell? ⟨b, off, none⟩ = some (.string x) := E1
          obtain ⟨n, hn⟩ : ∃ n, n = LF.length := ⟨_, rfl⟩
          have hn1 : n ≤ 1000000 := by have h := HA.out.2.2.2.2.2.1; rw [List.length_append, List.length_singleton] at h; omega
          have p2 : v1.drew.cell? ⟨w.heap.size, 2, none⟩ = some (.slice la n lc) := by rw [hn]; exact q2
          have HB := Lib.hid (And.intro S1.below.drew (And.intro (show v1.drew.heap[w.heap.size]? = _ from hg) (And.intro (show OwnT (w.heap.size + 1) v1.drew ta tc _ from hO) (And.intro (show OwnT (w.heap.size + 1) v1.drew la lc LF from hP) (And.intro hdd (And.intro hn (show w.heap.size + 1 ≤ v1.drew.heap.size from S1.lt)))))))
          clear hg hO hP hdd q0 q1 q2 qf S1 E1 hn
          go_wp2_with fail
          refine wp_region_held (S := fun W2 => W2.cell? ⟨b, off, none⟩ = some (.string x)) (by kernel_rfl) ?_
          change wpAnyH _ _ _ _ _ _ _ _ (World.drew _)
          generalize World.drew _ = y0 at *
          refine wpAnyH_take (i := 0) (v := ?_) rfl (by kernel_rfl) (by kernel_rfl) (by kernel_rfl) (fun _ _ _ h => h) (Or.inl ⟨by kernel_rfl, ?_⟩) E2 ?_
          rotate_left
          · (intro W2 hS; go_simp; try (with_reducible rfl))
          refine wpAnyH_take (i := 2) (v := ?_) rfl (by kernel_rfl) (by kernel_rfl) (by kernel_rfl) (fun _ _ _ h => h) (Or.inl ⟨by kernel_rfl, ?_⟩) E2 ?_
          rotate_left
          · (intro W2 hS; go_simp; try (with_reducible rfl))
          refine wpAnyH_take (i := 3) (v := ?_) rfl (by kernel_rfl) (by kernel_rfl) (by kernel_rfl) (fun _ _ _ h => h) (Or.inl ⟨by kernel_rfl, ?_⟩) E2 ?_
          rotate_left
          · (intro W2 hS; go_simp; try (with_reducible rfl))
          refine wpAnyH_take (i := 4) (v := ?_) rfl (by kernel_rfl) (by kernel_rfl) (by kernel_rfl) (fun _ _ _ h => h) (Or.inl ⟨by kernel_rfl, ?_⟩) E2 ?_
          rotate_left
          · (intro W2 hS; go_simp; try (with_reducible rfl))
          refine wpAnyH_ready (rs := [1, 5]) (by kernel_rfl) (by simp) ?_
          refine AllReadyH.cons rfl (fun K hK => ?_) (AllReadyH.cons rfl (fun K hK => ?_) AllReadyH.nil)
          · go_simp
            refine hK.out _ _ E2 (fun _ => ?_)
            clear hK K
            refine wpAnyH_ready (rs := [5]) (by kernel_rfl) (by simp) ?_
            refine AllReadyH.cons rfl (fun K hK => ?_) AllReadyH.nil
            go_simp
            have hba : Below y0.heap.size y0 (y0.alloc (.cells #[.string x] 9)) := (Below.refl _ _).alloc (Nat.le_refl _) _
            have E3 : (y0.alloc (.cells #[.string x] 9)).cell? ⟨b, off, none⟩ = some (.string x) := (hba.cell (p := ⟨b, off, none⟩) (by have h1 := HA.out.2.2.2.2.2.2.2.2.2.2.1; have h2 := HB.out.2.2.2.2.2.2; show b < y0.heap.size; omega)).trans E2
            have hg3 := (hba.block _ (Array.getElem?_eq_some_iff.1 HB.out.2.1).1).trans HB.out.2.1
            have HC := Lib.hid (And.intro (HB.out.1.trans (hba.mono HB.out.1.size)) (And.intro hg3 (And.intro (OwnT.call HB.out.2.2.1 hba) (And.intro (OwnT.call HB.out.2.2.2.1 hba) (show w.heap.size + 1 ≤ (y0.alloc (.cells #[.string x] 9)).heap.size from by rw [World.size_alloc]; have h := HB.out.2.2.2.2.2.2; omega)))))
            have p3 : (y0.alloc (.cells #[.string x] 9)).cell? ⟨w.heap.size, 2, none⟩ = some (.slice la n lc) := (hba.cell (p := ⟨w.heap.size, 2, none⟩) (show w.heap.size < y0.heap.size from HB.out.2.2.2.2.2.2)).trans p2
            have htx := texts_one y0 x
            obtain ⟨y1, hy1⟩ : ∃ y1, y1 = y0.alloc (.cells #[.string x] 9) := ⟨_, rfl⟩
            rw [← hy1] at E3 HC p3 htx ⊢
            clear hba hg3 hy1
            refine hK.out _ _ E3 (fun _ => ?_)
            clear hK K
            refine wpAnyH_ready (rs := [6]) (by kernel_rfl) (by simp) ?_
            refine AllReadyH.cons rfl (fun K hK => ?_) AllReadyH.nil
            refine step_append_texts3 rfl (.tmp 19) (.tmp 23) rfl HC.out.2.2.2.1 _ HB.out.2.2.2.2.2.1.symm rfl _ _ 1 [x] rfl rfl htx (by omega) HC.out.2.2.2.2 ?_
            intro ad cp y2 hA
            obtain ⟨hg4, hS4⟩ := CSt.lefts HC.out.1 HC.out.2.1 HC.out.2.2.1 HC.out.2.2.2.1 HB.out.2.2.2.2.1 hA
            rw [show LF.length + [x].length = n + 1 by rw [← HB.out.2.2.2.2.2.1]; rfl] at hS4
            have hb4 := hA.grown
            have E4 : y2.cell? ⟨b, off, none⟩ = some (.string x) := (hb4.cell_far ⟨b, off, none⟩ (by have h1 := HA.out.2.2.2.2.2.2.2.2.2.2.1; have h2 := HC.out.2.2.2.2; show b < y1.heap.size; omega) (fun e => by have h1 := HA.out.2.2.2.2.2.2.2.2.2.2.1; have h2 := (World.ownsRow.lt HC.out.2.2.2.1 _ e.symm).1; simp only at h2; omega)).trans E3
            try go_simp
            refine hK.out _ _ E4 (fun _ => ?_)
            clear hK K
            obtain ⟨r0, r1, r2, rf⟩ := jrow3 hg4
            have E5 : (y2.setCell ⟨w.heap.size, 2, none⟩ (.slice ad (n + 1) cp)).cell? ⟨b, off, none⟩ = some (.string x) := ((below_setCell' (Below.refl w.heap.size y2) (Nat.le_refl _) 2 (.slice ad (n + 1) cp)).cell (p := ⟨b, off, none⟩) HA.out.2.2.2.2.2.2.2.2.2.2.1).trans E4
            refine wpAnyH_take (i := 7) (v := ?_) rfl (by kernel_rfl) (by kernel_rfl) (by kernel_rfl) (fun _ _ _ h => h) (Or.inl ⟨by kernel_rfl, ?_⟩) E4 ?_
            rotate_left
            · (intro W2 hS; go_simp; try (with_reducible rfl))
            refine wpAnyH_ready (rs := [8]) (by kernel_rfl) (by simp) ?_
            refine AllReadyH.cons rfl (fun K hK => ?_) AllReadyH.nil
            go_simp
            refine hK.out _ _ E5 (fun _ => ?_)
            clear hK K
            refine wpAnyH_done (by kernel_rfl) ?_ _
            go_simp
            have HS1 := Lib.hid hS4
            clear hS4 hg4 hA hb4 r0 r1 r2 rf E2 E3 E4 E5 p2 p3 htx
            generalize World.setCell _ _ _ = y3 at *
            by_cases hc1 : cap = 1
            · go_wp2_with fail
              go_step3
              rw [HW.out.1, HW.out.2]
              refine ⟨rfl, ?_⟩
              exact ⟨a2, l2, (node x d), ws, (T ++ [nodeT x d]), (LF ++ [x]), (some ⟨b, off, none⟩), 0, m2, _, _, _, _, _, _, _, _, _, _, _, _, _, _, _, _, _, _, _, _, _, _, _, _, _, _, _, _, _, _, _, _, _, _, _, _, _, _, _, _, _, _, _, _, _, _, _, _, _, _, _, _, _, _, _, rfl, HA.out.1, HA.out.2.1, by have h1 := HA.out.2.2.1; have h2 := HA.out.2.2.2.1; omega, HA.out.2.2.2.2.1, HA.out.2.2.2.2.2.1, hnd, HA.out.2.2.2.2.2.2.1, by have h1 := HA.out.2.2.2.2.2.2.2.2.2.2.2.1; have h2 := HA.out.2.2.2.2.2.2.2.2.2.2.2.2.1; omega, Nat.zero_le _, (show TextsAt w (some ⟨b, off, none⟩) ws from fun j hj => by exfalso; have h1 := HA.out.2.2.2.2.2.2.2.2.1; have h2 := HA.out.2.2.2.2.2.2.2.2.2.2.2.2.1; omega), HS1.out, HA.out.2.2.2.2.2.2.2.2.1⟩
            · go_wp2_with fail
              go_step3
              rw [HW.out.1, HW.out.2]
              refine ⟨rfl, ?_⟩
              exact ⟨a2, l2, (node x d), ws, (T ++ [nodeT x d]), (LF ++ [x]), (some ⟨b, off + 1, none⟩), c2, m2, _, _, _, _, _, _, _, _, _, _, _, _, _, _, _, _, _, _, _, _, _, _, _, _, _, _, _, _, _, _, _, _, _, _, _, _, _, _, _, _, _, _, _, _, _, _, _, _, _, _, _, _, _, _, _, rfl, HA.out.1, HA.out.2.1, by have h1 := HA.out.2.2.1; have h2 := HA.out.2.2.2.1; omega, HA.out.2.2.2.2.1, HA.out.2.2.2.2.2.1, hnd, HA.out.2.2.2.2.2.2.1, by have h1 := HA.out.2.2.2.2.2.2.2.2.2.2.2.1; have h2 := HA.out.2.2.2.2.2.2.2.2.2.2.2.2.1; omega, by have h1 := HA.out.2.2.2.2.2.2.2.2.2.2.2.1; have h3 := HA.out.2.2.2.2.2.2.2.2.2.2.2.2.2; omega, HA.out.2.2.2.2.2.2.2.1, HS1.out, HA.out.2.2.2.2.2.2.2.2.1⟩
          · go_simp
            have hba : Below y0.heap.size y0 (y0.alloc (.cells #[.string x] 9)) := (Below.refl _ _).alloc (Nat.le_refl _) _
            have E3 : (y0.alloc (.cells #[.string x] 9)).cell? ⟨b, off, none⟩ = some (.string x) := (hba.cell (p := ⟨b, off, none⟩) (by have h1 := HA.out.2.2.2.2.2.2.2.2.2.2.1; have h2 := HB.out.2.2.2.2.2.2; show b < y0.heap.size; omega)).trans E2
            have hg3 := (hba.block _ (Array.getElem?_eq_some_iff.1 HB.out.2.1).1).trans HB.out.2.1
            have HC := Lib.hid (And.intro (HB.out.1.trans (hba.mono HB.out.1.size)) (And.intro hg3 (And.intro (OwnT.call HB.out.2.2.1 hba) (And.intro (OwnT.call HB.out.2.2.2.1 hba) (show w.heap.size + 1 ≤ (y0.alloc (.cells #[.string x] 9)).heap.size from by rw [World.size_alloc]; have h := HB.out.2.2.2.2.2.2; omega)))))
            have p3 : (y0.alloc (.cells #[.string x] 9)).cell? ⟨w.heap.size, 2, none⟩ = some (.slice la n lc) := (hba.cell (p := ⟨w.heap.size, 2, none⟩) (show w.heap.size < y0.heap.size from HB.out.2.2.2.2.2.2)).trans p2
            have htx := texts_one y0 x
            obtain ⟨y1, hy1⟩ : ∃ y1, y1 = y0.alloc (.cells #[.string x] 9) := ⟨_, rfl⟩
            rw [← hy1] at E3 HC p3 htx ⊢
            clear hba hg3 hy1
            refine hK.out _ _ E3 (fun _ => ?_)
            clear hK K
            refine wpAnyH_ready (rs := [1]) (by kernel_rfl) (by simp) ?_
            refine AllReadyH.cons rfl (fun K hK => ?_) AllReadyH.nil
            go_simp
            refine hK.out _ _ E3 (fun _ => ?_)
            clear hK K
            refine wpAnyH_ready (rs := [6]) (by kernel_rfl) (by simp) ?_
            refine AllReadyH.cons rfl (fun K hK => ?_) AllReadyH.nil
            refine step_append_texts3 rfl (.tmp 19) (.tmp 23) rfl HC.out.2.2.2.1 _ HB.out.2.2.2.2.2.1.symm rfl _ _ 1 [x] rfl rfl htx (by omega) HC.out.2.2.2.2 ?_
            intro ad cp y2 hA
            obtain ⟨hg4, hS4⟩ := CSt.lefts HC.out.1 HC.out.2.1 HC.out.2.2.1 HC.out.2.2.2.1 HB.out.2.2.2.2.1 hA
            rw [show LF.length + [x].length = n + 1 by rw [← HB.out.2.2.2.2.2.1]; rfl] at hS4
            have hb4 := hA.grown
            have E4 : y2.cell? ⟨b, off, none⟩ = some (.string x) := (hb4.cell_far ⟨b, off, none⟩ (by have h1 := HA.out.2.2.2.2.2.2.2.2.2.2.1; have h2 := HC.out.2.2.2.2; show b < y1.heap.size; omega) (fun e => by have h1 := HA.out.2.2.2.2.2.2.2.2.2.2.1; have h2 := (World.ownsRow.lt HC.out.2.2.2.1 _ e.symm).1; simp only at h2; omega)).trans E3
            try go_simp
            refine hK.out _ _ E4 (fun _ => ?_)
            clear hK K
            obtain ⟨r0, r1, r2, rf⟩ := jrow3 hg4
            have E5 : (y2.setCell ⟨w.heap.size, 2, none⟩ (.slice ad (n + 1) cp)).cell? ⟨b, off, none⟩ = some (.string x) := ((below_setCell' (Below.refl w.heap.size y2) (Nat.le_refl _) 2 (.slice ad (n + 1) cp)).cell (p := ⟨b, off, none⟩) HA.out.2.2.2.2.2.2.2.2.2.2.1).trans E4
            refine wpAnyH_take (i := 7) (v := ?_) rfl (by kernel_rfl) (by kernel_rfl) (by kernel_rfl) (fun _ _ _ h => h) (Or.inl ⟨by kernel_rfl, ?_⟩) E4 ?_
            rotate_left
            · (intro W2 hS; go_simp; try (with_reducible rfl))
            refine wpAnyH_ready (rs := [8]) (by kernel_rfl) (by simp) ?_
            refine AllReadyH.cons rfl (fun K hK => ?_) AllReadyH.nil
            go_simp
            refine hK.out _ _ E5 (fun _ => ?_)
            clear hK K
            refine wpAnyH_done (by kernel_rfl) ?_ _
            go_simp
            have HS1 := Lib.hid hS4
            clear hS4 hg4 hA hb4 r0 r1 r2 rf E2 E3 E4 E5 p2 p3 htx
            generalize World.setCell _ _ _ = y3 at *
            by_cases hc1 : cap = 1
            · go_wp2_with fail
              go_step3
              rw [HW.out.1, HW.out.2]
              refine ⟨rfl, ?_⟩
              exact ⟨a2, l2, (node x d), ws, (T ++ [nodeT x d]), (LF ++ [x]), (some ⟨b, off, none⟩), 0, m2, _, _, _, _, _, _, _, _, _, _, _, _, _, _, _, _, _, _, _, _, _, _, _, _, _, _, _, _, _, _, _, _, _, _, _, _, _, _, _, _, _, _, _, _, _, _, _, _, _, _, _, _, _, _, _, rfl, HA.out.1, HA.out.2.1, by have h1 := HA.out.2.2.1; have h2 := HA.out.2.2.2.1; omega, HA.out.2.2.2.2.1, HA.out.2.2.2.2.2.1, hnd, HA.out.2.2.2.2.2.2.1, by have h1 := HA.out.2.2.2.2.2.2.2.2.2.2.2.1; have h2 := HA.out.2.2.2.2.2.2.2.2.2.2.2.2.1; omega, Nat.zero_le _, (show TextsAt w (some ⟨b, off, none⟩) ws from fun j hj => by exfalso; have h1 := HA.out.2.2.2.2.2.2.2.2.1; have h2 := HA.out.2.2.2.2.2.2.2.2.2.2.2.2.1; omega), HS1.out, HA.out.2.2.2.2.2.2.2.2.1⟩
            · go_wp2_with fail
              go_step3
              rw [HW.out.1, HW.out.2]
              refine ⟨rfl, ?_⟩
              exact ⟨a2, l2, (node x d), ws, (T ++ [nodeT x d]), (LF ++ [x]), (some ⟨b, off + 1, none⟩), c2, m2, _, _, _, _, _, _, _, _, _, _, _, _, _, _, _, _, _, _, _, _, _, _, _, _, _, _, _, _, _, _, _, _, _, _, _, _, _, _, _, _, _, _, _, _, _, _, _, _, _, _, _, _, _, _, _, rfl, HA.out.1, HA.out.2.1, by have h1 := HA.out.2.2.1; have h2 := HA.out.2.2.2.1; omega, HA.out.2.2.2.2.1, HA.out.2.2.2.2.2.1, hnd, HA.out.2.2.2.2.2.2.1, by have h1 := HA.out.2.2.2.2.2.2.2.2.2.2.2.1; have h2 := HA.out.2.2.2.2.2.2.2.2.2.2.2.2.1; omega, by have h1 := HA.out.2.2.2.2.2.2.2.2.2.2.2.1; have h3 := HA.out.2.2.2.2.2.2.2.2.2.2.2.2.2; omega, HA.out.2.2.2.2.2.2.2.1, HS1.out, HA.out.2.2.2.2.2.2.2.2.1⟩
        · have k3 : (a : Int) % 2 = 1 := by omega
          have k5 : ((a : Int) % 2 == 0) = false := by simp; omega
          rw [if_neg hev] at hG0
          have k4 : ((a : Int) == (l : Int)) = false := by simp; omega
          have hG1 : G = (climb a2 l2 (node x d) ws).map (fun z => (z.1, (T ++ [nodeT x d]) ++ z.2.1, (LF ++ [x]) ++ z.2.2)) := by
            rw [hG0, Option.map_map]
            congr 1
            funext z
            simp
          have hTl1 : T.length ≤ 1000000 := by omega
          have hTl2 : (T ++ [nodeT x d]).length + m2 ≤ 1000000 := by rw [List.length_append, List.length_singleton]; omega
          have hLl2 : (LF ++ [x]).length + m2 ≤ 1000000 := by rw [List.length_append, List.length_singleton]; omega
          have jn := fun W (h : CSt w d T LF W) => join_any h HG.out x d (by omega) hd hTl1
          obtain ⟨ta, tc, la, lc, hg, hO, hP, hdd⟩ := hS.has
          obtain ⟨q0, q1, q2, qf⟩ := jrow3 hg
          have hcW : W.cell? ⟨b, off, none⟩ = some (.string x) := (hS.below.cell (p := ⟨b, off, none⟩) hbl).trans hcx
          have hlW := hS.lt
          have HA := Lib.hid (And.intro hG1 (And.intro ha2l (And.intro hl2l (And.intro hl (And.intro hTl2 (And.intro hLl2 (And.intro hws2 (And.intro hT2 (And.intro hm2 (And.intro jn (And.intro hbl (And.intro hc2 (And.intro k13 hmax)))))))))))))
          have hnd : (node x d).size ≤ 100000 := by have := sumE_size (nodeT x d); unfold node; omega
          have E0 : W.drew.cell? ⟨b, off, none⟩ = some (.string x) := hcW
          have S0 : CSt w d T LF W.drew := ⟨hS.below.drew, ta, tc, la, lc, hg, hO, hP, hdd⟩
          have d0 : W.drew.cell? ⟨w.heap.size, 0, none⟩ = some (.string d) := q0
          clear hG0 hG1 ha2l hl2l hl hTl hLl hTl1 hTl2 hLl2 hd hws hws2 hcap hmax hmax' hT hT2 hS hm hm1 hm2 hal hB hev k1 jn hg hO hP hdd hbl hcx hc2 k15 hee
          clear q1 q2 qf q0 hcW k11
          go_wp2_with fail
          refine wp_region_held (S := fun W2 => W2.cell? ⟨b, off, none⟩ = some (.string x)) (by kernel_rfl) ?_
          change wpAnyH _ _ _ _ _ _ _ _ (World.drew _)
          generalize World.drew _ = v0 at *
          refine wpAnyH_take (i := 0) (v := ?_) rfl (by kernel_rfl) (by kernel_rfl) (by kernel_rfl) (fun _ _ _ h => h) (Or.inl ⟨by kernel_rfl, ?_⟩) E0 ?_
          rotate_left
          · (intro W2 hS; go_simp; try (with_reducible rfl))
          refine wpAnyH_take (i := 1) (v := ?_) rfl (by kernel_rfl) (by kernel_rfl) (by kernel_rfl) (fun _ _ _ h => h) (Or.inl ⟨by kernel_rfl, ?_⟩) E0 ?_
          rotate_left
          · (intro W2 hS; go_simp; try (with_reducible rfl))
          refine wpAnyH_take (i := 2) (v := ?_) rfl (by kernel_rfl) (by kernel_rfl) (by kernel_rfl) (fun _ _ _ h => h) (Or.inl ⟨by kernel_rfl, ?_⟩) E0 ?_
          rotate_left
          · (intro W2 hS; go_simp; try (with_reducible rfl))
          refine wpAnyH_take (i := 3) (v := ?_) rfl (by kernel_rfl) (by kernel_rfl) (by kernel_rfl) (fun _ _ _ h => h) (Or.inl ⟨by kernel_rfl, ?_⟩) E0 ?_
          rotate_left
          · (intro W2 hS; go_simp; try (with_reducible rfl))
          refine wpAnyH_ready (rs := [4]) (by kernel_rfl) (by simp) ?_
          refine AllReadyH.cons rfl (fun K hK => ?_) AllReadyH.nil
          go_simp
          refine hK.out _ _ E0 (fun _ => ?_)
          clear hK K d0
          refine wpAnyH_ready (rs := [5]) (by kernel_rfl) (by simp) ?_
          refine AllReadyH.cons rfl (fun K hK => ?_) AllReadyH.nil
          go_simp
          refine (HA.out.2.2.2.2.2.2.2.2.2.1 _ S0).mono ?_
          rintro e v1 ⟨rfl, S1⟩
          have E1 : v1.cell? ⟨b, off, none⟩ = some (.string x) := (S1.below.cell (p := ⟨b, off, none⟩) HA.out.2.2.2.2.2.2.2.2.2.2.1).trans ((S0.below.cell (p := ⟨b, off, none⟩) HA.out.2.2.2.2.2.2.2.2.2.2.1).symm.trans E0)
          refine hK.out _ _ E1 (fun _ => ?_)
          clear hK K E0 S0
          refine wpAnyH_done (by kernel_rfl) ?_ _
          go_simp
          obtain ⟨ta, tc, la, lc, hg, hO, hP, hdd⟩ := S1.has
          obtain ⟨q0, q1, q2, qf⟩ := jrow3 hg
          have E2 : v1.drew.cell? ⟨b, off, none⟩ = some (.string x) := E1
          obtain ⟨n, hn⟩ : ∃ n, n = LF.length := ⟨_, rfl⟩
          have hn1 : n ≤ 1000000 := by have h := HA.out.2.2.2.2.2.1; rw [List.length_append, List.length_singleton] at h; omega
          have p2 : v1.drew.cell? ⟨w.heap.size, 2, none⟩ = some (.slice la n lc) := by rw [hn]; exact q2
          have HB := Lib.hid (And.intro S1.below.drew (And.intro (show v1.drew.heap[w.heap.size]? = _ from hg) (And.intro (show OwnT (w.heap.size + 1) v1.drew ta tc _ from hO) (And.intro (show OwnT (w.heap.size + 1) v1.drew la lc LF from hP) (And.intro hdd (And.intro hn (show w.heap.size + 1 ≤ v1.drew.heap.size from S1.lt)))))))
          clear hg hO hP hdd q0 q1 q2 qf S1 E1 hn
          go_wp2_with fail
          refine wp_region_held (S := fun W2 => W2.cell? ⟨b, off, none⟩ = some (.string x)) (by kernel_rfl) ?_
          change wpAnyH _ _ _ _ _ _ _ _ (World.drew _)
          generalize World.drew _ = y0 at *
          refine wpAnyH_take (i := 0) (v := ?_) rfl (by kernel_rfl) (by kernel_rfl) (by kernel_rfl) (fun _ _ _ h => h) (Or.inl ⟨by kernel_rfl, ?_⟩) E2 ?_
          rotate_left
          · (intro W2 hS; go_simp; try (with_reducible rfl))
          refine wpAnyH_take (i := 2) (v := ?_) rfl (by kernel_rfl) (by kernel_rfl) (by kernel_rfl) (fun _ _ _ h => h) (Or.inl ⟨by kernel_rfl, ?_⟩) E2 ?_
          rotate_left
          · (intro W2 hS; go_simp; try (with_reducible rfl))
          refine wpAnyH_take (i := 3) (v := ?_) rfl (by kernel_rfl) (by kernel_rfl) (by kernel_rfl) (fun _ _ _ h => h) (Or.inl ⟨by kernel_rfl, ?_⟩) E2 ?_
          rotate_left
          · (intro W2 hS; go_simp; try (with_reducible rfl))
          refine wpAnyH_take (i := 4) (v := ?_) rfl (by kernel_rfl) (by kernel_rfl) (by kernel_rfl) (fun _ _ _ h => h) (Or.inl ⟨by kernel_rfl, ?_⟩) E2 ?_
          rotate_left
          · (intro W2 hS; go_simp; try (with_reducible rfl))
          refine wpAnyH_ready (rs := [1, 5]) (by kernel_rfl) (by simp) ?_
          refine AllReadyH.cons rfl (fun K hK => ?_) (AllReadyH.cons rfl (fun K hK => ?_) AllReadyH.nil)
          · go_simp
            refine hK.out _ _ E2 (fun _ => ?_)
            clear hK K
            refine wpAnyH_ready (rs := [5]) (by kernel_rfl) (by simp) ?_
            refine AllReadyH.cons rfl (fun K hK => ?_) AllReadyH.nil
            go_simp
            have hba : Below y0.heap.size y0 (y0.alloc (.cells #[.string x] 9)) := (Below.refl _ _).alloc (Nat.le_refl _) _
            have E3 : (y0.alloc (.cells #[.string x] 9)).cell? ⟨b, off, none⟩ = some (.string x) := (hba.cell (p := ⟨b, off, none⟩) (by have h1 := HA.out.2.2.2.2.2.2.2.2.2.2.1; have h2 := HB.out.2.2.2.2.2.2; show b < y0.heap.size; omega)).trans E2
            have hg3 := (hba.block _ (Array.getElem?_eq_some_iff.1 HB.out.2.1).1).trans HB.out.2.1
            have HC := Lib.hid (And.intro (HB.out.1.trans (hba.mono HB.out.1.size)) (And.intro hg3 (And.intro (OwnT.call HB.out.2.2.1 hba) (And.intro (OwnT.call HB.out.2.2.2.1 hba) (show w.heap.size + 1 ≤ (y0.alloc (.cells #[.string x] 9)).heap.size from by rw [World.size_alloc]; have h := HB.out.2.2.2.2.2.2; omega)))))
            have p3 : (y0.alloc (.cells #[.string x] 9)).cell? ⟨w.heap.size, 2, none⟩ = some (.slice la n lc) := (hba.cell (p := ⟨w.heap.size, 2, none⟩) (show w.heap.size < y0.heap.size from HB.out.2.2.2.2.2.2)).trans p2
            have htx := texts_one y0 x
            obtain ⟨y1, hy1⟩ : ∃ y1, y1 = y0.alloc (.cells #[.string x] 9) := ⟨_, rfl⟩
            rw [← hy1] at E3 HC p3 htx ⊢
            clear hba hg3 hy1
            refine hK.out _ _ E3 (fun _ => ?_)
            clear hK K
            refine wpAnyH_ready (rs := [6]) (by kernel_rfl) (by simp) ?_
            refine AllReadyH.cons rfl (fun K hK => ?_) AllReadyH.nil
            refine step_append_texts3 rfl (.tmp 19) (.tmp 23) rfl HC.out.2.2.2.1 _ HB.out.2.2.2.2.2.1.symm rfl _ _ 1 [x] rfl rfl htx (by omega) HC.out.2.2.2.2 ?_
            intro ad cp y2 hA
            obtain ⟨hg4, hS4⟩ := CSt.lefts HC.out.1 HC.out.2.1 HC.out.2.2.1 HC.out.2.2.2.1 HB.out.2.2.2.2.1 hA
            rw [show LF.length + [x].length = n + 1 by rw [← HB.out.2.2.2.2.2.1]; rfl] at hS4
            have hb4 := hA.grown
            have E4 : y2.cell? ⟨b, off, none⟩ = some (.string x) := (hb4.cell_far ⟨b, off, none⟩ (by have h1 := HA.out.2.2.2.2.2.2.2.2.2.2.1; have h2 := HC.out.2.2.2.2; show b < y1.heap.size; omega) (fun e => by have h1 := HA.out.2.2.2.2.2.2.2.2.2.2.1; have h2 := (World.ownsRow.lt HC.out.2.2.2.1 _ e.symm).1; simp only at h2; omega)).trans E3
            try go_simp
            refine hK.out _ _ E4 (fun _ => ?_)
            clear hK K
            obtain ⟨r0, r1, r2, rf⟩ := jrow3 hg4
            have E5 : (y2.setCell ⟨w.heap.size, 2, none⟩ (.slice ad (n + 1) cp)).cell? ⟨b, off, none⟩ = some (.string x) := ((below_setCell' (Below.refl w.heap.size y2) (Nat.le_refl _) 2 (.slice ad (n + 1) cp)).cell (p := ⟨b, off, none⟩) HA.out.2.2.2.2.2.2.2.2.2.2.1).trans E4
            refine wpAnyH_take (i := 7) (v := ?_) rfl (by kernel_rfl) (by kernel_rfl) (by kernel_rfl) (fun _ _ _ h => h) (Or.inl ⟨by kernel_rfl, ?_⟩) E4 ?_
            rotate_left
            · (intro W2 hS; go_simp; try (with_reducible rfl))
            refine wpAnyH_ready (rs := [8]) (by kernel_rfl) (by simp) ?_
            refine AllReadyH.cons rfl (fun K hK => ?_) AllReadyH.nil
            go_simp
            refine hK.out _ _ E5 (fun _ => ?_)
            clear hK K
            refine wpAnyH_done (by kernel_rfl) ?_ _
            go_simp
            have HS1 := Lib.hid hS4
            clear hS4 hg4 hA hb4 r0 r1 r2 rf E2 E3 E4 E5 p2 p3 htx
            generalize World.setCell _ _ _ = y3 at *
            by_cases hc1 : cap = 1
            · go_wp2_with fail
              go_step3
              rw [HW.out.1, HW.out.2]
              refine ⟨rfl, ?_⟩
              exact ⟨a2, l2, (node x d), ws, (T ++ [nodeT x d]), (LF ++ [x]), (some ⟨b, off, none⟩), 0, m2, _, _, _, _, _, _, _, _, _, _, _, _, _, _, _, _, _, _, _, _, _, _, _, _, _, _, _, _, _, _, _, _, _, _, _, _, _, _, _, _, _, _, _, _, _, _, _, _, _, _, _, _, _, _, _, rfl, HA.out.1, HA.out.2.1, by have h1 := HA.out.2.2.1; have h2 := HA.out.2.2.2.1; omega, HA.out.2.2.2.2.1, HA.out.2.2.2.2.2.1, hnd, HA.out.2.2.2.2.2.2.1, by have h1 := HA.out.2.2.2.2.2.2.2.2.2.2.2.1; have h2 := HA.out.2.2.2.2.2.2.2.2.2.2.2.2.1; omega, Nat.zero_le _, (show TextsAt w (some ⟨b, off, none⟩) ws from fun j hj => by exfalso; have h1 := HA.out.2.2.2.2.2.2.2.2.1; have h2 := HA.out.2.2.2.2.2.2.2.2.2.2.2.2.1; omega), HS1.out, HA.out.2.2.2.2.2.2.2.2.1⟩
            · go_wp2_with fail
              go_step3
              rw [HW.out.1, HW.out.2]
              refine ⟨rfl, ?_⟩
              exact ⟨a2, l2, (node x d), ws, (T ++ [nodeT x d]), (LF ++ [x]), (some ⟨b, off + 1, none⟩), c2, m2, _, _, _, _, _, _, _, _, _, _, _, _, _, _, _, _, _, _, _, _, _, _, _, _, _, _, _, _, _, _, _, _, _, _, _, _, _, _, _, _, _, _, _, _, _, _, _, _, _, _, _, _, _, _, _, rfl, HA.out.1, HA.out.2.1, by have h1 := HA.out.2.2.1; have h2 := HA.out.2.2.2.1; omega, HA.out.2.2.2.2.1, HA.out.2.2.2.2.2.1, hnd, HA.out.2.2.2.2.2.2.1, by have h1 := HA.out.2.2.2.2.2.2.2.2.2.2.2.1; have h2 := HA.out.2.2.2.2.2.2.2.2.2.2.2.2.1; omega, by have h1 := HA.out.2.2.2.2.2.2.2.2.2.2.2.1; have h3 := HA.out.2.2.2.2.2.2.2.2.2.2.2.2.2; omega, HA.out.2.2.2.2.2.2.2.1, HS1.out, HA.out.2.2.2.2.2.2.2.2.1⟩
          · go_simp
            have hba : Below y0.heap.size y0 (y0.alloc (.cells #[.string x] 9)) := (Below.refl _ _).alloc (Nat.le_refl _) _
            have E3 : (y0.alloc (.cells #[.string x] 9)).cell? ⟨b, off, none⟩ = some (.string x) := (hba.cell (p := ⟨b, off, none⟩) (by have h1 := HA.out.2.2.2.2.2.2.2.2.2.2.1; have h2 := HB.out.2.2.2.2.2.2; show b < y0.heap.size; omega)).trans E2
            have hg3 := (hba.block _ (Array.getElem?_eq_some_iff.1 HB.out.2.1).1).trans HB.out.2.1
            have HC := Lib.hid (And.intro (HB.out.1.trans (hba.mono HB.out.1.size)) (And.intro hg3 (And.intro (OwnT.call HB.out.2.2.1 hba) (And.intro (OwnT.call HB.out.2.2.2.1 hba) (show w.heap.size + 1 ≤ (y0.alloc (.cells #[.string x] 9)).heap.size from by rw [World.size_alloc]; have h := HB.out.2.2.2.2.2.2; omega)))))
            have p3 : (y0.alloc (.cells #[.string x] 9)).cell? ⟨w.heap.size, 2, none⟩ = some (.slice la n lc) := (hba.cell (p := ⟨w.heap.size, 2, none⟩) (show w.heap.size < y0.heap.size from HB.out.2.2.2.2.2.2)).trans p2
            have htx := texts_one y0 x
            obtain ⟨y1, hy1⟩ : ∃ y1, y1 = y0.alloc (.cells #[.string x] 9) := ⟨_, rfl⟩
            rw [← hy1] at E3 HC p3 htx ⊢
            clear hba hg3 hy1
            refine hK.out _ _ E3 (fun _ => ?_)
            clear hK K
            refine wpAnyH_ready (rs := [1]) (by kernel_rfl) (by simp) ?_
            refine AllReadyH.cons rfl (fun K hK => ?_) AllReadyH.nil
            go_simp
            refine hK.out _ _ E3 (fun _ => ?_)
            clear hK K
            refine wpAnyH_ready (rs := [6]) (by kernel_rfl) (by simp) ?_
            refine AllReadyH.cons rfl (fun K hK => ?_) AllReadyH.nil
            refine step_append_texts3 rfl (.tmp 19) (.tmp 23) rfl HC.out.2.2.2.1 _ HB.out.2.2.2.2.2.1.symm rfl _ _ 1 [x] rfl rfl htx (by omega) HC.out.2.2.2.2 ?_
            intro ad cp y2 hA
            obtain ⟨hg4, hS4⟩ := CSt.lefts HC.out.1 HC.out.2.1 HC.out.2.2.1 HC.out.2.2.2.1 HB.out.2.2.2.2.1 hA
            rw [show LF.length + [x].length = n + 1 by rw [← HB.out.2.2.2.2.2.1]; rfl] at hS4
            have hb4 := hA.grown
            have E4 : y2.cell? ⟨b, off, none⟩ = some (.string x) := (hb4.cell_far ⟨b, off, none⟩ (by have h1 := HA.out.2.2.2.2.2.2.2.2.2.2.1; have h2 := HC.out.2.2.2.2; show b < y1.heap.size; omega) (fun e => by have h1 := HA.out.2.2.2.2.2.2.2.2.2.2.1; have h2 := (World.ownsRow.lt HC.out.2.2.2.1 _ e.symm).1; simp only at h2; omega)).trans E3
            try go_simp
            refine hK.out _ _ E4 (fun _ => ?_)
            clear hK K
            obtain ⟨r0, r1, r2, rf⟩ := jrow3 hg4
            have E5 : (y2.setCell ⟨w.heap.size, 2, none⟩ (.slice ad (n + 1) cp)).cell? ⟨b, off, none⟩ = some (.string x) := ((below_setCell' (Below.refl w.heap.size y2) (Nat.le_refl _) 2 (.slice ad (n + 1) cp)).cell (p := ⟨b, off, none⟩) HA.out.2.2.2.2.2.2.2.2.2.2.1).trans E4
            refine wpAnyH_take (i := 7) (v := ?_) rfl (by kernel_rfl) (by kernel_rfl) (by kernel_rfl) (fun _ _ _ h => h) (Or.inl ⟨by kernel_rfl, ?_⟩) E4 ?_
            rotate_left
            · (intro W2 hS; go_simp; try (with_reducible rfl))
            refine wpAnyH_ready (rs := [8]) (by kernel_rfl) (by simp) ?_
            refine AllReadyH.cons rfl (fun K hK => ?_) AllReadyH.nil
            go_simp
            refine hK.out _ _ E5 (fun _ => ?_)
            clear hK K
            refine wpAnyH_done (by kernel_rfl) ?_ _
            go_simp
            have HS1 := Lib.hid hS4
            clear hS4 hg4 hA hb4 r0 r1 r2 rf E2 E3 E4 E5 p2 p3 htx
            generalize World.setCell _ _ _ = y3 at *
            by_cases hc1 : cap = 1
            · go_wp2_with fail
              go_step3
              rw [HW.out.1, HW.out.2]
              refine ⟨rfl, ?_⟩
              exact ⟨a2, l2, (node x d), ws, (T ++ [nodeT x d]), (LF ++ [x]), (some ⟨b, off, none⟩), 0, m2, _, _, _, _, _, _, _, _, _, _, _, _, _, _, _, _, _, _, _, _, _, _, _, _, _, _, _, _, _, _, _, _, _, _, _, _, _, _, _, _, _, _, _, _, _, _, _, _, _, _, _, _, _, _, _, rfl, HA.out.1, HA.out.2.1, by have h1 := HA.out.2.2.1; have h2 := HA.out.2.2.2.1; omega, HA.out.2.2.2.2.1, HA.out.2.2.2.2.2.1, hnd, HA.out.2.2.2.2.2.2.1, by have h1 := HA.out.2.2.2.2.2.2.2.2.2.2.2.1; have h2 := HA.out.2.2.2.2.2.2.2.2.2.2.2.2.1; omega, Nat.zero_le _, (show TextsAt w (some ⟨b, off, none⟩) ws from fun j hj => by exfalso; have h1 := HA.out.2.2.2.2.2.2.2.2.1; have h2 := HA.out.2.2.2.2.2.2.2.2.2.2.2.2.1; omega), HS1.out, HA.out.2.2.2.2.2.2.2.2.1⟩
            · go_wp2_with fail
              go_step3
              rw [HW.out.1, HW.out.2]
              refine ⟨rfl, ?_⟩
              exact ⟨a2, l2, (node x d), ws, (T ++ [nodeT x d]), (LF ++ [x]), (some ⟨b, off + 1, none⟩), c2, m2, _, _, _, _, _, _, _, _, _, _, _, _, _, _, _, _, _, _, _, _, _, _, _, _, _, _, _, _, _, _, _, _, _, _, _, _, _, _, _, _, _, _, _, _, _, _, _, _, _, _, _, _, _, _, _, rfl, HA.out.1, HA.out.2.1, by have h1 := HA.out.2.2.1; have h2 := HA.out.2.2.2.1; omega, HA.out.2.2.2.2.1, HA.out.2.2.2.2.2.1, hnd, HA.out.2.2.2.2.2.2.1, by have h1 := HA.out.2.2.2.2.2.2.2.2.2.2.2.1; have h2 := HA.out.2.2.2.2.2.2.2.2.2.2.2.2.1; omega, by have h1 := HA.out.2.2.2.2.2.2.2.2.2.2.2.1; have h3 := HA.out.2.2.2.2.2.2.2.2.2.2.2.2.2; omega, HA.out.2.2.2.2.2.2.2.1, HS1.out, HA.out.2.2.2.2.2.2.2.2.1⟩
  · clear HH hT hcap hmax hal hl hd hd0 q0 q1 q2 qf
    rintro act W' ⟨a, l, d, ws, T, LF, b0, cap, m, u10, u11, u12, u13, u14, u15, u16, u17, u18, u19, u20, u21, u22, u23, u24, u25, u26, u27, u28, u29, u30, u31, u32, u33, u34, u35, u36, u37, u38, u39, u40, u41, u42, u43, u44, u45, u46, u47, u48, u49, u50, u51, u52, u53, u54, u55, u56, u57, u58, u59, u60, u61, u62, u63, u64, rfl, hG0, hal, hl, hTl, hLl, hd, hws, hcap, hmax, hT, hS, hm⟩
    obtain ⟨W, hWW⟩ : ∃ W, W = W' := ⟨_, rfl⟩
    rw [← hWW] at hS ⊢
    clear hWW
    have hmax' := hmax
    unfold maxLen at hmax'
    obtain ⟨a2, ha2⟩ : ∃ x, x = a / 2 := ⟨_, rfl⟩
    obtain ⟨l2, hl2⟩ : ∃ x, x = l / 2 := ⟨_, rfl⟩
    have HW := Lib.hid (show wrap64 ((a : Int) / 2) = (a2 : Int) ∧ wrap64 ((l : Int) / 2) = (l2 : Int) from ⟨by rw [IntWalk.wrap64_in _ (by omega), ha2]; rfl, by rw [IntWalk.wrap64_in _ (by omega), hl2]; rfl⟩)
    by_cases h0 : l = 0
    · subst h0
      rw [climb_zero] at hG0
      obtain ⟨ta, tc, la, lc, hg, hO, hP, -⟩ := hS.has
      obtain ⟨q0, q1, q2, qf⟩ := jrow3 hg
      have HS := Lib.hid (And.intro hS.below (And.intro (hO.mono (Nat.le_succ _)) (hP.mono (Nat.le_succ _))))
      have HS2 := Lib.hid (And.intro hO hP)
      clear ha2 hl2 hg hO hP hS hT hws hd hTl hLl hcap hmax hmax' hal hl
      by_cases hz : ws = []
      · have hm0 : m = 0 := by rw [hm, hz]; rfl
        have hGs : G = some (d, T, LF) := by rw [hG0, if_pos hz]; simp
        clear hz hm hG0
        subst hm0
        have HGs := Lib.hid hGs
        clear hGs
        go_wp2_with fail
        refine bodyPost_ret (v := .tuple #[.agg #[.string d, .slice ta T.length tc, .slice la LF.length lc], .bool true]) (by simp [results, Tryd.results93, go_sem, q0, q1, q2]) rfl ?_
        refine ⟨below_put3 HS.out.1 (Nat.le_refl _) _ _ _, d, ta, T.length, tc, la, LF.length, lc, by rw [HGs.out]; rfl, fun x hx => ?_⟩
        rw [HGs.out] at hx
        injection hx with hx
        subst hx
        exact ⟨rfl, rfl, rfl, ((HS2.out.1).put3 (by omega) _ _ _).mono (Nat.le_succ _), ((HS2.out.2).put3 (by omega) _ _ _).mono (Nat.le_succ _)⟩
      · have hm0 : ((m : Int) == 0) = false := by have : m ≠ 0 := fun e => hz (List.length_eq_zero_iff.1 (hm.symm.trans e)); simp; omega
        have hGs : G = none := by rw [hG0, if_neg hz]; rfl
        clear hz hm hG0
        have HGs := Lib.hid hGs
        clear hGs
        go_wp2_with fail
        refine bodyPost_ret (v := .tuple #[.agg #[.string d, .slice ta T.length tc, .slice la LF.length lc], .bool false]) (by simp [results, Tryd.results93, go_sem, q0, q1, q2]) rfl ?_
        refine ⟨below_put3 HS.out.1 (Nat.le_refl _) _ _ _, d, ta, T.length, tc, la, LF.length, lc, by rw [HGs.out]; rfl, fun x hx => ?_⟩
        rw [HGs.out] at hx
        cases hx
    rw [climb_step _ _ h0, ← ha2, ← hl2] at hG0
    have k0 : ((l : Int) == 0) = false := by simp; omega
    have ha2l : a2 ≤ l2 := by rw [ha2, hl2]; omega
    have hl2l : l2 < l := by rw [hl2]; omega
    clear ha2 hl2 h0
    by_cases hB : a = l ∧ a % 2 = 0
    · rw [if_pos hB] at hG0
      have k1 : ((a : Int) == (l : Int)) = true := by simp; omega
      have k2 : (((a : Int) % 2) == 0) = true := by simp; omega
      have k3 : ((a : Int) % 2) = 0 := by omega
      have HA := Lib.hid (And.intro hG0 (And.intro ha2l (And.intro hl2l (And.intro hl (And.intro hTl (And.intro hLl (And.intro hd (And.intro hws (And.intro hcap (And.intro hmax (And.intro hT (And.intro hS hm))))))))))))
      clear hG0 ha2l hl2l hl hTl hLl hd hws hcap hmax hmax' hT hS hm hB hal
      go_wp2_with fail
      go_step3
      rw [HW.out.1, HW.out.2]
      refine ⟨rfl, ⟨a2, l2, d, ws, T, LF, b0, cap, m, _, _, _, _, _, _, _, _, _, _, _, _, _, _, _, _, _, _, _, _, _, _, _, _, _, _, _, _, _, _, _, _, _, _, _, _, _, _, _, _, _, _, _, _, _, _, _, _, _, _, _, _, _, _, _, rfl, HA.out.1, HA.out.2.1, by have h1 := HA.out.2.2.1; have h2 := HA.out.2.2.2.1; omega, HA.out.2.2.2.2.1, HA.out.2.2.2.2.2.1, HA.out.2.2.2.2.2.2.1, HA.out.2.2.2.2.2.2.2.1, HA.out.2.2.2.2.2.2.2.2.1, HA.out.2.2.2.2.2.2.2.2.2.1, HA.out.2.2.2.2.2.2.2.2.2.2.1, HA.out.2.2.2.2.2.2.2.2.2.2.2.1, HA.out.2.2.2.2.2.2.2.2.2.2.2.2⟩, ?_⟩
      simp [intOf]; have hz := HA.out.2.2.1; omega
    rw [if_neg hB] at hG0
    have k1 : (((a : Int) == (l : Int)) && ((a : Int) % 2 == 0)) = false := by
      cases h1 : ((a : Int) == (l : Int)) with
      | false => rfl
      | true =>
        cases h2 : ((a : Int) % 2 == 0) with
        | false => rfl
        | true => exact absurd ⟨by have := beq_iff_eq.1 h1; omega, by have := beq_iff_eq.1 h2; omega⟩ hB
    cases ws with
    | nil =>
      obtain ⟨ta, tc, la, lc, hg, hO, hP, -⟩ := hS.has
      obtain ⟨q0, q1, q2, qf⟩ := jrow3 hg
      have HS := Lib.hid (And.intro hS.below hG0)
      have hm0 : m = 0 := hm
      subst hm0
      clear hm hg hO hP hS hT hws hd hTl hLl hcap hmax hmax' hl hG0
      by_cases he : a = l
      · have k4 : ((a : Int) == (l : Int)) = true := by simp; omega
        have k5 : ((a : Int) % 2 == 0) = false := by simp; omega
        have k6 : (a : Int) % 2 = 1 := by omega
        clear he k1 hB hal
        go_wp2_with fail
        refine bodyPost_ret (v := .tuple #[.agg #[.string ⟨#[]⟩, .slice none 0 0, .slice none 0 0], .bool false]) (by simp [results, Tryd.results93, go_sem, q0, q1, q2]) rfl ?_
        have hGn : G = none := HS.out.2
        exact ⟨below_put3 HS.out.1 (Nat.le_refl _) _ _ _, _, _, _, _, _, _, _, by rw [hGn]; rfl, fun x hx => by rw [hGn] at hx; cases hx⟩
      · have k4 : ((a : Int) == (l : Int)) = false := by simp; omega
        clear he k1 hB hal
        go_wp2_with fail
        refine bodyPost_ret (v := .tuple #[.agg #[.string ⟨#[]⟩, .slice none 0 0, .slice none 0 0], .bool false]) (by simp [results, Tryd.results93, go_sem, q0, q1, q2]) rfl ?_
        have hGn : G = none := HS.out.2
        exact ⟨below_put3 HS.out.1 (Nat.le_refl _) _ _ _, _, _, _, _, _, _, _, by rw [hGn]; rfl, fun x hx => by rw [hGn] at hx; cases hx⟩
    | cons x ws =>
      simp only at hG0
      have hx32 : x.size = 32 := hws x (by simp)
      have hws2 : Digs ws := fun y hy => hws y (List.mem_cons_of_mem _ hy)
      obtain ⟨b, off, rfl, hbl, hcx⟩ := hT 0 (by simp)
      rw [Nat.add_zero, show (x :: ws : List ByteArray).getD 0 ByteArray.empty = x from rfl] at hcx
      have hT2 : TextsAt w (some ⟨b, off + 1, none⟩) ws := by have := hT.drop 1; rwa [List.drop_one, List.tail_cons] at this
      have hm1 : m = ws.length + 1 := by rw [hm]; rfl
      obtain ⟨m2, hm2⟩ : ∃ y, y = ws.length := ⟨_, rfl⟩
      rw [← hm2] at hm1
      have k7 : ((m : Int) == 0) = false := by simp; omega
      have k8 : (m : Int) - 1 = (m2 : Int) := by omega
      have k9 : m - 1 = m2 := by omega
      obtain ⟨c2, hc2⟩ : ∃ y, y = cap - 1 := ⟨_, rfl⟩
      have k10 : cap - 1 = c2 := hc2.symm
      have k11 : ¬ (cap = 1) ∨ cap = 1 := by omega
      have k12 : 1 ≤ m := by omega
      have k13 : m ≤ cap := hcap
      have k14 : 0 < m := by omega
      have k15 : 1 ≤ cap := by omega
      by_cases hev : a % 2 = 0
      · have k3 : (a : Int) % 2 = 0 := by omega
        have k5 : ((a : Int) % 2 == 0) = true := by simp; omega
        have k4 : ((a : Int) == (l : Int)) = false := by simp; omega
        rw [if_pos hev] at hG0
        have hG1 : G = (climb a2 l2 (node d x) ws).map (fun z => (z.1, (T ++ [nodeT d x]) ++ z.2.1, LF ++ z.2.2)) := by
          rw [hG0, Option.map_map]
          congr 1
          funext z
          simp
        have hTl1 : T.length ≤ 1000000 := by omega
        have hTl2 : (T ++ [nodeT d x]).length + m2 ≤ 1000000 := by rw [List.length_append, List.length_singleton]; omega
        have hLl2 : LF.length + m2 ≤ 1000000 := by omega
        have jn := fun W (h : CSt w d T LF W) => join_any h HG.out d x hd (by omega) hTl1
        obtain ⟨ta, tc, la, lc, hg, hO, hP, hdd⟩ := hS.has
        obtain ⟨q0, q1, q2, qf⟩ := jrow3 hg
        have hcW : W.cell? ⟨b, off, none⟩ = some (.string x) := (hS.below.cell (p := ⟨b, off, none⟩) hbl).trans hcx
        have hlW := hS.lt
        have HA := Lib.hid (And.intro hG1 (And.intro ha2l (And.intro hl2l (And.intro hl (And.intro hTl2 (And.intro hLl2 (And.intro hws2 (And.intro hT2 (And.intro hm2 (And.intro jn (And.intro hbl (And.intro hc2 (And.intro k13 hmax)))))))))))))
        have hnd : (node d x).size ≤ 100000 := by have := sumE_size (nodeT d x); unfold node; omega
        have E0 : W.drew.cell? ⟨b, off, none⟩ = some (.string x) := hcW
        have S0 : CSt w d T LF W.drew := ⟨hS.below.drew, ta, tc, la, lc, hg, hO, hP, hdd⟩
        have d0 : W.drew.cell? ⟨w.heap.size, 0, none⟩ = some (.string d) := q0
        clear hG0 hG1 ha2l hl2l hl hTl hLl hTl1 hTl2 hLl2 hd hws hws2 hcap hmax hmax' hT hT2 hS hm hm1 hm2 hal hB hev k1 jn hg hO hP hdd hbl hcx hc2 k15 
        clear q1 q2 qf q0 hcW k11
        go_wp2_with fail
        refine wp_region_held (S := fun W2 => W2.cell? ⟨b, off, none⟩ = some (.string x)) (by kernel_rfl) ?_
        change wpAnyH _ _ _ _ _ _ _ _ (World.drew _)
        generalize World.drew _ = v0 at *
        refine wpAnyH_take (i := 0) (v := ?_) rfl (by kernel_rfl) (by kernel_rfl) (by kernel_rfl) (fun _ _ _ h => h) (Or.inl ⟨by kernel_rfl, ?_⟩) E0 ?_
        rotate_left
        · (intro W2 hS; go_simp; try (with_reducible rfl))
        refine wpAnyH_take (i := 2) (v := ?_) rfl (by kernel_rfl) (by kernel_rfl) (by kernel_rfl) (fun _ _ _ h => h) (Or.inl ⟨by kernel_rfl, ?_⟩) E0 ?_
        rotate_left
        · (intro W2 hS; go_simp; try (with_reducible rfl))
        refine wpAnyH_take (i := 3) (v := ?_) rfl (by kernel_rfl) (by kernel_rfl) (by kernel_rfl) (fun _ _ _ h => h) (Or.inl ⟨by kernel_rfl, ?_⟩) E0 ?_
        rotate_left
        · (intro W2 hS; go_simp; try (with_reducible rfl))
        refine wpAnyH_take (i := 4) (v := ?_) rfl (by kernel_rfl) (by kernel_rfl) (by kernel_rfl) (fun _ _ _ h => h) (Or.inl ⟨by kernel_rfl, ?_⟩) E0 ?_
        rotate_left
        · (intro W2 hS; go_simp; try (with_reducible rfl))
        refine wpAnyH_ready (rs := [1]) (by kernel_rfl) (by simp) ?_
        refine AllReadyH.cons rfl (fun K hK => ?_) AllReadyH.nil
        go_simp
        refine hK.out _ _ E0 (fun _ => ?_)
        clear hK K d0
        refine wpAnyH_ready (rs := [5]) (by kernel_rfl) (by simp) ?_
        refine AllReadyH.cons rfl (fun K hK => ?_) AllReadyH.nil
        go_simp
        refine (HA.out.2.2.2.2.2.2.2.2.2.1 _ S0).mono ?_
        rintro e v1 ⟨rfl, S1⟩
        have E1 : v1.cell? ⟨b, off, none⟩ = some (.string x) := (S1.below.cell (p := ⟨b, off, none⟩) HA.out.2.2.2.2.2.2.2.2.2.2.1).trans ((S0.below.cell (p := ⟨b, off, none⟩) HA.out.2.2.2.2.2.2.2.2.2.2.1).symm.trans E0)
        refine hK.out _ _ E1 (fun _ => ?_)
        clear hK K E0 S0
        refine wpAnyH_done (by kernel_rfl) ?_ _
        go_simp
        have HS1 := Lib.hid S1
        clear E1 S1
        by_cases hc1 : cap = 1
        · go_wp2_with fail
          go_step3
          rw [HW.out.1, HW.out.2]
          refine ⟨rfl, ⟨a2, l2, (node d x), ws, (T ++ [nodeT d x]), LF, (some ⟨b, off, none⟩), 0, m2, _, _, _, _, _, _, _, _, _, _, _, _, _, _, _, _, _, _, _, _, _, _, _, _, _, _, _, _, _, _, _, _, _, _, _, _, _, _, _, _, _, _, _, _, _, _, _, _, _, _, _, _, _, _, _, rfl, HA.out.1, HA.out.2.1, by have h1 := HA.out.2.2.1; have h2 := HA.out.2.2.2.1; omega, HA.out.2.2.2.2.1, HA.out.2.2.2.2.2.1, hnd, HA.out.2.2.2.2.2.2.1, by have h1 := HA.out.2.2.2.2.2.2.2.2.2.2.2.1; have h2 := HA.out.2.2.2.2.2.2.2.2.2.2.2.2.1; omega, Nat.zero_le _, (show TextsAt w (some ⟨b, off, none⟩) ws from fun j hj => by exfalso; have h1 := HA.out.2.2.2.2.2.2.2.2.1; have h2 := HA.out.2.2.2.2.2.2.2.2.2.2.2.2.1; omega), HS1.out, HA.out.2.2.2.2.2.2.2.2.1⟩, ?_⟩
          simp [intOf]; have hz := HA.out.2.2.1; omega
        · go_wp2_with fail
          go_step3
          rw [HW.out.1, HW.out.2]
          refine ⟨rfl, ⟨a2, l2, (node d x), ws, (T ++ [nodeT d x]), LF, (some ⟨b, off + 1, none⟩), c2, m2, _, _, _, _, _, _, _, _, _, _, _, _, _, _, _, _, _, _, _, _, _, _, _, _, _, _, _, _, _, _, _, _, _, _, _, _, _, _, _, _, _, _, _, _, _, _, _, _, _, _, _, _, _, _, _, rfl, HA.out.1, HA.out.2.1, by have h1 := HA.out.2.2.1; have h2 := HA.out.2.2.2.1; omega, HA.out.2.2.2.2.1, HA.out.2.2.2.2.2.1, hnd, HA.out.2.2.2.2.2.2.1, by have h1 := HA.out.2.2.2.2.2.2.2.2.2.2.2.1; have h2 := HA.out.2.2.2.2.2.2.2.2.2.2.2.2.1; omega, by have h1 := HA.out.2.2.2.2.2.2.2.2.2.2.2.1; have h3 := HA.out.2.2.2.2.2.2.2.2.2.2.2.2.2; omega, HA.out.2.2.2.2.2.2.2.1, HS1.out, HA.out.2.2.2.2.2.2.2.2.1⟩, ?_⟩
          simp [intOf]; have hz := HA.out.2.2.1; omega
      · by_cases hee : a = l
        · have k3 : (a : Int) % 2 = 1 := by omega
          have k5 : ((a : Int) % 2 == 0) = false := by simp; omega
          rw [if_neg hev] at hG0
          have k4 : ((a : Int) == (l : Int)) = true := by simp; omega
          have hG1 : G = (climb a2 l2 (node x d) ws).map (fun z => (z.1, (T ++ [nodeT x d]) ++ z.2.1, (LF ++ [x]) ++ z.2.2)) := by
            rw [hG0, Option.map_map]
            congr 1
            funext z
            simp
          have hTl1 : T.length ≤ 1000000 := by omega
          have hTl2 : (T ++ [nodeT x d]).length + m2 ≤ 1000000 := by rw [List.length_append, List.length_singleton]; omega
          have hLl2 : (LF ++ [x]).length + m2 ≤ 1000000 := by rw [List.length_append, List.length_singleton]; omega
          have jn := fun W (h : CSt w d T LF W) => join_any h HG.out x d (by omega) hd hTl1
          obtain ⟨ta, tc, la, lc, hg, hO, hP, hdd⟩ := hS.has
          obtain ⟨q0, q1, q2, qf⟩ := jrow3 hg
          have hcW : W.cell? ⟨b, off, none⟩ = some (.string x) := (hS.below.cell (p := ⟨b, off, none⟩) hbl).trans hcx
          have hlW := hS.lt
          have HA := Lib.hid (And.intro hG1 (And.intro ha2l (And.intro hl2l (And.intro hl (And.intro hTl2 (And.intro hLl2 (And.intro hws2 (And.intro hT2 (And.intro hm2 (And.intro jn (And.intro hbl (And.intro hc2 (And.intro k13 hmax)))))))))))))
          have hnd : (node x d).size ≤ 100000 := by have := sumE_size (nodeT x d); unfold node; omega
          have E0 : W.drew.cell? ⟨b, off, none⟩ = some (.string x) := hcW
          have S0 : CSt w d T LF W.drew := ⟨hS.below.drew, ta, tc, la, lc, hg, hO, hP, hdd⟩
          have d0 : W.drew.cell? ⟨w.heap.size, 0, none⟩ = some (.string d) := q0
          clear hG0 hG1 ha2l hl2l hl hTl hLl hTl1 hTl2 hLl2 hd hws hws2 hcap hmax hmax' hT hT2 hS hm hm1 hm2 hal hB hev k1 jn hg hO hP hdd hbl hcx hc2 k15 hee
          clear q1 q2 qf q0 hcW k11
          go_wp2_with fail
          refine wp_region_held (S := fun W2 => W2.cell? ⟨b, off, none⟩ = some (.string x)) (by kernel_rfl) ?_
          change wpAnyH _ _ _ _ _ _ _ _ (World.drew _)
          generalize World.drew _ = v0 at *
          refine wpAnyH_take (i := 0) (v := ?_) rfl (by kernel_rfl) (by kernel_rfl) (by kernel_rfl) (fun _ _ _ h => h) (Or.inl ⟨by kernel_rfl, ?_⟩) E0 ?_
          rotate_left
          · (intro W2 hS; go_simp; try (with_reducible rfl))
          refine wpAnyH_take (i := 1) (v := ?_) rfl (by kernel_rfl) (by kernel_rfl) (by kernel_rfl) (fun _ _ _ h => h) (Or.inl ⟨by kernel_rfl, ?_⟩) E0 ?_
          rotate_left
          · (intro W2 hS; go_simp; try (with_reducible rfl))
          refine wpAnyH_take (i := 2) (v := ?_) rfl (by kernel_rfl) (by kernel_rfl) (by kernel_rfl) (fun _ _ _ h => h) (Or.inl ⟨by kernel_rfl, ?_⟩) E0 ?_
          rotate_left
          · (intro W2 hS; go_simp; try (with_reducible rfl))
          refine wpAnyH_take (i := 3) (v := ?_) rfl (by kernel_rfl) (by kernel_rfl) (by kernel_rfl) (fun _ _ _ h => h) (Or.inl ⟨by kernel_rfl, ?_⟩) E0 ?_
          rotate_left
          · (intro W2 hS; go_simp; try (with_reducible rfl))
          refine wpAnyH_ready (rs := [4]) (by kernel_rfl) (by simp) ?_
          refine AllReadyH.cons rfl (fun K hK => ?_) AllReadyH.nil
          go_simp
          refine hK.out _ _ E0 (fun _ => ?_)
          clear hK K d0
          refine wpAnyH_ready (rs := [5]) (by kernel_rfl) (by simp) ?_
          refine AllReadyH.cons rfl (fun K hK => ?_) AllReadyH.nil
          go_simp
          refine (HA.out.2.2.2.2.2.2.2.2.2.1 _ S0).mono ?_
          rintro e v1 ⟨rfl, S1⟩
          have E1 : v1.cell? ⟨b, off, none⟩ = some (.string x) := (S1.below.cell (p := ⟨b, off, none⟩) HA.out.2.2.2.2.2.2.2.2.2.2.1).trans ((S0.below.cell (p := ⟨b, off, none⟩) HA.out.2.2.2.2.2.2.2.2.2.2.1).symm.trans E0)
          refine hK.out _ _ E1 (fun _ => ?_)
          clear hK K E0 S0
          refine wpAnyH_done (by kernel_rfl) ?_ _
          go_simp
          obtain ⟨ta, tc, la, lc, hg, hO, hP, hdd⟩ := S1.has
          obtain ⟨q0, q1, q2, qf⟩ := jrow3 hg
          have E2 : v1.drew.cell? ⟨b, off, none⟩ = some (.string x) := E1
          obtain ⟨n, hn⟩ : ∃ n, n = LF.length := ⟨_, rfl⟩
          have hn1 : n ≤ 1000000 := by have h := HA.out.2.2.2.2.2.1; rw [List.length_append, List.length_singleton] at h; omega
          have p2 : v1.drew.cell? ⟨w.heap.size, 2, none⟩ = some (.slice la n lc) := by rw [hn]; exact q2
          have HB := Lib.hid (And.intro S1.below.drew (And.intro (show v1.drew.heap[w.heap.size]? = _ from hg) (And.intro (show OwnT (w.heap.size + 1) v1.drew ta tc _ from hO) (And.intro (show OwnT (w.heap.size + 1) v1.drew la lc LF from hP) (And.intro hdd (And.intro hn (show w.heap.size + 1 ≤ v1.drew.heap.size from S1.lt)))))))
          clear hg hO hP hdd q0 q1 q2 qf S1 E1 hn
          go_wp2_with fail
          refine wp_region_held (S := fun W2 => W2.cell? ⟨b, off, none⟩ = some (.string x)) (by kernel_rfl) ?_
          change wpAnyH _ _ _ _ _ _ _ _ (World.drew _)
          generalize World.drew _ = y0 at *
          refine wpAnyH_take (i := 0) (v := ?_) rfl (by kernel_rfl) (by kernel_rfl) (by kernel_rfl) (fun _ _ _ h => h) (Or.inl ⟨by kernel_rfl, ?_⟩) E2 ?_
          rotate_left
          · (intro W2 hS; go_simp; try (with_reducible rfl))
          refine wpAnyH_take (i := 2) (v := ?_) rfl (by kernel_rfl) (by kernel_rfl) (by kernel_rfl) (fun _ _ _ h => h) (Or.inl ⟨by kernel_rfl, ?_⟩) E2 ?_
          rotate_left
          · (intro W2 hS; go_simp; try (with_reducible rfl))
          refine wpAnyH_take (i := 3) (v := ?_) rfl (by kernel_rfl) (by kernel_rfl) (by kernel_rfl) (fun _ _ _ h => h) (Or.inl ⟨by kernel_rfl, ?_⟩) E2 ?_
          rotate_left
          · (intro W2 hS; go_simp; try (with_reducible rfl))
          refine wpAnyH_take (i := 4) (v := ?_) rfl (by kernel_rfl) (by kernel_rfl) (by kernel_rfl) (fun _ _ _ h => h) (Or.inl ⟨by kernel_rfl, ?_⟩) E2 ?_
          rotate_left
          · (intro W2 hS; go_simp; try (with_reducible rfl))
          refine wpAnyH_ready (rs := [1, 5]) (by kernel_rfl) (by simp) ?_
          refine AllReadyH.cons rfl (fun K hK => ?_) (AllReadyH.cons rfl (fun K hK => ?_) AllReadyH.nil)
          · go_simp
            refine hK.out _ _ E2 (fun _ => ?_)
            clear hK K
            refine wpAnyH_ready (rs := [5]) (by kernel_rfl) (by simp) ?_
            refine AllReadyH.cons rfl (fun K hK => ?_) AllReadyH.nil
            go_simp
            have hba : Below y0.heap.size y0 (y0.alloc (.cells #[.string x] 9)) := (Below.refl _ _).alloc (Nat.le_refl _) _
            have E3 : (y0.alloc (.cells #[.string x] 9)).cell? ⟨b, off, none⟩ = some (.string x) := (hba.cell (p := ⟨b, off, none⟩) (by have h1 := HA.out.2.2.2.2.2.2.2.2.2.2.1; have h2 := HB.out.2.2.2.2.2.2; show b < y0.heap.size; omega)).trans E2
            have hg3 := (hba.block _ (Array.getElem?_eq_some_iff.1 HB.out.2.1).1).trans HB.out.2.1
            have HC := Lib.hid (And.intro (HB.out.1.trans (hba.mono HB.out.1.size)) (And.intro hg3 (And.intro (OwnT.call HB.out.2.2.1 hba) (And.intro (OwnT.call HB.out.2.2.2.1 hba) (show w.heap.size + 1 ≤ (y0.alloc (.cells #[.string x] 9)).heap.size from by rw [World.size_alloc]; have h := HB.out.2.2.2.2.2.2; omega)))))
            have p3 : (y0.alloc (.cells #[.string x] 9)).cell? ⟨w.heap.size, 2, none⟩ = some (.slice la n lc) := (hba.cell (p := ⟨w.heap.size, 2, none⟩) (show w.heap.size < y0.heap.size from HB.out.2.2.2.2.2.2)).trans p2
            have htx := texts_one y0 x
            obtain ⟨y1, hy1⟩ : ∃ y1, y1 = y0.alloc (.cells #[.string x] 9) := ⟨_, rfl⟩
            rw [← hy1] at E3 HC p3 htx ⊢
            clear hba hg3 hy1
            refine hK.out _ _ E3 (fun _ => ?_)
            clear hK K
            refine wpAnyH_ready (rs := [6]) (by kernel_rfl) (by simp) ?_
            refine AllReadyH.cons rfl (fun K hK => ?_) AllReadyH.nil
            refine step_append_texts3 rfl (.tmp 19) (.tmp 23) rfl HC.out.2.2.2.1 _ HB.out.2.2.2.2.2.1.symm rfl _ _ 1 [x] rfl rfl htx (by omega) HC.out.2.2.2.2 ?_
            intro ad cp y2 hA
            obtain ⟨hg4, hS4⟩ := CSt.lefts HC.out.1 HC.out.2.1 HC.out.2.2.1 HC.out.2.2.2.1 HB.out.2.2.2.2.1 hA
            rw [show LF.length + [x].length = n + 1 by rw [← HB.out.2.2.2.2.2.1]; rfl] at hS4
            have hb4 := hA.grown
            have E4 : y2.cell? ⟨b, off, none⟩ = some (.string x) := (hb4.cell_far ⟨b, off, none⟩ (by have h1 := HA.out.2.2.2.2.2.2.2.2.2.2.1; have h2 := HC.out.2.2.2.2; show b < y1.heap.size; omega) (fun e => by have h1 := HA.out.2.2.2.2.2.2.2.2.2.2.1; have h2 := (World.ownsRow.lt HC.out.2.2.2.1 _ e.symm).1; simp only at h2; omega)).trans E3
            try go_simp
            refine hK.out _ _ E4 (fun _ => ?_)
            clear hK K
            obtain ⟨r0, r1, r2, rf⟩ := jrow3 hg4
            have E5 : (y2.setCell ⟨w.heap.size, 2, none⟩ (.slice ad (n + 1) cp)).cell? ⟨b, off, none⟩ = some (.string x) := ((below_setCell' (Below.refl w.heap.size y2) (Nat.le_refl _) 2 (.slice ad (n + 1) cp)).cell (p := ⟨b, off, none⟩) HA.out.2.2.2.2.2.2.2.2.2.2.1).trans E4
            refine wpAnyH_take (i := 7) (v := ?_) rfl (by kernel_rfl) (by kernel_rfl) (by kernel_rfl) (fun _ _ _ h => h) (Or.inl ⟨by kernel_rfl, ?_⟩) E4 ?_
            rotate_left
            · (intro W2 hS; go_simp; try (with_reducible rfl))
            refine wpAnyH_ready (rs := [8]) (by kernel_rfl) (by simp) ?_
            refine AllReadyH.cons rfl (fun K hK => ?_) AllReadyH.nil
            go_simp
            refine hK.out _ _ E5 (fun _ => ?_)
            clear hK K
            refine wpAnyH_done (by kernel_rfl) ?_ _
            go_simp
            have HS1 := Lib.hid hS4
            clear hS4 hg4 hA hb4 r0 r1 r2 rf E2 E3 E4 E5 p2 p3 htx
            generalize World.setCell _ _ _ = y3 at *
            by_cases hc1 : cap = 1
            · go_wp2_with fail
              go_step3
              rw [HW.out.1, HW.out.2]
              refine ⟨rfl, ⟨a2, l2, (node x d), ws, (T ++ [nodeT x d]), (LF ++ [x]), (some ⟨b, off, none⟩), 0, m2, _, _, _, _, _, _, _, _, _, _, _, _, _, _, _, _, _, _, _, _, _, _, _, _, _, _, _, _, _, _, _, _, _, _, _, _, _, _, _, _, _, _, _, _, _, _, _, _, _, _, _, _, _, _, _, rfl, HA.out.1, HA.out.2.1, by have h1 := HA.out.2.2.1; have h2 := HA.out.2.2.2.1; omega, HA.out.2.2.2.2.1, HA.out.2.2.2.2.2.1, hnd, HA.out.2.2.2.2.2.2.1, by have h1 := HA.out.2.2.2.2.2.2.2.2.2.2.2.1; have h2 := HA.out.2.2.2.2.2.2.2.2.2.2.2.2.1; omega, Nat.zero_le _, (show TextsAt w (some ⟨b, off, none⟩) ws from fun j hj => by exfalso; have h1 := HA.out.2.2.2.2.2.2.2.2.1; have h2 := HA.out.2.2.2.2.2.2.2.2.2.2.2.2.1; omega), HS1.out, HA.out.2.2.2.2.2.2.2.2.1⟩, ?_⟩
              simp [intOf]; have hz := HA.out.2.2.1; omega
            · go_wp2_with fail
              go_step3
              rw [HW.out.1, HW.out.2]
              refine ⟨rfl, ⟨a2, l2, (node x d), ws, (T ++ [nodeT x d]), (LF ++ [x]), (some ⟨b, off + 1, none⟩), c2, m2, _, _, _, _, _, _, _, _, _, _, _, _, _, _, _, _, _, _, _, _, _, _, _, _, _, _, _, _, _, _, _, _, _, _, _, _, _, _, _, _, _, _, _, _, _, _, _, _, _, _, _, _, _, _, _, rfl, HA.out.1, HA.out.2.1, by have h1 := HA.out.2.2.1; have h2 := HA.out.2.2.2.1; omega, HA.out.2.2.2.2.1, HA.out.2.2.2.2.2.1, hnd, HA.out.2.2.2.2.2.2.1, by have h1 := HA.out.2.2.2.2.2.2.2.2.2.2.2.1; have h2 := HA.out.2.2.2.2.2.2.2.2.2.2.2.2.1; omega, by have h1 := HA.out.2.2.2.2.2.2.2.2.2.2.2.1; have h3 := HA.out.2.2.2.2.2.2.2.2.2.2.2.2.2; omega, HA.out.2.2.2.2.2.2.2.1, HS1.out, HA.out.2.2.2.2.2.2.2.2.1⟩, ?_⟩
              simp [intOf]; have hz := HA.out.2.2.1; omega
          · go_simp
            have hba : Below y0.heap.size y0 (y0.alloc (.cells #[.string x] 9)) := (Below.refl _ _).alloc (Nat.le_refl _) _
            have E3 : (y0.alloc (.cells #[.string x] 9)).cell? ⟨b, off, none⟩ = some (.string x) := (hba.cell (p := ⟨b, off, none⟩) (by have h1 := HA.out.2.2.2.2.2.2.2.2.2.2.1; have h2 := HB.out.2.2.2.2.2.2; show b < y0.heap.size; omega)).trans E2
            have hg3 := (hba.block _ (Array.getElem?_eq_some_iff.1 HB.out.2.1).1).trans HB.out.2.1
            have HC := Lib.hid (And.intro (HB.out.1.trans (hba.mono HB.out.1.size)) (And.intro hg3 (And.intro (OwnT.call HB.out.2.2.1 hba) (And.intro (OwnT.call HB.out.2.2.2.1 hba) (show w.heap.size + 1 ≤ (y0.alloc (.cells #[.string x] 9)).heap.size from by rw [World.size_alloc]; have h := HB.out.2.2.2.2.2.2; omega)))))
            have p3 : (y0.alloc (.cells #[.string x] 9)).cell? ⟨w.heap.size, 2, none⟩ = some (.slice la n lc) := (hba.cell (p := ⟨w.heap.size, 2, none⟩) (show w.heap.size < y0.heap.size from HB.out.2.2.2.2.2.2)).trans p2
            have htx := texts_one y0 x
            obtain ⟨y1, hy1⟩ : ∃ y1, y1 = y0.alloc (.cells #[.string x] 9) := ⟨_, rfl⟩
            rw [← hy1] at E3 HC p3 htx ⊢
            clear hba hg3 hy1
            refine hK.out _ _ E3 (fun _ => ?_)
            clear hK K
            refine wpAnyH_ready (rs := [1]) (by kernel_rfl) (by simp) ?_
            refine AllReadyH.cons rfl (fun K hK => ?_) AllReadyH.nil
            go_simp
            refine hK.out _ _ E3 (fun _ => ?_)
            clear hK K
            refine wpAnyH_ready (rs := [6]) (by kernel_rfl) (by simp) ?_
            refine AllReadyH.cons rfl (fun K hK => ?_) AllReadyH.nil
            refine step_append_texts3 rfl (.tmp 19) (.tmp 23) rfl HC.out.2.2.2.1 _ HB.out.2.2.2.2.2.1.symm rfl _ _ 1 [x] rfl rfl htx (by omega) HC.out.2.2.2.2 ?_
            intro ad cp y2 hA
            obtain ⟨hg4, hS4⟩ := CSt.lefts HC.out.1 HC.out.2.1 HC.out.2.2.1 HC.out.2.2.2.1 HB.out.2.2.2.2.1 hA
            rw [show LF.length + [x].length = n + 1 by rw [← HB.out.2.2.2.2.2.1]; rfl] at hS4
            have hb4 := hA.grown
            have E4 : y2.cell? ⟨b, off, none⟩ = some (.string x) := (hb4.cell_far ⟨b, off, none⟩ (by have h1 := HA.out.2.2.2.2.2.2.2.2.2.2.1; have h2 := HC.out.2.2.2.2; show b < y1.heap.size; omega) (fun e => by have h1 := HA.out.2.2.2.2.2.2.2.2.2.2.1; have h2 := (World.ownsRow.lt HC.out.2.2.2.1 _ e.symm).1; simp only at h2; omega)).trans E3
            try go_simp
            refine hK.out _ _ E4 (fun _ => ?_)
            clear hK K
            obtain ⟨r0, r1, r2, rf⟩ := jrow3 hg4
            have E5 : (y2.setCell ⟨w.heap.size, 2, none⟩ (.slice ad (n + 1) cp)).cell? ⟨b, off, none⟩ = some (.string x) := ((below_setCell' (Below.refl w.heap.size y2) (Nat.le_refl _) 2 (.slice ad (n + 1) cp)).cell (p := ⟨b, off, none⟩) HA.out.2.2.2.2.2.2.2.2.2.2.1).trans E4
            refine wpAnyH_take (i := 7) (v := ?_) rfl (by kernel_rfl) (by kernel_rfl) (by kernel_rfl) (fun _ _ _ h => h) (Or.inl ⟨by kernel_rfl, ?_⟩) E4 ?_
            rotate_left
            · (intro W2 hS; go_simp; try (with_reducible rfl))
            refine wpAnyH_ready (rs := [8]) (by kernel_rfl) (by simp) ?_
            refine AllReadyH.cons rfl (fun K hK => ?_) AllReadyH.nil
            go_simp
            refine hK.out _ _ E5 (fun _ => ?_)
            clear hK K
            refine wpAnyH_done (by kernel_rfl) ?_ _
            go_simp
            have HS1 := Lib.hid hS4
            clear hS4 hg4 hA hb4 r0 r1 r2 rf E2 E3 E4 E5 p2 p3 htx
            generalize World.setCell _ _ _ = y3 at *
            by_cases hc1 : cap = 1
            · go_wp2_with fail
              go_step3
              rw [HW.out.1, HW.out.2]
              refine ⟨rfl, ⟨a2, l2, (node x d), ws, (T ++ [nodeT x d]), (LF ++ [x]), (some ⟨b, off, none⟩), 0, m2, _, _, _, _, _, _, _, _, _, _, _, _, _, _, _, _, _, _, _, _, _, _, _, _, _, _, _, _, _, _, _, _, _, _, _, _, _, _, _, _, _, _, _, _, _, _, _, _, _, _, _, _, _, _, _, rfl, HA.out.1, HA.out.2.1, by have h1 := HA.out.2.2.1; have h2 := HA.out.2.2.2.1; omega, HA.out.2.2.2.2.1, HA.out.2.2.2.2.2.1, hnd, HA.out.2.2.2.2.2.2.1, by have h1 := HA.out.2.2.2.2.2.2.2.2.2.2.2.1; have h2 := HA.out.2.2.2.2.2.2.2.2.2.2.2.2.1; omega, Nat.zero_le _, (show TextsAt w (some ⟨b, off, none⟩) ws from fun j hj => by exfalso; have h1 := HA.out.2.2.2.2.2.2.2.2.1; have h2 := HA.out.2.2.2.2.2.2.2.2.2.2.2.2.1; omega), HS1.out, HA.out.2.2.2.2.2.2.2.2.1⟩, ?_⟩
              simp [intOf]; have hz := HA.out.2.2.1; omega
            · go_wp2_with fail
              go_step3
              rw [HW.out.1, HW.out.2]
              refine ⟨rfl, ⟨a2, l2, (node x d), ws, (T ++ [nodeT x d]), (LF ++ [x]), (some ⟨b, off + 1, none⟩), c2, m2, _, _, _, _, _, _, _, _, _, _, _, _, _, _, _, _, _, _, _, _, _, _, _, _, _, _, _, _, _, _, _, _, _, _, _, _, _, _, _, _, _, _, _, _, _, _, _, _, _, _, _, _, _, _, _, rfl, HA.out.1, HA.out.2.1, by have h1 := HA.out.2.2.1; have h2 := HA.out.2.2.2.1; omega, HA.out.2.2.2.2.1, HA.out.2.2.2.2.2.1, hnd, HA.out.2.2.2.2.2.2.1, by have h1 := HA.out.2.2.2.2.2.2.2.2.2.2.2.1; have h2 := HA.out.2.2.2.2.2.2.2.2.2.2.2.2.1; omega, by have h1 := HA.out.2.2.2.2.2.2.2.2.2.2.2.1; have h3 := HA.out.2.2.2.2.2.2.2.2.2.2.2.2.2; omega, HA.out.2.2.2.2.2.2.2.1, HS1.out, HA.out.2.2.2.2.2.2.2.2.1⟩, ?_⟩
              simp [intOf]; have hz := HA.out.2.2.1; omega
        · have k3 : (a : Int) % 2 = 1 := by omega
          have k5 : ((a : Int) % 2 == 0) = false := by simp; omega
          rw [if_neg hev] at hG0
          have k4 : ((a : Int) == (l : Int)) = false := by simp; omega
          have hG1 : G = (climb a2 l2 (node x d) ws).map (fun z => (z.1, (T ++ [nodeT x d]) ++ z.2.1, (LF ++ [x]) ++ z.2.2)) := by
            rw [hG0, Option.map_map]
            congr 1
            funext z
            simp
          have hTl1 : T.length ≤ 1000000 := by omega
          have hTl2 : (T ++ [nodeT x d]).length + m2 ≤ 1000000 := by rw [List.length_append, List.length_singleton]; omega
          have hLl2 : (LF ++ [x]).length + m2 ≤ 1000000 := by rw [List.length_append, List.length_singleton]; omega
          have jn := fun W (h : CSt w d T LF W) => join_any h HG.out x d (by omega) hd hTl1
          obtain ⟨ta, tc, la, lc, hg, hO, hP, hdd⟩ := hS.has
          obtain ⟨q0, q1, q2, qf⟩ := jrow3 hg
          have hcW : W.cell? ⟨b, off, none⟩ = some (.string x) := (hS.below.cell (p := ⟨b, off, none⟩) hbl).trans hcx
          have hlW := hS.lt
          have HA := Lib.hid (And.intro hG1 (And.intro ha2l (And.intro hl2l (And.intro hl (And.intro hTl2 (And.intro hLl2 (And.intro hws2 (And.intro hT2 (And.intro hm2 (And.intro jn (And.intro hbl (And.intro hc2 (And.intro k13 hmax)))))))))))))
          have hnd : (node x d).size ≤ 100000 := by have := sumE_size (nodeT x d); unfold node; omega
          have E0 : W.drew.cell? ⟨b, off, none⟩ = some (.string x) := hcW
          have S0 : CSt w d T LF W.drew := ⟨hS.below.drew, ta, tc, la, lc, hg, hO, hP, hdd⟩
          have d0 : W.drew.cell? ⟨w.heap.size, 0, none⟩ = some (.string d) := q0
          clear hG0 hG1 ha2l hl2l hl hTl hLl hTl1 hTl2 hLl2 hd hws hws2 hcap hmax hmax' hT hT2 hS hm hm1 hm2 hal hB hev k1 jn hg hO hP hdd hbl hcx hc2 k15 hee
          clear q1 q2 qf q0 hcW k11
          go_wp2_with fail
          refine wp_region_held (S := fun W2 => W2.cell? ⟨b, off, none⟩ = some (.string x)) (by kernel_rfl) ?_
          change wpAnyH _ _ _ _ _ _ _ _ (World.drew _)
          generalize World.drew _ = v0 at *
          refine wpAnyH_take (i := 0) (v := ?_) rfl (by kernel_rfl) (by kernel_rfl) (by kernel_rfl) (fun _ _ _ h => h) (Or.inl ⟨by kernel_rfl, ?_⟩) E0 ?_
          rotate_left
          · (intro W2 hS; go_simp; try (with_reducible rfl))
          refine wpAnyH_take (i := 1) (v := ?_) rfl (by kernel_rfl) (by kernel_rfl) (by kernel_rfl) (fun _ _ _ h => h) (Or.inl ⟨by kernel_rfl, ?_⟩) E0 ?_
          rotate_left
          · (intro W2 hS; go_simp; try (with_reducible rfl))
          refine wpAnyH_take (i := 2) (v := ?_) rfl (by kernel_rfl) (by kernel_rfl) (by kernel_rfl) (fun _ _ _ h => h) (Or.inl ⟨by kernel_rfl, ?_⟩) E0 ?_
          rotate_left
          · (intro W2 hS; go_simp; try (with_reducible rfl))
          refine wpAnyH_take (i := 3) (v := ?_) rfl (by kernel_rfl) (by kernel_rfl) (by kernel_rfl) (fun _ _ _ h => h) (Or.inl ⟨by kernel_rfl, ?_⟩) E0 ?_
          rotate_left
          · (intro W2 hS; go_simp; try (with_reducible rfl))
          refine wpAnyH_ready (rs := [4]) (by kernel_rfl) (by simp) ?_
          refine AllReadyH.cons rfl (fun K hK => ?_) AllReadyH.nil
          go_simp
          refine hK.out _ _ E0 (fun _ => ?_)
          clear hK K d0
          refine wpAnyH_ready (rs := [5]) (by kernel_rfl) (by simp) ?_
          refine AllReadyH.cons rfl (fun K hK => ?_) AllReadyH.nil
          go_simp
          refine (HA.out.2.2.2.2.2.2.2.2.2.1 _ S0).mono ?_
          rintro e v1 ⟨rfl, S1⟩
          have E1 : v1.cell? ⟨b, off, none⟩ = some (.string x) := (S1.below.cell (p := ⟨b, off, none⟩) HA.out.2.2.2.2.2.2.2.2.2.2.1).trans ((S0.below.cell (p := ⟨b, off, none⟩) HA.out.2.2.2.2.2.2.2.2.2.2.1).symm.trans E0)
          refine hK.out _ _ E1 (fun _ => ?_)
          clear hK K E0 S0
          refine wpAnyH_done (by kernel_rfl) ?_ _
          go_simp
          obtain ⟨ta, tc, la, lc, hg, hO, hP, hdd⟩ := S1.has
          obtain ⟨q0, q1, q2, qf⟩ := jrow3 hg
          have E2 : v1.drew.cell? ⟨b, off, none⟩ = some (.string x) := E1
          obtain ⟨n, hn⟩ : ∃ n, n = LF.length := ⟨_, rfl⟩
          have hn1 : n ≤ 1000000 := by have h := HA.out.2.2.2.2.2.1; rw [List.length_append, List.length_singleton] at h; omega
          have p2 : v1.drew.cell? ⟨w.heap.size, 2, none⟩ = some (.slice la n lc) := by rw [hn]; exact q2
          have HB := Lib.hid (And.intro S1.below.drew (And.intro (show v1.drew.heap[w.heap.size]? = _ from hg) (And.intro (show OwnT (w.heap.size + 1) v1.drew ta tc _ from hO) (And.intro (show OwnT (w.heap.size + 1) v1.drew la lc LF from hP) (And.intro hdd (And.intro hn (show w.heap.size + 1 ≤ v1.drew.heap.size from S1.lt)))))))
          clear hg hO hP hdd q0 q1 q2 qf S1 E1 hn
          go_wp2_with fail
          refine wp_region_held (S := fun W2 => W2.cell? ⟨b, off, none⟩ = some (.string x)) (by kernel_rfl) ?_
          change wpAnyH _ _ _ _ _ _ _ _ (World.drew _)
          generalize World.drew _ = y0 at *
          refine wpAnyH_take (i := 0) (v := ?_) rfl (by kernel_rfl) (by kernel_rfl) (by kernel_rfl) (fun _ _ _ h => h) (Or.inl ⟨by kernel_rfl, ?_⟩) E2 ?_
          rotate_left
          · (intro W2 hS; go_simp; try (with_reducible rfl))
          refine wpAnyH_take (i := 2) (v := ?_) rfl (by kernel_rfl) (by kernel_rfl) (by kernel_rfl) (fun _ _ _ h => h) (Or.inl ⟨by kernel_rfl, ?_⟩) E2 ?_
          rotate_left
          · (intro W2 hS; go_simp; try (with_reducible rfl))
          refine wpAnyH_take (i := 3) (v := ?_) rfl (by kernel_rfl) (by kernel_rfl) (by kernel_rfl) (fun _ _ _ h => h) (Or.inl ⟨by kernel_rfl, ?_⟩) E2 ?_
          rotate_left
          · (intro W2 hS; go_simp; try (with_reducible rfl))
          refine wpAnyH_take (i := 4) (v := ?_) rfl (by kernel_rfl) (by kernel_rfl) (by kernel_rfl) (fun _ _ _ h => h) (Or.inl ⟨by kernel_rfl, ?_⟩) E2 ?_
          rotate_left
          · (intro W2 hS; go_simp; try (with_reducible rfl))
          refine wpAnyH_ready (rs := [1, 5]) (by kernel_rfl) (by simp) ?_
          refine AllReadyH.cons rfl (fun K hK => ?_) (AllReadyH.cons rfl (fun K hK => ?_) AllReadyH.nil)
          · go_simp
            refine hK.out _ _ E2 (fun _ => ?_)
            clear hK K
            refine wpAnyH_ready (rs := [5]) (by kernel_rfl) (by simp) ?_
            refine AllReadyH.cons rfl (fun K hK => ?_) AllReadyH.nil
            go_simp
            have hba : Below y0.heap.size y0 (y0.alloc (.cells #[.string x] 9)) := (Below.refl _ _).alloc (Nat.le_refl _) _
            have E3 : (y0.alloc (.cells #[.string x] 9)).cell? ⟨b, off, none⟩ = some (.string x) := (hba.cell (p := ⟨b, off, none⟩) (by have h1 := HA.out.2.2.2.2.2.2.2.2.2.2.1; have h2 := HB.out.2.2.2.2.2.2; show b < y0.heap.size; omega)).trans E2
            have hg3 := (hba.block _ (Array.getElem?_eq_some_iff.1 HB.out.2.1).1).trans HB.out.2.1
            have HC := Lib.hid (And.intro (HB.out.1.trans (hba.mono HB.out.1.size)) (And.intro hg3 (And.intro (OwnT.call HB.out.2.2.1 hba) (And.intro (OwnT.call HB.out.2.2.2.1 hba) (show w.heap.size + 1 ≤ (y0.alloc (.cells #[.string x] 9)).heap.size from by rw [World.size_alloc]; have h := HB.out.2.2.2.2.2.2; omega)))))
            have p3 : (y0.alloc (.cells #[.string x] 9)).cell? ⟨w.heap.size, 2, none⟩ = some (.slice la n lc) := (hba.cell (p := ⟨w.heap.size, 2, none⟩) (show w.heap.size < y0.heap.size from HB.out.2.2.2.2.2.2)).trans p2
            have htx := texts_one y0 x
            obtain ⟨y1, hy1⟩ : ∃ y1, y1 = y0.alloc (.cells #[.string x] 9) := ⟨_, rfl⟩
            rw [← hy1] at E3 HC p3 htx ⊢
            clear hba hg3 hy1
            refine hK.out _ _ E3 (fun _ => ?_)
            clear hK K
            refine wpAnyH_ready (rs := [6]) (by kernel_rfl) (by simp) ?_
            refine AllReadyH.cons rfl (fun K hK => ?_) AllReadyH.nil
            refine step_append_texts3 rfl (.tmp 19) (.tmp 23) rfl HC.out.2.2.2.1 _ HB.out.2.2.2.2.2.1.symm rfl _ _ 1 [x] rfl rfl htx (by omega) HC.out.2.2.2.2 ?_
            intro ad cp y2 hA
            obtain ⟨hg4, hS4⟩ := CSt.lefts HC.out.1 HC.out.2.1 HC.out.2.2.1 HC.out.2.2.2.1 HB.out.2.2.2.2.1 hA
            rw [show LF.length + [x].length = n + 1 by rw [← HB.out.2.2.2.2.2.1]; rfl] at hS4
            have hb4 := hA.grown
            have E4 : y2.cell? ⟨b, off, none⟩ = some (.string x) := (hb4.cell_far ⟨b, off, none⟩ (by have h1 := HA.out.2.2.2.2.2.2.2.2.2.2.1; have h2 := HC.out.2.2.2.2; show b < y1.heap.size; omega) (fun e => by have h1 := HA.out.2.2.2.2.2.2.2.2.2.2.1; have h2 := (World.ownsRow.lt HC.out.2.2.2.1 _ e.symm).1; simp only at h2; omega)).trans E3
            try go_simp
            refine hK.out _ _ E4 (fun _ => ?_)
            clear hK K
            obtain ⟨r0, r1, r2, rf⟩ := jrow3 hg4
            have E5 : (y2.setCell ⟨w.heap.size, 2, none⟩ (.slice ad (n + 1) cp)).cell? ⟨b, off, none⟩ = some (.string x) := ((below_setCell' (Below.refl w.heap.size y2) (Nat.le_refl _) 2 (.slice ad (n + 1) cp)).cell (p := ⟨b, off, none⟩) HA.out.2.2.2.2.2.2.2.2.2.2.1).trans E4
            refine wpAnyH_take (i := 7) (v := ?_) rfl (by kernel_rfl) (by kernel_rfl) (by kernel_rfl) (fun _ _ _ h => h) (Or.inl ⟨by kernel_rfl, ?_⟩) E4 ?_
            rotate_left
            · (intro W2 hS; go_simp; try (with_reducible rfl))
            refine wpAnyH_ready (rs := [8]) (by kernel_rfl) (by simp) ?_
            refine AllReadyH.cons rfl (fun K hK => ?_) AllReadyH.nil
            go_simp
            refine hK.out _ _ E5 (fun _ => ?_)
            clear hK K
            refine wpAnyH_done (by kernel_rfl) ?_ _
            go_simp
            have HS1 := Lib.hid hS4
            clear hS4 hg4 hA hb4 r0 r1 r2 rf E2 E3 E4 E5 p2 p3 htx
            generalize World.setCell _ _ _ = y3 at *
            by_cases hc1 : cap = 1
            · go_wp2_with fail
              go_step3
              rw [HW.out.1, HW.out.2]
              refine ⟨rfl, ⟨a2, l2, (node x d), ws, (T ++ [nodeT x d]), (LF ++ [x]), (some ⟨b, off, none⟩), 0, m2, _, _, _, _, _, _, _, _, _, _, _, _, _, _, _, _, _, _, _, _, _, _, _, _, _, _, _, _, _, _, _, _, _, _, _, _, _, _, _, _, _, _, _, _, _, _, _, _, _, _, _, _, _, _, _, rfl, HA.out.1, HA.out.2.1, by have h1 := HA.out.2.2.1; have h2 := HA.out.2.2.2.1; omega, HA.out.2.2.2.2.1, HA.out.2.2.2.2.2.1, hnd, HA.out.2.2.2.2.2.2.1, by have h1 := HA.out.2.2.2.2.2.2.2.2.2.2.2.1; have h2 := HA.out.2.2.2.2.2.2.2.2.2.2.2.2.1; omega, Nat.zero_le _, (show TextsAt w (some ⟨b, off, none⟩) ws from fun j hj => by exfalso; have h1 := HA.out.2.2.2.2.2.2.2.2.1; have h2 := HA.out.2.2.2.2.2.2.2.2.2.2.2.2.1; omega), HS1.out, HA.out.2.2.2.2.2.2.2.2.1⟩, ?_⟩
              simp [intOf]; have hz := HA.out.2.2.1; omega
            · go_wp2_with fail
              go_step3
              rw [HW.out.1, HW.out.2]
              refine ⟨rfl, ⟨a2, l2, (node x d), ws, (T ++ [nodeT x d]), (LF ++ [x]), (some ⟨b, off + 1, none⟩), c2, m2, _, _, _, _, _, _, _, _, _, _, _, _, _, _, _, _, _, _, _, _, _, _, _, _, _, _, _, _, _, _, _, _, _, _, _, _, _, _, _, _, _, _, _, _, _, _, _, _, _, _, _, _, _, _, _, rfl, HA.out.1, HA.out.2.1, by have h1 := HA.out.2.2.1; have h2 := HA.out.2.2.2.1; omega, HA.out.2.2.2.2.1, HA.out.2.2.2.2.2.1, hnd, HA.out.2.2.2.2.2.2.1, by have h1 := HA.out.2.2.2.2.2.2.2.2.2.2.2.1; have h2 := HA.out.2.2.2.2.2.2.2.2.2.2.2.2.1; omega, by have h1 := HA.out.2.2.2.2.2.2.2.2.2.2.2.1; have h3 := HA.out.2.2.2.2.2.2.2.2.2.2.2.2.2; omega, HA.out.2.2.2.2.2.2.2.1, HS1.out, HA.out.2.2.2.2.2.2.2.2.1⟩, ?_⟩
              simp [intOf]; have hz := HA.out.2.2.1; omega
          · go_simp
            have hba : Below y0.heap.size y0 (y0.alloc (.cells #[.string x] 9)) := (Below.refl _ _).alloc (Nat.le_refl _) _
            have E3 : (y0.alloc (.cells #[.string x] 9)).cell? ⟨b, off, none⟩ = some (.string x) := (hba.cell (p := ⟨b, off, none⟩) (by have h1 := HA.out.2.2.2.2.2.2.2.2.2.2.1; have h2 := HB.out.2.2.2.2.2.2; show b < y0.heap.size; omega)).trans E2
            have hg3 := (hba.block _ (Array.getElem?_eq_some_iff.1 HB.out.2.1).1).trans HB.out.2.1
            have HC := Lib.hid (And.intro (HB.out.1.trans (hba.mono HB.out.1.size)) (And.intro hg3 (And.intro (OwnT.call HB.out.2.2.1 hba) (And.intro (OwnT.call HB.out.2.2.2.1 hba) (show w.heap.size + 1 ≤ (y0.alloc (.cells #[.string x] 9)).heap.size from by rw [World.size_alloc]; have h := HB.out.2.2.2.2.2.2; omega)))))
            have p3 : (y0.alloc (.cells #[.string x] 9)).cell? ⟨w.heap.size, 2, none⟩ = some (.slice la n lc) := (hba.cell (p := ⟨w.heap.size, 2, none⟩) (show w.heap.size < y0.heap.size from HB.out.2.2.2.2.2.2)).trans p2
            have htx := texts_one y0 x
            obtain ⟨y1, hy1⟩ : ∃ y1, y1 = y0.alloc (.cells #[.string x] 9) := ⟨_, rfl⟩
            rw [← hy1] at E3 HC p3 htx ⊢
            clear hba hg3 hy1
            refine hK.out _ _ E3 (fun _ => ?_)
            clear hK K
            refine wpAnyH_ready (rs := [1]) (by kernel_rfl) (by simp) ?_
            refine AllReadyH.cons rfl (fun K hK => ?_) AllReadyH.nil
            go_simp
            refine hK.out _ _ E3 (fun _ => ?_)
            clear hK K
            refine wpAnyH_ready (rs := [6]) (by kernel_rfl) (by simp) ?_
            refine AllReadyH.cons rfl (fun K hK => ?_) AllReadyH.nil
            refine step_append_texts3 rfl (.tmp 19) (.tmp 23) rfl HC.out.2.2.2.1 _ HB.out.2.2.2.2.2.1.symm rfl _ _ 1 [x] rfl rfl htx (by omega) HC.out.2.2.2.2 ?_
            intro ad cp y2 hA
            obtain ⟨hg4, hS4⟩ := CSt.lefts HC.out.1 HC.out.2.1 HC.out.2.2.1 HC.out.2.2.2.1 HB.out.2.2.2.2.1 hA
            rw [show LF.length + [x].length = n + 1 by rw [← HB.out.2.2.2.2.2.1]; rfl] at hS4
            have hb4 := hA.grown
            have E4 : y2.cell? ⟨b, off, none⟩ = some (.string x) := (hb4.cell_far ⟨b, off, none⟩ (by have h1 := HA.out.2.2.2.2.2.2.2.2.2.2.1; have h2 := HC.out.2.2.2.2; show b < y1.heap.size; omega) (fun e => by have h1 := HA.out.2.2.2.2.2.2.2.2.2.2.1; have h2 := (World.ownsRow.lt HC.out.2.2.2.1 _ e.symm).1; simp only at h2; omega)).trans E3
            try go_simp
            refine hK.out _ _ E4 (fun _ => ?_)
            clear hK K
            obtain ⟨r0, r1, r2, rf⟩ := jrow3 hg4
            have E5 : (y2.setCell ⟨w.heap.size, 2, none⟩ (.slice ad (n + 1) cp)).cell? ⟨b, off, none⟩ = some (.string x) := ((below_setCell' (Below.refl w.heap.size y2) (Nat.le_refl _) 2 (.slice ad (n + 1) cp)).cell (p := ⟨b, off, none⟩) HA.out.2.2.2.2.2.2.2.2.2.2.1).trans E4
            refine wpAnyH_take (i := 7) (v := ?_) rfl (by kernel_rfl) (by kernel_rfl) (by kernel_rfl) (fun _ _ _ h => h) (Or.inl ⟨by kernel_rfl, ?_⟩) E4 ?_
            rotate_left
            · (intro W2 hS; go_simp; try (with_reducible rfl))
            refine wpAnyH_ready (rs := [8]) (by kernel_rfl) (by simp) ?_
            refine AllReadyH.cons rfl (fun K hK => ?_) AllReadyH.nil
            go_simp
            refine hK.out _ _ E5 (fun _ => ?_)
            clear hK K
            refine wpAnyH_done (by kernel_rfl) ?_ _
            go_simp
            have HS1 := Lib.hid hS4
            clear hS4 hg4 hA hb4 r0 r1 r2 rf E2 E3 E4 E5 p2 p3 htx
            generalize World.setCell _ _ _ = y3 at *
            by_cases hc1 : cap = 1
            · go_wp2_with fail
              go_step3
              rw [HW.out.1, HW.out.2]
              refine ⟨rfl, ⟨a2, l2, (node x d), ws, (T ++ [nodeT x d]), (LF ++ [x]), (some ⟨b, off, none⟩), 0, m2, _, _, _, _, _, _, _, _, _, _, _, _, _, _, _, _, _, _, _, _, _, _, _, _, _, _, _, _, _, _, _, _, _, _, _, _, _, _, _, _, _, _, _, _, _, _, _, _, _, _, _, _, _, _, _, rfl, HA.out.1, HA.out.2.1, by have h1 := HA.out.2.2.1; have h2 := HA.out.2.2.2.1; omega, HA.out.2.2.2.2.1, HA.out.2.2.2.2.2.1, hnd, HA.out.2.2.2.2.2.2.1, by have h1 := HA.out.2.2.2.2.2.2.2.2.2.2.2.1; have h2 := HA.out.2.2.2.2.2.2.2.2.2.2.2.2.1; omega, Nat.zero_le _, (show TextsAt w (some ⟨b, off, none⟩) ws from fun j hj => by exfalso; have h1 := HA.out.2.2.2.2.2.2.2.2.1; have h2 := HA.out.2.2.2.2.2.2.2.2.2.2.2.2.1; omega), HS1.out, HA.out.2.2.2.2.2.2.2.2.1⟩, ?_⟩
              simp [intOf]; have hz := HA.out.2.2.1; omega
            · go_wp2_with fail
              go_step3
              rw [HW.out.1, HW.out.2]
              refine ⟨rfl, ⟨a2, l2, (node x d), ws, (T ++ [nodeT x d]), (LF ++ [x]), (some ⟨b, off + 1, none⟩), c2, m2, _, _, _, _, _, _, _, _, _, _, _, _, _, _, _, _, _, _, _, _, _, _, _, _, _, _, _, _, _, _, _, _, _, _, _, _, _, _, _, _, _, _, _, _, _, _, _, _, _, _, _, _, _, _, _, rfl, HA.out.1, HA.out.2.1, by have h1 := HA.out.2.2.1; have h2 := HA.out.2.2.2.1; omega, HA.out.2.2.2.2.1, HA.out.2.2.2.2.2.1, hnd, HA.out.2.2.2.2.2.2.1, by have h1 := HA.out.2.2.2.2.2.2.2.2.2.2.2.1; have h2 := HA.out.2.2.2.2.2.2.2.2.2.2.2.2.1; omega, by have h1 := HA.out.2.2.2.2.2.2.2.2.2.2.2.1; have h3 := HA.out.2.2.2.2.2.2.2.2.2.2.2.2.2; omega, HA.out.2.2.2.2.2.2.2.1, HS1.out, HA.out.2.2.2.2.2.2.2.2.1⟩, ?_⟩
              simp [intOf]; have hz := HA.out.2.2.1; omega
end Go.Proofs.YtdfkpjmljaanpaaDoor
namespace Go.Proofs.YtdfkpjmljaanpaaDoor
open Go.RowKit
open Tr
/-- Has one not 32 bytes? -/
def badB (ss : List ByteArray) : Bool := ss.any fun x => decide (x.size ≠ 32)
theorem badB_false {ss : List ByteArray} : badB ss = false ↔ Digs ss := by
  unfold badB Digs
  rw [List.any_eq_false]
  constructor
  · intro h x hx
    have := h x hx
    simpa using this
  · intro h x hx
    have := h x hx
    simpa using this
set_option maxRecDepth 100000 in
theorem noDigest_any (s : ByteArray) (w : World) : Calls Tryd.prog 91 #[.string s] w fun e w' => e = .returned (.bool ((s.size : Int) != 32)) ∧ w' = w := by
  go_enter Tryd.func91, Tryd.ntmps91
  go_wp2_with fail
  go_ret
  exact ⟨rfl, rfl⟩
set_option maxRecDepth 100000 in
set_option maxHeartbeats 1000000 in
theorem indexFunc_any (ss : List ByteArray) (a0 : Option Addr) (cap : Nat) (w : World) (hT : TextsAt w a0 ss) (hm : ss.length ≤ maxLen) :
    Calls Tryd.prog 104 #[.slice a0 ss.length cap, .func (Fn.func 91) #[] #[]] w fun e w' => ∃ k : Int, e = .returned (.int .i64 k) ∧ decide (0 ≤ k) = badB ss ∧ w' = w := by
  unfold maxLen at hm
  obtain ⟨n, hn⟩ : ∃ n, n = ss.length := ⟨_, rfl⟩
  have HT := Lib.hid (And.intro hT hn)
  rw [← hn] at hm ⊢
  clear hT hn
  go_enter Tryd.func104, Tryd.ntmps104
  go_wp2_with fail
  go_loopw [5, 8] (fun _ c wr => ∃ i : Nat, i ≤ n ∧ c = .int .i64 i ∧ wr = w ∧ ∀ j, j < i → (ss.getD j ByteArray.empty).size = 32) (fun _ c _ => n - (intOf c).toNat)
  case atStart => exact ⟨0, by omega, rfl, rfl, fun j hj => absurd hj (by omega)⟩
  case round =>
    obtain ⟨i, hi, rfl, rfl, hall⟩ := hrel
    have HA := Lib.hid hall
    clear hall
    by_cases hlt : i < n
    · obtain ⟨b, off, rfl, _, hc⟩ := HT.out.1 i (by have := HT.out.2; omega)
      obtain ⟨x, hx⟩ : ∃ x, x = ss.getD i ByteArray.empty := ⟨_, rfl⟩
      rw [← hx] at hc
      have HX := Lib.hid hx
      clear hx
      by_cases h32 : x.size = 32
      · have e1 : ((x.size : Int) != 32) = false := by simp; omega
        have H32 := Lib.hid h32
        clear h32
        go_wp2_with fail
        refine (noDigest_any x _).mono ?_
        rintro e w1 ⟨rfl, rfl⟩
        rw [e1]
        go_wp2_with fail
        go_roundw
        case rel =>
          refine ⟨i + 1, by omega, by go_num, trivial, fun j hj => ?_⟩
          by_cases e : j = i
          · rw [e, ← HX.out]; exact H32.out
          · exact HA.out j (by omega)
        case measure => simp [intOf]; omega
      · have e1 : ((x.size : Int) != 32) = true := by simp; omega
        have H32 := Lib.hid h32
        clear h32
        go_wp2_with fail
        refine (noDigest_any x _).mono ?_
        rintro e w1 ⟨rfl, rfl⟩
        rw [e1]
        go_wp2_with fail
        go_ret
        refine ⟨(i : Int), rfl, ?_, rfl⟩
        rw [decide_eq_true (by omega)]
        symm
        cases hbb : badB ss with
        | true => rfl
        | false =>
          have hlen := HT.out.2
          have h1 := badB_false.1 hbb x (by
            rw [HX.out, List.getD_eq_getElem?_getD, List.getElem?_eq_getElem (by omega)]
            exact List.getElem_mem _)
          exact absurd h1 H32.out
    · obtain rfl : i = n := by omega
      go_wp2_with fail
      go_ret
      refine ⟨-1, rfl, ?_, rfl⟩
      rw [decide_eq_false (by omega)]
      symm
      refine badB_false.2 fun x hx => ?_
      obtain ⟨j, hj, rfl⟩ := List.mem_iff_getElem.1 hx
      have := HA.out j (by have := HT.out.2; omega)
      rwa [List.getD_eq_getElem?_getD, List.getElem?_eq_getElem hj] at this
set_option maxRecDepth 100000 in
set_option maxHeartbeats 1000000 in
theorem containsFunc_any (ss : List ByteArray) (a0 : Option Addr) (cap : Nat) (w : World) (hT : TextsAt w a0 ss) (hm : ss.length ≤ maxLen) :
    Calls Tryd.prog 92 #[.slice a0 ss.length cap, .func (Fn.func 91) #[] #[]] w fun e w' => e = .returned (.bool (badB ss)) ∧ w' = w := by
  have h := indexFunc_any ss a0 cap w hT hm
  obtain ⟨n, hn⟩ : ∃ n, n = ss.length := ⟨_, rfl⟩
  rw [← hn] at h ⊢
  obtain ⟨B, hB⟩ : ∃ B, B = badB ss := ⟨_, rfl⟩
  rw [← hB] at h ⊢
  have H := Lib.hid h
  clear h hT hm hn hB
  go_enter Tryd.func92, Tryd.ntmps92
  go_wp2_with fail
  refine H.out.mono ?_
  rintro e w1 ⟨k, rfl, hk, rfl⟩
  cases B with
  | true =>
    have hk2 : 0 ≤ k := by simpa using hk
    go_wp2_with fail
    go_ret
    exact ⟨rfl, rfl⟩
  | false =>
    have hk2 : ¬ (0 ≤ k) := by simpa using hk
    go_wp2_with fail
    go_ret
    exact ⟨rfl, rfl⟩
theorem climb_size : ∀ (i p : Nat) (d : ByteArray) (ws : List ByteArray) (x : ByteArray × List ByteArray × List ByteArray), climb i p d ws = some x → x.1.size ≤ d.size + 32 := by
  intro i p
  induction p using Nat.strongRecOn generalizing i with
  | ind p ih =>
    intro d ws x hc
    by_cases h0 : p = 0
    · subst h0
      rw [climb_zero] at hc
      by_cases hwn : ws = []
      · rw [if_pos hwn] at hc
        injection hc with hc
        subst hc
        exact Nat.le_add_right _ _
      · rw [if_neg hwn] at hc; cases hc
    · rw [climb_step _ _ h0] at hc
      by_cases hal : i = p ∧ i % 2 = 0
      · rw [if_pos hal] at hc; exact ih _ (by omega) _ _ _ _ hc
      · rw [if_neg hal] at hc
        cases ws with
        | nil => cases hc
        | cons y r =>
          simp only at hc
          have key2 : ∀ (p i : Nat) (r : List ByteArray) (z : ByteArray × List ByteArray × List ByteArray) (t : ByteArray), climb i p (sumE t) r = some z → z.1.size = 32 := by
            intro p
            induction p using Nat.strongRecOn with
            | ind p ih2 =>
              intro i r z t h
              by_cases h0 : p = 0
              · subst h0
                rw [climb_zero] at h
                by_cases hwn : r = []
                · rw [if_pos hwn] at h
                  injection h with h
                  subst h
                  exact sumE_size t
                · rw [if_neg hwn] at h; cases h
              · rw [climb_step _ _ h0] at h
                by_cases hal : i = p ∧ i % 2 = 0
                · rw [if_pos hal] at h; exact ih2 _ (by omega) _ _ _ _ h
                · rw [if_neg hal] at h
                  cases r with
                  | nil => cases h
                  | cons y r =>
                    simp only at h
                    split at h
                    · cases hcc : climb (i / 2) (p / 2) (node (sumE t) y) r with
                      | none => rw [hcc] at h; cases h
                      | some q =>
                        rw [hcc] at h
                        simp only [Option.map_some, Option.some.injEq] at h
                        subst h
                        exact ih2 _ (by omega) _ _ q _ hcc
                    · cases hcc : climb (i / 2) (p / 2) (node y (sumE t)) r with
                      | none => rw [hcc] at h; cases h
                      | some q =>
                        rw [hcc] at h
                        simp only [Option.map_some, Option.some.injEq] at h
                        subst h
                        exact ih2 _ (by omega) _ _ q _ hcc
          split at hc
          · cases hcc : climb (i / 2) (p / 2) (node d y) r with
            | none => rw [hcc] at hc; cases hc
            | some q =>
              rw [hcc] at hc
              simp only [Option.map_some, Option.some.injEq] at hc
              subst hc
              have := key2 _ _ _ _ _ hcc
              simp only; omega
          · cases hcc : climb (i / 2) (p / 2) (node y d) r with
            | none => rw [hcc] at hc; cases hc
            | some q =>
              rw [hcc] at hc
              simp only [Option.map_some, Option.some.injEq] at hc
              subst hc
              have := key2 _ _ _ _ _ hcc
              simp only; omega
theorem lt_obj {w : World} {g : Nat} {o : Obj} (h : w.heap[g]? = some o) : g < w.heap.size := (Array.getElem?_eq_some_iff.1 h).1
/-- What Climb answers: the root, the texts, the error. -/
def clE : Option (ByteArray × List ByteArray × List ByteArray) → ByteArray × List ByteArray × Int
  | some x => (x.1, x.2.1, 0)
  | none => (⟨#[]⟩, [], 12)
def climbA (n i : Nat) (d : ByteArray) (ws : List ByteArray) : ByteArray × List ByteArray × Int :=
  if d.size = 32 ∧ badB ws = false then clE (climb i (n - 1) d ws) else (⟨#[]⟩, [], 1)
set_option maxRecDepth 100000 in
set_option maxHeartbeats 2000000 in
theorem bigClimb_any (n i : Nat) (hn1 : 1 ≤ n) (hn2 : n ≤ 4096) (hi : i < n) (d : ByteArray) (hd : d.size ≤ 100000) (ws : List ByteArray) (hws : ws.length ≤ 1000000) (b0 : Option Addr) (cap : Nat) (hcap : ws.length ≤ cap) (hmax : cap ≤ maxLen) (w : World) (hG : Glob w) (hT : TextsAt w b0 ws) :
    Calls Tryd.prog 73 #[.int .i64 n, .int .i64 i, .string d, .slice b0 ws.length cap] w fun e w' => ∃ a c, e = .returned (.tuple #[.string (climbA n i d ws).1, .slice a (climbA n i d ws).2.1.length c, .int .i64 (climbA n i d ws).2.2]) ∧ OwnT w.heap.size w' a c (climbA n i d ws).2.1 ∧ Below w.heap.size w w' := by
  have h1 : ¬ ((n : Int) < 1) := by omega
  have h2 : ¬ ((4096 : Int) < n) := by omega
  have h3 : ¬ ((n : Int) ≤ (i : Int)) := by omega
  have h4 : ¬ ((i : Int) < 0) := by omega
  obtain ⟨Z, hZ⟩ : ∃ Z, Z = climbA n i d ws := ⟨_, rfl⟩
  rw [← hZ]
  unfold climbA at hZ
  have cf := containsFunc_any ws b0 cap w hT (by unfold maxLen; omega)
  obtain ⟨B, hB⟩ : ∃ B, B = badB ws := ⟨_, rfl⟩
  rw [← hB] at cf hZ
  obtain ⟨p, hp⟩ : ∃ p, p = n - 1 := ⟨_, rfl⟩
  have cl := fun (hDg : Digs ws) => climb_any i p (by omega) (by omega) d hd ws hws hDg b0 cap hcap hmax w hG hT
  rw [← hp] at hZ
  have hBD : B = false → Digs ws := fun e => badB_false.1 (hB.symm.trans e)
  obtain ⟨G, hGG⟩ : ∃ G, G = climb i p d ws := ⟨_, rfl⟩
  rw [← hGG] at cl hZ
  have e1 : IntKind.i64.wrap ((n : Int) - 1) = (p : Int) := by rw [show (n : Int) - 1 = (p : Int) by omega]; exact IntWalk.i64_in _ (by omega)
  have e2 : (n : Int) - 1 = (p : Int) := by omega
  obtain ⟨m, hm⟩ : ∃ m, m = ws.length := ⟨_, rfl⟩
  rw [← hm] at cf cl ⊢
  have H := Lib.hid (And.intro cf (And.intro cl (And.intro hZ hBD)))
  have HGG := Lib.hid hGG
  have Hd := Lib.hid hd
  clear cf cl hZ hBD hB hp hGG hm hT hws hcap hmax hn1 hn2 hi
  by_cases h32 : d.size = 32
  rotate_left
  · have n1 : ((d.size : Int) != 32) = true := by simp; omega
    have hZ2 := Lib.hid (show Z = (⟨#[]⟩, [], 1) from by rw [H.out.2.2.1, if_neg (fun e => h32 e.1)])
    clear h32 e1
    go_enter Tryd.func73, Tryd.ntmps73
    go_wp2_with fail
    refine (noDigest_any d _).mono ?_
    rintro e w1 ⟨rfl, rfl⟩
    rw [n1]
    go_wp2_with fail
    go_ret3
    exact ⟨none, 0, by rw [hZ2.out]; rfl, by rw [hZ2.out]; exact OwnT.nil _ _, Below.refl _ _⟩
  have n1 : ((d.size : Int) != 32) = false := by simp; omega
  have H32 := Lib.hid h32
  clear h32
  cases B with
  | true =>
    have hZ2 := Lib.hid (show Z = (⟨#[]⟩, [], 1) from by rw [H.out.2.2.1, if_neg (fun e => by cases e.2)])
    clear e1
    go_enter Tryd.func73, Tryd.ntmps73
    go_wp2_with fail
    refine (noDigest_any d _).mono ?_
    rintro e w1 ⟨rfl, rfl⟩
    rw [n1]
    go_wp2_with fail
    refine H.out.1.mono ?_
    rintro e w2 ⟨rfl, rfl⟩
    go_wp2_with fail
    go_ret3
    exact ⟨none, 0, by rw [hZ2.out]; rfl, by rw [hZ2.out]; exact OwnT.nil _ _, Below.refl _ _⟩
  | false =>
    have hDg : Digs ws := H.out.2.2.2 rfl
    have HC := Lib.hid (H.out.2.1 hDg)
    have hZ1 : Z = clE G := by rw [H.out.2.2.1, if_pos ⟨H32.out, rfl⟩]
    have HZ1 := Lib.hid hZ1
    clear hZ1 hDg
    go_enter Tryd.func73, Tryd.ntmps73
    go_wp2_with fail
    refine (noDigest_any d _).mono ?_
    rintro e w1 ⟨rfl, rfl⟩
    rw [n1]
    go_wp2_with fail
    refine H.out.1.mono ?_
    rintro e w2 ⟨rfl, rfl⟩
    go_wp2_with fail
    refine HC.out.mono ?_
    rintro e w3 ⟨hb, r, ta, tn, tc, la, ln, lc, rfl, hx⟩
    obtain ⟨w4, hw4⟩ : ∃ w4, w4 = w3.alloc (.cells #[.string r, .slice ta tn tc, .slice la ln lc] 143) := ⟨_, rfl⟩
    have hb4 : Below w3.heap.size w3 w4 := by rw [hw4]; exact (Below.refl _ _).alloc (Nat.le_refl _) _
    have hg4 : w4.heap[w3.heap.size]? = some (.cells #[.string r, .slice ta tn tc, .slice la ln lc] 143 (0, 0)) := by rw [hw4]; exact heap_alloc_new _ _
    have B4 := hb.trans (hb4.mono hb.size)
    cases G with
    | none =>
      have HD := Lib.hid B4
      clear hb hx hb4 hg4 B4
      go_upto_region 4 with fail
      rw [← hw4]
      clear hw4
      go_wp2_with fail
      go_ret3
      exact ⟨none, 0, by rw [HZ1.out]; rfl, by rw [HZ1.out]; exact OwnT.nil _ _, HD.out⟩
    | some x =>
      obtain ⟨rfl, rfl, rfl, hO, hP⟩ := hx x rfl
      obtain ⟨x1, xT, xL⟩ := x
      simp only at hO hP hg4 hw4 ⊢
      obtain ⟨tn, htn⟩ : ∃ t, t = xT.length := ⟨_, rfl⟩
      obtain ⟨ln, hln⟩ : ∃ t, t = xL.length := ⟨_, rfl⟩
      have hx1 : x1.size ≤ 281474976710656 := by
        have h := climb_size i p d ws _ HGG.out.symm
        have hd2 := Hd.out
        simp only at h; omega
      have HX := Lib.hid hx1
      clear hx1
      rw [← htn, ← hln] at hg4 hw4 ⊢
      obtain ⟨q0, q1, q2, qf⟩ := jrow3 hg4
      have HD := Lib.hid (And.intro B4 (And.intro (OwnT.call hO hb4) (And.intro htn hg4)))
      clear hb hx hb4 hg4 B4 hO hP htn hln
      go_upto_region 6 with fail
      rw [← hw4]
      clear hw4
      clear q0 q1 q2 qf
      have E0 := (show w4.drew.heap[w3.heap.size]? = some (.cells #[.string x1, .slice ta tn tc, .slice la ln lc] 143 (0, 0)) from HD.out.2.2.2)
      have F0 := HD.out.1.drew
      go_wp2_with fail
      refine wp_region_held (S := fun W => W.heap[w3.heap.size]? = some (.cells #[.string x1, .slice ta tn tc, .slice la ln lc] 143 (0, 0))) (by kernel_rfl) ?_
      change wpAnyH _ _ _ _ _ _ _ _ (World.drew _)
      have hOd := OwnT.drew HD.out.2.1
      generalize World.drew _ = v0 at *
      refine wpAnyH_take (i := 0) (v := ?_) rfl (by kernel_rfl) (by kernel_rfl) (by kernel_rfl) (fun _ _ _ h => h) (Or.inl ⟨by kernel_rfl, ?_⟩) E0 ?_
      rotate_left
      · (intro W hS; clear hS; go_simp; try (with_reducible rfl))
      refine wpAnyH_take (i := 1) (v := ?_) rfl (by kernel_rfl) (by kernel_rfl) (by kernel_rfl) (fun _ _ _ h => h) (Or.inl ⟨by kernel_rfl, ?_⟩) E0 ?_
      rotate_left
      · (intro W hS; obtain ⟨q0, q1, q2, qf⟩ := jrow3 hS; clear hS; go_simp; try (with_reducible rfl))
      refine wpAnyH_take (i := 3) (v := ?_) rfl (by kernel_rfl) (by kernel_rfl) (by kernel_rfl) (fun _ _ _ h => h) (Or.inl ⟨by kernel_rfl, ?_⟩) E0 ?_
      rotate_left
      · (intro W hS; clear hS; go_simp; try (with_reducible rfl))
      refine wpAnyH_take (i := 4) (v := ?_) rfl (by kernel_rfl) (by kernel_rfl) (by kernel_rfl) (fun _ _ _ h => h) (Or.inl ⟨by kernel_rfl, ?_⟩) E0 ?_
      rotate_left
      · (intro W hS; obtain ⟨q0, q1, q2, qf⟩ := jrow3 hS; clear hS; go_simp; try (with_reducible rfl))
      refine wpAnyH_ready (rs := [2]) (by kernel_rfl) (by simp) ?_
      refine AllReadyH.cons rfl (fun K hK => ?_) AllReadyH.nil
      go_simp
      refine (clone_any x1 v0 HX.out).mono ?_
      rintro e v1 ⟨rfl, hb⟩
      have hbb := hb
      have F1 := F0.trans (hb.mono F0.size)
      have E1 : v1.heap[w3.heap.size]? = some (.cells #[.string x1, .slice ta tn tc, .slice la ln lc] 143 (0, 0)) := (hb.block _ (lt_obj E0)).trans E0
      refine hK.out _ _ E1 (fun _ => ?_)
      clear hK K hb
      refine wpAnyH_take (i := 5) (v := ?_) rfl (by kernel_rfl) (by kernel_rfl) (by kernel_rfl) (fun _ _ _ h => h) (Or.inl ⟨by kernel_rfl, ?_⟩) E1 ?_
      rotate_left
      · (intro W hS; clear hS; go_simp; try (with_reducible rfl))
      refine wpAnyH_take (i := 6) (v := ?_) rfl (by kernel_rfl) (by kernel_rfl) (by kernel_rfl) (fun _ _ _ h => h) (Or.inl ⟨by kernel_rfl, ?_⟩) E1 ?_
      rotate_left
      · (intro W hS; clear hS; go_simp; try (with_reducible rfl))
      refine wpAnyH_take (i := 7) (v := ?_) rfl (by kernel_rfl) (by kernel_rfl) (by kernel_rfl) (fun _ _ _ h => h) (Or.inl ⟨by kernel_rfl, ?_⟩) E1 ?_
      rotate_left
      · (intro W hS; clear hS; go_simp; try (with_reducible rfl))
      refine wpAnyH_done (by kernel_rfl) ?_ _
      go_simp
      have HF := Lib.hid (And.intro F1 (OwnT.call hOd hbb))
      clear E0 F0 E1 F1
      go_wp2_with fail
      go_ret3
      exact ⟨ta, tc, by rw [HZ1.out, HD.out.2.2.1]; rfl, by rw [HZ1.out]; exact HF.out.2, HF.out.1⟩
end Go.Proofs.YtdfkpjmljaanpaaDoor
namespace Go.Proofs.YtdfkpjmljaanpaaDoor
open Go.RowKit
open Tr
def clX (n i : Int) (d : ByteArray) (ws : List ByteArray) : ByteArray × List ByteArray × Int :=
  if 1 ≤ n ∧ n ≤ 4096 ∧ 0 ≤ i ∧ i < n then climbA n.toNat i.toNat d ws else (⟨#[]⟩, [], 1)
theorem clX_of (n i : Int) (d : ByteArray) (hd : d.size = 32) (ws : List ByteArray) : (∃ x, Ix.clI n i d ws = some x ∧ clX n i d ws = (x.1, x.2.1, 0)) ∨ (Ix.clI n i d ws = none ∧ ∃ e, clX n i d ws = (⟨#[]⟩, [], e) ∧ e ≠ 0) := by
  unfold Ix.clI clX
  by_cases h : 1 ≤ n ∧ n ≤ 4096 ∧ 0 ≤ i ∧ i < n
  · rw [if_pos h]
    unfold climbA
    cases hb : badB ws with
    | true =>
      have hd2 : ¬ (Ix.digB ws = true) := fun e => by
        have := badB_false.2 (Ix.digB_iff.1 e)
        rw [hb] at this; cases this
      rw [if_neg (fun h2 => hd2 h2.2.2.2.2), if_neg (fun h2 => by cases h2.2)]
      exact Or.inr ⟨rfl, 1, rfl, by decide⟩
    | false =>
      have hd2 : Ix.digB ws = true := Ix.digB_iff.2 (badB_false.1 hb)
      rw [if_pos ⟨h.1, h.2.1, h.2.2.1, h.2.2.2, hd2⟩, if_pos ⟨hd, rfl⟩]
      cases hc : climb i.toNat (n.toNat - 1) d ws with
      | none => exact Or.inr ⟨rfl, 12, rfl, by decide⟩
      | some x => exact Or.inl ⟨x, rfl, rfl⟩
  · rw [if_neg h, if_neg (fun h2 => h ⟨h2.1, h2.2.1, h2.2.2.1, h2.2.2.2.1⟩)]
    exact Or.inr ⟨rfl, 1, rfl, by decide⟩
set_option maxRecDepth 100000 in
set_option maxHeartbeats 2000000 in
theorem climbX_any (n i : Int) (d : ByteArray) (hd : d.size ≤ 100000) (ws : List ByteArray) (hws : ws.length ≤ 1000000) (b0 : Option Addr) (cap : Nat) (hcap : ws.length ≤ cap) (hmax : cap ≤ maxLen) (w : World) (hG : Glob w) (hT : TextsAt w b0 ws) :
    Calls Tryd.prog 73 #[.int .i64 n, .int .i64 i, .string d, .slice b0 ws.length cap] w fun e w' => ∃ a c, e = .returned (.tuple #[.string (clX n i d ws).1, .slice a (clX n i d ws).2.1.length c, .int .i64 (clX n i d ws).2.2]) ∧ OwnT w.heap.size w' a c (clX n i d ws).2.1 ∧ Below w.heap.size w w' := by
  by_cases h : 1 ≤ n ∧ n ≤ 4096 ∧ 0 ≤ i ∧ i < n
  · obtain ⟨m, rfl⟩ : ∃ m : Nat, n = m := ⟨n.toNat, by omega⟩
    obtain ⟨j, rfl⟩ : ∃ j : Nat, i = j := ⟨i.toNat, by omega⟩
    have := bigClimb_any m j (by omega) (by omega) (by omega) d hd ws hws b0 cap hcap hmax w hG hT
    have e : clX (m : Int) (j : Int) d ws = climbA m j d ws := by
      unfold clX
      rw [if_pos h, Int.toNat_natCast, Int.toNat_natCast]
    rw [e]
    exact this
  · have e : clX n i d ws = (⟨#[]⟩, [], 1) := if_neg h
    rw [e]
    obtain ⟨m, hm⟩ : ∃ m, m = ws.length := ⟨_, rfl⟩
    rw [← hm]
    clear e hm hws hcap hmax hG hT hd
    by_cases h1 : n < 1
    · clear h
      go_enter Tryd.func73, Tryd.ntmps73
      go_wp2_with fail
      go_ret3
      exact ⟨none, 0, rfl, OwnT.nil _ _, Below.refl _ _⟩
    by_cases h2 : 4096 < n
    · clear h
      go_enter Tryd.func73, Tryd.ntmps73
      go_wp2_with fail
      go_ret3
      exact ⟨none, 0, rfl, OwnT.nil _ _, Below.refl _ _⟩
    by_cases h3 : i < 0
    · clear h
      go_enter Tryd.func73, Tryd.ntmps73
      go_wp2_with fail
      go_ret3
      exact ⟨none, 0, rfl, OwnT.nil _ _, Below.refl _ _⟩
    · have h4 : n ≤ i := by omega
      clear h
      go_enter Tryd.func73, Tryd.ntmps73
      go_wp2_with fail
      go_ret3
      exact ⟨none, 0, rfl, OwnT.nil _ _, Below.refl _ _⟩
end Go.Proofs.YtdfkpjmljaanpaaDoor
namespace Go.Proofs.YtdfkpjmljaanpaaDoor
open Go.RowKit
open Cn
/-- The rows of a proof: where they lie, and their ways. -/
def ShAt (w : World) (a0 : Option Addr) (l : List Ix.Sh) : Prop :=
  ∀ j s, l[j]? = some s → ∃ b off wa wc, a0 = some ⟨b, off, none⟩ ∧ b < w.heap.size ∧ w.cell? ⟨b, off + j * 5, none⟩ = some (.int .i64 s.pl) ∧ w.cell? ⟨b, off + j * 5 + 1, none⟩ = some (.string s.row.tag) ∧ w.cell? ⟨b, off + j * 5 + 2, none⟩ = some (.int .i64 s.row.cnt) ∧
    w.cell? ⟨b, off + j * 5 + 3, none⟩ = some (.int .i64 s.row.last) ∧ w.cell? ⟨b, off + j * 5 + 4, none⟩ = some (.slice wa s.way.length wc) ∧ s.way.length ≤ wc ∧ wc ≤ maxLen ∧ TextsAt w wa s.way
theorem ShAt.below {w w' : World} {a0 : Option Addr} {l : List Ix.Sh} (h : ShAt w a0 l) (hb : Below w.heap.size w w') : ShAt w' a0 l := fun j s hj => by
  obtain ⟨b, off, wa, wc, rfl, hbl, h1, h2, h3, h4, h5, h6, h7, h8⟩ := h j s hj
  exact ⟨b, off, wa, wc, rfl, Nat.lt_of_lt_of_le hbl hb.size, by rw [hb.cell (p := ⟨b, _, none⟩) hbl]; exact h1, by rw [hb.cell (p := ⟨b, _, none⟩) hbl]; exact h2, by rw [hb.cell (p := ⟨b, _, none⟩) hbl]; exact h3, by rw [hb.cell (p := ⟨b, _, none⟩) hbl]; exact h4, by rw [hb.cell (p := ⟨b, _, none⟩) hbl]; exact h5, h6, h7, h8.below hb⟩
theorem ShAt.nil (w : World) (a0 : Option Addr) : ShAt w a0 [] := fun j s hj => by simp at hj
end Go.Proofs.YtdfkpjmljaanpaaDoor
namespace Go.Proofs.YtdfkpjmljaanpaaDoor
open Go.RowKit
open Cn
/-- A row that is shown, and where its way lies. -/
abbrev ShW := Ix.Sh × Option Addr × Nat
def shCs (r : ShW) : Array Value := #[.int .i64 r.1.pl, .string r.1.row.tag, .int .i64 r.1.row.cnt, .int .i64 r.1.row.last, .slice r.2.1 r.1.way.length r.2.2]
theorem shCs_size (r : ShW) : (shCs r).size = 5 := rfl
theorem shCs_one (r : ShW) : ∀ u ∈ (shCs r).toList, u.oneCell' = true := fun u hu => by
  unfold shCs at hu
  simp only [List.mem_cons, List.not_mem_nil, or_false] at hu
  rcases hu with rfl | rfl | rfl | rfl | rfl <;> rfl
/-- An own slice of them holds the rows. -/
theorem shAt_own {T : TypeId} {B : Nat} {w w' : World} {a : Option Addr} {cap : Nat} {l : List ShW} (h : OwnR T 5 shCs B w' a cap l) (hb : Below w.heap.size w w') (hk : ∀ r ∈ l, r.1.way.length ≤ r.2.2 ∧ r.2.2 ≤ maxLen ∧ TextsAt w r.2.1 r.1.way) : ShAt w' a (l.map (·.1)) := fun j s hj => by
  rw [List.getElem?_map] at hj
  obtain ⟨r, hr, rfl⟩ := Option.map_eq_some_iff.1 hj
  obtain ⟨g, rfl, -, hl, hc⟩ := h.at shCs_size hr
  obtain ⟨k1, k2, k3⟩ := hk r (List.mem_of_getElem? hr)
  refine ⟨g, 0, r.2.1, r.2.2, rfl, hl, ?_, ?_, ?_, ?_, ?_, k1, k2, k3.below hb⟩
  · have := hc 0 (by decide); simpa [shCs] using this
  · have := hc 1 (by decide); simpa [shCs] using this
  · have := hc 2 (by decide); simpa [shCs] using this
  · have := hc 3 (by decide); simpa [shCs] using this
  · have := hc 4 (by decide); simpa [shCs] using this
end Go.Proofs.YtdfkpjmljaanpaaDoor
namespace Go.Proofs.YtdfkpjmljaanpaaDoor
open Go.RowKit
open Cn
/-- The texts; none, if the row leads nowhere. -/
def suI (n : Int) (s : Ix.Sh) : List ByteArray := match Ix.clI n s.pl (Tr.leaf (Ix.rwS s.row)) s.way with
  | none => []
  | some x => Tr.leafT (Ix.rwS s.row) :: (x.2.1 ++ [Ix.topS n x.1])
theorem clI_in {n i : Int} {d : ByteArray} {ws : List ByteArray} {x : ByteArray × List ByteArray × List ByteArray} (h : Ix.clI n i d ws = some x) (hd : d.size = 32) : 1 ≤ n ∧ n ≤ 4096 ∧ x.1.size = 32 ∧ x.2.1.length = ws.length := by
  unfold Ix.clI at h
  by_cases hb : 1 ≤ n ∧ n ≤ 4096 ∧ 0 ≤ i ∧ i < n ∧ Ix.digB ws = true
  · rw [if_pos hb] at h
    exact ⟨hb.1, hb.2.1, Ix.climb_32 _ _ _ _ _ hd h, (Tr.climb_len _ _ _ _ _ h).1⟩
  · rw [if_neg hb] at h; cases h
set_option maxRecDepth 100000 in
set_option maxHeartbeats 20000000 in
theorem isummed_any (n : Int) (s : Ix.Sh) (wa : Option Addr) (wc : Nat) (hok : Ix.rwOk s.row) (hws : s.way.length ≤ 100000) (hcap : s.way.length ≤ wc) (hmax : wc ≤ maxLen) (w : World) (hG : Glob w) (hT : TextsAt w wa s.way) :
    Calls Tryd.prog 46 #[.int .i64 n, .agg (shCs (s, wa, wc))] w fun e w' => ∃ a c, e = .returned (.slice a (suI n s).length c) ∧ OwnT w.heap.size w' a c (suI n s) ∧ Below w.heap.size w w' := by
  obtain ⟨w1, hw1⟩ : ∃ w1, w1 = w.alloc (.cells (shCs (s, wa, wc)) 62) := ⟨_, rfl⟩
  have hb1 : Below w.heap.size w w1 := by rw [hw1]; exact (Below.refl _ _).alloc (Nat.le_refl _) _
  have hg1 : w1.heap[w.heap.size]? = some (.cells (shCs (s, wa, wc)) 62 (0, 0)) := by rw [hw1]; exact heap_alloc_new _ _
  have hl32 : (Tr.leaf (Ix.rwS s.row)).size = 32 := Tr.sumE_size _
  have hrt := fun W => rowText_any s.row hok W
  have hlf := fun (W : World) (hb : Below w.heap.size w W) => leaf_any (Ix.rwS s.row) (Nat.le_trans (rwS_small hok) (by decide)) W (hG.below hb)
  have hcl := fun (W : World) (hb : Below w.heap.size w W) => climbX_any n s.pl (Tr.leaf (Ix.rwS s.row)) (by rw [hl32]; decide) s.way (by omega) wa wc hcap hmax W (hG.below hb) (hT.below hb)
  have htx := fun (W : World) (a : Option Addr) (c : Nat) (hb : Below w.heap.size w W) (h : TextsAt W a [Ix.rwS s.row]) => texts_any [Ix.rwS s.row] a c W (hG.below hb) h (by simp) (fun j hj => by
    obtain rfl : j = 0 := by simpa using hj
    exact Nat.le_trans (rwS_small hok) (by decide))
  rw [show [Ix.rwS s.row].map Tr.leafT ++ Tr.sumT ([Ix.rwS s.row].map Tr.leaf) = [Tr.leafT (Ix.rwS s.row)] from by rw [Tr.sumT_one (by simp)]; rfl] at htx
  have hcx := clX_of n s.pl (Tr.leaf (Ix.rwS s.row)) hl32 s.way
  have hcin := fun x (h : Ix.clI n s.pl (Tr.leaf (Ix.rwS s.row)) s.way = some x) => clI_in h hl32
  have htop := fun (t : ByteArray) (h0 : 1 ≤ n) (h1 : n ≤ 4096) (ht : t.size = 32) W => rootText_any n t (by omega) (by omega) (by omega) W
  obtain ⟨Z, hZ⟩ : ∃ Z, Z = suI n s := ⟨_, rfl⟩
  rw [← hZ]
  unfold suI at hZ
  obtain ⟨D, hD⟩ : ∃ D, D = Tr.leaf (Ix.rwS s.row) := ⟨_, rfl⟩
  obtain ⟨LT, hLT⟩ : ∃ LT, LT = Tr.leafT (Ix.rwS s.row) := ⟨_, rfl⟩
  obtain ⟨RS, hRS⟩ : ∃ RS, RS = Ix.rwS s.row := ⟨_, rfl⟩
  obtain ⟨CX, hCX⟩ : ∃ CX, CX = clX n s.pl (Tr.leaf (Ix.rwS s.row)) s.way := ⟨_, rfl⟩
  rw [← hCX] at hcl hcx
  rw [← hD] at hlf hcl hcx hZ hcin
  rw [← hLT] at htx hZ
  rw [← hRS] at hrt hlf htx
  obtain ⟨CL, hCL⟩ : ∃ CL, CL = Ix.clI n s.pl D s.way := ⟨_, rfl⟩
  rw [← hCL] at hcx hZ hcin
  obtain ⟨nw, hnw⟩ : ∃ nw, nw = s.way.length := ⟨_, rfl⟩
  have hcs : shCs (s, wa, wc) = #[.int .i64 s.pl, .string s.row.tag, .int .i64 s.row.cnt, .int .i64 s.row.last, .slice wa nw wc] := by rw [hnw]; rfl
  rw [← hnw] at hcl hcin hws
  obtain ⟨⟨c0, c1, c2⟩, hlen⟩ : ∃ c : ByteArray × List ByteArray × Int, c = CX := ⟨_, rfl⟩
  subst hlen
  simp only at hcl
  obtain ⟨x0, hx0⟩ : ∃ x, x = s.pl := ⟨_, rfl⟩
  obtain ⟨x1, hx1⟩ : ∃ x, x = s.row.tag := ⟨_, rfl⟩
  obtain ⟨x2, hx2⟩ : ∃ x, x = s.row.cnt := ⟨_, rfl⟩
  obtain ⟨x3, hx3⟩ : ∃ x, x = s.row.last := ⟨_, rfl⟩
  have hrc : rwCs s.row = #[.string x1, .int .i64 x2, .int .i64 x3] := by rw [hx1, hx2, hx3]; rfl
  rw [hrc] at hrt
  rw [← hx0, ← hx1, ← hx2, ← hx3] at hcs
  rw [← hx0] at hcl
  rw [hcs] at hw1 hg1 ⊢
  have H := Lib.hid (And.intro hb1 (And.intro hg1 (And.intro hrt (And.intro hlf (And.intro hcl (And.intro htx (And.intro hcx (And.intro hcin (And.intro htop (And.intro hZ hws))))))))))
  have k1 : w1.cell? ⟨w.heap.size, 1, none⟩ = some (.string x1) := by rw [cell_of_row _ _ _ _ _ _ hg1]; rfl
  have k2 : w1.cell? ⟨w.heap.size, 2, none⟩ = some (.int .i64 x2) := by rw [cell_of_row _ _ _ _ _ _ hg1]; rfl
  have k3 : w1.cell? ⟨w.heap.size, 3, none⟩ = some (.int .i64 x3) := by rw [cell_of_row _ _ _ _ _ _ hg1]; rfl
  clear hb1 hg1 hrt hlf hcl htx hcx hcin htop hZ hws hG hT hok hcap hmax hl32 hD hLT hRS hCX hCL hnw hcs hx0 hx1 hx2 hx3 hrc
  go_enter Tryd.func46, Tryd.ntmps46
  go_upto_region 1 with fail
  rw [← hw1]
  clear hw1
  go_wp2_with fail
  refine (H.out.2.2.1 _).mono ?_
  rintro e w2 ⟨rfl, hb2⟩
  have H2 := Lib.hid (And.intro (bcall H.out.1 hb2 H.out.1.size) ((hb2.block _ (lt_of_heap H.out.2.1)).trans H.out.2.1))
  clear hb2 k1 k2 k3
  go_upto_region 4 with fail
  go_wp2_with fail
  refine wp_region_held (S := fun W : World => W.heap[w.heap.size]? = some (.cells #[.int .i64 x0, .string x1, .int .i64 x2, .int .i64 x3, .slice wa nw wc] 62 (0, 0))) (by kernel_rfl) ?_
  change wpAnyH _ _ _ _ _ _ _ _ (World.drew _)
  generalize hv0 : World.drew _ = v0
  have E0 : v0.heap[w.heap.size]? = some (.cells #[.int .i64 x0, .string x1, .int .i64 x2, .int .i64 x3, .slice wa nw wc] 62 (0, 0)) := by rw [← hv0]; exact (show w2.drew.heap[w.heap.size]? = _ from H2.out.2)
  have F0 : Below w.heap.size w v0 := by rw [← hv0]; exact H2.out.1.drew
  clear hv0
  refine wpAnyH_take (i := 0) (v := ?_) rfl (by kernel_rfl) (by kernel_rfl) (by kernel_rfl) (fun _ _ _ h => h) (Or.inl ⟨by kernel_rfl, ?_⟩) E0 ?_
  rotate_left
  · (intro W hS; have q0 : W.cell? ⟨w.heap.size, 0, none⟩ = some (.int .i64 x0) := (by rw [cell_of_row _ _ _ _ _ _ hS]; rfl); have q4 : W.cell? ⟨w.heap.size, 4, none⟩ = some (.slice wa nw wc) := (by rw [cell_of_row _ _ _ _ _ _ hS]; rfl); go_simp; try (with_reducible rfl))
  refine wpAnyH_take (i := 1) (v := ?_) rfl (by kernel_rfl) (by kernel_rfl) (by kernel_rfl) (fun _ _ _ h => h) (Or.inl ⟨by kernel_rfl, ?_⟩) E0 ?_
  rotate_left
  · (intro W hS; have q0 : W.cell? ⟨w.heap.size, 0, none⟩ = some (.int .i64 x0) := (by rw [cell_of_row _ _ _ _ _ _ hS]; rfl); have q4 : W.cell? ⟨w.heap.size, 4, none⟩ = some (.slice wa nw wc) := (by rw [cell_of_row _ _ _ _ _ _ hS]; rfl); go_simp; try (with_reducible rfl))
  refine wpAnyH_take (i := 2) (v := ?_) rfl (by kernel_rfl) (by kernel_rfl) (by kernel_rfl) (fun _ _ _ h => h) (Or.inl ⟨by kernel_rfl, ?_⟩) E0 ?_
  rotate_left
  · (intro W hS; have q0 : W.cell? ⟨w.heap.size, 0, none⟩ = some (.int .i64 x0) := (by rw [cell_of_row _ _ _ _ _ _ hS]; rfl); have q4 : W.cell? ⟨w.heap.size, 4, none⟩ = some (.slice wa nw wc) := (by rw [cell_of_row _ _ _ _ _ _ hS]; rfl); go_simp; try (with_reducible rfl))
  refine wpAnyH_take (i := 3) (v := ?_) rfl (by kernel_rfl) (by kernel_rfl) (by kernel_rfl) (fun _ _ _ h => h) (Or.inl ⟨by kernel_rfl, ?_⟩) E0 ?_
  rotate_left
  · (intro W hS; have q0 : W.cell? ⟨w.heap.size, 0, none⟩ = some (.int .i64 x0) := (by rw [cell_of_row _ _ _ _ _ _ hS]; rfl); have q4 : W.cell? ⟨w.heap.size, 4, none⟩ = some (.slice wa nw wc) := (by rw [cell_of_row _ _ _ _ _ _ hS]; rfl); go_simp; try (with_reducible rfl))
  refine wpAnyH_take (i := 5) (v := ?_) rfl (by kernel_rfl) (by kernel_rfl) (by kernel_rfl) (fun _ _ _ h => h) (Or.inl ⟨by kernel_rfl, ?_⟩) E0 ?_
  rotate_left
  · (intro W hS; have q0 : W.cell? ⟨w.heap.size, 0, none⟩ = some (.int .i64 x0) := (by rw [cell_of_row _ _ _ _ _ _ hS]; rfl); have q4 : W.cell? ⟨w.heap.size, 4, none⟩ = some (.slice wa nw wc) := (by rw [cell_of_row _ _ _ _ _ _ hS]; rfl); go_simp; try (with_reducible rfl))
  refine wpAnyH_take (i := 6) (v := ?_) rfl (by kernel_rfl) (by kernel_rfl) (by kernel_rfl) (fun _ _ _ h => h) (Or.inl ⟨by kernel_rfl, ?_⟩) E0 ?_
  rotate_left
  · (intro W hS; have q0 : W.cell? ⟨w.heap.size, 0, none⟩ = some (.int .i64 x0) := (by rw [cell_of_row _ _ _ _ _ _ hS]; rfl); have q4 : W.cell? ⟨w.heap.size, 4, none⟩ = some (.slice wa nw wc) := (by rw [cell_of_row _ _ _ _ _ _ hS]; rfl); go_simp; try (with_reducible rfl))
  refine wpAnyH_ready (rs := [4]) (by kernel_rfl) (by simp) ?_
  refine AllReadyH.cons (i := 4) rfl (fun K hK => ?_) AllReadyH.nil
  go_simp
  refine (H.out.2.2.2.1 v0 F0).mono ?_
  rintro e v1 ⟨rfl, hb⟩
  have F1 := F0.trans (hb.mono F0.size)
  have E1 : v1.heap[w.heap.size]? = some (.cells #[.int .i64 x0, .string x1, .int .i64 x2, .int .i64 x3, .slice wa nw wc] 62 (0, 0)) := (hb.block _ (lt_of_heap E0)).trans E0
  refine hK.out _ _ E1 (fun _ => ?_)
  clear hK K hb
  refine wpAnyH_ready (rs := [7]) (by kernel_rfl) (by simp) ?_
  refine AllReadyH.cons (i := 7) rfl (fun K hK => ?_) AllReadyH.nil
  go_simp
  refine (H.out.2.2.2.2.1 v1 F1).mono ?_
  rintro e v2 ⟨aN, cN, rfl, hoN0, hb⟩
  have F2 := F1.trans (hb.mono F1.size)
  have E2 : v2.heap[w.heap.size]? = some (.cells #[.int .i64 x0, .string x1, .int .i64 x2, .int .i64 x3, .slice wa nw wc] 62 (0, 0)) := (hb.block _ (lt_of_heap E1)).trans E1
  have hoN := OwnT.mono hoN0 F1.size
  clear hoN0
  refine hK.out _ _ E2 (fun _ => ?_)
  clear hK K hb
  refine wpAnyH_take (i := 8) (v := ?_) rfl (by kernel_rfl) (by kernel_rfl) (by kernel_rfl) (fun _ _ _ h => h) (Or.inl ⟨by kernel_rfl, ?_⟩) E2 ?_
  rotate_left
  · (intro W hS; have q0 : W.cell? ⟨w.heap.size, 0, none⟩ = some (.int .i64 x0) := (by rw [cell_of_row _ _ _ _ _ _ hS]; rfl); have q4 : W.cell? ⟨w.heap.size, 4, none⟩ = some (.slice wa nw wc) := (by rw [cell_of_row _ _ _ _ _ _ hS]; rfl); go_simp; try (with_reducible rfl))
  refine wpAnyH_take (i := 9) (v := ?_) rfl (by kernel_rfl) (by kernel_rfl) (by kernel_rfl) (fun _ _ _ h => h) (Or.inl ⟨by kernel_rfl, ?_⟩) E2 ?_
  rotate_left
  · (intro W hS; have q0 : W.cell? ⟨w.heap.size, 0, none⟩ = some (.int .i64 x0) := (by rw [cell_of_row _ _ _ _ _ _ hS]; rfl); have q4 : W.cell? ⟨w.heap.size, 4, none⟩ = some (.slice wa nw wc) := (by rw [cell_of_row _ _ _ _ _ _ hS]; rfl); go_simp; try (with_reducible rfl))
  refine wpAnyH_take (i := 10) (v := ?_) rfl (by kernel_rfl) (by kernel_rfl) (by kernel_rfl) (fun _ _ _ h => h) (Or.inl ⟨by kernel_rfl, ?_⟩) E2 ?_
  rotate_left
  · (intro W hS; have q0 : W.cell? ⟨w.heap.size, 0, none⟩ = some (.int .i64 x0) := (by rw [cell_of_row _ _ _ _ _ _ hS]; rfl); have q4 : W.cell? ⟨w.heap.size, 4, none⟩ = some (.slice wa nw wc) := (by rw [cell_of_row _ _ _ _ _ _ hS]; rfl); go_simp; try (with_reducible rfl))
  refine wpAnyH_take (i := 11) (v := ?_) rfl (by kernel_rfl) (by kernel_rfl) (by kernel_rfl) (fun _ _ _ h => h) (Or.inl ⟨by kernel_rfl, ?_⟩) E2 ?_
  rotate_left
  · (intro W hS; have q0 : W.cell? ⟨w.heap.size, 0, none⟩ = some (.int .i64 x0) := (by rw [cell_of_row _ _ _ _ _ _ hS]; rfl); have q4 : W.cell? ⟨w.heap.size, 4, none⟩ = some (.slice wa nw wc) := (by rw [cell_of_row _ _ _ _ _ _ hS]; rfl); go_simp; try (with_reducible rfl))
  refine wpAnyH_take (i := 12) (v := ?_) rfl (by kernel_rfl) (by kernel_rfl) (by kernel_rfl) (fun _ _ _ h => h) (Or.inl ⟨by kernel_rfl, ?_⟩) E2 ?_
  rotate_left
  · (intro W hS; have q0 : W.cell? ⟨w.heap.size, 0, none⟩ = some (.int .i64 x0) := (by rw [cell_of_row _ _ _ _ _ _ hS]; rfl); have q4 : W.cell? ⟨w.heap.size, 4, none⟩ = some (.slice wa nw wc) := (by rw [cell_of_row _ _ _ _ _ _ hS]; rfl); go_simp; try (with_reducible rfl))
  refine wpAnyH_take (i := 13) (v := ?_) rfl (by kernel_rfl) (by kernel_rfl) (by kernel_rfl) (fun _ _ _ h => h) (Or.inl ⟨by kernel_rfl, ?_⟩) E2 ?_
  rotate_left
  · (intro W hS; have q0 : W.cell? ⟨w.heap.size, 0, none⟩ = some (.int .i64 x0) := (by rw [cell_of_row _ _ _ _ _ _ hS]; rfl); have q4 : W.cell? ⟨w.heap.size, 4, none⟩ = some (.slice wa nw wc) := (by rw [cell_of_row _ _ _ _ _ _ hS]; rfl); go_simp; try (with_reducible rfl))
  refine wpAnyH_take (i := 14) (v := ?_) rfl (by kernel_rfl) (by kernel_rfl) (by kernel_rfl) (fun _ _ _ h => h) (Or.inl ⟨by kernel_rfl, ?_⟩) E2 ?_
  rotate_left
  · (intro W hS; have q0 : W.cell? ⟨w.heap.size, 0, none⟩ = some (.int .i64 x0) := (by rw [cell_of_row _ _ _ _ _ _ hS]; rfl); have q4 : W.cell? ⟨w.heap.size, 4, none⟩ = some (.slice wa nw wc) := (by rw [cell_of_row _ _ _ _ _ _ hS]; rfl); go_simp; try (with_reducible rfl))
  refine wpAnyH_done (by kernel_rfl) ?_ _
  go_simp
  have H4 := Lib.hid (And.intro F2 hoN)
  clear E0 E1 E2 F0 F1 F2 hoN
  rcases H.out.2.2.2.2.2.2.1 with ⟨x, hcl, hx⟩ | ⟨hcl, e0, hx, he0⟩
  · injection hx with hx1 hx
    injection hx with hx2 hx3
    subst hx1 hx2 hx3
    have hin := H.out.2.2.2.2.2.2.2.1 x hcl
    have hZ := H.out.2.2.2.2.2.2.2.2.2.1
    rw [hcl] at hZ
    simp only at hZ
    have htp := H.out.2.2.2.2.2.2.2.2.1 x.1 hin.1 hin.2.1 hin.2.2.1
    obtain ⟨T, hT⟩ : ∃ T, T = Ix.topS n x.1 := ⟨_, rfl⟩
    rw [← hT] at hZ htp
    obtain ⟨xr, xn, xl⟩ := x
    simp only at hin hZ htp
    have HX := Lib.hid (And.intro hZ (And.intro htp hin))
    obtain ⟨mn, hmn⟩ : ∃ mn, mn = xn.length := ⟨_, rfl⟩
    have HMN := Lib.hid hmn
    simp only
    rw [← hmn]
    clear hcl hZ htp hin hT hmn
    obtain ⟨w5, hw5⟩ : ∃ w5, w5 = v2.alloc (.cells #[.string RS] 9) := ⟨_, rfl⟩
    have hb5 : Below v2.heap.size v2 w5 := by rw [hw5]; exact (Below.refl _ _).alloc (Nat.le_refl _) _
    have ht5 : TextsAt w5 (some ⟨v2.heap.size, 0, none⟩) [RS] := by rw [hw5]; exact texts_one v2 RS
    have H5 := Lib.hid (And.intro (bcall H4.out.1 hb5 H4.out.1.size) (And.intro ht5 (OwnT.call H4.out.2 hb5)))
    clear hb5 ht5
    go_wp2_with fail
    rw [← hw5]
    clear hw5
    refine (H.out.2.2.2.2.2.1 _ _ _ H5.out.1 H5.out.2.1).mono ?_
    rintro e w6 ⟨a6, c6, rfl, ho6, hb6⟩
    have H6 := Lib.hid (And.intro (bcall H5.out.1 hb6 H5.out.1.size) (And.intro (OwnT.mono ho6 H5.out.1.size) (OwnT.texts (OwnT.call H5.out.2.2 hb6))))
    clear ho6 hb6
    have hl1 : nw ≤ 100000 := H.out.2.2.2.2.2.2.2.2.2.2
    have hl2 : mn ≤ 100000 := by rw [HMN.out, HX.out.2.2.2.2.2]; exact hl1
    go_wp2_with (at_builtin; (refine wpList_append_texts rfl (.tmp 34) (.tmp 35) rfl H6.out.2.1 1 rfl rfl _ _ mn xn HMN.out.symm rfl H6.out.2.2 (by omega) H6.out.1.size H6.out.1 ?_; intro ad7 cp7 w7 ho hb; have H7 := Lib.hid (And.intro ho hb); clear ho hb))
    refine (HX.out.2.1 _).mono ?_
    rintro e w8 ⟨rfl, hb8⟩
    obtain ⟨w9, hw9⟩ : ∃ w9, w9 = w8.alloc (.cells #[.string T] 9) := ⟨_, rfl⟩
    have hb9 : Below w8.heap.size w8 w9 := by rw [hw9]; exact (Below.refl _ _).alloc (Nat.le_refl _) _
    have ht9 : TextsAt w9 (some ⟨w8.heap.size, 0, none⟩) [T] := by rw [hw9]; exact texts_one w8 T
    have b89 := bcall hb8 hb9 hb8.size
    have H9 := Lib.hid (And.intro (bcall H7.out.2 b89 H7.out.2.size) (And.intro ht9 (OwnT.call H7.out.1 b89)))
    clear hb8 hb9 ht9 b89
    go_wp2_with (at_builtin; (rw [← hw9]; refine wpList_append_texts rfl (.tmp 37) (.tmp 41) rfl H9.out.2.2 (1 + mn) (by rw [List.length_append, ← HMN.out]; rfl) rfl _ _ 1 [T] rfl rfl H9.out.2.1 (by omega) H9.out.1.size H9.out.1 ?_; intro ad10 cp10 w10 ho hb; have H10 := Lib.hid (And.intro ho hb); clear ho hb hw9))
    go_ret
    have hfin : ([LT] ++ xn) ++ [T] = Z := by rw [HX.out.1]; rfl
    have hlen : Z.length = 1 + mn + 1 := by rw [← hfin, List.length_append, List.length_append, ← HMN.out]; rfl
    exact ⟨ad10, cp10, by rw [hlen]; rfl, by rw [← hfin]; exact H10.out.1, H10.out.2⟩
  · injection hx with hx1 hx
    injection hx with hx2 hx3
    subst hx1 hx2 hx3
    have hZ := H.out.2.2.2.2.2.2.2.2.2.1
    rw [hcl] at hZ
    have HZ := Lib.hid (show Z = [] from hZ)
    clear hcl hZ
    go_wp2_with fail
    go_ret
    exact ⟨none, 0, by rw [HZ.out]; rfl, by rw [HZ.out]; exact OwnT.nil _ _, H4.out.1⟩
end Go.Proofs.YtdfkpjmljaanpaaDoor
