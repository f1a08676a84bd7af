/- MX9, what is wanted of it. -/
import Derived.Test.YtdfkpjmljaanpaaGreatDoorZMX3
import Derived.Test.YtdfkpjmljaanpaaGreatDoorZItF
import Derived.Test.YtdfkpjmljaanpaaGreatDoorZMC4
import Derived.Test.YtdfkpjmljaanpaaGreatDoorZMX1
import Derived.Test.YtdfkpjmljaanpaaGreatDoorZMX4
import Derived.Test.YtdfkpjmljaanpaaGreatDoorZMC3
import Derived.Deep.RegionHeld
import Derived.Test.YtdfkpjmljaanpaaGreatDoorZMX5
import Derived.Test.YtdfkpjmljaanpaaGreatDoorZMT3
import Derived.Test.YtdfkpjmljaanpaaGreatDoorZMT2
namespace Go.Proofs.YtdfkpjmljaanpaaGreatDoor
open Go.RowKit
open Cn
theorem it_size (x : It) : x.cells.size = 4 := rfl
theorem cells_rowAt {w : World} {b o : Nat} {l : List It} (h : ∀ j x, l[j]? = some x → ∀ m, m < 4 → w.cell? ⟨b, o + (j * 4 + m), none⟩ = x.cells[m]?) : RowAt w b o l := fun j x hx => by
  have g0 := h j x hx 0 (by decide)
  have g1 := h j x hx 1 (by decide)
  have g2 := h j x hx 2 (by decide)
  have g3 := h j x hx 3 (by decide)
  rw [Nat.add_zero] at g0
  rw [← Nat.add_assoc] at g1 g2 g3
  exact ⟨g0, g1, g2, g3⟩
/-- Items in a block, as laid there. -/
theorem lies_flat {w : World} {b : Nat} {t : TypeId} {S : Nat → Prop} (ls : List It) (c : Array Value) (h : w.heap[b]? = some (.cells c t (0, 0))) (hc : c = (flat ls).toArray) (hS : S b) (hm : ls.length ≤ 1000000) : Lies w S (some ⟨b, 0, none⟩) ls := by
  refine ⟨by unfold maxLen; omega, fun _ => ⟨b, 0, rfl, (Array.getElem?_eq_some_iff.1 h).1, hS, cells_rowAt fun j x hx m hmm => ?_⟩⟩
  rw [Nat.zero_add, Lib.cell_of_heap h, hc, List.getElem?_toArray]
  exact flat_get ls j x m hx hmm
/-- Items of a row of the call's own. -/
theorem lies_own {T : TypeId} {B : Nat} {w : World} {a : Option Addr} {cap : Nat} {l : List It} (h : OwnR T 4 It.cells B w a cap l) (hm : l.length ≤ 1000000) : Lies w (B ≤ ·) a l := by
  refine ⟨by unfold maxLen; omega, fun hne => ?_⟩
  have hpos := List.length_pos_iff.2 hne
  obtain ⟨g, rfl, hB, hl, -⟩ := h.at it_size (List.getElem?_eq_getElem hpos)
  refine ⟨g, 0, rfl, hl, hB, cells_rowAt fun j x hx m hmm => ?_⟩
  obtain ⟨g', e, -, -, hc⟩ := h.at it_size hx
  injection e with e
  injection e with e
  subst e
  rw [Nat.zero_add]
  exact hc m hmm
mutual
def szP : Pt → Nat
  | .mk _ _ _ l => 1 + szPAll l
def szPAll : List Pt → Nat
  | [] => 0
  | x :: r => szP x + szPAll r
end
mutual
theorem sz_pure : ∀ x : It, x.sz = szP x.pure
  | .mk _ _ _ _ _ l => by rw [It.sz, It.pure, szP, szAll_pure l]
theorem szAll_pure : ∀ l : List It, It.szAll l = szPAll (It.pureAll l)
  | [] => rfl
  | x :: r => by rw [It.szAll, It.pureAll, szPAll, sz_pure x, szAll_pure r]
end
theorem It.In.weak {w : World} {S T : Nat → Prop} {x : It} (h : x.In w S) (hs : ∀ b, b < w.heap.size → S b → T b) : x.In w T :=
  It.In.kept (w' := w) ⟨fun b hb hl => ⟨hs b hl hb, rfl⟩, Nat.le_refl _⟩ x h
theorem It.InAll.weak {w : World} {S T : Nat → Prop} {l : List It} (h : It.InAll w S l) (hs : ∀ b, b < w.heap.size → S b → T b) : It.InAll w T l :=
  It.InAll.kept (w' := w) ⟨fun b hb hl => ⟨hs b hl hb, rfl⟩, Nat.le_refl _⟩ l h
/-- A list of items in the making: these are there (T: api's items, or the reference's). -/
structure Mk (T : TypeId) (w0 : World) (ps : List Pt) (l : List It) (a : Option Addr) (cap : Nat) (wr : World) : Prop where
  pure : It.pureAll l = ps
  own : OwnR T 4 It.cells w0.heap.size wr a cap l
  all : It.InAll wr (fun b => w0.heap.size ≤ b ∧ (Value.slice a l.length cap).ownBlock ≠ some b) l
  below : Below w0.heap.size w0 wr
theorem Mk.start (T : TypeId) {w0 wr : World} (hb : Below w0.heap.size w0 wr) : Mk T w0 [] [] none 0 wr := ⟨rfl, OwnR.nil _ _ _ _ _, trivial, hb⟩
theorem Mk.len {T : TypeId} {w0 wr : World} {ps : List Pt} {l : List It} {a : Option Addr} {cap : Nat} (h : Mk T w0 ps l a cap wr) : l.length = ps.length := by rw [← h.pure, It.pureAll_length]
theorem Mk.call {T : TypeId} {w0 wr wr' : World} {ps : List Pt} {l : List It} {a : Option Addr} {cap : Nat} (h : Mk T w0 ps l a cap wr) (hb : Below wr.heap.size wr wr') : Mk T w0 ps l a cap wr' :=
  ⟨h.pure, h.own.call hb, It.InAll.kept (keptS_any hb) _ h.all, h.below.trans (hb.mono h.below.size)⟩
theorem Mk.drew {T : TypeId} {w0 wr : World} {ps : List Pt} {l : List It} {a : Option Addr} {cap : Nat} (h : Mk T w0 ps l a cap wr) : Mk T w0 ps l a cap wr.drew :=
  h.call ((Below.refl _ _).drew)
theorem Mk.lies {T : TypeId} {w0 wr : World} {ps : List Pt} {l : List It} {a : Option Addr} {cap : Nat} (h : Mk T w0 ps l a cap wr) (hm : ps.length ≤ 1000000) : Lies wr (w0.heap.size ≤ ·) a l ∧ It.InAll wr (w0.heap.size ≤ ·) l :=
  ⟨lies_own h.own (by rw [h.len]; exact hm), h.all.weak fun b _ hb => hb.1⟩
/-- One item more was appended. -/
theorem Mk.next {T : TypeId} {w0 wr wr' : World} {ps : List Pt} {l : List It} {a : Option Addr} {cap : Nat} (h : Mk T w0 ps l a cap wr) {y : It} {p : Pt} (hy : y.In wr (fun b => w0.heap.size ≤ b ∧ (Value.slice a l.length cap).ownBlock ≠ some b)) (hp : y.pure = p)
    {g1 cap1 : Nat} (ho : OwnR T 4 It.cells w0.heap.size wr' (some ⟨g1, 0, none⟩) cap1 (l ++ [y])) (hgr : wr.grownBy wr' (Value.slice a l.length cap).ownBlock)
    (hat : (Value.slice a l.length cap).ownBlock = some g1 ∨ g1 = wr.heap.size) : Mk T w0 (ps ++ [p]) (l ++ [y]) (some ⟨g1, 0, none⟩) cap1 wr' := by
  have hk : KeptS (fun b => w0.heap.size ≤ b ∧ (Value.slice a l.length cap).ownBlock ≠ some b) (fun b => w0.heap.size ≤ b ∧ (Value.slice (some ⟨g1, 0, none⟩) (l ++ [y]).length cap1).ownBlock ≠ some b) wr wr' := by
    refine ⟨fun b hb hl => ⟨⟨hb.1, ?_⟩, hgr.block b hl (fun e => hb.2 e.symm)⟩, hgr.size⟩
    intro e
    have e : g1 = b := by simpa [Value.ownBlock] using e
    subst e
    rcases hat with e | e
    · exact hb.2 e
    · omega
  refine ⟨by rw [It.pureAll_eq, List.map_append, ← It.pureAll_eq, h.pure, ← hp]; rfl, ho, ?_, h.below.grown hgr h.below.size (fun k hk => (h.own.lt k hk).1)⟩
  refine It.inAll_of fun x hx => ?_
  rcases List.mem_append.1 hx with hx | hx
  · exact It.In.kept hk x (It.inAll_mem h.all x hx)
  · rw [List.mem_singleton] at hx
    subst hx
    exact It.In.kept hk _ hy
end Go.Proofs.YtdfkpjmljaanpaaGreatDoor
namespace Go.Proofs.YtdfkpjmljaanpaaGreatDoor
open Go.RowKit
open Cn
theorem rw_enc {r : Rw} (h : Ix.rwOk r) : c_encS (Ix.rwT r) = Ix.rwS r ∧ encE (Ix.rwT r) = 0 := by
  have h1 := Ix.rwT_may h
  have h2 : (Cn.bytes (Ix.rwT r)).length ≤ 65536 := Nat.le_trans (Ix.rwT_len h) (by decide)
  constructor
  · unfold c_encS Ix.rwS
    rw [if_pos ⟨h1, h2⟩]; rfl
  · unfold encE
    rw [if_pos h1, if_pos h2]
theorem top_enc {n : Int} {t : ByteArray} (h0 : 0 ≤ n) (h1 : n ≤ 72057594037927935) (ht : t.size ≤ 200) : c_encS (Ix.topT n t) = Ix.topS n t := by
  unfold c_encS Ix.topS
  rw [if_pos ⟨Ix.topT_may h0 h1 (r := t) (by omega), Nat.le_trans (Ix.topT_len h1 ht) (by decide)⟩]; rfl
set_option maxRecDepth 100000 in
set_option maxHeartbeats 4000000 in
theorem rowText_any (r : Rw) (h : Ix.rwOk r) (w : World) : Calls Tryz.prog 162 #[.agg (rwCs r)] w fun e w' => e = .returned (.tuple #[.string (Ix.rwS r), .int .i64 0]) ∧ Below w.heap.size w w' := by
  obtain ⟨w1, hw1⟩ : ∃ w1, w1 = w.alloc (.cells (rwCs r) 41) := ⟨_, rfl⟩
  have hb1 : Below w.heap.size w w1 := by rw [hw1]; exact (Below.refl _ _).alloc (Nat.le_refl _) _
  have hg1 : w1.heap[w.heap.size]? = some (.cells (rwCs r) 41 (0, 0)) := by rw [hw1]; exact heap_alloc_new _ _
  obtain ⟨c0, c1, c2⟩ := row3 hg1
  obtain ⟨R, hR⟩ : ∃ R, R = Ix.rwS r := ⟨_, rfl⟩
  have hen := rw_enc h
  have htm : r.tag.size ≤ maxLen := by have := h.1; unfold maxLen; omega
  rw [← hR] at hen ⊢
  have H := Lib.hid (And.intro hen (And.intro hb1 (And.intro hg1 htm)))
  clear hen hb1 hg1 hR h htm
  obtain ⟨x, u, l⟩ := r
  unfold rwCs at hw1 ⊢
  simp only at hw1 c0 c1 c2 ⊢
  go_enter Tryz.func162, Tryz.ntmps162
  go_upto_region 1 with fail
  rw [← hw1]
  clear hw1 c0 c1 c2
  go_wp2_with fail
  refine wp_region_held (S := fun W : World => W.heap[w.heap.size]? = some (.cells (rwCs ⟨x, u, l⟩) 41 (0, 0))) (by kernel_rfl) ?_
  change wpAnyH _ _ _ _ _ _ _ _ (World.drew _)
  generalize hv0 : World.drew _ = v0
  have E0 : v0.heap[w.heap.size]? = some (.cells (rwCs ⟨x, u, l⟩) 41 (0, 0)) := by rw [← hv0]; exact (show w1.drew.heap[w.heap.size]? = _ from H.out.2.2.1)
  have F0 : Below w.heap.size w v0 := by rw [← hv0]; exact H.out.2.1.drew
  clear hv0
  refine wpAnyH_take (i := 0) (v := ?_) rfl (by kernel_rfl) (by kernel_rfl) (by kernel_rfl) (fun _ _ _ h => h) (Or.inl ⟨by kernel_rfl, ?_⟩) E0 ?_
  rotate_left
  · (intro W hS; obtain ⟨k0, k1, k2⟩ := row3 hS; go_simp; try (with_reducible rfl))
  refine wpAnyH_take (i := 1) (v := ?_) rfl (by kernel_rfl) (by kernel_rfl) (by kernel_rfl) (fun _ _ _ h => h) (Or.inl ⟨by kernel_rfl, ?_⟩) E0 ?_
  rotate_left
  · (intro W hS; obtain ⟨k0, k1, k2⟩ := row3 hS; go_simp; try (with_reducible rfl))
  refine wpAnyH_take (i := 3) (v := ?_) rfl (by kernel_rfl) (by kernel_rfl) (by kernel_rfl) (fun _ _ _ h => h) (Or.inl ⟨by kernel_rfl, ?_⟩) E0 ?_
  rotate_left
  · (intro W hS; obtain ⟨k0, k1, k2⟩ := row3 hS; go_simp; try (with_reducible rfl))
  refine wpAnyH_take (i := 4) (v := ?_) rfl (by kernel_rfl) (by kernel_rfl) (by kernel_rfl) (fun _ _ _ h => h) (Or.inl ⟨by kernel_rfl, ?_⟩) E0 ?_
  rotate_left
  · (intro W hS; obtain ⟨k0, k1, k2⟩ := row3 hS; go_simp; try (with_reducible rfl))
  refine wpAnyH_take (i := 6) (v := ?_) rfl (by kernel_rfl) (by kernel_rfl) (by kernel_rfl) (fun _ _ _ h => h) (Or.inl ⟨by kernel_rfl, ?_⟩) E0 ?_
  rotate_left
  · (intro W hS; obtain ⟨k0, k1, k2⟩ := row3 hS; go_simp; try (with_reducible rfl))
  refine wpAnyH_take (i := 7) (v := ?_) rfl (by kernel_rfl) (by kernel_rfl) (by kernel_rfl) (fun _ _ _ h => h) (Or.inl ⟨by kernel_rfl, ?_⟩) E0 ?_
  rotate_left
  · (intro W hS; obtain ⟨k0, k1, k2⟩ := row3 hS; go_simp; try (with_reducible rfl))
  refine wpAnyH_ready (rs := [2]) (by kernel_rfl) (by simp) ?_
  refine AllReadyH.cons rfl (fun K hK => ?_) AllReadyH.nil
  go_simp
  refine (text_any x v0).mono ?_
  rintro e v1 ⟨rfl, hb⟩
  have F1 := F0.trans (hb.mono F0.size)
  have E1 : v1.heap[w.heap.size]? = some (.cells (rwCs ⟨x, u, l⟩) 41 (0, 0)) := (hb.block _ (lt_of_heap E0)).trans E0
  refine hK.out _ _ E1 (fun _ => ?_)
  clear hK K hb
  refine wpAnyH_ready (rs := [5]) (by kernel_rfl) (by simp) ?_
  refine AllReadyH.cons rfl (fun K hK => ?_) AllReadyH.nil
  go_simp
  refine (num_any u v1).mono ?_
  rintro e v2 ⟨rfl, hb⟩
  have F2 := F1.trans (hb.mono F1.size)
  have E2 : v2.heap[w.heap.size]? = some (.cells (rwCs ⟨x, u, l⟩) 41 (0, 0)) := (hb.block _ (lt_of_heap E1)).trans E1
  refine hK.out _ _ E2 (fun _ => ?_)
  clear hK K hb
  refine wpAnyH_ready (rs := [8]) (by kernel_rfl) (by simp) ?_
  refine AllReadyH.cons rfl (fun K hK => ?_) AllReadyH.nil
  go_simp
  refine (num_any l v2).mono ?_
  rintro e v3 ⟨rfl, hb⟩
  have F3 := F2.trans (hb.mono F2.size)
  have E3 : v3.heap[w.heap.size]? = some (.cells (rwCs ⟨x, u, l⟩) 41 (0, 0)) := (hb.block _ (lt_of_heap E2)).trans E2
  refine hK.out _ _ E3 (fun _ => ?_)
  clear hK K hb
  obtain ⟨v4, hv⟩ : ∃ v, v = v3.alloc (.cells (flat [Fl.T x, Fl.N u, Fl.N l]).toArray 184) := ⟨_, rfl⟩
  have hb : Below v3.heap.size v3 v4 := by rw [hv]; exact (Below.refl _ _).alloc (Nat.le_refl _) _
  have g4 : v4.heap[v3.heap.size]? = some (.cells (flat [Fl.T x, Fl.N u, Fl.N l]).toArray 184 (0, 0)) := by rw [hv]; exact heap_alloc_new _ _
  have F4 := F3.trans (hb.mono F3.size)
  have E4 : v4.heap[w.heap.size]? = some (.cells (rwCs ⟨x, u, l⟩) 41 (0, 0)) := (hb.block _ (lt_of_heap E3)).trans E3
  simp only [flat, Fl.N, Fl.T, It.cells, It.k, It.n, It.s, It.a, It.cap, It.l, List.cons_append, List.nil_append, List.length_nil] at hv
  refine wpAnyH_ready (rs := [9]) (by kernel_rfl) (by simp) ?_
  refine AllReadyH.cons rfl (fun K hK => ?_) AllReadyH.nil
  go_simp
  rw [← hv]
  clear hv
  refine hK.out _ _ E4 (fun _ => ?_)
  clear hK K hb
  have hli := list_any (fun _ => True) [Fl.T x, Fl.N u, Fl.N l] (some ⟨v3.heap.size, 0, none⟩) 3 v4 (lies_flat _ _ g4 rfl trivial (by simp)) ⟨Fl.inT H.out.2.2.2, Fl.inN _, Fl.inN _, trivial⟩ (by rw [szAll_pure]; simp only [It.pureAll, It.pure, Fl.N, Fl.T, szPAll, szP]; omega)
  refine wpAnyH_ready (rs := [10]) (by kernel_rfl) (by simp) ?_
  refine AllReadyH.cons rfl (fun K hK => ?_) AllReadyH.nil
  go_simp
  refine (hli).mono ?_
  rintro e v5 ⟨z, rfl, hzp, hzi, hb⟩
  have F5 := F4.trans (hb.mono F4.size)
  have E5 : v5.heap[w.heap.size]? = some (.cells (rwCs ⟨x, u, l⟩) 41 (0, 0)) := (hb.block _ (lt_of_heap E4)).trans E4
  refine hK.out _ _ E5 (fun _ => ?_)
  clear hK K hb
  have hen := encode_any _ z v5 hzi
  rw [hzp, show (Pt.mk 3 0 ⟨#[]⟩ (It.pureAll [Fl.T x, Fl.N u, Fl.N l])) = Ix.rwT ⟨x, u, l⟩ from rfl, H.out.1.1, H.out.1.2] at hen
  obtain ⟨zk, zn, zs, za, zc, zl⟩ := z
  simp only [It.val, It.cells, It.k, It.n, It.s, It.a, It.cap, It.l] at hen ⊢
  refine wpAnyH_ready (rs := [11]) (by kernel_rfl) (by simp) ?_
  refine AllReadyH.cons rfl (fun K hK => ?_) AllReadyH.nil
  go_simp
  refine (hen).mono ?_
  rintro e v6 ⟨rfl, hb⟩
  have F6 := F5.trans (hb.mono F5.size)
  have E6 : v6.heap[w.heap.size]? = some (.cells (rwCs ⟨x, u, l⟩) 41 (0, 0)) := (hb.block _ (lt_of_heap E5)).trans E5
  refine hK.out _ _ E6 (fun _ => ?_)
  clear hK K hb
  refine wpAnyH_take (i := 12) (v := ?_) rfl (by kernel_rfl) (by kernel_rfl) (by kernel_rfl) (fun _ _ _ h => h) (Or.inl ⟨by kernel_rfl, ?_⟩) E6 ?_
  rotate_left
  · (intro W hS; obtain ⟨k0, k1, k2⟩ := row3 hS; go_simp; try (with_reducible rfl))
  refine wpAnyH_take (i := 13) (v := ?_) rfl (by kernel_rfl) (by kernel_rfl) (by kernel_rfl) (fun _ _ _ h => h) (Or.inl ⟨by kernel_rfl, ?_⟩) E6 ?_
  rotate_left
  · (intro W hS; obtain ⟨k0, k1, k2⟩ := row3 hS; go_simp; try (with_reducible rfl))
  refine wpAnyH_take (i := 14) (v := ?_) rfl (by kernel_rfl) (by kernel_rfl) (by kernel_rfl) (fun _ _ _ h => h) (Or.inl ⟨by kernel_rfl, ?_⟩) E6 ?_
  rotate_left
  · (intro W hS; obtain ⟨k0, k1, k2⟩ := row3 hS; go_simp; try (with_reducible rfl))
  refine wpAnyH_take (i := 15) (v := ?_) rfl (by kernel_rfl) (by kernel_rfl) (by kernel_rfl) (fun _ _ _ h => h) (Or.inl ⟨by kernel_rfl, ?_⟩) E6 ?_
  rotate_left
  · (intro W hS; obtain ⟨k0, k1, k2⟩ := row3 hS; go_simp; try (with_reducible rfl))
  refine wpAnyH_done (by kernel_rfl) ?_ _
  go_simp
  have HB := Lib.hid F6
  clear E0 F0 E1 F1 E2 F2 E3 F3 E4 F4 E5 F5 E6 F6
  go_wp2_with fail
  go_ret2
  exact ⟨rfl, HB.out⟩
set_option maxRecDepth 100000 in
set_option maxHeartbeats 4000000 in
theorem rootText_any (n : Int) (t : ByteArray) (h0 : 0 ≤ n) (h1 : n ≤ 72057594037927935) (ht : t.size ≤ 200) (w : World) : Calls Tryz.prog 141 #[.int .i64 n, .string t] w fun e w' => e = .returned (.string (Ix.topS n t)) ∧ Below w.heap.size w w' := by
  obtain ⟨D, hD⟩ : ∃ D, D = Ix.topS n t := ⟨_, rfl⟩
  have hen := top_enc h0 h1 ht
  rw [← hD] at hen ⊢
  have htm : t.size ≤ maxLen := by unfold maxLen; omega
  have H := Lib.hid (And.intro hen htm)
  clear hen hD h0 h1 ht htm
  go_enter Tryz.func141, Tryz.ntmps141
  go_wp2_with fail
  refine (text_any Ix.idxL _).mono ?_
  rintro e w1 ⟨rfl, hb1⟩
  have H1 := Lib.hid hb1
  clear hb1
  go_wp2_with fail
  refine (num_any n _).mono ?_
  rintro e w2 ⟨rfl, hb2⟩
  have H2 := Lib.hid (H1.out.trans (hb2.mono H1.out.size))
  clear hb2
  go_wp2_with fail
  refine (text_any t _).mono ?_
  rintro e w3 ⟨rfl, hb3⟩
  obtain ⟨w4, hw4⟩ : ∃ w4, w4 = w3.alloc (.cells (flat [Fl.T Ix.idxL, Fl.N n, Fl.T t]).toArray 184) := ⟨_, rfl⟩
  have hb4 : Below w3.heap.size w3 w4 := by rw [hw4]; exact (Below.refl _ _).alloc (Nat.le_refl _) _
  have hg4 : w4.heap[w3.heap.size]? = some (.cells (flat [Fl.T Ix.idxL, Fl.N n, Fl.T t]).toArray 184 (0, 0)) := by rw [hw4]; exact heap_alloc_new _ _
  have F3 := H2.out.trans (hb3.mono H2.out.size)
  have hli := list_any (fun _ => True) [Fl.T Ix.idxL, Fl.N n, Fl.T t] (some ⟨w3.heap.size, 0, none⟩) 3 w4 (lies_flat _ _ hg4 rfl trivial (by simp)) ⟨Fl.inT (by unfold maxLen; decide), Fl.inN _, Fl.inT H.out.2, trivial⟩ (by rw [szAll_pure]; simp only [It.pureAll, It.pure, Fl.N, Fl.T, szPAll, szP]; omega)
  have H4 := Lib.hid (And.intro (F3.trans (hb4.mono F3.size)) hli)
  clear hb3 hb4 hg4 F3 hli
  simp only [flat, Fl.N, Fl.T, It.cells, It.k, It.n, It.s, It.a, It.cap, It.l, List.cons_append, List.nil_append, List.length_nil] at hw4
  go_wp2_with fail
  rw [← hw4]
  clear hw4
  refine H4.out.2.mono ?_
  rintro e w5 ⟨z, rfl, hzp, hzi, hb5⟩
  have hen := encode_any _ z w5 hzi
  rw [hzp, show (Pt.mk 3 0 ⟨#[]⟩ (It.pureAll [Fl.T Ix.idxL, Fl.N n, Fl.T t])) = Ix.topT n t from rfl, H.out.1] at hen
  have H5 := Lib.hid (And.intro (H4.out.1.trans (hb5.mono H4.out.1.size)) hen)
  clear hb5 hen hzp hzi
  obtain ⟨zk, zn, zs, za, zc, zl⟩ := z
  simp only [It.val, It.cells, It.k, It.n, It.s, It.a, It.cap, It.l] at H5 ⊢
  go_wp2_with fail
  refine H5.out.2.mono ?_
  rintro e w6 ⟨rfl, hb6⟩
  have H6 := Lib.hid (H5.out.1.trans (hb6.mono H5.out.1.size))
  clear hb6
  go_wp2_with fail
  go_ret
  exact ⟨rfl, H6.out⟩
end Go.Proofs.YtdfkpjmljaanpaaGreatDoor
namespace Go.Proofs.YtdfkpjmljaanpaaGreatDoor
open Go.RowKit
open Cn
theorem rwS_small {r : Rw} (h : Ix.rwOk r) : (Ix.rwS r).size ≤ 100 := by
  unfold Ix.rwS
  rw [str_size]
  exact Ix.rwT_len h
theorem rwS_list {rs : List Rw} (hok : ∀ r ∈ rs, Ix.rwOk r) : ∀ j, j < (rs.map Ix.rwS).length → ((rs.map Ix.rwS).getD j ByteArray.empty).size ≤ 100000 := fun j hj => by
  rw [List.length_map] at hj
  rw [List.getD_eq_getElem?_getD, List.getElem?_map, List.getElem?_eq_getElem hj]
  exact Nat.le_trans (rwS_small (hok _ (List.getElem_mem hj))) (by decide)
theorem bcall {a w w' : World} {B : Nat} (h : Below B a w) (hb : Below w.heap.size w w') (hB : B ≤ w.heap.size) : Below B a w' := h.trans (hb.mono hB)
set_option maxRecDepth 100000 in
set_option maxHeartbeats 2000000 in
theorem leaves18_any (rs : List Rw) (a0 : Option Addr) (cap : Nat) (w : World) (hT : RwAt w a0 rs) (hm : rs.length ≤ 100000) (hok : ∀ r ∈ rs, Ix.rwOk r) :
    Calls Tryz.prog 101 #[.agg #[.slice a0 rs.length cap]] w fun e w' => ∃ a c, e = .returned (.slice a rs.length c) ∧ OwnT w.heap.size w' a c (rs.map Ix.rwS) ∧ Below w.heap.size w w' := by
  obtain ⟨w1, hw1⟩ : ∃ w1, w1 = w.alloc (.cells #[.slice a0 rs.length cap] 25) := ⟨_, rfl⟩
  have hb1 : Below w.heap.size w w1 := by rw [hw1]; exact (Below.refl _ _).alloc (Nat.le_refl _) _
  have hg1 : w1.heap[w.heap.size]? = some (.cells #[.slice a0 rs.length cap] 25 (0, 0)) := by rw [hw1]; exact heap_alloc_new _ _
  have c0 : w1.cell? ⟨w.heap.size, 0, none⟩ = some (.slice a0 rs.length cap) := by rw [cell_of_row _ _ _ _ _ _ hg1]; rfl
  obtain ⟨n, hn⟩ : ∃ n, n = rs.length := ⟨_, rfl⟩
  rw [← hn] at hm hw1 c0 ⊢
  have HT := Lib.hid (And.intro hT (And.intro hn (And.intro hb1 hok)))
  clear hT hn hb1 hok hg1
  go_enter Tryz.func101, Tryz.ntmps101
  go_upto_region 1 with fail
  rw [← hw1]
  clear hw1
  go_wp2_with fail
  clear c0
  go_loopw [3, 5, 6, 7, 11] (fun v _ _ _ c wr => ∃ (i : Nat) (a : Option Addr) (cp : Nat), i ≤ n ∧ v = .slice a i cp ∧ c = .int .i64 i ∧ OwnT w.heap.size wr a cp ((rs.take i).map Ix.rwS) ∧ Below w.heap.size w wr) (fun _ _ _ _ c _ => n - (intOf c).toNat)
  case atStart => exact ⟨0, none, 0, by omega, rfl, rfl, OwnT.nil _ _, HT.out.2.2.1⟩
  case round =>
    obtain ⟨i, a, cp, hi, rfl, rfl, hO, hb⟩ := hrel
    by_cases hlt : i < n
    · obtain ⟨r, hr⟩ : ∃ r, rs[i]? = some r := ⟨rs[i]'(by have := HT.out.2.1; omega), List.getElem?_eq_getElem (by have := HT.out.2.1; omega)⟩
      obtain ⟨b, off, rfl, hbl, hc0, hc1, hc2⟩ := (HT.out.1.below hb) i r hr
      have hnx : (rs.take (i + 1)).map Ix.rwS = (rs.take i).map Ix.rwS ++ [Ix.rwS r] := by
        rw [List.take_add_one, hr, List.map_append]; rfl
      have hln : ((rs.take i).map Ix.rwS).length = i := by rw [List.length_map, List.length_take]; have := HT.out.2.1; omega
      have hrl := fun W => rowText_any r (HT.out.2.2.2 r (List.mem_of_getElem? hr)) W
      obtain ⟨D, hD⟩ : ∃ D, D = Ix.rwS r := ⟨_, rfl⟩
      rw [← hD] at hrl hnx
      obtain ⟨w3, hw3⟩ : ∃ w3, w3 = wr.alloc (.cells (rwCs r) 41) := ⟨_, rfl⟩
      have hb3 : Below wr.heap.size wr w3 := by rw [hw3]; exact (Below.refl _ _).alloc (Nat.le_refl _) _
      have hg3 : w3.heap[wr.heap.size]? = some (.cells (rwCs r) 41 (0, 0)) := by rw [hw3]; exact heap_alloc_new _ _
      obtain ⟨e0, e1, e2⟩ := row3 hg3
      have HC := Lib.hid (And.intro (hO.call hb3) (And.intro (hb.trans (hb3.mono hb.size)) (And.intro hnx (And.intro hln (hrl w3)))))
      clear hO hb hnx hln hrl hr hbl hb3 hg3 hD
      obtain ⟨x, y, z⟩ := r
      unfold rwCs at hw3 HC
      simp only at hw3 hc0 hc1 hc2 e0 e1 e2
      go_upto_region 5 with fail
      rw [← hw3]
      clear hw3 hc0 hc1 hc2
      go_wp2_with fail
      refine HC.out.2.2.2.2.mono ?_
      rintro e w4 ⟨rfl, hb4⟩
      have F4 := HC.out.2.1.trans (hb4.mono HC.out.2.1.size)
      have H4 := Lib.hid (And.intro (OwnT.alloc (OwnT.call HC.out.1 hb4) (.cells #[.string D] 9)) (F4.alloc F4.size (.cells #[.string D] 9)))
      clear hb4 F4 e0 e1 e2
      go_wp2_with (at_builtin; (refine wpList_append_texts rfl (.tmp 20) (.tmp 22) rfl H4.out.1 _ HC.out.2.2.2.1 rfl _ _ 1 [D] rfl rfl (texts_one w4 D) (by omega) H4.out.2.size H4.out.2 ?_; intro ad cp w5 ho hb; have HD := Lib.hid (And.intro ho hb); clear ho hb))
      go_roundw
      case rel => exact ⟨i + 1, ad, cp, by omega, rfl, by go_num, by rw [HC.out.2.2.1]; exact HD.out.1, HD.out.2⟩
      case measure => simp [intOf]; omega
    · obtain rfl : i = n := by omega
      have H := Lib.hid (And.intro hO hb)
      clear hO hb
      go_wp2_with fail
      go_ret
      refine ⟨a, cp, rfl, ?_, H.out.2⟩
      have := H.out.1
      rwa [List.take_of_length_le (by have := HT.out.2.1; omega)] at this
set_option maxRecDepth 100000 in
set_option maxHeartbeats 2000000 in
theorem digests18_any (rs : List Rw) (a0 : Option Addr) (cap : Nat) (w : World) (hG : Glob w) (hT : RwAt w a0 rs) (hm : rs.length ≤ 100000) (hok : ∀ r ∈ rs, Ix.rwOk r) :
    Calls Tryz.prog 63 #[.agg #[.slice a0 rs.length cap]] w fun e w' => ∃ a c, e = .returned (.slice a rs.length c) ∧ OwnT w.heap.size w' a c (Ix.lvs rs) ∧ Below w.heap.size w w' := by
  obtain ⟨w1, hw1⟩ : ∃ w1, w1 = w.alloc (.cells #[.slice a0 rs.length cap] 25) := ⟨_, rfl⟩
  have hb1 : Below w.heap.size w w1 := by rw [hw1]; exact (Below.refl _ _).alloc (Nat.le_refl _) _
  have hg1 : w1.heap[w.heap.size]? = some (.cells #[.slice a0 rs.length cap] 25 (0, 0)) := by rw [hw1]; exact heap_alloc_new _ _
  have c0 : w1.cell? ⟨w.heap.size, 0, none⟩ = some (.slice a0 rs.length cap) := by rw [cell_of_row _ _ _ _ _ _ hg1]; rfl
  have hlv := leaves18_any rs a0 cap w1 (hT.below hb1) hm hok
  obtain ⟨L, hL⟩ : ∃ L, L = rs.map Ix.rwS := ⟨_, rfl⟩
  have hLl : L.length = rs.length := by rw [hL, List.length_map]
  have hLs : ∀ s ∈ L, s.size ≤ 100000 := fun s hs => by
    rw [hL] at hs
    obtain ⟨r, hr, rfl⟩ := List.mem_map.1 hs
    exact Nat.le_trans (rwS_small (hok r hr)) (by decide)
  have hLv : Ix.lvs rs = L.map Tr.leaf := by rw [hL]; unfold Ix.lvs; rw [List.map_map]; rfl
  rw [← hL] at hlv
  rw [hLv]
  obtain ⟨n, hn⟩ : ∃ n, n = rs.length := ⟨_, rfl⟩
  rw [← hn] at hm hw1 c0 hlv hLl ⊢
  have HT := Lib.hid (And.intro hG (And.intro hLl (And.intro hb1 (And.intro hLs hlv))))
  clear hG hT hn hb1 hok hg1 hL hLl hLs hLv hlv
  go_enter Tryz.func63, Tryz.ntmps63
  go_upto_region 1 with fail
  rw [← hw1]
  clear hw1
  go_wp2_with fail
  refine HT.out.2.2.2.2.mono ?_
  rintro e w2 ⟨al, cl, rfl, hol, hbl2⟩
  have HL := Lib.hid (And.intro (OwnT.texts hol) (HT.out.2.2.1.trans (hbl2.mono HT.out.2.2.1.size)))
  clear hol hbl2 c0
  go_wp2_with fail
  go_loopw [3, 5, 9] (fun v _ c wr => ∃ (i : Nat) (a : Option Addr) (cp : Nat), i ≤ n ∧ v = .slice a i cp ∧ c = .int .i64 i ∧ OwnT w2.heap.size wr a cp ((L.take i).map Tr.leaf) ∧ Below w2.heap.size w2 wr) (fun _ _ c _ => n - (intOf c).toNat)
  case atStart => exact ⟨0, none, 0, by omega, rfl, rfl, OwnT.nil _ _, Below.refl _ _⟩
  case round =>
    obtain ⟨i, a, cp, hi, rfl, rfl, hO, hb⟩ := hrel
    by_cases hlt : i < n
    · obtain ⟨b, off, rfl, hbl, hc0⟩ := (HL.out.1.below hb) i (by have := HT.out.2.1; omega)
      obtain ⟨s, hse⟩ : ∃ s, s = L.getD i ByteArray.empty := ⟨_, rfl⟩
      have hs : L[i]? = some s := by rw [hse]; exact tgetD_at (by have := HT.out.2.1; omega)
      rw [← hse] at hc0
      have hnx : (L.take (i + 1)).map Tr.leaf = (L.take i).map Tr.leaf ++ [Tr.leaf s] := by
        rw [List.take_add_one, hs, List.map_append]; rfl
      have hln : ((L.take i).map Tr.leaf).length = i := by rw [List.length_map, List.length_take]; have := HT.out.2.1; omega
      have hlf := leaf_any s (HT.out.2.2.2.1 s (List.mem_of_getElem? hs)) wr (HT.out.1.below (HL.out.2.trans (hb.mono HL.out.2.size)))
      obtain ⟨D, hD⟩ : ∃ D, D = Tr.leaf s := ⟨_, rfl⟩
      rw [← hD] at hlf hnx
      have HC := Lib.hid (And.intro hO (And.intro hb (And.intro hnx (And.intro hln hlf))))
      clear hO hb hnx hln hlf hse hs hD hbl
      go_wp2_with fail
      refine HC.out.2.2.2.2.mono ?_
      rintro e w4 ⟨rfl, hb4⟩
      have F4 := HC.out.2.1.trans (hb4.mono HC.out.2.1.size)
      have H4 := Lib.hid (And.intro (OwnT.alloc (OwnT.call HC.out.1 hb4) (.cells #[.string D] 9)) (F4.alloc F4.size (.cells #[.string D] 9)))
      clear hb4 F4 hc0
      go_wp2_with (at_builtin; (refine wpList_append_texts rfl (.tmp 13) (.tmp 16) rfl H4.out.1 _ HC.out.2.2.2.1 rfl _ _ 1 [D] rfl rfl (texts_one w4 D) (by omega) H4.out.2.size H4.out.2 ?_; intro ad cp w5 ho hb; have HD := Lib.hid (And.intro ho hb); clear ho hb))
      go_roundw
      case rel => exact ⟨i + 1, ad, cp, by omega, rfl, by go_num, by rw [HC.out.2.2.1]; exact HD.out.1, HD.out.2⟩
      case measure => simp [intOf]; omega
    · obtain rfl : i = n := by omega
      have H := Lib.hid (And.intro hO hb)
      clear hO hb
      go_wp2_with fail
      go_ret
      refine ⟨a, cp, rfl, ?_, HL.out.2.trans (H.out.2.mono HL.out.2.size)⟩
      have := H.out.1.mono HL.out.2.size
      rwa [List.take_of_length_le (by have := HT.out.2.1; omega)] at this
set_option maxRecDepth 100000 in
set_option maxHeartbeats 4000000 in
theorem rootTextX_any (rs : List Rw) (a0 : Option Addr) (cap : Nat) (w : World) (hG : Glob w) (hT : RwAt w a0 rs) (hm : rs.length ≤ 100000) (hok : ∀ r ∈ rs, Ix.rwOk r) :
    Calls Tryz.prog 73 #[.agg #[.slice a0 rs.length cap]] w fun e w' => e = .returned (.string (Ix.rtT rs)) ∧ Below w.heap.size w w' := by
  obtain ⟨w1, hw1⟩ : ∃ w1, w1 = w.alloc (.cells #[.slice a0 rs.length cap] 25) := ⟨_, rfl⟩
  have hb1 : Below w.heap.size w w1 := by rw [hw1]; exact (Below.refl _ _).alloc (Nat.le_refl _) _
  have hg1 : w1.heap[w.heap.size]? = some (.cells #[.slice a0 rs.length cap] 25 (0, 0)) := by rw [hw1]; exact heap_alloc_new _ _
  have c0 : w1.cell? ⟨w.heap.size, 0, none⟩ = some (.slice a0 rs.length cap) := by rw [cell_of_row _ _ _ _ _ _ hg1]; rfl
  have hdg := fun (W : World) (hb : Below w.heap.size w W) => digests18_any rs a0 cap W (hG.below hb) (hT.below hb) hm hok
  have hrt := fun (W : World) (a : Option Addr) (c : Nat) (hb : Below w.heap.size w W) (h : TextsAt W a (Ix.lvs rs)) (h1 : (Ix.lvs rs).length ≤ c) (h2 : c ≤ maxLen) => root_any rs.length (Ix.lvs rs) (Ix.lvs_length rs) (by omega) (Ix.lvs_digs rs) a c W (hG.below hb) h h1 h2
  have htx := fun W : World => rootText_any rs.length (Tr.root (Ix.lvs rs)) (by omega) (by omega) (by rw [Ix.root_32 (Ix.lvs_digs rs)]; decide) W
  rw [show Ix.topS (rs.length : Int) (Tr.root (Ix.lvs rs)) = Ix.rtT rs from rfl] at htx
  have hcl := Ix.lvs_length rs
  obtain ⟨LV, hLV⟩ : ∃ LV, LV = Ix.lvs rs := ⟨_, rfl⟩
  obtain ⟨RT, hRT⟩ : ∃ RT, RT = Tr.root LV := ⟨_, rfl⟩
  obtain ⟨TT, hTT⟩ : ∃ TT, TT = Ix.rtT rs := ⟨_, rfl⟩
  obtain ⟨n, hn⟩ : ∃ n, n = rs.length := ⟨_, rfl⟩
  rw [← hLV] at hdg hrt htx hcl
  rw [← hRT] at hrt htx
  rw [← hTT] at htx ⊢
  rw [hcl] at hrt
  rw [← hn] at hm hw1 c0 hg1 hdg hrt htx hcl ⊢
  have H := Lib.hid (And.intro hb1 (And.intro hg1 (And.intro hdg (And.intro hrt (And.intro htx hcl)))))
  clear hG hT hok hb1 hg1 hdg hrt htx hcl hLV hRT hTT hn c0
  go_enter Tryz.func73, Tryz.ntmps73
  go_upto_region 1 with fail
  rw [← hw1]
  clear hw1
  go_wp2_with fail
  refine wp_region_held (S := fun W : World => W.heap[w.heap.size]? = some (.cells #[.slice a0 n cap] 25 (0, 0))) (by kernel_rfl) ?_
  change wpAnyH _ _ _ _ _ _ _ _ (World.drew _)
  generalize hv0 : World.drew _ = v0
  have E0 : v0.heap[w.heap.size]? = some (.cells #[.slice a0 n cap] 25 (0, 0)) := by rw [← hv0]; exact (show w1.drew.heap[w.heap.size]? = _ from H.out.2.1)
  have F0 : Below w.heap.size w v0 := by rw [← hv0]; exact H.out.1.drew
  clear hv0
  refine wpAnyH_take (i := 0) (v := ?_) rfl (by kernel_rfl) (by kernel_rfl) (by kernel_rfl) (fun _ _ _ h => h) (Or.inl ⟨by kernel_rfl, ?_⟩) E0 ?_
  rotate_left
  · (intro W hS; have k0 : W.cell? ⟨w.heap.size, 0, none⟩ = some (.slice a0 n cap) := (by rw [cell_of_row _ _ _ _ _ _ hS]; rfl); go_simp; try (with_reducible rfl))
  refine wpAnyH_take (i := 1) (v := ?_) rfl (by kernel_rfl) (by kernel_rfl) (by kernel_rfl) (fun _ _ _ h => h) (Or.inl ⟨by kernel_rfl, ?_⟩) E0 ?_
  rotate_left
  · (intro W hS; have k0 : W.cell? ⟨w.heap.size, 0, none⟩ = some (.slice a0 n cap) := (by rw [cell_of_row _ _ _ _ _ _ hS]; rfl); go_simp; try (with_reducible rfl))
  refine wpAnyH_take (i := 2) (v := ?_) rfl (by kernel_rfl) (by kernel_rfl) (by kernel_rfl) (fun _ _ _ h => h) (Or.inl ⟨by kernel_rfl, ?_⟩) E0 ?_
  rotate_left
  · (intro W hS; have k0 : W.cell? ⟨w.heap.size, 0, none⟩ = some (.slice a0 n cap) := (by rw [cell_of_row _ _ _ _ _ _ hS]; rfl); go_simp; try (with_reducible rfl))
  refine wpAnyH_take (i := 3) (v := ?_) rfl (by kernel_rfl) (by kernel_rfl) (by kernel_rfl) (fun _ _ _ h => h) (Or.inl ⟨by kernel_rfl, ?_⟩) E0 ?_
  rotate_left
  · (intro W hS; have k0 : W.cell? ⟨w.heap.size, 0, none⟩ = some (.slice a0 n cap) := (by rw [cell_of_row _ _ _ _ _ _ hS]; rfl); go_simp; try (with_reducible rfl))
  refine wpAnyH_ready (rs := [4]) (by kernel_rfl) (by simp) ?_
  refine AllReadyH.cons rfl (fun K hK => ?_) AllReadyH.nil
  go_simp
  refine (H.out.2.2.1 v0 F0).mono ?_
  rintro e v1 ⟨a2, c2, rfl, ho, hb⟩
  have F1 := F0.trans (hb.mono F0.size)
  have E1 : v1.heap[w.heap.size]? = some (.cells #[.slice a0 n cap] 25 (0, 0)) := (hb.block _ (lt_of_heap E0)).trans E0
  have ht := OwnT.texts ho
  have hcy := ho.capy
  clear ho
  refine hK.out _ _ E1 (fun _ => ?_)
  clear hK K hb
  refine wpAnyH_ready (rs := [5]) (by kernel_rfl) (by simp) ?_
  refine AllReadyH.cons rfl (fun K hK => ?_) AllReadyH.nil
  go_simp
  refine (H.out.2.2.2.1 v1 a2 c2 F1 ht (by have := hcy.1; have := H.out.2.2.2.2.2; omega) hcy.2).mono ?_
  rintro e v2 ⟨rfl, hb⟩
  have F2 := F1.trans (hb.mono F1.size)
  have E2 : v2.heap[w.heap.size]? = some (.cells #[.slice a0 n cap] 25 (0, 0)) := (hb.block _ (lt_of_heap E1)).trans E1
  refine hK.out _ _ E2 (fun _ => ?_)
  clear hK K hb
  refine wpAnyH_ready (rs := [6]) (by kernel_rfl) (by simp) ?_
  refine AllReadyH.cons rfl (fun K hK => ?_) AllReadyH.nil
  go_simp
  refine (H.out.2.2.2.2.1 v2).mono ?_
  rintro e v3 ⟨rfl, hb⟩
  have F3 := F2.trans (hb.mono F2.size)
  have E3 : v3.heap[w.heap.size]? = some (.cells #[.slice a0 n cap] 25 (0, 0)) := (hb.block _ (lt_of_heap E2)).trans E2
  refine hK.out _ _ E3 (fun _ => ?_)
  clear hK K hb
  refine wpAnyH_take (i := 7) (v := ?_) rfl (by kernel_rfl) (by kernel_rfl) (by kernel_rfl) (fun _ _ _ h => h) (Or.inl ⟨by kernel_rfl, ?_⟩) E3 ?_
  rotate_left
  · (intro W hS; have k0 : W.cell? ⟨w.heap.size, 0, none⟩ = some (.slice a0 n cap) := (by rw [cell_of_row _ _ _ _ _ _ hS]; rfl); go_simp; try (with_reducible rfl))
  refine wpAnyH_done (by kernel_rfl) ?_ _
  go_simp
  have HB := Lib.hid F3
  clear E0 F0 E1 F1 E2 F2 E3 F3 ht hcy
  go_wp2_with fail
  go_ret
  exact ⟨rfl, HB.out⟩
set_option maxRecDepth 100000 in
set_option maxHeartbeats 4000000 in
theorem root18_any (rs : List Rw) (a0 : Option Addr) (cap : Nat) (w : World) (hG : Glob w) (hT : RwAt w a0 rs) (hm : rs.length ≤ 100000) (hok : ∀ r ∈ rs, Ix.rwOk r) :
    Calls Tryz.prog 20 #[.agg #[.slice a0 rs.length cap]] w fun e w' => e = .returned (.string (Ix.rtI rs)) ∧ Below w.heap.size w w' := by
  obtain ⟨w1, hw1⟩ : ∃ w1, w1 = w.alloc (.cells #[.slice a0 rs.length cap] 25) := ⟨_, rfl⟩
  have hb1 : Below w.heap.size w w1 := by rw [hw1]; exact (Below.refl _ _).alloc (Nat.le_refl _) _
  have hg1 : w1.heap[w.heap.size]? = some (.cells #[.slice a0 rs.length cap] 25 (0, 0)) := by rw [hw1]; exact heap_alloc_new _ _
  have c0 : w1.cell? ⟨w.heap.size, 0, none⟩ = some (.slice a0 rs.length cap) := by rw [cell_of_row _ _ _ _ _ _ hg1]; rfl
  have hrt := rootTextX_any rs a0 cap w1 (hG.below hb1) (hT.below hb1) hm hok
  have hsm := fun (W : World) (hb : Below w.heap.size w W) => dsum_any (Ix.rtT rs) (by unfold Ix.rtT Ix.topS; rw [str_size]; exact Nat.lt_of_le_of_lt (Ix.topT_len (by omega) (by rw [Ix.root_32 (Ix.lvs_digs rs)]; decide)) (by decide)) W (hG.below hb)
  rw [show str (sha (Ix.rtT rs).data.toList) = Ix.rtI rs from rfl] at hsm
  obtain ⟨TT, hTT⟩ : ∃ TT, TT = Ix.rtT rs := ⟨_, rfl⟩
  obtain ⟨R, hR⟩ : ∃ R, R = Ix.rtI rs := ⟨_, rfl⟩
  obtain ⟨n, hn⟩ : ∃ n, n = rs.length := ⟨_, rfl⟩
  rw [← hTT] at hrt hsm
  rw [← hR] at hsm ⊢
  rw [← hn] at hm hw1 c0 hrt ⊢
  have H := Lib.hid (And.intro hb1 (And.intro hrt hsm))
  clear hG hT hok hb1 hg1 hrt hsm hTT hR hn
  go_enter Tryz.func20, Tryz.ntmps20
  go_upto_region 1 with fail
  rw [← hw1]
  clear hw1
  go_wp2_with fail
  refine H.out.2.1.mono ?_
  rintro e w2 ⟨rfl, hb2⟩
  have H2 := Lib.hid (bcall H.out.1 hb2 H.out.1.size)
  clear hb2 c0
  go_wp2_with fail
  refine (H.out.2.2 _ H2.out).mono ?_
  rintro e w3 ⟨rfl, hb3⟩
  have H3 := Lib.hid (bcall H2.out hb3 H2.out.size)
  clear hb3
  go_wp2_with fail
  go_ret
  exact ⟨rfl, H3.out⟩
end Go.Proofs.YtdfkpjmljaanpaaGreatDoor
