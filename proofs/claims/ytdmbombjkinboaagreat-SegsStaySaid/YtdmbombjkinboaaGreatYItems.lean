/- Own rows of items without lists, and of segments: append of one. -/
import Derived.Test.YtdmbombjkinboaaGreatYTurn
import Derived.Test.YtdmbombjkinboaaGreatMC4
namespace Go.Proofs.YtdmbombjkinboaaGreat
open Go.RowKit
open Dk Sg

/-- Items that bear no list. -/
def numIt (n : Nat) : It := .mk 1 n ⟨#[]⟩ none 0 []
def txtIt (s : ByteArray) : It := .mk 2 0 s none 0 []
def Leaf (x : It) : Prop := x.a = none ∧ x.cap = 0 ∧ x.l = [] ∧ x.s.size ≤ 65536
theorem numIt_leaf (n : Nat) : Leaf (numIt n) := ⟨rfl, rfl, rfl, Nat.zero_le _⟩
theorem txtIt_leaf {s : ByteArray} (h : s.size ≤ 65536) : Leaf (txtIt s) := ⟨rfl, rfl, rfl, h⟩
theorem numIt_pure (n : Nat) : (numIt n).pure = numP n := rfl
theorem txtIt_pure (s : ByteArray) : (txtIt s).pure = txtP s := rfl
theorem Leaf.in_ {x : It} (h : Leaf x) (w : World) (T : Nat → Prop) : x.In w T := by
  rw [It.in_eq]
  obtain ⟨h1, h2, h3, h4⟩ := h
  rw [h3]
  exact ⟨by unfold maxLen; omega, ⟨Nat.zero_le _, fun k => absurd rfl k⟩, trivial⟩
theorem leaf_all {l : List It} (h : ∀ x ∈ l, Leaf x) (w : World) (T : Nat → Prop) : It.InAll w T l := It.inAll_of fun x hx => (h x hx).in_ w T
theorem leaf_sz : ∀ {l : List It}, (∀ x ∈ l, Leaf x) → It.szAll l = l.length
  | [], _ => rfl
  | x :: l, h => by
    have h1 := leaf_sz (l := l) fun y hy => h y (List.mem_cons_of_mem _ hy)
    have h2 := (h x (List.mem_cons_self ..)).2.2.1
    rw [It.szAll, It.sz_eq, h2, h1, List.length_cons]
    show 1 + It.szAll [] + _ = _
    have : It.szAll [] = 0 := rfl
    omega
/-- A row of items that the call made itself. -/
def OwnI (B : Nat) (w : World) (a : Option Addr) (cap : Nat) (l : List It) : Prop := w.ownsRow B 115 4 (.slice a l.length cap) l.length (flat l)
theorem OwnI.call {B : Nat} {w w' : World} {a : Option Addr} {cap : Nat} {l : List It} (h : OwnI B w a cap l) (hb : Below w.heap.size w w') : OwnI B w' a cap l := ownsRow_below h hb
theorem OwnI.lies {B : Nat} {w : World} {a : Option Addr} {cap : Nat} {l : List It} (h : OwnI B w a cap l) (hl : l.length ≤ 1000000) : Lies w (B ≤ ·) a l := by
  refine ⟨by unfold maxLen; omega, fun hne => ?_⟩
  rcases h.2 with ⟨e, hn⟩ | ⟨g, c, cur, e, hB, hg, hn, hc, hs, ht⟩
  · exact absurd (List.length_eq_zero_iff.1 hn) hne
  · injection e with e1 e2 e3
    subst e1 e3
    refine ⟨g, 0, rfl, (World.ownsRow.lt h g rfl).2, hB, fun j x hx => ?_⟩
    have hj : j < l.length := (List.getElem?_eq_some_iff.1 hx).1
    have h0 := World.ownsRow.cellAt h (j * 4) (by omega)
    have h1 := World.ownsRow.cellAt h (j * 4 + 1) (by omega)
    have h2 := World.ownsRow.cellAt h (j * 4 + 2) (by omega)
    have h3 := World.ownsRow.cellAt h (j * 4 + 3) (by omega)
    rw [show j * 4 = j * 4 + 0 from rfl, flat_get l j x 0 hx (by decide)] at h0
    rw [flat_get l j x 1 hx (by decide)] at h1
    rw [flat_get l j x 2 hx (by decide)] at h2
    rw [flat_get l j x 3 hx (by decide)] at h3
    simp only [Nat.zero_add]
    exact ⟨h0, h1, h2, h3⟩
/-- append of one item. -/
theorem wpList_append_item {ops : Array Oper} {rest : List Oper} {o : Oper} {act : Act} {Q : Exit → Act → World → Prop} {w : World} (hgd : o.guard = none) (s x : Operand)
    (ho : o.op = .call { callee := .builtin .append, args := #[s, x], argTypes := #[113, 113] })
    {B : Nat} {a : Option Addr} {cap0 : Nat} {l : List It} (hown : OwnI B w a cap0 l) (n : Nat) (hn : l.length = n) (hs : act.eval s = .slice a n cap0)
    (g c' : Nat) (c : It) (hc4 : ∀ v ∈ c.cells.toList, v.oneCell' = true) (hx : act.eval x = .slice (some ⟨g, 0, none⟩) 1 c') (hc : w.heap[g]? = some (.cells c.cells 115 (0, 0)))
    (hlen : n < 1000000) (hbase : B ≤ w.heap.size)
    (h : ∀ g cap w', OwnI B w' (some ⟨g, 0, none⟩) cap (l ++ [c]) → w.grownBy w' (Value.slice a l.length cap0).ownBlock → wpList Tryz.prog ops Q rest (act.put o.dst (.slice (some ⟨g, 0, none⟩) (n + 1) cap)) w') : wpList Tryz.prog ops Q (o :: rest) act w := by
  subst hn
  obtain ⟨i0, hi0, hz0, hz1, hz2⟩ := info_parts info24
  refine wpList_append_lies w hgd s x 113 ho B 115 i0 _ 4 56 Tryz.underlying113 hi0 hz0 hz1 hz2 rfl (by decide) (.slice a l.length cap0) l.length (flat l) hs hown ⟨g, 0, none⟩ 1 c' c.cells.toList hx (by simp [It.cells])
    (fun j u hj => ?_) hc4 (by decide) (by unfold maxLen; omega) (by omega) hbase w.heap.size rfl (fun g cap w' h1 h2 _ _ => h g cap w' ?_ h2)
  · rw [show (⟨g, 0, none⟩ : Addr).add j = ⟨g, j, none⟩ by unfold Addr.add; split <;> simp_all, cell_of_row _ _ _ _ _ _ hc]
    simpa using hj
  · unfold OwnI
    rw [flat_append, List.length_append]
    simpa [flat] using h1
theorem Tryz.info_seg : (Tryz.prog.info? 86).map (fun i => (i.zero, i.size, i.bytes)) = some (some (.agg #[.int .i64 0, .int .i64 0]), 2, 16) := by kernel_rfl
/-- append of one segment. -/
theorem wpList_append_seg {ops : Array Oper} {rest : List Oper} {o : Oper} {act : Act} {Q : Exit → Act → World → Prop} {w : World} (hgd : o.guard = none) (s x : Operand)
    (ho : o.op = .call { callee := .builtin .append, args := #[s, x], argTypes := #[67, 67] })
    {a : Option Addr} {cap0 : Nat} {l : List (Nat × Nat)} (hown : OwnG w a cap0 l) (n : Nat) (hn : l.length = n) (hs : act.eval s = .slice a n cap0)
    (g c' : Nat) (c : Nat × Nat) (hx : act.eval x = .slice (some ⟨g, 0, none⟩) 1 c') (hc : w.heap[g]? = some (.cells #[.int .i64 (c.1 : Int), .int .i64 (c.2 : Int)] 86 (0, 0)))
    (hlen : n < 1000000)
    (h : ∀ g cap w', OwnG w' (some ⟨g, 0, none⟩) cap (l ++ [c]) → w.grownBy w' (Value.slice a l.length cap0).ownBlock → ((Value.slice a l.length cap0).ownBlock = some g ∨ g = w.heap.size) → wpList Tryz.prog ops Q rest (act.put o.dst (.slice (some ⟨g, 0, none⟩) (n + 1) cap)) w') : wpList Tryz.prog ops Q (o :: rest) act w := by
  subst hn
  obtain ⟨i0, hi0, hz0, hz1, hz2⟩ := info_parts Tryz.info_seg
  refine wpList_append_lies w hgd s x 67 ho 0 86 i0 _ 2 16 Tryz.underlying67 hi0 hz0 hz1 hz2 rfl (by decide) (.slice a l.length cap0) l.length (segCells l) hs hown ⟨g, 0, none⟩ 1 c' [.int .i64 (c.1 : Int), .int .i64 (c.2 : Int)] hx rfl
    (fun j u hj => ?_) (by simp [Value.oneCell']) (by decide) (by unfold maxLen; omega) (by omega) (Nat.zero_le _) w.heap.size rfl (fun g cap w' h1 h2 h3 _ => h g cap w' ?_ h2 h3)
  · rw [show (⟨g, 0, none⟩ : Addr).add j = ⟨g, j, none⟩ by unfold Addr.add; split <;> simp_all, cell_of_row _ _ _ _ _ _ hc]
    simpa using hj
  · unfold OwnG
    rw [segCells_snoc, List.length_append]; exact h1
section
variable {P : Program} (w : World)
/-- append onto a slice that the call owns: the old slice's own row stands, too. -/
theorem run_append_old (t ty : TypeId) (base : Nat) (e : TypeId) (i : TypeInfo) (z : Value) (size bytes : Nat) (ht : P.underlying t = some (.slice e)) (hi : P.info? e = some i) (hz : i.zero = some z)
    (hsize : i.size = size) (hby : i.bytes = bytes) (hzs : z.cells.size = size) (hsz : 0 < size)
    (v : Value) (n : Nat) (xs : List Value) (hown : w.ownsRow base e size v n xs)
    (ad : Addr) (m c : Nat) (news : List Value) (hl : news.length = m * size) (hnews : ∀ j u, news[j]? = some u → w.cell? (ad.add j) = some u) (h1 : ∀ u ∈ news, u.oneCell' = true)
    (hm : 0 < m) (h63 : n + m ≤ maxLen) (hbytes : (n + m) * bytes ≤ 140737488355328) (hbase : base ≤ w.heap.size) (H : Nat) (hH : w.heap.size = H) :
    ∃ g cap w', (Builtin.append_ #[t, t] ty #[v, .slice (some ad) m c]).run P w = .ok (.slice (some ⟨g, 0, none⟩) (n + m) cap) w' ∧
      w'.ownsRow base e size (.slice (some ⟨g, 0, none⟩) (n + m) cap) (n + m) (xs ++ news) ∧ w.grownBy w' v.ownBlock ∧ (v.ownBlock = some g ∨ g = H) ∧ w'.ownsRow base e size v n xs := by
  obtain ⟨g, cap, w', hr, h2, h3, h4, h5⟩ := run_append_lies (P := P) w t ty base e i z size bytes ht hi hz hsize hby hzs hsz v n xs hown ad m c news hl hnews h1 hm h63 hbytes hbase H hH
  refine ⟨g, cap, w', hr, h2, h3, h4, hown.1, ?_⟩
  rcases hown.2 with ⟨rfl, hn⟩ | ⟨g1, cap1, cur, rfl, hbg, hg, hnc, hcm, hcs, htake⟩
  · exact .inl ⟨rfl, hn⟩
  · right
    have holds : ∀ j u, xs[j]? = some u → w.cell? ((⟨g1, 0, none⟩ : Addr).add j) = some u := hown.cells (g := g1) rfl
    by_cases hroom : n + m ≤ cap1
    · have hr' := run_append_room (P := P) w t ty e i ht hi g1 n cap1 cur hg ad m c news (by rw [hsize]; exact hl) hnews h1 hroom (by
        rw [hsize, hl, hcs, ← Nat.add_mul]; exact Nat.mul_le_mul_right _ hroom)
      rw [hr] at hr'
      injection hr' with e1 e2
      injection e1 with e3 e6 e7
      injection e3 with e4
      injection e4 with e5
      subst e5 e7
      rcases h2.2 with ⟨k, _⟩ | ⟨g2, cap2, cur2, k, hb2, hg2, hn2, hc2, hs2, ht2⟩
      · cases k
      · injection k with k1 _ k3
        injection k1 with k1
        injection k1 with k1
        subst k1 k3
        refine ⟨g, cap, cur2, rfl, hb2, hg2, hnc, hcm, hs2, ?_⟩
        have hx : xs.length = n * size := hown.1
        have := congrArg (List.take (n * size)) ht2
        rw [List.take_take, Nat.min_eq_left (Nat.mul_le_mul_right _ (by omega)), ← hx, List.take_left] at this
        rw [← hx]; exact this
    · have hr' := run_append_grow (P := P) w t ty e i z ht hi hz ⟨g1, 0, none⟩ n cap1 xs (by rw [hsize]; exact hown.1) holds ad m c news (by rw [hsize]; exact hl) hnews (by omega) (by simp only [maxLen] at h63; omega) (growslice_fits (by omega) (by rw [hby]; exact hbytes))
      rw [hr] at hr'
      injection hr' with e1 e2
      refine ⟨g1, cap1, cur, rfl, hbg, ?_, hnc, hcm, hcs, htake⟩
      rw [e2, Lib.alloc_old w.drew _ _ (Array.getElem?_eq_some_iff.1 hg).1]
      exact hg
theorem step_append_old {ops : Array Oper} {o : Oper} {a : Act} {K : Act → World → Prop} {Q : Exit → Act → World → Prop} {E : Prop} (hgd : o.guard = none) (s x : Operand) (t : TypeId)
    (ho : o.op = .call { callee := .builtin .append, args := #[s, x], argTypes := #[t, t] })
    (base : Nat) (e : TypeId) (i : TypeInfo) (z : Value) (size bytes : Nat) (ht : P.underlying t = some (.slice e)) (hi : P.info? e = some i) (hz : i.zero = some z)
    (hsize : i.size = size) (hby : i.bytes = bytes) (hzs : z.cells.size = size) (hsz : 0 < size)
    (v : Value) (n : Nat) (xs : List Value) (hs : a.eval s = v) (hown : w.ownsRow base e size v n xs)
    (ad : Addr) (m c : Nat) (news : List Value) (hx : a.eval x = .slice (some ad) m c) (hl : news.length = m * size) (hnews : ∀ j u, news[j]? = some u → w.cell? (ad.add j) = some u) (h1 : ∀ u ∈ news, u.oneCell' = true)
    (hm : 0 < m) (h63 : n + m ≤ maxLen) (hbytes : (n + m) * bytes ≤ 140737488355328) (hbase : base ≤ w.heap.size) (H : Nat) (hH : w.heap.size = H)
    (h : ∀ g cap w', w'.ownsRow base e size (.slice (some ⟨g, 0, none⟩) (n + m) cap) (n + m) (xs ++ news) → w.grownBy w' v.ownBlock → (v.ownBlock = some g ∨ g = H) → w'.ownsRow base e size v n xs → K (a.put o.dst (.slice (some ⟨g, 0, none⟩) (n + m) cap)) w') :
    if Region.wanted o (yielded ops a.tmps) = true then Oper.wp P o a w K Q else E := by
  have hw : Region.wanted o (yielded ops a.tmps) = true := by simp [Region.wanted, hgd]
  rw [if_pos hw]
  obtain ⟨g, cap, w', hr, h2, h3, h4, h5⟩ := run_append_old (P := P) w t o.type base e i z size bytes ht hi hz hsize hby hzs hsz v n xs hown ad m c news hl hnews h1 hm h63 hbytes hbase H hH
  unfold Oper.wp execOp
  simp only [ho, resolve, invoke, builtin, Sem.run_bind, Sem.run_pure, Result.andThen_ok, List.map_toArray, List.map_cons, List.map_nil, hs, hx, hr]
  exact h g cap w' h2 h3 h4 h5
end
/-- append of one segment, at a step: the old slice's own row stands. -/
theorem step_append_seg {ops : Array Oper} {o : Oper} {act : Act} {K : Act → World → Prop} {Q : Exit → Act → World → Prop} {E : Prop} {w : World} (hgd : o.guard = none) (s x : Operand)
    (ho : o.op = .call { callee := .builtin .append, args := #[s, x], argTypes := #[67, 67] })
    {a : Option Addr} {cap0 : Nat} {l : List (Nat × Nat)} (hown : OwnG w a cap0 l) (n : Nat) (hn : l.length = n) (hs : act.eval s = .slice a n cap0)
    (g c' : Nat) (c : Nat × Nat) (hx : act.eval x = .slice (some ⟨g, 0, none⟩) 1 c') (hc : w.heap[g]? = some (.cells #[.int .i64 (c.1 : Int), .int .i64 (c.2 : Int)] 86 (0, 0)))
    (hlen : n < 1000000)
    (h : ∀ g cap w', OwnG w' (some ⟨g, 0, none⟩) cap (l ++ [c]) → w.grownBy w' (Value.slice a l.length cap0).ownBlock → ((Value.slice a l.length cap0).ownBlock = some g ∨ g = w.heap.size) → OwnG w' a cap0 l → K (act.put o.dst (.slice (some ⟨g, 0, none⟩) (n + 1) cap)) w') :
    if Region.wanted o (yielded ops act.tmps) = true then Oper.wp Tryz.prog o act w K Q else E := by
  subst hn
  obtain ⟨i0, hi0, hz0, hz1, hz2⟩ := info_parts Tryz.info_seg
  refine step_append_old w hgd s x 67 ho 0 86 i0 _ 2 16 Tryz.underlying67 hi0 hz0 hz1 hz2 rfl (by decide) (.slice a l.length cap0) l.length (segCells l) hs hown ⟨g, 0, none⟩ 1 c' [.int .i64 (c.1 : Int), .int .i64 (c.2 : Int)] hx rfl
    (fun j u hj => ?_) (by simp [Value.oneCell']) (by decide) (by unfold maxLen; omega) (by omega) (Nat.zero_le _) w.heap.size rfl (fun g cap w' h1 h2 h3 h4 => h g cap w' ?_ h2 h3 h4)
  · rw [show (⟨g, 0, none⟩ : Addr).add j = ⟨g, j, none⟩ by unfold Addr.add; split <;> simp_all, cell_of_row _ _ _ _ _ _ hc]
    simpa using hj
  · unfold OwnG
    rw [segCells_snoc, List.length_append]; exact h1
end Go.Proofs.YtdmbombjkinboaaGreat
