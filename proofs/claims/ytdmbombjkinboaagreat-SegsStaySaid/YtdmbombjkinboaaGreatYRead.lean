/- segs: rows of segments; what is read of a store: last, fell, Left, mayTurn, free. -/
import Derived.Test.YtdmbombjkinboaaGreatYMem
import Derived.BigQuiet
namespace Go.Proofs.YtdmbombjkinboaaGreat
open Go.RowKit
open Dk Sg

def segCells (l : List (Nat × Nat)) : List Value := l.flatMap fun x => [.int .i64 (x.1 : Int), .int .i64 (x.2 : Int)]
theorem segCells_length : ∀ l : List (Nat × Nat), (segCells l).length = l.length * 2
  | [] => rfl
  | x :: l => by
    have h := segCells_length l
    unfold segCells at h ⊢
    rw [List.flatMap_cons, List.length_append, h, List.length_cons]; simp; omega
theorem segCells_snoc (l : List (Nat × Nat)) (x : Nat × Nat) : segCells (l ++ [x]) = segCells l ++ [.int .i64 (x.1 : Int), .int .i64 (x.2 : Int)] := by
  unfold segCells; simp
theorem segCells_at : ∀ (l : List (Nat × Nat)) (k : Nat) (x : Nat × Nat), l[k]? = some x → (segCells l)[k * 2]? = some (.int .i64 (x.1 : Int)) ∧ (segCells l)[k * 2 + 1]? = some (.int .i64 (x.2 : Int))
  | [], k, x, h => by simp at h
  | y :: l, 0, x, h => by
    simp only [List.getElem?_cons_zero, Option.some.injEq] at h
    subst h
    exact ⟨rfl, rfl⟩
  | y :: l, k + 1, x, h => by
    have ih := segCells_at l k x (by simpa using h)
    have e : segCells (y :: l) = .int .i64 (y.1 : Int) :: .int .i64 (y.2 : Int) :: segCells l := rfl
    rw [e, show (k + 1) * 2 = k * 2 + 1 + 1 by omega, List.getElem?_cons_succ, List.getElem?_cons_succ, List.getElem?_cons_succ]
    exact ⟨ih.1, ih.2⟩
/-- A row of segments that the store owns. -/
def OwnG (w : World) (a : Option Addr) (cap : Nat) (l : List (Nat × Nat)) : Prop := w.ownsRow 0 86 2 (.slice a l.length cap) l.length (segCells l)
theorem OwnG.at {w : World} {a : Option Addr} {cap : Nat} {l : List (Nat × Nat)} (h : OwnG w a cap l) {i : Nat} {x : Nat × Nat} (hx : l[i]? = some x) :
    ∃ g, a = some ⟨g, 0, none⟩ ∧ w.cell? ⟨g, i * 2, none⟩ = some (.int .i64 (x.1 : Int)) ∧ w.cell? ⟨g, i * 2 + 1, none⟩ = some (.int .i64 (x.2 : Int)) ∧ g < w.heap.size := by
  have hi : i < l.length := (List.getElem?_eq_some_iff.1 hx).1
  rcases h.2 with ⟨e, hn⟩ | ⟨g, c, cur, e, hB, hg, hn, hc, hs, ht⟩
  · omega
  · injection e with e1 e2 e3
    subst e1 e3
    have h1 := World.ownsRow.cellAt h (i * 2) (by omega)
    have h2 := World.ownsRow.cellAt h (i * 2 + 1) (by omega)
    obtain ⟨k1, k2⟩ := segCells_at l i x hx
    exact ⟨g, rfl, h1.trans k1, h2.trans k2, (World.ownsRow.lt h g rfl).2⟩
theorem OwnG.cap {w : World} {a : Option Addr} {cap : Nat} {l : List (Nat × Nat)} (h : OwnG w a cap l) : l.length ≤ cap ∧ cap ≤ maxLen := by
  rcases h.2 with ⟨e, hn⟩ | ⟨g, c, cur, e, hB, hg, hn, hc, hs, ht⟩
  · injection e with _ _ e3
    subst e3
    exact ⟨by omega, Nat.zero_le _⟩
  · injection e with e1 e2 e3
    subst e3
    exact ⟨hn, hc⟩
theorem OwnG.same {w w' : World} {a : Option Addr} {cap : Nat} {l : List (Nat × Nat)} (h : OwnG w a cap l) (hs : ∀ g, (Value.slice a l.length cap).ownBlock = some g → w'.heap[g]? = w.heap[g]?) : OwnG w' a cap l := ownsRow_same h hs
theorem OwnG.call {w w' : World} {a : Option Addr} {cap : Nat} {l : List (Nat × Nat)} (h : OwnG w a cap l) (hb : Below w.heap.size w w') : OwnG w' a cap l := ownsRow_below h hb

theorem still {f : Nat} {args : Array Value} {w : World} {x : Ending} (h : Calls Tryz.prog f args w fun e w' => e = x ∧ w = w') : Calls Tryz.prog f args w fun e w' => e = x ∧ w' = w := h.mono fun _ _ ⟨a, b⟩ => ⟨a, b.symm⟩
set_option maxRecDepth 100000 in
theorem slast_any {w : World} {s b : Nat} {S : Stor} {a : Option Addr} {cap : Nat} {vr : Value} (hd : Hd w s b S (.slice a S.segs.length cap) vr) (ho : OwnG w a cap S.segs) (hne : S.segs ≠ []) :
    Calls Tryz.prog 41 #[.pointer (some ⟨s, 0, none⟩)] w fun e w' => e = .returned (.int .i64 (S.last : Int)) ∧ ∃ m, w' = w.drewN m := by
  obtain ⟨-, -, -, -, q4, -⟩ := hd_cells hd
  obtain ⟨n, hn⟩ : ∃ n, S.segs.length = n + 1 := ⟨S.segs.length - 1, by have := List.length_pos_iff.2 hne; omega⟩
  obtain ⟨x, hx⟩ : ∃ x, S.segs[n]? = some x := ⟨_, List.getElem?_eq_getElem (by omega)⟩
  have hl : S.last = x.1 := by
    unfold Stor.last
    rw [List.getLastD_eq_getLast?, List.getLast?_eq_getElem?, hn, Nat.add_sub_cancel, hx]; rfl
  obtain ⟨g, rfl, c0, -, -⟩ := ho.at hx
  have hm := ho.cap
  unfold maxLen at hm
  rw [hl]
  rw [hn] at q4
  have H := Lib.hid hn
  clear ho hne hx hl hd hn
  obtain ⟨x1, x2⟩ := x
  simp only at c0 ⊢
  have hn1 : n < 9223372036854775807 := by have := H.out; omega
  clear hm
  have e1 : (((n + 1 : Nat) : Int)) - 1 = (n : Int) := by omega
  go_enter Tryz.func41, Tryz.ntmps41
  go_wp2_with fail
  go_quiet (fail)
  go_wp2_with fail
  go_ret
  exact ⟨rfl, _, rfl⟩

set_option maxRecDepth 100000 in
theorem sfell_any {w : World} {ρ : Nat → Nat} {s b : Nat} {D : Disk} {S : Stor} {vs vr : Value} (h : DiskAt w ρ b D) (hd : Hd w s b S vs vr) :
    Calls Tryz.prog 39 #[.pointer (some ⟨s, 0, none⟩)] w fun e w' => e = .returned (.bool (fellS D S)) ∧ Below w.heap.size w w' := by
  have hdn := fun (n : Nat) => down_any (h.below (below_dN w n))
  have hfl := fun (n : Nat) => falls_any (h.below (below_dN w n))
  obtain ⟨q0, q1, -⟩ := hd_cells hd
  clear h hd
  unfold fellS
  generalize D.falls = f at *
  generalize S.falls = f' at *
  generalize D.down = dn at *
  have H := Lib.hid (And.intro hdn hfl)
  clear hdn hfl
  cases dn with
  | true =>
    go_enter Tryz.func39, Tryz.ntmps39
    go_wp2_with fail
    go_quiet ((go_at_call 29; exact Calls.quiet_of_same (still (H.out.1 _))))
    go_wp2_with fail
    go_ret
    exact ⟨rfl, below_dN _ _⟩
  | false =>
    go_enter Tryz.func39, Tryz.ntmps39
    go_wp2_with fail
    go_quiet ((first | (go_at_call 29; exact Calls.quiet_of_same (still (H.out.1 _))) | (go_at_call 48; exact Calls.quiet_of_same (still (H.out.2 _)))))
    go_wp2_with fail
    go_ret
    exact ⟨rfl, below_dN _ _⟩

set_option maxRecDepth 100000 in
theorem sleft_any {w : World} {ρ : Nat → Nat} {s b : Nat} {D : Disk} {S : Stor} {a : Option Addr} {cap : Nat} {vr : Value} (h : DiskAt w ρ b D) (hd : Hd w s b S (.slice a S.segs.length cap) vr) (hn : S.segs.length ≤ 1000000) :
    Calls Tryz.prog 22 #[.pointer (some ⟨s, 0, none⟩)] w fun e w' => e = .returned (.int .i64 (leftS D S)) ∧ Below w.heap.size w w' := by
  have hex := fun (n : Nat) => extents_any (h.below (below_dN w n))
  have hnum := h.ok.num
  obtain ⟨q0, -, -, -, q4, -⟩ := hd_cells hd
  clear h hd
  unfold leftS
  generalize D.sure.length = L at *
  generalize S.segs.length = n at *
  have H := Lib.hid hex
  clear hex
  go_enter Tryz.func22, Tryz.ntmps22
  go_wp2_with fail
  go_quiet ((go_at_call 33; exact Calls.quiet_of_same (still (H.out _))))
  go_wp2_with fail
  go_ret
  exact ⟨rfl, below_dN _ _⟩
theorem sleft_nil (w : World) : Calls Tryz.prog 22 #[.pointer none] w fun e w' => e = .returned (.int .i64 0) ∧ Below w.heap.size w w' := by
  go_enter Tryz.func22, Tryz.ntmps22
  go_wp2_with fail
  go_ret
  exact ⟨rfl, Below.refl _ _⟩
set_option maxRecDepth 100000 in
theorem mayTurn_any {w : World} {ρ : Nat → Nat} {s b : Nat} {D : Disk} {S : Stor} {a : Option Addr} {cap : Nat} {vr : Value} (h : DiskAt w ρ b D) (hd : Hd w s b S (.slice a S.segs.length cap) vr) (hn : S.segs.length ≤ 1000000) :
    Calls Tryz.prog 63 #[.pointer (some ⟨s, 0, none⟩)] w fun e w' => e = .returned (.int .i64 (mayTurnS D S)) ∧ Below w.heap.size w w' := by
  have hl := sleft_any h hd hn
  have H := Lib.hid (And.intro hl hd)
  clear hl h hd hn
  unfold mayTurnS
  generalize leftS D S = l at *
  generalize hE : S.epoch = E at *
  go_enter Tryz.func63, Tryz.ntmps63
  go_wp2_with fail
  refine H.out.1.mono ?_
  rintro e w' ⟨rfl, hb⟩
  obtain ⟨-, -, -, q3, -⟩ := hd_cells (H.out.2.same (hb.block _ H.out.2.lt))
  rw [hE] at q3
  have HB := Lib.hid hb
  clear hb hE
  by_cases hl0 : l = 0
  · subst hl0
    go_wp2_with fail
    go_ret
    exact ⟨rfl, HB.out⟩
  · have hl1 : (l == 0) = false := by simpa using hl0
    by_cases hE : E = 1099511627776
    · subst hE
      go_wp2_with fail
      go_ret
      exact ⟨rfl, HB.out⟩
    · have hE1 : ((E : Int) == 1099511627776) = false := by simp; omega
      go_wp2_with fail
      go_ret
      exact ⟨rfl, HB.out⟩
theorem slen_any {w : World} {s b : Nat} {S : Stor} {vs : Value} {a : Option Addr} {n cap : Nat} (hd : Hd w s b S vs (.slice a n cap)) :
    Calls Tryz.prog 12 #[.pointer (some ⟨s, 0, none⟩)] w fun e w' => e = .returned (.int .i64 (n : Int)) ∧ w = w' := by
  obtain ⟨-, -, -, -, -, q5, -⟩ := hd_cells hd
  clear hd
  go_enter Tryz.func12, Tryz.ntmps12
  go_wp2_with fail
  go_ret
  exact ⟨rfl, rfl⟩
theorem slen_nil (w : World) : Calls Tryz.prog 12 #[.pointer none] w fun e w' => e = .returned (.int .i64 0) ∧ w = w' := by
  go_enter Tryz.func12, Tryz.ntmps12
  go_wp2_with fail
  go_ret
  exact ⟨rfl, rfl⟩
theorem ssure_any {w : World} {s b : Nat} {S : Stor} {vs vr : Value} (hd : Hd w s b S vs vr) :
    Calls Tryz.prog 15 #[.pointer (some ⟨s, 0, none⟩)] w fun e w' => e = .returned (.int .i64 (S.sure : Int)) ∧ w = w' := by
  obtain ⟨-, -, -, -, -, -, q6⟩ := hd_cells hd
  clear hd
  go_enter Tryz.func15, Tryz.ntmps15
  go_wp2_with fail
  go_ret
  exact ⟨rfl, rfl⟩
theorem ssure_nil (w : World) : Calls Tryz.prog 15 #[.pointer none] w fun e w' => e = .returned (.int .i64 0) ∧ w = w' := by
  go_enter Tryz.func15, Tryz.ntmps15
  go_wp2_with fail
  go_ret
  exact ⟨rfl, rfl⟩
end Go.Proofs.YtdmbombjkinboaaGreat
