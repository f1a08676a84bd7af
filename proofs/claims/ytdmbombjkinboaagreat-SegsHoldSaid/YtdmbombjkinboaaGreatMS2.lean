/- Merged by program: segs: Sync, Get, All; a nil store. | segs: slices.Contains of segments; readList of a list that a store wrote. | segs: readList of a list that a store wrote. | segs: what is read when a store is opened: mayHave, scan, isHead. | segs: isHead at what a store wrote. -/
import Derived.Test.YtdmbombjkinboaaGreatYApp2
import Derived.Laws.MakeOwn
import Derived.Test.YtdmbombjkinboaaGreatRep
import Derived.Test.YtdmbombjkinboaaGreatMC6
namespace Go.Proofs.YtdmbombjkinboaaGreat
open Go.RowKit
open Dk Sg Fr

/-- What Sync makes of a store. -/
def syncPub (D : Disk) (S : Stor) : Res := if fellS D S = true then (D, S, 9) else syncS D S
/-- A store whose own cells, and whose disk, have turned. -/
theorem sat_doing {w wc : World} {ρ ρ' : Nat → Nat} {U : Nat → Prop} {s b : Nat} {D D' : Disk} {S S' : Stor} {a ar : Option Addr} {cap cr : Nat} (h : SAt w ρ U s b D S)
    (hd : Hd w s b S (.slice a S.segs.length cap) (.slice ar S.recs.length cr)) (ho : OwnG w a cap S.segs) (hu : ∀ g, (Value.slice a S.segs.length cap).ownBlock = some g → U g) (hor : OwnT 0 w ar cr S.recs) (hur : ∀ g, (Value.slice ar S.recs.length cr).ownBlock = some g → U g)
    (hD : DiskAt wc ρ' b D') (hd' : Hd wc s b S' (.slice a S.segs.length cap) (.slice ar S.recs.length cr)) (e1 : S'.segs = S.segs) (e2 : S'.recs = S.recs) (ht : TouchX (· = s) ρ ρ' w wc) : SAt wc ρ' U s b D' S' ∧ Move ρ U ρ' U w wc := by
  have hlt : ∀ g, U g → g < w.heap.size := fun g hg => (h.off g hg).2
  have ho' : OwnG wc a cap S.segs := ho.same fun g hg => ht.same g (hlt g (hu g hg)) (h.off g (hu g hg)).1 (fun e => OwnG.ne hd ho (by rw [hg, e]))
  have hr' : OwnT 0 wc ar cr S.recs := hor.same fun g hg => ht.same g (hlt g (hur g hg)) (h.off g (hur g hg)).1 (fun e => OwnT.ne hd hor (by rw [hg, e]))
  refine ⟨⟨hD, fun g hg => ⟨(ht.old g (hlt g hg)).trans (h.off g hg).1, Nat.lt_of_lt_of_le (hlt g hg) ht.size⟩, h.us, a, cap, ar, cr, ?_, ?_, ?_, ?_, ?_⟩, ⟨ht.os, ht.tape, ht.output, ht.size, ht.old, fun _ _ => Iff.rfl, fun g hg h0 hx => ht.same g hg h0 (fun e => hx (by rw [e]; exact h.us)), ht.lab⟩⟩
  · rw [e1, e2]; exact hd'
  · rw [e1]; exact ho'
  · rw [e1]; exact hu
  · rw [e2]; exact hr'
  · rw [e2]; exact hur
theorem syncS_keeps (D : Disk) (S : Stor) : (syncS D S).2.1.segs = S.segs ∧ (syncS D S).2.1.recs = S.recs ∧ (syncS D S).2.1.falls = S.falls := by
  unfold syncS andS; split <;> exact ⟨rfl, rfl, rfl⟩
set_option maxRecDepth 100000 in
theorem ssyncp_any {w : World} {ρ : Nat → Nat} {U : Nat → Prop} {s b n : Nat} {D : Disk} {S : Stor} (h : SAt w ρ U s b D S) (hs : Bud n D) (hn : n ≤ 99999980) :
    Calls Tryz.prog 25 #[.pointer (some ⟨s, 0, none⟩)] w fun e w' => e = .returned (.int .i64 (syncPub D S).2.2) ∧ ∃ ρ', SAt w' ρ' U s b (syncPub D S).1 (syncPub D S).2.1 ∧ Move ρ U ρ' U w w' := by
  obtain ⟨a, cap, ar, cr, hd, ho, hu, hor, hur⟩ := h.body
  have hfl := sfell_any h.disk hd
  obtain ⟨fl, hfe⟩ : ∃ fl, fl = fellS D S := ⟨_, rfl⟩
  rw [← hfe] at hfl
  have H := Lib.hid (And.intro h (And.intro hs (And.intro hd (And.intro ho (And.intro hu (And.intro hor (And.intro hur (And.intro hfl hn))))))))
  unfold syncPub
  rw [← hfe]
  clear h hs hd ho hu hor hur hfl hfe hn
  cases fl with
  | true =>
    rw [if_pos rfl]
    go_enter Tryz.func25, Tryz.ntmps25
    go_wp2_with fail
    refine H.out.2.2.2.2.2.2.2.1.mono ?_
    rintro e w1 ⟨rfl, hb1⟩
    have HB := Lib.hid hb1
    clear hb1
    go_wp2_with fail
    go_ret
    exact ⟨rfl, ρ, H.out.1.below HB.out, Move.below HB.out⟩
  | false =>
    rw [if_neg (by decide)]
    go_enter Tryz.func25, Tryz.ntmps25
    go_wp2_with fail
    refine H.out.2.2.2.2.2.2.2.1.mono ?_
    rintro e w1 ⟨rfl, hb1⟩
    have HB := Lib.hid hb1
    have hd1 := H.out.2.2.1.same (hb1.block _ H.out.2.2.1.lt)
    have hsy := ssync_any (H.out.1.disk.below hb1) (H.out.2.1.small (by have := H.out.2.2.2.2.2.2.2.2; omega)) hd1 (H.out.1.off s H.out.1.us).1
    have H1 := Lib.hid (And.intro hsy hd1)
    clear hb1 hsy hd1
    go_wp2_with fail
    refine H1.out.1.mono ?_
    rintro e w2 ⟨rfl, ρ2, hD2, hd2, ht2⟩
    have H2 := Lib.hid (And.intro hD2 (And.intro hd2 ht2))
    clear hD2 hd2 ht2
    go_wp2_with fail
    go_ret
    obtain ⟨k1, k2, -⟩ := syncS_keeps D S
    obtain ⟨m1, m2⟩ := sat_doing (H.out.1.below HB.out) H1.out.2 (H.out.2.2.2.1.call HB.out) H.out.2.2.2.2.1 (H.out.2.2.2.2.2.1.call HB.out) H.out.2.2.2.2.2.2.1 H2.out.1 H2.out.2.1 k1 k2 H2.out.2.2
    exact ⟨rfl, ρ2, m1, (Move.below HB.out).trans m2⟩
theorem ssync_nil (w : World) : Calls Tryz.prog 25 #[.pointer none] w fun e w' => e = .returned (.int .i64 1) ∧ Below w.heap.size w w' := by
  go_enter Tryz.func25, Tryz.ntmps25
  go_wp2_with fail
  go_ret
  exact ⟨rfl, Below.refl _ _⟩
theorem sappend_nil (r : ByteArray) (w : World) : Calls Tryz.prog 24 #[.pointer none, .string r] w fun e w' => e = .returned (.tuple #[.int .i64 0, .int .i64 1]) ∧ Below w.heap.size w w' := by
  go_enter Tryz.func24, Tryz.ntmps24
  go_wp2_with fail
  go_ret2
  exact ⟨rfl, Below.refl _ _⟩
set_option maxRecDepth 100000 in
theorem sget_at {w : World} {s b : Nat} {S : Stor} {vs : Value} {ar : Option Addr} {cr : Nat} (hd : Hd w s b S vs (.slice ar S.recs.length cr)) (ho : OwnT 0 w ar cr S.recs) (i : Nat) (x : ByteArray) (hx : S.recs[i]? = some x) (hxs : x.size ≤ 281474976710656) (_ : S.recs.length ≤ 1000000) :
    Calls Tryz.prog 26 #[.pointer (some ⟨s, 0, none⟩), .int .i64 (i : Int)] w fun e w' => e = .returned (.tuple #[.string x, .bool true]) ∧ Below w.heap.size w w' := by
  have hi : i < S.recs.length := (List.getElem?_eq_some_iff.1 hx).1
  have hl := slen_any hd
  obtain ⟨-, -, -, -, -, q5, -⟩ := hd_cells hd
  obtain ⟨g, o, rfl, hgl, hc⟩ := ho.texts i hi
  rw [List.getD_eq_getElem?_getD, hx, Option.getD_some] at hc
  obtain ⟨N, hN⟩ : ∃ N, N = S.recs.length := ⟨_, rfl⟩
  rw [← hN] at hl q5 hi
  have hcl := fun W => clone_any x W hxs
  have H := Lib.hid (And.intro hl hcl)
  clear hd ho hx hxs hl hN hgl hcl
  go_enter Tryz.func26, Tryz.ntmps26
  go_wp2_with fail
  refine H.out.1.mono ?_
  rintro e w1 ⟨rfl, rfl⟩
  go_wp2_with fail
  refine (H.out.2 _).mono ?_
  rintro e w2 ⟨rfl, hb2⟩
  have HB := Lib.hid hb2
  clear hb2
  go_wp2_with fail
  go_ret2
  exact ⟨rfl, HB.out⟩
theorem sget_nil (i : Int) (hi : -9223372036854775808 ≤ i) (hi2 : i ≤ 9223372036854775807) (w : World) : Calls Tryz.prog 26 #[.pointer none, .int .i64 i] w fun e w' => e = .returned (.tuple #[.string ⟨#[]⟩, .bool false]) ∧ Below w.heap.size w w' := by
  have H := Lib.hid (slen_nil w)
  by_cases h0 : i < 0
  · go_enter Tryz.func26, Tryz.ntmps26
    go_wp2_with fail
    go_ret2
    exact ⟨rfl, Below.refl _ _⟩
  · have h1 : (0 : Int) ≤ i := by omega
    clear h0
    go_enter Tryz.func26, Tryz.ntmps26
    go_wp2_with fail
    refine H.out.mono ?_
    rintro e w1 ⟨rfl, rfl⟩
    go_wp2_with fail
    go_ret2
    exact ⟨rfl, Below.refl _ _⟩
theorem run_make_texts (n : Nat) (h : n ≤ 1000000) (w : World) : (Instr.makeSlice 30 (.int .i64 (n : Int)) (.int .i64 (n : Int))).run Tryz.prog w = .ok (.slice (some ⟨w.heap.size, 0, none⟩) n n) (w.alloc (.cells (madeCells #[.string ⟨#[]⟩] n) 9)) := by
  obtain ⟨i0, hi0, hz0, hz1, hz2⟩ := info_parts Tryz.info_str
  have := run_make (P := Tryz.prog) w 30 9 i0 _ Tryz.underlying30 hi0 hz0 .i64 .i64 n n (by omega) (Int.le_refl _) (by rw [hz2]; omega) (by omega)
  rw [hz1] at this
  simpa [Value.cells] using this
/-- The texts of a row that is being filled. -/
def Filling (w : World) (g n : Nat) (l : List ByteArray) (i : Nat) : Prop := ∃ c : Array Value, w.heap[g]? = some (.cells c 9 (0, 0)) ∧ c.size = n ∧ ∀ j, j < i → c[j]? = some (.string (l.getD j ⟨#[]⟩))
theorem Filling.done {w : World} {g n : Nat} {l : List ByteArray} (h : Filling w g n l n) (hn : l.length = n) (hm : n ≤ maxLen) (B : Nat) (hB : B ≤ g) : OwnT B w (some ⟨g, 0, none⟩) n l := by
  obtain ⟨c, h1, h2, h3⟩ := h
  subst hn
  refine ⟨by simp [scells_length], .inr ⟨g, l.length, c, rfl, hB, h1, Nat.le_refl _, hm, by rw [h2, Nat.mul_one], ?_⟩⟩
  apply List.ext_getElem?
  intro j
  by_cases hj : j < l.length
  · rw [List.getElem?_take_of_lt (by omega), Array.getElem?_toList, h3 j hj]
    simp [scells, hj]
  · rw [List.getElem?_eq_none (by simp [h2]; omega), List.getElem?_eq_none (by rw [scells_length]; omega)]
theorem Filling.next {w : World} {g n i : Nat} {l : List ByteArray} {x : ByteArray} (h : Filling w g n l i) (hi : i < n) (hx : l[i]? = some x) : Filling (w.setCell ⟨g, i, none⟩ (.string x)) g n l (i + 1) := by
  obtain ⟨c, h1, h2, h3⟩ := h
  refine ⟨c.setIfInBounds i (.string x), heap_setCell_same _ _ _ _ _ _ h1, by simp [h2], fun j hj => ?_⟩
  by_cases e : j = i
  · subst e
    rw [Array.getElem?_setIfInBounds_self_of_lt (by omega), List.getD_eq_getElem?_getD, hx]; rfl
  · rw [Array.getElem?_setIfInBounds_ne (fun k => e k.symm)]
    exact h3 j (by omega)
set_option maxRecDepth 100000 in
theorem sall_any {w : World} {s b : Nat} {S : Stor} {vs : Value} {ar : Option Addr} {cr : Nat} (hd : Hd w s b S vs (.slice ar S.recs.length cr)) (ho : OwnT 0 w ar cr S.recs) (hn : S.recs.length ≤ 1000000) (hsz : ∀ x ∈ S.recs, x.size ≤ 281474976710656) :
    Calls Tryz.prog 14 #[.pointer (some ⟨s, 0, none⟩)] w fun e w' => ∃ g, e = .returned (.slice (some ⟨g, 0, none⟩) S.recs.length S.recs.length) ∧ OwnT w.heap.size w' (some ⟨g, 0, none⟩) S.recs.length S.recs ∧ Below w.heap.size w w' := by
  have hl := slen_any hd
  obtain ⟨N, hN⟩ : ∃ N, N = S.recs.length := ⟨_, rfl⟩
  rw [← hN] at hl hn ⊢
  have H := Lib.hid (And.intro hd (And.intro ho (And.intro hsz (And.intro hl hN))))
  clear hd ho hsz hl hN
  have hmk := fun W => run_make_texts N hn W
  go_enter Tryz.func14, Tryz.ntmps14
  go_wp2_with fail
  refine H.out.2.2.2.1.mono ?_
  rintro e w1 ⟨rfl, rfl⟩
  go_wp2_with fail
  have h0 : Filling (w.alloc (.cells (madeCells #[.string ⟨#[]⟩] N) 9)) w.heap.size N S.recs 0 := ⟨_, heap_alloc_new _ _, size_madeCells _ _, fun j hj => absurd hj (by omega)⟩
  have hb0 : Below w.heap.size w (w.alloc (.cells (madeCells #[.string ⟨#[]⟩] N) 9)) := (Below.refl _ _).alloc (Nat.le_refl _) _
  generalize World.alloc w _ = w1 at *
  have H0 := Lib.hid (And.intro h0 hb0)
  clear h0 hb0 hmk
  go_loopw [10, 4] (fun iv _ wr => ∃ i : Nat, i ≤ N ∧ iv = .int .i64 i ∧ Filling wr w.heap.size N S.recs i ∧ Below w.heap.size w wr) (fun iv _ _ => N - (intOf iv).toNat)
  case atStart => exact ⟨0, by omega, rfl, H0.out.1, H0.out.2⟩
  case round =>
    obtain ⟨i, hi, rfl, hf, hb⟩ := hrel
    have HR := Lib.hid (And.intro hf hb)
    clear hf hb
    by_cases hlt : i < N
    · obtain ⟨x, hx⟩ : ∃ x, S.recs[i]? = some x := ⟨_, List.getElem?_eq_getElem (by have := H.out.2.2.2.2; omega)⟩
      have hg := sget_at (H.out.1.same (HR.out.2.block _ H.out.1.lt)) (H.out.2.1.call HR.out.2) i x hx (H.out.2.2.1 x (List.mem_of_getElem? hx)) (by have := H.out.2.2.2.2; omega)
      have HX := Lib.hid (And.intro hx hg)
      clear hx hg
      go_wp2_with fail
      refine HX.out.2.mono ?_
      rintro e w2 ⟨rfl, hb2⟩
      have hf2 : Filling w2 w.heap.size N S.recs i := by
        obtain ⟨c, h1, h2, h3⟩ := HR.out.1
        exact ⟨c, (hb2.block _ (Array.getElem?_eq_some_iff.1 h1).1).trans h1, h2, h3⟩
      have hbb := HR.out.2.trans (hb2.mono HR.out.2.size)
      obtain ⟨c, h1, h2, -⟩ := id hf2
      have hc : ∃ v, w2.cell? ⟨w.heap.size, i, none⟩ = some v := ⟨c[i], by rw [cell_of_row _ _ _ _ _ _ h1]; exact Array.getElem?_eq_getElem (by omega)⟩
      obtain ⟨v, hv⟩ := hc
      have hfz := frozen_of_row _ _ i _ _ h1
      have HB := Lib.hid (And.intro hf2 hbb)
      clear hf2 hbb hb2 h1 h2 c
      go_wp2_with fail
      go_roundw
      case rel => exact ⟨i + 1, by omega, by go_num, HB.out.1.next hlt HX.out.1, HB.out.2.setCell (p := ⟨w.heap.size, i, none⟩) (Nat.le_refl _) _⟩
      case measure => simp [intOf]; omega
    · obtain rfl : i = N := by omega
      go_wp2_with fail
      go_ret
      exact ⟨_, rfl, HR.out.1.done H.out.2.2.2.2.symm (by unfold maxLen; omega) _ (Nat.le_refl _), HR.out.2⟩
theorem sall_nil (w : World) : Calls Tryz.prog 14 #[.pointer none] w fun e w' => ∃ g, e = .returned (.slice (some ⟨g, 0, none⟩) 0 0) ∧ Below w.heap.size w w' := by
  have H := Lib.hid (slen_nil w)
  have hmk : ∀ W, (Instr.makeSlice 30 (.int .i64 0) (.int .i64 0)).run Tryz.prog W = .ok (.slice (some ⟨W.heap.size, 0, none⟩) 0 0) (W.alloc (.cells (madeCells #[.string ⟨#[]⟩] 0) 9)) := fun W => run_make_texts 0 (by decide) W
  go_enter Tryz.func14, Tryz.ntmps14
  go_wp2_with fail
  refine H.out.mono ?_
  rintro e w1 ⟨rfl, rfl⟩
  go_wp2_with fail
  have hb0 : Below w.heap.size w (w.alloc (.cells (madeCells #[.string ⟨#[]⟩] 0) 9)) := (Below.refl _ _).alloc (Nat.le_refl _) _
  generalize World.alloc w _ = w1 at *
  have HB := Lib.hid hb0
  clear hb0 hmk
  go_loop [10] (fun c => c = .int .i64 0) (fun _ => 0)
  case atStart => rfl
  case round =>
    subst hrel
    go_wp2_with fail
    go_ret
    exact ⟨⟨_, rfl⟩, HB.out⟩
end Go.Proofs.YtdmbombjkinboaaGreat
namespace Go.Proofs.YtdmbombjkinboaaGreat
open Go.RowKit
open Dk Sg Fr

set_option maxRecDepth 100000 in
theorem indexSeg_any (l : List (Nat × Nat)) (a : Option Addr) (cap : Nat) (y1 y2 : Nat) (w : World) (ho : OwnG w a cap l) :
    Calls Tryz.prog 116 #[.slice a l.length cap, .agg #[.int .i64 (y1 : Int), .int .i64 (y2 : Int)]] w fun e w' =>
      (∃ k : Int, e = .returned (.int .i64 k) ∧ (0 ≤ k ↔ (y1, y2) ∈ l)) ∧ Below w.heap.size w w' := by
  obtain ⟨N, hN⟩ : ∃ N, N = l.length := ⟨_, rfl⟩
  have hm : N ≤ 9223372036854775807 := by have := ho.cap; unfold maxLen at this; omega
  rw [← hN]
  have H := Lib.hid (And.intro ho hN)
  clear ho hN
  have hb0 : Below w.heap.size w (w.alloc (.cells #[.int .i64 (y1 : Int), .int .i64 (y2 : Int)] 86)) := (Below.refl _ _).alloc (Nat.le_refl _) _
  have hx0 : (w.alloc (.cells #[.int .i64 (y1 : Int), .int .i64 (y2 : Int)] 86)).heap[w.heap.size]? = some (.cells #[.int .i64 (y1 : Int), .int .i64 (y2 : Int)] 86 (0, 0)) := heap_alloc_new _ _
  go_enter Tryz.func116, Tryz.ntmps116
  go_wp2_with fail
  generalize World.alloc w _ = w1 at *
  have H1 := Lib.hid (And.intro hb0 hx0)
  clear hb0 hx0
  go_loopw [8, 5] (fun iv _ wr => ∃ i : Nat, i ≤ N ∧ iv = .int .i64 i ∧ Below w1.heap.size w1 wr ∧ ∀ x ∈ l.take i, x ≠ (y1, y2)) (fun iv _ _ => N - (intOf iv).toNat)
  case atStart => exact ⟨0, by omega, rfl, Below.refl _ _, fun x hx => by simp at hx⟩
  case round =>
    obtain ⟨i, hi, rfl, hb, hno⟩ := hrel
    have HR := Lib.hid (And.intro hb hno)
    clear hb hno
    by_cases hlt : i < N
    · obtain ⟨x, hx⟩ : ∃ x, l[i]? = some x := ⟨_, List.getElem?_eq_getElem (by have := H.out.2; omega)⟩
      obtain ⟨g, rfl, c0, c1, -⟩ := ((H.out.1.call H1.out.1).call HR.out.1).at hx
      have hbx := (HR.out.1.block _ (Array.getElem?_eq_some_iff.1 H1.out.2).1).trans H1.out.2
      obtain ⟨b0, b1⟩ : wr.cell? ⟨w.heap.size, 0, none⟩ = some (.int .i64 (y1 : Int)) ∧ wr.cell? ⟨w.heap.size, 1, none⟩ = some (.int .i64 (y2 : Int)) := by constructor <;> (rw [cell_of_row _ _ _ _ _ _ hbx]; rfl)
      obtain ⟨x1, x2⟩ := x
      have HX := Lib.hid hx
      clear hx hbx
      simp only at c0 c1
      by_cases hxy : (x1, x2) = (y1, y2)
      · obtain ⟨rfl, rfl⟩ : x1 = y1 ∧ x2 = y2 := by simpa using hxy
        clear hxy
        go_wp2_with fail
        go_quiet (fail)
        go_wp2_with fail
        go_ret
        exact ⟨⟨_, rfl, ⟨fun _ => List.mem_of_getElem? HX.out, fun _ => by omega⟩⟩, H1.out.1.trans ((HR.out.1.trans ((below_dN wr nq).mono HR.out.1.size)).mono H1.out.1.size)⟩
      · have HXY := Lib.hid hxy
        by_cases hx1 : x1 = y1
        · subst hx1
          have hx2 : x2 ≠ y2 := fun e => hxy (by rw [e])
          have f1 : ((y2 : Int) == (x2 : Int)) = false := by simp; omega
          clear hxy hx2
          go_wp2_with fail
          go_quiet (fail)
          go_wp2_with fail
          go_roundw
          case rel =>
            refine ⟨i + 1, by omega, by go_num, HR.out.1.trans ((below_dN wr nq).mono HR.out.1.size), fun z hz => ?_⟩
            rw [List.take_add_one, HX.out] at hz
            rcases List.mem_append.1 hz with hz | hz
            · exact HR.out.2 z hz
            · simp at hz
              rw [hz]; exact HXY.out
          case measure => simp [intOf]; omega
        · have f1 : ((y1 : Int) == (x1 : Int)) = false := by simp; omega
          clear hxy hx1
          go_wp2_with fail
          go_quiet (fail)
          go_wp2_with fail
          go_roundw
          case rel =>
            refine ⟨i + 1, by omega, by go_num, HR.out.1.trans ((below_dN wr nq).mono HR.out.1.size), fun z hz => ?_⟩
            rw [List.take_add_one, HX.out] at hz
            rcases List.mem_append.1 hz with hz | hz
            · exact HR.out.2 z hz
            · simp at hz
              rw [hz]; exact HXY.out
          case measure => simp [intOf]; omega
    · obtain rfl : i = N := by omega
      go_wp2_with fail
      go_ret
      refine ⟨⟨_, rfl, ⟨fun h => absurd h (by decide), fun h => ?_⟩⟩, H1.out.1.trans (HR.out.1.mono H1.out.1.size)⟩
      exact absurd rfl (HR.out.2 _ (by rw [H.out.2, List.take_length]; exact h))
theorem containsSeg_any (l : List (Nat × Nat)) (a : Option Addr) (cap : Nat) (y1 y2 : Nat) (w : World) (ho : OwnG w a cap l) :
    Calls Tryz.prog 96 #[.slice a l.length cap, .agg #[.int .i64 (y1 : Int), .int .i64 (y2 : Int)]] w fun e w' =>
      e = .returned (.bool (decide ((y1, y2) ∈ l))) ∧ Below w.heap.size w w' := by
  have hb0 : Below w.heap.size w (w.alloc (.cells #[.int .i64 (y1 : Int), .int .i64 (y2 : Int)] 86)) := (Below.refl _ _).alloc (Nat.le_refl _) _
  have H := Lib.hid (And.intro (indexSeg_any l a cap y1 y2 _ (ho.call hb0)) hb0)
  clear ho hb0
  generalize l.length = N at *
  go_enter Tryz.func96, Tryz.ntmps96
  go_wp2_with fail
  refine H.out.1.mono ?_
  rintro e w' ⟨⟨k, rfl, hk⟩, hb⟩
  have HB := Lib.hid (H.out.2.trans (hb.mono H.out.2.size))
  clear hb
  go_wp2_with fail
  go_ret
  refine ⟨?_, HB.out⟩
  show Ending.returned (.bool (decide _)) = _
  congr 2
  all_goals exact decide_eq_decide.2 hk
end Go.Proofs.YtdmbombjkinboaaGreat
namespace Go.Proofs.YtdmbombjkinboaaGreat
open Go.RowKit
open Dk Sg Fr

/-- Which lists may be on a disk of so many extents. -/
structure EntOk (n : Nat) (e : Ent) : Prop where
  one : 1 ≤ e.epoch
  epoch : e.epoch ≤ 1099511627776
  exts : ∀ x ∈ e.exts, 2 ≤ x ∧ x < n
  dup : e.exts.Nodup
  num : n ≤ 64
theorem EntOk.len {n : Nat} {e : Ent} (h : EntOk n e) (hl : e.exts.length ≤ 62) : 1 ≤ (entB e).length ∧ (entB e).length ≤ 160 :=
  ent_len e (by have := h.epoch; omega) (fun x hx => by have := h.exts x hx; have := h.num; omega) (by omega)
theorem dec_ent {n : Nat} {e : Ent} (h : EntOk n e) (hl : e.exts.length ≤ 62) : Cn.item 6 0 0 (entB e) = .ok (entP e, (entB e).length, []) := by
  have hm := may_ent e (by have := h.epoch; omega) (fun x hx => by have := h.exts x hx; have := h.num; omega) (by omega)
  have hn := h.len hl
  have := Cn.item_bytes 6 (entP e) 0 0 [] hm (by unfold entB at hn; omega)
  rw [List.append_nil] at this
  rw [show entB e = Cn.bytes (entP e) from rfl, this]
  simp
theorem decR_ent {n : Nat} {e : Ent} (h : EntOk n e) (hl : e.exts.length ≤ 62) : decR (entB e) = .ok (entP e) := by
  unfold decR
  rw [dec_ent h hl]; rfl
theorem fit_nums : ∀ l : List Nat, fitAll (l.map numP) (List.replicate l.length 110) = true
  | [] => rfl
  | x :: l => by rw [List.map_cons, List.length_cons, List.replicate_succ, fitAll, fit_nums l]; rfl
theorem shape_ent (e : Ent) : shapeP (entP e) (116 :: List.replicate (e.exts.length + 1) 110) = true := by
  show (decide ((3 : Int) = 3) && fitAll (txtP seqT :: numP e.epoch :: e.exts.map numP) (116 :: List.replicate (e.exts.length + 1) 110)) = true
  rw [List.replicate_succ, fitAll, fitAll, fit_nums]; rfl
theorem t_rep (m : Nat) : ((⟨#[116]⟩ : ByteArray) ++ ⟨(List.replicate m (110 : UInt8)).toArray⟩).data.toList = 116 :: List.replicate m 110 := by simp
/-- What a list of items that says a list is. -/
theorem ent_items {x : It} {e : Ent} (h : x.pure = entP e) : x.k = 3 ∧ x.n = 0 ∧ x.l.length = e.exts.length + 2 ∧
    (∃ z, x.l[0]? = some z ∧ z.s = seqT) ∧ (∃ z, x.l[1]? = some z ∧ z.n = (e.epoch : Int)) ∧ ∀ (j y : Nat), e.exts[j]? = some y → ∃ z, x.l[j + 2]? = some z ∧ z.n = (y : Int) := by
  rw [It.pure_eq, It.pureAll_eq] at h
  unfold entP lstP at h
  injection h with h1 h2 h3 h4
  have hl : x.l.length = e.exts.length + 2 := by have := congrArg List.length h4; simpa using this
  have key : ∀ (j : Nat) (p : Cn.Pt), (txtP seqT :: numP e.epoch :: e.exts.map numP)[j]? = some p → ∃ z : It, x.l[j]? = some z ∧ z.pure = p := fun j p hp => by
    rw [← h4, List.getElem?_map] at hp
    cases hz : x.l[j]? with
    | none => rw [hz] at hp; cases hp
    | some z => rw [hz] at hp; injection hp with hp; exact ⟨z, rfl, hp⟩
  refine ⟨h1, h2, hl, ?_, ?_, ?_⟩
  · obtain ⟨z, hz, hp⟩ := key 0 _ rfl
    rw [It.pure_eq] at hp
    unfold txtP at hp
    injection hp with _ _ hs _
    exact ⟨z, hz, hs⟩
  · obtain ⟨z, hz, hp⟩ := key 1 _ rfl
    rw [It.pure_eq] at hp
    unfold numP at hp
    injection hp with _ hs _ _
    exact ⟨z, hz, hs⟩
  · intro j y hy
    obtain ⟨z, hz, hp⟩ := key (j + 2) (numP y) (by rw [List.getElem?_cons_succ, List.getElem?_cons_succ, List.getElem?_map, hy]; rfl)
    rw [It.pure_eq] at hp
    unfold numP at hp
    injection hp with _ hs _ _
    exact ⟨z, hz, hs⟩
set_option maxRecDepth 100000 in
theorem run_two (xb xo N cap : Nat) (h : 2 ≤ N) (h2 : N ≤ 1000000) : ∃ a2 c2, (∀ W : World, (Instr.slice 113 (.slice (some ⟨xb, xo, none⟩) N cap) (some (.int .i64 2)) none none).run Tryz.prog W = .ok (.slice a2 (N - 2) c2) W) ∧ (cap ≠ 2 → a2 = some ⟨xb, xo + 8, none⟩) := by
  refine ⟨if cap = 2 then some ⟨xb, xo, none⟩ else some ⟨xb, xo + 8, none⟩, cap - 2, fun W => ?_, fun hc => if_neg hc⟩
  have e := run_slice_l (P := Tryz.prog) W 113 (some ⟨xb, xo, none⟩) N cap Tryz.underlying113 .i64 2 (by omega) (by omega)
  rw [e]
  have hs : (sizeOf (Tryz.prog.elem 113)).run Tryz.prog W = .ok 4 W := Tryz.sizeOf115 W
  rw [hs]
  have e2 : (2 : Int).toNat = 2 := rfl
  simp only [Result.andThen_ok, sliced, e2, Option.map_some, Addr.add]
  rw [if_neg (show ¬ 2 * 4 = 0 by decide)]
set_option maxRecDepth 100000 in
set_option maxHeartbeats 2000000 in
theorem readList_any (e : Ent) (n : Nat) (h : EntOk n e) (hl : e.exts.length ≤ 62) (w : World) :
    Calls Tryz.prog 75 #[.string (str (entB e)), .int .i64 (n : Int)] w fun r w' => ∃ a cap, r = .returned (.tuple #[.int .i64 (e.epoch : Int), .slice a e.exts.length cap, .bool true]) ∧
      OwnG w' a cap (e.exts.map fun x => (x, 0)) ∧ (∀ g, (Value.slice a e.exts.length cap).ownBlock = some g → w.heap.size ≤ g) ∧ Below w.heap.size w w' := by
  have hln := h.len hl
  have hdec := decode_cap (str (entB e)) (by rw [str_size]; unfold maxLen; omega) w
  rw [str_data, decR_ent h hl] at hdec
  obtain ⟨M, hM⟩ : ∃ M, M = e.exts.length := ⟨_, rfl⟩
  obtain ⟨ep, hep⟩ : ∃ ep, ep = e.epoch := ⟨_, rfl⟩
  obtain ⟨body, hbody⟩ : ∃ body, body = str (entB e) := ⟨_, rfl⟩
  rw [← hbody] at hdec ⊢
  rw [← hM, ← hep]
  have hM62 : M ≤ 62 := by omega
  have hep1 : ep ≤ 1099511627776 := by rw [hep]; exact h.epoch
  have hn64 : n ≤ 64 := h.num
  have H := Lib.hid (And.intro h (And.intro hdec (And.intro hM hep)))
  clear h hdec hM hep hln hl hbody
  go_enter Tryz.func75, Tryz.ntmps75
  go_wp2_with fail
  refine H.out.2.1.mono ?_
  rintro r w2 ⟨hb2, it, hp, rfl, hin, hcp⟩
  obtain ⟨i1, i2, i3, i4, i5, i6⟩ := ent_items hp
  rw [← H.out.2.2.1] at i3
  have hsh := fun W (hb : Below w2.heap.size w2 W) => shape_any (w.heap.size ≤ ·) it (⟨#[116]⟩ ++ ⟨(List.replicate (M + 1) (110 : UInt8)).toArray⟩) W (It.In.kept (keptS_any hb) it hin)
  rw [hp, t_rep, H.out.2.2.1, shape_ent] at hsh
  rw [← H.out.2.2.1] at hsh
  have hrp := fun W => repeat_any 110 (M + 1) (by omega) W
  obtain ⟨rS, hrS⟩ : ∃ rS : ByteArray, rS = ⟨(List.replicate (M + 1) (110 : UInt8)).toArray⟩ := ⟨_, rfl⟩
  have hrz : rS.size ≤ 100 := by rw [hrS]; show (List.replicate (M + 1) (110 : UInt8)).toArray.size ≤ 100; simp; omega
  rw [← hrS] at hsh hrp
  clear hrS
  rw [It.in_eq] at hin
  obtain ⟨xk, xn, xs, xa, xc, xl⟩ := it
  simp only [It.k, It.n, It.l, It.s, It.a, It.cap] at i1 i2 i3 i4 i5 i6 hin hcp
  subst i1 i2
  obtain ⟨N, hN⟩ : ∃ N, N = xl.length := ⟨_, rfl⟩
  simp only [It.val, It.cells, It.k, It.n, It.s, It.a, It.cap, It.l] at hsh ⊢
  rw [← hN] at hsh i3 ⊢
  have hin2 := hin.2.1
  have H2 := Lib.hid (And.intro hb2 (And.intro hin2 (And.intro i4 (And.intro i5 (And.intro i6 (And.intro hN hcp))))))
  clear hb2 hin hin2 i4 i5 i6 hN hp hcp
  subst i3
  go_upto_region 2 with fail
  have hbx : Below w2.heap.size w2 (w2.alloc (.cells #[.int .i64 3, .int .i64 0, .string xs, .slice xa (M + 2) xc] 115)) := (Below.refl _ _).alloc (Nat.le_refl _) _
  have hxx := heap_alloc_new w2 (.cells #[.int .i64 3, .int .i64 0, .string xs, .slice xa (M + 2) xc] 115)
  generalize World.alloc w2 _ = w3 at *
  obtain ⟨gx, hgxe⟩ : ∃ gx, gx = w2.heap.size := ⟨_, rfl⟩
  rw [← hgxe] at hxx ⊢
  have hgx : gx < w3.heap.size := (Array.getElem?_eq_some_iff.1 hxx).1
  obtain ⟨x0, x1, x2, x3⟩ : w3.cell? ⟨gx, 0, none⟩ = some (.int .i64 3) ∧ w3.cell? ⟨gx, 1, none⟩ = some (.int .i64 0) ∧ w3.cell? ⟨gx, 2, none⟩ = some (.string xs) ∧ w3.cell? ⟨gx, 3, none⟩ = some (.slice xa (M + 2) xc) := by
    refine ⟨?_, ?_, ?_, ?_⟩ <;> (rw [cell_of_row _ _ _ _ _ _ hxx]; rfl)
  obtain ⟨N, hN⟩ : ∃ N, N = M + 2 := ⟨_, rfl⟩
  rw [← hN] at x3 hxx hsh ⊢
  have hN1 : IntKind.i64.wrap ((N : Int) - 1) = ((M + 1 : Nat) : Int) := by rw [hN]; exact (IntWalk.i64_in _ (by omega)).trans (by omega)
  have hN2 : (2 : Int) ≤ (N : Int) := by omega
  have H3 := Lib.hid (And.intro (And.intro hbx hxx) (And.intro hrp (fun W (hb : Below w3.heap.size w3 W) => hsh W (hbx.trans (hb.mono hbx.size)))))
  have HN := Lib.hid (And.intro hN hgxe)
  have hN3 : N ≤ 64 := by omega
  have hN2d : decide ((N : Int) < 2) = false := decide_eq_false (by omega)
  obtain ⟨M1, hM1⟩ : ∃ M1, M1 = M + 1 := ⟨_, rfl⟩
  rw [← hM1] at hN1 H3
  have HM1 := Lib.hid hM1
  clear hbx hxx hrp hsh hgxe hN hM1
  have C : Below w3.heap.size w3 w3.drew := (Below.refl _ _).drew
  refine wp_region_held (S := fun W => Below w3.heap.size w3 W) (by kernel_rfl) ?_
  change wpAnyH _ _ _ _ _ _ _ _ (World.drew _)
  generalize World.drew _ = wh at *
  refine wpAnyH_take (i := 0) (v := ?_) rfl (by kernel_rfl) (by kernel_rfl) (by kernel_rfl) (fun _ _ _ h => h) (Or.inl ⟨by kernel_rfl, ?_⟩) C ?_
  rotate_left
  · (intro W hS; clear hS; go_simp; try (with_reducible rfl))
  refine wpAnyH_take (i := 1) (v := ?_) rfl (by kernel_rfl) (by kernel_rfl) (by kernel_rfl) (fun _ _ _ h => h) (Or.inl ⟨by kernel_rfl, ?_⟩) C ?_
  rotate_left
  · (intro W hS; clear hS; go_simp; try (with_reducible rfl))
  refine wpAnyH_take (i := 2) (v := ?_) rfl (by kernel_rfl) (by kernel_rfl) (by kernel_rfl) (fun _ _ _ h => h) (Or.inl ⟨by kernel_rfl, ?_⟩) C ?_
  rotate_left
  · (intro W hS; clear hS; go_simp; try (with_reducible rfl))
  refine wpAnyH_take (i := 3) (v := ?_) rfl (by kernel_rfl) (by kernel_rfl) (by kernel_rfl) (fun _ _ _ h => h) (Or.inl ⟨by kernel_rfl, ?_⟩) C ?_
  rotate_left
  · (intro W hS; clear hS; go_simp; try (with_reducible rfl))
  refine wpAnyH_take (i := 4) (v := .slice xa N xc) rfl (by kernel_rfl) (by kernel_rfl) (by kernel_rfl) (fun _ _ _ h => h) (Or.inl ⟨by kernel_rfl, ?_⟩) C ?_
  · (intro W hS; have hx3 : W.cell? ⟨gx, 3, none⟩ = some (.slice xa N xc) := (hS.cell (p := ⟨gx, 3, none⟩) hgx).trans x3; clear hS; go_simp; first | done | (with_reducible rfl) | simp)
  refine wpAnyH_take (i := 5) (v := ?_) rfl (by kernel_rfl) (by kernel_rfl) (by kernel_rfl) (fun _ _ _ h => h) (Or.inl ⟨by kernel_rfl, ?_⟩) C ?_
  rotate_left
  · (intro W hS; clear hS; go_simp; try (with_reducible rfl))
  refine wpAnyH_take (i := 6) (v := ?_) rfl (by kernel_rfl) (by kernel_rfl) (by kernel_rfl) (fun _ _ _ h => h) (Or.inl ⟨by kernel_rfl, ?_⟩) C ?_
  rotate_left
  · (intro W hS; clear hS; go_simp; try (with_reducible rfl))
  refine wpAnyH_take (i := 7) (v := ?_) rfl (by kernel_rfl) (by kernel_rfl) (by kernel_rfl) (fun _ _ _ h => h) (Or.inl ⟨by kernel_rfl, ?_⟩) C ?_
  rotate_left
  · (intro W hS; clear hS; go_simp; try (with_reducible rfl))
  refine wpAnyH_take (i := 8) (v := ?_) rfl (by kernel_rfl) (by kernel_rfl) (by kernel_rfl) (fun _ _ _ h => h) (Or.inl ⟨by kernel_rfl, ?_⟩) C ?_
  rotate_left
  · (intro W hS; clear hS; go_simp; try (with_reducible rfl))
  refine wpAnyH_take (i := 9) (v := .agg #[.int .i64 3, .int .i64 0, .string xs, .slice xa N xc]) rfl (by kernel_rfl) (by kernel_rfl) (by kernel_rfl) (fun _ _ _ h => h) (Or.inl ⟨by kernel_rfl, ?_⟩) C ?_
  · (intro W hS; have hx0 : W.cell? ⟨gx, 0, none⟩ = some (.int .i64 3) := (hS.cell (p := ⟨gx, 0, none⟩) hgx).trans x0; have hx1 : W.cell? ⟨gx, 1, none⟩ = some (.int .i64 0) := (hS.cell (p := ⟨gx, 1, none⟩) hgx).trans x1; have hx2 : W.cell? ⟨gx, 2, none⟩ = some (.string xs) := (hS.cell (p := ⟨gx, 2, none⟩) hgx).trans x2; have hx3 : W.cell? ⟨gx, 3, none⟩ = some (.slice xa N xc) := (hS.cell (p := ⟨gx, 3, none⟩) hgx).trans x3; clear hS; go_simp; first | done | (with_reducible rfl) | simp)
  refine wpAnyH_take (i := 10) (v := ?_) rfl (by kernel_rfl) (by kernel_rfl) (by kernel_rfl) (fun _ _ _ h => h) (Or.inl ⟨by kernel_rfl, ?_⟩) C ?_
  rotate_left
  · (intro W hS; clear hS; go_simp; try (with_reducible rfl))
  refine wpAnyH_take (i := 11) (v := .slice xa N xc) rfl (by kernel_rfl) (by kernel_rfl) (by kernel_rfl) (fun _ _ _ h => h) (Or.inl ⟨by kernel_rfl, ?_⟩) C ?_
  · (intro W hS; have hx3 : W.cell? ⟨gx, 3, none⟩ = some (.slice xa N xc) := (hS.cell (p := ⟨gx, 3, none⟩) hgx).trans x3; clear hS; go_simp; first | done | (with_reducible rfl) | simp)
  refine wpAnyH_take (i := 12) (v := ?_) rfl (by kernel_rfl) (by kernel_rfl) (by kernel_rfl) (fun _ _ _ h => h) (Or.inl ⟨by kernel_rfl, ?_⟩) C ?_
  rotate_left
  · (intro W hS; clear hS; go_simp; try (with_reducible rfl))
  refine wpAnyH_take (i := 13) (v := ?_) rfl (by kernel_rfl) (by kernel_rfl) (by kernel_rfl) (fun _ _ _ h => h) (Or.inl ⟨by kernel_rfl, ?_⟩) C ?_
  rotate_left
  · (intro W hS; clear hS; go_simp; try (with_reducible rfl))
  refine wpAnyH_ready (rs := [14]) (by kernel_rfl) (by simp) ?_
  refine AllReadyH.cons rfl (fun K hK => ?_) AllReadyH.nil
  go_simp
  refine (H3.out.2.1 _).mono ?_
  rintro e w4 ⟨rfl, hb⟩
  have C := C.trans (hb.mono C.size)
  refine hK.out _ _ C (fun _ => ?_)
  clear hK K hb
  refine wpAnyH_take (i := 15) (v := .string (⟨#[116]⟩ ++ rS)) rfl (by kernel_rfl) (by kernel_rfl) (by kernel_rfl) (fun _ _ _ h => h) (Or.inl ⟨by kernel_rfl, ?_⟩) C ?_
  · (intro W hS; clear hS; go_simp; omega)
  refine wpAnyH_ready (rs := [16]) (by kernel_rfl) (by simp) ?_
  refine AllReadyH.cons rfl (fun K hK => ?_) AllReadyH.nil
  go_simp
  refine (H3.out.2.2 _ C).mono ?_
  rintro e w5 ⟨rfl, hb⟩
  have C := C.trans (hb.mono C.size)
  refine hK.out _ _ C (fun _ => ?_)
  clear hK K hb
  refine wpAnyH_take (i := 17) (v := ?_) rfl (by kernel_rfl) (by kernel_rfl) (by kernel_rfl) (fun _ _ _ h => h) (Or.inl ⟨by kernel_rfl, ?_⟩) C ?_
  rotate_left
  · (intro W hS; clear hS; go_simp; try (with_reducible rfl))
  refine wpAnyH_take (i := 18) (v := ?_) rfl (by kernel_rfl) (by kernel_rfl) (by kernel_rfl) (fun _ _ _ h => h) (Or.inl ⟨by kernel_rfl, ?_⟩) C ?_
  rotate_left
  · (intro W hS; clear hS; go_simp; try (with_reducible rfl))
  refine wpAnyH_done (by kernel_rfl) ?_ _
  go_simp
  obtain ⟨z0, hz0, hz0s⟩ := H2.out.2.2.1
  obtain ⟨z1, hz1, hz1n⟩ := H2.out.2.2.2.1
  have hx5 : Below w2.heap.size w2 w5 := H3.out.1.1.trans (C.mono H3.out.1.1.size)
  have hls5 := H2.out.2.1.kept (keptS_any hx5)
  have hxl : xl.length = M + 2 := H2.out.2.2.2.2.2.1.symm
  obtain ⟨xb, xo, hxa, hxb, hxS, hrow⟩ := hls5.2 (fun e => by rw [e] at hxl; simp at hxl)
  subst hxa
  have d0 : w5.cell? ⟨xb, xo + 2, none⟩ = some (.string ⟨#[115, 101, 113]⟩) := by
    have := (hrow 0 z0 hz0).2.2.1
    rw [show z0.s = seqT from hz0s] at this
    simpa [seqT] using this
  have d1 : w5.cell? ⟨xb, xo + 4 + 1, none⟩ = some (.int .i64 (ep : Int)) := by
    have := (hrow 1 z1 hz1).2.1
    rw [show z1.n = (e.epoch : Int) from hz1n, ← H.out.2.2.2] at this
    simpa using this
  have hx5b := C.block _ hgx
  obtain ⟨x0', x1', x2', x3'⟩ : w5.cell? ⟨gx, 0, none⟩ = some (.int .i64 3) ∧ w5.cell? ⟨gx, 1, none⟩ = some (.int .i64 0) ∧ w5.cell? ⟨gx, 2, none⟩ = some (.string xs) ∧ w5.cell? ⟨gx, 3, none⟩ = some (.slice (some ⟨xb, xo, none⟩) N xc) := by
    refine ⟨?_, ?_, ?_, ?_⟩ <;> (rw [World.cell?, hx5b]; first | exact x0 | exact x1 | exact x2 | exact x3)
  have hxc : N ≤ xc := by have := H2.out.2.2.2.2.2.2; have := HN.out.1; omega
  have H5 := Lib.hid (And.intro hx5 (And.intro hls5 (And.intro hxl (And.intro hrow (And.intro hxb (And.intro hxS (And.intro C hxc)))))))
  clear hz0 hz0s hz1 hz1n hx5 hls5 hxl hrow C x0 x1 x2 x3 hx5b hxb hxS hrz
  obtain ⟨a2, c2, htl, ha2⟩ := run_two xb xo N xc (by have := HN.out.1; omega) (by omega)
  have hNM : N - 2 = M := by have := HN.out.1; omega
  have hep2 : (ep : Int) ≤ 1099511627776 := by omega
  have hep3 : decide ((1099511627776 : Int) < (ep : Int)) = false := decide_eq_false (by omega)
  rw [hNM] at htl
  have HA2 := Lib.hid ha2
  clear ha2 hNM
  go_wp2_with fail
  clear d0 d1 x0' x1' x2' x3' htl
  go_loopw [54, 5, 10, 11] (fun iv sv _ _ wr => ∃ i : Nat, i ≤ M ∧ iv = .int .i64 i ∧ ∃ ga gc, sv = .slice ga i gc ∧ OwnG wr ga gc ((e.exts.take i).map fun x => (x, 0)) ∧ (∀ g, (Value.slice ga i gc).ownBlock = some g → w5.heap.size ≤ g) ∧ Below w5.heap.size w5 wr) (fun iv _ _ _ _ => M - (intOf iv).toNat)
  case atStart => exact ⟨0, by omega, rfl, none, 0, rfl, World.ownsRow_nil _ _ _ _, fun g hg => by simp [Value.ownBlock] at hg, Below.refl _ _⟩
  case round =>
    obtain ⟨i, hi, rfl, ga, gc, rfl, hog, hgb, hb⟩ := hrel
    have HR := Lib.hid (And.intro hog (And.intro hgb hb))
    clear hog hgb hb
    by_cases hlt : i < M
    · obtain ⟨y, hy⟩ : ∃ y, e.exts[i]? = some y := ⟨_, List.getElem?_eq_getElem (by have := H.out.2.2.1; omega)⟩
      obtain ⟨z, hz, hzn⟩ := H2.out.2.2.2.2.1 i y hy
      have hrz := (H5.out.2.2.2.1.same (HR.out.2.2.block _ H5.out.2.2.2.2.1)) (i + 2) z hz
      have ha2 := HA2.out (by have := H5.out.2.2.2.2.2.2.2; have := HN.out.1; omega)
      subst ha2
      obtain ⟨c0, c1, c2', c3⟩ := hrz
      rw [show z.n = (y : Int) from hzn] at c1
      obtain ⟨zk, zn, zs, za, zc, zl⟩ := z
      simp only [It.k, It.s, It.a, It.cap, It.l] at c0 c1 c2' c3
      rw [show xo + (i + 2) * 4 = xo + 8 + i * 4 by omega] at c0 c1 c2' c3
      obtain ⟨yy, hyy⟩ : ∃ yy, yy = y := ⟨_, rfl⟩
      have hye := H.out.1.exts y (List.mem_of_getElem? hy)
      have hin : ((y, 0) : Nat × Nat) ∉ (e.exts.take i).map (fun x => (x, 0)) := fun hm => by
        obtain ⟨x, hx, hxy⟩ := List.mem_map.1 hm
        injection hxy with hxy _
        subst hxy
        obtain ⟨j, hj⟩ := List.mem_iff_getElem?.1 hx
        have hji : j < i := by have := (List.getElem?_eq_some_iff.1 hj).1; rw [List.length_take] at this; omega
        rw [List.getElem?_take_of_lt hji] at hj
        have h1 := (List.getElem?_eq_some_iff.1 hj)
        have h2 := (List.getElem?_eq_some_iff.1 hy)
        exact (List.pairwise_iff_getElem.1 H.out.1.dup) j i h1.1 h2.1 hji (by rw [h1.2, h2.2])
      have hin' := decide_eq_false hin
      have hlm : ((e.exts.take i).map fun x => ((x, 0) : Nat × Nat)).length = i := by rw [List.length_map, List.length_take]; have := H.out.2.2.1; omega
      have hcs := fun W (hb : Below wr.heap.size wr W) => containsSeg_any _ ga gc y 0 W (HR.out.1.call hb)
      rw [hlm, hin'] at hcs
      have y3 : y < n := hye.2
      have y4 : 2 ≤ y := hye.1
      have y1 : decide ((y : Int) < 2) = false := decide_eq_false (by omega)
      have y2 : decide ((n : Int) ≤ (y : Int)) = false := decide_eq_false (by omega)
      have HX := Lib.hid (And.intro hy (And.intro hcs (And.intro hlm hye)))
      clear hy hcs hlm hin hin' hyy yy hz hzn hye
      have hba : Below wr.heap.size wr ((wr.alloc (.cells #[.int .i64 zk, .int .i64 (y : Int), .string zs, .slice za zl.length zc] 115)).alloc (.cells #[.int .i64 (y : Int), .int .i64 0] 86)) := ((Below.refl _ _).alloc (Nat.le_refl _) _).alloc (by simp) _
      have hgx2 := heap_alloc_new (wr.alloc (.cells #[.int .i64 zk, .int .i64 (y : Int), .string zs, .slice za zl.length zc] 115)) (.cells #[.int .i64 (y : Int), .int .i64 0] 86)
      obtain ⟨gb, hgb⟩ : ∃ gb, gb = (wr.alloc (.cells #[.int .i64 zk, .int .i64 (y : Int), .string zs, .slice za zl.length zc] 115)).heap.size := ⟨_, rfl⟩
      rw [← hgb] at hgx2
      have hgbe : gb = wr.heap.size + 1 := by rw [hgb]; simp
      subst hgbe
      have HBA := Lib.hid (And.intro hba hgx2)
      clear hba hgx2 hgb
      go_wp2_with fail
      refine (HX.out.2.1 _ HBA.out.1).mono ?_
      rintro r w7 ⟨rfl, hb7⟩
      have hb77 := HBA.out.1.trans (hb7.mono HBA.out.1.size)
      have hg7 := (hb7.block _ (Array.getElem?_eq_some_iff.1 HBA.out.2).1).trans HBA.out.2
      obtain ⟨k0, k1⟩ : w7.cell? ⟨wr.heap.size + 1, 0, none⟩ = some (.int .i64 (y : Int)) ∧ w7.cell? ⟨wr.heap.size + 1, 1, none⟩ = some (.int .i64 0) := by constructor <;> (rw [cell_of_row _ _ _ _ _ _ hg7]; rfl)
      have HB7 := Lib.hid (And.intro hb77 (HR.out.1.call hb77))
      clear hb7 hb77 hg7 c0 c1 c2' c3
      go_wp2_with (at_builtin; (refine wpList_append_seg rfl (.tmp 75) (.tmp 77) rfl (HB7.out.2.call ((Below.refl _ _).alloc (Nat.le_refl _) _)) i HX.out.2.2.1 rfl w7.heap.size 1 (y, 0) rfl (heap_alloc_new w7 _) (by omega) ?_; intro g8 cap8 w8 ho8 hg8 hb8; have HA := Lib.hid (And.intro ho8 (And.intro hg8 hb8)); clear ho8 hg8 hb8))
      go_roundw
      case rel =>
        refine ⟨i + 1, by omega, by go_num, _, _, rfl, ?_, ?_, ?_⟩
        · rw [List.take_add_one, HX.out.1, List.map_append]
          exact HA.out.1
        · intro g hg
          have hg' : g8 = g := by simpa [Value.ownBlock] using hg
          subst hg'
          rcases HA.out.2.2 with e | e
          · exact HR.out.2.1 g8 (by rw [← HX.out.2.2.1]; exact e)
          · have h1 := H5.out.1.size
            have h2 := HR.out.2.2.size
            have h3 := HB7.out.1.size
            have h4 := H2.out.1.size
            have : (w7.alloc (.cells #[.int .i64 (y : Int), .int .i64 0] 86)).heap.size = w7.heap.size + 1 := by simp
            omega
        · refine (HR.out.2.2.trans (HB7.out.1.mono HR.out.2.2.size)).alloc (Nat.le_trans HR.out.2.2.size HB7.out.1.size) _ |>.grown HA.out.2.1 ?_ ?_
          · have h2 := HR.out.2.2.size
            have h3 := HB7.out.1.size
            simp; omega
          · intro k hk
            exact HR.out.2.1 k (by rw [← HX.out.2.2.1]; exact hk)
      case measure => simp [intOf]; omega
    · obtain rfl : i = M := by omega
      have hgxr := ((HR.out.2.2.block gx (Nat.lt_of_lt_of_le hgx H5.out.2.2.2.2.2.2.1.size)).trans (H5.out.2.2.2.2.2.2.1.block gx hgx)).trans H3.out.1.2
      have x3 : wr.cell? ⟨gx, 3, none⟩ = some (.slice (some ⟨xb, xo, none⟩) N xc) := by rw [cell_of_row _ _ _ _ _ _ hgxr]; rfl
      obtain ⟨z1, hz1, hz1n⟩ := H2.out.2.2.2.1
      have d1 : wr.cell? ⟨xb, xo + 4 + 1, none⟩ = some (.int .i64 (ep : Int)) := by
        have := ((H5.out.2.2.2.1.same (HR.out.2.2.block _ H5.out.2.2.2.2.1)) 1 z1 hz1).2.1
        rw [show z1.n = (e.epoch : Int) from hz1n, ← H.out.2.2.2] at this
        simpa using this
      clear hz1 hz1n hgxr
      go_wp2_with fail
      refine bodyPost_ret (v := .tuple #[.int .i64 (ep : Int), .slice ga i gc, .bool true]) (by simp [results, Tryz.results75, go_sem]) rfl ?_
      have h1 := HR.out.1
      rw [H.out.2.2.1, List.take_length] at h1
      exact ⟨ga, gc, rfl, h1, fun g hg => Nat.le_trans (Nat.le_trans H2.out.1.size H5.out.1.size) (HR.out.2.1 g hg), (H2.out.1.trans (H5.out.1.mono H2.out.1.size)).trans (HR.out.2.2.mono (Nat.le_trans H2.out.1.size H5.out.1.size))⟩
end Go.Proofs.YtdmbombjkinboaaGreat
namespace Go.Proofs.YtdmbombjkinboaaGreat
open Go.RowKit
open Dk Sg Fr

set_option maxRecDepth 100000 in
theorem mayHave_any {w : World} {ρ : Nat → Nat} {b : Nat} {D : Disk} (h : DiskAt w ρ b D) (hu : D.down = false) (hn : 3 ≤ D.sure.length) (hr : 1024 ≤ D.room) :
    Calls Tryz.prog 49 #[.pointer (some ⟨b, 0, none⟩)] w fun e w' => e = .returned (.int .i64 0) ∧ w = w' := by
  have he : eerr D 0 = 0 := by unfold eerr; rw [if_neg (by rw [hu]; decide), if_neg (by omega)]
  have hrd := read_any h 0
  have hrm := droom_any h 0
  have hex := extents_any h
  rw [he] at hrd
  obtain ⟨t, ht⟩ : ∃ t, t = readD D 0 := ⟨_, rfl⟩
  have hte : t = exAt D.now 0 := by rw [ht]; unfold readD; rw [if_pos he]; rfl
  have hts : t.size ≤ 65536 := by rw [hte]; exact h.ok.fits.all.at 0
  have hrv : roomD D 0 = D.room - (t.size : Int) := by unfold roomD; rw [if_pos he, hte]; rfl
  rw [← ht] at hrd
  rw [hrv] at hrm
  have hr1 := h.ok.room1
  have hnum := h.ok.num
  have H := Lib.hid (And.intro hrd (And.intro hrm hex))
  clear hrd hrm hex ht hte hrv he h
  generalize D.sure.length = n at *
  generalize D.room = rm at *
  obtain ⟨x, hx⟩ : ∃ x, x = rm - (t.size : Int) := ⟨_, rfl⟩
  rw [← hx] at H
  have hxb : (-9223372036854775808 : Int) ≤ x ∧ x ≤ 65536 := by omega
  have hsum : IntKind.i64.wrap ((t.size : Int) + x) = rm := by rw [hx]; exact (IntWalk.i64_in _ (by omega)).trans (by omega)
  have d1 : decide ((n : Int) < 3) = false := decide_eq_false (by omega)
  have d2 : decide (rm < 1024) = false := decide_eq_false (by omega)
  clear hx hu
  go_enter Tryz.func49, Tryz.ntmps49
  go_wp2_with fail
  refine H.out.1.mono ?_
  rintro e w1 ⟨rfl, rfl⟩
  go_wp2_with fail
  refine H.out.2.2.mono ?_
  rintro e w1 ⟨rfl, rfl⟩
  go_wp2_with fail
  refine H.out.2.1.mono ?_
  rintro e w1 ⟨rfl, rfl⟩
  go_wp2_with fail
  go_ret
  exact ⟨rfl, rfl⟩
/-- A row of tears that the opening owns. -/
def OwnR (B : Nat) (w : World) (a : Option Addr) (cap : Nat) (l : List (Nat × Nat)) : Prop := w.ownsRow B 131 2 (.slice a l.length cap) l.length (segCells l)
theorem OwnR.same {B : Nat} {w w' : World} {a : Option Addr} {cap : Nat} {l : List (Nat × Nat)} (h : OwnR B w a cap l) (hs : ∀ g, (Value.slice a l.length cap).ownBlock = some g → w'.heap[g]? = w.heap[g]?) : OwnR B w' a cap l := by
  obtain ⟨h1, h2⟩ := h
  refine ⟨h1, ?_⟩
  rcases h2 with h2 | ⟨g, c, cur, e, hB, hg, h3⟩
  · exact .inl h2
  · exact .inr ⟨g, c, cur, e, hB, (hs g (by rw [e]; rfl)).trans hg, h3⟩
theorem OwnR.call {B : Nat} {w w' : World} {a : Option Addr} {cap : Nat} {l : List (Nat × Nat)} (h : OwnR B w a cap l) (hb : Below w.heap.size w w') : OwnR B w' a cap l := ownsRow_below h hb
theorem Tryz.info_tear : (Tryz.prog.info? 131).map (fun i => (i.zero, i.size, i.bytes)) = some (some (.agg #[.int .i64 0, .int .i64 0]), 2, 16) := by kernel_rfl
theorem wpList_append_tear {ops : Array Oper} {rest : List Oper} {o : Oper} {act : Act} {Q : Exit → Act → World → Prop} {w : World} (hgd : o.guard = none) (s x : Operand)
    (ho : o.op = .call { callee := .builtin .append, args := #[s, x], argTypes := #[92, 92] })
    {B : Nat} {a : Option Addr} {cap0 : Nat} {l : List (Nat × Nat)} (hown : OwnR B w a cap0 l) (n : Nat) (hn : l.length = n) (hs : act.eval s = .slice a n cap0)
    (g c' : Nat) (c : Nat × Nat) (hx : act.eval x = .slice (some ⟨g, 0, none⟩) 1 c') (hc : w.heap[g]? = some (.cells #[.int .i64 (c.1 : Int), .int .i64 (c.2 : Int)] 131 (0, 0)))
    (hlen : n < 1000000) (hbase : B ≤ w.heap.size)
    (h : ∀ g cap w', OwnR B w' (some ⟨g, 0, none⟩) cap (l ++ [c]) → w.grownBy w' (Value.slice a l.length cap0).ownBlock → ((Value.slice a l.length cap0).ownBlock = some g ∨ g = w.heap.size) → wpList Tryz.prog ops Q rest (act.put o.dst (.slice (some ⟨g, 0, none⟩) (n + 1) cap)) w') : wpList Tryz.prog ops Q (o :: rest) act w := by
  subst hn
  obtain ⟨i0, hi0, hz0, hz1, hz2⟩ := info_parts Tryz.info_tear
  refine wpList_append_lies w hgd s x 92 ho B 131 i0 _ 2 16 Tryz.underlying92 hi0 hz0 hz1 hz2 rfl (by decide) (.slice a l.length cap0) l.length (segCells l) hs hown ⟨g, 0, none⟩ 1 c' [.int .i64 (c.1 : Int), .int .i64 (c.2 : Int)] hx rfl
    (fun j u hj => ?_) (by simp [Value.oneCell']) (by decide) (by unfold maxLen; omega) (by omega) hbase w.heap.size rfl (fun g cap w' h1 h2 h3 _ => h g cap w' ?_ h2 h3)
  · rw [show (⟨g, 0, none⟩ : Addr).add j = ⟨g, j, none⟩ by unfold Addr.add; split <;> simp_all, cell_of_row _ _ _ _ _ _ hc]
    simpa using hj
  · unfold OwnR
    rw [segCells_snoc, List.length_append]; exact h1
/-- The opening's own cells. -/
def Op (w : World) (o s : Nat) (tv : Value) : Prop := w.heap[o]? = some (.cells #[.pointer (some ⟨s, 0, none⟩), tv] 94 (0, 0))
theorem Op.lt {w : World} {o s : Nat} {tv : Value} (h : Op w o s tv) : o < w.heap.size := (Array.getElem?_eq_some_iff.1 h).1
theorem op_cells {w : World} {o s : Nat} {tv : Value} (h : Op w o s tv) : w.cell? ⟨o, 0, none⟩ = some (.pointer (some ⟨s, 0, none⟩)) ∧ w.cell? ⟨o, 1, none⟩ = some tv ∧ w.frozen? ⟨o, 1, none⟩ = false := by
  unfold Op at h
  exact ⟨by rw [cell_of_row _ _ _ _ _ _ h]; rfl, by rw [cell_of_row _ _ _ _ _ _ h]; rfl, frozen_of_row _ _ _ _ _ h⟩
theorem OwnR.ne {B : Nat} {w : World} {o s : Nat} {tv : Value} {a : Option Addr} {cap : Nat} {l : List (Nat × Nat)} (hd : Op w o s tv) (h : OwnR B w a cap l) : (Value.slice a l.length cap).ownBlock ≠ some o := fun e => by
  rcases h.2 with ⟨e1, hn⟩ | ⟨g, c, cur, e1, hB, hg, -⟩
  · injection e1 with e2 _ _; subst e2; cases e
  · injection e1 with e2 _ _
    subst e2
    injection e with e
    have e : g = o := e
    subst e
    unfold Op at hd
    rw [hd] at hg
    injection hg with hg
    injection hg with _ hg _
    exact absurd hg (by decide)
/-- The tears behind a scan. -/
def tearsOf (er x m : Nat) (T : List (Nat × Nat)) : List (Nat × Nat) := if er = 7 then T ++ [(x, m)] else T
/-- What a scan of an extent leaves. -/
def Scanned (B o s : Nat) (ta : Option Addr) (tc : Nat) (T T' : List (Nat × Nat)) (l : List ByteArray) (w : World) (e : Ending) (w' : World) : Prop :=
  ∃ a cap ta' tc', e = .returned (.tuple #[.slice a l.length cap, .int .i64 0]) ∧ OwnT w.heap.size w' a cap l ∧ Op w' o s (.slice ta' T'.length tc') ∧ OwnR B w' ta' tc' T' ∧
    TouchX (fun g => g = o ∨ (Value.slice ta T.length tc).ownBlock = some g) (fun _ => 0) (fun _ => 0) w w'
set_option maxRecDepth 100000 in
set_option maxHeartbeats 1000000 in
theorem scanx_any {w : World} {ρ : Nat → Nat} {s o b B x : Nat} {D : Disk} {S : Stor} {vs vr : Value} {ta : Option Addr} {tc : Nat} {T : List (Nat × Nat)} (h : DiskAt w ρ b D) (hu : D.down = false) (hx : x < D.sure.length) (hd : Hd w s b S vs vr) (hop : Op w o s (.slice ta T.length tc)) (hot : OwnR B w ta tc T) (hB : B ≤ w.heap.size)
    (mt : Bool) (bs : List (List UInt8)) (m er : Nat) (hsc : Scans (exAt D.now x).data.toList bs m er) (her : er = 4 ∨ er = 7 ∧ mt = true) (hT : T.length ≤ 1000) :
    Calls Tryz.prog 74 #[.pointer (some ⟨o, 0, none⟩), .int .i64 (x : Int), .bool mt] w (Scanned B o s ta tc T (tearsOf er x m T) (bs.map str) w) := by
  have he : eerr D x = 0 := by unfold eerr; rw [if_neg (by rw [hu]; decide), if_neg (by omega)]
  have hrd := read_any h (x : Int)
  rw [he] at hrd
  obtain ⟨t, ht⟩ : ∃ t, t = readD D x := ⟨_, rfl⟩
  have hte : t = exAt D.now x := by rw [ht]; unfold readD; rw [if_pos he, Int.toNat_natCast]
  have hts : t.size ≤ 65536 := by rw [hte]; exact h.ok.fits.all.at x
  rw [← ht] at hrd
  rw [← hte] at hsc
  have hml := hsc.le.1
  have hms : m ≤ 65536 := by have : t.data.toList.length = t.size := rfl; omega
  have hsn := scan_any t (by omega) bs m er hsc w
  obtain ⟨o0, o1, o2⟩ := op_cells hop
  obtain ⟨q0, -⟩ := hd_cells hd
  have hx64 : x < 64 := by have := h.ok.num; omega
  obtain ⟨K, hK⟩ : ∃ K, K = T.length := ⟨_, rfl⟩
  obtain ⟨N, hN⟩ : ∃ N, N = bs.length := ⟨_, rfl⟩
  have hne := OwnR.ne hop hot
  have hK1 : K ≤ 1000 := by omega
  rw [← hK] at o1
  rw [← hN] at hsn
  have H := Lib.hid (And.intro hrd (And.intro hsn (And.intro hop (And.intro hot (And.intro hK (And.intro hN (And.intro hne hB)))))))
  clear hrd hsn hop hot hK hN hne hT h hu hd he ht hte hsc hml hx hB hts
  rcases her with rfl | ⟨rfl, rfl⟩
  · go_enter Tryz.func74, Tryz.ntmps74
    go_wp2_with fail
    refine H.out.1.mono ?_
    rintro e w1 ⟨rfl, rfl⟩
    go_wp2_with fail
    refine H.out.2.1.mono ?_
    rintro e w1 ⟨a, cap, rfl, ho1, hb1⟩
    have HB := Lib.hid (And.intro ho1 hb1)
    clear ho1 hb1
    go_wp2_with fail
    all_goals
      go_ret2
      refine ⟨a, cap, ta, tc, by rw [List.length_map, ← H.out.2.2.2.2.2.1]; rfl, HB.out.1, ?_, ?_, TouchX.below HB.out.2⟩
      · show Op w1 o s (.slice ta T.length tc)
        exact (HB.out.2.block _ H.out.2.2.1.lt).trans H.out.2.2.1
      · exact H.out.2.2.2.1.call HB.out.2
  · go_enter Tryz.func74, Tryz.ntmps74
    go_wp2_with fail
    refine H.out.1.mono ?_
    rintro e w1 ⟨rfl, rfl⟩
    go_wp2_with fail
    refine H.out.2.1.mono ?_
    rintro e w1 ⟨a, cap, rfl, ho1, hb1⟩
    have hop1 : Op w1 o s (.slice ta T.length tc) := (hb1.block _ H.out.2.2.1.lt).trans H.out.2.2.1
    have hot1 := H.out.2.2.2.1.call hb1
    obtain ⟨-, p1, p2⟩ := op_cells hop1
    rw [← H.out.2.2.2.2.1] at p1
    have hol : o < w1.heap.size := hop1.lt
    have HB := Lib.hid (And.intro ho1 (And.intro hb1 (And.intro hop1 hot1)))
    clear ho1 hb1 hop1 hot1 o0 o1 o2 q0
    go_wp2_with (at_builtin; (refine wpList_append_tear rfl (.tmp 44) (.tmp 48) rfl (HB.out.2.2.2.call ((Below.refl _ _).alloc (Nat.le_refl _) _)) K H.out.2.2.2.2.1.symm rfl w1.heap.size 1 (x, m) rfl (heap_alloc_new w1 _) (by omega) (by have := HB.out.2.1.size; have := H.out.2.2.2.2.2.2.2; simp; omega) ?_; intro g5 cap5 w5 ho5 hg5 hb5; have p15 : w5.cell? ⟨o, 1, none⟩ = some (.slice ta K tc) := (hg5.cell_far ⟨o, 1, none⟩ (by simp; omega) (fun e => OwnR.ne HB.out.2.2.1 HB.out.2.2.2 e.symm)).trans ((((Below.refl w1.heap.size w1).alloc (Nat.le_refl _) _).cell (p := ⟨o, 1, none⟩) hol).trans p1); have p25 : w5.frozen? ⟨o, 1, none⟩ = false := (hg5.frozen_far ⟨o, 1, none⟩ (by simp; omega) (fun e => OwnR.ne HB.out.2.2.1 HB.out.2.2.2 e.symm)).trans ((((Below.refl w1.heap.size w1).alloc (Nat.le_refl _) _).frozen (p := ⟨o, 1, none⟩) hol).trans p2); have H5 := Lib.hid (And.intro ho5 (And.intro hg5 hb5)); clear ho5 hg5 hb5))
    go_ret2
    have hba : Below w1.heap.size w1 (w1.alloc (.cells #[.int .i64 (x : Int), .int .i64 (m : Int)] 131)) := (Below.refl _ _).alloc (Nat.le_refl _) _
    have kp : ∀ g, g < w1.heap.size → (Value.slice ta T.length tc).ownBlock ≠ some g → w5.heap[g]? = w1.heap[g]? := fun g hg hn => (H5.out.2.1.block g (Nat.lt_of_lt_of_le hg hba.size) (fun e => hn e.symm)).trans (hba.block g hg)
    have hop5 : Op w5 o s (.slice ta T.length tc) := (kp o hol H.out.2.2.2.2.2.2.1).trans HB.out.2.2.1
    have hop6 : Op (w5.setCell ⟨o, 1, none⟩ (.slice (some ⟨g5, 0, none⟩) (K + 1) cap5)) o s (.slice (some ⟨g5, 0, none⟩) (K + 1) cap5) := heap_setCell_same _ _ 1 _ _ _ hop5
    have hlen : (tearsOf 7 x m T).length = K + 1 := by unfold tearsOf; rw [if_pos rfl, List.length_append, ← H.out.2.2.2.2.1]; rfl
    have hte : tearsOf 7 x m T = T ++ [(x, m)] := if_pos rfl
    have hTlt : ∀ g, (Value.slice ta T.length tc).ownBlock = some g → g < w.heap.size := fun g hg => (World.ownsRow.lt H.out.2.2.2.1 g hg).2
    refine ⟨a, cap, some ⟨g5, 0, none⟩, cap5, by rw [List.length_map, ← H.out.2.2.2.2.2.1]; rfl, ?_, ?_, ?_, ?_⟩
    · have ho := HB.out.1
      refine ⟨ho.1, ?_⟩
      rcases ho.2 with k | ⟨g, c, cur, e, hBg, hg, h3⟩
      · exact .inl k
      · refine .inr ⟨g, c, cur, e, hBg, ?_, h3⟩
        rw [heap_setCell_other _ _ g _ (fun e2 => by have := H.out.2.2.1.lt; have e2 : g = o := e2; omega), kp g (Array.getElem?_eq_some_iff.1 hg).1 (fun e2 => by have := hTlt g e2; omega)]
        exact hg
    · rw [hlen]; exact hop6
    · rw [hte]
      refine H5.out.1.same fun g hg => heap_setCell_other _ _ g _ (fun e2 => OwnR.ne hop5 H5.out.1 (by rw [hg, e2]))
    · exact ((TouchX.below HB.out.2.1).trans (touchX_grown hba H5.out.2.1 (fun k hk => .inr hk))).set _ _ (.inl rfl)
/-- Is a head the one of a segment? -/
theorem same_any_leaf (x y : It) (T : Nat → Prop) (w : World) (hx : x.In w T) (hy : y.In w T) : Calls Tryz.prog 97 #[x.val, y.val] w fun e w' => e = .returned (.bool (sameP x.pure y.pure)) ∧ Below w.heap.size w w' :=
  same_any x.sz x (Nat.le_refl _) T y w hx hy
end Go.Proofs.YtdmbombjkinboaaGreat
namespace Go.Proofs.YtdmbombjkinboaaGreat
open Go.RowKit
open Dk Sg Fr

theorem decR_head (n k : Nat) (hn : n < 256) (hk : k < 256 ^ 4) : decR (headB n k) = .ok (headP n k) := by
  have hm := may_head n k hn hk
  have hl := head_len n k hn hk
  have := Cn.item_bytes 6 (headP n k) 0 0 [] hm (by unfold headB at hl; omega)
  rw [List.append_nil] at this
  unfold decR headB
  rw [this]; rfl
theorem list_head (w : World) (n k : Nat) :
    Calls Tryz.prog 86 #[.slice (some ⟨w.heap.size, 0, none⟩) 3 3] (w.alloc (.cells #[.int .i64 2, .int .i64 0, .string ⟨#[115, 101, 103]⟩, .slice none 0 0, .int .i64 1, .int .i64 (n : Int), .string ⟨#[]⟩, .slice none 0 0, .int .i64 1, .int .i64 (k : Int), .string ⟨#[]⟩, .slice none 0 0] 115)) fun e w' =>
      ∃ x : It, e = .returned x.val ∧ x.pure = headP n k ∧ x.In w' ((w.alloc (.cells #[.int .i64 2, .int .i64 0, .string ⟨#[115, 101, 103]⟩, .slice none 0 0, .int .i64 1, .int .i64 (n : Int), .string ⟨#[]⟩, .slice none 0 0, .int .i64 1, .int .i64 (k : Int), .string ⟨#[]⟩, .slice none 0 0] 115)).heap.size ≤ ·) ∧
        Below (w.alloc (.cells #[.int .i64 2, .int .i64 0, .string ⟨#[115, 101, 103]⟩, .slice none 0 0, .int .i64 1, .int .i64 (n : Int), .string ⟨#[]⟩, .slice none 0 0, .int .i64 1, .int .i64 (k : Int), .string ⟨#[]⟩, .slice none 0 0] 115)).heap.size (w.alloc (.cells #[.int .i64 2, .int .i64 0, .string ⟨#[115, 101, 103]⟩, .slice none 0 0, .int .i64 1, .int .i64 (n : Int), .string ⟨#[]⟩, .slice none 0 0, .int .i64 1, .int .i64 (k : Int), .string ⟨#[]⟩, .slice none 0 0] 115)) w' := by
  have hlf : ∀ x ∈ [txtIt segT, numIt n, numIt k], Leaf x := fun x hx => by
    rcases List.mem_cons.1 hx with rfl | hx
    · exact txtIt_leaf (by decide)
    rcases List.mem_cons.1 hx with rfl | hx
    · exact numIt_leaf _
    rcases List.mem_singleton.1 hx with rfl
    exact numIt_leaf _
  exact list_any (w.heap.size ≤ ·) [txtIt segT, numIt n, numIt k] _ 3 _ ((own_three w n k w.heap.size (Nat.le_refl _)).lies (by simp)) (leaf_all hlf _ _) (by rw [leaf_sz hlf]; simp)
set_option maxRecDepth 100000 in
set_option maxHeartbeats 1000000 in
theorem isHead_any (n k : Nat) (hn : n < 256) (hk : k < 256 ^ 4) (w : World) :
    Calls Tryz.prog 76 #[.string (str (headB n k)), .int .i64 (n : Int), .int .i64 (k : Int)] w fun e w' => e = .returned (.bool true) ∧ Below w.heap.size w w' := by
  have hln := head_len n k hn hk
  have hdec := decode_any (str (headB n k)) (by rw [str_size]; unfold maxLen; omega) w
  rw [str_data, decR_head n k hn hk] at hdec
  obtain ⟨body, hbody⟩ : ∃ body, body = str (headB n k) := ⟨_, rfl⟩
  rw [← hbody] at hdec ⊢
  have H := Lib.hid hdec
  clear hdec hln hbody
  go_enter Tryz.func76, Tryz.ntmps76
  go_wp2_with fail
  refine H.out.mono ?_
  rintro r w2 ⟨hb2, it, hp, rfl, hin⟩
  have hsm := fun W (hb : Below w2.heap.size w2 W) (y : It) (hy : y.In W (w.heap.size ≤ ·)) (hyp : y.pure = headP n k) => same_any_leaf it y (w.heap.size ≤ ·) W (It.In.kept (keptS_any hb) it hin) hy
  have hsr : ∀ y : It, y.pure = headP n k → sameP it.pure y.pure = true := fun y hy => by rw [hp, hy]; exact sameP_refl _
  have hsm2 := fun W (hb : Below w2.heap.size w2 W) (y : It) (hy : y.In W (w.heap.size ≤ ·)) (hyp : y.pure = headP n k) => (hsr y hyp) ▸ hsm W hb y hy hyp
  clear hsm hsr hp hin
  obtain ⟨xk, xn, xs, xa, xc, xl⟩ := it
  obtain ⟨L, hL⟩ : ∃ L, L = xl.length := ⟨_, rfl⟩
  simp only [It.val, It.cells, It.k, It.n, It.s, It.a, It.cap, It.l] at hsm2 ⊢
  rw [← hL] at hsm2 ⊢
  clear hL
  go_upto_region 2 with fail
  have hbx : Below w2.heap.size w2 (w2.alloc (.cells #[.int .i64 xk, .int .i64 xn, .string xs, .slice xa L xc] 115)) := (Below.refl _ _).alloc (Nat.le_refl _) _
  have hxx := heap_alloc_new w2 (.cells #[.int .i64 xk, .int .i64 xn, .string xs, .slice xa L xc] 115)
  generalize World.alloc w2 _ = w3 at *
  obtain ⟨gx, hgxe⟩ : ∃ gx, gx = w2.heap.size := ⟨_, rfl⟩
  rw [← hgxe] at hxx ⊢
  have hgx : gx < w3.heap.size := (Array.getElem?_eq_some_iff.1 hxx).1
  obtain ⟨x0, x1, x2, x3⟩ : w3.cell? ⟨gx, 0, none⟩ = some (.int .i64 xk) ∧ w3.cell? ⟨gx, 1, none⟩ = some (.int .i64 xn) ∧ w3.cell? ⟨gx, 2, none⟩ = some (.string xs) ∧ w3.cell? ⟨gx, 3, none⟩ = some (.slice xa L xc) := by
    refine ⟨?_, ?_, ?_, ?_⟩ <;> (rw [cell_of_row _ _ _ _ _ _ hxx]; rfl)
  have H3 := Lib.hid (And.intro (hb2.trans (hbx.mono hb2.size)) (And.intro hxx (fun W (hb : Below w3.heap.size w3 W) => hsm2 W (hbx.trans (hb.mono hbx.size)))))
  clear hbx hxx hsm2 hgxe hb2
  have C : Below w3.heap.size w3 w3.drew := (Below.refl _ _).drew
  refine wp_region_held (S := fun W => Below w3.heap.size w3 W) (by kernel_rfl) ?_
  change wpAnyH _ _ _ _ _ _ _ _ (World.drew _)
  generalize World.drew _ = wh at *
  refine wpAnyH_take (i := 0) (v := ?_) rfl (by kernel_rfl) (by kernel_rfl) (by kernel_rfl) (fun _ _ _ h => h) (Or.inl ⟨by kernel_rfl, ?_⟩) C ?_
  rotate_left
  · (intro W hS; clear hS; go_simp; try (with_reducible rfl))
  refine wpAnyH_take (i := 1) (v := ?_) rfl (by kernel_rfl) (by kernel_rfl) (by kernel_rfl) (fun _ _ _ h => h) (Or.inl ⟨by kernel_rfl, ?_⟩) C ?_
  rotate_left
  · (intro W hS; clear hS; go_simp; try (with_reducible rfl))
  refine wpAnyH_take (i := 2) (v := ?_) rfl (by kernel_rfl) (by kernel_rfl) (by kernel_rfl) (fun _ _ _ h => h) (Or.inl ⟨by kernel_rfl, ?_⟩) C ?_
  rotate_left
  · (intro W hS; clear hS; go_simp; try (with_reducible rfl))
  refine wpAnyH_take (i := 3) (v := .agg #[.int .i64 xk, .int .i64 xn, .string xs, .slice xa L xc]) rfl (by kernel_rfl) (by kernel_rfl) (by kernel_rfl) (fun _ _ _ h => h) (Or.inl ⟨by kernel_rfl, ?_⟩) C ?_
  · (intro W hS; have hx0 : W.cell? ⟨gx, 0, none⟩ = some (.int .i64 xk) := (hS.cell (p := ⟨gx, 0, none⟩) hgx).trans x0; have hx1 : W.cell? ⟨gx, 1, none⟩ = some (.int .i64 xn) := (hS.cell (p := ⟨gx, 1, none⟩) hgx).trans x1; have hx2 : W.cell? ⟨gx, 2, none⟩ = some (.string xs) := (hS.cell (p := ⟨gx, 2, none⟩) hgx).trans x2; have hx3 : W.cell? ⟨gx, 3, none⟩ = some (.slice xa L xc) := (hS.cell (p := ⟨gx, 3, none⟩) hgx).trans x3; clear hS; go_simp; first | done | (with_reducible rfl) | simp)
  refine wpAnyH_take (i := 5) (v := ?_) rfl (by kernel_rfl) (by kernel_rfl) (by kernel_rfl) (fun _ _ _ h => h) (Or.inl ⟨by kernel_rfl, ?_⟩) C ?_
  rotate_left
  · (intro W hS; clear hS; go_simp; try (with_reducible rfl))
  refine wpAnyH_take (i := 7) (v := ?_) rfl (by kernel_rfl) (by kernel_rfl) (by kernel_rfl) (fun _ _ _ h => h) (Or.inl ⟨by kernel_rfl, ?_⟩) C ?_
  rotate_left
  · (intro W hS; clear hS; go_simp; try (with_reducible rfl))
  refine wpAnyH_ready (rs := [4]) (by kernel_rfl) (by simp) ?_
  refine AllReadyH.cons rfl (fun K hK => ?_) AllReadyH.nil
  go_simp
  refine (text_any _ _).mono ?_
  rintro e w4 ⟨rfl, hb⟩
  have C := C.trans (hb.mono C.size)
  refine hK.out _ _ C (fun _ => ?_)
  clear hK K hb
  refine wpAnyH_ready (rs := [6]) (by kernel_rfl) (by simp) ?_
  refine AllReadyH.cons rfl (fun K hK => ?_) AllReadyH.nil
  go_simp
  refine (num_any _ _).mono ?_
  rintro e w5 ⟨rfl, hb⟩
  have C := C.trans (hb.mono C.size)
  refine hK.out _ _ C (fun _ => ?_)
  clear hK K hb
  refine wpAnyH_ready (rs := [8]) (by kernel_rfl) (by simp) ?_
  refine AllReadyH.cons rfl (fun K hK => ?_) AllReadyH.nil
  go_simp
  refine (num_any _ _).mono ?_
  rintro e w6 ⟨rfl, hb⟩
  have C := C.trans (hb.mono C.size)
  refine hK.out _ _ C (fun _ => ?_)
  clear hK K hb
  refine wpAnyH_ready (rs := [9]) (by kernel_rfl) (by simp) ?_
  refine AllReadyH.cons rfl (fun K hK => ?_) AllReadyH.nil
  go_simp
  have C7 := C.alloc C.size (.cells #[.int .i64 2, .int .i64 0, .string ⟨#[115, 101, 103]⟩, .slice none 0 0, .int .i64 1, .int .i64 (n : Int), .string ⟨#[]⟩, .slice none 0 0, .int .i64 1, .int .i64 (k : Int), .string ⟨#[]⟩, .slice none 0 0] 115)
  refine hK.out _ _ C7 (fun _ => ?_)
  clear hK K
  refine wpAnyH_ready (rs := [10]) (by kernel_rfl) (by simp) ?_
  refine AllReadyH.cons rfl (fun K hK => ?_) AllReadyH.nil
  go_simp
  refine (list_head w6 n k).mono ?_
  rintro r w8 ⟨y, rfl, hyp, hyin, hb⟩
  have C8 := C7.trans (hb.mono C7.size)
  have hyin8 : y.In w8 (w.heap.size ≤ ·) := It.In.kept ⟨fun b hb _ => ⟨Nat.le_trans (Nat.le_trans H3.out.1.size C7.size) hb, rfl⟩, Nat.le_refl _⟩ y hyin
  have hY := Lib.hid (And.intro hyp hyin8)
  obtain ⟨yk, yn, ys, ya, yc, yl⟩ := y
  simp only [It.val, It.cells, It.k, It.n, It.s, It.a, It.cap, It.l] at hY ⊢
  refine hK.out _ _ C8 (fun _ => ?_)
  clear hK K hb hyp hyin hyin8 C C7
  refine wpAnyH_ready (rs := [11]) (by kernel_rfl) (by simp) ?_
  refine AllReadyH.cons rfl (fun K hK => ?_) AllReadyH.nil
  go_simp
  refine (H3.out.2.2 w8 C8 _ hY.out.2 hY.out.1).mono ?_
  rintro r w9 ⟨rfl, hb⟩
  have C9 := C8.trans (hb.mono C8.size)
  refine hK.out _ _ C9 (fun _ => ?_)
  clear hK K hb C8
  refine wpAnyH_take (i := 12) (v := ?_) rfl (by kernel_rfl) (by kernel_rfl) (by kernel_rfl) (fun _ _ _ h => h) (Or.inl ⟨by kernel_rfl, ?_⟩) C9 ?_
  rotate_left
  · (intro W hS; clear hS; go_simp; try (with_reducible rfl))
  refine wpAnyH_take (i := 13) (v := ?_) rfl (by kernel_rfl) (by kernel_rfl) (by kernel_rfl) (fun _ _ _ h => h) (Or.inl ⟨by kernel_rfl, ?_⟩) C9 ?_
  rotate_left
  · (intro W hS; clear hS; go_simp; try (with_reducible rfl))
  refine wpAnyH_done (by kernel_rfl) ?_ _
  go_simp
  go_wp2_with fail
  go_ret
  exact ⟨rfl, H3.out.1.trans (C9.mono H3.out.1.size)⟩
end Go.Proofs.YtdmbombjkinboaaGreat
