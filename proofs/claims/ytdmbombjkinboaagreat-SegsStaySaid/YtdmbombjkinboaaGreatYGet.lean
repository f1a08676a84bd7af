/- segs: Sync, Get, All; a nil store. -/
import Derived.Test.YtdmbombjkinboaaGreatYApp2
import Derived.Laws.MakeOwn
namespace Go.Proofs.YtdmbombjkinboaaGreat
open Go.RowKit
open Dk Sg Fr

/-- What Sync makes of a store. -/
def syncPub (D : Disk) (S : Stor) : Res := if fellS D S = true then (D, S, 9) else syncS D S
/-- A store whose own cells, and whose disk, have turned. -/
theorem sat_doing {w wc : World} {ρ ρ' : Nat → Nat} {U : Nat → Prop} {s b : Nat} {D D' : Disk} {S S' : Stor} {a ar : Option Addr} {cap cr : Nat} (h : SAt w ρ U s b D S)
    (hd : Hd w s b S (.slice a S.segs.length cap) (.slice ar S.recs.length cr)) (ho : OwnG w a cap S.segs) (hu : ∀ g, (Value.slice a S.segs.length cap).ownBlock = some g → U g) (hor : OwnT 0 w ar cr S.recs) (hur : ∀ g, (Value.slice ar S.recs.length cr).ownBlock = some g → U g)
    (hD : DiskAt wc ρ' b D') (hd' : Hd wc s b S' (.slice a S.segs.length cap) (.slice ar S.recs.length cr)) (e1 : S'.segs = S.segs) (e2 : S'.recs = S.recs) (ht : TouchX (· = s) ρ ρ' w wc) : SAt wc ρ' U s b D' S' ∧ Move ρ U ρ' U w wc := by
  have hlt : ∀ g, U g → g < w.heap.size := fun g hg => (h.off g hg).2
  have ho' : OwnG wc a cap S.segs := ho.same fun g hg => ht.same g (hlt g (hu g hg)) (h.off g (hu g hg)).1 (fun e => OwnG.ne hd ho (by rw [hg, e]))
  have hr' : OwnT 0 wc ar cr S.recs := hor.same fun g hg => ht.same g (hlt g (hur g hg)) (h.off g (hur g hg)).1 (fun e => OwnT.ne hd hor (by rw [hg, e]))
  refine ⟨⟨hD, fun g hg => ⟨(ht.old g (hlt g hg)).trans (h.off g hg).1, Nat.lt_of_lt_of_le (hlt g hg) ht.size⟩, h.us, a, cap, ar, cr, ?_, ?_, ?_, ?_, ?_⟩, ⟨ht.os, ht.tape, ht.output, ht.size, ht.old, fun _ _ => Iff.rfl, fun g hg h0 hx => ht.same g hg h0 (fun e => hx (by rw [e]; exact h.us)), ht.lab⟩⟩
  · rw [e1, e2]; exact hd'
  · rw [e1]; exact ho'
  · rw [e1]; exact hu
  · rw [e2]; exact hr'
  · rw [e2]; exact hur
theorem syncS_keeps (D : Disk) (S : Stor) : (syncS D S).2.1.segs = S.segs ∧ (syncS D S).2.1.recs = S.recs ∧ (syncS D S).2.1.falls = S.falls := by
  unfold syncS andS; split <;> exact ⟨rfl, rfl, rfl⟩
set_option maxRecDepth 100000 in
theorem ssyncp_any {w : World} {ρ : Nat → Nat} {U : Nat → Prop} {s b n : Nat} {D : Disk} {S : Stor} (h : SAt w ρ U s b D S) (hs : Bud n D) (hn : n ≤ 99999980) :
    Calls Tryz.prog 25 #[.pointer (some ⟨s, 0, none⟩)] w fun e w' => e = .returned (.int .i64 (syncPub D S).2.2) ∧ ∃ ρ', SAt w' ρ' U s b (syncPub D S).1 (syncPub D S).2.1 ∧ Move ρ U ρ' U w w' := by
  obtain ⟨a, cap, ar, cr, hd, ho, hu, hor, hur⟩ := h.body
  have hfl := sfell_any h.disk hd
  obtain ⟨fl, hfe⟩ : ∃ fl, fl = fellS D S := ⟨_, rfl⟩
  rw [← hfe] at hfl
  have H := Lib.hid (And.intro h (And.intro hs (And.intro hd (And.intro ho (And.intro hu (And.intro hor (And.intro hur (And.intro hfl hn))))))))
  unfold syncPub
  rw [← hfe]
  clear h hs hd ho hu hor hur hfl hfe hn
  cases fl with
  | true =>
    rw [if_pos rfl]
    go_enter Tryz.func25, Tryz.ntmps25
    go_wp2_with fail
    refine H.out.2.2.2.2.2.2.2.1.mono ?_
    rintro e w1 ⟨rfl, hb1⟩
    have HB := Lib.hid hb1
    clear hb1
    go_wp2_with fail
    go_ret
    exact ⟨rfl, ρ, H.out.1.below HB.out, Move.below HB.out⟩
  | false =>
    rw [if_neg (by decide)]
    go_enter Tryz.func25, Tryz.ntmps25
    go_wp2_with fail
    refine H.out.2.2.2.2.2.2.2.1.mono ?_
    rintro e w1 ⟨rfl, hb1⟩
    have HB := Lib.hid hb1
    have hd1 := H.out.2.2.1.same (hb1.block _ H.out.2.2.1.lt)
    have hsy := ssync_any (H.out.1.disk.below hb1) (H.out.2.1.small (by have := H.out.2.2.2.2.2.2.2.2; omega)) hd1 (H.out.1.off s H.out.1.us).1
    have H1 := Lib.hid (And.intro hsy hd1)
    clear hb1 hsy hd1
    go_wp2_with fail
    refine H1.out.1.mono ?_
    rintro e w2 ⟨rfl, ρ2, hD2, hd2, ht2⟩
    have H2 := Lib.hid (And.intro hD2 (And.intro hd2 ht2))
    clear hD2 hd2 ht2
    go_wp2_with fail
    go_ret
    obtain ⟨k1, k2, -⟩ := syncS_keeps D S
    obtain ⟨m1, m2⟩ := sat_doing (H.out.1.below HB.out) H1.out.2 (H.out.2.2.2.1.call HB.out) H.out.2.2.2.2.1 (H.out.2.2.2.2.2.1.call HB.out) H.out.2.2.2.2.2.2.1 H2.out.1 H2.out.2.1 k1 k2 H2.out.2.2
    exact ⟨rfl, ρ2, m1, (Move.below HB.out).trans m2⟩
theorem ssync_nil (w : World) : Calls Tryz.prog 25 #[.pointer none] w fun e w' => e = .returned (.int .i64 1) ∧ Below w.heap.size w w' := by
  go_enter Tryz.func25, Tryz.ntmps25
  go_wp2_with fail
  go_ret
  exact ⟨rfl, Below.refl _ _⟩
theorem sappend_nil (r : ByteArray) (w : World) : Calls Tryz.prog 24 #[.pointer none, .string r] w fun e w' => e = .returned (.tuple #[.int .i64 0, .int .i64 1]) ∧ Below w.heap.size w w' := by
  go_enter Tryz.func24, Tryz.ntmps24
  go_wp2_with fail
  go_ret2
  exact ⟨rfl, Below.refl _ _⟩
set_option maxRecDepth 100000 in
theorem sget_at {w : World} {s b : Nat} {S : Stor} {vs : Value} {ar : Option Addr} {cr : Nat} (hd : Hd w s b S vs (.slice ar S.recs.length cr)) (ho : OwnT 0 w ar cr S.recs) (i : Nat) (x : ByteArray) (hx : S.recs[i]? = some x) (hxs : x.size ≤ 281474976710656) (_ : S.recs.length ≤ 1000000) :
    Calls Tryz.prog 26 #[.pointer (some ⟨s, 0, none⟩), .int .i64 (i : Int)] w fun e w' => e = .returned (.tuple #[.string x, .bool true]) ∧ Below w.heap.size w w' := by
  have hi : i < S.recs.length := (List.getElem?_eq_some_iff.1 hx).1
  have hl := slen_any hd
  obtain ⟨-, -, -, -, -, q5, -⟩ := hd_cells hd
  obtain ⟨g, o, rfl, hgl, hc⟩ := ho.texts i hi
  rw [List.getD_eq_getElem?_getD, hx, Option.getD_some] at hc
  obtain ⟨N, hN⟩ : ∃ N, N = S.recs.length := ⟨_, rfl⟩
  rw [← hN] at hl q5 hi
  have hcl := fun W => clone_any x W hxs
  have H := Lib.hid (And.intro hl hcl)
  clear hd ho hx hxs hl hN hgl hcl
  go_enter Tryz.func26, Tryz.ntmps26
  go_wp2_with fail
  refine H.out.1.mono ?_
  rintro e w1 ⟨rfl, rfl⟩
  go_wp2_with fail
  refine (H.out.2 _).mono ?_
  rintro e w2 ⟨rfl, hb2⟩
  have HB := Lib.hid hb2
  clear hb2
  go_wp2_with fail
  go_ret2
  exact ⟨rfl, HB.out⟩
theorem sget_nil (i : Int) (hi : -9223372036854775808 ≤ i) (hi2 : i ≤ 9223372036854775807) (w : World) : Calls Tryz.prog 26 #[.pointer none, .int .i64 i] w fun e w' => e = .returned (.tuple #[.string ⟨#[]⟩, .bool false]) ∧ Below w.heap.size w w' := by
  have H := Lib.hid (slen_nil w)
  by_cases h0 : i < 0
  · go_enter Tryz.func26, Tryz.ntmps26
    go_wp2_with fail
    go_ret2
    exact ⟨rfl, Below.refl _ _⟩
  · have h1 : (0 : Int) ≤ i := by omega
    clear h0
    go_enter Tryz.func26, Tryz.ntmps26
    go_wp2_with fail
    refine H.out.mono ?_
    rintro e w1 ⟨rfl, rfl⟩
    go_wp2_with fail
    go_ret2
    exact ⟨rfl, Below.refl _ _⟩
theorem run_make_texts (n : Nat) (h : n ≤ 1000000) (w : World) : (Instr.makeSlice 30 (.int .i64 (n : Int)) (.int .i64 (n : Int))).run Tryz.prog w = .ok (.slice (some ⟨w.heap.size, 0, none⟩) n n) (w.alloc (.cells (madeCells #[.string ⟨#[]⟩] n) 9)) := by
  obtain ⟨i0, hi0, hz0, hz1, hz2⟩ := info_parts Tryz.info_str
  have := run_make (P := Tryz.prog) w 30 9 i0 _ Tryz.underlying30 hi0 hz0 .i64 .i64 n n (by omega) (Int.le_refl _) (by rw [hz2]; omega) (by omega)
  rw [hz1] at this
  simpa [Value.cells] using this
/-- The texts of a row that is being filled. -/
def Filling (w : World) (g n : Nat) (l : List ByteArray) (i : Nat) : Prop := ∃ c : Array Value, w.heap[g]? = some (.cells c 9 (0, 0)) ∧ c.size = n ∧ ∀ j, j < i → c[j]? = some (.string (l.getD j ⟨#[]⟩))
theorem Filling.done {w : World} {g n : Nat} {l : List ByteArray} (h : Filling w g n l n) (hn : l.length = n) (hm : n ≤ maxLen) (B : Nat) (hB : B ≤ g) : OwnT B w (some ⟨g, 0, none⟩) n l := by
  obtain ⟨c, h1, h2, h3⟩ := h
  subst hn
  refine ⟨by simp [scells_length], .inr ⟨g, l.length, c, rfl, hB, h1, Nat.le_refl _, hm, by rw [h2, Nat.mul_one], ?_⟩⟩
  apply List.ext_getElem?
  intro j
  by_cases hj : j < l.length
  · rw [List.getElem?_take_of_lt (by omega), Array.getElem?_toList, h3 j hj]
    simp [scells, hj]
  · rw [List.getElem?_eq_none (by simp [h2]; omega), List.getElem?_eq_none (by rw [scells_length]; omega)]
theorem Filling.next {w : World} {g n i : Nat} {l : List ByteArray} {x : ByteArray} (h : Filling w g n l i) (hi : i < n) (hx : l[i]? = some x) : Filling (w.setCell ⟨g, i, none⟩ (.string x)) g n l (i + 1) := by
  obtain ⟨c, h1, h2, h3⟩ := h
  refine ⟨c.setIfInBounds i (.string x), heap_setCell_same _ _ _ _ _ _ h1, by simp [h2], fun j hj => ?_⟩
  by_cases e : j = i
  · subst e
    rw [Array.getElem?_setIfInBounds_self_of_lt (by omega), List.getD_eq_getElem?_getD, hx]; rfl
  · rw [Array.getElem?_setIfInBounds_ne (fun k => e k.symm)]
    exact h3 j (by omega)
set_option maxRecDepth 100000 in
theorem sall_any {w : World} {s b : Nat} {S : Stor} {vs : Value} {ar : Option Addr} {cr : Nat} (hd : Hd w s b S vs (.slice ar S.recs.length cr)) (ho : OwnT 0 w ar cr S.recs) (hn : S.recs.length ≤ 1000000) (hsz : ∀ x ∈ S.recs, x.size ≤ 281474976710656) :
    Calls Tryz.prog 14 #[.pointer (some ⟨s, 0, none⟩)] w fun e w' => ∃ g, e = .returned (.slice (some ⟨g, 0, none⟩) S.recs.length S.recs.length) ∧ OwnT w.heap.size w' (some ⟨g, 0, none⟩) S.recs.length S.recs ∧ Below w.heap.size w w' := by
  have hl := slen_any hd
  obtain ⟨N, hN⟩ : ∃ N, N = S.recs.length := ⟨_, rfl⟩
  rw [← hN] at hl hn ⊢
  have H := Lib.hid (And.intro hd (And.intro ho (And.intro hsz (And.intro hl hN))))
  clear hd ho hsz hl hN
  have hmk := fun W => run_make_texts N hn W
  go_enter Tryz.func14, Tryz.ntmps14
  go_wp2_with fail
  refine H.out.2.2.2.1.mono ?_
  rintro e w1 ⟨rfl, rfl⟩
  go_wp2_with fail
  have h0 : Filling (w.alloc (.cells (madeCells #[.string ⟨#[]⟩] N) 9)) w.heap.size N S.recs 0 := ⟨_, heap_alloc_new _ _, size_madeCells _ _, fun j hj => absurd hj (by omega)⟩
  have hb0 : Below w.heap.size w (w.alloc (.cells (madeCells #[.string ⟨#[]⟩] N) 9)) := (Below.refl _ _).alloc (Nat.le_refl _) _
  generalize World.alloc w _ = w1 at *
  have H0 := Lib.hid (And.intro h0 hb0)
  clear h0 hb0 hmk
  go_loopw [10, 4] (fun iv _ wr => ∃ i : Nat, i ≤ N ∧ iv = .int .i64 i ∧ Filling wr w.heap.size N S.recs i ∧ Below w.heap.size w wr) (fun iv _ _ => N - (intOf iv).toNat)
  case atStart => exact ⟨0, by omega, rfl, H0.out.1, H0.out.2⟩
  case round =>
    obtain ⟨i, hi, rfl, hf, hb⟩ := hrel
    have HR := Lib.hid (And.intro hf hb)
    clear hf hb
    by_cases hlt : i < N
    · obtain ⟨x, hx⟩ : ∃ x, S.recs[i]? = some x := ⟨_, List.getElem?_eq_getElem (by have := H.out.2.2.2.2; omega)⟩
      have hg := sget_at (H.out.1.same (HR.out.2.block _ H.out.1.lt)) (H.out.2.1.call HR.out.2) i x hx (H.out.2.2.1 x (List.mem_of_getElem? hx)) (by have := H.out.2.2.2.2; omega)
      have HX := Lib.hid (And.intro hx hg)
      clear hx hg
      go_wp2_with fail
      refine HX.out.2.mono ?_
      rintro e w2 ⟨rfl, hb2⟩
      have hf2 : Filling w2 w.heap.size N S.recs i := by
        obtain ⟨c, h1, h2, h3⟩ := HR.out.1
        exact ⟨c, (hb2.block _ (Array.getElem?_eq_some_iff.1 h1).1).trans h1, h2, h3⟩
      have hbb := HR.out.2.trans (hb2.mono HR.out.2.size)
      obtain ⟨c, h1, h2, -⟩ := id hf2
      have hc : ∃ v, w2.cell? ⟨w.heap.size, i, none⟩ = some v := ⟨c[i], by rw [cell_of_row _ _ _ _ _ _ h1]; exact Array.getElem?_eq_getElem (by omega)⟩
      obtain ⟨v, hv⟩ := hc
      have hfz := frozen_of_row _ _ i _ _ h1
      have HB := Lib.hid (And.intro hf2 hbb)
      clear hf2 hbb hb2 h1 h2 c
      go_wp2_with fail
      go_roundw
      case rel => exact ⟨i + 1, by omega, by go_num, HB.out.1.next hlt HX.out.1, HB.out.2.setCell (p := ⟨w.heap.size, i, none⟩) (Nat.le_refl _) _⟩
      case measure => simp [intOf]; omega
    · obtain rfl : i = N := by omega
      go_wp2_with fail
      go_ret
      exact ⟨_, rfl, HR.out.1.done H.out.2.2.2.2.symm (by unfold maxLen; omega) _ (Nat.le_refl _), HR.out.2⟩
theorem sall_nil (w : World) : Calls Tryz.prog 14 #[.pointer none] w fun e w' => ∃ g, e = .returned (.slice (some ⟨g, 0, none⟩) 0 0) ∧ Below w.heap.size w w' := by
  have H := Lib.hid (slen_nil w)
  have hmk : ∀ W, (Instr.makeSlice 30 (.int .i64 0) (.int .i64 0)).run Tryz.prog W = .ok (.slice (some ⟨W.heap.size, 0, none⟩) 0 0) (W.alloc (.cells (madeCells #[.string ⟨#[]⟩] 0) 9)) := fun W => run_make_texts 0 (by decide) W
  go_enter Tryz.func14, Tryz.ntmps14
  go_wp2_with fail
  refine H.out.mono ?_
  rintro e w1 ⟨rfl, rfl⟩
  go_wp2_with fail
  have hb0 : Below w.heap.size w (w.alloc (.cells (madeCells #[.string ⟨#[]⟩] 0) 9)) := (Below.refl _ _).alloc (Nat.le_refl _) _
  generalize World.alloc w _ = w1 at *
  have HB := Lib.hid hb0
  clear hb0 hmk
  go_loop [10] (fun c => c = .int .i64 0) (fun _ => 0)
  case atStart => rfl
  case round =>
    subst hrel
    go_wp2_with fail
    go_ret
    exact ⟨⟨_, rfl⟩, HB.out⟩
end Go.Proofs.YtdmbombjkinboaaGreat
