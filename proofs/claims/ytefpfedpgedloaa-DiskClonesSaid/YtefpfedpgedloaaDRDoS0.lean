/- The reference of disk: Do: a change that may be made, a cut strikes. -/
import Derived.Test.YtefpfedpgedloaaDRDoK
namespace Go.Proofs.Ytefpfedpgedloaa
open Go.RowKit
open Dk

set_option maxRecDepth 100000 in
set_option maxHeartbeats 2000000 in
theorem rdo_struck0 {w : World} {S : Nat → Prop} {cells : Array Value} {R : Disk} (h : RefIn w S cells R) (kind : Nat) (m lg : Nat) (text : ByteArray) (hS : ∀ g, w.heap.size ≤ g → S g) (hF : Fits R.sure R.waits) (hn : R.sure.length ≤ 64) (hw : R.waits.length ≤ 999999) (hd : R.down = false) (hm : m < R.sure.length) (hr0 : 1 ≤ R.room) (hr1 : R.room ≤ 65536) (_ : 0 ≤ R.changes) (_ : R.changes ≤ 1000000000000) (hk0 : kind = 0 → (text.size : Int) ≤ R.room - (exAt R.now m).size) (hl : R.laid = true) (ha0 : R.after ≤ 0) (hF2 : Fits R.sure (R.waits ++ [⟨kind, m, lg, text⟩])) (hf0 : 0 ≤ R.falls) (hf1 : R.falls ≤ 1000000000000) (hkd : kind = 0) :
    Calls Try.prog 32 #[.agg cells, .agg #[.int .i64 (kind : Int), .int .i64 (m : Int), .string text, .int .i64 (lg : Int)]] w fun e w' => ∃ cells', e = .returned (.tuple #[.agg cells', .int .i64 9]) ∧ RefIn w' S cells' (Disk.fail ({ R with waits := R.waits ++ [⟨kind, m, lg, text⟩], laid := false } : Disk) R.keep R.torn) ∧ Below w.heap.size w w' := by
  have hin := h
  obtain ⟨sv, wv, rfl, hsv, hwv⟩ := h
  obtain ⟨sa, sc, rfl⟩ := hsv.form
  obtain ⟨wa, wc, rfl⟩ := hwv.form
  rw [rc_false hd] at hin ⊢
  have hst := doS_start w (rcF R (.slice sa R.sure.length sc) (.slice wa R.waits.length wc)) #[.int .i64 (kind : Int), .int .i64 (m : Int), .string text, .int .i64 (lg : Int)]
  obtain ⟨w1, hw1⟩ : ∃ w1, w1 = ((w.alloc (.cells (rcF R (.slice sa R.sure.length sc) (.slice wa R.waits.length wc)) 32)).alloc (.cells #[.int .i64 (kind : Int), .int .i64 (m : Int), .string text, .int .i64 (lg : Int)] 66)).alloc (.cells zeroRef 32) := ⟨_, rfl⟩
  rw [← hw1] at hst
  have hnow := fun (W : World) (hW : DoS w (rcF R (.slice sa R.sure.length sc) (.slice wa R.waits.length wc)) #[.int .i64 (kind : Int), .int .i64 (m : Int), .string text, .int .i64 (lg : Int)] W) => rnow_any (hW.ref hin) (fun g hg => ⟨hS g (by have := hW.lt; omega), by have := hW.lt; omega, by have := hW.lt; omega, by have := hW.lt; omega⟩) hF hn (by omega)
  have hsz := hF.all.at m
  change (exAt R.now m).size ≤ 65536 at hsz
  obtain ⟨a0, a1, a2, a3, a4, a5, a6, a7, a8, a9⟩ := rcF_cell (R := R) (sv := .slice sa R.sure.length sc) (wv := .slice wa R.waits.length wc) hst.b0
  obtain ⟨x0, x1, x2, x3⟩ := chg_box hst
  obtain ⟨e0, e1, e2, e3, e4, e5, e6, e7, e8, e9, f1⟩ := res_box hst
  have H := Lib.hid (And.intro hin (And.intro hst hnow))
  have hni : (R.sure.length : Int) ≤ 64 := by omega
  have hmi : (m : Int) < R.sure.length := by omega
  obtain ⟨n, hN⟩ : ∃ n, n = R.waits.length := ⟨_, rfl⟩
  have HW := Lib.hid (And.intro hwv (And.intro hsv hS))
  have HN := Lib.hid (And.intro hN.symm (And.intro hl (And.intro hd (And.intro hF2 (And.intro hn (And.intro hf0 hf1))))))
  have hn6 : n ≤ 999999 := by omega
  obtain ⟨s, hs⟩ : ∃ s, s = exAt R.now m := ⟨_, rfl⟩
  rw [← hs] at hk0 hsz
  clear hsv hwv hin hst hd hnow hS hF hn hw hN hl hF2 hf0 hf1
  have k0 : ((kind : Int) == 0) = true := by rw [hkd]; rfl
  have k1 : ((kind : Int) == 1) = false := by rw [hkd]; rfl
  have hf := hk0 hkd
  have hf2 : decide (R.room - (s.size : Int) < (text.size : Int)) = false := by rw [decide_eq_false_iff_not]; omega
  clear hkd hk0 
  unfold rcF zeroRef at *
  go_enter Try.func32, Try.ntmps32
  go_upto_region 1 with fail
  rw [← hw1]
  clear hw1
  go_wp2_with fail
  clear a0 a1 a2 a3 a4 a5 a6 a7 a8 a9 x0 x1 x2 x3 e0 e1 e2 e3 e4 e5 e6 e7 e8 e9 f1
  have C := H.out.2.1.drew
  refine wp_region_held (S := DoS w (rcF R (.slice sa R.sure.length sc) (.slice wa R.waits.length wc)) #[.int .i64 (kind : Int), .int .i64 (m : Int), .string text, .int .i64 (lg : Int)]) (by kernel_rfl) ?_
  change wpAnyH _ _ _ _ _ _ _ _ (World.drew _)
  generalize World.drew _ = wh at *
  refine wpAnyH_take (i := 0) (v := ?_) rfl (by kernel_rfl) (by kernel_rfl) (by kernel_rfl) (fun _ _ _ h => h) (Or.inl ⟨by kernel_rfl, ?_⟩) C ?_
  rotate_left
  · (intro W hS; obtain ⟨a0, a1, a2, a3, a4, a5, a6, a7, a8, a9⟩ := rcF_cell (R := R) (sv := .slice sa R.sure.length sc) (wv := .slice wa R.waits.length wc) hS.b0; clear hS; go_simp; try (with_reducible rfl))
  refine wpAnyH_take (i := 2) (v := ?_) rfl (by kernel_rfl) (by kernel_rfl) (by kernel_rfl) (fun _ _ _ h => h) (Or.inl ⟨by kernel_rfl, ?_⟩) C ?_
  rotate_left
  · (intro W hS; clear hS; go_simp; try (with_reducible rfl))
  refine wpAnyH_take (i := 3) (v := ?_) rfl (by kernel_rfl) (by kernel_rfl) (by kernel_rfl) (fun _ _ _ h => h) (Or.inl ⟨by kernel_rfl, ?_⟩) C ?_
  rotate_left
  · (intro W hS; obtain ⟨x0, x1, x2, x3⟩ := chg_box hS; clear hS; go_simp; try (with_reducible rfl))
  refine wpAnyH_ready (rs := [1]) (by kernel_rfl) (by simp) ?_
  refine AllReadyH.cons rfl (fun K hK => ?_) AllReadyH.nil
  go_simp
  refine (H.out.2.2 wh C).mono ?_
  rintro e w2 ⟨v2, rfl, ht2, hb2⟩
  have C := C.call hb2
  refine hK.out _ _ C (fun _ => ?_)
  clear hK K hb2
  obtain ⟨av, cv, rfl⟩ := ht2.form
  rw [R.now_length] at ht2 ⊢
  obtain ⟨g, rfl, hg, q⟩ := ht2.at (show m < R.now.length by rw [R.now_length]; exact hm)
  refine wpAnyH_take (i := 4) (v := ?_) rfl (by kernel_rfl) (by kernel_rfl) (by kernel_rfl) (fun _ _ _ h => h) (Or.inl ⟨by kernel_rfl, ?_⟩) C ?_
  rotate_left
  · (intro W hS; clear hS; go_simp; try (with_reducible rfl))
  refine wpAnyH_ready (rs := [5]) (by kernel_rfl) (by simp) ?_
  refine AllReadyH.cons rfl (fun K hK => ?_) AllReadyH.nil
  go_simp
  refine hK.out _ _ C (fun _ => ?_)
  clear hK K
  refine wpAnyH_take (i := 6) (v := ?_) rfl (by kernel_rfl) (by kernel_rfl) (by kernel_rfl) (fun _ _ _ h => h) (Or.inl ⟨by kernel_rfl, ?_⟩) C ?_
  rotate_left
  · (intro W hS; clear hS; go_simp; try (with_reducible rfl))
  refine wpAnyH_done (by kernel_rfl) ?_ _
  rw [← hs]
  clear hs
  obtain ⟨a0, a1, a2, a3, a4, a5, a6, a7, a8, a9⟩ := rcF_cell (R := R) (sv := .slice sa R.sure.length sc) (wv := .slice wa R.waits.length wc) C.b0
  obtain ⟨x0, x1, x2, x3⟩ := chg_box C
  obtain ⟨e0, e1, e2, e3, e4, e5, e6, e7, e8, e9, f1⟩ := res_box C
  have hn3 := C.lt
  have HC := Lib.hid C
  clear C ht2 q
  rw [HN.out.1] at a2
  go_wp2_with fail
  clear a0 a1 a2 a3 a4 a5 a6 a7 a8 a9 x0 x1 x2 x3 e0 e1 e2 e3 e4 e5 e6 e7 e8 e9 f1
  go_loopw [7, 8] (fun v i wr => ∃ (k : Nat) (ad : Option Addr) (cp : Nat), k ≤ n ∧ i = .int .i64 k ∧ v = .slice ad k cp ∧ OwnC (w.heap.size + 3) wr ad cp (R.waits.take k) ∧ Below (w.heap.size + 3) w2 wr) (fun _ i _ => n - (intOf i).toNat)
  case atStart => exact ⟨0, none, 0, by omega, rfl, rfl, OwnC.nil _ _, Below.refl _ _⟩
  case round =>
    obtain ⟨k, ad, cp, hk, rfl, rfl, ho, hb⟩ := hrel
    have C := HC.out.later hb
    have hz := hb.size
    by_cases hlt : k < n
    · obtain ⟨a0, a1, a2, -⟩ := rcF_cell (R := R) (sv := .slice sa R.sure.length sc) (wv := .slice wa R.waits.length wc) C.b0
      rw [HN.out.1] at a2
      obtain ⟨c, hc⟩ : ∃ c, R.waits[k]? = some c := ⟨_, List.getElem?_eq_getElem (by have := HN.out.1; omega)⟩
      obtain ⟨g, rfl, hg, hgS, c0, c1, c2, c3⟩ := (HW.out.1.kept (keptS_below C.below)).at hc
      have HR := Lib.hid (And.intro ho (And.intro hb (And.intro hc (show (R.waits.take k).length = k by rw [List.length_take]; have := HN.out.1; omega))))
      clear ho hb hc C
      go_wp2_with (at_builtin; (refine wpList_append_chg (w0 := w2) rfl (.tmp 69) (.tmp 75) rfl (HR.out.1.below ((Below.refl _ _).alloc (Nat.le_refl _) _)) k HR.out.2.2.2 rfl wr.heap.size 1 c rfl (heap_alloc_new wr _) (by omega) (by simp; omega) (HR.out.2.1.alloc (by omega) _) ?_; intro g1 cap1 w4 hown1 hb1 hz1; have HX := Lib.hid (And.intro hown1 hb1); clear hown1 hb1 hz1))
      go_roundw
      case rel => exact ⟨k + 1, _, cap1, by omega, by go_num, rfl, by rw [List.take_add_one, HR.out.2.2.1]; exact HX.out.1, HX.out.2⟩
      case measure => simp [intOf]; omega
    · obtain rfl : k = n := by omega
      rw [show R.waits.take k = R.waits by rw [← HN.out.1, List.take_length]] at ho
      obtain ⟨a0, a1, a2, a3, a4, a5, a6, a7, a8, a9⟩ := rcF_cell (R := R) (sv := .slice sa R.sure.length sc) (wv := .slice wa R.waits.length wc) C.b0
      obtain ⟨x0, x1, x2, x3⟩ := chg_box C
      obtain ⟨e0, e1, e2, e3, e4, e5, e6, e7, e8, e9, f1⟩ := res_box C
      rw [HN.out.1] at a2
      have HR := Lib.hid (And.intro ho hb)
      clear ho hb C
      go_wp2_with (at_builtin; (refine wpList_append_chg (w0 := w2) rfl (.tmp 77) (.tmp 79) rfl (HR.out.1.below ((Below.refl _ _).alloc (Nat.le_refl _) _)) k HN.out.1 rfl wr.heap.size 1 ⟨kind, m, lg, text⟩ rfl (heap_alloc_new wr _) (by omega) (by simp; omega) (HR.out.2.alloc (by omega) _) ?_; intro g5 cap5 w5 hown1 hb1 hz1; clear a0 a1 a2 a3 a4 a5 a6 a7 a8 a9 x0 x1 x2 x3 e0 e1 e2 e3 e4 e5 e6 e7 e8 e9 f1; have C5 := HC.out.later hb1; obtain ⟨a0, a1, a2, a3, a4, a5, a6, a7, a8, a9⟩ := rcF_cell (R := R) (sv := .slice sa R.sure.length sc) (wv := .slice wa R.waits.length wc) C5.b0; rw [HN.out.1] at a2; rw [HN.out.2.1] at a9; obtain ⟨x0, x1, x2, x3⟩ := chg_box C5; obtain ⟨e0, e1, e2, e3, e4, e5, e6, e7, e8, e9, f1⟩ := res_box C5; have f0 : ∀ j, w5.frozen? ⟨w.heap.size, j, none⟩ = false := fun j => frozen_of_row _ _ _ _ _ C5.b0; have hbW : Below w5.heap.size w5 (w5.alloc (.cells #[.int .i64 R.room, .slice sa R.sure.length sc, .slice (some ⟨g5, 0, none⟩) (k + 1) cap5, .int .i64 R.changes, .int .i64 R.falls, .bool false, .int .i64 R.after, .int .i64 R.keep, .int .i64 R.torn, .bool false] 32)) := (Below.refl _ _).alloc (Nat.le_refl _) _; have CW := C5.call hbW; obtain ⟨-, -, -, -, -, -, -, b7, b8, -⟩ := rcF_cell (R := R) (sv := .slice sa R.sure.length sc) (wv := .slice wa R.waits.length wc) CW.b0; have HW2 := Lib.hid (And.intro hbW CW); clear hbW CW; have H5 := Lib.hid (And.intro hown1 C5); clear hown1 hb1 hz1 C5))
      have hR1 : RefIn w5 (Apart3 S w.heap.size) #[.int .i64 R.room, .slice sa R.sure.length sc, .slice (some ⟨g5, 0, none⟩) (k + 1) cap5, .int .i64 R.changes, .int .i64 R.falls, .bool false, .int .i64 R.after, .int .i64 R.keep, .int .i64 R.torn, .bool false] ({ R with waits := R.waits ++ [⟨kind, m, lg, text⟩], laid := false } : Disk) := by
        refine ⟨.slice sa R.sure.length sc, .slice (some ⟨g5, 0, none⟩) (k + 1) cap5, by unfold refCells; rw [HN.out.2.2.1], (HW.out.2.1.kept (T := Apart3 S w.heap.size) (w' := w5) ⟨fun b hs hb => ⟨⟨hs, by omega, by omega, by omega⟩, H5.out.2.below.block b hb⟩, H5.out.2.below.size⟩), ?_⟩
        have := H5.out.1.chgs (S := Apart3 S w.heap.size) (fun g hg => ⟨HW.out.2.2 g (by omega), by omega, by omega, by omega⟩)
        rw [List.length_append, HN.out.1] at this
        exact this
      have hfl := fun W (hW : Below w5.heap.size w5 W) => rfail_any (hR1.kept (keptS_below hW)) (fun g hg => ⟨HW.out.2.2 g (by have := hW.size; have := H5.out.2.lt; omega), by have := hW.size; have := H5.out.2.lt; omega, by have := hW.size; have := H5.out.2.lt; omega, by have := hW.size; have := H5.out.2.lt; omega⟩) HN.out.2.2.2.1 HN.out.2.2.2.2.1 (by show (R.waits ++ [_]).length ≤ _; rw [List.length_append, HN.out.1]; show k + 1 ≤ _; omega) HN.out.2.2.2.2.2.1 HN.out.2.2.2.2.2.2 R.keep R.torn
      have HF := Lib.hid hfl
      clear hR1 hfl
      trace_state
      refine (HF.out _ HW2.out.1).mono ?_
      rintro e w6 ⟨cells6, rfl, hR6, hb6⟩
      clear a0 a1 a2 a3 a4 a5 a6 a7 a8 a9 x0 x1 x2 x3 b7 b8 e0 e1 e2 e3 e4 e5 e6 e7 e8 e9 f1 f0
      have C6 := HW2.out.2.call hb6
      obtain ⟨e0, e1, e2, e3, e4, e5, e6, e7, e8, e9, f1⟩ := res_box C6
      have hfe : Disk.fail ({ R with waits := R.waits ++ [⟨kind, m, lg, text⟩], laid := false } : Disk) R.keep R.torn = { ({ R with waits := R.waits ++ [⟨kind, m, lg, text⟩], laid := false } : Disk) with sure := madeAll R.sure (kept (R.waits ++ [⟨kind, m, lg, text⟩]) R.keep R.torn), waits := [], falls := R.falls + 1, down := true } := if_neg (by show R.down ≠ true; rw [HN.out.2.2.1]; simp)
      obtain ⟨F, hFF⟩ : ∃ F, F = ({ ({ R with waits := R.waits ++ [⟨kind, m, lg, text⟩], laid := false } : Disk) with sure := madeAll R.sure (kept (R.waits ++ [⟨kind, m, lg, text⟩]) R.keep R.torn), waits := [], falls := R.falls + 1, down := true } : Disk) := ⟨_, rfl⟩
      rw [← hFF] at hR6 hfe
      clear hFF
      have hR6' := hR6
      obtain ⟨sv6, wv6, rfl, ht6, hc6⟩ := hR6
      obtain ⟨sa6, sc6, rfl⟩ := ht6.form
      obtain ⟨wa6, wc6, rfl⟩ := hc6.form
      have H6 := Lib.hid (And.intro hR6' (And.intro C6 hfe))
      clear hR6' C6 ht6 hc6 hb6 hfe
      unfold refCells
      go_wp2_with fail
      refine bodyPost_ret (v := .tuple #[.agg #[.int .i64 F.room, .slice sa6 F.sure.length sc6, .slice wa6 F.waits.length wc6, .int .i64 F.changes, .int .i64 F.falls, .bool F.down, .int .i64 F.after, .int .i64 F.keep, .int .i64 F.torn, .bool F.laid], .int .i64 9]) (by simp [results, Try.results32, go_sem, e0, e1, e2, e3, e4, e5, e6, e7, e8, e9]) rfl ?_
      have hkp := endS S H6.out.2.1.below H6.out.2.1.lt (refCells F (.slice sa6 F.sure.length sc6) (.slice wa6 F.waits.length wc6)).toList
      rw [H6.out.2.2]
      exact ⟨_, rfl, H6.out.1.kept hkp.1, hkp.2⟩
end Go.Proofs.Ytefpfedpgedloaa
