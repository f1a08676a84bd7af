/- Merged by program: The reference of seal: Number (lockboxref16). | The reference of seal: Open (lockboxref16). -/
import Derived.Test.YtgoimggfpagojaaGreatDoorSL1
import Derived.Test.YtgoimggfpagojaaGreatDoorCRX
import Derived.BigQuiet
import Derived.Deep.QuietTactic
import Derived.Deep.RegionHeld
namespace Go.Proofs.YtgoimggfpagojaaGreatDoor
open Go.RowKit
open Cn

theorem rdS_rerr {s : ByteArray} {e : Int} (h : rdecR s.data.toList = .error e) : rdS s = none := by rw [← rdS_ref, h]; rfl
/-- What Number answers, as values, of what was read. -/
def numO : Option (Int × ByteArray × ByteArray) → Value
  | none => .tuple #[.int .i64 0, .int .i64 3]
  | some x => .tuple #[.int .i64 x.1, .int .i64 0]
theorem numO_eq (s : ByteArray) : numV (numE' s) = numO (rdS s) := by
  unfold numE' numO
  cases rdS s <;> rfl
theorem rdS_dec {s : ByteArray} {n : Int} {t c : ByteArray} (h : rdS s = some (n, t, c)) : decR s.data.toList = .ok (slT n t c) := by
  obtain ⟨hn, ht, hc, hs⟩ := rdS_inv h
  rw [← hs]
  unfold slS
  rw [str_data]
  exact decR_bytes (slT_may hn (by omega) (by omega)) (Nat.le_trans (slT_len hn (by omega) (by omega)) (by decide))
set_option maxRecDepth 100000 in
set_option maxHeartbeats 2000000 in
theorem rnumber16_any (s : ByteArray) (hs : s.size ≤ 1000000000) (w : World) : Calls Tryz.prog 8 #[.string s] w fun e w' => e = .returned (numV (numE' s)) ∧ Below w.heap.size w w' := by
  have hd := rdecode_any s (by unfold maxLen; omega) w
  obtain ⟨R, hR⟩ : ∃ R, R = rdecR s.data.toList := ⟨_, rfl⟩
  obtain ⟨V, hV⟩ : ∃ V, V = rdS s := ⟨_, rfl⟩
  rw [← hR] at hd
  rw [numO_eq, ← hV]
  have H := Lib.hid (And.intro hd (And.intro hV hR))
  clear hd hR hV hs
  go_enter Tryz.func8, Tryz.ntmps8
  go_wp2_with fail
  refine H.out.1.mono ?_
  rintro e w2 ⟨hb, hres⟩
  cases R with
  | error x =>
    obtain ⟨hx, rfl⟩ := hres
    have hx0 : (x != 0) = true := by simpa using hx
    have hx1 : (x == 0) = false := by simpa using hx
    obtain ⟨w3, hw3⟩ : ∃ w3, w3 = w2.alloc (.cells #[.int .i64 0, .int .i64 0, .string ⟨#[]⟩, .slice none 0 0] 45) := ⟨_, rfl⟩
    have hb3 : Below w.heap.size w w3 := by rw [hw3]; exact hb.alloc hb.size _
    have HV := Lib.hid (And.intro (H.out.2.1.trans (rdS_rerr H.out.2.2.symm)) hb3)
    clear hb hb3 hx
    simp only [zeroIt]
    go_upto_region 2 with fail
    rw [← hw3]
    clear hw3
    go_wp2_with fail
    go_ret2
    exact ⟨by rw [HV.out.1]; rfl, HV.out.2⟩
  | ok x =>
    obtain ⟨it, hpi, rfl, hin⟩ := hres
    have hdx := decR_of H.out.2.2.symm
    have hmx := (decR_ok hdx).2.1
    obtain ⟨yk, yn, ys0, ya, yc, yl⟩ := it
    obtain ⟨w3, hw3⟩ : ∃ w3, w3 = w2.alloc (.cells #[.int .i64 yk, .int .i64 yn, .string ys0, .slice ya yl.length yc] 45) := ⟨_, rfl⟩
    have hb3 : Below w2.heap.size w2 w3 := by rw [hw3]; exact (Below.refl _ _).alloc (Nat.le_refl _) _
    have hg3 : w3.heap[w2.heap.size]? = some (.cells #[.int .i64 yk, .int .i64 yn, .string ys0, .slice ya yl.length yc] 45 (0, 0)) := by rw [hw3]; exact heap_alloc_new _ _
    have hin3 : It.In w3 (w.heap.size ≤ ·) (.mk yk yn ys0 ya yc yl) := It.In.kept (keptS_any hb3) _ hin
    have hsh := refshape_any _ _ ⟨#[110, 116, 100]⟩ w3 hin3
    have hN : (ByteArray.mk #[110, 116, 100]).data.toList = ntd := rfl
    rw [hN, hpi] at hsh
    simp only [It.val, It.cells, It.k, It.n, It.s, It.a, It.cap, It.l] at hsh ⊢
    have B3 := hb.trans (hb3.mono hb.size)
    obtain ⟨i0, i1, i2, i3⟩ : w3.cell? ⟨w2.heap.size, 0, none⟩ = some (.int .i64 yk) ∧ w3.cell? ⟨w2.heap.size, 1, none⟩ = some (.int .i64 yn) ∧ w3.cell? ⟨w2.heap.size, 2, none⟩ = some (.string ys0) ∧ w3.cell? ⟨w2.heap.size, 3, none⟩ = some (.slice ya yl.length yc) := by refine ⟨?_, ?_, ?_, ?_⟩ <;> (rw [cell_of_row _ _ _ _ _ _ hg3]; rfl)
    cases hP : shapeP x ntd with
    | false =>
      rw [hP] at hsh
      have HV := Lib.hid (And.intro (H.out.2.1.trans (rdS_shape hdx hP)) (And.intro hsh B3))
      clear hb hb3 hin hin3 hg3 hsh hN hpi B3 hP hmx hdx
      go_upto_region 2 with fail
      rw [← hw3]
      clear hw3
      go_wp2_with fail
      refine HV.out.2.1.mono ?_
      rintro e w4 ⟨rfl, hb4⟩
      have H4 := Lib.hid (HV.out.2.2.trans (hb4.mono HV.out.2.2.size))
      clear hb4 i0 i1 i2 i3
      go_wp2_with fail
      go_ret2
      exact ⟨by rw [HV.out.1]; rfl, H4.out⟩
    | true =>
      rw [hP] at hsh
      obtain ⟨n, t, c, rfl, hn, hc⟩ := shape_ntd hmx hP
      have hpl : It.pureAll yl = [numT n, txtT t, txtT c] := by
        rw [It.pure] at hpi
        unfold slT lstT at hpi
        injection hpi with _ _ _ e
      have h3 : yl.length = 3 := by rw [← It.pureAll_length, hpl]; rfl
      obtain ⟨b, o, rfl, hbl, -, hrow⟩ := hin3.2.1.row (by show 0 < yl.length; omega)
      have r0 := row_num (j := 0) (n := n) hrow (by rw [hpl]; rfl)
      have r1 := row_txt (j := 1) (s := t) hrow (by rw [hpl]; rfl)
      have hz3 := lt_of_heap hg3
      rw [h3] at i3 hsh hw3 ⊢
      have HF := Lib.hid (And.intro i3 (And.intro r0 (And.intro r1 (And.intro hz3 hbl))))
      have HS := Lib.hid (And.intro hsh (And.intro B3 (And.intro H.out.2.1 (And.intro hdx hP))))
      clear hb hb3 hin hin3 hg3 hsh hN hpi B3 hP hmx hn hc hpl h3 hrow r0 r1 hz3 hbl hdx
      go_upto_region 2 with fail
      rw [← hw3]
      clear hw3
      go_wp2_with fail
      refine HS.out.1.mono ?_
      rintro e w4 ⟨rfl, hb4⟩
      have j3 : w4.cell? ⟨w2.heap.size, 3, none⟩ = some (.slice (some ⟨b, o, none⟩) 3 yc) := (hb4.cell (p := ⟨w2.heap.size, 3, none⟩) HF.out.2.2.2.1).trans HF.out.1
      have q0 : w4.cell? ⟨b, o + 1, none⟩ = some (.int .i64 n) := (hb4.cell (p := ⟨b, o + 1, none⟩) HF.out.2.2.2.2).trans HF.out.2.1
      have q1 : w4.cell? ⟨b, o + 6, none⟩ = some (.string t) := (hb4.cell (p := ⟨b, o + 6, none⟩) HF.out.2.2.2.2).trans HF.out.2.2.1
      have H4 := Lib.hid (HS.out.2.1.trans (hb4.mono HS.out.2.1.size))
      clear hb4 i0 i1 i2 i3
      by_cases h10 : 1024 < t.size
      · have h10i : (1024 : Int) < (t.size : Int) := by omega
        have HV := Lib.hid (HS.out.2.2.1.trans (rdS_long HS.out.2.2.2.1 h10))
        clear h10
        go_wp2_with fail
        go_ret2
        exact ⟨by rw [HV.out]; rfl, H4.out⟩
      · have h10i : ¬ ((1024 : Int) < (t.size : Int)) := by omega
        have HV := Lib.hid (HS.out.2.2.1.trans (rdS_good HS.out.2.2.2.1 HS.out.2.2.2.2 h10))
        clear h10
        go_wp2_with fail
        go_ret2
        exact ⟨by rw [HV.out]; rfl, H4.out⟩
end Go.Proofs.YtgoimggfpagojaaGreatDoor
namespace Go.Proofs.YtgoimggfpagojaaGreatDoor
open Go.RowKit
open Cn

set_option maxRecDepth 100000 in
set_option maxHeartbeats 4000000 in
theorem ropen16_any (key : ByteArray) (n : Int) (s : ByteArray) (hk : key.size ≤ 1000000) (hs : s.size ≤ 1000000000) (w : World) : Calls Tryz.prog 6 #[.string key, .int .i64 n, .string s] w fun e w' => e = .returned (sealV (openE key n s)) ∧ Below w.heap.size w w' := by
  have hask := fun W => rask16_any key n W
  have hp := fun W : World => rnumber16_any s hs W
  obtain ⟨Q, hQ2⟩ : ∃ Q, Q = askP key n := ⟨_, rfl⟩
  obtain ⟨R, hR⟩ : ∃ R, R = sealV (openE key n s) := ⟨_, rfl⟩
  rw [← hQ2] at hask
  rw [← hR]
  simp only [numO_eq] at hp
  by_cases h0 : Q = 0
  · have h0' : ¬ (askP key n ≠ 0) := by rw [← hQ2]; exact fun h => h h0
    cases h : rdS s with
    | none =>
      rw [h] at hp
      unfold numO at hp
      have hRe : R = .tuple #[.string ⟨#[]⟩, .int .i64 3] := by rw [hR]; unfold openE sealV; rw [if_neg h0', h]
      have HM := Lib.hid (And.intro hask (And.intro hp hRe))
      clear hask hp hRe hR hQ2 h h0'
      go_enter Tryz.func6, Tryz.ntmps6
      go_wp2_with fail
      refine (HM.out.1 _).mono ?_
      rintro e w1 ⟨rfl, hb1⟩
      have H1 := Lib.hid hb1
      clear hb1
      go_wp2_with fail
      refine (HM.out.2.1 _).mono ?_
      rintro e w2 ⟨rfl, hb2⟩
      have H2 := Lib.hid (sbelow_call H1.out hb2)
      clear hb2
      go_wp2_with fail
      go_ret2
      exact ⟨by rw [HM.out.2.2]; rfl, H2.out⟩
    | some x =>
      obtain ⟨m, t, c⟩ := x
      rw [h] at hp
      unfold numO at hp
      obtain ⟨hn, ht, hc, -⟩ := rdS_inv h
      have hdx := rdecR_of (rdS_dec h)
      by_cases hm : m = n
      · subst hm
        have hd := fun W => rdecode_any s (by unfold maxLen; omega) W
        rw [hdx] at hd
        have hcode := fun (W : World) => rcode16_any key m t hk hn (by omega) W
        obtain ⟨C, hC⟩ : ∃ C, C = codP key m t := ⟨_, rfl⟩
        have hmm : (m == m) = true := by simp
        have hturn := fun (W : World) => rturn16_any key m t hk W
        have hRe : R = if C.toList == c.toList then .tuple #[.string (trnP key m t), .int .i64 0] else .tuple #[.string ⟨#[]⟩, .int .i64 8] := by
          rw [hR]; unfold openE sealV; rw [if_neg h0', h]; simp only
          rw [if_neg (fun e => e rfl)]
          cases e : (C.toList == c.toList) with
          | true =>
            have e2 : C.toList = c.toList := by simpa using e
            have e3 : C = c := by
              apply ByteArray.ext
              rw [ByteArray.toList_eq, ByteArray.toList_eq] at e2
              exact Array.toList_inj.1 e2
            rw [if_neg (by rw [← hC]; exact fun e => e e3), if_pos rfl]
          | false =>
            rw [if_pos (by rw [← hC]; rintro rfl; simp at e), if_neg (by decide)]
        rw [← hC] at hcode
        obtain ⟨T, hT⟩ : ∃ T, T = trnP key m t := ⟨_, rfl⟩
        rw [← hT] at hturn hRe
        have HM := Lib.hid (And.intro hask (And.intro hp (And.intro hd (And.intro hcode (And.intro hturn hRe)))))
        clear hask hp hd hcode hturn hRe hR hQ2 h h0' hT hC hn ht hc hdx hk
        go_enter Tryz.func6, Tryz.ntmps6
        go_wp2_with fail
        refine (HM.out.1 _).mono ?_
        rintro e w1 ⟨rfl, hb1⟩
        have H1 := Lib.hid hb1
        clear hb1
        go_wp2_with fail
        refine (HM.out.2.1 _).mono ?_
        rintro e w2 ⟨rfl, hb2⟩
        have H2 := Lib.hid (sbelow_call H1.out hb2)
        clear hb2
        go_wp2_with fail
        refine (HM.out.2.2.1 _).mono ?_
        rintro e w5 ⟨hb5, hres⟩
        obtain ⟨it, hpi, rfl, hin⟩ := hres
        obtain ⟨yk, yn, ys0, ya, yc, yl⟩ := it
        obtain ⟨w3, hw3⟩ : ∃ w3, w3 = w5.alloc (.cells #[.int .i64 yk, .int .i64 yn, .string ys0, .slice ya yl.length yc] 45) := ⟨_, rfl⟩
        have hb3 : Below w5.heap.size w5 w3 := by rw [hw3]; exact (Below.refl _ _).alloc (Nat.le_refl _) _
        have hg3 : w3.heap[w5.heap.size]? = some (.cells #[.int .i64 yk, .int .i64 yn, .string ys0, .slice ya yl.length yc] 45 (0, 0)) := by rw [hw3]; exact heap_alloc_new _ _
        have hin3 : It.In w3 (w2.heap.size ≤ ·) (.mk yk yn ys0 ya yc yl) := It.In.kept (keptS_any hb3) _ hin
        simp only [It.val, It.cells, It.k, It.n, It.s, It.a, It.cap, It.l]
        have B3 := (sbelow_call H2.out hb5).trans (hb3.mono (sbelow_call H2.out hb5).size)
        obtain ⟨i0, i1, i2, i3⟩ : w3.cell? ⟨w5.heap.size, 0, none⟩ = some (.int .i64 yk) ∧ w3.cell? ⟨w5.heap.size, 1, none⟩ = some (.int .i64 yn) ∧ w3.cell? ⟨w5.heap.size, 2, none⟩ = some (.string ys0) ∧ w3.cell? ⟨w5.heap.size, 3, none⟩ = some (.slice ya yl.length yc) := by refine ⟨?_, ?_, ?_, ?_⟩ <;> (rw [cell_of_row _ _ _ _ _ _ hg3]; rfl)
        have hpl : It.pureAll yl = [numT m, txtT t, txtT c] := by
          rw [It.pure] at hpi
          unfold slT lstT at hpi
          injection hpi with _ _ _ e
        have h3 : yl.length = 3 := by rw [← It.pureAll_length, hpl]; rfl
        obtain ⟨b, o, rfl, hbl, -, hrow⟩ := hin3.2.1.row (by show 0 < yl.length; omega)
        have r1 := row_txt (j := 1) (s := t) hrow (by rw [hpl]; rfl)
        have r2 := row_txt (j := 2) (s := c) hrow (by rw [hpl]; rfl)
        have hz3 := lt_of_heap hg3
        rw [h3] at i3 hw3 ⊢
        have HF := Lib.hid (And.intro i3 (And.intro r1 (And.intro r2 (And.intro hz3 (And.intro hbl B3)))))
        clear hb5 hb3 hin hin3 hg3 hpi B3 hpl h3 hrow r1 r2 hz3 hbl
        go_upto_region 8 with fail
        rw [← hw3]
        clear hw3
        refine wp_region_held (S := fun W : World => W.cell? ⟨w5.heap.size, 3, none⟩ = some (.slice (some ⟨b, o, none⟩) 3 yc) ∧ W.cell? ⟨b, o + 6, none⟩ = some (.string t) ∧ W.cell? ⟨b, o + 10, none⟩ = some (.string c)) (by kernel_rfl) ?_
        change wpAnyH _ _ _ _ _ _ _ _ (World.drew _)
        generalize hv0 : World.drew _ = v0
        have Q0 : Below w3.heap.size w3 v0 := by rw [← hv0]; exact (Below.refl _ _).drew
        have E0 : v0.cell? ⟨w5.heap.size, 3, none⟩ = some (.slice (some ⟨b, o, none⟩) 3 yc) ∧ v0.cell? ⟨b, o + 6, none⟩ = some (.string t) ∧ v0.cell? ⟨b, o + 10, none⟩ = some (.string c) := ⟨(Q0.cell (p := ⟨w5.heap.size, 3, none⟩) HF.out.2.2.2.1).trans HF.out.1, (Q0.cell (p := ⟨b, o + 6, none⟩) HF.out.2.2.2.2.1).trans HF.out.2.1, (Q0.cell (p := ⟨b, o + 10, none⟩) HF.out.2.2.2.2.1).trans HF.out.2.2.1⟩
        have F0 : Below w.heap.size w v0 := HF.out.2.2.2.2.2.trans (Q0.mono HF.out.2.2.2.2.2.size)
        clear hv0 i0 i1 i2 i3
        refine wpAnyH_take (i := 0) (v := ?_) rfl (by kernel_rfl) (by kernel_rfl) (by kernel_rfl) (fun _ _ _ h => h) (Or.inl ⟨by kernel_rfl, ?_⟩) E0 ?_
        rotate_left
        · (intro W hS; obtain ⟨g0, g1, g2⟩ := hS; go_simp; try (with_reducible rfl))
        refine wpAnyH_take (i := 1) (v := ?_) rfl (by kernel_rfl) (by kernel_rfl) (by kernel_rfl) (fun _ _ _ h => h) (Or.inl ⟨by kernel_rfl, ?_⟩) E0 ?_
        rotate_left
        · (intro W hS; obtain ⟨g0, g1, g2⟩ := hS; go_simp; try (with_reducible rfl))
        refine wpAnyH_take (i := 2) (v := ?_) rfl (by kernel_rfl) (by kernel_rfl) (by kernel_rfl) (fun _ _ _ h => h) (Or.inl ⟨by kernel_rfl, ?_⟩) E0 ?_
        rotate_left
        · (intro W hS; obtain ⟨g0, g1, g2⟩ := hS; go_simp; try (with_reducible rfl))
        refine wpAnyH_take (i := 3) (v := ?_) rfl (by kernel_rfl) (by kernel_rfl) (by kernel_rfl) (fun _ _ _ h => h) (Or.inl ⟨by kernel_rfl, ?_⟩) E0 ?_
        rotate_left
        · (intro W hS; obtain ⟨g0, g1, g2⟩ := hS; go_simp; try (with_reducible rfl))
        refine wpAnyH_take (i := 4) (v := ?_) rfl (by kernel_rfl) (by kernel_rfl) (by kernel_rfl) (fun _ _ _ h => h) (Or.inl ⟨by kernel_rfl, ?_⟩) E0 ?_
        rotate_left
        · (intro W hS; obtain ⟨g0, g1, g2⟩ := hS; go_simp; try (with_reducible rfl))
        refine wpAnyH_take (i := 5) (v := ?_) rfl (by kernel_rfl) (by kernel_rfl) (by kernel_rfl) (fun _ _ _ h => h) (Or.inl ⟨by kernel_rfl, ?_⟩) E0 ?_
        rotate_left
        · (intro W hS; obtain ⟨g0, g1, g2⟩ := hS; go_simp; try (with_reducible rfl))
        refine wpAnyH_take (i := 6) (v := ?_) rfl (by kernel_rfl) (by kernel_rfl) (by kernel_rfl) (fun _ _ _ h => h) (Or.inl ⟨by kernel_rfl, ?_⟩) E0 ?_
        rotate_left
        · (intro W hS; obtain ⟨g0, g1, g2⟩ := hS; go_simp; try (with_reducible rfl))
        refine wpAnyH_take (i := 8) (v := ?_) rfl (by kernel_rfl) (by kernel_rfl) (by kernel_rfl) (fun _ _ _ h => h) (Or.inl ⟨by kernel_rfl, ?_⟩) E0 ?_
        rotate_left
        · (intro W hS; obtain ⟨g0, g1, g2⟩ := hS; go_simp; try (with_reducible rfl))
        refine wpAnyH_take (i := 9) (v := ?_) rfl (by kernel_rfl) (by kernel_rfl) (by kernel_rfl) (fun _ _ _ h => h) (Or.inl ⟨by kernel_rfl, ?_⟩) E0 ?_
        rotate_left
        · (intro W hS; obtain ⟨g0, g1, g2⟩ := hS; go_simp; try (with_reducible rfl))
        refine wpAnyH_take (i := 10) (v := ?_) rfl (by kernel_rfl) (by kernel_rfl) (by kernel_rfl) (fun _ _ _ h => h) (Or.inl ⟨by kernel_rfl, ?_⟩) E0 ?_
        rotate_left
        · (intro W hS; obtain ⟨g0, g1, g2⟩ := hS; go_simp; try (with_reducible rfl))
        refine wpAnyH_take (i := 11) (v := ?_) rfl (by kernel_rfl) (by kernel_rfl) (by kernel_rfl) (fun _ _ _ h => h) (Or.inl ⟨by kernel_rfl, ?_⟩) E0 ?_
        rotate_left
        · (intro W hS; obtain ⟨g0, g1, g2⟩ := hS; go_simp; try (with_reducible rfl))
        refine wpAnyH_take (i := 12) (v := ?_) rfl (by kernel_rfl) (by kernel_rfl) (by kernel_rfl) (fun _ _ _ h => h) (Or.inl ⟨by kernel_rfl, ?_⟩) E0 ?_
        rotate_left
        · (intro W hS; obtain ⟨g0, g1, g2⟩ := hS; go_simp; try (with_reducible rfl))
        refine wpAnyH_ready (rs := [7]) (by kernel_rfl) (by simp) ?_
        refine AllReadyH.cons rfl (fun K hK => ?_) AllReadyH.nil
        go_simp
        refine (HM.out.2.2.2.1 v0).mono ?_
        rintro e v1 ⟨rfl, hb⟩
        have F1 := F0.trans (hb.mono F0.size)
        have E1 : v1.cell? ⟨w5.heap.size, 3, none⟩ = some (.slice (some ⟨b, o, none⟩) 3 yc) ∧ v1.cell? ⟨b, o + 6, none⟩ = some (.string t) ∧ v1.cell? ⟨b, o + 10, none⟩ = some (.string c) := ⟨(hb.cell (p := ⟨w5.heap.size, 3, none⟩) (Nat.lt_of_lt_of_le HF.out.2.2.2.1 Q0.size)).trans E0.1, (hb.cell (p := ⟨b, o + 6, none⟩) (Nat.lt_of_lt_of_le HF.out.2.2.2.2.1 Q0.size)).trans E0.2.1, (hb.cell (p := ⟨b, o + 10, none⟩) (Nat.lt_of_lt_of_le HF.out.2.2.2.2.1 Q0.size)).trans E0.2.2⟩
        refine hK.out _ _ E1 (fun _ => ?_)
        clear hK K hb Q0 E0 F0
        cases hcc : (C.toList == c.toList) with
        | true =>
          have hRe := HM.out.2.2.2.2.2
          rw [hcc] at hRe
          have HV := Lib.hid hRe
          clear hRe
          refine wpAnyH_take (i := 13) (v := .bool false) rfl (by kernel_rfl) (by kernel_rfl) (by kernel_rfl) (fun _ _ _ h => h) (Or.inl ⟨by kernel_rfl, ?_⟩) E1 ?_
          · (intro W hS; clear hS; go_simp; try simp [hcc])
          refine wpAnyH_done (by kernel_rfl) ?_ _
          go_simp
          obtain ⟨g0, g1, g2⟩ := E1
          go_wp2_with fail
          refine (HM.out.2.2.2.2.1 _).mono ?_
          rintro e v2 ⟨rfl, hb⟩
          have F2 := F1.trans (hb.mono F1.size)
          clear hb
          go_wp2_with fail
          go_ret2
          exact ⟨by rw [HV.out]; rfl, F2⟩
        | false =>
          have hRe := HM.out.2.2.2.2.2
          rw [hcc] at hRe
          have HV := Lib.hid hRe
          clear hRe
          refine wpAnyH_take (i := 13) (v := .bool true) rfl (by kernel_rfl) (by kernel_rfl) (by kernel_rfl) (fun _ _ _ h => h) (Or.inl ⟨by kernel_rfl, ?_⟩) E1 ?_
          · (intro W hS; clear hS; go_simp; try simp [hcc])
          refine wpAnyH_done (by kernel_rfl) ?_ _
          go_simp
          obtain ⟨g0, g1, g2⟩ := E1
          go_wp2_with fail
          go_ret2
          exact ⟨by rw [HV.out]; rfl, F1⟩
      · have hRe : R = .tuple #[.string ⟨#[]⟩, .int .i64 3] := by
          rw [hR]; unfold openE sealV; rw [if_neg h0', h]; simp only
          rw [if_pos hm]
        have hmn : (m == n) = false := by simpa using hm
        have HM := Lib.hid (And.intro hask (And.intro hp hRe))
        clear hask hp hRe hR hQ2 h h0' hn ht hc hdx
        go_enter Tryz.func6, Tryz.ntmps6
        go_wp2_with fail
        refine (HM.out.1 _).mono ?_
        rintro e w1 ⟨rfl, hb1⟩
        have H1 := Lib.hid hb1
        clear hb1
        go_wp2_with fail
        refine (HM.out.2.1 _).mono ?_
        rintro e w2 ⟨rfl, hb2⟩
        have H2 := Lib.hid (sbelow_call H1.out hb2)
        clear hb2
        go_wp2_with fail
        go_ret2
        exact ⟨by rw [HM.out.2.2]; rfl, H2.out⟩
  · have hRe : R = .tuple #[.string ⟨#[]⟩, .int .i64 Q] := by rw [hR, hQ2]; unfold openE sealV; rw [if_pos (by rw [← hQ2]; exact h0)]
    have HM := Lib.hid (And.intro hask hRe)
    clear hask hRe hR hQ2 hp
    go_enter Tryz.func6, Tryz.ntmps6
    go_wp2_with fail
    refine (HM.out.1 _).mono ?_
    rintro e w1 ⟨rfl, hb1⟩
    have H1 := Lib.hid hb1
    clear hb1
    go_wp2_with fail
    go_ret2
    exact ⟨by rw [HM.out.2]; rfl, H1.out⟩
end Go.Proofs.YtgoimggfpagojaaGreatDoor
