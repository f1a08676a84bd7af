/- lockboxref09.Value and Split. -/
import Derived.Test.YtefpfedpgedloaaGreatDoorVRefs
import Derived.Test.YtefpfedpgedloaaGreatDoorMV1
namespace Go.Proofs.YtefpfedpgedloaaGreatDoor
open Go.RowKit
open Gf

theorem ext_one {s : ByteArray} {i : Nat} (h : i < s.size) : s.extract i (i + 1) = str [co s.data.toList i] := by
  apply ByteArray.ext
  apply Array.toList_inj.1
  rw [str_data, ByteArray.data_extract, Array.toList_extract, List.extract_eq_take_drop]
  apply List.ext_getElem?
  intro j
  have hd : s.data.toList.length = s.size := data_len s
  rw [List.getElem?_take, List.getElem?_drop]
  by_cases hj : j = 0
  · subst hj
    rw [if_pos (by omega)]
    unfold co
    rw [List.getD_eq_getElem?_getD, Nat.add_zero, List.getElem?_eq_getElem (by omega)]; rfl
  · rw [if_neg (by omega), List.getElem?_eq_none (by simp; omega)]
theorem str_append (a b : List UInt8) : str a ++ str b = str (a ++ b) := by
  apply ByteArray.ext
  apply Array.toList_inj.1
  rw [ByteArray.data_append, Array.toList_append]; rfl
theorem hideL_zero (s d : ByteArray) (i : Nat) : hideL s d i 0 = [co s.data.toList i] := rfl
set_option maxRecDepth 100000 in
set_option maxHeartbeats 1000000 in
theorem rval_any (s d : ByteArray) (Q i : Nat) (hi : i < s.size) (hs : s.size ≤ 64) (hd : d.size = Q * s.size) (hQ : Q ≤ 254) (x : UInt8) (w : World) :
    Calls Tryz.prog 22 #[.string s, .string d, .int .i64 (i : Int), .int .u8 (x.toNat : Int)] w fun e w' => e = .returned (.int .u8 ((val (hideL s d i Q) x).toNat : Int)) ∧ w' = w := by
  have hv := fun W => rvalue_any (str (hideL s d i Q)) (by rw [str_size, hideL_length]; unfold maxLen; omega) x W
  obtain ⟨V, hV⟩ : ∃ V, V = val (hideL s d i Q) x := ⟨_, rfl⟩
  have hVB : valB (str (hideL s d i Q)) x = V := by rw [hV]; rfl
  rw [hVB] at hv
  rw [← hV]
  obtain ⟨m, hm⟩ : ∃ m, m = s.size := ⟨_, rfl⟩
  obtain ⟨D, hD⟩ : ∃ D, D = d.size := ⟨_, rfl⟩
  have hDm : D = Q * m := by rw [hD, hd, hm]
  have hD2 : D ≤ 16256 := by rw [hDm]; exact Nat.le_trans (Nat.mul_le_mul hQ (by omega : m ≤ 64)) (by decide)
  have hst : ∀ j, j < Q → i + j * m < D := fun j hj => by
    have h1 : (j + 1) * m ≤ Q * m := Nat.mul_le_mul (by omega) (Nat.le_refl m)
    rw [Nat.add_mul, Nat.one_mul] at h1
    omega
  have hen : ∀ j, j ≤ Q → ¬ j < Q → ¬ i + j * m < D := fun j h1 h2 => by
    obtain rfl : j = Q := by omega
    omega
  have e0 := ext_one hi
  have hsl : ∀ W : World, (Instr.slice 9 (.string s) (some (.int .i64 (i : Int))) (some (.int .i64 ((i : Int) + 1))) none).run Tryz.prog W = .ok (.string (str (hideL s d i 0))) W := fun W => by
    rw [run_slice_string W _ _ _ _ _ _ Tryz.underlying9 (by omega) (by omega) (by omega), hideL_zero, ← e0]; rfl
  have hss : (s.size : Int) = (m : Int) := by omega
  have hds : (d.size : Int) = (D : Int) := by omega
  have him : i < m := by omega
  have hm6 : m ≤ 64 := by omega
  have HH := Lib.hid (And.intro hv (And.intro hst (And.intro hen (And.intro hD hm))))
  clear hv hst hen hd hDm hV hVB hD hm hs
  go_enter Tryz.func22, Tryz.ntmps22
  go_wp2_with fail
  go_loopw [9, 10] (fun p v wr => ∃ j kk : Nat, j ≤ Q ∧ kk = i + j * m ∧ p = .string (str (hideL s d i j)) ∧ v = .int .i64 (kk : Int) ∧ wr = w) (fun _ v _ => D + 64 - (intOf v).toNat)
  case atStart => exact ⟨0, i, by omega, by omega, rfl, rfl, rfl⟩
  case round =>
    obtain ⟨j, kk, hj, hkk, rfl, rfl, rfl⟩ := hrel
    by_cases hlt : j < Q
    · have hkD : kk < D := by rw [hkk]; exact HH.out.2.1 j hlt
      have hkd : kk < d.size := by have := HH.out.2.2.2.1; omega
      have e1 := ext_one hkd
      have e2 : hideL s d i (j + 1) = hideL s d i j ++ [co d.data.toList kk] := by rw [hideL_snoc, ← HH.out.2.2.2.2, ← hkk]
      have e3 : str (hideL s d i j) ++ d.extract kk (kk + 1) = str (hideL s d i (j + 1)) := by rw [e1, str_append, e2]
      have hk1 : kk + m = i + (j + 1) * m := by rw [hkk, Nat.add_mul, Nat.one_mul]; omega
      have hsl2 : ∀ W : World, (Instr.slice 9 (.string d) (some (.int .i64 (kk : Int))) (some (.int .i64 ((kk : Int) + 1))) none).run Tryz.prog W = .ok (.string (d.extract kk (kk + 1))) W := fun W => by
        rw [run_slice_string W _ _ _ _ _ _ Tryz.underlying9 (by omega) (by omega) (by omega)]; rfl
      have hps : (str (hideL s d i j)).size ≤ 255 := by rw [str_size, hideL_length]; omega
      have hes : (d.extract kk (kk + 1)).size ≤ 1 := by rw [ByteArray.size_extract]; omega
      obtain ⟨P, hP⟩ : ∃ P, P = str (hideL s d i j) := ⟨_, rfl⟩
      obtain ⟨E, hE⟩ : ∃ E, E = d.extract kk (kk + 1) := ⟨_, rfl⟩
      simp only [← hE] at hsl2 hes e3
      simp only [← hP] at hps e3 ⊢
      have HE := Lib.hid (And.intro e3 hk1)
      clear e1 e2 e3 hk1 hkk hkd hP hE
      go_wp2_with fail
      go_roundw
      case rel => exact ⟨j + 1, kk + m, by omega, HE.out.2, by rw [← HE.out.1], by go_num, trivial⟩
      case measure => simp [intOf]; omega
    · have hkD : ¬ kk < D := by rw [hkk]; exact HH.out.2.2.1 j hj hlt
      obtain rfl : j = Q := by omega
      clear hkk
      go_wp2_with fail
      refine (HH.out.1 _).mono ?_
      rintro e w1 ⟨rfl, rfl⟩
      go_wp2_with fail
      go_ret
      exact ⟨rfl, rfl⟩

/-- The first bytes of a share. -/
def yS (s d : ByteArray) (Q : Nat) (x : UInt8) (i : Nat) : List UInt8 := (List.range i).map fun i => val (hideL s d i Q) x
theorem yS_length (s d : ByteArray) (Q : Nat) (x : UInt8) (i : Nat) : (yS s d Q x i).length = i := by simp [yS]
theorem yS_snoc (s d : ByteArray) (Q : Nat) (x : UInt8) (i : Nat) : yS s d Q x (i + 1) = yS s d Q x i ++ [val (hideL s d i Q) x] := by
  unfold yS; rw [List.range_succ, List.map_append]; rfl
set_option maxRecDepth 100000 in
set_option maxHeartbeats 1000000 in
theorem rsplit_good (s d : ByteArray) (need : Int) (N : Nat) (h : mayP s d need N = true) (w : World) :
    Calls Tryz.prog 10 #[.string s, .int .i64 need, .int .i64 (N : Int), .string d] w fun e w' => ∃ a cap, e = .returned (.tuple #[.slice a N cap, .int .i64 0]) ∧ OwnS 36 w.heap.size w' a cap (splt s d need N) ∧ Below w.heap.size w w' := by
  obtain ⟨⟨p1, p2⟩, p3, p4, p5, p6⟩ := mayP_iff.1 h
  have hq := mayP_size h
  obtain ⟨Q, hQ⟩ : ∃ Q : Nat, need - 1 = (Q : Int) := ⟨(need - 1).toNat, by omega⟩
  have hQn : need.toNat - 1 = Q := by omega
  rw [hQn] at hq
  have hQ2 : Q ≤ 254 := by omega
  obtain ⟨m, hm⟩ : ∃ m, m = s.size := ⟨_, rfl⟩
  obtain ⟨D, hD⟩ : ∃ D, D = d.size := ⟨_, rfl⟩
  have hss : (s.size : Int) = (m : Int) := by omega
  have hds : (d.size : Int) = (D : Int) := by omega
  have hD2 : D ≤ 16256 := by rw [hD, hq]; exact Nat.le_trans (Nat.mul_le_mul hQ2 p2) (by decide)
  have hDi : (D : Int) ≤ 16256 := by omega
  have hqm : (Q : Int) * (m : Int) = (D : Int) := by rw [hD, hq, hm]; exact (Int.natCast_mul _ _).symm
  have hwm : IntKind.i64.wrap ((Q : Int) * (m : Int)) = (D : Int) := by rw [hqm]; exact IntWalk.i64_in _ (by omega)
  have hwn : IntKind.i64.wrap (need - 1) = (Q : Int) := by rw [hQ]; exact IntWalk.i64_in _ (by omega)
  have hm1 : (1 : Int) ≤ m := by omega
  have hm2 : (m : Int) ≤ 64 := by omega
  have hN2 : (N : Int) ≤ 255 := p5
  have hN1 : (1 : Int) ≤ N := by omega
  have hn1 : need ≤ 255 := by omega
  have hrv := fun (i : Nat) (hi : i < s.size) (x : UInt8) (W : World) => rval_any s d Q i hi p2 hq hQ2 x W
  have k1 : decide ((m : Int) < 1) = false := decide_eq_false (by omega)
  have k2 : decide ((64 : Int) < (m : Int)) = false := decide_eq_false (by omega)
  have k3 : decide ((N : Int) < 1) = false := decide_eq_false (by omega)
  have k4 : decide ((255 : Int) < (N : Int)) = false := decide_eq_false (by omega)
  have k5 : decide (need < 1) = false := decide_eq_false (by omega)
  have k6 : decide ((N : Int) < need) = false := decide_eq_false (by omega)
  have HH := Lib.hid (And.intro hrv (And.intro hm hQn))
  clear hrv hQn hq h p1 p2 p6 hD
  go_enter Tryz.func10, Tryz.ntmps10
  go_wp2_with fail
  go_loopw [10, 11, 12, 13] (fun v x _ _ wr => ∃ (k : Nat) (ad : Option Addr) (cp : Nat), k ≤ N ∧ x = .int .i64 ((k : Int) + 1) ∧ v = .slice ad k cp ∧ OwnS 36 w.heap.size wr ad cp ((splt s d need N).take k) ∧ Below w.heap.size w wr) (fun _ x _ _ _ => N + 1 - (intOf x).toNat)
  case atStart => exact ⟨0, none, 0, by omega, rfl, rfl, by rw [List.take_zero]; exact Own.nil _ _ _ _, Below.refl _ _⟩
  case round =>
    obtain ⟨k, ad, cp, hk, rfl, rfl, ho, hb⟩ := hrel
    by_cases hlt : k < N
    · obtain ⟨W0, hW0⟩ : ∃ W0, W0 = wr := ⟨_, rfl⟩
      subst hW0
      obtain ⟨X, hX⟩ : ∃ X, X = bx ((k : Int) + 1) := ⟨_, rfl⟩
      have hXn : (X.toNat : Int) = (k : Int) + 1 := by rw [hX]; exact bx_num (by omega) (by omega)
      have HO := Lib.hid (And.intro ho (And.intro hb (And.intro hX hXn)))
      have hzb := hb.size
      have k7 : decide ((k : Int) + 1 ≤ (N : Int)) = true := decide_eq_true (by omega)
      clear ho hb hX
      go_wp2_with fail
      go_loopw [12, 13] (fun v i wr => ∃ (j : Nat) (ay : Option Addr) (cy : Nat), j ≤ m ∧ i = .int .i64 (j : Int) ∧ v = .slice ay j cy ∧ OwnB W0.heap.size wr ay cy (yS s d Q X j) ∧ Below W0.heap.size W0 wr) (fun _ i _ => m - (intOf i).toNat)
      case atStart => exact ⟨0, none, 0, by omega, rfl, rfl, OwnB.nil _ _, Below.refl _ _⟩
      case round =>
        obtain ⟨j, ay, cy, hj, rfl, rfl, hy, hby⟩ := hrel
        by_cases hjm : j < m
        · have hv := HH.out.1 j (by have := HH.out.2.1; omega) X wr
          rw [hXn] at hv
          obtain ⟨z, hz⟩ : ∃ z, z = val (hideL s d j Q) X := ⟨_, rfl⟩
          have hsn := yS_snoc s d Q X j
          rw [← hz] at hv hsn
          have hsz := hby.size
          have HY := Lib.hid (And.intro hy (And.intro hby (And.intro hsn (And.intro hv (yS_length s d Q X j)))))
          clear hy hby hsn hv hz
          go_wp2_with fail
          refine HY.out.2.2.2.1.mono ?_
          rintro e w2 ⟨rfl, rfl⟩
          go_wp2_with (at_builtin; (refine wpList_append_byte' (w0 := W0) rfl (.tmp 60) (.tmp 67) rfl (HY.out.1.alloc _) j HY.out.2.2.2.2 rfl _ 1 z rfl (cell_new _ _ _) (by omega) (by simp; omega) (HY.out.2.1.alloc hsz _) ?_; intro g1 cap1 w3 hown1 hb1; have H3 := Lib.hid (And.intro hown1 hb1); clear hown1 hb1))
          go_roundw
          case rel => exact ⟨j + 1, _, cap1, by omega, by go_num, rfl, by rw [HY.out.2.2.1]; exact H3.out.1, H3.out.2⟩
          case measure => simp [intOf]; omega
        · obtain rfl : j = m := by omega
          have hcv := hy.conv
          rw [yS_length] at hcv
          obtain ⟨Y, hY⟩ : ∃ Y, Y = shY s d (need.toNat - 1) X := ⟨_, rfl⟩
          have hYe : str (yS s d Q X j) = Y := by rw [hY, HH.out.2.2]; unfold shY yS; rw [← HH.out.2.1]
          rw [hYe] at hcv
          have hcv2 := hcv
          rw [HH.out.2.1] at hcv2
          have hsk : (splt s d need N).take (k + 1) = (splt s d need N).take k ++ [⟨(k : Int) + 1, need, Y⟩] := by
            rw [List.take_add_one, splt_get hlt, hY, HO.out.2.2.1]; rfl
          have hlk : ((splt s d need N).take k).length = k := by rw [List.length_take, splt_length]; omega
          have hok := OwnS.below HO.out.1 (hby)
          have hbb := HO.out.2.1.trans (hby.mono hzb)
          have hzz := hbb.size
          have HY := Lib.hid (And.intro hok (And.intro hbb (And.intro hsk hlk)))
          clear hy hby hsk hY hYe hok hbb hlk
          go_wp2_with (at_builtin; (refine wpList_append_rsh (w0 := w) rfl (.tmp 69) (.tmp 75) rfl (OwnS.below HY.out.1 ((Below.refl _ _).alloc (Nat.le_refl _) _)) k HY.out.2.2.2 rfl wr.heap.size 1 ⟨(k : Int) + 1, need, Y⟩ rfl (heap_alloc_new wr _) (by omega) (by simp; omega) (HY.out.2.1.alloc hzz _) ?_; intro g1 cp1 w3 hown1 hb1' _; have H3 := Lib.hid (And.intro hown1 hb1'); clear hown1 hb1'))
          go_roundw
          case rel => exact ⟨k + 1, _, cp1, by omega, by go_num, rfl, by rw [HY.out.2.2.1]; exact H3.out.1, H3.out.2⟩
          case measure => simp [intOf]; omega
    · obtain rfl : k = N := by omega
      have HO := Lib.hid (And.intro ho hb)
      clear ho hb
      go_wp2_with fail
      go_ret2
      refine ⟨ad, cp, rfl, ?_, HO.out.2⟩
      have := HO.out.1
      rwa [List.take_of_length_le (by rw [splt_length]; exact Nat.le_refl _)] at this

set_option maxRecDepth 100000 in
set_option maxHeartbeats 1000000 in
theorem rsplit_bad (s d : ByteArray) (need n : Int) (hs : s.size ≤ 70) (hd : d.size ≤ 2000) (h : mayP s d need n = false) (w : World) :
    Calls Tryz.prog 10 #[.string s, .int .i64 need, .int .i64 n, .string d] w fun e w' => e = .returned (.tuple #[.slice none 0 0, .int .i64 1]) ∧ w' = w := by
  obtain ⟨m, hm⟩ : ∃ m, m = s.size := ⟨_, rfl⟩
  obtain ⟨D, hD⟩ : ∃ D, D = d.size := ⟨_, rfl⟩
  have hss : (s.size : Int) = (m : Int) := by omega
  have hds : (d.size : Int) = (D : Int) := by omega
  have hm7 : m ≤ 70 := by omega
  have hD7 : D ≤ 2000 := by omega
  have hmul : ¬ (1 ≤ m ∧ m ≤ 64 ∧ 1 ≤ need ∧ need ≤ n ∧ n ≤ 255 ∧ (D : Int) = (need - 1) * (m : Int)) := fun e => by
    obtain ⟨a1, a2, a3, a4, a5, a6⟩ := e
    have : mayP s d need n = true := mayP_iff.2 ⟨⟨by omega, by omega⟩, a3, a4, a5, by rw [← hD, ← hm]; exact a6⟩
    rw [this] at h
    cases h
  clear h hm hD hs hd
  go_enter Tryz.func10, Tryz.ntmps10
  by_cases k1 : (m : Int) < 1
  · have k1' : decide ((m : Int) < 1) = true := decide_eq_true k1
    clear hmul
    go_wp2_with fail
    go_ret2
    exact ⟨rfl, rfl⟩
  have k1' : decide ((m : Int) < 1) = false := decide_eq_false k1
  by_cases k2 : (64 : Int) < (m : Int)
  · have k2' : decide ((64 : Int) < (m : Int)) = true := decide_eq_true k2
    clear hmul
    go_wp2_with fail
    go_ret2
    exact ⟨rfl, rfl⟩
  have k2' : decide ((64 : Int) < (m : Int)) = false := decide_eq_false k2
  by_cases k3 : n < 1
  · have k3' : decide (n < 1) = true := decide_eq_true k3
    clear hmul
    go_wp2_with fail
    go_ret2
    exact ⟨rfl, rfl⟩
  have k3' : decide (n < 1) = false := decide_eq_false k3
  by_cases k4 : 255 < n
  · have k4' : decide (255 < n) = true := decide_eq_true k4
    clear hmul
    go_wp2_with fail
    go_ret2
    exact ⟨rfl, rfl⟩
  have k4' : decide (255 < n) = false := decide_eq_false k4
  by_cases k5 : need < 1
  · have k5' : decide (need < 1) = true := decide_eq_true k5
    clear hmul
    go_wp2_with fail
    go_ret2
    exact ⟨rfl, rfl⟩
  have k5' : decide (need < 1) = false := decide_eq_false k5
  by_cases k6 : n < need
  · have k6' : decide (n < need) = true := decide_eq_true k6
    clear hmul
    go_wp2_with fail
    go_ret2
    exact ⟨rfl, rfl⟩
  have k6' : decide (n < need) = false := decide_eq_false k6
  have hne : ¬ (D : Int) = (need - 1) * (m : Int) := fun e => hmul ⟨by omega, by omega, by omega, by omega, by omega, e⟩
  clear hmul
  obtain ⟨Q, hQ⟩ : ∃ Q : Nat, need - 1 = (Q : Int) := ⟨(need - 1).toNat, by omega⟩
  rw [hQ] at hne
  have hwn : IntKind.i64.wrap (need - 1) = (Q : Int) := by rw [hQ]; exact IntWalk.i64_in _ (by omega)
  obtain ⟨R, hR⟩ : ∃ R : Nat, R = Q * m := ⟨_, rfl⟩
  have hRm : (Q : Int) * (m : Int) = (R : Int) := by rw [hR]; exact (Int.natCast_mul _ _).symm
  have hR2 : R ≤ 254 * 64 := by rw [hR]; exact Nat.mul_le_mul (by omega) (by omega)
  rw [hRm] at hne
  have hwm : IntKind.i64.wrap ((Q : Int) * (m : Int)) = (R : Int) := by rw [hRm]; exact IntWalk.i64_in _ (by omega)
  have hnb : ((D : Int) == (R : Int)) = false := by rw [beq_eq_false_iff_ne]; exact hne
  clear hR
  go_wp2_with fail
  go_ret2
  exact ⟨rfl, rfl⟩
end Go.Proofs.YtefpfedpgedloaaGreatDoor
