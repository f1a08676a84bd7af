/- poly.multiples. -/
import Derived.Test.YtefpfedpgedloaaDoorRowV
import Derived.Test.YtefpfedpgedloaaDoorBytesB
import Derived.Test.YtefpfedpgedloaaDoorPVal
import Derived.Deep.WholeRow
namespace Go.Proofs.YtefpfedpgedloaaDoor
open Go.RowKit
open Gf

theorem bcells_one (l : List UInt8) : (bcells l).toArray.all (·.oneCell') = true := by
  rw [Array.all_eq_true_iff_forall_mem]
  intro x hx
  simp only [bcells, List.mem_toArray, List.mem_map] at hx
  obtain ⟨b, _, rfl⟩ := hx
  rfl
theorem bcells_get (l : List UInt8) (i : Nat) (h : i < l.length) : (bcells l)[i]? = some (.int .u8 ((co l i).toNat : Int)) := by
  simp [bcells, co, List.getD_eq_getElem?_getD, h]
/-- The first m multiples. -/
def mulTo (c : UInt8) (m : Nat) : List UInt8 := (List.range 256).map fun i => if i < m then mul c (UInt8.ofNat i) else 0
theorem mulTo_length (c : UInt8) (m : Nat) : (mulTo c m).length = 256 := by unfold mulTo; rw [List.length_map, List.length_range]
theorem co_mulTo (c : UInt8) (m i : Nat) (hi : i < 256) : co (mulTo c m) i = if i < m then mul c (UInt8.ofNat i) else 0 := by
  unfold co mulTo
  rw [List.getD_eq_getElem?_getD, List.getElem?_map, List.getElem?_range hi]; rfl
theorem mulTo_zero (c : UInt8) : mulTo c 0 = List.replicate 256 0 := by
  unfold mulTo
  apply List.ext_getElem?
  intro i
  rw [List.getElem?_map, List.getElem?_replicate]
  by_cases hi : i < 256
  · rw [List.getElem?_range hi, if_pos hi]; rfl
  · rw [if_neg hi, List.getElem?_eq_none (by rw [List.length_range]; omega)]; rfl
theorem mulTo_step (c : UInt8) (m : Nat) (hm : m < 256) : (mulTo c m).set m (mul c (UInt8.ofNat m)) = mulTo c (m + 1) := by
  apply List.ext_getElem?
  intro i
  unfold mulTo
  rw [List.getElem?_set, List.length_map, List.length_range, List.getElem?_map, List.getElem?_map]
  by_cases hi : i < 256
  · rw [List.getElem?_range hi]
    by_cases e : m = i
    · subst e; rw [if_pos rfl, if_pos hm]; simp
    · rw [if_neg e]
      have : (i < m) = (i < m + 1) := by apply propext; omega
      simp [this]
  · rw [if_neg (by omega), List.getElem?_eq_none (by rw [List.length_range]; omega)]; rfl
theorem mulTo_one (c : UInt8) : mulTo c 1 = mulTo c 0 := by
  rw [← mulTo_step c 0 (by decide)]
  rw [show mul c (UInt8.ofNat 0) = 0 from mul_zero c]
  unfold mulTo
  apply List.ext_getElem?
  intro i
  rw [List.getElem?_set, List.length_map, List.length_range]
  by_cases e : 0 = i
  · subst e; rw [if_pos rfl, if_pos (by decide), List.getElem?_map, List.getElem?_range (by decide)]; rfl
  · rw [if_neg e]
theorem disjoint_sums : ((List.range 8).all fun j => (List.range (2 ^ j)).all fun i => (i ^^^ 2 ^ j) == 2 ^ j + i) = true := by decide +kernel
theorem sum_bytes {j i : Nat} (hj : j < 8) (hi : i < 2 ^ j) : UInt8.ofNat i ^^^ UInt8.ofNat (2 ^ j) = UInt8.ofNat (2 ^ j + i) := by
  have h := eq_of_beq (List.all_eq_true.1 (List.all_eq_true.1 disjoint_sums j (List.mem_range.2 hj)) i (List.mem_range.2 hi))
  have hp : 2 ^ j ≤ 128 := Nat.pow_le_pow_right (n := 2) (by decide) (show j ≤ 7 by omega)
  apply UInt8.toNat_inj.1
  rw [UInt8.toNat_xor, UInt8.toNat_ofNat', UInt8.toNat_ofNat', UInt8.toNat_ofNat', Nat.mod_eq_of_lt (by omega), Nat.mod_eq_of_lt (by omega), Nat.mod_eq_of_lt (by omega), h]
theorem zb256 (w : World) : (zeroValue 116).run Tryd.prog w = .ok (.agg (bcells (List.replicate 256 0)).toArray) w := (zero_of_info (P := Tryd.prog) (t := 116) (v := .agg (bcells (List.replicate 256 0)).toArray) (n := 256) (by kernel_rfl)).1 w
/-- All multiples. -/
def mults (c : UInt8) : List UInt8 := mulTo c 256
theorem mults_length (c : UInt8) : (mults c).length = 256 := mulTo_length c 256
theorem co_mults (c x : UInt8) : co (mults c) x.toNat = mul c x := by
  unfold mults
  rw [co_mulTo c 256 _ x.toNat_lt, if_pos x.toNat_lt, UInt8.ofNat_toNat]
set_option maxRecDepth 100000 in
set_option maxHeartbeats 1000000 in
theorem multiples_any (c : UInt8) (w : World) :
    Calls Tryd.prog 80 #[.int .u8 (c.toNat : Int)] w fun e w' => e = .returned (.agg (bcells (mults c)).toArray) ∧ Below w.heap.size w w' := by
  have hz := zb256
  obtain ⟨Z, hZ⟩ : ∃ Z, Z = bcells (List.replicate 256 0) := ⟨_, rfl⟩
  rw [← hZ] at hz
  have hZs : Z.toArray.size = 256 := by rw [hZ, List.size_toArray, bcells_length, List.length_replicate]
  have hb1 : Below w.heap.size w ((w.alloc (.cells Z.toArray 116)).alloc (.cells Z.toArray 116)) := ((Below.refl _ _).alloc (Nat.le_refl _) _).alloc (by simp) _
  have zz : (w.alloc (.cells Z.toArray 116)).heap.size = w.heap.size + 1 := by simp
  have hr1 : RowV 116 ((w.alloc (.cells Z.toArray 116)).alloc (.cells Z.toArray 116)) w.heap.size Z :=
    RowV.alloc (heap_alloc_new w (.cells Z.toArray 116)) _
  have hr2 : RowV 116 ((w.alloc (.cells Z.toArray 116)).alloc (.cells Z.toArray 116)) (w.heap.size + 1) (bcells (mulTo c 1)) := by
    have := heap_alloc_new (w.alloc (.cells Z.toArray 116)) (.cells Z.toArray 116)
    rw [zz] at this
    rw [mulTo_one, mulTo_zero, ← hZ]
    exact this
  have H0 := Lib.hid (And.intro hr2 (And.intro hr1 hb1))
  have HZ := Lib.hid hZs
  clear hr1 hr2 hb1 zz hZ hZs
  go_enter Tryd.func80, Tryd.ntmps80
  go_wp2_with fail
  generalize World.alloc (World.alloc w _) _ = w1 at *
  clear hz
  go_loopw [4, 5, 6, 15, 16] (fun b _ _ _ _ wr => ∃ (j B : Nat), j ≤ 8 ∧ B = 2 ^ j ∧ b = .int .i64 (B : Int) ∧ RowV 116 wr (w.heap.size + 1) (bcells (mulTo c B)) ∧ RowV 116 wr w.heap.size Z ∧ Below w.heap.size w wr) (fun b _ _ _ _ _ => 256 - (intOf b).toNat)
  case atStart => exact ⟨0, 1, by omega, rfl, rfl, H0.out.1, H0.out.2.1, H0.out.2.2⟩
  case round =>
    clear H0
    obtain ⟨j, B, hj, hB, rfl, hr, hz, hb⟩ := hrel
    have hBle : B ≤ 256 := by rw [hB]; exact Nat.pow_le_pow_right (n := 2) (by decide) hj
    have hB1 : 1 ≤ B := by rw [hB]; exact Nat.one_le_two_pow
    by_cases hlt : B < 256
    · have hj8 : j < 8 := by
        rcases Nat.lt_or_ge j 8 with h | h
        · exact h
        · obtain rfl : j = 8 := by omega
          exact absurd hlt (by rw [hB]; decide)
      have hnext : B * 2 = 2 ^ (j + 1) := by rw [hB, Nat.pow_succ]
      have hsum : ∀ i, i < B → UInt8.ofNat i ^^^ UInt8.ofNat B = UInt8.ofNat (B + i) := fun i hi => by rw [hB] at hi ⊢; exact sum_bytes hj8 hi
      obtain ⟨bb, hbb⟩ := byte_of hlt
      have hbo : UInt8.ofNat B = bb := by rw [← hbb, UInt8.ofNat_toNat]
      rw [hbo] at hsum
      have hB128 : B ≤ 128 := by rw [hB]; exact Nat.pow_le_pow_right (n := 2) (by decide) (show j ≤ 7 by omega)
      have HJ := Lib.hid (And.intro hnext (And.intro hsum hj8))
      have hcall : ∀ w, Calls Tryd.prog 39 #[.int .u8 (c.toNat : Int), .int .u8 (B : Int)] w fun e w' => e = .returned (.int .u8 ((mul c bb).toNat : Int)) ∧ w = w' := fun w => by rw [← hbb]; exact mul_any c bb w
      have HC := Lib.hid hcall
      have H := Lib.hid (And.intro hr (And.intro hz hb))
      clear hr hz hb hsum hnext hcall hbo hbb hB hj hj8
      go_wp2_with fail
      refine (HC.out _).mono ?_
      rintro e w' ⟨rfl, rfl⟩
      go_wp2_with fail
      go_loopw [6, 16] (fun _ i wr => ∃ k : Nat, k ≤ B ∧ i = .int .i64 (k : Int) ∧ RowV 116 wr (w.heap.size + 1) (bcells (mulTo c (B + k))) ∧ RowV 116 wr w.heap.size Z ∧ Below w.heap.size w wr) (fun _ i _ => B - (intOf i).toNat)
      case atStart => exact ⟨0, by omega, rfl, H.out.1, H.out.2.1, H.out.2.2⟩
      case round =>
        clear H
        obtain ⟨k, hk, rfl, hr, hz, hb⟩ := hrel
        by_cases hlt2 : k < B
        · have c1 := hr.cell k _ (bcells_get _ k (by rw [mulTo_length]; omega))
          rw [co_mulTo c _ k (by omega), if_pos (by omega)] at c1
          have c2 := hr.cell (B + k) _ (bcells_get _ (B + k) (by rw [mulTo_length]; omega))
          generalize (co (mulTo c (B + k)) (B + k)).toNat = old at c2
          have f2 := hr.frozen (B + k)
          obtain ⟨x, hx⟩ : ∃ x, x = mul c (UInt8.ofNat k) := ⟨_, rfl⟩
          obtain ⟨y, hy⟩ : ∃ y, y = mul c bb := ⟨_, rfl⟩
          obtain ⟨z, hz2⟩ : ∃ z, z = mul c (UInt8.ofNat (B + k)) := ⟨_, rfl⟩
          have e1 := u_xor x y
          rw [show x ^^^ y = z by rw [hx, hy, hz2, ← HJ.out.2.1 k hlt2, mul_add]] at e1
          have hp := hr.put (B + k) (.int .u8 (z.toNat : Int))
          rw [hz2, ← bcells_set, mulTo_step c (B + k) (by omega), ← hz2] at hp
          have hpz := hz.other ⟨w.heap.size + 1, B + k, none⟩ (.int .u8 (z.toNat : Int)) (by simp)
          have hpb := hb.setCell (p := ⟨w.heap.size + 1, B + k, none⟩) (by simp) (.int .u8 (z.toNat : Int))
          rw [← hx] at c1
          rw [← hy]
          have HP := Lib.hid (And.intro hp (And.intro hpz hpb))
          clear hr hz hb hp hpz hpb hx hz2 hy
          go_wp2_with fail
          go_roundw
          case rel => exact ⟨k + 1, by omega, by go_num, HP.out.1, HP.out.2.1, HP.out.2.2⟩
          case measure => simp [intOf]; omega
        · obtain rfl : k = B := by omega
          have HP := Lib.hid (And.intro hr (And.intro hz hb))
          clear hr hz hb
          go_wp2_with fail
          go_roundw
          case rel =>
            refine ⟨j + 1, k * 2, by have := HJ.out.2.2; omega, HJ.out.1, by go_num, ?_, HP.out.2.1, HP.out.2.2⟩
            rw [Nat.mul_two]; exact HP.out.1
          case measure => simp [intOf]; omega
    · obtain rfl : B = 256 := by omega
      have hms : (bcells (mults c)).toArray.size = 256 := by rw [List.size_toArray, bcells_length, mults_length]
      have HP := Lib.hid (And.intro hr (And.intro hz (And.intro hb (And.intro hms (bcells_one (mults c))))))
      clear hr hz hb hms hB
      go_wp2_with (first
        | (refine wpList_load_row rfl 116 _ rfl (w.heap.size + 1) rfl 116 (bcells (mults c)).toArray (0, 0) _ HP.out.1 Tryd.underlying116 rfl (by rw [HP.out.2.2.2.1]; kernel_rfl) ?_)
        | (refine wpList_store_row rfl 116 _ _ rfl w.heap.size rfl 116 Z.toArray (bcells (mults c)).toArray rfl HP.out.2.1 (by rw [HP.out.2.2.2.1]; kernel_rfl) (by rw [HP.out.2.2.2.1, HZ.out]) HP.out.2.2.2.2 ?_))
      refine bodyPost_ret (results_cell_row rfl _ _ w.heap.size 116 (bcells (mults c)).toArray (0, 0) _ rfl (setRow_heap _ _ _ _ _ _ HP.out.2.1) Tryd.underlying116 rfl (by rw [HP.out.2.2.2.1]; kernel_rfl)) rfl ⟨rfl, ?_⟩
      exact below_setRow HP.out.2.2.1 _ _ (Nat.le_refl _)
end Go.Proofs.YtefpfedpgedloaaDoor
