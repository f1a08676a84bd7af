/- poly.addTimes, into bytes that a text was made of. -/
import Derived.Test.YtcknmpcekmbcdaaDoorPDiv
namespace Go.Proofs.YtcknmpcekmbcdaaDoor
open Go.RowKit
open Gf

theorem Row8.set {B : Nat} {w : World} {g : Nat} {l : List UInt8} (h : Row8 B w g l) (j : Nat) (hj : j < l.length) (c : UInt8) : Row8 B (w.setCell ⟨g, j, none⟩ (.int .u8 (c.toNat : Int))) g (l.set j c) :=
  Row8.put (l' := l.set j c) h j hj c (List.length_set ..) (by simp [List.getD_eq_getElem?_getD, hj]) (fun i hi he => by
    rw [List.getD_eq_getElem?_getD, List.getD_eq_getElem?_getD, List.getElem?_set, if_neg (fun e => he e.symm)])
theorem Row8.other {B : Nat} {w : World} {g : Nat} {l : List UInt8} (h : Row8 B w g l) (a : Addr) (v : Value) (ha : a.block ≠ g) : Row8 B (w.setCell a v) g l :=
  ⟨h.1, by simpa using h.2.1, fun i hi => ⟨by rw [World.cell?_setCell_other (h := by intro e; rw [e] at ha; exact ha rfl)]; exact (h.2.2 i hi).1, by rw [World.frozen?_setCell]; exact (h.2.2 i hi).2⟩⟩
set_option maxRecDepth 100000 in
set_option maxHeartbeats 1000000 in
theorem addTimes8_any {B : Nat} {w : World} {g : Nat} {l : List UInt8} (hown : Row8 B w g l) (i n cc : Nat) (p : ByteArray) (hp : p.size ≤ 1000000) (hn : p.size ≤ n) (hi : i + p.size ≤ l.length) (c : UInt8) :
    Calls Tryd.prog 36 #[.slice (some ⟨g, i, none⟩) n cc, .string p, .int .u8 (c.toNat : Int)] w fun e w' => e = .returned (.tuple #[]) ∧ Row8 B w' g (addAt l i p.data.toList c) ∧ Only g w w' := by
  have hgl := hown.2.1
  obtain ⟨M, hM⟩ : ∃ M, M = (bcells (mults c)).toArray := ⟨_, rfl⟩
  have hMs : M.size = 256 := by rw [hM, List.size_toArray, bcells_length, mults_length]
  have hMo := bcells_one (mults c)
  rw [← hM] at hMo
  have hcall : ∀ w, Calls Tryd.prog 45 #[.int .u8 (c.toNat : Int)] w fun e w' => e = .returned (.agg M) ∧ Below w.heap.size w w' := fun w => by rw [hM]; exact multiples_any c w
  have hz := zb256
  obtain ⟨Z, hZ⟩ : ∃ Z, Z = (bcells (List.replicate 256 0)).toArray := ⟨_, rfl⟩
  rw [← hZ] at hz
  have hZs : Z.size = 256 := by rw [hZ, List.size_toArray, bcells_length, List.length_replicate]
  obtain ⟨R, hR⟩ : ∃ R, R = addAt l i p.data.toList c := ⟨_, rfl⟩
  rw [← hR]
  have HM := Lib.hid (And.intro hM (And.intro hMs (And.intro hMo (And.intro hZs (And.intro hcall hR)))))
  have HO := Lib.hid (And.intro hown hgl)
  clear hM hMs hMo hZ hZs hcall hR hown hgl
  go_enter Tryd.func36, Tryd.ntmps36
  go_wp2_with fail
  refine (HM.out.2.2.2.2.1 _).mono ?_
  rintro e w1 ⟨rfl, hb1⟩
  have hg1 : g < w1.heap.size := Nat.lt_of_lt_of_le HO.out.2 hb1.size
  have hr1 : (w1.alloc (.cells Z 54)).heap[w1.heap.size]? = some (.cells Z 54 (0, 0)) := heap_alloc_new _ _
  have hb2 : Below w.heap.size w (w1.alloc (.cells Z 54)) := hb1.alloc hb1.size _
  have HR := Lib.hid (And.intro hr1 (And.intro hb2 (And.intro hb1.size hg1)))
  clear hr1 hb2 hb1 hg1
  go_wp2_with (refine wpList_store_row rfl 54 _ _ rfl w1.heap.size rfl 54 Z M rfl HR.out.1 (by rw [HM.out.2.1]; kernel_rfl) (by rw [HM.out.2.1, HM.out.2.2.2.1]) HM.out.2.2.1 ?_)
  have hbw : Below w.heap.size w ((w1.alloc (.cells Z 54)).setRow w1.heap.size M) := below_setRow HR.out.2.1 _ _ HR.out.2.2.1
  have hrow : RowV 54 ((w1.alloc (.cells Z 54)).setRow w1.heap.size M) w1.heap.size (bcells (mults c)) := by
    have := setRow_heap _ _ _ M _ _ HR.out.1
    unfold RowV
    rw [← HM.out.1]
    exact this
  have hne : g ≠ w1.heap.size := by have := HR.out.2.2.2; omega
  have H0 := Lib.hid (And.intro (HO.out.1.call hbw) (And.intro hrow (Only.of hbw (show g ≤ w.heap.size from Nat.le_of_lt HO.out.2))))
  have HN := Lib.hid (And.intro hne HO.out.2)
  clear hbw hrow hne HR hz
  generalize World.setRow _ _ _ = W0 at *
  generalize w1.heap.size = m at *
  go_loopw [7, 12] (fun _ j wr => ∃ k : Nat, k ≤ p.size ∧ j = .int .i64 (k : Int) ∧ Row8 B wr g (addK l i p.data.toList c k) ∧ RowV 54 wr m (bcells (mults c)) ∧ Only g w wr) (fun _ j _ => p.size - (intOf j).toNat)
  case atStart => exact ⟨0, by omega, rfl, H0.out.1, H0.out.2.1, H0.out.2.2⟩
  case round =>
    clear H0
    obtain ⟨k, hk, rfl, ho, hr, hb⟩ := hrel
    by_cases hlt : k < p.size
    · have hlen := addK_length l i p.data.toList c k
      have c1 := (ho.2.2 (i + k) (by omega)).1
      have f1 := (ho.2.2 (i + k) (by omega)).2
      have c2 := hr.cell p[k].toNat _ (bcells_get _ p[k].toNat (by rw [mults_length]; exact p[k].toNat_lt))
      rw [co_mults] at c2
      have hkp := co_at p k hlt
      obtain ⟨x, hx⟩ : ∃ x, x = (addK l i p.data.toList c k).getD (i + k) 0 := ⟨_, rfl⟩
      obtain ⟨y, hy⟩ : ∃ y, y = mul c p[k] := ⟨_, rfl⟩
      obtain ⟨z, hzz⟩ : ∃ z, z = x ^^^ y := ⟨_, rfl⟩
      have e1 := u_xor x y
      rw [← hzz] at e1
      rw [← hx] at c1
      rw [← hy] at c2
      have hbl := p[k].toNat_lt
      have hbi : (p[k].toNat : Int) < 256 := by omega
      have hp1 := ho.drew.set (i + k) (by omega) z
      have hst : (addK l i p.data.toList c k).set (i + k) z = addK l i p.data.toList c (k + 1) := by
        rw [hzz, hx, hy, ← hkp]; rfl
      rw [hst] at hp1
      have hpr := hr.drew.other ⟨g, i + k, none⟩ (.int .u8 (z.toNat : Int)) (by simpa using HN.out.1)
      have hpo := hb.drew.put (i + k) (.int .u8 (z.toNat : Int))
      have c1' : wr.drew.cell? ⟨g, i + k, none⟩ = some (.int .u8 (x.toNat : Int)) := c1
      have f1' : wr.drew.frozen? ⟨g, i + k, none⟩ = false := f1
      have c2' : wr.drew.cell? ⟨m, p[k].toNat, none⟩ = some (.int .u8 (y.toNat : Int)) := c2
      have hkn : (k : Int) < (n : Int) := by omega
      have HP := Lib.hid (And.intro hp1 (And.intro hpr hpo))
      clear ho hr hb hp1 hpr hpo hst hzz hx hy hkp hlen hbl
      go_wp2_with fail
      refine wp_region_still_tail 11 (by kernel_rfl) (by kernel_rfl) ?_
      simp only [List.take_succ_cons, List.take_zero, List.drop_succ_cons, List.drop_zero]
      repeat still_step
      refine wpStill_nil ?_
      change wpList _ _ _ _ _ wr.drew
      clear c1 f1 c2
      generalize wr.drew = w3 at *
      go_wp2_with fail
      go_roundw
      case rel => exact ⟨k + 1, by omega, by go_num, HP.out.1, HP.out.2.1, HP.out.2.2⟩
      case measure => simp [intOf]; omega
    · obtain rfl : k = p.size := by omega
      have hall : addK l i p.data.toList c p.size = R := by rw [HM.out.2.2.2.2.2]; unfold addAt; congr 1
      rw [hall] at ho
      have HP := Lib.hid (And.intro ho hb)
      clear ho hr hb hall
      go_wp2_with fail
      go_end0
      exact ⟨rfl, HP.out.1, HP.out.2⟩
end Go.Proofs.YtcknmpcekmbcdaaDoor
