/- poly.addTimes. -/
import Derived.Test.YtefpfedpgedloaaDoorPMult
import Derived.StillTailTactics
namespace Go.Proofs.YtefpfedpgedloaaDoor
open Go.RowKit
open Gf

/-- Only block g is another. -/
structure Only (g : Nat) (w w' : World) : Prop where
  below : Below g w w'
  kept : ∀ j, j < w.heap.size → j ≠ g → w'.heap[j]? = w.heap[j]?
theorem Only.of {g : Nat} {w w' : World} (hb : Below w.heap.size w w') (hg : g ≤ w.heap.size) : Only g w w' := ⟨hb.mono hg, fun j hj _ => hb.block j hj⟩
theorem Only.trans {g : Nat} {w X Y : World} (h : Only g w X) (k : Only g X Y) : Only g w Y :=
  ⟨h.below.trans k.below, fun j hj he => (k.kept j (Nat.lt_of_lt_of_le hj h.below.size) he).trans (h.kept j hj he)⟩
theorem Only.drew {g : Nat} {w X : World} (h : Only g w X) : Only g w X.drew := ⟨h.below.drew, h.kept⟩
theorem Only.put {g : Nat} {w X : World} (h : Only g w X) (i : Nat) (v : Value) : Only g w (X.setCell ⟨g, i, none⟩ v) :=
  ⟨h.below.setCell (p := ⟨g, i, none⟩) (Nat.le_refl _) v, fun j hj he => by rw [heap_setCell_other _ _ _ _ he]; exact h.kept j hj he⟩
theorem Only.mono {g B : Nat} {w X : World} (h : Only g w X) (hB : B ≤ g) : Below B w X := h.below.mono hB
theorem OwnB.only {B g g2 : Nat} {w w' : World} {cap : Nat} {l : List UInt8} (h : OwnB B w (some ⟨g2, 0, none⟩) cap l) (ho : Only g w w') (he : g2 ≠ g) : OwnB B w' (some ⟨g2, 0, none⟩) cap l := by
  obtain ⟨h1, h2⟩ := h
  refine ⟨h1, ?_⟩
  rcases h2 with h2 | ⟨k, c, cur, e, hB, hg, h3⟩
  · exact .inl h2
  · have hk : k = g2 := by
      injection e with e1 _ _
      injection e1 with e1
      injection e1 with e1 _ _
      exact e1.symm
    exact .inr ⟨k, c, cur, e, hB, (ho.kept k (Array.getElem?_eq_some_iff.1 hg).1 (hk ▸ he)).trans hg, h3⟩
/-- The products of the first k bytes, added from place i on. -/
def addK (l : List UInt8) (i : Nat) (p : List UInt8) (c : UInt8) : Nat → List UInt8
  | 0 => l
  | k + 1 => (addK l i p c k).set (i + k) (co (addK l i p c k) (i + k) ^^^ mul c (co p k))
theorem addK_length (l : List UInt8) (i : Nat) (p : List UInt8) (c : UInt8) : ∀ k, (addK l i p c k).length = l.length
  | 0 => rfl
  | k + 1 => by rw [addK, List.length_set, addK_length l i p c k]
theorem co_addK (l : List UInt8) (i : Nat) (p : List UInt8) (c : UInt8) : ∀ k, i + k ≤ l.length → ∀ t, co (addK l i p c k) t = co l t ^^^ (if i ≤ t ∧ t < i + k then mul c (co p (t - i)) else 0)
  | 0, _, t => by
    have h : ¬ (i ≤ t ∧ t < i + 0) := by omega
    rw [if_neg h, addK, UInt8.xor_zero]
  | k + 1, h, t => by
    have ih := co_addK l i p c k (by omega)
    rw [addK, co_set (by rw [addK_length]; omega)]
    by_cases e : t = i + k
    · subst e
      have h1 : ¬ (i ≤ i + k ∧ i + k < i + k) := by omega
      have h2 : i ≤ i + k ∧ i + k < i + (k + 1) := by omega
      rw [if_pos rfl, ih, if_neg h1, if_pos h2, UInt8.xor_zero, show i + k - i = k by omega]
    · rw [if_neg e, ih]
      by_cases h1 : i ≤ t ∧ t < i + k
      · have h2 : i ≤ t ∧ t < i + (k + 1) := by omega
        rw [if_pos h1, if_pos h2]
      · have h2 : ¬ (i ≤ t ∧ t < i + (k + 1)) := by omega
        rw [if_neg h1, if_neg h2]
/-- All products added. -/
def addAt (l : List UInt8) (i : Nat) (p : List UInt8) (c : UInt8) : List UInt8 := addK l i p c p.length
theorem addAt_length (l : List UInt8) (i : Nat) (p : List UInt8) (c : UInt8) : (addAt l i p c).length = l.length := addK_length _ _ _ _ _
theorem co_addAt {l : List UInt8} {i : Nat} {p : List UInt8} (c : UInt8) (h : i + p.length ≤ l.length) (t : Nat) : co (addAt l i p c) t = co l t ^^^ (if i ≤ t then mul c (co p (t - i)) else 0) := by
  unfold addAt
  rw [co_addK l i p c p.length h t]
  by_cases h1 : i ≤ t
  · by_cases h2 : t < i + p.length
    · rw [if_pos ⟨h1, h2⟩, if_pos h1]
    · rw [if_neg (fun x => h2 x.2), if_pos h1, co_far (p := p) (by omega), mul_zero]
  · rw [if_neg (fun x => h1 x.1), if_neg h1]
set_option maxRecDepth 100000 in
set_option maxHeartbeats 1000000 in
theorem addTimes_any {B : Nat} {w : World} {g cap : Nat} {l : List UInt8} (hown : OwnB B w (some ⟨g, 0, none⟩) cap l) (i n cc : Nat) (p : ByteArray) (hp : p.size ≤ 1000000) (hn : p.size ≤ n) (hi : i + p.size ≤ l.length) (c : UInt8) :
    Calls Tryd.prog 58 #[.slice (some ⟨g, i, none⟩) n cc, .string p, .int .u8 (c.toNat : Int)] w fun e w' => e = .returned (.tuple #[]) ∧ OwnB B w' (some ⟨g, 0, none⟩) cap (addAt l i p.data.toList c) ∧ Only g w w' := by
  have hgl := (OwnB.size hown).2
  obtain ⟨M, hM⟩ : ∃ M, M = (bcells (mults c)).toArray := ⟨_, rfl⟩
  have hMs : M.size = 256 := by rw [hM, List.size_toArray, bcells_length, mults_length]
  have hMo := bcells_one (mults c)
  rw [← hM] at hMo
  have hcall : ∀ w, Calls Tryd.prog 80 #[.int .u8 (c.toNat : Int)] w fun e w' => e = .returned (.agg M) ∧ Below w.heap.size w w' := fun w => by rw [hM]; exact multiples_any c w
  have hz := zb256
  obtain ⟨Z, hZ⟩ : ∃ Z, Z = (bcells (List.replicate 256 0)).toArray := ⟨_, rfl⟩
  rw [← hZ] at hz
  have hZs : Z.size = 256 := by rw [hZ, List.size_toArray, bcells_length, List.length_replicate]
  obtain ⟨R, hR⟩ : ∃ R, R = addAt l i p.data.toList c := ⟨_, rfl⟩
  rw [← hR]
  have HM := Lib.hid (And.intro hM (And.intro hMs (And.intro hMo (And.intro hZs (And.intro hcall hR)))))
  have HO := Lib.hid (And.intro hown hgl)
  clear hM hMs hMo hZ hZs hcall hR hown hgl
  go_enter Tryd.func58, Tryd.ntmps58
  go_wp2_with fail
  refine (HM.out.2.2.2.2.1 _).mono ?_
  rintro e w1 ⟨rfl, hb1⟩
  have hg1 : g < w1.heap.size := Nat.lt_of_lt_of_le HO.out.2 hb1.size
  have hr1 : (w1.alloc (.cells Z 116)).heap[w1.heap.size]? = some (.cells Z 116 (0, 0)) := heap_alloc_new _ _
  have hb2 : Below w.heap.size w (w1.alloc (.cells Z 116)) := hb1.alloc hb1.size _
  have HR := Lib.hid (And.intro hr1 (And.intro hb2 (And.intro hb1.size hg1)))
  clear hr1 hb2 hb1 hg1
  go_wp2_with (refine wpList_store_row rfl 116 _ _ rfl w1.heap.size rfl 116 Z M rfl HR.out.1 (by rw [HM.out.2.1]; kernel_rfl) (by rw [HM.out.2.1, HM.out.2.2.2.1]) HM.out.2.2.1 ?_)
  have hbw : Below w.heap.size w ((w1.alloc (.cells Z 116)).setRow w1.heap.size M) := below_setRow HR.out.2.1 _ _ HR.out.2.2.1
  have hrow : RowV 116 ((w1.alloc (.cells Z 116)).setRow w1.heap.size M) w1.heap.size (bcells (mults c)) := by
    have := setRow_heap _ _ _ M _ _ HR.out.1
    unfold RowV
    rw [← HM.out.1]
    exact this
  have hne : g ≠ w1.heap.size := by have := HR.out.2.2.2; omega
  have H0 := Lib.hid (And.intro (HO.out.1.call hbw) (And.intro hrow (Only.of hbw (show g ≤ w.heap.size from Nat.le_of_lt HO.out.2))))
  have HN := Lib.hid (And.intro hne HO.out.2)
  clear hbw hrow hne HR hz
  generalize World.setRow _ _ _ = W0 at *
  generalize w1.heap.size = m at *
  go_loopw [7, 12] (fun _ j wr => ∃ k : Nat, k ≤ p.size ∧ j = .int .i64 (k : Int) ∧ OwnB B wr (some ⟨g, 0, none⟩) cap (addK l i p.data.toList c k) ∧ RowV 116 wr m (bcells (mults c)) ∧ Only g w wr) (fun _ j _ => p.size - (intOf j).toNat)
  case atStart => exact ⟨0, by omega, rfl, H0.out.1, H0.out.2.1, H0.out.2.2⟩
  case round =>
    clear H0
    obtain ⟨k, hk, rfl, ho, hr, hb⟩ := hrel
    by_cases hlt : k < p.size
    · have hlen := addK_length l i p.data.toList c k
      have c1 := ho.cellAt (i + k) (by omega)
      have f1 := ho.frozenAt (i + k)
      have c2 := hr.cell p[k].toNat _ (bcells_get _ p[k].toNat (by rw [mults_length]; exact p[k].toNat_lt))
      rw [co_mults] at c2
      have hkp := co_at p k hlt
      obtain ⟨x, hx⟩ : ∃ x, x = (addK l i p.data.toList c k).getD (i + k) 0 := ⟨_, rfl⟩
      obtain ⟨y, hy⟩ : ∃ y, y = mul c p[k] := ⟨_, rfl⟩
      obtain ⟨z, hzz⟩ : ∃ z, z = x ^^^ y := ⟨_, rfl⟩
      have e1 := u_xor x y
      rw [← hzz] at e1
      rw [← hx] at c1
      rw [← hy] at c2
      have hbl := p[k].toNat_lt
      have hbi : (p[k].toNat : Int) < 256 := by omega
      have hp1 := ho.drew.put (i + k) z
      have hst : (addK l i p.data.toList c k).set (i + k) z = addK l i p.data.toList c (k + 1) := by
        rw [hzz, hx, hy, ← hkp]; rfl
      rw [hst] at hp1
      have hpr := hr.drew.other ⟨g, i + k, none⟩ (.int .u8 (z.toNat : Int)) (by simpa using HN.out.1)
      have hpo := hb.drew.put (i + k) (.int .u8 (z.toNat : Int))
      have c1' : wr.drew.cell? ⟨g, i + k, none⟩ = some (.int .u8 (x.toNat : Int)) := c1
      have f1' : wr.drew.frozen? ⟨g, i + k, none⟩ = false := f1
      have c2' : wr.drew.cell? ⟨m, p[k].toNat, none⟩ = some (.int .u8 (y.toNat : Int)) := c2
      have hkn : (k : Int) < (n : Int) := by omega
      have HP := Lib.hid (And.intro hp1 (And.intro hpr hpo))
      clear ho hr hb hp1 hpr hpo hst hzz hx hy hkp hlen hbl
      go_wp2_with fail
      refine wp_region_still_tail 11 (by kernel_rfl) (by kernel_rfl) ?_
      simp only [List.take_succ_cons, List.take_zero, List.drop_succ_cons, List.drop_zero]
      repeat still_step
      refine wpStill_nil ?_
      change wpList _ _ _ _ _ wr.drew
      clear c1 f1 c2
      generalize wr.drew = w3 at *
      go_wp2_with fail
      go_roundw
      case rel => exact ⟨k + 1, by omega, by go_num, HP.out.1, HP.out.2.1, HP.out.2.2⟩
      case measure => simp [intOf]; omega
    · obtain rfl : k = p.size := by omega
      have hall : addK l i p.data.toList c p.size = R := by rw [HM.out.2.2.2.2.2]; unfold addAt; congr 1
      rw [hall] at ho
      have HP := Lib.hid (And.intro ho hb)
      clear ho hr hb hall
      go_wp2_with fail
      go_end0
      exact ⟨rfl, HP.out.1, HP.out.2⟩
end Go.Proofs.YtefpfedpgedloaaDoor
