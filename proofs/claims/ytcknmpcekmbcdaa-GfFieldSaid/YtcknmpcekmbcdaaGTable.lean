/- gf.Table, gf.Log. -/
import Derived.Test.YtcknmpcekmbcdaaGDot
import Derived.Test.YtcknmpcekmbcdaaGRef2
import Derived.Test.YtcknmpcekmbcdaaGTabM
import Derived.Deep.LoopGhost
import Derived.ScopeJumps
namespace Go.Proofs.Ytcknmpcekmbcdaa
open Go.RowKit
open Gf

/-- The two tables. -/
def tabs : Array Value := (icells pTab).toArray ++ (icells lTab).toArray
theorem tabs_size : tabs.size = 512 := by
  unfold tabs; rw [Array.size_append, List.size_toArray, List.size_toArray, icells_length, icells_length, pTab_length, lTab_length]
theorem tabs_one : tabs.all (·.oneCell') = true := by
  unfold tabs; rw [Array.all_append, icells_one, icells_one]; rfl
/-- What holds wherever the run jumps back. -/
def TJ (w : World) (B g1 g2 : Nat) (a : Act) (W : World) : Prop :=
  ∃ (k : Nat) (u5 u6 u7 u8 u9 u10 u11 u12 u13 u14 u15 u16 u17 u18 u19 u20 u21 : Value), a = { tmps := #[.pointer (some ⟨B, 0, none⟩), .pointer (some ⟨g1, 0, none⟩), .pointer (some ⟨g2, 0, none⟩), .int .i64 (k : Int), .int .u8 ((pow 3 k).toNat : Int), u5, u6, u7, u8, u9, u10, u11, u12, u13, u14, u15, u16, u17, u18, u19, u20, u21], defers := [] } ∧ k < 255 ∧
    RowV 39 W g1 (icells (pT k)) ∧ RowV 39 W g2 (icells (lT k)) ∧ RowV 40 W B zero512 ∧ Below B w W
theorem gmul3_any (n : Nat) (w : World) :
    Calls Try.prog 14 #[.int .u8 ((pow 3 n).toNat : Int), .int .u8 3] w fun e w' => e = .returned (.int .u8 ((pow 3 (n + 1)).toNat : Int)) ∧ w = w' := mul_any (pow 3 n) 3 w
theorem eTab_pow {k : Nat} (hk : k < 255) : eTab.getD k 0 = (pow 3 k).toNat := (pow3 k hk).symm
/-- What a step needs of memory, and what it leaves. -/
theorem tab_step {w W : World} {B g1 g2 k : Nat} (hk : k < 255) (r0 : RowV 40 W B zero512) (r1 : RowV 39 W g1 (icells (pT k))) (r2 : RowV 39 W g2 (icells (lT k))) (hb : Below B w W) (h0 : B < g1) (h1 : g1 < g2) (h2 : B < g2) :
    (∃ v, W.cell? ⟨g1, k, none⟩ = some (.int .i64 v)) ∧ W.frozen? ⟨g1, k, none⟩ = false ∧
    (∃ v, (W.setCell ⟨g1, k, none⟩ (.int .i64 ((pow 3 k).toNat : Int))).cell? ⟨g2, (pow 3 k).toNat, none⟩ = some (.int .i64 v)) ∧ (W.setCell ⟨g1, k, none⟩ (.int .i64 ((pow 3 k).toNat : Int))).frozen? ⟨g2, (pow 3 k).toNat, none⟩ = false ∧
    RowV 39 ((W.setCell ⟨g1, k, none⟩ (.int .i64 ((pow 3 k).toNat : Int))).setCell ⟨g2, (pow 3 k).toNat, none⟩ (.int .i64 (k : Int))) g1 (icells (pT (k + 1))) ∧
    RowV 39 ((W.setCell ⟨g1, k, none⟩ (.int .i64 ((pow 3 k).toNat : Int))).setCell ⟨g2, (pow 3 k).toNat, none⟩ (.int .i64 (k : Int))) g2 (icells (lT (k + 1))) ∧
    RowV 40 ((W.setCell ⟨g1, k, none⟩ (.int .i64 ((pow 3 k).toNat : Int))).setCell ⟨g2, (pow 3 k).toNat, none⟩ (.int .i64 (k : Int))) B zero512 ∧
    Below B w ((W.setCell ⟨g1, k, none⟩ (.int .i64 ((pow 3 k).toNat : Int))).setCell ⟨g2, (pow 3 k).toNat, none⟩ (.int .i64 (k : Int))) := by
  have hx := (pow 3 k).toNat_lt
  have he := eTab_pow hk
  have p1 := r1.put k (.int .i64 ((pow 3 k).toNat : Int))
  rw [icells_set, ← he] at p1
  have q2 := r2.other ⟨g1, k, none⟩ (.int .i64 ((pow 3 k).toNat : Int)) (by simp; omega)
  have p2 := q2.put (pow 3 k).toNat (.int .i64 (k : Int))
  rw [icells_set, ← he] at p2
  refine ⟨⟨_, r1.cell k _ (icells_get _ _ (by rw [pT_length]; omega))⟩, r1.frozen k, ⟨_, q2.cell _ _ (icells_get _ _ (by rw [lT_length]; omega))⟩, q2.frozen _, ?_, ?_, ?_, ?_⟩
  · rw [← he]; exact p1.other _ _ (by simp; omega)
  · rw [← he]; exact p2
  · exact (r0.other _ _ (by simp; omega)).other _ _ (by simp; omega)
  · exact (hb.setCell (by simp; omega) _).setCell (by simp; omega) _
def bdTab (ps : Array (Nat × Value)) : Sem Value := Instr.build 40 ps
theorem bdT_hide (ps : Array (Nat × Value)) : Instr.build 40 ps = bdTab ps := rfl
theorem bdT_eq (w : World) : (bdTab #[(0, .agg (icells pTab).toArray), (1, .agg (icells lTab).toArray)]).run Try.prog w = .ok (.agg tabs) w :=
  build_two _ _ (by rw [List.size_toArray, icells_length, pTab_length]) (by rw [List.size_toArray, icells_length, lTab_length]) w
attribute [local go_sem ↓] bdT_hide
attribute [local go_sem] bdT_eq
set_option maxRecDepth 100000 in
set_option maxHeartbeats 1000000 in
theorem table_any (w : World) :
    Calls Try.prog 22 #[] w fun e w' => e = .returned (.agg tabs) ∧ Below w.heap.size w w' := by
  have hz1 := z256
  have hz2 := z512
  go_enter Try.func22, Try.ntmps22
  go_wp2_with fail
  refine wp_scope_jumps 0 (TJ w w.heap.size (w.heap.size + 1) (w.heap.size + 1 + 1)) (fun a' _ => 255 - (intOf (a'.tmps.getD 3 undef)).toNat) rfl ?_ ?_
  · go_wp2_with fail
    obtain ⟨a0, a1, a2, _, a4⟩ := heap_alloc3 w (Obj.cells zero512.toArray 40) (Obj.cells zero256.toArray 39) (Obj.cells zero256.toArray 39)
    generalize World.alloc (World.alloc (World.alloc w _) _) _ = W0 at *
    have r0 : RowV 40 W0 w.heap.size zero512 := a0
    have r1 : RowV 39 W0 (w.heap.size + 1) (icells (pT 0)) := zero256_p ▸ a1
    have r2 : RowV 39 W0 (w.heap.size + 1 + 1) (icells (lT 0)) := zero256_l ▸ a2
    clear a0 a1 a2 hz1 hz2
    have T0 : (∃ v, W0.cell? ⟨w.heap.size + 1, 0, none⟩ = some (.int .i64 v)) ∧ W0.frozen? ⟨w.heap.size + 1, 0, none⟩ = false ∧
        (∃ v, (W0.setCell ⟨w.heap.size + 1, 0, none⟩ (.int .i64 1)).cell? ⟨w.heap.size + 1 + 1, 1, none⟩ = some (.int .i64 v)) ∧ (W0.setCell ⟨w.heap.size + 1, 0, none⟩ (.int .i64 1)).frozen? ⟨w.heap.size + 1 + 1, 1, none⟩ = false ∧
        RowV 39 ((W0.setCell ⟨w.heap.size + 1, 0, none⟩ (.int .i64 1)).setCell ⟨w.heap.size + 1 + 1, 1, none⟩ (.int .i64 0)) (w.heap.size + 1) (icells (pT 1)) ∧
        RowV 39 ((W0.setCell ⟨w.heap.size + 1, 0, none⟩ (.int .i64 1)).setCell ⟨w.heap.size + 1 + 1, 1, none⟩ (.int .i64 0)) (w.heap.size + 1 + 1) (icells (lT 1)) ∧
        RowV 40 ((W0.setCell ⟨w.heap.size + 1, 0, none⟩ (.int .i64 1)).setCell ⟨w.heap.size + 1 + 1, 1, none⟩ (.int .i64 0)) w.heap.size zero512 ∧
        Below w.heap.size w ((W0.setCell ⟨w.heap.size + 1, 0, none⟩ (.int .i64 1)).setCell ⟨w.heap.size + 1 + 1, 1, none⟩ (.int .i64 0)) :=
      tab_step (k := 0) (by decide) r0 r1 r2 a4 (by omega) (by omega) (by omega)
    obtain ⟨⟨v1, c1⟩, f1, ⟨v2, c2⟩, f2, n1, n2, n0, nb⟩ := T0
    have HN := Lib.hid (And.intro n1 (And.intro n2 (And.intro n0 nb)))
    have hm := gmul3_any 0
    rw [show (((pow 3 0).toNat : Nat) : Int) = 1 from rfl] at hm
    have HM := Lib.hid hm
    clear r0 r1 r2 a4 n1 n2 n0 nb hm
    go_step3
    go_wp2_with fail
    refine (HM.out _).mono ?_
    rintro e w' ⟨rfl, rfl⟩
    go_wp2_with fail
    go_step3
    exact ⟨rfl, 1, _, _, _, _, _, _, _, _, _, _, _, _, _, _, _, _, _, rfl, by decide, HN.out.1, HN.out.2.1, HN.out.2.2.1, HN.out.2.2.2⟩
  · rintro a' w' ⟨k, u5, u6, u7, u8, u9, u10, u11, u12, u13, u14, u15, u16, u17, u18, u19, u20, u21, rfl, hk, r1, r2, r0, hb⟩
    obtain ⟨⟨v1, c1⟩, f1, ⟨v2, c2⟩, f2, n1, n2, n0, nb⟩ := tab_step hk r0 r1 r2 hb (by omega) (by omega) (by omega)
    have HN := Lib.hid (And.intro n1 (And.intro n2 (And.intro n0 nb)))
    have hx := (pow 3 k).toNat_lt
    clear r0 r1 r2 hb n1 n2 n0 nb hz1 hz2
    go_wp2_with fail
    refine (gmul3_any k _).mono ?_
    rintro e w' ⟨rfl, rfl⟩
    generalize World.setCell (World.setCell w' _ _) _ _ = W2 at *
    clear c1 f1 c2 f2 hx
    by_cases hlt : k + 1 < 255
    · go_wp2_with fail
      go_step3
      refine ⟨rfl, ⟨k + 1, _, _, _, _, _, _, _, _, _, _, _, _, _, _, _, _, _, rfl, hlt, HN.out.1, HN.out.2.1, HN.out.2.2.1, HN.out.2.2.2⟩, ?_⟩
      simp [intOf]; omega
    · obtain rfl : k = 254 := by omega
      have q1 := HN.out.1
      have c1 := q1.cell 255 _ (icells_get _ _ (by rw [pT_length]; decide))
      have f1 := q1.frozen 255
      have p1 := q1.put 255 (.int .i64 1)
      rw [show (Value.int .i64 1) = .int .i64 ((1 : Nat) : Int) from rfl, icells_set, pT_eq] at p1
      have p2 := HN.out.2.1.other ⟨w.heap.size + 1, 255, none⟩ (.int .i64 1) (by simp)
      rw [lT_eq] at p2
      have p0 := HN.out.2.2.1.other ⟨w.heap.size + 1, 255, none⟩ (.int .i64 1) (by simp)
      have pb := HN.out.2.2.2.setCell (p := ⟨w.heap.size + 1, 255, none⟩) (by simp) (.int .i64 1)
      have HP := Lib.hid (And.intro p1 (And.intro p2 (And.intro p0 pb)))
      generalize ((pT 255).getD 255 0 : Int) = old at c1
      clear q1 p1 p2 p0 pb hlt hk HN
      go_wp2_with (first
        | (refine wpList_load_row rfl 39 _ rfl (w.heap.size + 1) rfl 39 (icells pTab).toArray (0, 0) _ HP.out.1 Try.underlying39 rfl (by rw [List.size_toArray, icells_length, pTab_length]; kernel_rfl) ?_)
        | (refine wpList_load_row rfl 39 _ rfl (w.heap.size + 1 + 1) rfl 39 (icells lTab).toArray (0, 0) _ HP.out.2.1 Try.underlying39 rfl (by rw [List.size_toArray, icells_length, lTab_length]; kernel_rfl) ?_)
        | (refine wpList_store_row rfl 40 _ _ rfl w.heap.size rfl 40 zero512.toArray tabs rfl HP.out.2.2.1 (by rw [tabs_size]; kernel_rfl) (by rw [tabs_size, zero512_size]) tabs_one ?_))
      simp only [Exit.jump]
      refine bodyPost_ret (results_cell_row rfl _ _ w.heap.size 40 tabs (0, 0) _ rfl (setRow_heap _ _ _ _ _ _ HP.out.2.2.1) Try.underlying40 rfl (by rw [tabs_size]; kernel_rfl)) rfl ⟨rfl, ?_⟩
      exact below_setRow HP.out.2.2.2 _ _ (Nat.le_refl _)
/-- The second table. -/
theorem ix_logs (w : World) : (Instr.index 40 (.agg tabs) (.int .i64 1)).run Try.prog w = .ok (.agg (icells lTab).toArray) w := by
  have e : tabs.extract 256 512 = (icells lTab).toArray := by
    unfold tabs
    have h1 : (icells pTab).toArray.size = 256 := by rw [List.size_toArray, icells_length, pTab_length]
    have h2 : (icells lTab).toArray.size = 256 := by rw [List.size_toArray, icells_length, lTab_length]
    generalize (icells pTab).toArray = A at *
    generalize (icells lTab).toArray = B at *
    rw [Array.extract_append, h1, Array.extract_eq_empty_of_le (by omega), Array.empty_append, Array.extract_eq_self_of_le (by omega)]
  generalize tabs = T at *
  simp [Instr.index, run_underlying Try.underlying40, asIntOf, go_sem]
  exact e
theorem ix_log (a : UInt8) (w : World) : (Instr.index 39 (.agg (icells lTab).toArray) (.int .u8 (a.toNat : Int))).run Try.prog w = .ok (.int .i64 (logN a : Nat)) w := by
  have hl := icells_get lTab a.toNat (by rw [lTab_length]; exact a.toNat_lt)
  have ha := a.toNat_lt
  have h2 : (icells lTab).toArray[a.toNat]? = some (.int .i64 ((logN a : Nat) : Int)) := by rw [List.getElem?_toArray]; exact hl
  generalize (icells lTab).toArray = T at *
  simp [Instr.index, run_underlying Try.underlying39, asIntOf, go_sem]
  rw [if_pos (by omega), h2]; rfl
attribute [local go_sem] ix_logs ix_log
set_option maxRecDepth 100000 in
set_option maxHeartbeats 400000 in
theorem log_any (a : UInt8) (w : World) :
    Calls Try.prog 18 #[.int .u8 (a.toNat : Int)] w fun e w' => e = .returned (.tuple #[.int .i64 (logz a : Nat), .int .i64 (ierr a)]) ∧ Below w.heap.size w w' := by
  by_cases h : a = 0
  · subst h
    rw [show logz 0 = 0 from rfl, show ierr 0 = 1 from rfl]
    go_enter Try.func18, Try.ntmps18
    go_wp2_with fail
    go_ret2
    exact ⟨rfl, Below.refl _ _⟩
  · have h0 := u_ne h
    rw [show logz a = logN a from if_neg h, show ierr a = 0 from if_neg h]
    clear h
    go_enter Try.func18, Try.ntmps18
    go_wp2_with fail
    refine (table_any _).mono ?_
    rintro e w' ⟨rfl, hb⟩
    have HB := Lib.hid hb
    clear hb
    go_wp2_with fail
    go_ret2
    exact ⟨rfl, HB.out⟩
end Go.Proofs.Ytcknmpcekmbcdaa
