/- PROVED HERE: for every byte the law GfTables returns true (the tables are the powers and the logs). No condition. -/
import Derived.Test.YtcknmpcekmbcdaaGAwake
import Derived.Test.YtcknmpcekmbcdaaRows
import Derived.ProofKit
import Derived.OpenShut
import Derived.Deep.RegionHeld
namespace Go.Proofs.Ytcknmpcekmbcdaa
open Go.RowKit
open Gf

/-- The tables lie where they lie. -/
structure TbS (w : World) (g : Nat) (W : World) : Prop where
  row : W.heap[g]? = some (.cells tabs 40 (0, 0))
  below : Below w.heap.size w W
theorem TbS.call {w W W' : World} {g : Nat} (h : TbS w g W) (hb : Below W.heap.size W W') : TbS w g W' :=
  ⟨(hb.block _ (Array.getElem?_eq_some_iff.1 h.row).1).trans h.row, h.below.trans (hb.mono h.below.size)⟩
theorem TbS.drew {w W : World} {g : Nat} (h : TbS w g W) : TbS w g W.drew := ⟨h.row, h.below.drew⟩
theorem tabs_get (i : Nat) (hi : i < 256) : tabs[i]? = some (.int .i64 ((pTab.getD i 0 : Nat) : Int)) ∧ tabs[256 + i]? = some (.int .i64 ((lTab.getD i 0 : Nat) : Int)) := by
  unfold tabs
  have h1 : (icells pTab).toArray.size = 256 := by rw [List.size_toArray, icells_length, pTab_length]
  have h2 : (icells lTab).toArray.size = 256 := by rw [List.size_toArray, icells_length, lTab_length]
  constructor
  · rw [Array.getElem?_append_left (by rw [h1]; exact hi), List.getElem?_toArray, icells_get _ _ (by rw [pTab_length]; exact hi)]
  · rw [Array.getElem?_append_right (by rw [h1]; omega), h1, show 256 + i - 256 = i by omega, List.getElem?_toArray, icells_get _ _ (by rw [lTab_length]; exact hi)]
theorem TbS.cell1 {w W : World} {g : Nat} (h : TbS w g W) {i Y : Nat} (hy : i < 256 ∧ pTab.getD i 0 = Y) : W.cell? ⟨g, i, none⟩ = some (.int .i64 (Y : Int)) := by
  rw [cell_of_row _ _ _ _ _ _ h.row, (tabs_get i hy.1).1, hy.2]
theorem TbS.cell2 {w W : World} {g : Nat} (h : TbS w g W) {i L : Nat} (hy : i < 256 ∧ lTab.getD i 0 = L) : W.cell? ⟨g, 256 + i, none⟩ = some (.int .i64 (L : Int)) := by
  rw [cell_of_row _ _ _ _ _ _ h.row, (tabs_get i hy.1).2, hy.2]
theorem pTab_pow (A : Nat) (hA : A < 256) : pTab.getD A 0 = (pow 3 ((A : Int) % 255).toNat).toNat := by
  by_cases h : A < 255
  · rw [show ((A : Int) % 255).toNat = A by omega, ← eTab_pow h]
    unfold pTab
    rw [List.getD_eq_getElem?_getD, List.getElem?_append_left (by rw [eTab_len]; exact h), List.getD_eq_getElem?_getD]
  · obtain rfl : A = 255 := by omega
    decide +kernel
theorem logz_tab (a : UInt8) : lTab.getD a.toNat 0 = logz a := by
  unfold logz logN
  split
  · next h => subst h; decide +kernel
  · rfl
set_option maxRecDepth 100000 in
set_option maxHeartbeats 2000000 in
theorem tables_law {w : World} (a : UInt8) :
    Calls Try.prog 6 #[.int .u8 (a.toNat : Int)] w fun e w' => e = .returned (.bool true) ∧ Below w.heap.size w w' := by
  obtain ⟨Y, hY⟩ : ∃ Y, Y = pow 3 ((a.toNat : Int) % 255).toNat := ⟨_, rfl⟩
  obtain ⟨L, hL⟩ : ∃ L, L = logz a := ⟨_, rfl⟩
  have hl := a.toNat_lt
  have x1 : ∀ w, Calls Try.prog 21 #[.int .i64 (a.toNat : Int)] w fun e w' => e = .returned (.int .u8 (Y.toNat : Int)) ∧ w = w' := fun w => by rw [hY]; exact rexp_any _ w
  have x2 : a.toNat < 256 ∧ pTab.getD a.toNat 0 = Y.toNat := ⟨hl, by rw [hY]; exact pTab_pow _ hl⟩
  have x3 : a.toNat < 256 ∧ lTab.getD a.toNat 0 = L := ⟨hl, by rw [hL]; exact logz_tab a⟩
  have x4 := rlog_any a
  rw [← hL] at x4
  have hYl := Y.toNat_lt
  have hli : (a.toNat : Int) < 256 := by omega
  have hYi : (Y.toNat : Int) < 256 := by omega
  clear hl hYl
  have hwa : IntKind.i64.wrap (a.toNat : Int) = (a.toNat : Int) := by rw [IntWalk.i64_in _ (by omega)]
  have hwY : IntKind.i64.wrap (Y.toNat : Int) = (Y.toNat : Int) := by rw [IntWalk.i64_in _ (by omega)]
  have HT := Lib.hid (And.intro tabs_size tabs_one)
  have hz2 := z512
  by_cases ha : a = 0
  · have hL0 : L = 0 := by rw [hL, ha]; rfl
    have he : ierr a = 1 := if_pos ha
    rw [he] at x4
    have HX := Lib.hid (And.intro x1 (And.intro x2 (And.intro x3 x4)))
    clear x1 x2 x3 x4 hY hL ha he
    subst hL0
    go_enter Try.func6, Try.ntmps6
    go_wp2_with fail
    refine (table_any _).mono ?_
    rintro e w1 ⟨rfl, hb1⟩
    have hr1 : (w1.alloc (.cells zero512.toArray 40)).heap[w1.heap.size]? = some (.cells zero512.toArray 40 (0, 0)) := heap_alloc_new _ _
    have hb2 : Below w.heap.size w (w1.alloc (.cells zero512.toArray 40)) := hb1.alloc hb1.size _
    have HR := Lib.hid (And.intro hr1 (And.intro hb2 hb1.size))
    clear hr1 hb2 hb1
    go_wp2_with (refine wpList_store_row rfl 40 _ _ rfl w1.heap.size rfl 40 zero512.toArray tabs rfl HR.out.1 (by rw [HT.out.1]; kernel_rfl) (by rw [HT.out.1, zero512_size]) HT.out.2 ?_)
    have C : TbS w w1.heap.size ((w1.alloc (.cells zero512.toArray 40)).setRow w1.heap.size tabs) := ⟨setRow_heap _ _ _ _ _ _ HR.out.1, below_setRow HR.out.2.1 _ _ HR.out.2.2⟩
    generalize w1.heap.size = g at *
    generalize World.setRow _ _ _ = W at *
    clear hz2 HR HT
    refine (HX.out.2.2.2 _).mono ?_
    rintro e w2 ⟨rfl, rfl⟩
    go_wp2_with fail
    have C := C.drew
    refine wp_region_held (S := TbS w g) (by kernel_rfl) ?_
    change wpAnyH _ _ _ _ _ _ _ _ (World.drew _)
    generalize World.drew _ = wh at *
    refine wpAnyH_ready (rs := [0]) (by kernel_rfl) (by simp) ?_
    refine AllReadyH.cons rfl (fun K hK => ?_) AllReadyH.nil
    go_simp
    refine (awake_any _).mono ?_
    rintro e W1 ⟨rfl, hb⟩
    have C := C.call hb
    refine hK.out _ _ C (fun _ => ?_)
    clear hK K hb
    refine wpAnyH_take (i := 1) (v := ?_) rfl (by kernel_rfl) (by kernel_rfl) (by kernel_rfl) (fun _ _ _ h => h) (Or.inl ⟨by kernel_rfl, ?_⟩) C ?_
    rotate_left
    · (intro W hS; clear hS; go_simp; try (with_reducible rfl))
    refine wpAnyH_take (i := 2) (v := ?_) rfl (by kernel_rfl) (by kernel_rfl) (by kernel_rfl) (fun _ _ _ h => h) (Or.inl ⟨by kernel_rfl, ?_⟩) C ?_
    rotate_left
    · (intro W hS; clear hS; go_simp; try (with_reducible rfl))
    refine wpAnyH_take (i := 3) (v := ?_) rfl (by kernel_rfl) (by kernel_rfl) (by kernel_rfl) (fun _ _ _ h => h) (Or.inl ⟨by kernel_rfl, ?_⟩) C ?_
    rotate_left
    · (intro W hS; clear hS; go_simp; try (with_reducible rfl))
    refine wpAnyH_take (i := 4) (v := ?_) rfl (by kernel_rfl) (by kernel_rfl) (by kernel_rfl) (fun _ _ _ h => h) (Or.inl ⟨by kernel_rfl, ?_⟩) C ?_
    rotate_left
    · (intro W hS; clear hS; go_simp; try (with_reducible rfl))
    refine wpAnyH_take (i := 5) (v := ?_) rfl (by kernel_rfl) (by kernel_rfl) (by kernel_rfl) (fun _ _ _ h => h) (Or.inl ⟨by kernel_rfl, ?_⟩) C ?_
    rotate_left
    · (intro W hS; have hc := hS.cell1 HX.out.2.1; clear hS; go_simp; try (with_reducible rfl))
    refine wpAnyH_take (i := 6) (v := ?_) rfl (by kernel_rfl) (by kernel_rfl) (by kernel_rfl) (fun _ _ _ h => h) (Or.inl ⟨by kernel_rfl, ?_⟩) C ?_
    rotate_left
    · (intro W hS; clear hS; go_simp; try (with_reducible rfl))
    refine wpAnyH_take (i := 7) (v := ?_) rfl (by kernel_rfl) (by kernel_rfl) (by kernel_rfl) (fun _ _ _ h => h) (Or.inl ⟨by kernel_rfl, ?_⟩) C ?_
    rotate_left
    · (intro W hS; clear hS; go_simp; try (with_reducible rfl))
    refine wpAnyH_ready (rs := [8]) (by kernel_rfl) (by simp) ?_
    refine AllReadyH.cons rfl (fun K hK => ?_) AllReadyH.nil
    go_simp
    refine (HX.out.1 _).mono ?_
    rintro e W2 ⟨rfl, rfl⟩
    refine hK.out _ _ C (fun _ => ?_)
    clear hK K
    refine wpAnyH_take (i := 9) (v := ?_) rfl (by kernel_rfl) (by kernel_rfl) (by kernel_rfl) (fun _ _ _ h => h) (Or.inl ⟨by kernel_rfl, ?_⟩) C ?_
    rotate_left
    · (intro W hS; clear hS; go_simp; try (with_reducible rfl))
    refine wpAnyH_take (i := 10) (v := ?_) rfl (by kernel_rfl) (by kernel_rfl) (by kernel_rfl) (fun _ _ _ h => h) (Or.inl ⟨by kernel_rfl, ?_⟩) C ?_
    rotate_left
    · (intro W hS; clear hS; go_simp; try (with_reducible rfl))
    refine wpAnyH_take (i := 11) (v := ?_) rfl (by kernel_rfl) (by kernel_rfl) (by kernel_rfl) (fun _ _ _ h => h) (Or.inl ⟨by kernel_rfl, ?_⟩) C ?_
    rotate_left
    · (intro W hS; clear hS; go_simp; try (with_reducible rfl))
    refine wpAnyH_take (i := 12) (v := ?_) rfl (by kernel_rfl) (by kernel_rfl) (by kernel_rfl) (fun _ _ _ h => h) (Or.inl ⟨by kernel_rfl, ?_⟩) C ?_
    rotate_left
    · (intro W hS; clear hS; go_simp; try (with_reducible rfl))
    refine wpAnyH_take (i := 13) (v := ?_) rfl (by kernel_rfl) (by kernel_rfl) (by kernel_rfl) (fun _ _ _ h => h) (Or.inl ⟨by kernel_rfl, ?_⟩) C ?_
    rotate_left
    · (intro W hS; clear hS; go_simp; try (with_reducible rfl))
    refine wpAnyH_take (i := 14) (v := ?_) rfl (by kernel_rfl) (by kernel_rfl) (by kernel_rfl) (fun _ _ _ h => h) (Or.inl ⟨by kernel_rfl, ?_⟩) C ?_
    rotate_left
    · (intro W hS; clear hS; go_simp; try (with_reducible rfl))
    refine wpAnyH_take (i := 15) (v := ?_) rfl (by kernel_rfl) (by kernel_rfl) (by kernel_rfl) (fun _ _ _ h => h) (Or.inl ⟨by kernel_rfl, ?_⟩) C ?_
    rotate_left
    · (intro W hS; clear hS; go_simp; try (with_reducible rfl))
    refine wpAnyH_take (i := 16) (v := ?_) rfl (by kernel_rfl) (by kernel_rfl) (by kernel_rfl) (fun _ _ _ h => h) (Or.inl ⟨by kernel_rfl, ?_⟩) C ?_
    rotate_left
    · (intro W hS; have hc := hS.cell2 HX.out.2.2.1; clear hS; go_simp; try (with_reducible rfl))
    refine wpAnyH_take (i := 17) (v := ?_) rfl (by kernel_rfl) (by kernel_rfl) (by kernel_rfl) (fun _ _ _ h => h) (Or.inl ⟨by kernel_rfl, ?_⟩) C ?_
    rotate_left
    · (intro W hS; clear hS; go_simp; try (with_reducible rfl))
    refine wpAnyH_take (i := 18) (v := ?_) rfl (by kernel_rfl) (by kernel_rfl) (by kernel_rfl) (fun _ _ _ h => h) (Or.inl ⟨by kernel_rfl, ?_⟩) C ?_
    rotate_left
    · (intro W hS; clear hS; go_simp; try (with_reducible rfl))
    refine wpAnyH_take (i := 19) (v := ?_) rfl (by kernel_rfl) (by kernel_rfl) (by kernel_rfl) (fun _ _ _ h => h) (Or.inl ⟨by kernel_rfl, ?_⟩) C ?_
    rotate_left
    · (intro W hS; clear hS; go_simp; try (with_reducible rfl))
    refine wpAnyH_take (i := 20) (v := ?_) rfl (by kernel_rfl) (by kernel_rfl) (by kernel_rfl) (fun _ _ _ h => h) (Or.inl ⟨by kernel_rfl, ?_⟩) C ?_
    rotate_left
    · (intro W hS; clear hS; go_simp; try (with_reducible rfl))
    refine wpAnyH_done (by kernel_rfl) ?_ _
    go_wp2_with fail
    go_ret
    exact ⟨by kernel_rfl, C.below⟩
  · have he : ierr a = 0 := if_neg ha
    rw [he] at x4
    have HX := Lib.hid (And.intro x1 (And.intro x2 (And.intro x3 x4)))
    clear x1 x2 x3 x4 hY hL ha he
    go_enter Try.func6, Try.ntmps6
    go_wp2_with fail
    refine (table_any _).mono ?_
    rintro e w1 ⟨rfl, hb1⟩
    have hr1 : (w1.alloc (.cells zero512.toArray 40)).heap[w1.heap.size]? = some (.cells zero512.toArray 40 (0, 0)) := heap_alloc_new _ _
    have hb2 : Below w.heap.size w (w1.alloc (.cells zero512.toArray 40)) := hb1.alloc hb1.size _
    have HR := Lib.hid (And.intro hr1 (And.intro hb2 hb1.size))
    clear hr1 hb2 hb1
    go_wp2_with (refine wpList_store_row rfl 40 _ _ rfl w1.heap.size rfl 40 zero512.toArray tabs rfl HR.out.1 (by rw [HT.out.1]; kernel_rfl) (by rw [HT.out.1, zero512_size]) HT.out.2 ?_)
    have C : TbS w w1.heap.size ((w1.alloc (.cells zero512.toArray 40)).setRow w1.heap.size tabs) := ⟨setRow_heap _ _ _ _ _ _ HR.out.1, below_setRow HR.out.2.1 _ _ HR.out.2.2⟩
    generalize w1.heap.size = g at *
    generalize World.setRow _ _ _ = W at *
    clear hz2 HR HT
    refine (HX.out.2.2.2 _).mono ?_
    rintro e w2 ⟨rfl, rfl⟩
    go_wp2_with fail
    have C := C.drew
    refine wp_region_held (S := TbS w g) (by kernel_rfl) ?_
    change wpAnyH _ _ _ _ _ _ _ _ (World.drew _)
    generalize World.drew _ = wh at *
    refine wpAnyH_ready (rs := [0]) (by kernel_rfl) (by simp) ?_
    refine AllReadyH.cons rfl (fun K hK => ?_) AllReadyH.nil
    go_simp
    refine (awake_any _).mono ?_
    rintro e W1 ⟨rfl, hb⟩
    have C := C.call hb
    refine hK.out _ _ C (fun _ => ?_)
    clear hK K hb
    refine wpAnyH_take (i := 1) (v := ?_) rfl (by kernel_rfl) (by kernel_rfl) (by kernel_rfl) (fun _ _ _ h => h) (Or.inl ⟨by kernel_rfl, ?_⟩) C ?_
    rotate_left
    · (intro W hS; clear hS; go_simp; try (with_reducible rfl))
    refine wpAnyH_take (i := 2) (v := ?_) rfl (by kernel_rfl) (by kernel_rfl) (by kernel_rfl) (fun _ _ _ h => h) (Or.inl ⟨by kernel_rfl, ?_⟩) C ?_
    rotate_left
    · (intro W hS; clear hS; go_simp; try (with_reducible rfl))
    refine wpAnyH_take (i := 3) (v := ?_) rfl (by kernel_rfl) (by kernel_rfl) (by kernel_rfl) (fun _ _ _ h => h) (Or.inl ⟨by kernel_rfl, ?_⟩) C ?_
    rotate_left
    · (intro W hS; clear hS; go_simp; try (with_reducible rfl))
    refine wpAnyH_take (i := 4) (v := ?_) rfl (by kernel_rfl) (by kernel_rfl) (by kernel_rfl) (fun _ _ _ h => h) (Or.inl ⟨by kernel_rfl, ?_⟩) C ?_
    rotate_left
    · (intro W hS; clear hS; go_simp; try (with_reducible rfl))
    refine wpAnyH_take (i := 5) (v := ?_) rfl (by kernel_rfl) (by kernel_rfl) (by kernel_rfl) (fun _ _ _ h => h) (Or.inl ⟨by kernel_rfl, ?_⟩) C ?_
    rotate_left
    · (intro W hS; have hc := hS.cell1 HX.out.2.1; clear hS; go_simp; try (with_reducible rfl))
    refine wpAnyH_take (i := 6) (v := ?_) rfl (by kernel_rfl) (by kernel_rfl) (by kernel_rfl) (fun _ _ _ h => h) (Or.inl ⟨by kernel_rfl, ?_⟩) C ?_
    rotate_left
    · (intro W hS; clear hS; go_simp; try (with_reducible rfl))
    refine wpAnyH_take (i := 7) (v := ?_) rfl (by kernel_rfl) (by kernel_rfl) (by kernel_rfl) (fun _ _ _ h => h) (Or.inl ⟨by kernel_rfl, ?_⟩) C ?_
    rotate_left
    · (intro W hS; clear hS; go_simp; try (with_reducible rfl))
    refine wpAnyH_ready (rs := [8]) (by kernel_rfl) (by simp) ?_
    refine AllReadyH.cons rfl (fun K hK => ?_) AllReadyH.nil
    go_simp
    refine (HX.out.1 _).mono ?_
    rintro e W2 ⟨rfl, rfl⟩
    refine hK.out _ _ C (fun _ => ?_)
    clear hK K
    refine wpAnyH_take (i := 9) (v := ?_) rfl (by kernel_rfl) (by kernel_rfl) (by kernel_rfl) (fun _ _ _ h => h) (Or.inl ⟨by kernel_rfl, ?_⟩) C ?_
    rotate_left
    · (intro W hS; clear hS; go_simp; try (with_reducible rfl))
    refine wpAnyH_take (i := 10) (v := ?_) rfl (by kernel_rfl) (by kernel_rfl) (by kernel_rfl) (fun _ _ _ h => h) (Or.inl ⟨by kernel_rfl, ?_⟩) C ?_
    rotate_left
    · (intro W hS; clear hS; go_simp; try (with_reducible rfl))
    refine wpAnyH_take (i := 11) (v := ?_) rfl (by kernel_rfl) (by kernel_rfl) (by kernel_rfl) (fun _ _ _ h => h) (Or.inl ⟨by kernel_rfl, ?_⟩) C ?_
    rotate_left
    · (intro W hS; clear hS; go_simp; try (with_reducible rfl))
    refine wpAnyH_take (i := 12) (v := ?_) rfl (by kernel_rfl) (by kernel_rfl) (by kernel_rfl) (fun _ _ _ h => h) (Or.inl ⟨by kernel_rfl, ?_⟩) C ?_
    rotate_left
    · (intro W hS; clear hS; go_simp; try (with_reducible rfl))
    refine wpAnyH_take (i := 13) (v := ?_) rfl (by kernel_rfl) (by kernel_rfl) (by kernel_rfl) (fun _ _ _ h => h) (Or.inl ⟨by kernel_rfl, ?_⟩) C ?_
    rotate_left
    · (intro W hS; clear hS; go_simp; try (with_reducible rfl))
    refine wpAnyH_take (i := 14) (v := ?_) rfl (by kernel_rfl) (by kernel_rfl) (by kernel_rfl) (fun _ _ _ h => h) (Or.inl ⟨by kernel_rfl, ?_⟩) C ?_
    rotate_left
    · (intro W hS; clear hS; go_simp; try (with_reducible rfl))
    refine wpAnyH_take (i := 15) (v := ?_) rfl (by kernel_rfl) (by kernel_rfl) (by kernel_rfl) (fun _ _ _ h => h) (Or.inl ⟨by kernel_rfl, ?_⟩) C ?_
    rotate_left
    · (intro W hS; clear hS; go_simp; try (with_reducible rfl))
    refine wpAnyH_take (i := 16) (v := ?_) rfl (by kernel_rfl) (by kernel_rfl) (by kernel_rfl) (fun _ _ _ h => h) (Or.inl ⟨by kernel_rfl, ?_⟩) C ?_
    rotate_left
    · (intro W hS; have hc := hS.cell2 HX.out.2.2.1; clear hS; go_simp; try (with_reducible rfl))
    refine wpAnyH_take (i := 17) (v := ?_) rfl (by kernel_rfl) (by kernel_rfl) (by kernel_rfl) (fun _ _ _ h => h) (Or.inl ⟨by kernel_rfl, ?_⟩) C ?_
    rotate_left
    · (intro W hS; clear hS; go_simp; try (with_reducible rfl))
    refine wpAnyH_take (i := 18) (v := ?_) rfl (by kernel_rfl) (by kernel_rfl) (by kernel_rfl) (fun _ _ _ h => h) (Or.inl ⟨by kernel_rfl, ?_⟩) C ?_
    rotate_left
    · (intro W hS; clear hS; go_simp; try (with_reducible rfl))
    refine wpAnyH_take (i := 19) (v := ?_) rfl (by kernel_rfl) (by kernel_rfl) (by kernel_rfl) (fun _ _ _ h => h) (Or.inl ⟨by kernel_rfl, ?_⟩) C ?_
    rotate_left
    · (intro W hS; clear hS; go_simp; try (with_reducible rfl))
    refine wpAnyH_take (i := 20) (v := ?_) rfl (by kernel_rfl) (by kernel_rfl) (by kernel_rfl) (fun _ _ _ h => h) (Or.inl ⟨by kernel_rfl, ?_⟩) C ?_
    rotate_left
    · (intro W hS; clear hS; go_simp; try (with_reducible rfl))
    refine wpAnyH_done (by kernel_rfl) ?_ _
    go_wp2_with fail
    go_ret
    exact ⟨by kernel_rfl, C.below⟩
end Go.Proofs.Ytcknmpcekmbcdaa

namespace Go.Proofs.Ytcknmpcekmbcdaa.gfTablesLaw
open Go.ChangeShapes Go.WideShapes Go.ChangeAt Go.RowKit
open Go.ChangeMaps (open_string shut_string)

theorem own : ownKnob Try.prog.godebug = none := by kernel_rfl
set_option maxRecDepth 100000 in
theorem lifted (os : Os) (started : os.Started) (H : Type) (enc : TypeId × Value → H) :
    ReturnsInHanded {} Try.checked os 6 .any (Rows.gfTablesSpec.pre6 enc Try.prog Try.f6 Rows.gfTablesRow.domain false) (Rows.gfTablesSpec.post enc Try.prog Try.f6 false true false false) := by
  refine returnsInHanded_of_change (C := Try.checked) own started (by kernel_rfl) Try.func6
    (ChangeSpec.witness6 (enc := enc) (C := Try.checked) false ⟨#[], #[.int .u8 0], []⟩ 8 (by kernel_rfl) (by kernel_rfl) (by kernel_rfl) (by kernel_rfl)) ?_
  intro W base args ds gs before hval0 hW hcnd _
  have hval : ∀ (j : Nat) t v, Try.f6.params[j]? = some t → args[j]? = some v → Value.okWide Try.prog W .any base t v := hval0
  have hW' := hW
  obtain ⟨p, q, hA0, hV, rfl, hfz, hnd⟩ := hW
  have hA : DataW.TrodAll enc Try.prog W 0 (fun _ => true) true Try.f6.params.toList args.toList ds p := hA0
  rw [Try.params6] at hA hval
  obtain ⟨v0, vs0, d0, ds0, p0, q0, hargs, rfl, rfl, h0, r0⟩ := trodAll_cons hA
  obtain ⟨rfl, rfl, rfl⟩ := trodAll_nil r0
  obtain rfl : args = #[v0] := by cases args; simp_all
  obtain ⟨rfl, rfl⟩ := trodVars_none hV
  obtain ⟨n0, rfl, rfl, rfl, ws0⟩ := open_int Try.underlying5 (hval 0 5 v0 rfl rfl) h0
  obtain ⟨x0, rfl⟩ := u8_of ws0
  clear hA0 hval0
  simp only [List.append_nil] at hW'
  refine (tables_law x0 (w := W)).mono fun e W' ⟨he, hb⟩ => ?_
  subst he
  exact ⟨_, rfl, _, _, _, [], [], [], hW', trodAll_cons_mk (shut_bool Try.underlying4 _) trodAll_mk0, (trodAll_cons_mk (shut_int Try.underlying5 ws0) trodAll_mk0), rfl, hb.frame _, fun h => by cases h⟩
theorem over : Rows.gfTablesRow.holds Try.pinned (OpenSpec.ofChange Rows.gfTablesSpec) :=
  OpenClaim.holds_of_wide 6 Try.f6 rfl rfl rfl rfl rfl rfl rfl ⟨rfl, rfl, rfl, rfl, rfl⟩ rfl rfl rfl rfl rfl (by kernel_rfl) Try.func6 (by kernel_rfl)
    (of_decide_eq_true (by kernel_rfl)) (by unfold Func.isWrapper; first | (rw [if_pos (by decide +kernel)]; kernel_rfl) | (rw [if_neg (by decide +kernel)]; exact ⟨rfl, rfl⟩))
    (fun os started H enc _ => lifted os started H enc)
end Go.Proofs.Ytcknmpcekmbcdaa.gfTablesLaw

namespace Go.Proofs.Ytcknmpcekmbcdaa
theorem gfTables_said : Rows.GfTablesSaid := gfTablesLaw.over
end Go.Proofs.Ytcknmpcekmbcdaa
