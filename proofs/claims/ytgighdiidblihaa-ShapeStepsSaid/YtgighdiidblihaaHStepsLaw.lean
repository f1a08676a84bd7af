/- PROVED HERE: for every four texts and every list of texts the law ShapeSteps returns true (texts of the same lengths take the same number of steps, whatever their bytes are), and all read afterwards as they did. No condition. -/
import Derived.Test.YtgighdiidblihaaHOther
import Derived.Test.YtgighdiidblihaaOpenT
import Derived.Test.YtgighdiidblihaaRows
import Derived.ProofKit
import Derived.OpenShut
import Derived.Deep.RegionHeld
namespace Go.Proofs.Ytgighdiidblihaa
open Go.RowKit

theorem few2 {a b : ByteArray} (h : FewOf [a, b] 2 1000) : a.size ≤ 1000 ∧ b.size ≤ 1000 := by
  have h0 := h.2 0 (by simp)
  have h1 := h.2 1 (by simp)
  simp at h0 h1
  omega
/-- The boxes stand where they stood. -/
def StS (w2 : World) (g : Nat) (x0 x1 y0 y1 : ByteArray) (W : World) : Prop :=
  g + 1 < w2.heap.size ∧ Below w2.heap.size w2 W ∧ W.cell? ⟨g, 0, none⟩ = some (.string x0) ∧ W.cell? ⟨g, 1, none⟩ = some (.string x1) ∧ W.cell? ⟨g + 1, 0, none⟩ = some (.string y0) ∧ W.cell? ⟨g + 1, 1, none⟩ = some (.string y1)
theorem StS.call {w2 : World} {g : Nat} {x0 x1 y0 y1 : ByteArray} {W W' : World} (h : StS w2 g x0 x1 y0 y1 W) (hb : Below W.heap.size W W') : StS w2 g x0 x1 y0 y1 W' := by
  obtain ⟨h1, h2, c0, c1, d0, d1⟩ := h
  have hz := h2.size
  exact ⟨h1, below_call h2 hb, by rw [hb.cell (p := ⟨g, 0, none⟩) (by show g < _; omega)]; exact c0, by rw [hb.cell (p := ⟨g, 1, none⟩) (by show g < _; omega)]; exact c1,
    by rw [hb.cell (p := ⟨g + 1, 0, none⟩) (by show g + 1 < _; omega)]; exact d0, by rw [hb.cell (p := ⟨g + 1, 1, none⟩) (by show g + 1 < _; omega)]; exact d1⟩
theorem StS.drew {w2 : World} {g : Nat} {x0 x1 y0 y1 : ByteArray} {W : World} (h : StS w2 g x0 x1 y0 y1 W) : StS w2 g x0 x1 y0 y1 W.drew := ⟨h.1, h.2.1.drew, h.2.2⟩
theorem StS.c0 {w2 : World} {g : Nat} {x0 x1 y0 y1 : ByteArray} {W : World} (h : StS w2 g x0 x1 y0 y1 W) : W.cell? ⟨g, 0, none⟩ = some (.string x0) := h.2.2.1
theorem StS.c1 {w2 : World} {g : Nat} {x0 x1 y0 y1 : ByteArray} {W : World} (h : StS w2 g x0 x1 y0 y1 W) : W.cell? ⟨g, 1, none⟩ = some (.string x1) := h.2.2.2.1
/-- In a round. -/
def LpS (w2 : World) (g : Nat) (x0 x1 y0 y1 : ByteArray) (b o r : Nat) (x y : ByteArray) (W : World) : Prop :=
  StS w2 g x0 x1 y0 y1 W ∧ b < W.heap.size ∧ W.cell? ⟨b, o, none⟩ = some (.string x) ∧ W.cell? ⟨g + 1, r, none⟩ = some (.string y)
theorem LpS.call {w2 : World} {g : Nat} {x0 x1 y0 y1 : ByteArray} {b o r : Nat} {x y : ByteArray} {W W' : World} (h : LpS w2 g x0 x1 y0 y1 b o r x y W) (hb : Below W.heap.size W W') : LpS w2 g x0 x1 y0 y1 b o r x y W' := by
  obtain ⟨h1, h2, h3, h4⟩ := h
  have hz := h1.2.1.size
  have hg := h1.1
  exact ⟨h1.call hb, Nat.lt_of_lt_of_le h2 hb.size, by rw [hb.cell (p := ⟨b, o, none⟩) h2]; exact h3, by rw [hb.cell (p := ⟨g + 1, r, none⟩) (by show g + 1 < _; omega)]; exact h4⟩
theorem longer_size {a b a' b' : ByteArray} (h : a.size = a'.size) (k : b.size = b'.size) : longer a b = longer a' b' := by unfold longer; rw [h, k]
theorem stepsN_same {ss l : List ByteArray} {s t : ByteArray} (ht : t.size = s.size) : ∀ k, (∀ j, j < k → (l.getD j ByteArray.empty).size = (ss.getD j ByteArray.empty).size) → stepsN l t k = stepsN ss s k
  | 0, _ => rfl
  | k + 1, h => by rw [stepsN, stepsN, stepsN_same ht k (fun j hj => h j (by omega)), longer_size (h k (by omega)) ht]
theorem sizes_snoc {ss l : List ByteArray} {t : ByteArray} {k : Nat} (hl : l.length = k) (h : ∀ j, j < k → (l.getD j ByteArray.empty).size = (ss.getD j ByteArray.empty).size) (ht : t.size = (ss.getD k ByteArray.empty).size) :
    ∀ j, j < k + 1 → ((l ++ [t]).getD j ByteArray.empty).size = (ss.getD j ByteArray.empty).size := fun j hj => by
  by_cases e : j = k
  · subst e hl
    rw [List.getD_eq_getElem?_getD, List.getElem?_append_right (Nat.le_refl _)]
    simp [ht]
  · rw [List.getD_eq_getElem?_getD, List.getElem?_append_left (by omega), ← List.getD_eq_getElem?_getD]
    exact h j (by omega)

set_option maxRecDepth 100000 in
set_option maxHeartbeats 2000000 in
theorem steps_law {w : World} (x0 x1 : ByteArray) (_ : x0.size ≤ maxLen) (_ : x1.size ≤ maxLen) (y0 y1 : ByteArray) (_ : y0.size ≤ maxLen) (_ : y1.size ≤ maxLen) (ss : List ByteArray) (a0 : Option Addr) (cap : Nat) (hT : TextsAt w a0 ss) (hm : ss.length ≤ maxLen) :
    Calls Try.prog 7 #[.agg (texts2 x0 x1), .agg (texts2 y0 y1), .slice a0 ss.length cap] w fun e w' => e = .returned (.bool true) ∧ Below w.heap.size w w' := by
  unfold texts2
  have z1 : (w.alloc (.cells #[.string x0, .string x1] 45)).heap.size = w.heap.size + 1 := by simp
  have hb2 : Below w.heap.size w ((w.alloc (.cells #[.string x0, .string x1] 45)).alloc (.cells #[.string y0, .string y1] 45)) := ((Below.refl _ _).alloc (Nat.le_refl _) _).alloc (by simp) _
  have hr1 : ((w.alloc (.cells #[.string x0, .string x1] 45)).alloc (.cells #[.string y0, .string y1] 45)).heap[w.heap.size]? = some (.cells #[.string x0, .string x1] 45 (0, 0)) := by
    rw [Lib.alloc_old _ _ _ (by omega)]; exact heap_alloc_new _ _
  have hr2 : ((w.alloc (.cells #[.string x0, .string x1] 45)).alloc (.cells #[.string y0, .string y1] 45)).heap[w.heap.size + 1]? = some (.cells #[.string y0, .string y1] 45 (0, 0)) := by
    have := heap_alloc_new (w.alloc (.cells #[.string x0, .string x1] 45)) (.cells #[.string y0, .string y1] 45)
    rwa [z1] at this
  have z2 : ((w.alloc (.cells #[.string x0, .string x1] 45)).alloc (.cells #[.string y0, .string y1] 45)).heap.size = w.heap.size + 2 := by simp
  have hTS := hT.below hb2
  have e0 : ∀ (a b : ByteArray) (g : Nat) (W : World), g < W.heap.size → W.heap[g]? = some (.cells #[.string a, .string b] 45 (0, 0)) → TextsAt W (some ⟨g, 0, none⟩) [a, b] := fun a b g W hg hW j hj => by
    refine ⟨g, 0, rfl, hg, ?_⟩
    rw [Nat.zero_add, cell_of_row _ _ _ _ _ _ hW]
    have : j = 0 ∨ j = 1 := by simp at hj; omega
    rcases this with rfl | rfl <;> rfl
  have hTX := e0 x0 x1 w.heap.size _ (by rw [z2]; omega) hr1
  have hTY := e0 y0 y1 (w.heap.size + 1) _ (by rw [z2]; omega) hr2
  have hSt : StS ((w.alloc (.cells #[.string x0, .string x1] 45)).alloc (.cells #[.string y0, .string y1] 45)) w.heap.size x0 x1 y0 y1 ((w.alloc (.cells #[.string x0, .string x1] 45)).alloc (.cells #[.string y0, .string y1] 45)) :=
    ⟨by rw [z2]; omega, Below.refl _ _, by rw [cell_of_row _ _ _ _ _ _ hr1]; rfl, by rw [cell_of_row _ _ _ _ _ _ hr1]; rfl, by rw [cell_of_row _ _ _ _ _ _ hr2]; rfl, by rw [cell_of_row _ _ _ _ _ _ hr2]; rfl⟩
  clear e0 hr1 hr2 z1
  have H0 := Lib.hid (And.intro hTX (And.intro hTY (And.intro hTS (And.intro hSt (And.intro hb2 z2)))))
  clear hTX hTY hTS hSt hb2 hT z2
  go_enter Try.func7, Try.ntmps7
  go_wp2_with fail
  generalize World.alloc _ _ = w2 at *
  refine (few_any [x0, x1] _ 2 2 1000 _ H0.out.1 (show 2 ≤ maxLen by decide)).mono ?_
  rintro e w' ⟨rfl, rfl⟩
  by_cases hF1 : FewOf [x0, x1] 2 1000
  rotate_left
  · rw [fewB_false hF1]
    go_wp2_with fail
    refine (awake_any _).mono ?_
    rintro e w1 ⟨rfl, k1⟩
    have K1 := Lib.hid (H0.out.2.2.2.2.1.trans (k1.mono H0.out.2.2.2.2.1.size))
    clear k1
    go_wp2_with fail
    go_ret
    exact ⟨rfl, K1.out⟩
  rw [fewB_true hF1]
  go_wp2_with fail
  refine (few_any [y0, y1] _ 2 2 1000 _ H0.out.2.1 (show 2 ≤ maxLen by decide)).mono ?_
  rintro e w' ⟨rfl, rfl⟩
  by_cases hF2 : FewOf [y0, y1] 2 1000
  rotate_left
  · rw [fewB_false hF2]
    go_wp2_with fail
    refine (awake_any _).mono ?_
    rintro e w1 ⟨rfl, k1⟩
    have K1 := Lib.hid (H0.out.2.2.2.2.1.trans (k1.mono H0.out.2.2.2.2.1.size))
    clear k1
    go_wp2_with fail
    go_ret
    exact ⟨rfl, K1.out⟩
  rw [fewB_true hF2]
  go_wp2_with fail
  refine (few_any ss _ cap 20 100 _ H0.out.2.2.1 hm).mono ?_
  rintro e w' ⟨rfl, rfl⟩
  by_cases hF3 : FewOf ss 20 100
  rotate_left
  · rw [fewB_false hF3]
    go_wp2_with fail
    refine (awake_any _).mono ?_
    rintro e w1 ⟨rfl, k1⟩
    have K1 := Lib.hid (H0.out.2.2.2.2.1.trans (k1.mono H0.out.2.2.2.2.1.size))
    clear k1
    go_wp2_with fail
    go_ret
    exact ⟨rfl, K1.out⟩
  rw [fewB_true hF3]
  obtain ⟨hx0, hx1⟩ := few2 hF1
  have hn20 : (ss.length : Int) ≤ 20 := hF3.1
  have hss : ∀ j, j < ss.length → (ss.getD j ByteArray.empty).size ≤ 100 := fun j hj => by have := hF3.2 j hj; omega
  have HF := Lib.hid hss
  clear hF1 hF2 hF3 hss hm
  go_wp2_with fail
  have C := H0.out.2.2.2.1.drew
  refine wp_region_held (S := StS w2 w.heap.size x0 x1 y0 y1) (by kernel_rfl) ?_
  change wpAnyH _ _ _ _ _ _ _ _ (World.drew _)
  generalize World.drew _ = wh at *
  refine wpAnyH_take (i := 0) (v := ?_) rfl (by kernel_rfl) (by kernel_rfl) (by kernel_rfl) (fun _ _ _ h => h) (Or.inl ⟨by kernel_rfl, ?_⟩) C ?_
  rotate_left
  · (intro W hS; obtain ⟨-, -, c0, c1, d0, d1⟩ := hS; go_simp; try (with_reducible rfl))
  refine wpAnyH_take (i := 1) (v := ?_) rfl (by kernel_rfl) (by kernel_rfl) (by kernel_rfl) (fun _ _ _ h => h) (Or.inl ⟨by kernel_rfl, ?_⟩) C ?_
  rotate_left
  · (intro W hS; obtain ⟨-, -, c0, c1, d0, d1⟩ := hS; go_simp; try (with_reducible rfl))
  refine wpAnyH_take (i := 2) (v := ?_) rfl (by kernel_rfl) (by kernel_rfl) (by kernel_rfl) (fun _ _ _ h => h) (Or.inl ⟨by kernel_rfl, ?_⟩) C ?_
  rotate_left
  · (intro W hS; obtain ⟨-, -, c0, c1, d0, d1⟩ := hS; go_simp; try (with_reducible rfl))
  refine wpAnyH_take (i := 3) (v := ?_) rfl (by kernel_rfl) (by kernel_rfl) (by kernel_rfl) (fun _ _ _ h => h) (Or.inl ⟨by kernel_rfl, ?_⟩) C ?_
  rotate_left
  · (intro W hS; obtain ⟨-, -, c0, c1, d0, d1⟩ := hS; go_simp; try (with_reducible rfl))
  refine wpAnyH_take (i := 5) (v := ?_) rfl (by kernel_rfl) (by kernel_rfl) (by kernel_rfl) (fun _ _ _ h => h) (Or.inl ⟨by kernel_rfl, ?_⟩) C ?_
  rotate_left
  · (intro W hS; obtain ⟨-, -, c0, c1, d0, d1⟩ := hS; go_simp; try (with_reducible rfl))
  refine wpAnyH_take (i := 6) (v := ?_) rfl (by kernel_rfl) (by kernel_rfl) (by kernel_rfl) (fun _ _ _ h => h) (Or.inl ⟨by kernel_rfl, ?_⟩) C ?_
  rotate_left
  · (intro W hS; obtain ⟨-, -, c0, c1, d0, d1⟩ := hS; go_simp; try (with_reducible rfl))
  refine wpAnyH_take (i := 7) (v := ?_) rfl (by kernel_rfl) (by kernel_rfl) (by kernel_rfl) (fun _ _ _ h => h) (Or.inl ⟨by kernel_rfl, ?_⟩) C ?_
  rotate_left
  · (intro W hS; obtain ⟨-, -, c0, c1, d0, d1⟩ := hS; go_simp; try (with_reducible rfl))
  refine wpAnyH_take (i := 8) (v := ?_) rfl (by kernel_rfl) (by kernel_rfl) (by kernel_rfl) (fun _ _ _ h => h) (Or.inl ⟨by kernel_rfl, ?_⟩) C ?_
  rotate_left
  · (intro W hS; obtain ⟨-, -, c0, c1, d0, d1⟩ := hS; go_simp; try (with_reducible rfl))
  refine wpAnyH_ready (rs := [4]) (by kernel_rfl) (by simp) ?_
  refine AllReadyH.cons rfl (fun K hK => ?_) AllReadyH.nil
  go_simp
  refine (other_any x0 y0 hx0 _).mono ?_
  rintro e W1 ⟨t0, rfl, ht0, hb⟩
  have C := C.call hb
  refine hK.out _ _ C (fun _ => ?_)
  clear hK K hb
  refine wpAnyH_ready (rs := [9]) (by kernel_rfl) (by simp) ?_
  refine AllReadyH.cons rfl (fun K hK => ?_) AllReadyH.nil
  go_simp
  refine (other_any x1 y1 hx1 _).mono ?_
  rintro e W2 ⟨t1, rfl, ht1, hb⟩
  have C := C.call hb
  refine hK.out _ _ C (fun _ => ?_)
  clear hK K hb
  refine wpAnyH_take (i := 10) (v := ?_) rfl (by kernel_rfl) (by kernel_rfl) (by kernel_rfl) (fun _ _ _ h => h) (Or.inl ⟨by kernel_rfl, ?_⟩) C ?_
  rotate_left
  · (intro W hS; clear hS; go_simp; try (with_reducible rfl))
  refine wpAnyH_take (i := 11) (v := ?_) rfl (by kernel_rfl) (by kernel_rfl) (by kernel_rfl) (fun _ _ _ h => h) (Or.inl ⟨by kernel_rfl, ?_⟩) C ?_
  rotate_left
  · (intro W hS; clear hS; go_simp; try (with_reducible rfl))
  refine wpAnyH_done (by kernel_rfl) ?_ _
  have hl1 : longer t0 t1 = longer x0 x1 := longer_size ht0 ht1
  have b0 : x0.size ≤ maxLen := by unfold maxLen; omega
  have b1 : x1.size ≤ maxLen := by unfold maxLen; omega
  have b2 : t0.size ≤ maxLen := by unfold maxLen; omega
  have b3 : t1.size ≤ maxLen := by unfold maxLen; omega
  have q1 := equal_any x0 x1 b0 b1
  have q2 := equal_any t0 t1 b2 b3
  have q3 := order_any x0 x1 b0 b1
  have q4 := order_any t0 t1 b2 b3
  have q5 := pick_any true x0 x1 (by omega) (by omega)
  have q6 := pick_any false t0 t1 (by omega) (by omega)
  have q7 := zero_any x0 b0
  have q8 := zero_any t0 b2
  rw [hl1] at q2 q4 q6
  rw [ht0] at q8
  generalize longer x0 x1 = L at *
  generalize decide (x0 = x1) = r1 at *
  generalize decide (t0 = t1) = r2 at *
  generalize cmpB x0 x1 = r3 at *
  generalize cmpB t0 t1 = r4 at *
  generalize pickB true x0 x1 = r5 at *
  generalize pickB false t0 t1 = r6 at *
  generalize zeroB x0 = r7 at *
  generalize zeroB t0 = r8 at *
  have HQ := Lib.hid (And.intro q1 (And.intro q2 (And.intro q3 (And.intro q4 (And.intro q5 (And.intro q6 (And.intro q7 q8)))))))
  clear q1 q2 q3 q4 q5 q6 q7 q8 b0 b1 b2 b3 hl1
  have c0 := C.c0
  have c1 := C.c1
  have HC := Lib.hid C
  clear C
  go_wp2_with fail
  refine (HQ.out.1 _).mono ?_
  rintro e W3 ⟨rfl, rfl⟩
  have C := HC.out
  clear HC c0 c1
  have c0 := C.c0
  have c1 := C.c1
  have HC := Lib.hid C
  clear C
  go_wp2_with fail
  refine (HQ.out.2.1 _).mono ?_
  rintro e W4 ⟨rfl, rfl⟩
  have C := HC.out
  clear HC c0 c1
  have c0 := C.c0
  have c1 := C.c1
  have HC := Lib.hid C
  clear C
  go_wp2_with fail
  refine (HQ.out.2.2.1 _).mono ?_
  rintro e W5 ⟨rfl, k⟩
  have C := HC.out.call k
  clear k
  clear HC c0 c1
  have c0 := C.c0
  have c1 := C.c1
  have HC := Lib.hid C
  clear C
  go_wp2_with fail
  refine (HQ.out.2.2.2.1 _).mono ?_
  rintro e W6 ⟨rfl, k⟩
  have C := HC.out.call k
  clear k
  clear HC c0 c1
  have c0 := C.c0
  have c1 := C.c1
  have HC := Lib.hid C
  clear C
  go_wp2_with fail
  refine (HQ.out.2.2.2.2.1 _).mono ?_
  rintro e W7 ⟨rfl, k⟩
  have C := HC.out.call k
  clear k
  clear HC c0 c1
  have c0 := C.c0
  have c1 := C.c1
  have HC := Lib.hid C
  clear C
  go_wp2_with fail
  refine (HQ.out.2.2.2.2.2.1 _).mono ?_
  rintro e W8 ⟨rfl, k⟩
  have C := HC.out.call k
  clear k
  clear HC c0 c1
  have c0 := C.c0
  have c1 := C.c1
  have HC := Lib.hid C
  clear C
  go_wp2_with fail
  refine (HQ.out.2.2.2.2.2.2.1 _).mono ?_
  rintro e W9 ⟨rfl, rfl⟩
  have C := HC.out
  clear HC c0 c1
  have c0 := C.c0
  have c1 := C.c1
  have HC := Lib.hid C
  clear C
  go_wp2_with fail
  refine (HQ.out.2.2.2.2.2.2.2 _).mono ?_
  rintro e W10 ⟨rfl, rfl⟩
  have C := HC.out
  clear HC c0 c1
  have c0 := C.c0
  have c1 := C.c1
  have HC := Lib.hid C
  clear C
  go_wp2_with fail
  obtain ⟨n, hn⟩ : ∃ n, n = ss.length := ⟨_, rfl⟩
  rw [← hn] at hn20
  go_loopw [25, 26] (fun v i wr => ∃ (k : Nat) (ad : Option Addr) (cap' : Nat) (l : List ByteArray), k ≤ n ∧ i = .int .i64 k ∧ l.length = k ∧ v = .slice ad k cap' ∧ OwnT w2.heap.size wr ad cap' l ∧ (∀ j, j < k → (l.getD j ByteArray.empty).size = (ss.getD j ByteArray.empty).size) ∧ StS w2 w.heap.size x0 x1 y0 y1 wr) (fun _ i _ => n - (intOf i).toNat)
  case atStart => exact ⟨0, none, 0, [], by omega, rfl, rfl, rfl, OwnT.nil _ _, fun j hj => absurd hj (by omega), HC.out⟩
  case round =>
    clear HC c0 c1
    obtain ⟨k, ad, cap', l, hk, rfl, hl, rfl, hown, hsz, hSt⟩ := hrel
    have hST := hSt
    by_cases hlt : k < n
    · obtain ⟨b, off, rfl, hbl, hc⟩ := H0.out.2.2.1 k (by omega)
      obtain ⟨x, hx⟩ : ∃ x, x = ss.getD k ByteArray.empty := ⟨_, rfl⟩
      rw [← hx] at hc
      have hx1 : x.size ≤ 1000 := by have := HF.out k (by omega); rw [← hx] at this; omega
      obtain ⟨r, hr⟩ : ∃ r, r = k % 2 := ⟨_, rfl⟩
      have hr2 : (r : Int) < 2 := by omega
      have hmod : (k : Int).tmod 2 = (r : Int) := by rw [hr]; exact Int.tmod_eq_emod_of_nonneg (by omega)
      obtain ⟨y, hy⟩ : ∃ y, w2.cell? ⟨w.heap.size + 1, r, none⟩ = some (.string y) := by
        have : r = 0 ∨ r = 1 := by omega
        rcases this with rfl | rfl
        · exact ⟨y0, H0.out.2.2.2.1.2.2.2.2.1⟩
        · exact ⟨y1, H0.out.2.2.2.1.2.2.2.2.2⟩
      have CL : LpS w2 w.heap.size x0 x1 y0 y1 b (off + k) r x y w2 := ⟨H0.out.2.2.2.1, hbl, hc, hy⟩
      have C := CL.call hSt.2.1.drew
      have HL := Lib.hid CL
      clear CL
      have hown' := hown.drew
      have H := Lib.hid (And.intro hl (And.intro hsz hx))
      clear hST hSt hl hsz hx hc hy hr hown
      go_wp2_with fail
      refine wp_region_held (S := LpS w2 w.heap.size x0 x1 y0 y1 b (off + k) r x y) (by kernel_rfl) ?_
      change wpAnyH _ _ _ _ _ _ _ _ (World.drew _)
      generalize World.drew _ = wh at *
      refine wpAnyH_take (i := 0) (v := ?_) rfl (by kernel_rfl) (by kernel_rfl) (by kernel_rfl) (fun _ _ _ h => h) (Or.inl ⟨by kernel_rfl, ?_⟩) C ?_
      rotate_left
      · (intro W hS; obtain ⟨-, -, hcx, hcy⟩ := hS; go_simp; try (with_reducible rfl))
      refine wpAnyH_take (i := 1) (v := ?_) rfl (by kernel_rfl) (by kernel_rfl) (by kernel_rfl) (fun _ _ _ h => h) (Or.inl ⟨by kernel_rfl, ?_⟩) C ?_
      rotate_left
      · (intro W hS; obtain ⟨-, -, hcx, hcy⟩ := hS; go_simp; try (with_reducible rfl))
      refine wpAnyH_take (i := 2) (v := ?_) rfl (by kernel_rfl) (by kernel_rfl) (by kernel_rfl) (fun _ _ _ h => h) (Or.inl ⟨by kernel_rfl, ?_⟩) C ?_
      rotate_left
      · (intro W hS; obtain ⟨-, -, hcx, hcy⟩ := hS; go_simp; try (with_reducible rfl))
      refine wpAnyH_take (i := 3) (v := ?_) rfl (by kernel_rfl) (by kernel_rfl) (by kernel_rfl) (fun _ _ _ h => h) (Or.inl ⟨by kernel_rfl, ?_⟩) C ?_
      rotate_left
      · (intro W hS; obtain ⟨-, -, hcx, hcy⟩ := hS; go_simp; try (with_reducible rfl))
      refine wpAnyH_take (i := 4) (v := ?_) rfl (by kernel_rfl) (by kernel_rfl) (by kernel_rfl) (fun _ _ _ h => h) (Or.inl ⟨by kernel_rfl, ?_⟩) C ?_
      rotate_left
      · (intro W hS; obtain ⟨-, -, hcx, hcy⟩ := hS; go_simp; try (with_reducible rfl))
      refine wpAnyH_take (i := 5) (v := ?_) rfl (by kernel_rfl) (by kernel_rfl) (by kernel_rfl) (fun _ _ _ h => h) (Or.inl ⟨by kernel_rfl, ?_⟩) C ?_
      rotate_left
      · (intro W hS; obtain ⟨-, -, hcx, hcy⟩ := hS; go_simp; try (with_reducible rfl))
      refine wpAnyH_take (i := 6) (v := ?_) rfl (by kernel_rfl) (by kernel_rfl) (by kernel_rfl) (fun _ _ _ h => h) (Or.inl ⟨by kernel_rfl, ?_⟩) C ?_
      rotate_left
      · (intro W hS; obtain ⟨-, -, hcx, hcy⟩ := hS; go_simp; try (with_reducible rfl))
      refine wpAnyH_take (i := 7) (v := ?_) rfl (by kernel_rfl) (by kernel_rfl) (by kernel_rfl) (fun _ _ _ h => h) (Or.inl ⟨by kernel_rfl, ?_⟩) C ?_
      rotate_left
      · (intro W hS; obtain ⟨-, -, hcx, hcy⟩ := hS; go_simp; try (with_reducible rfl))
      refine wpAnyH_take (i := 8) (v := ?_) rfl (by kernel_rfl) (by kernel_rfl) (by kernel_rfl) (fun _ _ _ h => h) (Or.inl ⟨by kernel_rfl, ?_⟩) C ?_
      rotate_left
      · (intro W hS; obtain ⟨-, -, hcx, hcy⟩ := hS; go_simp; try (with_reducible rfl))
      refine wpAnyH_ready (rs := [9]) (by kernel_rfl) (by simp) ?_
      refine AllReadyH.cons rfl (fun K hK => ?_) AllReadyH.nil
      go_simp
      refine (other_any x y hx1 _).mono ?_
      rintro e W1 ⟨t, rfl, ht, hb⟩
      have C := C.call hb; have hown' := hown'.call hb
      refine hK.out _ _ C (fun _ => ?_)
      clear hK K hb
      refine wpAnyH_ready (rs := [10]) (by kernel_rfl) (by simp) ?_
      refine AllReadyH.cons rfl (fun K hK => ?_) AllReadyH.nil
      go_simp
      have hz1 := Nat.le_trans (Nat.le_refl _) C.1.2.1.size
      have C2 := C.call ((Below.refl _ _).alloc (Nat.le_refl _) (.cells #[.string t] 9))
      have hown2 := hown'.alloc (.cells #[.string t] 9)
      refine hK.out _ _ C2 (fun _ => ?_)
      clear hK K
      refine wpAnyH_ready (rs := [11]) (by kernel_rfl) (by simp) ?_
      refine AllReadyH.cons rfl (fun K hK => ?_) AllReadyH.nil
      refine step_append_text (w0 := w2) (by rfl) _ _ (by rfl) hown2 k H.out.1 (by rfl) W1.heap.size 1 t (by rfl) (cell_new W1 _ _) (by omega) (by simp; omega) (C.1.2.1.alloc hz1 _) ?_
      intro g cap1 w1 hown1 hb1
      try go_simp
      have C3 := HL.out.call hb1
      refine hK.out _ _ C3 (fun _ => ?_)
      clear hK K C C2 hown' hown2
      refine wpAnyH_take (i := 12) (v := ?_) rfl (by kernel_rfl) (by kernel_rfl) (by kernel_rfl) (fun _ _ _ h => h) (Or.inl ⟨by kernel_rfl, ?_⟩) C3 ?_
      rotate_left
      · (intro W hS; clear hS; go_simp; try (with_reducible rfl))
      refine wpAnyH_done (by kernel_rfl) ?_ _
      have H1 := Lib.hid (And.intro hown1 (And.intro hb1 ht))
      clear hown1 hb1 C3 ht
      go_wp2_with fail
      go_roundw
      case rel => exact ⟨k + 1, _, cap1, l ++ [t], by omega, by go_num, by rw [List.length_append, H.out.1]; rfl, rfl, H1.out.1, sizes_snoc H.out.1 H.out.2.1 (by rw [H1.out.2.2, H.out.2.2]), H0.out.2.2.2.1.call H1.out.2.1⟩
      case measure => simp [intOf]; omega
    · obtain rfl : k = n := by omega
      have c0 := hSt.c0
      have hm1 : ss.length ≤ 1000 := by omega
      have hz1 : ∀ j, j < ss.length → (ss.getD j ByteArray.empty).size ≤ 1000000 := fun j hj => by have := HF.out j hj; omega
      have q1 := find_any ss a0 cap x0 wr (H0.out.2.2.1.below hSt.2.1) hm1 (by omega) hz1
      have q2 := find_any l ad cap' t0 wr hown.texts (by omega) (by omega) (fun j hj => by rw [hsz j (by omega)]; exact hz1 j (by omega))
      rw [stepsN_same ht0 l.length (fun j hj => hsz j (by omega)), hl] at q2
      rw [← hn] at q1
      generalize stepsN ss x0 k = S at *
      generalize findN ss x0 k = F1 at *
      generalize findN l t0 k = F2 at *
      have HC := Lib.hid (And.intro hSt (And.intro q1 q2))
      clear hSt q1 q2 hown hsz hl hz1 hm1 hST
      rw [← hn]
      clear hn
      go_wp2_with fail
      refine HC.out.2.1.mono ?_
      rintro e W5 ⟨rfl, rfl⟩
      go_wp2_with fail
      refine HC.out.2.2.mono ?_
      rintro e W5 ⟨rfl, rfl⟩
      go_wp2_with fail
      refine (awake_any _).mono ?_
      rintro e W6 ⟨rfl, k6⟩
      have K6 := Lib.hid (below_call H0.out.2.2.2.2.1 (below_call HC.out.1.2.1 k6))
      clear k6
      go_wp2_with fail
      go_ret
      exact ⟨rfl, K6.out⟩
end Go.Proofs.Ytgighdiidblihaa

namespace Go.Proofs.Ytgighdiidblihaa.shapeStepsLaw
open Go.ChangeShapes Go.WideShapes Go.ChangeAt Go.RowKit
open Go.ChangeMaps (open_string shut_string)

theorem own : ownKnob Try.prog.godebug = none := by kernel_rfl
set_option maxRecDepth 100000 in
theorem lifted (os : Os) (started : os.Started) (H : Type) (enc : TypeId × Value → H) :
    ReturnsInHanded {} Try.checked os 7 .any (Rows.shapeStepsSpec.pre6 enc Try.prog Try.f7 Rows.shapeStepsRow.domain false) (Rows.shapeStepsSpec.post enc Try.prog Try.f7 false true false false) := by
  refine returnsInHanded_of_change (C := Try.checked) own started (by kernel_rfl) Try.func7
    (ChangeSpec.witness6 (enc := enc) (C := Try.checked) false ⟨#[], #[.agg #[.string ⟨#[]⟩, .string ⟨#[]⟩], .agg #[.string ⟨#[]⟩, .string ⟨#[]⟩], .slice none 0 0], []⟩ 8 (by kernel_rfl) (by kernel_rfl) (by kernel_rfl) (by kernel_rfl)) ?_
  intro W base args ds gs before hval0 hW hcnd _
  have hval : ∀ (j : Nat) t v, Try.f7.params[j]? = some t → args[j]? = some v → Value.okWide Try.prog W .any base t v := hval0
  have hW' := hW
  obtain ⟨p, q, hA0, hV, rfl, hfz, hnd⟩ := hW
  have hA : DataW.TrodAll enc Try.prog W 0 (fun _ => true) true Try.f7.params.toList args.toList ds p := hA0
  rw [Try.params7] at hA hval
  obtain ⟨v0, vs0, d0, ds0, p0, q0, hargs, rfl, rfl, h0, r0⟩ := trodAll_cons hA
  obtain ⟨v1, vs1, d1, ds1, p1, q1, rfl, rfl, rfl, h1, r1⟩ := trodAll_cons r0
  obtain ⟨v2, vs2, d2, ds2, p2, q2, rfl, rfl, rfl, h2, r2⟩ := trodAll_cons r1
  obtain ⟨rfl, rfl, rfl⟩ := trodAll_nil r2
  obtain rfl : args = #[v0, v1, v2] := by cases args; simp_all
  obtain ⟨rfl, rfl⟩ := trodVars_none hV
  obtain ⟨cs0, rfl, hcs0⟩ := okWide_array Try.underlying45 (hval 0 45 v0 rfl rfl)
  have hk0 := h0
  obtain ⟨fuel0, hf0⟩ := h0
  obtain ⟨cs1, rfl, hcs1⟩ := okWide_array Try.underlying45 (hval 1 45 v1 rfl rfl)
  have hk1 := h1
  obtain ⟨fuel1, hf1⟩ := h1
  obtain ⟨a2, len2, cap2, rfl⟩ := okWide_slice Try.underlying40 (hval 2 40 v2 rfl rfl)
  have hk2 := h2
  obtain ⟨fuel2, hf2⟩ := h2
  clear hA0 hval0
  simp only [List.append_nil] at hW'
  have hlt0 : ∀ x ∈ p0, x.block < W.heap.size := fun x hx => by simpa using hW'.lt x (by simp [hx])
  obtain ⟨x0a, x0b, hit0, hf0a, hf0b⟩ := open_texts2 hf0
  obtain rfl : cs0 = texts2 x0a x0b := Array.toList_inj.1 hit0
  have hlt1 : ∀ x ∈ p1, x.block < W.heap.size := fun x hx => by simpa using hW'.lt x (by simp [hx])
  obtain ⟨x1a, x1b, hit1, hf1a, hf1b⟩ := open_texts2 hf1
  obtain rfl : cs1 = texts2 x1a x1b := Array.toList_inj.1 hit1
  have hlt2 : ∀ x ∈ p2, x.block < W.heap.size := fun x hx => by simpa using hW'.lt x (by simp [hx])
  obtain ⟨ss2, hlen2, hmax2, hT2⟩ := texts_of hf2 hlt2
  subst hlen2
  refine (steps_law x0a x0b hf0a hf0b x1a x1b hf1a hf1b ss2 a2 cap2 hT2 hmax2 (w := W)).mono fun e W' ⟨he, hb⟩ => ?_
  subst he
  exact ⟨_, rfl, _, _, _, [], _, [], hW', trodAll_cons_mk (shut_bool Try.underlying4 _) trodAll_mk0, (trodAll_cons_mk (Below.trod laidOut (by kernel_rfl) (of_decide_eq_true (by kernel_rfl)) hk0 hb hlt0) (trodAll_cons_mk (Below.trod laidOut (by kernel_rfl) (of_decide_eq_true (by kernel_rfl)) hk1 hb hlt1) (trodAll_cons_mk (Below.trod laidOut (by kernel_rfl) (of_decide_eq_true (by kernel_rfl)) hk2 hb hlt2) trodAll_mk0))), rfl, hb.frame _, fun h => by cases h⟩
theorem over : Rows.shapeStepsRow.holds Try.pinned (OpenSpec.ofChange Rows.shapeStepsSpec) :=
  OpenClaim.holds_of_wide 7 Try.f7 rfl rfl rfl rfl rfl rfl rfl ⟨rfl, rfl, rfl, rfl, rfl⟩ rfl rfl rfl rfl rfl (by kernel_rfl) Try.func7 (by kernel_rfl)
    (of_decide_eq_true (by kernel_rfl)) (by unfold Func.isWrapper; first | (rw [if_pos (by decide +kernel)]; kernel_rfl) | (rw [if_neg (by decide +kernel)]; exact ⟨rfl, rfl⟩))
    (fun os started H enc _ => lifted os started H enc)
end Go.Proofs.Ytgighdiidblihaa.shapeStepsLaw

namespace Go.Proofs.Ytgighdiidblihaa
theorem shapeSteps_said : Rows.ShapeStepsSaid := shapeStepsLaw.over
end Go.Proofs.Ytgighdiidblihaa
