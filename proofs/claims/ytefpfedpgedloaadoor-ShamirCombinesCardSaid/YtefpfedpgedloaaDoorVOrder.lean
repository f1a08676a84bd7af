/- shamir.inOrder. -/
import Derived.Test.YtefpfedpgedloaaDoorVSort
namespace Go.Proofs.YtefpfedpgedloaaDoor
open Go.RowKit
open Gf

/-- The cells of shares in memory, as append reads them. -/
theorem SharesAt.news {w : World} {b off : Nat} {l : List Shr} (h : SharesAt w (some ⟨b, off, none⟩) l) : ∀ j u, (shs l)[j]? = some u → w.cell? ((⟨b, off, none⟩ : Addr).add j) = some u := fun j u hj => by
  have hlt : j < l.length * 3 := by rw [← shs_length]; exact (List.getElem?_eq_some_iff.1 hj).1
  obtain ⟨q, r, hr, rfl⟩ : ∃ q r, r < 3 ∧ j = q * 3 + r := ⟨j / 3, j % 3, Nat.mod_lt _ (by decide), by omega⟩
  obtain ⟨s, hs⟩ : ∃ s, l[q]? = some s := ⟨_, List.getElem?_eq_getElem (by omega)⟩
  obtain ⟨b', off', e, -, c0, c1, c2⟩ := h q s hs
  injection e with e
  injection e with e1 e2 _
  subst e1 e2
  rw [shs_at l q s hs r hr] at hj
  rw [show (⟨b, off, none⟩ : Addr).add (q * 3 + r) = ⟨b, off + (q * 3 + r), none⟩ from by unfold Addr.add; split <;> simp_all]
  rcases (by omega : r = 0 ∨ r = 1 ∨ r = 2) with rfl | rfl | rfl
  · injection hj with hj; subst hj; rw [← Nat.add_assoc]; exact c0
  · injection hj with hj; subst hj; rw [← Nat.add_assoc]; exact c1
  · injection hj with hj; subst hj; rw [← Nat.add_assoc]; exact c2
/-- Behind the append. -/
theorem order_mid {w w1 w3 : World} {l : List Shr} {n b off cap cp : Nat} {ad : Option Addr} (hN : n = l.length) (h1 : 1 ≤ n) (hg1 : w1.heap[w.heap.size]? = some (.cells #[.slice (some ⟨b, off, none⟩) n cap] 25 (0, 0))) (hz1 : w.heap.size < w1.heap.size)
    (o3 : w3.ownsRow 0 41 3 (.slice ad (0 + n) cp) (0 + n) ([] ++ shs l)) (g3 : w1.grownBy w3 (Value.slice none 0 0).ownBlock) (n3 : ∀ g, (Value.slice ad (0 + n) cp).ownBlock = some g → (Value.slice none 0 0).ownBlock = some g ∨ (g = w1.heap.size ∧ g < w3.heap.size)) :
    ∃ g, ad = some ⟨g, 0, none⟩ ∧ w.heap.size < g ∧ Below w1.heap.size w1 w3 ∧ OwnS 41 0 w3 (some ⟨g, 0, none⟩) cp l ∧ w3.cell? ⟨w.heap.size, 0, none⟩ = some (.slice (some ⟨b, off, none⟩) n cap) ∧ w3.frozen? ⟨w.heap.size, 0, none⟩ = false ∧ n ≤ cp ∧ cp ≤ maxLen := by
  rw [Nat.zero_add, List.nil_append, hN] at o3
  have hb3 : Below w1.heap.size w1 w3 := (Below.refl _ _).grown g3 (Nat.le_refl _) (fun k hk => by cases hk)
  have hg3 := (hb3.block _ hz1).trans hg1
  rcases own_form o3 with ⟨-, h0, -⟩ | ⟨g, rfl, hcp, hcm⟩
  · omega
  · rcases n3 g rfl with e | ⟨e, -⟩
    · cases e
    · exact ⟨g, rfl, by omega, hb3, ⟨o3, fun _ _ => Nat.zero_le _⟩, by rw [cell_of_row _ _ _ _ _ _ hg3]; rfl, frozen_of_row _ _ _ _ _ hg3, by omega, hcm⟩
set_option maxRecDepth 100000 in
set_option maxHeartbeats 1000000 in
theorem inorder_any {w : World} {a0 : Option Addr} {l : List Shr} (hT : SharesAt w a0 l) (h1 : 1 ≤ l.length) (hl : l.length ≤ 1000000) (cap : Nat) :
    Calls Tryd.prog 32 #[.slice a0 l.length cap] w fun e w' => ∃ (a : Option Addr) (cp : Nat) (d : List Shr), e = .returned (.slice a l.length cp) ∧ d.Perm l ∧ SharesAt w' a d ∧ Below w.heap.size w w' ∧ l.length ≤ cp ∧ cp ≤ maxLen := by
  obtain ⟨n, hN⟩ : ∃ n, n = l.length := ⟨_, rfl⟩
  obtain ⟨s0, hs0⟩ : ∃ s, l[0]? = some s := ⟨_, List.getElem?_eq_getElem (by omega)⟩
  obtain ⟨b, off, rfl, hb, -, -, -⟩ := hT 0 s0 hs0
  rw [← hN] at h1 hl ⊢
  obtain ⟨w1, hw1⟩ : ∃ w1, w1 = w.alloc (.cells #[.slice (some ⟨b, off, none⟩) n cap] 25) := ⟨_, rfl⟩
  have hb1 : Below w.heap.size w w1 := by rw [hw1]; exact (Below.refl _ _).alloc (Nat.le_refl _) _
  have hg1 : w1.heap[w.heap.size]? = some (.cells #[.slice (some ⟨b, off, none⟩) n cap] 25 (0, 0)) := by rw [hw1]; exact heap_alloc_new _ _
  have hz1 : w.heap.size < w1.heap.size := by rw [hw1]; simp
  have c0 : w1.cell? ⟨w.heap.size, 0, none⟩ = some (.slice (some ⟨b, off, none⟩) n cap) := by rw [cell_of_row _ _ _ _ _ _ hg1]; rfl
  obtain ⟨i0, hi0, hk0, hk1, hk2⟩ := info_parts Tryd.info_shr
  have hsrc := Src.ofSlice (P := Tryd.prog) (size := 3) w1 Tryd.underlying25 ⟨b, off, none⟩ n cap (shs l) (by rw [shs_length, hN]) (hT.below hb1).news (shs_one l)
  have HI := Lib.hid (And.intro hi0 (And.intro hk0 (And.intro hk1 hk2)))
  have H := Lib.hid (And.intro hT (And.intro hN (And.intro hb1 (And.intro hsrc (And.intro hg1 hz1)))))
  clear hT hN hb1 hsrc hi0 hk0 hk1 hk2 hs0 hg1 hz1
  go_enter Tryd.func32, Tryd.ntmps32
  go_upto_region 1 with fail
  rw [← hw1]
  clear hw1
  go_wp2_with (at_builtin; (refine wpList_append_src rfl (.const (.slice none 0 0)) (.tmp 3) 25 25 rfl 41 i0 (.agg #[.int .i64 0, .int .i64 0, .string ⟨#[]⟩]) 3 32 Tryd.underlying25 HI.out.1 HI.out.2.1 HI.out.2.2.1 HI.out.2.2.2 rfl (.slice none 0 0) 0 [] rfl (World.ownsRow_nil _ _ _ _) (.slice (some ⟨b, off, none⟩) n cap) n (shs l) rfl H.out.2.2.2.1 (by omega) (by omega) ?_; intro ad cp w3 o3 g3 n3; rw [Nat.zero_add]; obtain ⟨g, rfl, hgs, hb3, hO3, c3, f3, hcp, hcm⟩ := order_mid H.out.2.1 h1 H.out.2.2.2.2.1 H.out.2.2.2.2.2 o3 g3 n3; have c4 := World.cell?_setCell_same _ _ (Value.slice (some ⟨g, 0, none⟩) n cp) c3; have H3 := Lib.hid (And.intro hgs (And.intro hb3 (And.intro hO3 (And.intro hcp hcm)))); clear o3 g3 n3 hgs hb3 hO3 hcp hcm))
  obtain ⟨w4, hw4⟩ : ∃ w4, w4 = w3.setCell ⟨w.heap.size, 0, none⟩ (.slice (some ⟨g, 0, none⟩) n cp) := ⟨_, rfl⟩
  have hz3 := H3.out.2.1.size
  have hz1 := H.out.2.2.2.2.2
  have hb4 : Below w.heap.size w w4 := by rw [hw4]; exact below_put (H.out.2.2.1.trans (H3.out.2.1.mono H.out.2.2.1.size)) (Nat.le_refl _) _ _
  have hO4 : OwnS 41 0 w4 (some ⟨g, 0, none⟩) cp l := by
    rw [hw4]
    refine ⟨ownsRow_same H3.out.2.2.1.1 (fun k hk => ?_), fun _ _ => Nat.zero_le _⟩
    have hk' : g = k := by simpa [Value.ownBlock] using hk
    exact heap_setCell_other w3 _ k _ (fun e => by have e2 : k = w.heap.size := e; have := H3.out.1; omega)
  have hz4 : w.heap.size < w4.heap.size := by rw [hw4]; simp; omega
  have hsrt := sort_any (Bs := w.heap.size) hO4 (by have := H.out.2.1; omega) (by have := H.out.2.1; omega) (by rw [hw4, ← H.out.2.1]; exact c4) hz4 (by have := H3.out.1; omega)
  rw [← H.out.2.1] at hsrt
  rw [← hw4]
  have H4 := Lib.hid (And.intro hb4 (And.intro hsrt (And.intro hz4 (hw4 ▸ c4))))
  clear hb4 hO4 hsrt hz4 hw4 c4 c3 f3 c0 hz3 hz1
  refine H4.out.2.1.mono ?_
  rintro e w5 ⟨rfl, d, hp, hS5, hg5⟩
  have hgs := H3.out.1
  have hz1 := H.out.2.2.2.2.2
  have hz4 := H4.out.2.2.1
  have hb5 : Below w.heap.size w w5 := H4.out.1.trans (grownBy_below hg5 (by omega) (by omega))
  have c5 : w5.cell? ⟨w.heap.size, 0, none⟩ = some (.slice (some ⟨g, 0, none⟩) n cp) := (World.cell?_of_block (a := ⟨w.heap.size, 0, none⟩) (hg5.block w.heap.size H4.out.2.2.1 (fun e => by injection e with e; omega))).trans H4.out.2.2.2
  have H5 := Lib.hid (And.intro hp (And.intro hS5 hb5))
  clear hp hS5 hb5 hg5 hgs hz1 hz4
  go_wp2_with fail
  go_ret
  exact ⟨_, _, d, rfl, H5.out.1, H5.out.2.1, H5.out.2.2, H3.out.2.2.2.1, H3.out.2.2.2.2⟩
end Go.Proofs.YtefpfedpgedloaaDoor
