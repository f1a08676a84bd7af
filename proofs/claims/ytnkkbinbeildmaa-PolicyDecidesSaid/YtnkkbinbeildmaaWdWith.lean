/- words.with: one more word among the first ones. -/
import Derived.Test.YtnkkbinbeildmaaWdIns
import Derived.Test.YtnkkbinbeildmaaWdSort
namespace Go.Proofs.Ytnkkbinbeildmaa
open Go.RowKit

theorem below_drawN {B : Nat} {a w : World} (h : Below B a w) : ∀ n, Below B a (w.drewN n)
  | 0 => h
  | n + 1 => (below_drawN h n).drew
theorem OwnT.first {B : Nat} {w : World} {a : Option Addr} {cap : Nat} {l : List ByteArray} (h : OwnT B w a cap l) {n : Nat} (hn : n < l.length) : ∃ g, a = some ⟨g, 0, none⟩ ∧ l.length ≤ cap ∧ cap ≤ maxLen ∧ g < w.heap.size := by
  rcases h.2 with ⟨e, h0⟩ | ⟨g, cp, cur, e, hB, hg, h1, hcm, hcs, ht⟩
  · omega
  · injection e with e1 e2 e3
    subst e1 e3
    exact ⟨g, rfl, h1, hcm, (World.ownsRow.lt h g rfl).2⟩
set_option maxRecDepth 100000 in
set_option maxHeartbeats 1000000 in
theorem wwith_any {B : Nat} {w : World} {ad : Option Addr} {cap : Nat} {l : List ByteArray} (h : OwnT B w ad cap l) (hr : Wd.Rises l) (hl : l.length ≤ 12) (hB : B ≤ w.heap.size) (x : ByteArray) :
    Calls Try.prog 73 #[.slice ad l.length cap, .string x] w fun e w' => ∃ ad' cap', e = .returned (.slice ad' ((Wd.put l x).take 12).length cap') ∧ OwnT B w' ad' cap' ((Wd.put l x).take 12) ∧ Below B w w' := by
  obtain ⟨P, hP⟩ : ∃ P, P = (Wd.put l x).take 12 := ⟨_, rfl⟩
  rw [← hP]
  have hrk := Wd.rank_le l x
  have hs := search_any h hr (by omega) x
  by_cases h1 : l[Wd.rank l x]? = some x
  · have hPl : P = l := by rw [hP]; exact Wd.with_there hr hl (.inl h1)
    rw [decide_eq_true h1] at hs
    subst hPl
    obtain ⟨r, hr2⟩ : ∃ r, r = Wd.rank P x := ⟨_, rfl⟩
    obtain ⟨n, hn⟩ : ∃ n, n = P.length := ⟨_, rfl⟩
    rw [← hr2, ← hn] at hs
    have HM := Lib.hid (And.intro hs (And.intro h hn))
    rw [← hn]
    clear hs h hn hP hrk hr h1 hr2 hl
    go_enter Try.func73, Try.ntmps73
    go_wp2_with fail
    refine HM.out.1.mono ?_
    rintro e w2 ⟨rfl, q, hq⟩
    have hb2 : Below w.heap.size w w2 := by rw [hq]; exact below_drawN (Below.refl _ _) q
    have HN := Lib.hid (And.intro hb2 (HM.out.2.1.call hb2))
    clear hb2 hq
    go_wp2_with fail
    go_ret
    exact ⟨ad, cap, rfl, HN.out.2, HN.out.1.mono hB⟩
  · rw [decide_eq_false h1] at hs
    obtain ⟨r, hr2⟩ : ∃ r, r = Wd.rank l x := ⟨_, rfl⟩
    by_cases h2 : r = 12
    · have hPl : P = l := by rw [hP]; exact Wd.with_there hr hl (.inr (hr2.symm.trans h2))
      subst hPl
      obtain ⟨n, hn⟩ : ∃ n, n = P.length := ⟨_, rfl⟩
      rw [← hr2, h2, ← hn] at hs
      have HM := Lib.hid (And.intro hs (And.intro h hn))
      rw [← hn]
      clear hs h hn hP hrk hr h1 h2 hr2 hl
      go_enter Try.func73, Try.ntmps73
      go_wp2_with fail
      refine HM.out.1.mono ?_
      rintro e w2 ⟨rfl, q, hq⟩
      have hb2 : Below w.heap.size w w2 := by rw [hq]; exact below_drawN (Below.refl _ _) q
      have HN := Lib.hid (And.intro hb2 (HM.out.2.1.call hb2))
      clear hb2 hq
      go_wp2_with fail
      go_ret
      exact ⟨ad, cap, rfl, HN.out.2, HN.out.1.mono hB⟩
    · have h2i : ¬ ((r : Int) = 12) := by omega
      have hPin := Wd.with_in hr hl h1 (by rw [← hr2]; exact h2)
      rw [← hr2, ← hP] at hPin
      rw [← hr2] at hs hrk
      by_cases h12 : l.length = 12
      · obtain ⟨g, rfl, hlc, hcm, hgw⟩ := h.first (n := 0) (by omega)
        rw [h12] at hs hlc ⊢
        have hcut := h.cut 11
        have hl11 : (l.take 11).length = 11 := by rw [List.length_take]; omega
        obtain ⟨m, hm⟩ : ∃ m, m = l.take 11 := ⟨_, rfl⟩
        rw [← hm] at hcut hl11 hPin
        have hPn : P.length = 12 := by rw [hPin, ins_length m (by omega), hl11]
        have hcall := fun (W : World) (hb : Below w.heap.size w W) (hBW : w.heap.size ≤ W.heap.size) (hgW : g < W.heap.size) => insert_any (w := W.alloc (.cells #[.string x] 9)) ((hcut.call hb).alloc _) (by omega) x r (by omega) W.heap.size (heap_alloc_new _ _) (fun g' e => by have := (World.ownsRow.lt hcut g' e).2; omega) (by simp; omega)
        rw [hl11, ← hPin] at hcall
        have HM := Lib.hid (And.intro hs (And.intro hcall (And.intro hgw hPn)))
        rw [hPn]
        clear hs h hcall hP hrk hr h1 h2 hr2 hl hcut hm h12 hPin hPn hgw hl11
        go_enter Try.func73, Try.ntmps73
        go_wp2_with fail
        refine HM.out.1.mono ?_
        rintro e w2 ⟨rfl, q, hq⟩
        have hb2 : Below w.heap.size w w2 := by rw [hq]; exact below_drawN (Below.refl _ _) q
        have hs2 : w.heap.size ≤ w2.heap.size := hb2.size
        have HN := Lib.hid hb2
        clear hb2 hq
        go_wp2_with fail
        refine (HM.out.2.1 _ HN.out (by omega) (by have := HM.out.2.2.1; omega)).mono ?_
        rintro e w3 ⟨ad2, cap2, rfl, ho3, hb3⟩
        have HP := Lib.hid (And.intro ho3 (((HN.out.mono hB).alloc (by omega) _).trans hb3))
        clear ho3 hb3
        go_wp2_with fail
        go_ret
        exact ⟨ad2, cap2, rfl, HP.out.1, HP.out.2⟩
      · have h12i : ¬ ((l.length : Int) = 12) := by omega
        have hm : l.take 11 = l := List.take_of_length_le (by omega)
        rw [hm] at hPin
        have hPn : P.length = l.length + 1 := by rw [hPin, ins_length l hrk]
        have hcall := fun (W : World) (hb : Below w.heap.size w W) (hBW : w.heap.size ≤ W.heap.size) (hne : ∀ g, (Value.slice ad l.length cap).ownBlock = some g → W.heap.size ≠ g) => insert_any (w := W.alloc (.cells #[.string x] 9)) ((h.call hb).alloc _) (by omega) x r hrk W.heap.size (heap_alloc_new _ _) hne (by simp; omega)
        have hlt := fun g e => (World.ownsRow.lt h g e).2
        rw [← hPin] at hcall
        obtain ⟨n, hn⟩ : ∃ n, n = l.length := ⟨_, rfl⟩
        rw [← hn] at hs hcall hPn hlt h12i ⊢
        have HM := Lib.hid (And.intro hs (And.intro hcall (And.intro hlt hPn)))
        rw [hPn]
        clear hs h hcall hP hrk hr h1 h2 hr2 hl h12 hPin hPn hlt hm hn
        go_enter Try.func73, Try.ntmps73
        go_wp2_with fail
        refine HM.out.1.mono ?_
        rintro e w2 ⟨rfl, q, hq⟩
        have hb2 : Below w.heap.size w w2 := by rw [hq]; exact below_drawN (Below.refl _ _) q
        have hs2 : w.heap.size ≤ w2.heap.size := hb2.size
        have HN := Lib.hid hb2
        clear hb2 hq
        go_wp2_with fail
        refine (HM.out.2.1 _ HN.out (by omega) (fun g e => by have := HM.out.2.2.1 g e; omega)).mono ?_
        rintro e w3 ⟨ad2, cap2, rfl, ho3, hb3⟩
        have HP := Lib.hid (And.intro ho3 (((HN.out.mono hB).alloc (by omega) _).trans hb3))
        clear ho3 hb3
        go_wp2_with fail
        go_ret
        exact ⟨ad2, cap2, rfl, HP.out.1, HP.out.2⟩
end Go.Proofs.Ytnkkbinbeildmaa
