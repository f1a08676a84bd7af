/- The reference's Scan. -/
import Derived.Test.YtdmbombjkinboaaGreatMF2
import Derived.Test.YtdmbombjkinboaaGreatFRFront
import Derived.Deep.DeepCutAuto
namespace Go.Proofs.YtdmbombjkinboaaGreat
open Go.RowKit
open Fr

theorem heap_set_same {w : World} {b i : Nat} {cs : Array Value} {t : TypeId} (h : w.heap[b]? = some (.cells cs t (0, 0))) (v : Value) : (w.setCell ⟨b, i, none⟩ v).heap[b]? = some (.cells (cs.setIfInBounds i v) t (0, 0)) := heap_setCell_same _ _ _ _ _ _ h
set_option maxRecDepth 100000 in
set_option maxHeartbeats 2000000 in
theorem rscan_any (s : ByteArray) (hs : s.size ≤ 200000) (bs : List (List UInt8)) (m er : Nat) (hsc : Scans s.data.toList bs m er) (w : World) :
    Calls Tryz.prog 35 #[.string s] w fun e w' => ∃ a cap, e = .returned (.agg #[.slice a bs.length cap, .int .i64 (m : Int), .int .i64 (er : Int)]) ∧ OwnT w.heap.size w' a cap (bs.map str) ∧ Below w.heap.size w w' := by
  have hle := hsc.le
  have hml : m ≤ s.size := by have := hle.1; simpa using this
  go_enter Tryz.func35, Tryz.ntmps35
  go_wp2_with fail
  have hb0 : Below w.heap.size w ((w.alloc (.cells #[.slice none 0 0, .int .i64 0, .int .i64 0] 78)).alloc (.cells #[.slice none 0 0, .int .i64 0, .int .i64 0] 78)) := ((Below.refl _ w).alloc (Nat.le_refl _) _).alloc (by simp) _
  have hx0 : ((w.alloc (.cells #[.slice none 0 0, .int .i64 0, .int .i64 0] 78)).alloc (.cells #[.slice none 0 0, .int .i64 0, .int .i64 0] 78)).heap[w.heap.size]? = some (.cells #[.slice none 0 0, .int .i64 0, .int .i64 0] 78 (0, 0)) := (Below.heap_alloc _ _ _ (by simp)).trans (heap_alloc_new _ _)
  have hx1 : ((w.alloc (.cells #[.slice none 0 0, .int .i64 0, .int .i64 0] 78)).alloc (.cells #[.slice none 0 0, .int .i64 0, .int .i64 0] 78)).heap[w.heap.size + 1]? = some (.cells #[.slice none 0 0, .int .i64 0, .int .i64 0] 78 (0, 0)) := by
    have := heap_alloc_new (w.alloc (.cells #[.slice none 0 0, .int .i64 0, .int .i64 0] 78)) (.cells #[.slice none 0 0, .int .i64 0, .int .i64 0] 78)
    rwa [World.size_alloc] at this
  have H0 := Lib.hid (And.intro hb0 (And.intro hx0 hx1))
  clear hb0 hx0 hx1
  have HS := Lib.hid hsc
  clear hsc hle
  go_loopw [4, 5] (fun c _ wr => ∃ (p : Nat) (pre l' : List (List UInt8)) (m' : Nat) (a : Option Addr) (cap : Nat), c = .int .i64 (pre.length : Nat) ∧ bs = pre ++ l' ∧ Scans (s.data.toList.drop p) l' m' er ∧ p + m' = m ∧ 9 * pre.length ≤ p ∧ wr.heap[w.heap.size]? = some (.cells #[.slice none 0 0, .int .i64 0, .int .i64 0] 78 (0, 0)) ∧ wr.heap[w.heap.size + 1]? = some (.cells #[.slice a pre.length cap, .int .i64 (p : Nat), .int .i64 0] 78 (0, 0)) ∧ OwnT (w.heap.size + 2) wr a cap (pre.map str) ∧ Below w.heap.size w wr)
    (fun c _ _ => s.size + 1 - (intOf c).toNat)
  case atStart => exact ⟨0, [], bs, m, none, 0, rfl, rfl, HS.out, by omega, by simp, H0.out.2.1, H0.out.2.2, OwnT.nil _ _, H0.out.1⟩
  case round =>
    clear H0 HS
    obtain ⟨p, pre, l', m', a, cap, rfl, hbs, hsr, hpm, h9, hx0, hx1, hown, hb⟩ := hrel
    obtain ⟨k, hk⟩ : ∃ k, k = pre.length := ⟨_, rfl⟩
    rw [← hk] at hx1 h9 ⊢
    have hp' : (p : Int) ≤ s.size := by omega
    have hk' : (k : Int) ≤ s.size := by omega
    have hkm : (k : Int) < 1000000 := by omega
    have hX := rffront_any (s.extract p s.size) (by rw [ByteArray.size_extract]; omega)
    have hd : (s.extract p s.size).data.toList = s.data.toList.drop p := by simp; exact List.take_of_length_le (by simp)
    obtain ⟨q0, q1, q2, f⟩ := box3 hx1
    obtain ⟨r0, r1, r2, f'⟩ := box3 hx0
    have hlt1 : w.heap.size + 1 < wr.heap.size := (Array.getElem?_eq_some_iff.1 hx1).1
    obtain ⟨B, hB⟩ : ∃ B, B = frB (s.extract p s.size) := ⟨_, rfl⟩
    obtain ⟨R, hR⟩ : ∃ R, R = frR (s.extract p s.size) := ⟨_, rfl⟩
    cases hsr with
    | stop h he =>
      have e3 : frE (s.extract p s.size) = er := by unfold frE; rw [hd, h]
      rw [← hB, ← hR, e3] at hX
      have he' : ((er : Int) != 0) = true := by simp; omega
      have HX := Lib.hid (And.intro hX (And.intro hx0 (And.intro hx1 (And.intro hown (And.intro hb (And.intro hbs (And.intro hk hpm)))))))
      clear hX hx0 hx1 hown hb hbs hk h hd hB hR e3 hpm h9
      go_wp2_with fail
      refine (HX.out.1 _).mono ?_
      rintro e w1 ⟨rfl, h1⟩
      have hx01 := (h1.block _ (by omega)).trans HX.out.2.1
      have hx11 := (h1.block _ hlt1).trans HX.out.2.2.1
      clear q0 q1 q2 f r0 r1 r2 f'
      obtain ⟨q0, q1, q2, f⟩ := box3 hx11
      obtain ⟨r0, r1, r2, f'⟩ := box3 hx01
      have hz1 := h1.size
      have HY := Lib.hid (And.intro hx01 (And.intro hx11 (And.intro (HX.out.2.2.2.1.call h1) (below_call HX.out.2.2.2.2.1 h1))))
      clear hx01 hx11 h1
      go_upto_region 7 with fail
      have hx02 := (Below.heap_alloc w1 (.cells #[.string B, .string R, .int .i64 er] 101) _ (by omega)).trans HY.out.1
      have hx12 := (Below.heap_alloc w1 (.cells #[.string B, .string R, .int .i64 er] 101) _ (by omega)).trans HY.out.2.1
      have hxf := heap_alloc_new w1 (.cells #[.string B, .string R, .int .i64 er] 101)
      have hbb2 := HY.out.2.2.2.alloc (by have := HY.out.2.2.2.size; omega) (.cells #[.string B, .string R, .int .i64 er] 101)
      have ho2 := HY.out.2.2.1.alloc (.cells #[.string B, .string R, .int .i64 er] 101)
      obtain ⟨F, hF⟩ : ∃ F, F = w1.heap.size := ⟨_, rfl⟩
      obtain ⟨w2, hw2⟩ : ∃ w2, w2 = w1.alloc (.cells #[.string B, .string R, .int .i64 er] 101) := ⟨_, rfl⟩
      rw [← hw2] at hx02 hx12 hxf hbb2 ho2 ⊢
      rw [← hF] at hxf ⊢
      have hFg : w.heap.size + 1 < F := by omega
      clear hw2 hF q0 q1 q2 f r0 r1 r2 f' hz1 hlt1
      obtain ⟨q0, q1, q2, f⟩ := box3 hx12
      obtain ⟨r0, r1, r2, f'⟩ := box3 hx02
      obtain ⟨s0, s1, s2, f''⟩ := box3 hxf
      have HZ := Lib.hid (And.intro hx02 (And.intro hx12 (And.intro ho2 hbb2)))
      clear hx02 hx12 ho2 hbb2 hxf
      go_wp2_with fail
      refine bodyPost_ret (v := .agg #[.slice a k cap, .int .i64 p, .int .i64 er]) (by simp [results, Tryz.results35, go_sem, r0, r1, r2]) rfl ?_
      have hkk : k = bs.length := by rw [HX.out.2.2.2.2.2.2.1, HX.out.2.2.2.2.2.1]; simp
      have hpp : p = m := by have := HX.out.2.2.2.2.2.2.2; omega
      have hpre : bs = pre := by have := HX.out.2.2.2.2.2.1; simpa using this
      refine ⟨a, cap, by rw [hkk, hpp], ?_, below3 (HZ.out.2.2.2.setCell (p := ⟨w.heap.size + 1, 2, none⟩) (Nat.le_succ _) _) _ _ _⟩
      rw [hpre]
      exact ((((HZ.out.2.2.1.set ⟨w.heap.size + 1, 2, none⟩ _ (by show w.heap.size + 1 < _; omega)).set ⟨w.heap.size, 0, none⟩ _ (by show w.heap.size < _; omega)).set ⟨w.heap.size, 1, none⟩ _ (by show w.heap.size < _; omega)).set ⟨w.heap.size, 2, none⟩ _ (by show w.heap.size < _; omega)).base (by omega)
    | more h hr =>
      rename_i q l'' m''
      have hkq := fst_ok h
      have hq : p + q ≤ s.size := by have := hkq.2.2.2.1; rw [List.length_drop] at this; simp at this; omega
      obtain ⟨b, hbd⟩ : ∃ b, b = ((s.data.toList.drop p).take q).drop 8 := ⟨_, rfl⟩
      have e1 : B = str b := by
        rw [hB]; unfold frB; rw [hd, h, if_pos rfl, hbd]
        have e := str_cut (s.extract p s.size).data.toList 8 q
        rw [str_of] at e
        rw [e, hd]
      have e2 : (R.size : Int) = s.size - p - q := by
        rw [hR]; unfold frR; rw [hd, h, if_pos rfl, ByteArray.size_extract, ByteArray.size_extract]; omega
      have e3 : frE (s.extract p s.size) = 0 := by unfold frE; rw [hd, h]; rfl
      rw [← hB, ← hR, e3] at hX
      have hz0 : ((0 : Int) != 0) = false := rfl
      have h9q : 9 ≤ q := by omega
      have hat : (s.size : Int) - R.size = ((p + q : Nat) : Int) := by omega
      have hRs : (R.size : Int) ≤ s.size := by omega
      rw [← hbd] at hbs
      have HX := Lib.hid (And.intro hX (And.intro hx0 (And.intro hx1 (And.intro hown (And.intro hb (And.intro hbs (And.intro hk (And.intro hpm (And.intro hr (And.intro e1 (And.intro h9 hq)))))))))))
      clear hX hx0 hx1 hown hb hbs hk h hd hB hR e3 hpm h9 hkq hbd e1 e2 hr
      go_wp2_with fail
      refine (HX.out.1 _).mono ?_
      rintro e w1 ⟨rfl, h1⟩
      have hx01 := (h1.block _ (by omega)).trans HX.out.2.1
      have hx11 := (h1.block _ hlt1).trans HX.out.2.2.1
      clear q0 q1 q2 f r0 r1 r2 f'
      obtain ⟨q0, q1, q2, f⟩ := box3 hx11
      have hz1 := h1.size
      have HY := Lib.hid (And.intro hx01 (And.intro hx11 (And.intro (HX.out.2.2.2.1.call h1) (below_call HX.out.2.2.2.2.1 h1))))
      clear hx01 hx11 h1
      go_upto_region 9 with fail
      have hx02 := (Below.heap_alloc w1 (.cells #[.string B, .string R, .int .i64 0] 101) _ (by omega)).trans HY.out.1
      have hx12 := (Below.heap_alloc w1 (.cells #[.string B, .string R, .int .i64 0] 101) _ (by omega)).trans HY.out.2.1
      have hxf := heap_alloc_new w1 (.cells #[.string B, .string R, .int .i64 0] 101)
      have hbb2 := HY.out.2.2.2.alloc (by have := HY.out.2.2.2.size; omega) (.cells #[.string B, .string R, .int .i64 0] 101)
      have ho2 := HY.out.2.2.1.alloc (.cells #[.string B, .string R, .int .i64 0] 101)
      have hoF : ∀ g, (Value.slice a (pre.map str).length cap).ownBlock = some g → w.heap.size + 2 ≤ g ∧ g < w1.heap.size := fun g e => HY.out.2.2.1.lt e
      obtain ⟨F, hF⟩ : ∃ F, F = w1.heap.size := ⟨_, rfl⟩
      obtain ⟨w2, hw2⟩ : ∃ w2, w2 = w1.alloc (.cells #[.string B, .string R, .int .i64 0] 101) := ⟨_, rfl⟩
      have hz2 : w2.heap.size = F + 1 := by rw [hw2, hF]; simp
      rw [← hw2] at hx02 hx12 hxf hbb2 ho2 ⊢
      rw [← hF] at hxf hoF ⊢
      have hFg : w.heap.size + 1 < F := by omega
      clear hw2 hF q0 q1 q2 f hz1 hlt1
      obtain ⟨q0, q1, q2, f⟩ := box3 hx12
      obtain ⟨s0, s1, s2, f''⟩ := box3 hxf
      have hkl : (pre.map str).length = k := by rw [List.length_map]; exact HX.out.2.2.2.2.2.2.1.symm
      have HZ := Lib.hid (And.intro hx02 (And.intro hx12 (And.intro ho2 (And.intro hbb2 (And.intro hxf (And.intro hoF (And.intro hz2 hkl)))))))
      clear hx02 hx12 ho2 hbb2 hxf hoF hkl
      have hF2 : F < w2.heap.size := by omega
      have hs1' : F < w2.heap.size + 1 := by omega
      clear hz2
      go_wp2_with (at_builtin; (refine wpList_append_text (w0 := w2) (B := w.heap.size + 2) (l := pre.map str) rfl (.tmp 25) (.tmp 28) rfl (HZ.out.2.2.1.alloc _) k HZ.out.2.2.2.2.2.2.2 rfl w2.heap.size 1 B rfl (cell_new w2 _ _) (by omega) (by simp; omega) ((Below.refl (w.heap.size + 2) w2).alloc (by omega) _) ?_; intro g3 cap3 w3 hown3 hb3 hg3; have hxf3 := (hg3.block F (by simp; omega) (fun e => by have := HZ.out.2.2.2.2.2.1 _ e.symm; omega)).trans ((Below.heap_alloc w2 _ _ (by omega)).trans HZ.out.2.2.2.2.1); have hx03 := (hb3.block _ (by omega)).trans HZ.out.1; have hx13 := (hb3.block _ (by omega)).trans HZ.out.2.1; have hz3 := hb3.size; have H3 := Lib.hid (And.intro hown3 (And.intro hb3 (And.intro hx03 (And.intro hx13 hxf3)))); clear hown3 hb3 hx03 hg3 q0 q1 q2 f s0 s1 s2 f''; obtain ⟨q0, q1, q2, f⟩ := box3 hx13; obtain ⟨s0, s1, s2, f''⟩ := box3 hxf3; clear hx13 hxf3))
      go_roundw
      case rel =>
        obtain ⟨-, -, -, -, -, hbs, hk, hpm, hr, he1, h9, hq⟩ := HX.out
        have hl : (pre ++ [b]).length = k + 1 := by rw [List.length_append, List.length_singleton, hk]
        have hrow := heap_set_same (heap_set_same H3.out.2.2.2.1 (i := 0) (.slice (some ⟨g3, 0, none⟩) (k + 1) cap3)) (i := 1) (.int .i64 ((p : Int) + q))
        refine ⟨p + q, pre ++ [b], l'', m'', some ⟨g3, 0, none⟩, cap3, by rw [hl]; go_num, by rw [hbs]; simp, by rw [← List.drop_drop]; exact hr, by omega, by rw [hl]; omega, ?_, ?_, ?_, ?_⟩
        · exact (Below.heap_setCell _ _ _ _ (by simp)).trans ((Below.heap_setCell _ _ _ _ (by simp)).trans H3.out.2.2.1)
        · rw [hl, hrow, show ((p + q : Nat) : Int) = (p : Int) + q by omega]; rfl
        · rw [List.map_append, List.map_singleton, ← he1]
          exact (H3.out.1.set ⟨w.heap.size + 1, 0, none⟩ _ (by show w.heap.size + 1 < _; omega)).set ⟨w.heap.size + 1, 1, none⟩ _ (by show w.heap.size + 1 < _; omega)
        · exact ((HZ.out.2.2.2.1.trans (H3.out.2.1.mono (by omega))).setCell (p := ⟨w.heap.size + 1, 0, none⟩) (Nat.le_succ _) _).setCell (p := ⟨w.heap.size + 1, 1, none⟩) (Nat.le_succ _) _
      case measure => simp [intOf]; omega
end Go.Proofs.YtdmbombjkinboaaGreat
