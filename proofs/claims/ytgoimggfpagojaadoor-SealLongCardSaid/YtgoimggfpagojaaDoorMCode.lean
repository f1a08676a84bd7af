/- (mac.keyed).code, mac.Code: the code of parts under a key. -/
import Derived.Test.YtgoimggfpagojaaDoorMUnder
import Derived.Test.YtgoimggfpagojaaDoorFew
namespace Go.Proofs.YtgoimggfpagojaaDoor
open Go.RowKit

theorem ldR0_eq (W : World) (g : Nat) (h : (rowOf W g).size = 146) : (ldRow 86 (.pointer (some ⟨g, 0, none⟩))).run Tryd.prog W = .ok (.agg ((rowOf W g).extract 0 73)) W := by
  obtain ⟨t, ht⟩ := rowOf_heap h
  have := run_loadAt_mid (P := Tryd.prog) W g 0 86 ((rowOf W g).extract 0 73).toList _ (World.rangeAt_of_block ht 0 73) Tryd.underlying86 rfl (by rw [Array.length_toList, Array.size_extract, h]; kernel_rfl)
  rw [Array.toArray_toList] at this
  exact this
theorem ldR73_eq (W : World) (g : Nat) (h : (rowOf W g).size = 146) : (ldRow 86 (.pointer (some ⟨g, 73, none⟩))).run Tryd.prog W = .ok (.agg ((rowOf W g).extract 73 146)) W := by
  obtain ⟨t, ht⟩ := rowOf_heap h
  have := run_loadAt_mid (P := Tryd.prog) W g 73 86 ((rowOf W g).extract 73 146).toList _ (World.rangeAt_of_block ht 73 73) Tryd.underlying86 rfl (by rw [Array.length_toList, Array.size_extract, h]; kernel_rfl)
  rw [Array.toArray_toList] at this
  exact this
theorem stR0_eq (W : World) (g : Nat) (c : Array Value) (h : (rowOf W g).size = 146) (hc : Whole73 c) : (stRow 86 (.pointer (some ⟨g, 0, none⟩)) (.agg c)).run Tryd.prog W = .ok () (W.setCells g 0 c.toList) := by
  obtain ⟨t, ht⟩ := rowOf_heap h
  exact run_storeAt_mid (P := Tryd.prog) W g 0 86 c (fun j hj => ⟨by
    rw [hc.1] at hj
    rw [cell_of_row _ _ _ _ _ _ ht, Array.getElem?_eq_getElem (by omega)]; rfl, frozen_of_row _ _ _ _ _ ht⟩) (by rw [hc.1]; kernel_rfl) hc.2
attribute [local go_sem ↓] ld34_hide st34_hide
attribute [local go_sem] ldR0_eq ldR73_eq stR0_eq
theorem two_left (c1 c2 : Array Value) (h : c1.size = 73) : (c1 ++ c2).extract 0 73 = c1 := by
  rw [← h, Array.extract_append_left]; simp
theorem two_right (c1 c2 : Array Value) (h : c1.size = 73) (h2 : c2.size = 73) : (c1 ++ c2).extract 73 146 = c2 := by
  apply Array.ext_getElem?
  intro i
  rw [Array.getElem?_extract]
  by_cases hi : i < 73
  · rw [if_pos (by rw [Array.size_append, h, h2]; omega), Array.getElem?_append_right (by omega), h]
    congr 1; omega
  · rw [if_neg (by rw [Array.size_append, h, h2]; omega), Array.getElem?_eq_none (by omega)]
theorem left_set {W : World} {g : Nat} {c1 c2 c : Array Value} (h : W.heap[g]? = some (.cells (c1 ++ c2) 88 (0, 0))) (h1 : c1.size = 73) (hc : c.size = 73) :
    (W.setCells g 0 c.toList).heap[g]? = some (.cells (c ++ c2) 88 (0, 0)) := by
  obtain ⟨c', e1, e2, e3⟩ := heap_setCells g 88 c.toList 0 W _ h (by rw [Array.length_toList, Array.size_append, h1, hc]; omega)
  rw [e1]
  congr 2
  apply Array.ext_getElem?
  intro i
  rw [e3, Array.length_toList, hc, Nat.sub_zero, Array.getElem?_toList, Array.getElem?_append, Array.getElem?_append, hc, h1]
  by_cases hi : i < 73
  · rw [if_pos (by omega), if_pos hi]
  · rw [if_neg (by omega), if_neg hi, if_neg hi]
theorem catN_le (ss : List ByteArray) : ∀ n i, i ≤ n → (catN ss i).size ≤ (catN ss n).size
  | 0, i, h => by rw [show i = 0 by omega]; exact Nat.le_refl _
  | n + 1, i, h => by
    by_cases e : i = n + 1
    · rw [e]; exact Nat.le_refl _
    · have := catN_le ss n i (by omega)
      rw [show catN ss (n + 1) = catN ss n ++ ss.getD n ByteArray.empty from rfl, ByteArray.size_append]; omega

/-- The two runs stand where they stand. -/
structure CoS (w : World) (c : Array Value) (W : World) : Prop where
  below : Below w.heap.size w W
  glob : Glob W
  row : W.heap[w.heap.size]? = some (.cells c 88 (0, 0))
theorem CoS.call {w W W' : World} {c : Array Value} (h : CoS w c W) (hb : Below W.heap.size W W') : CoS w c W' :=
  ⟨h.below.trans (hb.mono h.below.size), h.glob.below hb, (hb.block _ (Array.getElem?_eq_some_iff.1 h.row).1).trans h.row⟩
set_option maxRecDepth 100000 in
set_option maxHeartbeats 1000000 in
theorem kcode_any (c : Array Value) (li lo : List UInt8) (hK : Keyed c li lo) (ss : List ByteArray) (a0 : Option Addr) (cap : Nat) (w : World) (hG : Glob w) (hT : TextsAt w a0 ss) (hm : ss.length ≤ maxLen)
    (hli : li.length + (catN ss ss.length).size < 1099511626000) (hlo : lo.length < 1000) :
    Calls Tryd.prog 57 #[.agg c, .slice a0 ss.length cap] w fun e w' => e = .returned (.string (str (sha (lo ++ sha (li ++ (catN ss ss.length).data.toList))))) ∧ Below w.heap.size w w' := by
  unfold maxLen at hm
  obtain ⟨n, hn⟩ : ∃ n, n = ss.length := ⟨_, rfl⟩
  rw [← hn] at hm hli ⊢
  obtain ⟨c1, c2, rfl, hr1, hr2⟩ := hK
  have HT := Lib.hid (And.intro hT (And.intro hn (And.intro hli hlo)))
  clear hT hn hli hlo
  go_enter Tryd.func57, Tryd.ntmps57
  go_wp2_with fail
  have hA0 : (w.alloc (.cells (c1 ++ c2) 88)).heap[w.heap.size]? = some (.cells (c1 ++ c2) 88 (0, 0)) := heap_alloc_new _ _
  have hB0 : Below w.heap.size w (w.alloc (.cells (c1 ++ c2) 88)) := (Below.refl _ _).alloc (Nat.le_refl _) _
  have H0 := Lib.hid (And.intro hr1 (And.intro hA0 hB0))
  clear hr1 hA0 hB0
  go_loopw [9] (fun i wr => ∃ (k : Nat) (ck : Array Value), k ≤ n ∧ i = .int .i64 k ∧ RunOf ck (li ++ (catN ss k).data.toList) ∧ wr.heap[w.heap.size]? = some (.cells (ck ++ c2) 88 (0, 0)) ∧ Below w.heap.size w wr) (fun i _ => n - (intOf i).toNat)
  case atStart => exact ⟨0, c1, by omega, rfl, by rw [show (catN ss 0).data.toList = [] from rfl, List.append_nil]; exact H0.out.1, H0.out.2.1, H0.out.2.2⟩
  case round =>
    clear H0
    obtain ⟨k, ck, hk, rfl, hr, hrow, hb⟩ := hrel
    have hz := hr.size
    have hz2 := hr2.size
    have ro := rowOf_eq hrow
    have rs : (ck ++ c2).size = 146 := by rw [Array.size_append, hz, hz2]
    have e1 := two_left ck c2 hz
    have e2 := two_right ck c2 hz hz2
    have hGr := hG.below hb
    by_cases hlt : k < n
    · obtain ⟨b, off, rfl, hbl, hc⟩ := (HT.out.1.below hb) k (by have := HT.out.2.1; omega)
      obtain ⟨x, hx⟩ : ∃ x, x = ss.getD k ByteArray.empty := ⟨_, rfl⟩
      rw [← hx] at hc
      have hcat : catN ss (k + 1) = catN ss k ++ x := by rw [hx]; rfl
      have hle := catN_le ss n (k + 1) (by omega)
      have hsz : (li ++ (catN ss k).data.toList).length + x.size < 1099511627776 := by
        rw [hcat, ByteArray.size_append] at hle
        have := HT.out.2.2.1
        rw [List.length_append]
        simp
        omega
      have H := Lib.hid (And.intro hr (And.intro hrow (And.intro hb (And.intro hGr (And.intro hsz (And.intro hcat hz))))))
      clear hr hrow hb hGr hsz hcat hz hz2 hx hle
      go_wp2_with fail
      refine (with_any ck _ H.out.1 x H.out.2.2.2.2.1 _ H.out.2.2.2.1).mono ?_
      rintro e w5 ⟨c5, rfl, hr5, hb5⟩
      have hrow5 : w5.heap[w.heap.size]? = some (.cells (ck ++ c2) 88 (0, 0)) := (hb5.block _ (Array.getElem?_eq_some_iff.1 H.out.2.1).1).trans H.out.2.1
      have ro5 := rowOf_eq hrow5
      have w73 : Whole73 c5 := ⟨hr5.size, hr5.oneCell⟩
      have hset := left_set hrow5 H.out.2.2.2.2.2.2 hr5.size
      have hbs : Below w.heap.size w (w5.setCells w.heap.size 0 c5.toList) := below_setCells _ (Nat.le_refl _) _ _ _ (below_trans' H.out.2.2.1 hb5 H.out.2.2.1.size)
      rw [List.append_assoc] at hr5
      have H5 := Lib.hid (And.intro hr5 (And.intro hset hbs))
      clear hr5 hset hbs hb5 hrow5 ro e1 e2 hc
      go_wp2_with fail
      go_roundw
      case rel => exact ⟨k + 1, c5, by omega, by go_num, by rw [H.out.2.2.2.2.2.1, data_append]; exact H5.out.1, H5.out.2.1, H5.out.2.2⟩
      case measure => simp [intOf]; omega
    · obtain rfl : k = n := by omega
      have hl1 : (li ++ (catN ss k).data.toList).length < 1099511627000 := by have := HT.out.2.2.1; rw [List.length_append]; simp; omega
      obtain ⟨D, hD⟩ : ∃ D, D = str (sha (li ++ (catN ss k).data.toList)) := ⟨_, rfl⟩
      have hDl : lo.length + D.size < 1099511627776 := by have := HT.out.2.2.2; rw [hD, str_size, sha_length]; omega
      have hl2 : (lo ++ D.data.toList).length < 1099511627000 := by have := HT.out.2.2.2; rw [hD, str_data, List.length_append, sha_length]; omega
      have H := Lib.hid (And.intro hr (And.intro (And.intro hl1 (And.intro hD (And.intro hDl hl2))) (And.intro rs (And.intro e1 e2))))
      go_wp2_with fail
      have C : CoS w (ck ++ c2) wr.drew := ⟨hb.drew, hGr.below ((Below.refl _ _).drew), hrow⟩
      clear hr hrow hb hGr hz hz2 ro rs e1 e2 hl1 hD hDl hl2
      refine wp_region_held (S := CoS w (ck ++ c2)) (by kernel_rfl) ?_
      change wpAnyH _ _ _ _ _ _ _ _ (World.drew _)
      generalize World.drew _ = wh at *
      refine wpAnyH_take (i := 0) (v := ?_) rfl (by kernel_rfl) (by kernel_rfl) (by kernel_rfl) (fun _ _ _ h => h) (Or.inl ⟨by kernel_rfl, ?_⟩) C ?_
      rotate_left
      · (intro W hS; clear hS; go_simp; try (with_reducible rfl))
      refine wpAnyH_take (i := 1) (v := ?_) rfl (by kernel_rfl) (by kernel_rfl) (by kernel_rfl) (fun _ _ _ h => h) (Or.inl ⟨by kernel_rfl, ?_⟩) C ?_
      rotate_left
      · (intro W hS; have e0 := rowOf_eq hS.row; have e1 := H.out.2.2.1; have e2 := H.out.2.2.2.1; have e3 := H.out.2.2.2.2; clear hS; go_simp; try (with_reducible rfl))
      refine wpAnyH_take (i := 2) (v := ?_) rfl (by kernel_rfl) (by kernel_rfl) (by kernel_rfl) (fun _ _ _ h => h) (Or.inl ⟨by kernel_rfl, ?_⟩) C ?_
      rotate_left
      · (intro W hS; clear hS; go_simp; try (with_reducible rfl))
      refine wpAnyH_take (i := 3) (v := ?_) rfl (by kernel_rfl) (by kernel_rfl) (by kernel_rfl) (fun _ _ _ h => h) (Or.inl ⟨by kernel_rfl, ?_⟩) C ?_
      rotate_left
      · (intro W hS; have e0 := rowOf_eq hS.row; have e1 := H.out.2.2.1; have e2 := H.out.2.2.2.1; have e3 := H.out.2.2.2.2; clear hS; go_simp; try (with_reducible rfl))
      refine wpAnyH_ready (rs := [4]) (by kernel_rfl) (by simp) ?_
      refine AllReadyH.cons rfl (fun K hK => ?_) AllReadyH.nil
      go_simp
      refine (rsum_any ck _ H.out.1 H.out.2.1.1 _ C.glob).mono ?_
      rintro e W1 ⟨rfl, hb⟩
      have C := C.call hb
      refine hK.out _ _ C (fun _ => ?_)
      clear hK K hb
      rw [← H.out.2.1.2.1]
      refine wpAnyH_ready (rs := [5]) (by kernel_rfl) (by simp) ?_
      refine AllReadyH.cons rfl (fun K hK => ?_) AllReadyH.nil
      go_simp
      refine (with_any c2 lo hr2 D H.out.2.1.2.2.1 _ C.glob).mono ?_
      rintro e W2 ⟨c3, rfl, hr3, hb⟩
      have C := C.call hb
      refine hK.out _ _ C (fun _ => ?_)
      clear hK K hb
      refine wpAnyH_ready (rs := [6]) (by kernel_rfl) (by simp) ?_
      refine AllReadyH.cons rfl (fun K hK => ?_) AllReadyH.nil
      go_simp
      refine (rsum_any c3 _ hr3 H.out.2.1.2.2.2 _ C.glob).mono ?_
      rintro e W3 ⟨rfl, hb⟩
      have C := C.call hb
      refine hK.out _ _ C (fun _ => ?_)
      clear hK K hb
      refine wpAnyH_take (i := 7) (v := ?_) rfl (by kernel_rfl) (by kernel_rfl) (by kernel_rfl) (fun _ _ _ h => h) (Or.inl ⟨by kernel_rfl, ?_⟩) C ?_
      rotate_left
      · (intro W hS; clear hS; go_simp; try (with_reducible rfl))
      refine wpAnyH_done (by kernel_rfl) ?_ _
      go_wp2_with fail
      go_ret
      exact ⟨by rw [H.out.2.1.2.1, str_data]; rfl, C.below⟩

set_option maxRecDepth 100000 in
set_option maxHeartbeats 1000000 in
/-- The code of parts. -/
theorem mcode_any (key : ByteArray) (hs : key.size < 1099511627000) (ss : List ByteArray) (a0 : Option Addr) (cap : Nat) (w : World) (hG : Glob w) (hT : TextsAt w a0 ss) (hm : ss.length ≤ maxLen) (hl : (catN ss ss.length).size < 1099511625000) :
    Calls Tryd.prog 35 #[.string key, .slice a0 ss.length cap] w fun e w' => e = .returned (.string (str (code key.data.toList (catN ss ss.length).data.toList))) ∧ Below w.heap.size w w' := by
  go_enter Tryd.func35, Tryd.ntmps35
  go_wp2_with fail
  refine (under_any key hs _ hG).mono ?_
  rintro e w1 ⟨c, rfl, hk, h1⟩
  go_wp2_with fail
  refine (kcode_any c _ _ hk ss a0 cap _ (hG.below h1) (hT.below h1) hm (by rw [padX_length]; omega) (by rw [padX_length]; decide)).mono ?_
  rintro e w2 ⟨rfl, h2⟩
  go_wp2_with fail
  go_ret
  exact ⟨rfl, below_trans' h1 h2 h1.size⟩
end Go.Proofs.YtgoimggfpagojaaDoor
