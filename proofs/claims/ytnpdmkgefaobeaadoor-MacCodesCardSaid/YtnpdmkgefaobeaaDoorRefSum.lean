/- lockboxref01.Sum: the digest, by definition. -/
import Derived.Test.YtnpdmkgefaobeaaDoorRefTake
import Derived.Test.YtnpdmkgefaobeaaDoorRefPadded
import Derived.Test.YtnpdmkgefaobeaaDoorRun
import Derived.Lib.IndexBytes
namespace Go.Proofs.YtnpdmkgefaobeaaDoor
open Go.RowKit

/-- The lowest byte of a word, as a number. -/
def B8 (x : BitVec 32) : Int := ((UInt8.ofNat x.toNat).toNat : Int)
theorem B8_mod (x : BitVec 32) : V x % (256 : Int) = B8 x := by unfold V B8; rw [UInt8.toNat_ofNat']; simp
theorem B8_wrap (x : BitVec 32) : IntKind.u8.wrap (V x) = B8 x := by rw [IntKind.wrap_u8', B8_mod]
attribute [local go_sem] V_shr V_div256 V_div65536 V_div16777216 B8_mod B8_wrap
theorem out_next (st : St) (i : Nat) (hi : i < 8) : bcells ((outL st).take (4 * (i + 1))) = bcells ((outL st).take (4 * i)) ++ [.int .u8 (B8 (st.get i >>> 24)), .int .u8 (B8 (st.get i >>> 16)), .int .u8 (B8 (st.get i >>> 8)), .int .u8 (B8 (st.get i))] := by
  have hg : ∀ j, j < 32 → (outL st)[j]? = some (outAt st j) := fun j hj => by simp [outL, hj]
  have e : (outL st).take (4 * (i + 1)) = (outL st).take (4 * i) ++ [outAt st (4 * i), outAt st (4 * i + 1), outAt st (4 * i + 2), outAt st (4 * i + 3)] := by
    rw [show 4 * (i + 1) = 4 * i + 1 + 1 + 1 + 1 by omega, List.take_add_one, List.take_add_one, List.take_add_one, List.take_add_one, hg _ (by omega), hg _ (by omega), hg _ (by omega), hg _ (by omega)]
    simp
  rw [e, bcells, List.map_append]
  have d0 : 4 * i / 4 = i := by omega
  have d1 : (4 * i + 1) / 4 = i := by omega
  have d2 : (4 * i + 2) / 4 = i := by omega
  have d3 : (4 * i + 3) / 4 = i := by omega
  have m0 : 4 * i % 4 = 0 := by omega
  have m1 : (4 * i + 1) % 4 = 1 := by omega
  have m2 : (4 * i + 2) % 4 = 2 := by omega
  have m3 : (4 * i + 3) % 4 = 3 := by omega
  simp [outAt, B8, d0, d1, d2, d3, m0, m1, m2, m3, bcells]

set_option maxRecDepth 100000 in
set_option maxHeartbeats 4000000 in
theorem rsumref_any (s : ByteArray) (hs : s.size < 1099511627776) (w : World) :
    Calls Tryd.prog 26 #[.string s] w fun e w' => e = .returned (.string (str (sha s.data.toList))) ∧ Below w.heap.size w w' := by
  obtain ⟨i0, hi0, hz0, hz1, hz2⟩ := info_parts Tryd.info5
  obtain ⟨T, hT⟩ : ∃ T, T = s.data.toList ++ padL s.size := ⟨_, rfl⟩
  have hTl : T.length = 64 * blocksN s.size := by
    have := padLen_bd s.size
    rw [hT, List.length_append, padL_length]
    have : s.data.toList.length = s.size := rfl
    omega
  obtain ⟨x, hx⟩ : ∃ x, x = str T := ⟨_, rfl⟩
  have hxs : x.size = 64 * blocksN s.size := by rw [hx, str_size]; exact hTl
  have hbd := blocksN_bd s.size
  go_enter Tryd.func26, Tryd.ntmps26
  go_wp2_with fail
  refine (padded_any s hs _).mono ?_
  rintro e w1 ⟨rfl, hb1⟩
  rw [← hT, ← hx]
  have HT := Lib.hid (And.intro hT (And.intro hx hTl))
  obtain ⟨bn, hbn⟩ : ∃ b, b = blocksN s.size := ⟨_, rfl⟩
  rw [← hbn] at hxs hbd
  have HB := Lib.hid (And.intro hbn hxs)
  have hxb : x.size ≤ 1099511627900 := by omega
  clear hT hx hTl hbn
  go_wp2_with fail
  refine (first_any _).mono ?_
  rintro e w2 ⟨rfl, hw2⟩
  have hb2 : Below w.heap.size w w2 := by subst hw2; exact hb1.alloc hb1.size _
  have hc2 : ∀ i, i < 8 → w2.cell? ⟨w1.heap.size, i, none⟩ = some (.int .u32 (V (first.get i))) := fun i hi => by
    subst hw2
    rw [cell_of_row _ _ _ _ _ _ (heap_alloc_new w1 _), numCells_get (l := hList) (by decide) i (show i < 8 from hi)]
    match i, hi with
    | 0, _ => rfl | 1, _ => rfl | 2, _ => rfl | 3, _ => rfl | 4, _ => rfl | 5, _ => rfl | 6, _ => rfl | 7, _ => rfl
  obtain ⟨g1, hg1⟩ : ∃ g, g = w1.heap.size := ⟨_, rfl⟩
  rw [← hg1] at hc2 ⊢
  clear hw2 hg1 hxs
  go_wp2_with fail
  go_loopw [4, 5] (fun v iv wr => ∃ k o gl cp : Nat, k ≤ bn ∧ o = 64 * k ∧ iv = .int .i64 (o : Int) ∧ v = .slice (some ⟨gl, 0, none⟩) 8 cp ∧ (∀ i, i < 8 → wr.cell? ⟨gl, i, none⟩ = some (.int .u32 (V ((absorb first T k).get i)))) ∧ Below w.heap.size w wr) (fun _ iv _ => x.size - (intOf iv).toNat)
  case atStart => exact ⟨0, 0, g1, 8, by omega, rfl, rfl, rfl, hc2, hb2⟩
  case round =>
    clear hc2
    obtain ⟨k, o, gl, cp, hk, ho, rfl, rfl, hc, hb⟩ := hrel
    have HO := Lib.hid ho
    by_cases hlt : k < bn
    · have h1 : (o : Int) < x.size := by rw [HB.out.2]; omega
      have h2 : (o : Int) + 64 ≤ x.size := by rw [HB.out.2]; omega
      have h3 : o + 64 ≤ x.size := by omega
      clear ho
      have hxe : (x.extract o (o + 64)).size = 64 := by rw [ByteArray.size_extract]; omega
      have hbytes : ∀ j, j < 64 → (x.extract o (o + 64)).data.toList.getD j 0 = T.getD (64 * k + j) 0 := fun j hj => by
        rw [Lib.extract_data, show o + 64 - o = 64 by omega, getD_take _ _ _ hj, HT.out.2.1, str_data, List.getD_eq_getElem?_getD, List.getElem?_drop, ← List.getD_eq_getElem?_getD, HO.out]
      have HY := Lib.hid hbytes
      have HE := Lib.hid hxe
      clear hbytes hxe
      go_wp2_with fail
      refine (rtake_any (absorb first T k) gl 0 cp (x.extract o (o + 64)) HE.out _ (fun i hi => by rw [Nat.zero_add]; exact hc i hi)).mono ?_
      rintro e w5 ⟨g5, cp5, rfl, hc5, hb5⟩
      have hc6 : ∀ i, i < 8 → w5.cell? ⟨g5, i, none⟩ = some (.int .u32 (V ((absorb first T (k + 1)).get i))) := fun i hi => by
        rw [hc5 i hi, absorb, take_congr (fun a ha => wordOf_congr HY.out ha)]
      clear hc5 hc
      go_wp2_with fail
      go_roundw
      case rel => exact ⟨k + 1, o + 64, g5, cp5, by omega, by rw [HO.out]; omega, by go_num, rfl, hc6, hb.trans (hb5.mono hb.size)⟩
      case measure => simp [intOf]; omega
    · have h1 : ¬ (o : Int) < x.size := by rw [HB.out.2]; omega
      clear ho
      obtain ⟨st, hst⟩ : ∃ st, st = absorb first T k := ⟨_, rfl⟩
      rw [← hst] at hc
      have HS := Lib.hid (show st = shaSt s.data.toList by
        have hkb : k = bn := by omega
        rw [hst, shaSt, HT.out.1, hkb, HB.out.1]; rfl)
      clear hst
      have hlb : gl < wr.heap.size := World.block_lt_of_cell? wr _ (hc 0 (by omega))
      go_wp2_with fail
      obtain ⟨wb, rfl⟩ : ∃ wb : World, wb = wr := ⟨_, rfl⟩
      go_loopw [6, 7] (fun v iv wr => ∃ i : Nat, i ≤ 8 ∧ iv = .int .i64 i ∧ wr.ownsRow wb.heap.size 5 1 v (4 * i) (bcells ((outL st).take (4 * i))) ∧ Below wb.heap.size wb wr) (fun _ iv _ => 8 - (intOf iv).toNat)
      case atStart => exact ⟨0, by omega, rfl, World.ownsRow_nil _ _ _ _, Below.refl _ _⟩
      case round =>
        obtain ⟨i, hi, rfl, hown, hbb⟩ := hrel
        have hbs := hbb.size
        by_cases hlt8 : i < 8
        · have ca : wr.cell? ⟨gl, i, none⟩ = some (.int .u32 (V (st.get i))) := (hbb.cell (p := ⟨gl, i, none⟩) hlb).trans (hc i hlt8)
          obtain ⟨xa, ha⟩ : ∃ x, x = st.get i := ⟨_, rfl⟩
          rw [← ha] at ca
          have HA := Lib.hid ha
          have bi : (i : Int) < 8 := by omega
          obtain ⟨f, hf⟩ : ∃ f, f = 4 * i := ⟨_, rfl⟩
          rw [← hf] at hown
          have HF := Lib.hid hf
          have fb : f ≤ 28 := by omega
          clear ha hf hc
          go_wp2_with fail
          refine wp_region_held (S := fun W => W.cell? ⟨gl, i, none⟩ = some (.int .u32 (V xa))) (by kernel_rfl) ?_
          change wpAnyH _ _ _ _ _ _ _ _ (World.drew _)
          refine wpAnyH_take (i := 0) (v := ?_) rfl (by kernel_rfl) (by kernel_rfl) (by kernel_rfl) (fun _ _ _ h => h) (Or.inl ⟨by rfl, ?_⟩) ca ?_
          rotate_left
          · (intro W hS; go_simp; try (with_reducible rfl))
          refine wpAnyH_take (i := 1) (v := ?_) rfl (by kernel_rfl) (by kernel_rfl) (by kernel_rfl) (fun _ _ _ h => h) (Or.inl ⟨by rfl, ?_⟩) ca ?_
          rotate_left
          · (intro W hS; go_simp; try (with_reducible rfl))
          refine wpAnyH_take (i := 2) (v := ?_) rfl (by kernel_rfl) (by kernel_rfl) (by kernel_rfl) (fun _ _ _ h => h) (Or.inl ⟨by rfl, ?_⟩) ca ?_
          rotate_left
          · (intro W hS; go_simp; try (with_reducible rfl))
          refine wpAnyH_take (i := 3) (v := ?_) rfl (by kernel_rfl) (by kernel_rfl) (by kernel_rfl) (fun _ _ _ h => h) (Or.inl ⟨by rfl, ?_⟩) ca ?_
          rotate_left
          · (intro W hS; go_simp; try (with_reducible rfl))
          refine wpAnyH_take (i := 4) (v := ?_) rfl (by kernel_rfl) (by kernel_rfl) (by kernel_rfl) (fun _ _ _ h => h) (Or.inl ⟨by rfl, ?_⟩) ca ?_
          rotate_left
          · (intro W hS; go_simp; try (with_reducible rfl))
          refine wpAnyH_take (i := 5) (v := ?_) rfl (by kernel_rfl) (by kernel_rfl) (by kernel_rfl) (fun _ _ _ h => h) (Or.inl ⟨by rfl, ?_⟩) ca ?_
          rotate_left
          · (intro W hS; go_simp; try (with_reducible rfl))
          refine wpAnyH_take (i := 6) (v := ?_) rfl (by kernel_rfl) (by kernel_rfl) (by kernel_rfl) (fun _ _ _ h => h) (Or.inl ⟨by rfl, ?_⟩) ca ?_
          rotate_left
          · (intro W hS; go_simp; try (with_reducible rfl))
          refine wpAnyH_take (i := 7) (v := ?_) rfl (by kernel_rfl) (by kernel_rfl) (by kernel_rfl) (fun _ _ _ h => h) (Or.inl ⟨by rfl, ?_⟩) ca ?_
          rotate_left
          · (intro W hS; go_simp; try (with_reducible rfl))
          refine wpAnyH_take (i := 8) (v := ?_) rfl (by kernel_rfl) (by kernel_rfl) (by kernel_rfl) (fun _ _ _ h => h) (Or.inl ⟨by rfl, ?_⟩) ca ?_
          rotate_left
          · (intro W hS; go_simp; try (with_reducible rfl))
          refine wpAnyH_take (i := 9) (v := ?_) rfl (by kernel_rfl) (by kernel_rfl) (by kernel_rfl) (fun _ _ _ h => h) (Or.inl ⟨by rfl, ?_⟩) ca ?_
          rotate_left
          · (intro W hS; go_simp; try (with_reducible rfl))
          refine wpAnyH_take (i := 10) (v := ?_) rfl (by kernel_rfl) (by kernel_rfl) (by kernel_rfl) (fun _ _ _ h => h) (Or.inl ⟨by rfl, ?_⟩) ca ?_
          rotate_left
          · (intro W hS; go_simp; try (with_reducible rfl))
          refine wpAnyH_take (i := 11) (v := ?_) rfl (by kernel_rfl) (by kernel_rfl) (by kernel_rfl) (fun _ _ _ h => h) (Or.inl ⟨by rfl, ?_⟩) ca ?_
          rotate_left
          · (intro W hS; go_simp; try (with_reducible rfl))
          refine wpAnyH_take (i := 12) (v := ?_) rfl (by kernel_rfl) (by kernel_rfl) (by kernel_rfl) (fun _ _ _ h => h) (Or.inl ⟨by rfl, ?_⟩) ca ?_
          rotate_left
          · (intro W hS; go_simp; try (with_reducible rfl))
          refine wpAnyH_take (i := 13) (v := ?_) rfl (by kernel_rfl) (by kernel_rfl) (by kernel_rfl) (fun _ _ _ h => h) (Or.inl ⟨by rfl, ?_⟩) ca ?_
          rotate_left
          · (intro W hS; go_simp; try (with_reducible rfl))
          refine wpAnyH_take (i := 14) (v := ?_) rfl (by kernel_rfl) (by kernel_rfl) (by kernel_rfl) (fun _ _ _ h => h) (Or.inl ⟨by rfl, ?_⟩) ca ?_
          rotate_left
          · (intro W hS; go_simp; try (with_reducible rfl))
          refine wpAnyH_take (i := 15) (v := ?_) rfl (by kernel_rfl) (by kernel_rfl) (by kernel_rfl) (fun _ _ _ h => h) (Or.inl ⟨by rfl, ?_⟩) ca ?_
          rotate_left
          · (intro W hS; go_simp; try (with_reducible rfl))
          refine wpAnyH_take (i := 16) (v := ?_) rfl (by kernel_rfl) (by kernel_rfl) (by kernel_rfl) (fun _ _ _ h => h) (Or.inl ⟨by rfl, ?_⟩) ca ?_
          rotate_left
          · (intro W hS; go_simp; try (with_reducible rfl))
          refine wpAnyH_take (i := 17) (v := ?_) rfl (by kernel_rfl) (by kernel_rfl) (by kernel_rfl) (fun _ _ _ h => h) (Or.inl ⟨by rfl, ?_⟩) ca ?_
          rotate_left
          · (intro W hS; go_simp; try (with_reducible rfl))
          refine wpAnyH_take (i := 18) (v := ?_) rfl (by kernel_rfl) (by kernel_rfl) (by kernel_rfl) (fun _ _ _ h => h) (Or.inl ⟨by rfl, ?_⟩) ca ?_
          rotate_left
          · (intro W hS; go_simp; try (with_reducible rfl))
          refine wpAnyH_take (i := 19) (v := ?_) rfl (by kernel_rfl) (by kernel_rfl) (by kernel_rfl) (fun _ _ _ h => h) (Or.inl ⟨by rfl, ?_⟩) ca ?_
          rotate_left
          · (intro W hS; go_simp; try (with_reducible rfl))
          refine wpAnyH_take (i := 20) (v := ?_) rfl (by kernel_rfl) (by kernel_rfl) (by kernel_rfl) (fun _ _ _ h => h) (Or.inl ⟨by rfl, ?_⟩) ca ?_
          rotate_left
          · (intro W hS; go_simp; try (with_reducible rfl))
          refine wpAnyH_take (i := 21) (v := ?_) rfl (by kernel_rfl) (by kernel_rfl) (by kernel_rfl) (fun _ _ _ h => h) (Or.inl ⟨by rfl, ?_⟩) ca ?_
          rotate_left
          · (intro W hS; go_simp; try (with_reducible rfl))
          refine wpAnyH_take (i := 22) (v := ?_) rfl (by kernel_rfl) (by kernel_rfl) (by kernel_rfl) (fun _ _ _ h => h) (Or.inl ⟨by rfl, ?_⟩) ca ?_
          rotate_left
          · (intro W hS; go_simp; try (with_reducible rfl))
          refine wpAnyH_take (i := 23) (v := ?_) rfl (by kernel_rfl) (by kernel_rfl) (by kernel_rfl) (fun _ _ _ h => h) (Or.inl ⟨by rfl, ?_⟩) ca ?_
          rotate_left
          · (intro W hS; go_simp; try (with_reducible rfl))
          refine wpAnyH_ready (rs := [24]) (by kernel_rfl) (by simp) ?_
          refine AllReadyH.cons rfl (fun K hK => ?_) AllReadyH.nil
          go_simp
          refine hK.out _ _ (cellA ca) (fun _ => ?_)
          clear hK K
          refine wpAnyH_ready (rs := [25]) (by kernel_rfl) (by simp) ?_
          refine AllReadyH.cons rfl (fun K hK => ?_) AllReadyH.nil
          refine step_append_keeps _ (by rfl) _ _ _ (by rfl) wb.heap.size 5 i0 _ 1 1 Tryd.underlying31 hi0 hz0 hz1 hz2 rfl (by omega) _ f _ (by rfl) ((hown.alloc _).drew) ⟨wr.heap.size, 0, none⟩ 4 4 [.int .u8 (B8 (xa >>> 24)), .int .u8 (B8 (xa >>> 16)), .int .u8 (B8 (xa >>> 8)), .int .u8 (B8 xa)] (by rfl) (by rfl) (World.news_of_block (cs := #[.int .u8 (B8 (xa >>> 24)), .int .u8 (B8 (xa >>> 16)), .int .u8 (B8 (xa >>> 8)), .int .u8 (B8 xa)]) (t := 5) (fr := (0, 0)) (heap_alloc_new wr _)) (by simp [Value.oneCell']) (by omega) (by unfold maxLen; omega) (by omega) (by simp; omega) (wr.heap.size + 1) (by simp) ?_
          intro g2 cap2 w6 hown6 hgrow hat hgl2 hkeep
          try go_simp
          have na : w6.cell? ⟨gl, i, none⟩ = some (.int .u32 (V xa)) := hgrow.cell (cellA ca) (fun e => by have := (hown.lt _ e.symm).1; simp at this; omega)
          refine hK.out _ _ na (fun _ => ?_)
          clear hK K
          refine wpAnyH_take (i := 26) (v := ?_) rfl (by kernel_rfl) (by kernel_rfl) (by kernel_rfl) (fun _ _ _ h => h) (Or.inl ⟨by rfl, ?_⟩) na ?_
          rotate_left
          · (intro W hS; go_simp; try (with_reducible rfl))
          refine wpAnyH_done (by kernel_rfl) ?_ _
          have hown7 : w6.ownsRow wb.heap.size 5 1 (.slice (some ⟨g2, 0, none⟩) (f + 4) cap2) (4 * (i + 1)) (bcells ((outL st).take (4 * (i + 1)))) := by
            rw [out_next st i hlt8, ← HA.out, show 4 * (i + 1) = f + 4 by rw [HF.out]; omega, ← HF.out]; exact hown6
          go_wp2_with fail
          go_roundw
          case rel => exact ⟨i + 1, by omega, by go_num, hown7, ((hbb.alloc (by omega) _).drew).grown hgrow (by simp; omega) (fun k hk => (hown.lt k hk).1)⟩
          case measure => simp [intOf]; omega
        · have h8 : 4 * i = 32 := by omega
          rw [h8] at hown
          obtain ⟨g, cap, rfl, hgb, hgl⟩ := hown.form (by omega)
          have hcv : (convert 31 9 (.slice (some ⟨g, 0, none⟩) 32 cap)).run Tryd.prog wr = .ok (.string (str (sha s.data.toList))) wr := by
            rw [← strOfNums_nums]
            refine run_convert_bytes_arg (P := Tryd.prog) (w := wr) 31 5 Tryd.underlying31 Tryd.underlying5 g 0 32 cap (nums (sha s.data.toList)) ?_ (fun j hj => ?_) 9 Tryd.underlying9
            · rw [nums, List.length_map, sha_length]
            · have h := hown.cells (g := g) rfl j (.int .u8 ((outAt st j).toNat : Int)) (by
                rw [List.take_of_length_le (by rw [outL_length]; exact Nat.le_refl _), bcells, List.getElem?_map]
                simp [outL, hj])
              rw [Addr.add_mid] at h
              rw [h, HS.out]
              simp [nums, sha, outL, List.getD_eq_getElem?_getD, hj]
          clear h8 hown hc
          go_wp2_with fail
          go_ret
          exact ⟨rfl, hb.trans (hbb.mono hb.size)⟩
end Go.Proofs.YtnpdmkgefaobeaaDoor
