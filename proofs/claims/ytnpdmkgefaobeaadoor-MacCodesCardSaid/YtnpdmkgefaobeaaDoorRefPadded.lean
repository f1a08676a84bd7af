/- lockboxref01.Padded: a text, and what stands behind it. -/
import Derived.Test.YtnpdmkgefaobeaaDoorMem
import Derived.Test.YtnpdmkgefaobeaaDoorRefPad
import Derived.Test.YtnpdmkgefaobeaaDoorAppend
import Derived.Lib.Hide
namespace Go.Proofs.YtnpdmkgefaobeaaDoor
open Go.RowKit

theorem Tryd.info5 : (Tryd.prog.info? 5).map (fun i => (i.zero, i.size, i.bytes)) = some (some (.int .u8 0), 1, 1) := by kernel_rfl
def sliceLen : Value → Nat
  | .slice _ n _ => n
  | _ => 0
theorem pow_bound (k : Nat) (hk : k ≤ 7) : 256 ^ k ≤ 72057594037927936 := Nat.pow_le_pow_right (by decide) hk
theorem pow_bound6 (k : Nat) (hk : k ≤ 6) : 256 ^ k ≤ 281474976710656 := Nat.pow_le_pow_right (by decide) hk
theorem pow_pos256 (k : Nat) : 1 ≤ 256 ^ k := Nat.pow_pos (by decide)
theorem pow_step {P k : Nat} (h : P = 256 ^ k) : Value.int .u64 ((P : Int) * 256) = .int .u64 ((256 ^ (k + 1) : Nat) : Int) := by
  rw [Nat.pow_succ, ← h]; simp
theorem bcells_next (n c : Nat) (hc : c < padLen n) : bcells ((padL n).take (c + 1)) = bcells ((padL n).take c) ++ [.int .u8 ((padAt n c).toNat : Int)] := by
  rw [pad_next n c hc, bcells, List.map_append]; rfl

set_option maxRecDepth 100000 in
set_option maxHeartbeats 2000000 in
theorem padded_any (s : ByteArray) (hs : s.size < 1099511627776) (w : World) :
    Calls Tryd.prog 38 #[.string s] w fun e w' => e = .returned (.string (str (s.data.toList ++ padL s.size))) ∧ Below w.heap.size w w' := by
  obtain ⟨n, hn⟩ : ∃ n, n = s.size := ⟨_, rfl⟩
  obtain ⟨i0, hi0, hz0, hz1, hz2⟩ := info_parts Tryd.info5
  have hpb := padLen_bd n
  obtain ⟨L, hL⟩ : ∃ L, L = padLen n := ⟨_, rfl⟩
  rw [← hL] at hpb
  have HL := Lib.hid hL
  have HN := Lib.hid hn
  have hnb : n < 1099511627776 := by omega
  clear hL
  go_enter Tryd.func38, Tryd.ntmps38
  go_wp2_with (at_builtin; (refine wpList_append_lies _ rfl _ _ 31 rfl w.heap.size 5 i0 _ 1 1 Tryd.underlying31 hi0 hz0 hz1 hz2 rfl (by omega) (.slice none 0 0) 0 [] rfl (World.ownsRow_nil _ _ _ _) ⟨w.heap.size, 0, none⟩ 1 1 [.int .u8 128] rfl rfl (World.news_of_block (cs := #[.int .u8 128]) (t := 5) (fr := (0, 0)) (heap_alloc_new w _)) (by simp [Value.oneCell']) (by omega) (by unfold maxLen; omega) (by omega) (by simp) (w.heap.size + 1) (by simp) ?_); intro g cap w1 hown hgrow hat hgl)
  have hb1 : Below w.heap.size w w1 := ((Below.refl _ _).alloc (Nat.le_refl _) _).grown hgrow (by simp) (fun k hk => by cases hk)
  have hown1 : w1.ownsRow w.heap.size 5 1 (.slice (some ⟨g, 0, none⟩) 1 cap) 1 (bcells ((padL n).take 1)) := by rw [pad_first]; exact hown
  clear hown hgrow hat
  go_loopw [3] (fun v wr => ∃ c gg cp : Nat, 1 ≤ c ∧ c + 8 ≤ L ∧ v = .slice (some ⟨gg, 0, none⟩) c cp ∧ wr.ownsRow w.heap.size 5 1 (.slice (some ⟨gg, 0, none⟩) c cp) c (bcells ((padL n).take c)) ∧ Below w.heap.size w wr) (fun v _ => 80 - sliceLen v)
  case atStart => exact ⟨1, g, cap, by omega, by omega, rfl, hown1, hb1⟩
  case round =>
    clear hown1 hb1
    obtain ⟨c, gg, cp, hc1, hc2, rfl, hown, hb⟩ := hrel
    have hbs := hb.size
    have hst := pad_stop n c hc1 (by rw [← HL.out]; exact hc2)
    rw [← HL.out] at hst
    by_cases hend : c + 8 = L
    · have hz : ((((s.size : Nat) : Int) + (c : Int)) % 64 != 56) = false := by
        have := hst.2 hend
        rw [← HN.out, bne_eq_false_iff_eq]; omega
      clear hst hn
      go_wp2_with fail
      obtain ⟨wo, rfl⟩ : ∃ wo : World, wo = wr := ⟨_, rfl⟩
      have hcL := Lib.hid hend
      go_loopw [3, 5] (fun v iv wr => ∃ i gg cp : Nat, i ≤ 8 ∧ iv = .int .i64 i ∧ v = .slice (some ⟨gg, 0, none⟩) (c + i) cp ∧ wr.ownsRow w.heap.size 5 1 (.slice (some ⟨gg, 0, none⟩) (c + i) cp) (c + i) (bcells ((padL n).take (c + i))) ∧ Below w.heap.size w wr) (fun _ iv _ => 8 - (intOf iv).toNat)
      case atStart => exact ⟨0, gg, cp, by omega, rfl, rfl, hown, hb⟩
      case round =>
        clear hown hb hbs hend
        obtain ⟨i, g3, cp3, hi, rfl, rfl, hown, hb⟩ := hrel
        have hbs := hb.size
        by_cases hlt : i < 8
        · go_wp2_with fail
          go_loop [6, 7] (fun p j => ∃ k : Nat, i + k ≤ 7 ∧ j = .int .i64 ((i + k : Nat) : Int) ∧ p = .int .u64 ((256 ^ k : Nat) : Int)) (fun _ j => 7 - (intOf j).toNat)
          case atStart => exact ⟨0, by omega, rfl, rfl⟩
          case round =>
            obtain ⟨k, hk, rfl, rfl⟩ := hrel
            obtain ⟨P, hP⟩ : ∃ P, P = 256 ^ k := ⟨_, rfl⟩
            have hPb := pow_bound k (by omega)
            have hP1 := pow_pos256 k
            rw [← hP] at hPb hP1 ⊢
            have HP := Lib.hid hP
            have hP2 : (1 : Int) ≤ P := by omega
            have hP3 : (P : Int) ≤ 72057594037927936 := by omega
            clear hP
            obtain ⟨j, hj⟩ : ∃ j, j = i + k := ⟨_, rfl⟩
            rw [← hj] at hk ⊢
            have HJ := Lib.hid hj
            clear hj
            by_cases h7 : j < 7
            · have hP4 : (P : Int) ≤ 281474976710656 := by have := HJ.out; have := pow_bound6 k (by omega); rw [HP.out]; omega
              go_wp2_with fail
              go_round
              case rel => exact ⟨k + 1, by have := HJ.out; omega, by have := HJ.out; subst this; go_num, pow_step HP.out⟩
              case measure => simp [intOf]; omega
            · obtain ⟨D, hD⟩ : ∃ D, D = 8 * s.size / P := ⟨_, rfl⟩
              have hDi : 8 * (s.size : Int) / (P : Int) = (D : Int) := by rw [hD]; simp
              have hbyte : (D : Int) % 256 = ((padAt n (c + i)).toNat : Int) := by
                have h8 : c + i = padLen n - 8 + i := by have := hcL.out; have := HL.out; omega
                rw [hD, h8, pad_byte n i hlt, UInt8.toNat_ofNat', ← HN.out, HP.out, show 7 - i = k by have := HJ.out; omega]
                simp
              have HY := Lib.hid hbyte
              clear hD hbyte
              go_wp2_with (at_builtin; (refine wpList_append_lies _ rfl _ _ 31 rfl w.heap.size 5 i0 _ 1 1 Tryd.underlying31 hi0 hz0 hz1 hz2 rfl (by omega) _ (c + i) _ rfl (hown.alloc _) ⟨wr.heap.size, 0, none⟩ 1 1 [.int .u8 ((D : Int) % 256)] rfl rfl (World.news_of_block (cs := #[.int .u8 ((D : Int) % 256)]) (t := 5) (fr := (0, 0)) (heap_alloc_new wr _)) (by simp [Value.oneCell']) (by omega) (by unfold maxLen; omega) (by omega) (by simp; omega) (wr.heap.size + 1) (by simp) ?_); intro g4 cap4 w4 hown4 hgrow4 hat4 hgl4)
              go_roundw
              case rel => exact ⟨i + 1, g4, cap4, by omega, by go_num, rfl, by rw [← Nat.add_assoc, bcells_next n (c + i) (by rw [← HL.out]; have := hcL.out; omega), ← HY.out]; exact hown4, (hb.alloc (by omega) _).grown hgrow4 (by simp; omega) (fun k hk => (hown.lt k hk).1)⟩
              case measure => simp [intOf]; omega
        · have h8 : i = 8 := by omega
          have hci : c + i = padLen n := by rw [← HL.out]; have := hcL.out; omega
          have hcv : (convert 31 9 (.slice (some ⟨g3, 0, none⟩) (c + i) cp3)).run Tryd.prog wr = .ok (.string (str (padL n))) wr := by
            rw [← strOfNums_nums]
            refine run_convert_bytes_arg (P := Tryd.prog) (w := wr) 31 5 Tryd.underlying31 Tryd.underlying5 g3 0 (c + i) cp3 (nums (padL n)) ?_ (fun j hj => ?_) 9 Tryd.underlying9
            · rw [nums, List.length_map, padL_length, hci]
            · have h := hown.cells (g := g3) rfl j (.int .u8 ((padAt n j).toNat : Int)) (by
                rw [hci, pad_all, bcells, List.getElem?_map, padL_get n j (by omega)]; rfl)
              rw [Addr.add_mid] at h
              rw [h, nums, List.getD_eq_getElem?_getD, List.getElem?_map, padL_get n j (by omega)]
              rfl
          have hsz : ¬ 9223372036854775807 < s.size + (str (padL n)).size := by
            rw [str_size, padL_length, ← HL.out]; omega
          clear h8 hci hown
          go_wp2_with fail
          go_ret
          refine ⟨?_, hb⟩
          have e : s ++ str (padL n) = str (s.data.toList ++ padL s.size) := by
            rw [← HN.out]
            have := ByteArray.mk_append_mk s.data.toList (padL n)
            rwa [show (⟨s.data.toList.toArray⟩ : ByteArray) = s from str_of s] at this
          exact congrArg (fun x => Ending.returned (.string x)) e
    · have hz : ((((s.size : Nat) : Int) + (c : Int)) % 64 != 56) = true := by
        have : ¬ (n + c) % 64 = 56 := fun h => hend (hst.1 h)
        rw [← HN.out, bne_iff_ne]; omega
      clear hst hn
      go_wp2_with (at_builtin; (refine wpList_append_lies _ rfl _ _ 31 rfl w.heap.size 5 i0 _ 1 1 Tryd.underlying31 hi0 hz0 hz1 hz2 rfl (by omega) _ c _ rfl (hown.alloc _) ⟨wr.heap.size, 0, none⟩ 1 1 [.int .u8 0] rfl rfl (World.news_of_block (cs := #[.int .u8 0]) (t := 5) (fr := (0, 0)) (heap_alloc_new wr _)) (by simp [Value.oneCell']) (by omega) (by unfold maxLen; omega) (by omega) (by simp; omega) (wr.heap.size + 1) (by simp) ?_); intro g2 cap2 w2 hown2 hgrow2 hat2 hgl2)
      go_roundw
      case rel => exact ⟨c + 1, g2, cap2, by omega, by omega, rfl, by rw [bcells_next n c (by rw [← HL.out]; omega), pad_zero n c hc1 (by rw [← HL.out]; omega)]; exact hown2, (hb.alloc (by omega) _).grown hgrow2 (by simp; omega) (fun k hk => (hown.lt k hk).1)⟩
      case measure => simp [sliceLen]; omega
end Go.Proofs.YtnpdmkgefaobeaaDoor
