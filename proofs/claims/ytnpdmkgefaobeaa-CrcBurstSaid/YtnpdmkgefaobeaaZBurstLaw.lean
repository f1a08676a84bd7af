/- PROVED HERE: for every text and every two numbers the law CrcBurst returns true (a text some of whose bits within 32 that stand side by side are turned has another sum), and all read afterwards as they did. No condition. -/
import Derived.Test.YtnpdmkgefaobeaaZRef
import Derived.Test.YtnpdmkgefaobeaaZBurst
import Derived.Test.YtnpdmkgefaobeaaBytes
import Derived.Test.YtnpdmkgefaobeaaRows
import Derived.ProofKit
import Derived.OpenShut
import Derived.Deep.QuietTactic
import Derived.BigQuiet
import Derived.Deep.RegionHeld3
namespace Go.Proofs.Ytnpdmkgefaobeaa
open Go.RowKit

attribute [local go_sem] V_xor V_and V_and1 V_shr
theorem turn_value (c : UInt8) (m : Nat) (hm : m < 8) : bits .xor .u8 (c.toNat : Int) ((2 : Int) ^ m % 256) = ((c ^^^ UInt8.ofNat (2 ^ m)).toNat : Int) := by
  have e : (2 : Int) ^ m % 256 = ((UInt8.ofNat (2 ^ m)).toNat : Int) := by
    match m, hm with
    | 0, _ => rfl | 1, _ => rfl | 2, _ => rfl | 3, _ => rfl | 4, _ => rfl | 5, _ => rfl | 6, _ => rfl | 7, _ => rfl
  rw [e, u8_xor_nat _ _ c.toNat_lt (UInt8.toNat_lt _), UInt8.toNat_xor]
/-- The turned bytes stand where they stand. -/
structure BuS (w : World) (l : List UInt8) (W : World) : Prop where
  row : Row8 w.heap.size W w.heap.size l
  below : Below w.heap.size w W
theorem BuS.call {w : World} {l : List UInt8} {W W' : World} (h : BuS w l W) (hb : Below W.heap.size W W') : BuS w l W' := ⟨h.row.call hb, below_call h.below hb⟩
theorem BuS.conv {w : World} {l : List UInt8} {W : World} (h : BuS w l W) (n : Nat) (hn : l.length = n) (cap : Nat) (L : ByteArray) (hL : L = str l) :
    (convert 29 9 (.slice (some ⟨w.heap.size, 0, none⟩) n cap)).run Try.prog W = .ok (.string L) W := by
  subst hL; exact h.row.conv n hn cap
theorem bit_of (x : BitVec 32) (k : Nat) : x >>> k &&& 1#32 = (if x.getLsbD k then 1#32 else 0#32) := by
  apply BitVec.eq_of_getLsbD_eq
  intro i hi
  simp only [BitVec.getLsbD_and, BitVec.getLsbD_ushiftRight, BitVec.getLsbD_one]
  cases i with
  | zero => cases x.getLsbD k <;> simp
  | succ i => cases x.getLsbD k <;> simp
set_option maxRecDepth 100000 in
set_option maxHeartbeats 1000000 in
theorem burst_law (s : ByteArray) (_ : s.size ≤ maxLen) (at_ : Int) (_ : -9223372036854775808 ≤ at_) (_ : at_ ≤ 9223372036854775807) (x : BitVec 32) (w : World) :
    Calls Try.prog 10 #[.string s, .int .i64 at_, .int .u32 (V x)] w fun e w' => e = .returned (.bool true) ∧ Below w.heap.size w w' := by
  by_cases hbig : (3000 : Int) < s.size
  · go_enter Try.func10, Try.ntmps10
    go_wp2_with fail
    refine (awake_any _).mono ?_
    rintro e w1 ⟨rfl, h1⟩
    go_wp2_with fail
    go_ret
    exact ⟨rfl, h1⟩
  by_cases h0 : (s.size : Int) = 0
  · go_enter Try.func10, Try.ntmps10
    go_wp2_with fail
    refine (awake_any _).mono ?_
    rintro e w1 ⟨rfl, h1⟩
    go_wp2_with fail
    go_ret
    exact ⟨rfl, h1⟩
  have hpos : (0 : Int) < s.size := by omega
  have h0' : ((s.size : Int) == 0) = false := by simpa using h0
  obtain ⟨t, ht⟩ : ∃ t, at_.tmod (8 * (s.size : Int)) = t := ⟨_, rfl⟩
  have ht1 : -(8 * (s.size : Int)) < t ∧ t < 8 * (s.size : Int) := by
    subst ht
    rw [Int.tmod_eq_emod]
    have h1 := Int.emod_nonneg at_ (show 8 * (s.size : Int) ≠ 0 by omega)
    have h2 := Int.emod_lt_of_pos at_ (show 0 < 8 * (s.size : Int) by omega)
    split <;> omega
  obtain ⟨ht1, ht2⟩ := ht1
  obtain ⟨p, hp⟩ : ∃ p : Nat, t % (8 * (s.size : Int)) = p := ⟨(t % (8 * (s.size : Int))).toNat, by have := Int.emod_nonneg t (show 8 * (s.size : Int) ≠ 0 by omega); omega⟩
  have hpl : (p : Int) < 8 * (s.size : Int) := by rw [← hp]; exact Int.emod_lt_of_pos t (by omega)
  obtain ⟨cap, w0, hcv, hrow, hb0, hz0⟩ := conv_bytes w s
  have H0 := Lib.hid (And.intro hrow (And.intro hb0 hz0))
  clear hrow hb0 hz0
  go_enter Try.func10, Try.ntmps10
  go_wp2_with fail
  clear hcv ht hp ht1 ht2 h0 h0'
  go_loopw [10] (fun i wr => ∃ k : Nat, k ≤ 32 ∧ i = .int .i64 k ∧ Row8 w.heap.size wr w.heap.size (Zc.turned s.data.toList p x k) ∧ Below w.heap.size w wr) (fun i _ => 32 - (intOf i).toNat)
  case atStart => exact ⟨0, by omega, rfl, by rw [Zc.turned_none _ _ _ _ (fun q _ => Zc.fB_zero p x q)]; exact H0.out.1, H0.out.2.1⟩
  case round =>
    clear H0
    obtain ⟨k, hk, rfl, hrow, hb⟩ := hrel
    by_cases hlt : k < 32
    · by_cases hin : (p : Int) + k < 8 * (s.size : Int)
      · have hbit := bit_of x k
        cases hbk : x.getLsbD k with
        | true =>
          rw [hbk, if_pos rfl] at hbit
          have hjl : (p + k) / 8 < (Zc.turned s.data.toList p x k).length := by rw [Zc.turned_length]; simp; omega
          obtain ⟨c, hc0⟩ : ∃ c, c = (Zc.turned s.data.toList p x k).getD ((p + k) / 8) 0 := ⟨_, rfl⟩
          have hcell := hrow.2.2 _ hjl
          rw [← hc0] at hcell
          obtain ⟨hc, hf⟩ := hcell
          have H := Lib.hid (And.intro hrow (And.intro hb (And.intro hbk (And.intro hc0 hjl))))
          clear hrow hb hbk hc0 hjl
          have hv1 : V 1#32 = 1 := rfl
          have hidx : (p + k) / 8 < s.size := by omega
          go_wp2_with fail
          go_roundw
          case rel =>
            rw [turn_value c _ (Nat.mod_lt _ (by decide))]
            have hi2 : (p + k) / 8 < s.data.toList.length := by have := H.out.2.2.2.2; rwa [Zc.turned_length] at this
            refine ⟨k + 1, by omega, by go_num, ?_, H.out.2.1.setCell (Nat.le_refl _) _⟩
            refine H.out.1.put ((p + k) / 8) H.out.2.2.2.2 _ (by rw [Zc.turned_length, Zc.turned_length]) ?_ (fun i hi hne => ?_)
            · rw [Zc.turned_at _ _ _ _ H.out.2.2.1 hi2, H.out.2.2.2.1]
            · rw [Zc.turned_length] at hi
              exact Zc.turned_else _ _ _ _ _ hi (.inl hne)
          case measure => simp [intOf]; omega
        | false =>
          rw [hbk, if_neg (by decide)] at hbit
          have hst := Zc.turned_stay s.data.toList p x k (.inr hbk)
          have H := Lib.hid (And.intro hrow (And.intro hb hst))
          clear hrow hb hbk hst
          have hv1 : V 0#32 = 0 := rfl
          go_wp2_with fail
          go_roundw
          case rel => exact ⟨k + 1, by omega, by go_num, by rw [H.out.2.2]; exact H.out.1, H.out.2.1⟩
          case measure => simp [intOf]; omega
      · have hst := Zc.turned_stay s.data.toList p x k (.inl (by simp; omega))
        have H := Lib.hid (And.intro hrow (And.intro hb hst))
        clear hrow hb hst
        go_wp2_with fail
        go_roundw
        case rel => exact ⟨k + 1, by omega, by go_num, by rw [H.out.2.2]; exact H.out.1, H.out.2.1⟩
        case measure => simp [intOf]; omega
    · obtain rfl : k = 32 := by omega
      have H := Lib.hid (And.intro hrow hb)
      clear hrow hb
      obtain ⟨L, hL⟩ : ∃ L, L = str (Zc.turned s.data.toList p x 32) := ⟨_, rfl⟩
      have hTl : (Zc.turned s.data.toList p x 32).length = s.size := by rw [Zc.turned_length]; simp
      have hLs : L.size ≤ maxLen := by rw [hL, str_size, hTl]; unfold maxLen; omega
      have hss : s.size ≤ maxLen := by unfold maxLen; omega
      have HL := Lib.hid (And.intro hL (And.intro hTl (And.intro hLs hss)))
      have hps : p < 8 * s.data.toList.length := by simp; omega
      clear hLs hss hTl
      by_cases heq : L = s
      · clear hL
        have heq := heq.symm
        subst heq
        go_wp2_with fail
        have C : BuS w (Zc.turned s.data.toList p x 32) wr.drew := ⟨H.out.1, H.out.2.drew⟩
        refine wp_region_held (S := BuS w (Zc.turned s.data.toList p x 32)) (by kernel_rfl) ?_
        change wpAnyH _ _ _ _ _ _ _ _ (World.drew _)
        generalize World.drew _ = wh at *
        refine wpAnyH_ready (rs := [0]) (by kernel_rfl) (by simp) ?_
        refine AllReadyH.cons rfl (fun K hK => ?_) AllReadyH.nil
        go_simp
        refine (awake_any _).mono ?_
        rintro e W1 ⟨rfl, hb⟩
        have C := C.call hb
        refine hK.out _ _ C (fun _ => ?_)
        clear hK K hb
        refine wpAnyH_take (i := 1) (v := ?_) rfl (by kernel_rfl) (by kernel_rfl) (by kernel_rfl) (fun _ _ _ h => h) (Or.inl ⟨by kernel_rfl, ?_⟩) C ?_
        rotate_left
        · (intro W hS; clear hS; go_simp; try (with_reducible rfl))
        refine wpAnyH_take (i := 2) (v := ?_) rfl (by kernel_rfl) (by kernel_rfl) (by kernel_rfl) (fun _ _ _ h => h) (Or.inl ⟨by kernel_rfl, ?_⟩) C ?_
        rotate_left
        · (intro W hS; clear hS; go_simp; try (with_reducible rfl))
        refine wpAnyH_take (i := 3) (v := ?_) rfl (by kernel_rfl) (by kernel_rfl) (by kernel_rfl) (fun _ _ _ h => h) (Or.inl ⟨by kernel_rfl, ?_⟩) C ?_
        rotate_left
        · (intro W hS; have hcv := hS.conv s.size HL.out.2.1 cap s HL.out.1; clear hS; go_simp; try (with_reducible rfl))
        refine wpAnyH_take (i := 5) (v := ?_) rfl (by kernel_rfl) (by kernel_rfl) (by kernel_rfl) (fun _ _ _ h => h) (Or.inl ⟨by kernel_rfl, ?_⟩) C ?_
        rotate_left
        · (intro W hS; clear hS; go_simp; try (with_reducible rfl))
        refine wpAnyH_take (i := 8) (v := ?_) rfl (by kernel_rfl) (by kernel_rfl) (by kernel_rfl) (fun _ _ _ h => h) (Or.inl ⟨by kernel_rfl, ?_⟩) C ?_
        rotate_left
        · (intro W hS; clear hS; go_simp; try (with_reducible rfl))
        refine wpAnyH_take (i := 9) (v := ?_) rfl (by kernel_rfl) (by kernel_rfl) (by kernel_rfl) (fun _ _ _ h => h) (Or.inl ⟨by kernel_rfl, ?_⟩) C ?_
        rotate_left
        · (intro W hS; have hcv := hS.conv s.size HL.out.2.1 cap s HL.out.1; clear hS; go_simp; try (with_reducible rfl))
        refine wpAnyH_take (i := 10) (v := ?_) rfl (by kernel_rfl) (by kernel_rfl) (by kernel_rfl) (fun _ _ _ h => h) (Or.inl ⟨by kernel_rfl, ?_⟩) C ?_
        rotate_left
        · (intro W hS; clear hS; go_simp; try (with_reducible rfl))
        refine wpAnyH_take (i := 11) (v := ?_) rfl (by kernel_rfl) (by kernel_rfl) (by kernel_rfl) (fun _ _ _ h => h) (Or.inl ⟨by kernel_rfl, ?_⟩) C ?_
        rotate_left
        · (intro W hS; clear hS; go_simp; try (with_reducible rfl))
        refine wpAnyH_ready (rs := [4]) (by kernel_rfl) (by simp) ?_
        refine AllReadyH.cons rfl (fun K hK => ?_) AllReadyH.nil
        go_simp
        refine (sum_any s HL.out.2.2.1 _).mono ?_
        rintro e W2 ⟨rfl, hb⟩
        have C := C.call hb
        refine hK.out _ _ C (fun _ => ?_)
        clear hK K hb
        refine wpAnyH_ready (rs := [6]) (by kernel_rfl) (by simp) ?_
        refine AllReadyH.cons rfl (fun K hK => ?_) AllReadyH.nil
        go_simp
        refine (sum_any s HL.out.2.2.2 _).mono ?_
        rintro e W3 ⟨rfl, hb⟩
        have C := C.call hb
        refine hK.out _ _ C (fun _ => ?_)
        clear hK K hb
        refine wpAnyH_take (i := 7) (v := ?_) rfl (by kernel_rfl) (by kernel_rfl) (by kernel_rfl) (fun _ _ _ h => h) (Or.inl ⟨by kernel_rfl, ?_⟩) C ?_
        rotate_left
        · (intro W hS; clear hS; go_simp; try (with_reducible rfl))
        refine wpAnyH_take (i := 12) (v := ?_) rfl (by kernel_rfl) (by kernel_rfl) (by kernel_rfl) (fun _ _ _ h => h) (Or.inl ⟨by kernel_rfl, ?_⟩) C ?_
        rotate_left
        · (intro W hS; clear hS; go_simp; try (with_reducible rfl))
        refine wpAnyH_take (i := 13) (v := ?_) rfl (by kernel_rfl) (by kernel_rfl) (by kernel_rfl) (fun _ _ _ h => h) (Or.inl ⟨by kernel_rfl, ?_⟩) C ?_
        rotate_left
        · (intro W hS; clear hS; go_simp; try (with_reducible rfl))
        refine wpAnyH_take (i := 14) (v := ?_) rfl (by kernel_rfl) (by kernel_rfl) (by kernel_rfl) (fun _ _ _ h => h) (Or.inl ⟨by kernel_rfl, ?_⟩) C ?_
        rotate_left
        · (intro W hS; clear hS; go_simp; try (with_reducible rfl))
        refine wpAnyH_done (by kernel_rfl) ?_ _
        go_wp2_with fail
        go_ret
        exact ⟨rfl, C.below⟩
      · have hne : Zc.sum L.data.toList ≠ Zc.sum s.data.toList := fun e => heq (by
          rw [hL, str_data] at e
          rw [hL, Zc.burst_same _ _ _ hps e, str_of])
        obtain ⟨hn1, hn2⟩ := V_ne hne
        have hsl : (L.toList == s.toList) = false := by
          have : L.toList ≠ s.toList := fun e => heq (Go.WideShapes.bytes_inj (by rwa [toList_data, toList_data] at e))
          simpa using this
        clear hL hne hn1
        go_wp2_with fail
        have C : BuS w (Zc.turned s.data.toList p x 32) wr.drew := ⟨H.out.1, H.out.2.drew⟩
        refine wp_region_held (S := BuS w (Zc.turned s.data.toList p x 32)) (by kernel_rfl) ?_
        change wpAnyH _ _ _ _ _ _ _ _ (World.drew _)
        generalize World.drew _ = wh at *
        refine wpAnyH_ready (rs := [0]) (by kernel_rfl) (by simp) ?_
        refine AllReadyH.cons rfl (fun K hK => ?_) AllReadyH.nil
        go_simp
        refine (awake_any _).mono ?_
        rintro e W1 ⟨rfl, hb⟩
        have C := C.call hb
        refine hK.out _ _ C (fun _ => ?_)
        clear hK K hb
        refine wpAnyH_take (i := 1) (v := ?_) rfl (by kernel_rfl) (by kernel_rfl) (by kernel_rfl) (fun _ _ _ h => h) (Or.inl ⟨by kernel_rfl, ?_⟩) C ?_
        rotate_left
        · (intro W hS; clear hS; go_simp; try (with_reducible rfl))
        refine wpAnyH_take (i := 2) (v := ?_) rfl (by kernel_rfl) (by kernel_rfl) (by kernel_rfl) (fun _ _ _ h => h) (Or.inl ⟨by kernel_rfl, ?_⟩) C ?_
        rotate_left
        · (intro W hS; clear hS; go_simp; try (with_reducible rfl))
        refine wpAnyH_take (i := 3) (v := ?_) rfl (by kernel_rfl) (by kernel_rfl) (by kernel_rfl) (fun _ _ _ h => h) (Or.inl ⟨by kernel_rfl, ?_⟩) C ?_
        rotate_left
        · (intro W hS; have hcv := hS.conv s.size HL.out.2.1 cap L HL.out.1; clear hS; go_simp; try (with_reducible rfl))
        refine wpAnyH_take (i := 5) (v := ?_) rfl (by kernel_rfl) (by kernel_rfl) (by kernel_rfl) (fun _ _ _ h => h) (Or.inl ⟨by kernel_rfl, ?_⟩) C ?_
        rotate_left
        · (intro W hS; clear hS; go_simp; try (with_reducible rfl))
        refine wpAnyH_take (i := 8) (v := ?_) rfl (by kernel_rfl) (by kernel_rfl) (by kernel_rfl) (fun _ _ _ h => h) (Or.inl ⟨by kernel_rfl, ?_⟩) C ?_
        rotate_left
        · (intro W hS; clear hS; go_simp; try (with_reducible rfl))
        refine wpAnyH_take (i := 9) (v := ?_) rfl (by kernel_rfl) (by kernel_rfl) (by kernel_rfl) (fun _ _ _ h => h) (Or.inl ⟨by kernel_rfl, ?_⟩) C ?_
        rotate_left
        · (intro W hS; have hcv := hS.conv s.size HL.out.2.1 cap L HL.out.1; clear hS; go_simp; try (with_reducible rfl))
        refine wpAnyH_take (i := 10) (v := ?_) rfl (by kernel_rfl) (by kernel_rfl) (by kernel_rfl) (fun _ _ _ h => h) (Or.inl ⟨by kernel_rfl, ?_⟩) C ?_
        rotate_left
        · (intro W hS; clear hS; go_simp; try (with_reducible rfl))
        refine wpAnyH_take (i := 11) (v := ?_) rfl (by kernel_rfl) (by kernel_rfl) (by kernel_rfl) (fun _ _ _ h => h) (Or.inl ⟨by kernel_rfl, ?_⟩) C ?_
        rotate_left
        · (intro W hS; clear hS; go_simp; try (with_reducible rfl))
        refine wpAnyH_ready (rs := [4]) (by kernel_rfl) (by simp) ?_
        refine AllReadyH.cons rfl (fun K hK => ?_) AllReadyH.nil
        go_simp
        refine (sum_any L HL.out.2.2.1 _).mono ?_
        rintro e W2 ⟨rfl, hb⟩
        have C := C.call hb
        refine hK.out _ _ C (fun _ => ?_)
        clear hK K hb
        refine wpAnyH_ready (rs := [6]) (by kernel_rfl) (by simp) ?_
        refine AllReadyH.cons rfl (fun K hK => ?_) AllReadyH.nil
        go_simp
        refine (sum_any s HL.out.2.2.2 _).mono ?_
        rintro e W3 ⟨rfl, hb⟩
        have C := C.call hb
        refine hK.out _ _ C (fun _ => ?_)
        clear hK K hb
        refine wpAnyH_take (i := 7) (v := ?_) rfl (by kernel_rfl) (by kernel_rfl) (by kernel_rfl) (fun _ _ _ h => h) (Or.inl ⟨by kernel_rfl, ?_⟩) C ?_
        rotate_left
        · (intro W hS; clear hS; go_simp; try (with_reducible rfl))
        refine wpAnyH_take (i := 12) (v := ?_) rfl (by kernel_rfl) (by kernel_rfl) (by kernel_rfl) (fun _ _ _ h => h) (Or.inl ⟨by kernel_rfl, ?_⟩) C ?_
        rotate_left
        · (intro W hS; clear hS; go_simp; try (with_reducible rfl))
        refine wpAnyH_take (i := 13) (v := ?_) rfl (by kernel_rfl) (by kernel_rfl) (by kernel_rfl) (fun _ _ _ h => h) (Or.inl ⟨by kernel_rfl, ?_⟩) C ?_
        rotate_left
        · (intro W hS; clear hS; go_simp; try (with_reducible rfl))
        refine wpAnyH_take (i := 14) (v := ?_) rfl (by kernel_rfl) (by kernel_rfl) (by kernel_rfl) (fun _ _ _ h => h) (Or.inl ⟨by kernel_rfl, ?_⟩) C ?_
        rotate_left
        · (intro W hS; clear hS; go_simp; try (with_reducible rfl))
        refine wpAnyH_done (by kernel_rfl) ?_ _
        go_wp2_with fail
        go_ret
        exact ⟨rfl, C.below⟩
end Go.Proofs.Ytnpdmkgefaobeaa

namespace Go.Proofs.Ytnpdmkgefaobeaa.crcBurstLaw
open Go.ChangeShapes Go.WideShapes Go.ChangeAt Go.RowKit
open Go.ChangeMaps (open_string shut_string)

theorem own : ownKnob Try.prog.godebug = none := by kernel_rfl
set_option maxRecDepth 100000 in
theorem lifted (os : Os) (started : os.Started) (H : Type) (enc : TypeId × Value → H) :
    ReturnsInHanded {} Try.checked os 10 .any (Rows.crcBurstSpec.pre6 enc Try.prog Try.f10 Rows.crcBurstRow.domain false) (Rows.crcBurstSpec.post enc Try.prog Try.f10 false true false false) := by
  refine returnsInHanded_of_change (C := Try.checked) own started (by kernel_rfl) Try.func10
    (ChangeSpec.witness6 (enc := enc) (C := Try.checked) false ⟨#[], #[.string ⟨#[]⟩, .int .i64 0, .int .u32 0], []⟩ 8 (by kernel_rfl) (by kernel_rfl) (by kernel_rfl) (by kernel_rfl)) ?_
  intro W base args ds gs before hval0 hW hcnd _
  have hval : ∀ (j : Nat) t v, Try.f10.params[j]? = some t → args[j]? = some v → Value.okWide Try.prog W .any base t v := hval0
  have hW' := hW
  obtain ⟨p, q, hA0, hV, rfl, hfz, hnd⟩ := hW
  have hA : DataW.TrodAll enc Try.prog W 0 (fun _ => true) true Try.f10.params.toList args.toList ds p := hA0
  rw [Try.params10] at hA hval
  obtain ⟨v0, vs0, d0, ds0, p0, q0, hargs, rfl, rfl, h0, r0⟩ := trodAll_cons hA
  obtain ⟨v1, vs1, d1, ds1, p1, q1, rfl, rfl, rfl, h1, r1⟩ := trodAll_cons r0
  obtain ⟨v2, vs2, d2, ds2, p2, q2, rfl, rfl, rfl, h2, r2⟩ := trodAll_cons r1
  obtain ⟨rfl, rfl, rfl⟩ := trodAll_nil r2
  obtain rfl : args = #[v0, v1, v2] := by cases args; simp_all
  obtain ⟨rfl, rfl⟩ := trodVars_none hV
  obtain ⟨s0, rfl, rfl, rfl, ws0⟩ := open_string Try.underlying9 (hval 0 9 v0 rfl rfl) h0
  obtain ⟨n1, rfl, rfl, rfl, ws1⟩ := open_int Try.underlying3 (hval 1 3 v1 rfl rfl) h1
  have hbd1 := ws1
  simp only [Lit.wf, Bool.and_eq_true, decide_eq_true_eq] at hbd1
  obtain ⟨n2, rfl, rfl, rfl, ws2⟩ := open_int Try.underlying22 (hval 2 22 v2 rfl rfl) h2
  obtain ⟨x2, rfl⟩ := u32_of ws2
  clear hA0 hval0
  simp only [List.append_nil] at hW'
  refine (burst_law s0 (by simpa using ws0) n1 hbd1.1 hbd1.2 x2 (w := W)).mono fun e W' ⟨he, hb⟩ => ?_
  subst he
  exact ⟨_, rfl, _, _, _, [], [], [], hW', trodAll_cons_mk (shut_bool Try.underlying4 _) trodAll_mk0, (trodAll_cons_mk (shut_string Try.underlying9 ws0) (trodAll_cons_mk (shut_int Try.underlying3 ws1) (trodAll_cons_mk (shut_int Try.underlying22 ws2) trodAll_mk0))), rfl, hb.frame _, fun h => by cases h⟩
theorem over : Rows.crcBurstRow.holds Try.pinned (OpenSpec.ofChange Rows.crcBurstSpec) :=
  OpenClaim.holds_of_wide 10 Try.f10 rfl rfl rfl rfl rfl rfl rfl ⟨rfl, rfl, rfl, rfl, rfl⟩ rfl rfl rfl rfl rfl (by kernel_rfl) Try.func10 (by kernel_rfl)
    (of_decide_eq_true (by kernel_rfl)) (by unfold Func.isWrapper; first | (rw [if_pos (by decide +kernel)]; kernel_rfl) | (rw [if_neg (by decide +kernel)]; exact ⟨rfl, rfl⟩))
    (fun os started H enc _ => lifted os started H enc)
end Go.Proofs.Ytnpdmkgefaobeaa.crcBurstLaw

namespace Go.Proofs.Ytnpdmkgefaobeaa
theorem crcBurst_said : Rows.CrcBurstSaid := crcBurstLaw.over
end Go.Proofs.Ytnpdmkgefaobeaa
