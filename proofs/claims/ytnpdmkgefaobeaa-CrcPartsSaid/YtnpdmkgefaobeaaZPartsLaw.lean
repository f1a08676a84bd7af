/- PROVED HERE: for every list of texts the law CrcParts returns true (in whichever parts bytes come, their sum is one), and the list reads afterwards as it did. No condition. -/
import Derived.Test.YtnpdmkgefaobeaaZRef
import Derived.Test.YtnpdmkgefaobeaaStrs
import Derived.Test.YtnpdmkgefaobeaaRows
import Derived.Deep.QuietTactic
import Derived.BigQuiet
namespace Go.Proofs.Ytnpdmkgefaobeaa
open Go.RowKit

theorem more_sum (A x : ByteArray) : Zc.more (Zc.sum A.data.toList) x.data.toList = Zc.sum (A ++ x).data.toList := by
  rw [Zc.sum, Zc.more_more, data_append]; rfl
set_option maxRecDepth 100000 in
set_option maxHeartbeats 400000 in
theorem parts_law (ss : List ByteArray) (a0 : Option Addr) (cap : Nat) (w : World) (hT : TextsAt w a0 ss) (hm : ss.length ≤ maxLen) :
    Calls Try.prog 5 #[.slice a0 ss.length cap] w fun e w' => e = .returned (.bool true) ∧ Below w.heap.size w w' := by
  unfold maxLen at hm
  obtain ⟨n, hn⟩ : ∃ n, n = ss.length := ⟨_, rfl⟩
  have HT := Lib.hid hT
  clear hT
  rw [← hn] at hm ⊢
  by_cases hbig : (20 : Int) < n
  · clear hn
    go_enter Try.func5, Try.ntmps5
    go_wp2_with fail
    refine (awake_any _).mono ?_
    rintro e w1 ⟨rfl, h1⟩
    go_wp2_with fail
    go_ret
    exact ⟨rfl, h1⟩
  · have HN := Lib.hid hn
    clear hn
    go_enter Try.func5, Try.ntmps5
    go_wp2_with fail
    go_loopw [3, 4, 5] (fun s a i wr => ∃ (k : Nat) (A : ByteArray), k ≤ n ∧ i = .int .i64 k ∧ a = .string A ∧ s = .int .u32 (V (Zc.sum A.data.toList)) ∧ A.size ≤ 300 * k ∧ Below w.heap.size w wr) (fun _ _ i _ => n - (intOf i).toNat)
    case atStart => exact ⟨0, ByteArray.empty, by omega, rfl, rfl, rfl, by decide, Below.refl _ _⟩
    case round =>
      obtain ⟨k, A, hk, rfl, rfl, rfl, hA, hb⟩ := hrel
      by_cases hlt : k < n
      · obtain ⟨b, off, rfl, hbl, hc⟩ := (HT.out.below hb) k (by have := HN.out; omega)
        obtain ⟨x, hx⟩ : ∃ x, x = ss.getD k ByteArray.empty := ⟨_, rfl⟩
        rw [← hx] at hc
        clear hx
        have HB := Lib.hid hb
        clear hb
        by_cases hlong : (300 : Int) < x.size
        · go_wp2_with fail
          refine (awake_any _).mono ?_
          rintro e w1 ⟨rfl, h1⟩
          go_wp2_with fail
          go_ret
          exact ⟨rfl, below_call HB.out h1⟩
        · have HM := Lib.hid (And.intro (more_sum A x) (show (A ++ x).size ≤ 300 * (k + 1) by rw [ByteArray.size_append]; omega))
          go_wp2_with fail
          refine (more_any _ x (by unfold maxLen; omega) _).mono ?_
          rintro e w1 ⟨rfl, h1⟩
          rw [HM.out.1]
          have hc1 : w1.cell? ⟨b, off + k, none⟩ = some (.string x) := by rw [h1.cell (p := ⟨b, off + k, none⟩) hbl]; exact hc
          have H1 := Lib.hid (below_call HB.out h1)
          clear h1 hc hbl
          go_wp2_with fail
          go_roundw
          case rel => exact ⟨k + 1, A ++ x, by omega, by go_num, rfl, rfl, HM.out.2, H1.out⟩
          case measure => simp [intOf]; omega
      · obtain rfl : k = n := by omega
        have HB := Lib.hid hb
        clear hb
        go_wp2_with fail
        refine (awake_any _).mono ?_
        rintro e w1 ⟨rfl, h1⟩
        go_wp2_with fail
        refine (sum_any A (by unfold maxLen; omega) _).mono ?_
        rintro e w2 ⟨rfl, h2⟩
        go_wp2_with fail
        refine (rsum_any A (by unfold maxLen; omega) _).mono ?_
        rintro e w3 ⟨rfl, rfl⟩
        go_wp2_with fail
        go_ret
        exact ⟨rfl, below_call (below_call HB.out h1) h2⟩
end Go.Proofs.Ytnpdmkgefaobeaa

namespace Go.Proofs.Ytnpdmkgefaobeaa.crcPartsLaw
open Go.ChangeShapes Go.WideShapes Go.ChangeAt Go.RowKit
open Go.ChangeMaps (open_string shut_string)

theorem own : ownKnob Try.prog.godebug = none := by kernel_rfl
set_option maxRecDepth 100000 in
theorem lifted (os : Os) (started : os.Started) (H : Type) (enc : TypeId × Value → H) :
    ReturnsInHanded {} Try.checked os 5 .any (Rows.crcPartsSpec.pre6 enc Try.prog Try.f5 Rows.crcPartsRow.domain false) (Rows.crcPartsSpec.post enc Try.prog Try.f5 false true false false) := by
  refine returnsInHanded_of_change (C := Try.checked) own started (by kernel_rfl) Try.func5
    (ChangeSpec.witness6 (enc := enc) (C := Try.checked) false ⟨#[], #[.slice none 0 0], []⟩ 8 (by kernel_rfl) (by kernel_rfl) (by kernel_rfl) (by kernel_rfl)) ?_
  intro W base args ds gs before hval0 hW hcnd _
  have hval : ∀ (j : Nat) t v, Try.f5.params[j]? = some t → args[j]? = some v → Value.okWide Try.prog W .any base t v := hval0
  have hW' := hW
  obtain ⟨p, q, hA0, hV, rfl, hfz, hnd⟩ := hW
  have hA : DataW.TrodAll enc Try.prog W 0 (fun _ => true) true Try.f5.params.toList args.toList ds p := hA0
  rw [Try.params5] at hA hval
  obtain ⟨v0, vs0, d0, ds0, p0, q0, hargs, rfl, rfl, h0, r0⟩ := trodAll_cons hA
  obtain ⟨rfl, rfl, rfl⟩ := trodAll_nil r0
  obtain rfl : args = #[v0] := by cases args; simp_all
  obtain ⟨rfl, rfl⟩ := trodVars_none hV
  obtain ⟨a0, len0, cap0, rfl⟩ := okWide_slice Try.underlying31 (hval 0 31 v0 rfl rfl)
  have hk0 := h0
  obtain ⟨fuel0, hf0⟩ := h0
  clear hA0 hval0
  simp only [List.append_nil] at hW'
  have hlt0 : ∀ x ∈ p0, x.block < W.heap.size := fun x hx => by simpa using hW'.lt x (by simp [hx])
  obtain ⟨ss0, hlen0, hmax0, hT0⟩ := texts_of hf0 hlt0
  subst hlen0
  refine (parts_law ss0 a0 cap0 hT0 hmax0 (w := W)).mono fun e W' ⟨he, hb⟩ => ?_
  subst he
  exact ⟨_, rfl, _, _, _, [], _, [], hW', trodAll_cons_mk (shut_bool Try.underlying4 _) trodAll_mk0, (trodAll_cons_mk (Below.trod laidOut (by kernel_rfl) (of_decide_eq_true (by kernel_rfl)) hk0 hb hlt0) trodAll_mk0), rfl, hb.frame _, fun h => by cases h⟩
theorem over : Rows.crcPartsRow.holds Try.pinned (OpenSpec.ofChange Rows.crcPartsSpec) :=
  OpenClaim.holds_of_wide 5 Try.f5 rfl rfl rfl rfl rfl rfl rfl ⟨rfl, rfl, rfl, rfl, rfl⟩ rfl rfl rfl rfl rfl (by kernel_rfl) Try.func5 (by kernel_rfl)
    (of_decide_eq_true (by kernel_rfl)) (by unfold Func.isWrapper; first | (rw [if_pos (by decide +kernel)]; kernel_rfl) | (rw [if_neg (by decide +kernel)]; exact ⟨rfl, rfl⟩))
    (fun os started H enc _ => lifted os started H enc)
end Go.Proofs.Ytnpdmkgefaobeaa.crcPartsLaw

namespace Go.Proofs.Ytnpdmkgefaobeaa
theorem crcParts_said : Rows.CrcPartsSaid := crcPartsLaw.over
end Go.Proofs.Ytnpdmkgefaobeaa
