/- PROVED HERE: for every number the law FrameLimits returns true (of bodies of 32,760 to 32,775 bytes just those of up to 32,768 have a frame, and are found in it), and it reads afterwards as it did. No condition. -/
import Derived.Test.YtdmbombjkinboaaFAwake
import Derived.Test.YtdmbombjkinboaaRows
import Derived.ProofKit
import Derived.OpenShut
namespace Go.Proofs.Ytdmbombjkinboaa
open Go.RowKit
open Fr

theorem cat_nil (b : ByteArray) : b ++ (⟨#[]⟩ : ByteArray) = b := by
  apply Go.WideShapes.bytes_inj
  rw [ByteArray.data_append]
  simp
set_option maxRecDepth 100000 in
set_option maxHeartbeats 1000000 in
theorem flimits_law (n : Int) (_ : -9223372036854775808 ≤ n) (_ : n ≤ 9223372036854775807) (w : World) :
    Calls Try.prog 8 #[.int .i64 n] w fun e w' => e = .returned (.bool true) ∧ Below w.heap.size w w' := by
  obtain ⟨t, ht⟩ : ∃ t, n.tmod 16 = t := ⟨_, rfl⟩
  have ht1 : -16 < t ∧ t < 16 := by subst ht; rw [Int.tmod_eq_emod]; split <;> omega
  obtain ⟨ht1, ht2⟩ := ht1
  obtain ⟨k, hk⟩ : ∃ k : Nat, (t + 16) % 16 = k := ⟨((t + 16) % 16).toNat, by omega⟩
  have hk2 : (k : Int) < 16 := by omega
  obtain ⟨m, hm⟩ : ∃ m : Nat, m = 32760 + k := ⟨_, rfl⟩
  have hm' : (32760 : Int) + (k : Int) = (m : Int) := by omega
  obtain ⟨w1, hmk, hown, hb1⟩ := make_bytes w m (by omega)
  have hcv := hown.conv
  rw [List.length_replicate] at hcv
  obtain ⟨B, hB⟩ : ∃ B, B = str (List.replicate m 0) := ⟨_, rfl⟩
  rw [← hB] at hcv
  have hsz : B.size = m := by rw [hB, str_size, List.length_replicate]
  have hm1 : (m : Int) ≤ 32775 := by omega
  have hX := wrap_any B (by omega)
  have hL := long_any B (by omega)
  by_cases hbig : (32768 : Int) < m
  · have e1 : wrapE B = 2 := by unfold wrapE; rw [if_neg (by omega), if_pos (by omega)]
    have e2 : wrapS B = ⟨#[]⟩ := wrapS_no (by rw [e1]; decide)
    rw [e1, e2] at hX
    rw [e2, show ((⟨#[]⟩ : ByteArray).size : Int) = 0 from rfl] at hL
    have HX := Lib.hid (And.intro hX (And.intro hL hb1))
    clear hX hL hb1 e1 e2 hB hown hsz hm
    go_enter Try.func8, Try.ntmps8
    go_wp2_with fail
    refine (HX.out.1 _).mono ?_
    rintro e w2 ⟨rfl, h2⟩
    have H2 := Lib.hid (below_call HX.out.2.2 h2)
    clear h2
    go_wp2_with fail
    refine (awake_f _).mono ?_
    rintro e w3 ⟨rfl, h3⟩
    have H3 := Lib.hid (below_call H2.out h3)
    clear h3
    go_wp2_with fail
    refine (HX.out.2.1 _).mono ?_
    rintro e w4 ⟨rfl, rfl⟩
    go_wp2_with fail
    go_ret
    exact ⟨rfl, H3.out⟩
  · have hmay : may B.data.toList := may_size.2 (by omega)
    obtain ⟨f1, f2, f3⟩ := fr_frm hmay ⟨#[]⟩
    rw [cat_nil] at f1 f2 f3
    have hs1 : ((wrapS B).size : Int) = (m : Int) + 8 := by rw [wrapS_ok hmay, str_size, frm_length]; simp; omega
    have hF := front_any (wrapS B) (by omega)
    rw [f1, f2, f3] at hF
    rw [wrapE_ok hmay] at hX
    rw [hs1] at hL
    obtain ⟨S, hS⟩ : ∃ S, S = wrapS B := ⟨_, rfl⟩
    rw [← hS] at hX hF
    have heqB : (B.toList == B.toList) = true := by simp
    have HX := Lib.hid (And.intro hX (And.intro hL (And.intro hF hb1)))
    clear hX hL hb1 hB hown hsz hm hS hF f1 f2 f3 hs1 hmay
    go_enter Try.func8, Try.ntmps8
    go_wp2_with fail
    refine (HX.out.1 _).mono ?_
    rintro e w2 ⟨rfl, h2⟩
    have H2 := Lib.hid (below_call HX.out.2.2.2 h2)
    clear h2
    go_wp2_with fail
    refine (HX.out.2.2.1 _).mono ?_
    rintro e w3 ⟨rfl, h3⟩
    have H3 := Lib.hid (below_call H2.out h3)
    clear h3
    go_wp2_with fail
    refine (awake_f _).mono ?_
    rintro e w4 ⟨rfl, h4⟩
    have H4 := Lib.hid (below_call H3.out h4)
    clear h4
    go_wp2_with fail
    refine (HX.out.2.1 _).mono ?_
    rintro e w5 ⟨rfl, rfl⟩
    go_wp2_with fail
    go_ret
    exact ⟨rfl, H4.out⟩
end Go.Proofs.Ytdmbombjkinboaa

namespace Go.Proofs.Ytdmbombjkinboaa.frameLimitsLaw
open Go.ChangeShapes Go.WideShapes Go.ChangeAt Go.RowKit
open Go.ChangeMaps (open_string shut_string)

theorem own : ownKnob Try.prog.godebug = none := by kernel_rfl
set_option maxRecDepth 100000 in
theorem lifted (os : Os) (started : os.Started) (H : Type) (enc : TypeId × Value → H) :
    ReturnsInHanded {} Try.checked os 8 .any (Rows.frameLimitsSpec.pre6 enc Try.prog Try.f8 Rows.frameLimitsRow.domain false) (Rows.frameLimitsSpec.post enc Try.prog Try.f8 false true false false) := by
  refine returnsInHanded_of_change (C := Try.checked) own started (by kernel_rfl) Try.func8
    (ChangeSpec.witness6 (enc := enc) (C := Try.checked) false ⟨#[], #[.int .i64 0], []⟩ 8 (by kernel_rfl) (by kernel_rfl) (by kernel_rfl) (by kernel_rfl)) ?_
  intro W base args ds gs before hval0 hW hcnd _
  have hval : ∀ (j : Nat) t v, Try.f8.params[j]? = some t → args[j]? = some v → Value.okWide Try.prog W .any base t v := hval0
  have hW' := hW
  obtain ⟨p, q, hA0, hV, rfl, hfz, hnd⟩ := hW
  have hA : DataW.TrodAll enc Try.prog W 0 (fun _ => true) true Try.f8.params.toList args.toList ds p := hA0
  rw [Try.params8] at hA hval
  obtain ⟨v0, vs0, d0, ds0, p0, q0, hargs, rfl, rfl, h0, r0⟩ := trodAll_cons hA
  obtain ⟨rfl, rfl, rfl⟩ := trodAll_nil r0
  obtain rfl : args = #[v0] := by cases args; simp_all
  obtain ⟨rfl, rfl⟩ := trodVars_none hV
  obtain ⟨n0, rfl, rfl, rfl, ws0⟩ := open_int Try.underlying3 (hval 0 3 v0 rfl rfl) h0
  have hbd0 := ws0
  simp only [Lit.wf, Bool.and_eq_true, decide_eq_true_eq] at hbd0
  clear hA0 hval0
  simp only [List.append_nil] at hW'
  refine (flimits_law n0 hbd0.1 hbd0.2 (w := W)).mono fun e W' ⟨he, hb⟩ => ?_
  subst he
  exact ⟨_, rfl, _, _, _, [], [], [], hW', trodAll_cons_mk (shut_bool Try.underlying4 _) trodAll_mk0, (trodAll_cons_mk (shut_int Try.underlying3 ws0) trodAll_mk0), rfl, hb.frame _, fun h => by cases h⟩
theorem over : Rows.frameLimitsRow.holds Try.pinned (OpenSpec.ofChange Rows.frameLimitsSpec) :=
  OpenClaim.holds_of_wide 8 Try.f8 rfl rfl rfl rfl rfl rfl rfl ⟨rfl, rfl, rfl, rfl, rfl⟩ rfl rfl rfl rfl rfl (by kernel_rfl) Try.func8 (by kernel_rfl)
    (of_decide_eq_true (by kernel_rfl)) (by unfold Func.isWrapper; first | (rw [if_pos (by decide +kernel)]; kernel_rfl) | (rw [if_neg (by decide +kernel)]; exact ⟨rfl, rfl⟩))
    (fun os started H enc _ => lifted os started H enc)
end Go.Proofs.Ytdmbombjkinboaa.frameLimitsLaw

namespace Go.Proofs.Ytdmbombjkinboaa
theorem frameLimits_said : Rows.FrameLimitsSaid := frameLimitsLaw.over
end Go.Proofs.Ytdmbombjkinboaa
