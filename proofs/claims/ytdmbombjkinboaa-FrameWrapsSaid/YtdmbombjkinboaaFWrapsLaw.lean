/- PROVED HERE: for every text the law FrameWraps returns true (the frame of any body, or the error, and how long it is, are as the reference defines them), and the text reads afterwards as it did. No condition. -/
import Derived.Test.YtdmbombjkinboaaFAwake
import Derived.Test.YtdmbombjkinboaaRows
import Derived.ProofKit
import Derived.OpenShut
namespace Go.Proofs.Ytdmbombjkinboaa
open Go.RowKit
open Fr

set_option maxHeartbeats 1000000 in
theorem fwraps_law (s : ByteArray) (_ : s.size ≤ maxLen) (w : World) :
    Calls Try.prog 3 #[.string s] w fun e w' => e = .returned (.bool true) ∧ Below w.heap.size w w' := by
  by_cases hbig : (2000 : Int) < s.size
  · go_enter Try.func3, Try.ntmps3
    go_wp2_with fail
    refine (awake_f _).mono ?_
    rintro e w1 ⟨rfl, h1⟩
    go_wp2_with fail
    go_ret
    exact ⟨rfl, h1⟩
  · have hX := wrap_any s (by omega)
    have hY := rwrap_any s (by omega)
    have hZ := long_any s (by omega)
    obtain ⟨S, hS⟩ : ∃ S, S = wrapS s := ⟨_, rfl⟩
    obtain ⟨E, hE⟩ : ∃ E, E = wrapE s := ⟨_, rfl⟩
    rw [← hS, ← hE] at hX hY
    rw [← hS] at hZ
    have heq : (S.toList == S.toList) = true := by simp
    have HX := Lib.hid (And.intro hX (And.intro hY hZ))
    clear hX hY hZ hS hE
    go_enter Try.func3, Try.ntmps3
    go_wp2_with fail
    refine (HX.out.1 _).mono ?_
    rintro e w1 ⟨rfl, h1⟩
    have H1 := Lib.hid h1
    clear h1
    go_wp2_with fail
    refine (HX.out.2.1 _).mono ?_
    rintro e w2 ⟨rfl, h2⟩
    have H2 := Lib.hid (below_call H1.out h2)
    clear h2
    go_wp2_with fail
    refine (awake_f _).mono ?_
    rintro e w3 ⟨rfl, h3⟩
    have H3 := Lib.hid (below_call H2.out h3)
    clear h3
    go_wp2_with fail
    refine (HX.out.2.2 _).mono ?_
    rintro e w4 ⟨rfl, rfl⟩
    go_wp2_with fail
    go_ret
    exact ⟨rfl, H3.out⟩
end Go.Proofs.Ytdmbombjkinboaa

namespace Go.Proofs.Ytdmbombjkinboaa.frameWrapsLaw
open Go.ChangeShapes Go.WideShapes Go.ChangeAt Go.RowKit
open Go.ChangeMaps (open_string shut_string)

theorem own : ownKnob Try.prog.godebug = none := by kernel_rfl
set_option maxRecDepth 100000 in
theorem lifted (os : Os) (started : os.Started) (H : Type) (enc : TypeId × Value → H) :
    ReturnsInHanded {} Try.checked os 3 .any (Rows.frameWrapsSpec.pre6 enc Try.prog Try.f3 Rows.frameWrapsRow.domain false) (Rows.frameWrapsSpec.post enc Try.prog Try.f3 false true false false) := by
  refine returnsInHanded_of_change (C := Try.checked) own started (by kernel_rfl) Try.func3
    (ChangeSpec.witness6 (enc := enc) (C := Try.checked) false ⟨#[], #[.string ⟨#[]⟩], []⟩ 8 (by kernel_rfl) (by kernel_rfl) (by kernel_rfl) (by kernel_rfl)) ?_
  intro W base args ds gs before hval0 hW hcnd _
  have hval : ∀ (j : Nat) t v, Try.f3.params[j]? = some t → args[j]? = some v → Value.okWide Try.prog W .any base t v := hval0
  have hW' := hW
  obtain ⟨p, q, hA0, hV, rfl, hfz, hnd⟩ := hW
  have hA : DataW.TrodAll enc Try.prog W 0 (fun _ => true) true Try.f3.params.toList args.toList ds p := hA0
  rw [Try.params3] at hA hval
  obtain ⟨v0, vs0, d0, ds0, p0, q0, hargs, rfl, rfl, h0, r0⟩ := trodAll_cons hA
  obtain ⟨rfl, rfl, rfl⟩ := trodAll_nil r0
  obtain rfl : args = #[v0] := by cases args; simp_all
  obtain ⟨rfl, rfl⟩ := trodVars_none hV
  obtain ⟨s0, rfl, rfl, rfl, ws0⟩ := open_string Try.underlying9 (hval 0 9 v0 rfl rfl) h0
  clear hA0 hval0
  simp only [List.append_nil] at hW'
  refine (fwraps_law s0 (by simpa using ws0) (w := W)).mono fun e W' ⟨he, hb⟩ => ?_
  subst he
  exact ⟨_, rfl, _, _, _, [], [], [], hW', trodAll_cons_mk (shut_bool Try.underlying4 _) trodAll_mk0, (trodAll_cons_mk (shut_string Try.underlying9 ws0) trodAll_mk0), rfl, hb.frame _, fun h => by cases h⟩
theorem over : Rows.frameWrapsRow.holds Try.pinned (OpenSpec.ofChange Rows.frameWrapsSpec) :=
  OpenClaim.holds_of_wide 3 Try.f3 rfl rfl rfl rfl rfl rfl rfl ⟨rfl, rfl, rfl, rfl, rfl⟩ rfl rfl rfl rfl rfl (by kernel_rfl) Try.func3 (by kernel_rfl)
    (of_decide_eq_true (by kernel_rfl)) (by unfold Func.isWrapper; first | (rw [if_pos (by decide +kernel)]; kernel_rfl) | (rw [if_neg (by decide +kernel)]; exact ⟨rfl, rfl⟩))
    (fun os started H enc _ => lifted os started H enc)
end Go.Proofs.Ytdmbombjkinboaa.frameWrapsLaw

namespace Go.Proofs.Ytdmbombjkinboaa
theorem frameWraps_said : Rows.FrameWrapsSaid := frameWrapsLaw.over
end Go.Proofs.Ytdmbombjkinboaa
