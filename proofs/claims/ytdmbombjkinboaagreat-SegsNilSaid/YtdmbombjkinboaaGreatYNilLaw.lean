/- PROVED HERE: for every text and every number the law SegsNil returns true (a nil store has nothing; one whose disk went down, and came up again, is over), and both read afterwards as they did. No condition. -/
import Derived.Test.YtdmbombjkinboaaGreatYAwake
import Derived.Test.YtdmbombjkinboaaGreatRows
import Derived.ProofKit
import Derived.OpenShut
namespace Go.Proofs.YtdmbombjkinboaaGreat
open Go.RowKit
open Dk Sg Fr

theorem ssegs_nil (w : World) : Calls Tryz.prog 23 #[.pointer none] w fun e w' => e = .returned (.slice none 0 0) ∧ Below w.heap.size w w' := by
  go_enter Tryz.func23, Tryz.ntmps23
  go_wp2_with fail
  go_ret
  exact ⟨rfl, Below.refl _ _⟩
set_option maxRecDepth 100000 in
set_option maxHeartbeats 2000000 in
theorem snil_law (r : ByteArray) (_ : r.size ≤ maxLen) (i : Int) (h0 : -9223372036854775808 ≤ i) (h1 : i ≤ 9223372036854775807) (w : World) :
    Calls Tryz.prog 6 #[.string r, .int .i64 i] w fun e w' => e = .returned (.bool true) ∧ Below w.heap.size w w' := by
  by_cases hr : (1000 : Int) < r.size
  · go_enter Tryz.func6, Tryz.ntmps6
    go_wp2_with fail
    refine (awake_s _).mono ?_
    rintro e w1 ⟨rfl, hb⟩
    go_wp2_with fail
    go_ret
    exact ⟨rfl, hb⟩
  have hr' : (r.size : Int) ≤ 1000 := by omega
  have H := Lib.hid (And.intro h0 h1)
  clear h0 h1 hr
  go_enter Tryz.func6, Tryz.ntmps6
  go_wp2_with fail
  refine (awake_s _).mono ?_
  rintro e w1 ⟨rfl, hb1⟩
  have HB1 := Lib.hid hb1
  clear hb1
  go_wp2_with fail
  refine (sappend_nil r _).mono ?_
  rintro e w2 ⟨rfl, hb2⟩
  have HB2 := Lib.hid (HB1.out.trans (hb2.mono HB1.out.size))
  clear hb2
  go_wp2_with fail
  refine (sget_nil i H.out.1 H.out.2 _).mono ?_
  rintro e w3 ⟨rfl, hb3⟩
  have HB3 := Lib.hid (HB2.out.trans (hb3.mono HB2.out.size))
  clear hb3
  go_wp2_with fail
  refine (ssync_nil _).mono ?_
  rintro e w4 ⟨rfl, hb4⟩
  have HB4 := Lib.hid (HB3.out.trans (hb4.mono HB3.out.size))
  clear hb4
  go_wp2_with fail
  refine (slen_nil _).mono ?_
  rintro e w5 ⟨rfl, rfl⟩
  go_wp2_with fail
  refine (ssure_nil _).mono ?_
  rintro e w5 ⟨rfl, rfl⟩
  go_wp2_with fail
  refine (sleft_nil _).mono ?_
  rintro e w5 ⟨rfl, hb5⟩
  have HB5 := Lib.hid (HB4.out.trans (hb5.mono HB4.out.size))
  clear hb5
  go_wp2_with fail
  refine (sall_nil _).mono ?_
  rintro e w6 ⟨g6, rfl, hb6⟩
  have HB6 := Lib.hid (HB5.out.trans (hb6.mono HB5.out.size))
  clear hb6
  go_wp2_with fail
  refine (ssegs_nil _).mono ?_
  rintro e w7 ⟨rfl, hb7⟩
  have HB7 := Lib.hid (HB6.out.trans (hb7.mono HB6.out.size))
  clear hb7
  go_wp2_with fail
  have hnew := new_any 3 2000 (by decide) (by decide) (by decide) (by decide) w7
  have HN := Lib.hid hnew
  clear hnew
  refine HN.out.mono ?_
  rintro e w8 ⟨b, ρ, rfl, hD, hF, hb8⟩
  have hag := again_any (n := 3) (N := 0) (M := 0) (R := []) hD rfl ⟨_, _, _, _, Img.new (by decide) (by decide), rfl⟩ (by decide) (by decide) (Bud.new (by decide) (by decide) (by decide)) (by decide)
  have H8 := Lib.hid (And.intro hag (Ctx.mk (U := fun _ => False) hb8 (Nat.le_refl _) hF (fun _ _ k => k)))
  clear hag hD hF hb8
  go_wp2_with fail
  refine H8.out.1.mono ?_
  rintro e w9 ⟨s, ρ9, U9, D9, S9, rfl, hst⟩
  have hc9 := H8.out.2.new hst.touch hst.new
  have hfd := failD_any hst.at_.disk (hst.bud.small (by decide)) 0 0
  have H9 := Lib.hid (And.intro hfd (And.intro hst hc9))
  clear hfd hst hc9
  go_wp2_with fail
  refine H9.out.1.mono ?_
  rintro e wa ⟨rfl, ρa, hDa, hta⟩
  have hsa := sat_disk H9.out.2.1.at_ hDa (TouchX.of hta)
  have hca := H9.out.2.2.touch (TouchX.of hta) H9.out.2.2.own
  have Ha := Lib.hid (And.intro (up_any hDa) (And.intro hsa hca))
  clear hDa hta hsa hca
  go_wp2_with fail
  refine Ha.out.1.mono ?_
  rintro e wb ⟨rfl, hDb, htb⟩
  have htb' := TouchX.of (X := fun _ => False) (htb.mono (R' := RA) fun r e => by rw [e]; unfold RA; decide)
  have hsb := sat_disk Ha.out.2.1 hDb htb'
  have hcb := Ha.out.2.2.touch htb' Ha.out.2.2.own
  have hfell : fellS (D9.fail 0 0).up S9 = true := by
    unfold fellS Disk.fail
    rw [if_neg (by rw [H9.out.2.1.live.up]; decide)]
    show (false || (D9.falls + 1 != S9.falls)) = true
    rw [H9.out.2.1.live.falls]
    simp
    omega
  have hbd : Bud 15 (D9.fail 0 0).up := (H9.out.2.1.bud.fail 0 0).up
  have hap := sappend_any hsb hbd (by decide) (H9.out.2.1.live.fine H9.out.2.1.at_.disk.ok (by decide)) ⟨#[120]⟩ (by decide)
  rw [appendS_fell (by decide) (by decide) hfell] at hap
  have Hb := Lib.hid (And.intro hap (And.intro hcb (And.intro hfell hbd)))
  clear hap hsb hcb hfell hbd hDb htb htb'
  go_wp2_with fail
  refine Hb.out.1.mono ?_
  rintro e wc ⟨rfl, ρc, Uc, hsc, hmc⟩
  have hsy := ssyncp_any hsc Hb.out.2.2.2 (by decide)
  rw [show syncPub (D9.fail 0 0).up S9 = ((D9.fail 0 0).up, S9, 9) from if_pos Hb.out.2.2.1] at hsy
  have Hc := Lib.hid (And.intro hsy (Hb.out.2.1.move hmc))
  clear hsy hsc hmc
  go_wp2_with fail
  refine Hc.out.1.mono ?_
  rintro e wd ⟨rfl, ρd, hsd, hmd⟩
  have hcd := Hc.out.2.move hmd
  have Hd := Lib.hid (HB7.out.trans (hcd.low.mono HB7.out.size))
  clear hsd hmd hcd
  go_wp2_with fail
  go_ret
  exact ⟨rfl, Hd.out⟩
end Go.Proofs.YtdmbombjkinboaaGreat

namespace Go.Proofs.YtdmbombjkinboaaGreat.segsNilLaw
open Go.ChangeShapes Go.WideShapes Go.ChangeAt Go.RowKit
open Go.ChangeMaps (open_string shut_string)

theorem own : ownKnob Tryz.prog.godebug = none := by kernel_rfl
set_option maxRecDepth 100000 in
theorem lifted (os : Os) (started : os.Started) (H : Type) (enc : TypeId × Value → H) :
    ReturnsInHanded {} Tryz.checked os 6 .any (Rows.segsNilSpec.pre6 enc Tryz.prog Tryz.f6 Rows.segsNilRow.domain false) (Rows.segsNilSpec.post enc Tryz.prog Tryz.f6 false true false false) := by
  refine returnsInHanded_of_change (C := Tryz.checked) own started (by kernel_rfl) Tryz.func6
    (ChangeSpec.witness6 (enc := enc) (C := Tryz.checked) false ⟨#[], #[.string ⟨#[]⟩, .int .i64 0], []⟩ 8 (by kernel_rfl) (by kernel_rfl) (by kernel_rfl) (by kernel_rfl)) ?_
  intro W base args ds gs before hval0 hW hcnd _
  have hval : ∀ (j : Nat) t v, Tryz.f6.params[j]? = some t → args[j]? = some v → Value.okWide Tryz.prog W .any base t v := hval0
  have hW' := hW
  obtain ⟨p, q, hA0, hV, rfl, hfz, hnd⟩ := hW
  have hA : DataW.TrodAll enc Tryz.prog W 0 (fun _ => true) true Tryz.f6.params.toList args.toList ds p := hA0
  rw [Tryz.params6] at hA hval
  obtain ⟨v0, vs0, d0, ds0, p0, q0, hargs, rfl, rfl, h0, r0⟩ := trodAll_cons hA
  obtain ⟨v1, vs1, d1, ds1, p1, q1, rfl, rfl, rfl, h1, r1⟩ := trodAll_cons r0
  obtain ⟨rfl, rfl, rfl⟩ := trodAll_nil r1
  obtain rfl : args = #[v0, v1] := by cases args; simp_all
  obtain ⟨rfl, rfl⟩ := trodVars_none hV
  obtain ⟨s0, rfl, rfl, rfl, ws0⟩ := open_string Tryz.underlying9 (hval 0 9 v0 rfl rfl) h0
  obtain ⟨n1, rfl, rfl, rfl, ws1⟩ := open_int Tryz.underlying3 (hval 1 3 v1 rfl rfl) h1
  have hbd1 := ws1
  simp only [Lit.wf, Bool.and_eq_true, decide_eq_true_eq] at hbd1
  clear hA0 hval0
  simp only [List.append_nil] at hW'
  refine (snil_law s0 (by simpa using ws0) n1 hbd1.1 hbd1.2 (w := W)).mono fun e W' ⟨he, hb⟩ => ?_
  subst he
  exact ⟨_, rfl, _, _, _, [], [], [], hW', trodAll_cons_mk (shut_bool Tryz.underlying4 _) trodAll_mk0, (trodAll_cons_mk (shut_string Tryz.underlying9 ws0) (trodAll_cons_mk (shut_int Tryz.underlying3 ws1) trodAll_mk0)), rfl, hb.frame _, fun h => by cases h⟩
theorem over : Rows.segsNilRow.holds Tryz.pinned (OpenSpec.ofChange Rows.segsNilSpec) :=
  OpenClaim.holds_of_wide 6 Tryz.f6 rfl rfl rfl rfl rfl rfl rfl ⟨rfl, rfl, rfl, rfl, rfl⟩ rfl rfl rfl rfl rfl (by kernel_rfl) Tryz.func6 (by kernel_rfl)
    (of_decide_eq_true (by kernel_rfl)) (by unfold Func.isWrapper; first | (rw [if_pos (by decide +kernel)]; kernel_rfl) | (rw [if_neg (by decide +kernel)]; exact ⟨rfl, rfl⟩))
    (fun os started H enc _ => lifted os started H enc)
end Go.Proofs.YtdmbombjkinboaaGreat.segsNilLaw

namespace Go.Proofs.YtdmbombjkinboaaGreat
theorem segsNil_said : Rows.SegsNilSaid := segsNilLaw.over
end Go.Proofs.YtdmbombjkinboaaGreat
