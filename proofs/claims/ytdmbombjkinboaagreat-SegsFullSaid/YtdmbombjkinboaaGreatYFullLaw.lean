/- PROVED HERE: for every two numbers the law SegsFull returns true (a full disk takes no more, and keeps what it has: all records are there when it is opened again), and both read afterwards as they did. No condition. -/
import Derived.Test.YtdmbombjkinboaaGreatYAwake
import Derived.Test.YtdmbombjkinboaaGreatMB
import Derived.Test.YtdmbombjkinboaaGreatRows
import Derived.ProofKit
import Derived.OpenShut
namespace Go.Proofs.YtdmbombjkinboaaGreat
open Go.RowKit
open Dk Sg Fr

theorem rem_pos (x : Int) (q : Nat) (hq : 0 < q) : ∃ t : Int, x.tmod (q : Int) = t ∧ -(q : Int) < t ∧ t < (q : Int) ∧ ∃ k : Nat, (t + (q : Int)) % (q : Int) = (k : Int) ∧ k < q := by
  refine ⟨x.tmod (q : Int), rfl, ?_, ?_, ((x.tmod (q : Int) + (q : Int)) % (q : Int)).toNat, ?_, ?_⟩
  · rw [Int.tmod_eq_emod]
    have h1 := Int.emod_nonneg x (show (q : Int) ≠ 0 by omega)
    have h2 := Int.emod_lt_of_pos x (show 0 < (q : Int) by omega)
    split <;> omega
  · rw [Int.tmod_eq_emod]
    have h1 := Int.emod_nonneg x (show (q : Int) ≠ 0 by omega)
    have h2 := Int.emod_lt_of_pos x (show 0 < (q : Int) by omega)
    split <;> omega
  · have := Int.emod_nonneg (x.tmod (q : Int) + (q : Int)) (show (q : Int) ≠ 0 by omega)
    omega
  · have h1 := Int.emod_nonneg (x.tmod (q : Int) + (q : Int)) (show (q : Int) ≠ 0 by omega)
    have h2 := Int.emod_lt_of_pos (x.tmod (q : Int) + (q : Int)) (show 0 < (q : Int) by omega)
    omega
set_option maxRecDepth 100000 in
set_option maxHeartbeats 4000000 in
theorem sfull_law (x : Int) (_ : -9223372036854775808 ≤ x) (_ : x ≤ 9223372036854775807) (y : Int) (_ : -9223372036854775808 ≤ y) (_ : y ≤ 9223372036854775807) (w : World) :
    Calls Tryz.prog 5 #[.int .i64 x, .int .i64 y] w fun e w' => e = .returned (.bool true) ∧ Below w.heap.size w w' := by
  obtain ⟨t, ht, ht1, ht2, k, hk, hk8⟩ := rem_pos x 8 (by decide)
  obtain ⟨u, hu, hu1, hu2, j, hj, hj9⟩ := rem_pos y 900 (by decide)
  obtain ⟨n, hn⟩ : ∃ n : Nat, (3 : Int) + (k : Int) = (n : Int) := ⟨3 + k, by omega⟩
  obtain ⟨m, hm⟩ : ∃ m : Nat, (1 : Int) + (j : Int) = (m : Int) := ⟨1 + j, by omega⟩
  have hn3 : 3 ≤ n := by omega
  have hn10 : n ≤ 10 := by omega
  have hm1 : 1 ≤ m := by omega
  have hm9 : m ≤ 900 := by omega
  have hkk : (k : Int) < 8 := by omega
  have hjj : (j : Int) < 900 := by omega
  simp only [Int.cast_ofNat_Int] at ht ht1 ht2 hk hu hu1 hu2 hj
  have hnew := new_any n 1024 (by omega) (by omega) (by decide) (by decide) w
  have H := Lib.hid (And.intro hnew (And.intro hn3 (And.intro hn10 (And.intro hm1 hm9))))
  clear hnew hn3 hn10 hk8 hj9
  go_enter Tryz.func5, Tryz.ntmps5
  go_wp2_with fail
  refine H.out.1.mono ?_
  rintro e w1 ⟨b, ρ, rfl, hD, hF, hb1⟩
  have H1 := Lib.hid (And.intro hD (And.intro hF hb1))
  clear hD hF hb1 ht hk hn ht1 ht2 hkk
  go_wp2_with fail
  refine (awake_s _).mono ?_
  rintro e w2 ⟨rfl, hb2⟩
  have hag := again_any (n := n) (N := 0) (M := 0) (R := []) (H1.out.1.below hb2) rfl ⟨_, _, _, _, Img.new H.out.2.1 (by have := H.out.2.2.1; omega), rfl⟩ (show (1024 : Int) ≤ 1024 by decide) (by decide) (Bud.new (by have := H.out.2.2.1; omega) (by decide) (by decide)) (by decide)
  have hc2 : Ctx w.heap.size w w2 ρ (fun _ => False) := ⟨H1.out.2.2.trans (hb2.mono H1.out.2.2.size), Nat.le_refl _, H1.out.2.1, fun _ _ k => k⟩
  have H2 := Lib.hid (And.intro hag hc2)
  clear hag hc2 hb2
  go_wp2_with fail
  refine H2.out.1.mono ?_
  rintro e w3 ⟨s, ρ3, U3, D3, S3, rfl, hst⟩
  have hc3 := H2.out.2.new hst.touch hst.new
  obtain ⟨w4, hmk, hown, hb4⟩ := make_bytes w3 m (by have := H.out.2.2.2.2; omega)
  have hcv := hown.conv
  rw [List.length_replicate] at hcv
  obtain ⟨B, hB⟩ : ∃ B, B = str (List.replicate m 0) := ⟨_, rfl⟩
  rw [← hB] at hcv
  have hsz : B.size = m := by rw [hB, str_size, List.length_replicate]
  have hnn : S3.recs = List.replicate 0 B := by rw [hst.recs]; rfl
  have hrm3 : Rm D3 := hst.rm (Rm.new (by decide))
  have H3 := Lib.hid (And.intro (hst.at_.below hb4) (And.intro (hc3.below hb4) (And.intro hst.live (And.intro hnn (And.intro hrm3 (And.intro hst.bud (And.intro hst.room hsz)))))))
  clear hst hc3 hown hb4 hB hsz hnn hrm3
  have hm0 : (0 : Int) < m := by have := H.out.2.2.2.1; omega
  have hm9 : (m : Int) ≤ 900 := by have := H.out.2.2.2.2; omega
  go_wp2_with fail
  clear hcv hmk
  go_loopw [9, 7, 10, 11] (fun iv nv _ _ wr => ∃ i : Nat, i ≤ 2000 ∧ iv = .int .i64 i ∧ nv = .int .i64 i ∧ ∃ ρr Ur Dr Sr, SAt wr ρr Ur s b Dr Sr ∧ Ctx w.heap.size w wr ρr Ur ∧ Live n (2 + i) Dr Sr ∧ Sr.recs = List.replicate i B ∧ Rm Dr ∧ Bud (14 + 5 * i) Dr ∧ Dr.room = 1024) (fun iv _ _ _ _ => 2000 - (intOf iv).toNat)
  case atStart => exact ⟨0, by omega, rfl, rfl, ρ3, U3, D3, S3, H3.out.1, H3.out.2.1, H3.out.2.2.1, H3.out.2.2.2.1, H3.out.2.2.2.2.1, H3.out.2.2.2.2.2.1, H3.out.2.2.2.2.2.2.1⟩
  case round =>
    obtain ⟨i, hi, rfl, rfl, ρr, Ur, Dr, Sr, h1, h2, h3, h4, h5, h6, h7⟩ := hrel
    have hfew := h3.few h5 (by omega) H.out.2.2.1
    rw [h4, List.length_replicate] at hfew
    have hfine := h3.fine h1.disk.ok (by omega)
    have hap := sappend_any h1 h6 (by omega) hfine B (by have := H3.out.2.2.2.2.2.2.2; have := H.out.2.2.2.2; unfold maxLen; omega)
    have hout := h3.append h1.disk.ok (by omega) B
    obtain ⟨q, hq⟩ : ∃ q, q = (appendS Dr Sr B).2.2.2 := ⟨_, rfl⟩
    obtain ⟨p, hp⟩ : ∃ p, p = (appendS Dr Sr B).2.2.1 := ⟨_, rfl⟩
    rw [← hq, ← hp] at hap
    have HR := Lib.hid (And.intro h1 (And.intro h2 (And.intro h3 (And.intro h4 (And.intro h5 (And.intro h6 (And.intro h7 (And.intro hfine (And.intro hap (And.intro hout (And.intro hq hp)))))))))))
    clear h1 h2 h3 h4 h5 h6 h7 hfine hap hout hq hp
    have hlt : (i : Int) < 2000 := by omega
    go_wp2_with fail
    refine HR.out.2.2.2.2.2.2.2.2.1.mono ?_
    rintro e w5 ⟨rfl, ρ5, U5, hs5, hm5⟩
    have hc5 := HR.out.2.1.move hm5
    have H5 := Lib.hid (And.intro hs5 hc5)
    clear hs5 hc5 hm5
    rcases HR.out.2.2.2.2.2.2.2.2.2.1 with ⟨z, -⟩ | ⟨z, -⟩ | ⟨-, -, ⟨z1, z2, z3⟩ | ⟨-, z⟩ | ⟨z1, z2, z3, z4, z5, z6⟩⟩
    · have := H3.out.2.2.2.2.2.2.2; have := H.out.2.2.2.1; omega
    · have := H3.out.2.2.2.2.2.2.2; have := H.out.2.2.2.2; omega
    · -- the disk is full
      have hq6 : q = 6 := by rw [HR.out.2.2.2.2.2.2.2.2.2.2.1, z3]
      have hD5 : (appendS Dr Sr B).1 = Dr := by rw [z3]
      have hS5 : (appendS Dr Sr B).2.1 = Sr := by rw [z3]
      have hs5 := H5.out.1
      rw [hD5, hS5] at hs5
      have hap := sappend_any hs5 HR.out.2.2.2.2.2.1 (by omega) HR.out.2.2.2.2.2.2.2.1 B (by have := H3.out.2.2.2.2.2.2.2; have := H.out.2.2.2.2; unfold maxLen; omega)
      rw [z3] at hap
      have HF := Lib.hid (And.intro hap (And.intro z1 H5.out.2))
      clear hap z1 z2 z3 hs5 hD5 hS5
      subst hq6
      go_wp2_with fail
      refine HF.out.1.mono ?_
      rintro e w6 ⟨rfl, ρ6, U6, hs6, hm6⟩
      have hlf := sat_left hs6 (by have := HR.out.2.2.2.2.2.2.2.1.segs; omega)
      rw [HF.out.2.1] at hlf
      have H6 := Lib.hid (And.intro hlf (And.intro hs6 (HF.out.2.2.move hm6)))
      clear hlf hs6 hm6
      go_wp2_with fail
      refine H6.out.1.mono ?_
      rintro e w7 ⟨rfl, hb7⟩
      have hs7 := H6.out.2.1.below hb7
      have hsy := ssyncp_any hs7 HR.out.2.2.2.2.2.1 (by omega)
      obtain ⟨y1, y2⟩ := HR.out.2.2.1.sync
      rw [y1] at hsy
      have H7 := Lib.hid (And.intro hsy (And.intro (H6.out.2.2.below hb7) y2))
      clear hsy hs7 hb7 y1 y2
      go_wp2_with fail
      refine H7.out.1.mono ?_
      rintro e w8 ⟨rfl, ρ8, hs8, hm8⟩
      have hln := sat_len hs8
      rw [show ({ Sr with sure := Sr.recs.length } : Stor).recs.length = i by show Sr.recs.length = i; rw [HR.out.2.2.2.1, List.length_replicate]] at hln
      have hbd : Bud (14 + 5 * i) ({ Dr with sure := Dr.now, waits := [] } : Disk) := by
        have := HR.out.2.2.2.2.2.1.sync
        rw [sync_err _ HR.out.2.2.1.up] at this; exact this
      have hfd := failD_any hs8.disk (hbd.small (by omega)) 0 0
      obtain ⟨f1, f2, f3, f4⟩ := H7.out.2.2.fail 0 0
      obtain ⟨mm, m1, m2, m3⟩ := f3
      have hmm : mm = Sr.recs.length := by
        have m1 : Sr.recs.length ≤ mm := m1
        have m2 : mm ≤ Sr.recs.length := m2
        omega
      subst hmm
      have m3 : Rec n (2 + i) (Sr.recs.take Sr.recs.length) (({ Dr with sure := Dr.now, waits := [] } : Disk).fail 0 0).sure := m3
      rw [List.take_length] at m3
      have H8 := Lib.hid (And.intro hln (And.intro hfd (And.intro hs8 (And.intro (H7.out.2.1.move hm8) (And.intro f2 (And.intro m3 (And.intro f4 hbd)))))))
      clear hln hfd hs8 hm8 f1 f2 m1 m2 m3 f4 hbd
      by_cases hm100 : (100 : Int) < m
      all_goals
        have hm100' := hm100
        try (have hm100'' : (m : Int) ≤ 100 := by omega)
        clear hm100
        go_wp2_with fail
        refine H8.out.1.mono ?_
        rintro e w9 ⟨rfl, rfl⟩
        go_wp2_with fail
        refine H8.out.2.1.mono ?_
        rintro e w9 ⟨rfl, ρ9, hD9, ht9⟩
        have hs9 := sat_disk H8.out.2.2.1 hD9 (TouchX.of ht9)
        have hc9 := H8.out.2.2.2.1.touch (TouchX.of ht9) H8.out.2.2.2.1.own
        have hag := again_any (n := n) (N := 2 + i) (M := 14 + 5 * i + 1) (R := Sr.recs) hD9 H8.out.2.2.2.2.1 H8.out.2.2.2.2.2.1 (by rw [H8.out.2.2.2.2.2.2.1]; show 1024 ≤ Dr.room; rw [HR.out.2.2.2.2.2.2.1]; decide) (by omega) (H8.out.2.2.2.2.2.2.2.fail 0 0) (by omega)
        have H9 := Lib.hid (And.intro hag (And.intro hs9 hc9))
        clear hag hs9 hc9 hD9 ht9
        go_wp2_with fail
        refine H9.out.1.mono ?_
        rintro e wa ⟨t2, ρa, Ua, Da, Sa, rfl, hst⟩
        have hlr : Sa.recs.length = i := by rw [hst.recs, HR.out.2.2.2.1, List.length_replicate]
        have hsm : ∀ x ∈ Sr.recs, x.size ≤ 281474976710656 := fun x hx => by have := HR.out.2.2.1.small x hx; omega
        have hla := sat_len hst.at_
        have hal := sat_all hst.at_ (by omega) (by rw [hst.recs]; exact hsm)
        rw [hlr] at hla hal
        have hsa := sat_disk H9.out.2.1 (show DiskAt wa ρa b Da from hst.at_.disk) hst.touch
        have Ha := Lib.hid (And.intro hla (And.intro hal (And.intro hsa (And.intro (H9.out.2.2.touch hst.touch H9.out.2.2.own) (And.intro hst.recs hsm)))))
        clear hla hal hsa hst hlr hsm
        go_wp2_with fail
        refine Ha.out.1.mono ?_
        rintro e wb ⟨rfl, rfl⟩
        go_wp2_with fail
        refine Ha.out.2.1.mono ?_
        rintro e wb ⟨g1, rfl, ho1, hb1⟩
        have hal2 := sat_all (Ha.out.2.2.1.below hb1) (by show Sr.recs.length ≤ 1000000; rw [HR.out.2.2.2.1, List.length_replicate]; omega) Ha.out.2.2.2.2.2
        rw [show ({ Sr with sure := Sr.recs.length } : Stor).recs.length = i by show Sr.recs.length = i; rw [HR.out.2.2.2.1, List.length_replicate]] at hal2
        have Hb := Lib.hid (And.intro hal2 (And.intro ho1 (Ha.out.2.2.2.1.below hb1)))
        clear hal2 ho1 hb1
        go_wp2_with fail
        refine Hb.out.1.mono ?_
        rintro e wc ⟨g2, rfl, ho2, hb2⟩
        have t1 := (Hb.out.2.1.call hb2).texts
        rw [Ha.out.2.2.2.2.1] at t1
        have hsame := rsame_any Sr.recs _ _ i i wc t1 ho2.texts (by rw [HR.out.2.2.2.1, List.length_replicate]; omega)
        rw [show Sr.recs.length = i by rw [HR.out.2.2.2.1, List.length_replicate]] at hsame
        have Hc := Lib.hid (And.intro hsame (Hb.out.2.2.below hb2))
        clear hsame t1 ho2 hb2
        go_wp2_with fail
        refine Hc.out.1.mono ?_
        rintro e wd ⟨rfl, hbd⟩
        have Hd := Lib.hid (Hc.out.2.below hbd)
        clear hbd
        go_wp2_with fail
        go_ret
        exact ⟨rfl, Hd.out.low⟩
    · have h1 := z.was
      rw [HR.out.2.2.2.2.1.1] at h1
      cases h1
    · have hq0 : q = 0 := HR.out.2.2.2.2.2.2.2.2.2.2.1.trans z1
      have hpi : p = (i : Int) := by rw [HR.out.2.2.2.2.2.2.2.2.2.2.2, z2, HR.out.2.2.2.1, List.length_replicate]
      have HZ := Lib.hid (And.intro z3 (And.intro z4 z6))
      clear z1 z2 z3 z4 z5 z6
      subst hq0 hpi
      go_wp2_with fail
      go_roundw
      case rel =>
        refine ⟨i + 1, by omega, by go_num, by go_num, ρ5, U5, _, _, H5.out.1, H5.out.2, HZ.out.1.mono (by omega), ?_, rm_appendS HR.out.2.2.2.2.1, (bud_appendS HR.out.2.2.2.2.2.1).mono (by omega), HZ.out.2.2.room.trans HR.out.2.2.2.2.2.2.1⟩
        rw [HZ.out.2.1, HR.out.2.2.2.1, List.replicate_succ']
      case measure => simp [intOf]; omega
end Go.Proofs.YtdmbombjkinboaaGreat

namespace Go.Proofs.YtdmbombjkinboaaGreat.segsFullLaw
open Go.ChangeShapes Go.WideShapes Go.ChangeAt Go.RowKit
open Go.ChangeMaps (open_string shut_string)

theorem own : ownKnob Tryz.prog.godebug = none := by kernel_rfl
set_option maxRecDepth 100000 in
theorem lifted (os : Os) (started : os.Started) (H : Type) (enc : TypeId × Value → H) :
    ReturnsInHanded {} Tryz.checked os 5 .any (Rows.segsFullSpec.pre6 enc Tryz.prog Tryz.f5 Rows.segsFullRow.domain false) (Rows.segsFullSpec.post enc Tryz.prog Tryz.f5 false true false false) := by
  refine returnsInHanded_of_change (C := Tryz.checked) own started (by kernel_rfl) Tryz.func5
    (ChangeSpec.witness6 (enc := enc) (C := Tryz.checked) false ⟨#[], #[.int .i64 0, .int .i64 0], []⟩ 8 (by kernel_rfl) (by kernel_rfl) (by kernel_rfl) (by kernel_rfl)) ?_
  intro W base args ds gs before hval0 hW hcnd _
  have hval : ∀ (j : Nat) t v, Tryz.f5.params[j]? = some t → args[j]? = some v → Value.okWide Tryz.prog W .any base t v := hval0
  have hW' := hW
  obtain ⟨p, q, hA0, hV, rfl, hfz, hnd⟩ := hW
  have hA : DataW.TrodAll enc Tryz.prog W 0 (fun _ => true) true Tryz.f5.params.toList args.toList ds p := hA0
  rw [Tryz.params5] at hA hval
  obtain ⟨v0, vs0, d0, ds0, p0, q0, hargs, rfl, rfl, h0, r0⟩ := trodAll_cons hA
  obtain ⟨v1, vs1, d1, ds1, p1, q1, rfl, rfl, rfl, h1, r1⟩ := trodAll_cons r0
  obtain ⟨rfl, rfl, rfl⟩ := trodAll_nil r1
  obtain rfl : args = #[v0, v1] := by cases args; simp_all
  obtain ⟨rfl, rfl⟩ := trodVars_none hV
  obtain ⟨n0, rfl, rfl, rfl, ws0⟩ := open_int Tryz.underlying3 (hval 0 3 v0 rfl rfl) h0
  have hbd0 := ws0
  simp only [Lit.wf, Bool.and_eq_true, decide_eq_true_eq] at hbd0
  obtain ⟨n1, rfl, rfl, rfl, ws1⟩ := open_int Tryz.underlying3 (hval 1 3 v1 rfl rfl) h1
  have hbd1 := ws1
  simp only [Lit.wf, Bool.and_eq_true, decide_eq_true_eq] at hbd1
  clear hA0 hval0
  simp only [List.append_nil] at hW'
  refine (sfull_law n0 hbd0.1 hbd0.2 n1 hbd1.1 hbd1.2 (w := W)).mono fun e W' ⟨he, hb⟩ => ?_
  subst he
  exact ⟨_, rfl, _, _, _, [], [], [], hW', trodAll_cons_mk (shut_bool Tryz.underlying4 _) trodAll_mk0, (trodAll_cons_mk (shut_int Tryz.underlying3 ws0) (trodAll_cons_mk (shut_int Tryz.underlying3 ws1) trodAll_mk0)), rfl, hb.frame _, fun h => by cases h⟩
theorem over : Rows.segsFullRow.holds Tryz.pinned (OpenSpec.ofChange Rows.segsFullSpec) :=
  OpenClaim.holds_of_wide 5 Tryz.f5 rfl rfl rfl rfl rfl rfl rfl ⟨rfl, rfl, rfl, rfl, rfl⟩ rfl rfl rfl rfl rfl (by kernel_rfl) Tryz.func5 (by kernel_rfl)
    (of_decide_eq_true (by kernel_rfl)) (by unfold Func.isWrapper; first | (rw [if_pos (by decide +kernel)]; kernel_rfl) | (rw [if_neg (by decide +kernel)]; exact ⟨rfl, rfl⟩))
    (fun os started H enc _ => lifted os started H enc)
end Go.Proofs.YtdmbombjkinboaaGreat.segsFullLaw

namespace Go.Proofs.YtdmbombjkinboaaGreat
theorem segsFull_said : Rows.SegsFullSaid := segsFullLaw.over
end Go.Proofs.YtdmbombjkinboaaGreat
