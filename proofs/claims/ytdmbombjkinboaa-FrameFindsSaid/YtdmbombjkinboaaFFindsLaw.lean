/- PROVED HERE: for every text the law FrameFinds returns true (what stands at the front of any bytes, and all that stands there, or why there is none, are as the reference defines them), and the text reads afterwards as it did. No condition. -/
import Derived.Test.YtdmbombjkinboaaFAwake
import Derived.Test.YtdmbombjkinboaaFRScan
import Derived.Test.YtdmbombjkinboaaFSame
import Derived.Test.YtdmbombjkinboaaRows
import Derived.ProofKit
import Derived.OpenShut
namespace Go.Proofs.Ytdmbombjkinboaa
open Go.RowKit
open Fr

set_option maxRecDepth 100000 in
set_option maxHeartbeats 1000000 in
theorem ffinds_law (s : ByteArray) (_ : s.size ≤ maxLen) (w : World) :
    Calls Try.prog 4 #[.string s] w fun e w' => e = .returned (.bool true) ∧ Below w.heap.size w w' := by
  by_cases hbig : (3000 : Int) < s.size
  · go_enter Try.func4, Try.ntmps4
    go_wp2_with fail
    refine (awake_f _).mono ?_
    rintro e w1 ⟨rfl, h1⟩
    go_wp2_with fail
    go_ret
    exact ⟨rfl, h1⟩
  · have hX := front_any s (by omega)
    have hY := rfront_any s (by omega)
    obtain ⟨bs, m, er, hsc⟩ := Scans.exists s.data.toList
    have hle := hsc.le
    have hbn : bs.length ≤ 3000 := by have := hle.1; simp at this; omega
    have hZ := scan_any s (by omega) bs m er hsc
    have hU := rscan_any s (by omega) bs m er hsc
    obtain ⟨B, hB⟩ : ∃ S, S = frB s := ⟨_, rfl⟩
    obtain ⟨R, hR⟩ : ∃ S, S = frR s := ⟨_, rfl⟩
    obtain ⟨E, hE⟩ : ∃ E, E = frE s := ⟨_, rfl⟩
    rw [← hB, ← hR, ← hE] at hX hY
    obtain ⟨n, hn⟩ : ∃ n, n = bs.length := ⟨_, rfl⟩
    rw [← hn] at hZ hU hbn
    have hl : (bs.map str).length = n := by rw [List.length_map]; exact hn.symm
    have HX := Lib.hid (And.intro hX (And.intro hY (And.intro hZ (And.intro hU hl))))
    clear hX hY hZ hU hl hn hB hR hE hle hsc
    have heqB : (B.toList == B.toList) = true := by simp
    have heqR : (R.toList == R.toList) = true := by simp
    go_enter Try.func4, Try.ntmps4
    go_wp2_with fail
    refine (HX.out.1 _).mono ?_
    rintro e w1 ⟨rfl, h1⟩
    have H1 := Lib.hid h1
    clear h1
    go_wp2_with fail
    refine (HX.out.2.1 _).mono ?_
    rintro e w2 ⟨rfl, h2⟩
    have H2 := Lib.hid (below_call H1.out h2)
    clear h2
    go_upto_region 5 with fail
    obtain ⟨F, hF⟩ : ∃ F, F = w2.heap.size := ⟨_, rfl⟩
    have hxf := heap_alloc_new w2 (.cells #[.string B, .string R, .int .i64 E] 33)
    have hb3 := H2.out.alloc H2.out.size (.cells #[.string B, .string R, .int .i64 E] 33)
    have hz3 : (w2.alloc (.cells #[.string B, .string R, .int .i64 E] 33)).heap.size = F + 1 := by rw [hF]; simp
    obtain ⟨w3, hw3⟩ : ∃ w3, w3 = w2.alloc (.cells #[.string B, .string R, .int .i64 E] 33) := ⟨_, rfl⟩
    rw [← hw3] at hxf hb3 hz3 ⊢
    rw [← hF] at hxf ⊢
    have HF := Lib.hid (And.intro hxf (And.intro hb3 hz3))
    clear hxf hb3 hz3 hw3 hF
    go_wp2_with fail
    refine (HX.out.2.2.1 _).mono ?_
    rintro e w4 ⟨a, cap, rfl, ho4, h4⟩
    have H4 := Lib.hid (And.intro ((h4.block F (by have := HF.out.2.2; omega)).trans HF.out.1) (And.intro (below_call HF.out.2.1 h4) (And.intro ho4 (show F < w4.heap.size from by have := HF.out.2.2; have := h4.size; omega))))
    clear h4 ho4
    go_wp2_with fail
    refine (HX.out.2.2.2.1 _).mono ?_
    rintro e w5 ⟨a', cap', rfl, ho5, h5⟩
    have H5 := Lib.hid (And.intro ((h5.block F H4.out.2.2.2).trans H4.out.1) (And.intro (below_call H4.out.2.1 h5) (And.intro (H4.out.2.2.1.call h5) (And.intro ho5 (show F < w5.heap.size from by have := H4.out.2.2.2; have := h5.size; omega)))))
    clear h5 ho5
    go_upto_region 7 with fail
    obtain ⟨G, hG⟩ : ∃ G, G = w5.heap.size := ⟨_, rfl⟩
    have hxg := heap_alloc_new w5 (.cells #[.slice a' n cap', .int .i64 m, .int .i64 er] 39)
    have hb6 := H5.out.2.1.alloc H5.out.2.1.size (.cells #[.slice a' n cap', .int .i64 m, .int .i64 er] 39)
    have hxf6 := (Below.heap_alloc w5 (.cells #[.slice a' n cap', .int .i64 m, .int .i64 er] 39) _ H5.out.2.2.2.2).trans H5.out.1
    have ho6 := H5.out.2.2.1.alloc (.cells #[.slice a' n cap', .int .i64 m, .int .i64 er] 39)
    have ho7 := H5.out.2.2.2.1.alloc (.cells #[.slice a' n cap', .int .i64 m, .int .i64 er] 39)
    have hz6 : (w5.alloc (.cells #[.slice a' n cap', .int .i64 m, .int .i64 er] 39)).heap.size = G + 1 := by rw [hG]; simp
    obtain ⟨w6, hw6⟩ : ∃ w6, w6 = w5.alloc (.cells #[.slice a' n cap', .int .i64 m, .int .i64 er] 39) := ⟨_, rfl⟩
    rw [← hw6] at hxg hb6 hxf6 hz6 ho6 ho7 ⊢
    rw [← hG] at hxg ⊢
    have H6 := Lib.hid (And.intro hxf6 (And.intro hxg (And.intro hb6 (And.intro ho6 (And.intro ho7 hz6)))))
    have hFG : F < G := by have := H5.out.2.2.2.2; omega
    clear hxg hb6 hxf6 hz6 ho6 ho7 hw6 hG
    go_wp2_with fail
    refine (awake_f _).mono ?_
    rintro e w7 ⟨rfl, h7⟩
    obtain ⟨q0, q1, q2, -⟩ := box3 ((h7.block F (by have := H6.out.2.2.2.2.2; omega)).trans H6.out.1)
    obtain ⟨r0, r1, r2, -⟩ := box3 ((h7.block G (by have := H6.out.2.2.2.2.2; omega)).trans H6.out.2.1)
    have hS := rsame_any (bs.map str) a a' cap cap' w7 (H6.out.2.2.2.1.call h7).texts (H6.out.2.2.2.2.1.call h7).texts (by rw [HX.out.2.2.2.2]; omega)
    rw [HX.out.2.2.2.2] at hS
    have hG7 : G < w7.heap.size := by have := H6.out.2.2.2.2.2; have := h7.size; omega
    have H7 := Lib.hid (And.intro (below_call H6.out.2.2.1 h7) (And.intro hS hG7))
    clear h7 hS hG7
    go_wp2_with fail
    refine H7.out.2.1.mono ?_
    rintro e w8 ⟨rfl, h8⟩
    have r1' : w8.cell? ⟨G, 1, none⟩ = some (.int .i64 m) := by rw [h8.cell (p := ⟨G, 1, none⟩) H7.out.2.2]; exact r1
    have r2' : w8.cell? ⟨G, 2, none⟩ = some (.int .i64 er) := by rw [h8.cell (p := ⟨G, 2, none⟩) H7.out.2.2]; exact r2
    have H8 := Lib.hid (below_call H7.out.1 h8)
    clear h8 q0 q1 q2 r0 r1 r2
    go_wp2_with fail
    go_ret
    exact ⟨rfl, H8.out⟩
end Go.Proofs.Ytdmbombjkinboaa

namespace Go.Proofs.Ytdmbombjkinboaa.frameFindsLaw
open Go.ChangeShapes Go.WideShapes Go.ChangeAt Go.RowKit
open Go.ChangeMaps (open_string shut_string)

theorem own : ownKnob Try.prog.godebug = none := by kernel_rfl
set_option maxRecDepth 100000 in
theorem lifted (os : Os) (started : os.Started) (H : Type) (enc : TypeId × Value → H) :
    ReturnsInHanded {} Try.checked os 4 .any (Rows.frameFindsSpec.pre6 enc Try.prog Try.f4 Rows.frameFindsRow.domain false) (Rows.frameFindsSpec.post enc Try.prog Try.f4 false true false false) := by
  refine returnsInHanded_of_change (C := Try.checked) own started (by kernel_rfl) Try.func4
    (ChangeSpec.witness6 (enc := enc) (C := Try.checked) false ⟨#[], #[.string ⟨#[]⟩], []⟩ 8 (by kernel_rfl) (by kernel_rfl) (by kernel_rfl) (by kernel_rfl)) ?_
  intro W base args ds gs before hval0 hW hcnd _
  have hval : ∀ (j : Nat) t v, Try.f4.params[j]? = some t → args[j]? = some v → Value.okWide Try.prog W .any base t v := hval0
  have hW' := hW
  obtain ⟨p, q, hA0, hV, rfl, hfz, hnd⟩ := hW
  have hA : DataW.TrodAll enc Try.prog W 0 (fun _ => true) true Try.f4.params.toList args.toList ds p := hA0
  rw [Try.params4] at hA hval
  obtain ⟨v0, vs0, d0, ds0, p0, q0, hargs, rfl, rfl, h0, r0⟩ := trodAll_cons hA
  obtain ⟨rfl, rfl, rfl⟩ := trodAll_nil r0
  obtain rfl : args = #[v0] := by cases args; simp_all
  obtain ⟨rfl, rfl⟩ := trodVars_none hV
  obtain ⟨s0, rfl, rfl, rfl, ws0⟩ := open_string Try.underlying9 (hval 0 9 v0 rfl rfl) h0
  clear hA0 hval0
  simp only [List.append_nil] at hW'
  refine (ffinds_law s0 (by simpa using ws0) (w := W)).mono fun e W' ⟨he, hb⟩ => ?_
  subst he
  exact ⟨_, rfl, _, _, _, [], [], [], hW', trodAll_cons_mk (shut_bool Try.underlying4 _) trodAll_mk0, (trodAll_cons_mk (shut_string Try.underlying9 ws0) trodAll_mk0), rfl, hb.frame _, fun h => by cases h⟩
theorem over : Rows.frameFindsRow.holds Try.pinned (OpenSpec.ofChange Rows.frameFindsSpec) :=
  OpenClaim.holds_of_wide 4 Try.f4 rfl rfl rfl rfl rfl rfl rfl ⟨rfl, rfl, rfl, rfl, rfl⟩ rfl rfl rfl rfl rfl (by kernel_rfl) Try.func4 (by kernel_rfl)
    (of_decide_eq_true (by kernel_rfl)) (by unfold Func.isWrapper; first | (rw [if_pos (by decide +kernel)]; kernel_rfl) | (rw [if_neg (by decide +kernel)]; exact ⟨rfl, rfl⟩))
    (fun os started H enc _ => lifted os started H enc)
end Go.Proofs.Ytdmbombjkinboaa.frameFindsLaw

namespace Go.Proofs.Ytdmbombjkinboaa
theorem frameFinds_said : Rows.FrameFindsSaid := frameFindsLaw.over
end Go.Proofs.Ytdmbombjkinboaa
