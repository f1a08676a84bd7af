/- PROVED HERE: for every list of texts and every text the law FrameBack returns true (what was wrapped is found, whatever stands behind it: all bodies, and what is left), and both read afterwards as they did. No condition. -/
import Derived.Test.YtdmbombjkinboaaFAwake
import Derived.Test.YtdmbombjkinboaaFWraps
import Derived.Test.YtdmbombjkinboaaFCutT
import Derived.Test.YtdmbombjkinboaaFSame
import Derived.Test.YtdmbombjkinboaaFewer
import Derived.Test.YtdmbombjkinboaaRows
import Derived.ProofKit
import Derived.OpenShut
namespace Go.Proofs.Ytdmbombjkinboaa
open Go.RowKit
open Fr

theorem empty_b (x : ByteArray) : x.toList.isEmpty = (x.size == 0) := by
  rw [empty_size]
  by_cases h : x.size = 0 <;> simp [h]
theorem anyNo_all {ss : List ByteArray} (h : anyNo ss = false) (hk : ∀ j, j < ss.length → (ss.getD j ByteArray.empty).size ≤ 300) : ∀ b ∈ bods ss, may b := by
  intro b hb
  unfold bods at hb
  obtain ⟨x, hx, rfl⟩ := List.mem_map.1 hb
  obtain ⟨j, hj, rfl⟩ := List.getElem_of_mem hx
  have h1 := hk j hj
  rw [List.getD_eq_getElem?_getD, List.getElem?_eq_getElem hj, Option.getD_some] at h1
  have h2 : ss[j].size ≠ 0 := fun e => by
    unfold anyNo at h
    rw [List.any_eq_false] at h
    exact h _ hx (by simp [e])
  exact may_size.2 (by omega)
set_option maxRecDepth 100000 in
set_option maxHeartbeats 2000000 in
theorem fback_law (ss : List ByteArray) (a0 : Option Addr) (cap : Nat) (w : World) (hT : TextsAt w a0 ss) (hm : ss.length ≤ maxLen) (r : ByteArray) (_ : r.size ≤ maxLen) :
    Calls Try.prog 5 #[.slice a0 ss.length cap, .string r] w fun e w' => e = .returned (.bool true) ∧ Below w.heap.size w w' := by
  have hFew := few_any ss a0 cap 10 300 w hT hm
  by_cases hf : FewOf ss 10 300
  · rw [fewB_true hf] at hFew
    by_cases hr : (300 : Int) < r.size
    · have HX := Lib.hid hFew
      clear hFew hT hm hf
      obtain ⟨n, hn⟩ : ∃ n, n = ss.length := ⟨_, rfl⟩
      rw [← hn] at HX ⊢
      clear hn
      go_enter Try.func5, Try.ntmps5
      go_wp2_with fail
      refine HX.out.mono ?_
      rintro e w1 ⟨rfl, rfl⟩
      go_wp2_with fail
      refine (awake_f _).mono ?_
      rintro e w1 ⟨rfl, h1⟩
      go_wp2_with fail
      go_ret
      exact ⟨rfl, h1⟩
    have hk : ∀ j, j < ss.length → (ss.getD j ByteArray.empty).size ≤ 300 := fun j hj => by have := hf.2 j hj; omega
    have hn10 : ss.length ≤ 10 := by have := hf.1; omega
    have hW := wraps_any ss a0 cap w hT (by omega) hk
    obtain ⟨n, hn⟩ : ∃ n, n = ss.length := ⟨_, rfl⟩
    obtain ⟨S, hS⟩ : ∃ S, S = wrapsS ss := ⟨_, rfl⟩
    obtain ⟨E, hE⟩ : ∃ E, E = wrapsE ss := ⟨_, rfl⟩
    rw [← hS, ← hE] at hW
    rw [← hn] at hW hFew hn10 ⊢
    have HX := Lib.hid (And.intro hFew (And.intro hW (And.intro hT (And.intro hk (And.intro hn (And.intro hS hE))))))
    clear hFew hW hT hk hn hm hf hS hE
    go_enter Try.func5, Try.ntmps5
    go_wp2_with fail
    refine HX.out.1.mono ?_
    rintro e w1 ⟨rfl, rfl⟩
    go_wp2_with fail
    refine HX.out.2.1.mono ?_
    rintro e w1 ⟨rfl, h1⟩
    have H1 := Lib.hid h1
    clear h1
    go_wp2_with fail
    go_loopw [7] (fun c wr => ∃ i : Nat, i ≤ n ∧ c = .int .i64 i ∧ wr = w1 ∧ anyNo (ss.take i) = false) (fun c _ => n - (intOf c).toNat)
    case atStart => exact ⟨0, by omega, rfl, rfl, rfl⟩
    case round =>
      obtain ⟨i, hi, rfl, rfl, hno⟩ := hrel
      by_cases hlt : i < n
      · have hil : i < ss.length := by have := HX.out.2.2.2.2.1; omega
        obtain ⟨b, off, rfl, hbl, hc⟩ := HX.out.2.2.1.below H1.out i hil
        obtain ⟨x, hx⟩ : ∃ x, x = ss.getD i ByteArray.empty := ⟨_, rfl⟩
        rw [← hx] at hc
        have hnx : ss.take (i + 1) = ss.take i ++ [x] := by rw [take_snoc_getD ss i hil, ← hx]
        by_cases h0 : x.size = 0
        · have hany : anyNo ss = true := anyNo_take (k := i + 1) (by rw [hnx]; unfold anyNo; simp [h0])
          have e1 : S = ⟨#[]⟩ := by rw [HX.out.2.2.2.2.2.1]; unfold wrapsS; rw [if_pos hany]
          have e2 : E = 1 := by rw [HX.out.2.2.2.2.2.2]; unfold wrapsE; rw [if_pos hany]
          have hem : x.toList.isEmpty = true := by rw [empty_b, h0]; rfl
          clear hno hnx hx h0 hany HX
          subst e1 e2
          go_wp2_with fail
          refine (awake_f _).mono ?_
          rintro e w2 ⟨rfl, h2⟩
          have H2 := Lib.hid (below_call H1.out h2)
          clear h2
          go_wp2_with fail
          go_ret
          exact ⟨rfl, H2.out⟩
        · have hem : x.toList.isEmpty = false := by rw [empty_b]; simpa using h0
          have hnn : anyNo (ss.take (i + 1)) = false := by rw [hnx]; unfold anyNo at *; rw [List.any_append, hno]; simp [h0]
          have HN := Lib.hid hnn
          clear hno hnx hx h0 hnn
          go_wp2_with fail
          go_roundw
          case rel => exact ⟨i + 1, by omega, by go_num, by trivial, HN.out⟩
          case measure => simp [intOf]; omega
      · obtain rfl : i = n := by omega
        have hall : ss.take i = ss := List.take_of_length_le (by have := HX.out.2.2.2.2.1; omega)
        rw [hall] at hno
        have e1 : S = str (frms (bods ss)) := by rw [HX.out.2.2.2.2.2.1]; unfold wrapsS; rw [hno]; rfl
        have e2 : E = 0 := by rw [HX.out.2.2.2.2.2.2]; unfold wrapsE; rw [hno]; rfl
        have hmay := anyNo_all hno HX.out.2.2.2.1
        obtain ⟨ks, m, er, hsc⟩ := Scans.exists r.data.toList
        have hle := hsc.le
        have hrs : r.data.toList.length = r.size := by simp
        have hsc2 := Scans.frms hmay hsc
        have hd : (S ++ r).data.toList = frms (bods ss) ++ r.data.toList := by rw [e1, str_cat', str_data]
        rw [← hd] at hsc2
        have hSs : S.size = (frms (bods ss)).length := by rw [e1, str_size]
        have hS3 : S.size ≤ 3080 := by
          have := frms_size ss i HX.out.2.2.2.1
          rw [hall] at this
          omega
        have hX1 := scan_any (S ++ r) (by rw [ByteArray.size_append]; omega) _ _ _ hsc2
        have hX2 := scan_any r (by omega) ks m er hsc
        have hbl : (bods ss).length = i := by rw [bods, List.length_map]; exact HX.out.2.2.2.2.1.symm
        obtain ⟨K, hK⟩ : ∃ K, K = ks.length := ⟨_, rfl⟩
        rw [List.length_append, hbl, ← hK, List.map_append, str_bods, ← hSs] at hX1
        rw [← hK] at hX2
        have hKs : (K : Int) ≤ 1000 := by omega
        have hmS : ((S.size + m : Nat) : Int) = (S.size : Int) + m := by omega
        have hnK : ((i + K : Nat) : Int) = (i : Int) + K := by omega
        have hm3 : (m : Int) ≤ 300 := by omega
        subst e2
        have HY := Lib.hid (And.intro hX1 (And.intro hX2 (And.intro hK hnK)))
        clear hX1 hX2 hno hall hmay hle hrs hsc2 hd hSs hbl hsc e1 hK hnK
        go_wp2_with fail
        refine (HY.out.1 _).mono ?_
        rintro e w2 ⟨a, c2, rfl, ho2, h2⟩
        rw [hmS]
        have hcap := ho2.cap
        have hl2 : (ss ++ ks.map str).length = i + K := by rw [List.length_append, List.length_map]; have := HX.out.2.2.2.2.1; have := HY.out.2.2.1; omega
        rw [hl2] at hcap
        have hs1 := run_head a i (i + K) c2 (by omega)
        obtain ⟨a3, c3, hs2, ht3⟩ := run_tail a i K c2 hcap
        have H2 := Lib.hid (And.intro ho2 (And.intro (below_call H1.out h2) (And.intro ht3 hl2)))
        clear ho2 h2 ht3 hl2 hcap
        go_wp2_with fail
        refine (HY.out.2.1 _).mono ?_
        rintro e w3 ⟨a4, c4, rfl, ho4, h4⟩
        have H4 := Lib.hid (And.intro (H2.out.1.call h4) (And.intro (below_call H2.out.2.1 h4) ho4))
        clear ho4 h4
        have hq1 := rsame_any ss a a0 c2 cap w3 H4.out.1.texts.head (HX.out.2.2.1.below H4.out.2.1) (by have := HX.out.2.2.2.2.1; omega)
        rw [← HX.out.2.2.2.2.1] at hq1
        have HQ := Lib.hid hq1
        clear hq1
        have hlt2 : decide ((i : Int) + K < i) = false := decide_eq_false (by omega)
        go_wp2_with fail
        refine HQ.out.mono ?_
        rintro e w5 ⟨rfl, h5⟩
        have hq2 := rsame_any (ks.map str) a3 a4 c3 c4 w5 (H2.out.2.2.1 w5 ss (ks.map str) (by have := HX.out.2.2.2.2.1; omega) (by rw [List.length_map]; exact HY.out.2.2.1.symm) (H4.out.1.call h5).texts) (H4.out.2.2.call h5).texts (by rw [List.length_map]; have := HY.out.2.2.1; omega)
        rw [List.length_map, ← HY.out.2.2.1] at hq2
        have H5 := Lib.hid (And.intro (below_call H4.out.2.1 h5) hq2)
        clear h5 hq2
        go_wp2_with fail
        refine H5.out.2.mono ?_
        rintro e w6 ⟨rfl, h6⟩
        have H6 := Lib.hid (below_call H5.out.1 h6)
        clear h6
        go_wp2_with fail
        refine (awake_f _).mono ?_
        rintro e w7 ⟨rfl, h7⟩
        have H7 := Lib.hid (below_call H6.out h7)
        clear h7
        go_wp2_with fail
        go_ret
        exact ⟨rfl, H7.out⟩
  · rw [fewB_false hf] at hFew
    have HX := Lib.hid hFew
    clear hFew hT hm hf
    obtain ⟨n, hn⟩ : ∃ n, n = ss.length := ⟨_, rfl⟩
    rw [← hn] at HX ⊢
    clear hn
    go_enter Try.func5, Try.ntmps5
    go_wp2_with fail
    refine HX.out.mono ?_
    rintro e w1 ⟨rfl, rfl⟩
    go_wp2_with fail
    refine (awake_f _).mono ?_
    rintro e w1 ⟨rfl, h1⟩
    go_wp2_with fail
    go_ret
    exact ⟨rfl, h1⟩
end Go.Proofs.Ytdmbombjkinboaa

namespace Go.Proofs.Ytdmbombjkinboaa.frameBackLaw
open Go.ChangeShapes Go.WideShapes Go.ChangeAt Go.RowKit
open Go.ChangeMaps (open_string shut_string)

theorem own : ownKnob Try.prog.godebug = none := by kernel_rfl
set_option maxRecDepth 100000 in
theorem lifted (os : Os) (started : os.Started) (H : Type) (enc : TypeId × Value → H) :
    ReturnsInHanded {} Try.checked os 5 .any (Rows.frameBackSpec.pre6 enc Try.prog Try.f5 Rows.frameBackRow.domain false) (Rows.frameBackSpec.post enc Try.prog Try.f5 false true false false) := by
  refine returnsInHanded_of_change (C := Try.checked) own started (by kernel_rfl) Try.func5
    (ChangeSpec.witness6 (enc := enc) (C := Try.checked) false ⟨#[], #[.slice none 0 0, .string ⟨#[]⟩], []⟩ 8 (by kernel_rfl) (by kernel_rfl) (by kernel_rfl) (by kernel_rfl)) ?_
  intro W base args ds gs before hval0 hW hcnd _
  have hval : ∀ (j : Nat) t v, Try.f5.params[j]? = some t → args[j]? = some v → Value.okWide Try.prog W .any base t v := hval0
  have hW' := hW
  obtain ⟨p, q, hA0, hV, rfl, hfz, hnd⟩ := hW
  have hA : DataW.TrodAll enc Try.prog W 0 (fun _ => true) true Try.f5.params.toList args.toList ds p := hA0
  rw [Try.params5] at hA hval
  obtain ⟨v0, vs0, d0, ds0, p0, q0, hargs, rfl, rfl, h0, r0⟩ := trodAll_cons hA
  obtain ⟨v1, vs1, d1, ds1, p1, q1, rfl, rfl, rfl, h1, r1⟩ := trodAll_cons r0
  obtain ⟨rfl, rfl, rfl⟩ := trodAll_nil r1
  obtain rfl : args = #[v0, v1] := by cases args; simp_all
  obtain ⟨rfl, rfl⟩ := trodVars_none hV
  obtain ⟨a0, len0, cap0, rfl⟩ := okWide_slice Try.underlying35 (hval 0 35 v0 rfl rfl)
  have hk0 := h0
  obtain ⟨fuel0, hf0⟩ := h0
  obtain ⟨s1, rfl, rfl, rfl, ws1⟩ := open_string Try.underlying9 (hval 1 9 v1 rfl rfl) h1
  clear hA0 hval0
  simp only [List.append_nil] at hW'
  have hlt0 : ∀ x ∈ p0, x.block < W.heap.size := fun x hx => by simpa using hW'.lt x (by simp [hx])
  obtain ⟨ss0, hlen0, hmax0, hT0⟩ := texts_of hf0 hlt0
  subst hlen0
  refine (fback_law ss0 a0 cap0 hT0 hmax0 s1 (by simpa using ws1) (w := W)).mono fun e W' ⟨he, hb⟩ => ?_
  subst he
  exact ⟨_, rfl, _, _, _, [], _, [], hW', trodAll_cons_mk (shut_bool Try.underlying4 _) trodAll_mk0, (trodAll_cons_mk (Below.trod laidOut (by kernel_rfl) (of_decide_eq_true (by kernel_rfl)) hk0 hb hlt0) (trodAll_cons_mk (shut_string Try.underlying9 ws1) trodAll_mk0)), rfl, hb.frame _, fun h => by cases h⟩
theorem over : Rows.frameBackRow.holds Try.pinned (OpenSpec.ofChange Rows.frameBackSpec) :=
  OpenClaim.holds_of_wide 5 Try.f5 rfl rfl rfl rfl rfl rfl rfl ⟨rfl, rfl, rfl, rfl, rfl⟩ rfl rfl rfl rfl rfl (by kernel_rfl) Try.func5 (by kernel_rfl)
    (of_decide_eq_true (by kernel_rfl)) (by unfold Func.isWrapper; first | (rw [if_pos (by decide +kernel)]; kernel_rfl) | (rw [if_neg (by decide +kernel)]; exact ⟨rfl, rfl⟩))
    (fun os started H enc _ => lifted os started H enc)
end Go.Proofs.Ytdmbombjkinboaa.frameBackLaw

namespace Go.Proofs.Ytdmbombjkinboaa
theorem frameBack_said : Rows.FrameBackSaid := frameBackLaw.over
end Go.Proofs.Ytdmbombjkinboaa
