/- PROVED HERE: for every list of texts and every number the law FrameCut returns true (frames that are cut off tell those that are whole, and that they end), and both read afterwards as they did. No condition. -/
import Derived.Test.YtdmbombjkinboaaFAwake
import Derived.Test.YtdmbombjkinboaaFWraps
import Derived.Test.YtdmbombjkinboaaFCutT
import Derived.Test.YtdmbombjkinboaaFSame
import Derived.Test.YtdmbombjkinboaaFewer
import Derived.Test.YtdmbombjkinboaaRows
import Derived.ProofKit
import Derived.OpenShut
namespace Go.Proofs.Ytdmbombjkinboaa
open Go.RowKit
open Fr

theorem empty_b (x : ByteArray) : x.toList.isEmpty = (x.size == 0) := by
  rw [empty_size]
  by_cases h : x.size = 0 <;> simp [h]
theorem anyNo_all {ss : List ByteArray} (h : anyNo ss = false) (hk : ∀ j, j < ss.length → (ss.getD j ByteArray.empty).size ≤ 300) : ∀ b ∈ bods ss, may b := by
  intro b hb
  unfold bods at hb
  obtain ⟨x, hx, rfl⟩ := List.mem_map.1 hb
  obtain ⟨j, hj, rfl⟩ := List.getElem_of_mem hx
  have h1 := hk j hj
  rw [List.getD_eq_getElem?_getD, List.getElem?_eq_getElem hj, Option.getD_some] at h1
  have h2 : ss[j].size ≠ 0 := fun e => by
    unfold anyNo at h
    rw [List.any_eq_false] at h
    exact h _ hx (by simp [e])
  exact may_size.2 (by omega)
/-- How long the first frames are. -/
def fl (ss : List ByteArray) (k : Nat) : Nat := (frms (bods (ss.take k))).length
theorem fl_succ (ss : List ByteArray) (k : Nat) (h : k < ss.length) : fl ss (k + 1) = fl ss k + (8 + (ss.getD k ByteArray.empty).size) := by
  unfold fl
  rw [take_snoc_getD ss k h]
  unfold bods
  rw [List.map_append, List.map_singleton, frms_snoc, List.length_append, frm_length]
  simp
theorem fl_mono (ss : List ByteArray) (k m : Nat) (h : k ≤ m) (hm : m ≤ ss.length) : fl ss k ≤ fl ss m := by
  induction m with
  | zero => obtain rfl : k = 0 := by omega
            exact Nat.le_refl _
  | succ m ih =>
    by_cases e : k = m + 1
    · rw [e]; exact Nat.le_refl _
    · have := ih (by omega) (by omega)
      rw [fl_succ ss m (by omega)]; omega
theorem bods_take (ss : List ByteArray) (k : Nat) : (bods ss).take k = bods (ss.take k) := by unfold bods; rw [List.map_take]
set_option maxRecDepth 100000 in
set_option maxHeartbeats 2000000 in
theorem fcut_law (ss : List ByteArray) (a0 : Option Addr) (cap : Nat) (w : World) (hT : TextsAt w a0 ss) (hm : ss.length ≤ maxLen) (hcap : ss.length ≤ cap) (z : Int) (_ : -9223372036854775808 ≤ z) (_ : z ≤ 9223372036854775807) :
    Calls Try.prog 6 #[.slice a0 ss.length cap, .int .i64 z] w fun e w' => e = .returned (.bool true) ∧ Below w.heap.size w w' := by
  have hFew := few_any ss a0 cap 10 300 w hT hm
  by_cases hf : FewOf ss 10 300
  · rw [fewB_true hf] at hFew
    have hk : ∀ j, j < ss.length → (ss.getD j ByteArray.empty).size ≤ 300 := fun j hj => by have := hf.2 j hj; omega
    have hn10 : ss.length ≤ 10 := by have := hf.1; omega
    have hW := wraps_any ss a0 cap w hT (by omega) hk
    by_cases hno : anyNo ss = true
    · have e1 : wrapsE ss = 1 := by unfold wrapsE; rw [if_pos hno]
      rw [e1] at hW
      obtain ⟨S, hS⟩ : ∃ S, S = wrapsS ss := ⟨_, rfl⟩
      rw [← hS] at hW
      obtain ⟨n, hn⟩ : ∃ n, n = ss.length := ⟨_, rfl⟩
      rw [← hn] at hW hFew ⊢
      have HX := Lib.hid (And.intro hFew hW)
      clear hFew hW hT hk hn hm hf hn10 hno e1 hS
      go_enter Try.func6, Try.ntmps6
      go_wp2_with fail
      refine HX.out.1.mono ?_
      rintro e w1 ⟨rfl, rfl⟩
      go_wp2_with fail
      refine HX.out.2.mono ?_
      rintro e w1 ⟨rfl, h1⟩
      have H1 := Lib.hid h1
      clear h1
      go_wp2_with fail
      refine (awake_f _).mono ?_
      rintro e w2 ⟨rfl, h2⟩
      have H2 := Lib.hid (below_call H1.out h2)
      clear h2
      go_wp2_with fail
      go_ret
      exact ⟨rfl, H2.out⟩
    have hno' : anyNo ss = false := by simpa using hno
    have e1 : wrapsE ss = 0 := by unfold wrapsE; rw [hno']; rfl
    have e2 : wrapsS ss = str (frms (bods ss)) := by unfold wrapsS; rw [hno']; rfl
    have hmay := anyNo_all hno' hk
    have hSl : (str (frms (bods ss))).size = fl ss ss.length := by rw [str_size]; unfold fl; rw [List.take_length]
    rw [e1, e2] at hW
    by_cases h0 : ss.length = 0
    · have hs0 : fl ss ss.length = 0 := by rw [h0]; rfl
      rw [hs0] at hSl
      obtain ⟨S, hS⟩ : ∃ S, S = str (frms (bods ss)) := ⟨_, rfl⟩
      rw [← hS] at hW hSl
      have hS0 : (S.size : Int) = 0 := by omega
      rw [h0] at hW hFew ⊢
      have HX := Lib.hid (And.intro hFew hW)
      clear hFew hW hT hk hm hf hn10 hno hno' e1 e2 hmay hs0 hS hSl h0
      go_enter Try.func6, Try.ntmps6
      go_wp2_with fail
      refine HX.out.1.mono ?_
      rintro e w1 ⟨rfl, rfl⟩
      go_wp2_with fail
      refine HX.out.2.mono ?_
      rintro e w1 ⟨rfl, h1⟩
      have H1 := Lib.hid h1
      clear h1
      go_wp2_with fail
      refine (awake_f _).mono ?_
      rintro e w2 ⟨rfl, h2⟩
      have H2 := Lib.hid (below_call H1.out h2)
      clear h2
      go_wp2_with fail
      go_ret
      exact ⟨rfl, H2.out⟩
    have hpos : 8 ≤ fl ss ss.length := by
      have := fl_mono ss 1 ss.length (by omega) (Nat.le_refl _)
      rw [fl_succ ss 0 (by omega)] at this
      omega
    have h3080 : fl ss ss.length ≤ 3080 := by have := frms_size ss ss.length hk; unfold fl; omega
    obtain ⟨L, hL⟩ : ∃ L, L = fl ss ss.length := ⟨_, rfl⟩
    rw [← hL] at hpos h3080 hSl
    obtain ⟨t, ht⟩ : ∃ t, z.tmod (L : Int) = t := ⟨_, rfl⟩
    have ht1 : -(L : Int) < t ∧ t < (L : Int) := by
      subst ht
      rw [Int.tmod_eq_emod]
      have h1 := Int.emod_nonneg z (show (L : Int) ≠ 0 by omega)
      have h2 := Int.emod_lt_of_pos z (show 0 < (L : Int) by omega)
      split <;> omega
    obtain ⟨ht1, ht2⟩ := ht1
    obtain ⟨c, hc⟩ : ∃ c : Nat, (t + (L : Int)) % (L : Int) = c := ⟨((t + (L : Int)) % (L : Int)).toNat, by have := Int.emod_nonneg (t + (L : Int)) (show (L : Int) ≠ 0 by omega); omega⟩
    have hcl : (c : Int) < (L : Int) := by rw [← hc]; exact Int.emod_lt_of_pos _ (by omega)
    obtain ⟨N, hN1, hN2, hN3, hN4⟩ := Scans.cut hmay c (by have : (frms (bods ss)).length = L := by rw [← str_size, hSl]
                                                           omega)
    have hbl : (bods ss).length = ss.length := by unfold bods; rw [List.length_map]
    rw [bods_take] at hN2 hN4
    rw [bods_take] at hN3
    rw [hbl] at hN1 hN3
    have f1 : (frms (bods (ss.take N))).length = fl ss N := rfl
    have f2 : (frms (bods (ss.take (N + 1)))).length = fl ss (N + 1) := rfl
    rw [f1] at hN2 hN4
    rw [f2] at hN3
    obtain ⟨S, hS⟩ : ∃ S, S = str (frms (bods ss)) := ⟨_, rfl⟩
    rw [← hS] at hW hSl
    obtain ⟨C, hC⟩ : ∃ C, S.extract 0 c = C := ⟨_, rfl⟩
    have hCd : C.data.toList = (frms (bods ss)).take c := by rw [← hC, hS, str_cut, str_data, List.drop_zero]
    rw [← hCd] at hN4
    have hX := scan_any C (by rw [← hC, ByteArray.size_extract]; omega) _ _ _ hN4
    rw [str_bods, show (bods (ss.take N)).length = N from by unfold bods; rw [List.length_map, List.length_take]; omega] at hX
    have hSz : (S.size : Int) = L := by omega
    obtain ⟨W, hW'⟩ : ∃ W : Nat, W = (if fl ss N = c then 4 else 7) := ⟨_, rfl⟩
    rw [← hW'] at hX
    have hNn : (N : Int) ≤ ss.length := by omega
    obtain ⟨n, hn⟩ : ∃ n, n = ss.length := ⟨_, rfl⟩
    rw [← hn] at hW hFew hn10 hN1 hN3 hNn ⊢
    obtain ⟨e, he⟩ : ∃ e, e = fl ss N := ⟨_, rfl⟩
    rw [← he] at hX hN2 hW'
    have HX := Lib.hid (And.intro hFew (And.intro hW (And.intro hX (And.intro hT (And.intro hn (And.intro hN3 (And.intro he (And.intro hW' (And.intro hL hk)))))))))
    clear hFew hW hX hT hn hN3 he hW' hL hm hf hk hno hno' e1 e2 hmay hS hSl hCd hN4 f1 f2 hbl h0
    have hL0 : (L : Int) ≠ 0 := by omega
    go_enter Try.func6, Try.ntmps6
    go_wp2_with fail
    refine HX.out.1.mono ?_
    rintro e' w1 ⟨rfl, rfl⟩
    go_wp2_with fail
    refine HX.out.2.1.mono ?_
    rintro e' w1 ⟨rfl, h1⟩
    have H1 := Lib.hid h1
    clear h1
    go_wp2_with fail
    refine (HX.out.2.2.1 _).mono ?_
    rintro e' w2 ⟨a, c2, rfl, ho2, h2⟩
    rw [hc]
    have hB2 := below_call H1.out h2
    have H2 := Lib.hid (And.intro ho2 hB2)
    clear ho2 h2 hB2 hc ht ht1 ht2
    go_wp2_with fail
    go_loopw [10, 11] (fun k x wr => ∃ i : Nat, i ≤ N ∧ k = .int .i64 i ∧ x = .int .i64 (fl ss i : Nat) ∧ wr = w2) (fun k _ _ => n - (intOf k).toNat)
    case atStart => exact ⟨0, by omega, rfl, rfl, rfl⟩
    case round =>
      obtain ⟨i, hi, rfl, rfl, rfl⟩ := hrel
      obtain ⟨-, -, -, hT, hn, hN3, he, hW', hL, hk⟩ := HX.out
      by_cases hlt : i < N
      · have hil : i < ss.length := by omega
        obtain ⟨b, off, rfl, hbl, hcell⟩ := hT.below H2.out.2 i hil
        have hs := fl_succ ss i hil
        have hm := fl_mono ss (i + 1) N (by omega) (by omega)
        obtain ⟨x, hx⟩ : ∃ x, x = ss.getD i ByteArray.empty := ⟨_, rfl⟩
        rw [← hx] at hcell hs
        obtain ⟨f, hf⟩ : ∃ f, f = fl ss i := ⟨_, rfl⟩
        rw [← hf] at hs ⊢
        have hcond : (f : Int) + 8 + x.size ≤ c := by omega
        have hbound : (x.size : Int) ≤ 3080 := by omega
        have hin : (i : Int) < n := by omega
        have HF := Lib.hid (And.intro hf hs)
        clear hf hs hm hT hn hN3 he hW' hL hk hx
        go_wp2_with fail
        go_roundw
        case rel => exact ⟨i + 1, by omega, by go_num, by rw [HF.out.2]; go_num, by trivial⟩
        case measure => simp [intOf]; omega
      · obtain rfl : i = N := by omega
        have hq1 : ∀ w3 : World, Below wr.heap.size wr w3 → Calls Try.prog 17 #[.slice a i c2, .slice a0 i cap] w3 fun e w' => e = .returned (.bool true) ∧ Below w3.heap.size w3 w' := fun w3 h3 => by
          have hq1 := rsame_any (ss.take i) a a0 c2 cap w3 ((H2.out.1.call h3).texts) (fun j hj => by
            obtain ⟨b, off, e1, e2, e3⟩ := (hT.below (below_call H2.out.2 h3)) j (by rw [List.length_take] at hj; omega)
            exact ⟨b, off, e1, e2, by rw [e3, List.getD_eq_getElem?_getD, List.getD_eq_getElem?_getD, List.getElem?_take_of_lt (by rw [List.length_take] at hj; omega)]⟩) (by rw [List.length_take]; omega)
          rwa [show (ss.take i).length = i from by rw [List.length_take]; omega] at hq1
        rw [← he]
        have hsl := run_head a0 i n cap (by omega)
        by_cases hin : i < n
        · have hcut := hN3 hin
          have hil : i < ss.length := by omega
          obtain ⟨b, off, rfl, hbl, hcell⟩ := hT.below H2.out.2 i hil
          have hs := fl_succ ss i hil
          obtain ⟨x, hx⟩ : ∃ x, x = ss.getD i ByteArray.empty := ⟨_, rfl⟩
          rw [← hx] at hcell hs
          have hxb := hk i hil
          rw [← hx] at hxb
          have hcond : (c : Int) < (e : Int) + 8 + x.size := by omega
          have hbound : (x.size : Int) ≤ 3080 := by omega
          have hin' : (i : Int) < n := by omega
          have HQ := Lib.hid (And.intro hq1 hW')
          clear hq1 hT hn hN3 he hW' hL hk hs hx hxb hcut hil
          by_cases hec : (e : Int) = c
          · have hec' : ((e : Int) == c) = true := by simpa using hec
            have hW4 : (W : Int) = 4 := by rw [HQ.out.2, if_pos (by omega)]; rfl
            clear hec
            go_wp2_with fail
            refine (awake_f _).mono ?_
            rintro e' w3 ⟨rfl, h3⟩
            have hS3 := HQ.out.1 w3 h3
            have H3 := Lib.hid (And.intro (below_call H2.out.2 h3) hS3)
            clear h3 hS3
            go_wp2_with fail
            refine H3.out.2.mono ?_
            rintro e' w4 ⟨rfl, h4⟩
            have H4 := Lib.hid (below_call H3.out.1 h4)
            clear h4
            go_wp2_with fail
            go_ret
            exact ⟨rfl, H4.out⟩
          · have hec' : ((e : Int) == c) = false := by simpa using hec
            have hW4 : (W : Int) = 7 := by rw [HQ.out.2, if_neg (by omega)]; rfl
            clear hec
            go_wp2_with fail
            refine (awake_f _).mono ?_
            rintro e' w3 ⟨rfl, h3⟩
            have hS3 := HQ.out.1 w3 h3
            have H3 := Lib.hid (And.intro (below_call H2.out.2 h3) hS3)
            clear h3 hS3
            go_wp2_with fail
            refine H3.out.2.mono ?_
            rintro e' w4 ⟨rfl, h4⟩
            have H4 := Lib.hid (below_call H3.out.1 h4)
            clear h4
            go_wp2_with fail
            go_ret
            exact ⟨rfl, H4.out⟩
        · have hin' : ¬ (i : Int) < n := by omega
          have HQ := Lib.hid (And.intro hq1 hW')
          clear hq1 hT hn hN3 he hW' hL hk
          by_cases hec : (e : Int) = c
          · have hec' : ((e : Int) == c) = true := by simpa using hec
            have hW4 : (W : Int) = 4 := by rw [HQ.out.2, if_pos (by omega)]; rfl
            clear hec
            go_wp2_with fail
            refine (awake_f _).mono ?_
            rintro e' w3 ⟨rfl, h3⟩
            have hS3 := HQ.out.1 w3 h3
            have H3 := Lib.hid (And.intro (below_call H2.out.2 h3) hS3)
            clear h3 hS3
            go_wp2_with fail
            refine H3.out.2.mono ?_
            rintro e' w4 ⟨rfl, h4⟩
            have H4 := Lib.hid (below_call H3.out.1 h4)
            clear h4
            go_wp2_with fail
            go_ret
            exact ⟨rfl, H4.out⟩
          · have hec' : ((e : Int) == c) = false := by simpa using hec
            have hW4 : (W : Int) = 7 := by rw [HQ.out.2, if_neg (by omega)]; rfl
            clear hec
            go_wp2_with fail
            refine (awake_f _).mono ?_
            rintro e' w3 ⟨rfl, h3⟩
            have hS3 := HQ.out.1 w3 h3
            have H3 := Lib.hid (And.intro (below_call H2.out.2 h3) hS3)
            clear h3 hS3
            go_wp2_with fail
            refine H3.out.2.mono ?_
            rintro e' w4 ⟨rfl, h4⟩
            have H4 := Lib.hid (below_call H3.out.1 h4)
            clear h4
            go_wp2_with fail
            go_ret
            exact ⟨rfl, H4.out⟩
  · rw [fewB_false hf] at hFew
    have HX := Lib.hid hFew
    clear hFew hT hm hf
    obtain ⟨n, hn⟩ : ∃ n, n = ss.length := ⟨_, rfl⟩
    rw [← hn] at HX ⊢
    clear hn
    go_enter Try.func6, Try.ntmps6
    go_wp2_with fail
    refine HX.out.mono ?_
    rintro e w1 ⟨rfl, rfl⟩
    go_wp2_with fail
    refine (awake_f _).mono ?_
    rintro e w1 ⟨rfl, h1⟩
    go_wp2_with fail
    go_ret
    exact ⟨rfl, h1⟩
end Go.Proofs.Ytdmbombjkinboaa

namespace Go.Proofs.Ytdmbombjkinboaa.frameCutLaw
open Go.ChangeShapes Go.WideShapes Go.ChangeAt Go.RowKit
open Go.ChangeMaps (open_string shut_string)

theorem own : ownKnob Try.prog.godebug = none := by kernel_rfl
set_option maxRecDepth 100000 in
theorem lifted (os : Os) (started : os.Started) (H : Type) (enc : TypeId × Value → H) :
    ReturnsInHanded {} Try.checked os 6 .any (Rows.frameCutSpec.pre6 enc Try.prog Try.f6 Rows.frameCutRow.domain false) (Rows.frameCutSpec.post enc Try.prog Try.f6 false true false false) := by
  refine returnsInHanded_of_change (C := Try.checked) own started (by kernel_rfl) Try.func6
    (ChangeSpec.witness6 (enc := enc) (C := Try.checked) false ⟨#[], #[.slice none 0 0, .int .i64 0], []⟩ 8 (by kernel_rfl) (by kernel_rfl) (by kernel_rfl) (by kernel_rfl)) ?_
  intro W base args ds gs before hval0 hW hcnd _
  have hval : ∀ (j : Nat) t v, Try.f6.params[j]? = some t → args[j]? = some v → Value.okWide Try.prog W .any base t v := hval0
  have hW' := hW
  obtain ⟨p, q, hA0, hV, rfl, hfz, hnd⟩ := hW
  have hA : DataW.TrodAll enc Try.prog W 0 (fun _ => true) true Try.f6.params.toList args.toList ds p := hA0
  rw [Try.params6] at hA hval
  obtain ⟨v0, vs0, d0, ds0, p0, q0, hargs, rfl, rfl, h0, r0⟩ := trodAll_cons hA
  obtain ⟨v1, vs1, d1, ds1, p1, q1, rfl, rfl, rfl, h1, r1⟩ := trodAll_cons r0
  obtain ⟨rfl, rfl, rfl⟩ := trodAll_nil r1
  obtain rfl : args = #[v0, v1] := by cases args; simp_all
  obtain ⟨rfl, rfl⟩ := trodVars_none hV
  obtain ⟨a0, len0, cap0, rfl⟩ := okWide_slice Try.underlying35 (hval 0 35 v0 rfl rfl)
  have hk0 := h0
  obtain ⟨fuel0, hf0⟩ := h0
  obtain ⟨n1, rfl, rfl, rfl, ws1⟩ := open_int Try.underlying3 (hval 1 3 v1 rfl rfl) h1
  have hbd1 := ws1
  simp only [Lit.wf, Bool.and_eq_true, decide_eq_true_eq] at hbd1
  clear hA0 hval0
  simp only [List.append_nil] at hW'
  have hlt0 : ∀ x ∈ p0, x.block < W.heap.size := fun x hx => by simpa using hW'.lt x (by simp [hx])
  obtain ⟨ss0, hlen0, hmax0, hcap0, hT0⟩ := texts_ofc hf0 hlt0
  subst hlen0
  refine (fcut_law ss0 a0 cap0 hT0 hmax0 hcap0 n1 hbd1.1 hbd1.2 (w := W)).mono fun e W' ⟨he, hb⟩ => ?_
  subst he
  exact ⟨_, rfl, _, _, _, [], _, [], hW', trodAll_cons_mk (shut_bool Try.underlying4 _) trodAll_mk0, (trodAll_cons_mk (Below.trod laidOut (by kernel_rfl) (of_decide_eq_true (by kernel_rfl)) hk0 hb hlt0) (trodAll_cons_mk (shut_int Try.underlying3 ws1) trodAll_mk0)), rfl, hb.frame _, fun h => by cases h⟩
theorem over : Rows.frameCutRow.holds Try.pinned (OpenSpec.ofChange Rows.frameCutSpec) :=
  OpenClaim.holds_of_wide 6 Try.f6 rfl rfl rfl rfl rfl rfl rfl ⟨rfl, rfl, rfl, rfl, rfl⟩ rfl rfl rfl rfl rfl (by kernel_rfl) Try.func6 (by kernel_rfl)
    (of_decide_eq_true (by kernel_rfl)) (by unfold Func.isWrapper; first | (rw [if_pos (by decide +kernel)]; kernel_rfl) | (rw [if_neg (by decide +kernel)]; exact ⟨rfl, rfl⟩))
    (fun os started H enc _ => lifted os started H enc)
end Go.Proofs.Ytdmbombjkinboaa.frameCutLaw

namespace Go.Proofs.Ytdmbombjkinboaa
theorem frameCut_said : Rows.FrameCutSaid := frameCutLaw.over
end Go.Proofs.Ytdmbombjkinboaa
