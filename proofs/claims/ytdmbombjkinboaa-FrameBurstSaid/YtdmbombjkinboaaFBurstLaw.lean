/- PROVED HERE: for every text and every two numbers the law FrameBurst returns true (a body some of whose bits within 32 that stand side by side are turned is refused in its frame), and all read afterwards as they did. No condition. -/
import Derived.Test.YtdmbombjkinboaaFAwake
import Derived.Test.YtdmbombjkinboaaZRef
import Derived.Test.YtdmbombjkinboaaRows
import Derived.ProofKit
import Derived.OpenShut
namespace Go.Proofs.Ytdmbombjkinboaa
open Go.RowKit
open Fr

attribute [local go_sem] V_xor V_and V_and1 V_shr
theorem turn_value (c : UInt8) (m : Nat) (hm : m < 8) : bits .xor .u8 (c.toNat : Int) ((2 : Int) ^ m % 256) = ((c ^^^ UInt8.ofNat (2 ^ m)).toNat : Int) := by
  have e : (2 : Int) ^ m % 256 = ((UInt8.ofNat (2 ^ m)).toNat : Int) := by
    match m, hm with
    | 0, _ => rfl | 1, _ => rfl | 2, _ => rfl | 3, _ => rfl | 4, _ => rfl | 5, _ => rfl | 6, _ => rfl | 7, _ => rfl
  rw [e, u8_xor_nat _ _ c.toNat_lt (UInt8.toNat_lt _), UInt8.toNat_xor]
theorem bit_of (x : BitVec 32) (k : Nat) : x >>> k &&& 1#32 = (if x.getLsbD k then 1#32 else 0#32) := by
  apply BitVec.eq_of_getLsbD_eq
  intro i hi
  simp only [BitVec.getLsbD_and, BitVec.getLsbD_ushiftRight, BitVec.getLsbD_one]
  cases i with
  | zero => cases x.getLsbD k <;> simp
  | succ i => cases x.getLsbD k <;> simp
/-- The frame, its body turned so far. -/
def ftu (l : List UInt8) (p : Nat) (x : BitVec 32) (k : Nat) : List UInt8 := (frm l).take 8 ++ Zc.turned l p x k
theorem hd_length (l : List UInt8) : ((frm l).take 8).length = 8 := by rw [List.length_take, frm_length]; omega
theorem ftu_length (l : List UInt8) (p : Nat) (x : BitVec 32) (k : Nat) : (ftu l p x k).length = 8 + l.length := by
  unfold ftu; rw [List.length_append, hd_length, Zc.turned_length]
theorem ftu_body (l : List UInt8) (p : Nat) (x : BitVec 32) (k i : Nat) : (ftu l p x k).getD (8 + i) 0 = (Zc.turned l p x k).getD i 0 := by
  unfold ftu
  rw [List.getD_eq_getElem?_getD, List.getElem?_append_right (by rw [hd_length]; omega), hd_length, Nat.add_sub_cancel_left, List.getD_eq_getElem?_getD]
theorem ftu_head (l : List UInt8) (p : Nat) (x : BitVec 32) (k m i : Nat) (hi : i < 8) : (ftu l p x k).getD i 0 = (ftu l p x m).getD i 0 := by
  unfold ftu
  rw [List.getD_eq_getElem?_getD, List.getD_eq_getElem?_getD, List.getElem?_append_left (by rw [hd_length]; omega), List.getElem?_append_left (by rw [hd_length]; omega)]
theorem frm_take8 (l : List UInt8) : (frm l).take 8 ++ l = frm l := rfl
theorem ftu_none (l : List UInt8) (p : Nat) (x : BitVec 32) : ftu l p x 0 = frm l := by
  unfold ftu; rw [Zc.turned_none _ _ _ _ (fun q _ => Zc.fB_zero p x q), frm_take8]
theorem ftu_fst (l : List UInt8) (p : Nat) (x : BitVec 32) (hm : may l) (hp : p < 8 * l.length) (hne : ftu l p x 32 ≠ frm l) : fst (ftu l p x 32) = (0, 8) := by
  have h := fst_turned l (Zc.turned l p x 32) [] hm (Zc.turned_length _ _ _ _) (fun e => hne (by
    have := burst_sum (len3 l.length) l rfl p x hp e
    unfold ftu; rw [this, frm_take8]))
  rwa [List.append_nil] at h
set_option maxRecDepth 100000 in
set_option maxHeartbeats 2000000 in
theorem fburst_law (s : ByteArray) (_ : s.size ≤ maxLen) (at_ : Int) (_ : -9223372036854775808 ≤ at_) (_ : at_ ≤ 9223372036854775807) (x : BitVec 32) (w : World) :
    Calls Try.prog 7 #[.string s, .int .i64 at_, .int .u32 (V x)] w fun e w' => e = .returned (.bool true) ∧ Below w.heap.size w w' := by
  by_cases hbig : (2000 : Int) < s.size
  · go_enter Try.func7, Try.ntmps7
    go_wp2_with fail
    refine (awake_f _).mono ?_
    rintro e w1 ⟨rfl, h1⟩
    go_wp2_with fail
    go_ret
    exact ⟨rfl, h1⟩
  by_cases h0 : s.toList.isEmpty = true
  · go_enter Try.func7, Try.ntmps7
    go_wp2_with fail
    refine (awake_f _).mono ?_
    rintro e w1 ⟨rfl, h1⟩
    go_wp2_with fail
    go_ret
    exact ⟨rfl, h1⟩
  have h0' : s.toList.isEmpty = false := by simpa using h0
  have hpos : (0 : Int) < s.size := by have := size_full h0; omega
  have hmay : may s.data.toList := may_size.2 (by omega)
  obtain ⟨t, ht⟩ : ∃ t, at_.tmod (8 * (s.size : Int)) = t := ⟨_, rfl⟩
  have ht1 : -(8 * (s.size : Int)) < t ∧ t < 8 * (s.size : Int) := by
    subst ht
    rw [Int.tmod_eq_emod]
    have h1 := Int.emod_nonneg at_ (show 8 * (s.size : Int) ≠ 0 by omega)
    have h2 := Int.emod_lt_of_pos at_ (show 0 < 8 * (s.size : Int) by omega)
    split <;> omega
  obtain ⟨ht1, ht2⟩ := ht1
  obtain ⟨p, hp⟩ : ∃ p : Nat, (t + 8 * (s.size : Int)) % (8 * (s.size : Int)) = p := ⟨((t + 8 * (s.size : Int)) % (8 * (s.size : Int))).toNat, by have := Int.emod_nonneg (t + 8 * (s.size : Int)) (show 8 * (s.size : Int) ≠ 0 by omega); omega⟩
  have hpl : (p : Int) < 8 * (s.size : Int) := by rw [← hp]; exact Int.emod_lt_of_pos _ (by omega)
  have hX := wrap_any s (by omega)
  rw [wrapE_ok hmay] at hX
  have hSz : ((wrapS s).size : Int) = (s.size : Int) + 8 := by rw [wrapS_ok hmay, str_size, frm_length]; simp; omega
  have hSd : (wrapS s).data.toList = frm s.data.toList := by rw [wrapS_ok hmay, str_data]
  obtain ⟨S, hS⟩ : ∃ S, S = wrapS s := ⟨_, rfl⟩
  rw [← hS] at hX hSz hSd
  have h80 : (8 : Int) * s.size ≠ 0 := by omega
  obtain ⟨l, hl⟩ : ∃ l, l = s.data.toList := ⟨_, rfl⟩
  have hll : l.length = s.size := by rw [hl]; simp
  have HX := Lib.hid (And.intro hX (And.intro hS (And.intro hmay (And.intro (hl ▸ hSd) (And.intro hll hl)))))
  clear hX hS hmay hSd h0 hl hll
  go_enter Try.func7, Try.ntmps7
  go_wp2_with fail
  refine (HX.out.1 _).mono ?_
  rintro e w1 ⟨rfl, h1⟩
  obtain ⟨cap, w2, hcv, hrow, hb2, hz2⟩ := conv_bytes w1 S
  have hne8 : ((S.size : Int) != (s.size : Int) + 8) = false := by rw [hSz]; simp
  have H2 := Lib.hid (And.intro hrow (And.intro (below_call h1 hb2) (And.intro hz2 h1.size)))
  clear hrow hb2 hz2 h1
  go_wp2_with fail
  simp only [hp]
  clear hcv ht hp ht1 ht2 h0' hne8
  go_loopw [12] (fun i wr => ∃ k : Nat, k ≤ 32 ∧ i = .int .i64 k ∧ Row8 w1.heap.size wr w1.heap.size (ftu l p x k) ∧ Below w.heap.size w wr) (fun i _ => 32 - (intOf i).toNat)
  case atStart => exact ⟨0, by omega, rfl, by rw [ftu_none, ← HX.out.2.2.2.1]; exact H2.out.1, H2.out.2.1⟩
  case round =>
    obtain ⟨k, hk, rfl, hrow, hb⟩ := hrel
    have hw1 : w.heap.size ≤ w1.heap.size := H2.out.2.2.2
    by_cases hlt : k < 32
    · by_cases hin : (p : Int) + k < 8 * (s.size : Int)
      · have hbit := bit_of x k
        have hi2 : (p + k) / 8 < l.length := by have := HX.out.2.2.2.2.1; omega
        cases hbk : x.getLsbD k with
        | true =>
          rw [hbk, if_pos rfl] at hbit
          have hjl : 8 + (p + k) / 8 < (ftu l p x k).length := by rw [ftu_length]; omega
          obtain ⟨c, hc0⟩ : ∃ c, c = (ftu l p x k).getD (8 + (p + k) / 8) 0 := ⟨_, rfl⟩
          have hcell := hrow.2.2 _ hjl
          rw [← hc0] at hcell
          obtain ⟨hc, hf⟩ := hcell
          have H := Lib.hid (And.intro hrow (And.intro hb (And.intro hbk (And.intro hc0 (And.intro hjl hi2)))))
          clear hrow hb hbk hc0 hjl hi2
          have hv1 : V 1#32 = 1 := rfl
          have hidx : 8 + (p + k) / 8 < S.size := by omega
          go_wp2_with fail
          go_roundw
          case rel =>
            rw [turn_value c _ (Nat.mod_lt _ (by decide))]
            refine ⟨k + 1, by omega, by go_num, ?_, H.out.2.1.setCell (by exact hw1) _⟩
            refine H.out.1.put (8 + (p + k) / 8) H.out.2.2.2.2.1 _ (by rw [ftu_length, ftu_length]) ?_ (fun i hi hne => ?_)
            · rw [ftu_body, Zc.turned_at _ _ _ _ H.out.2.2.1 H.out.2.2.2.2.2, ← ftu_body, H.out.2.2.2.1]
            · rw [ftu_length] at hi
              by_cases h8 : i < 8
              · exact ftu_head _ _ _ _ _ _ h8
              · obtain ⟨j, rfl⟩ : ∃ j, i = 8 + j := ⟨i - 8, by omega⟩
                rw [ftu_body, ftu_body]
                exact Zc.turned_else _ _ _ _ _ (by omega) (.inl (by omega))
          case measure => simp [intOf]; omega
        | false =>
          rw [hbk, if_neg (by decide)] at hbit
          have hst : ftu l p x (k + 1) = ftu l p x k := by unfold ftu; rw [Zc.turned_stay l p x k (.inr hbk)]
          have H := Lib.hid (And.intro hrow (And.intro hb hst))
          clear hrow hb hbk hst hi2
          have hv1 : V 0#32 = 0 := rfl
          go_wp2_with fail
          go_roundw
          case rel => exact ⟨k + 1, by omega, by go_num, by rw [H.out.2.2]; exact H.out.1, H.out.2.1⟩
          case measure => simp [intOf]; omega
      · have hst : ftu l p x (k + 1) = ftu l p x k := by unfold ftu; rw [Zc.turned_stay l p x k (.inl (by have := HX.out.2.2.2.2.1; omega))]
        have H := Lib.hid (And.intro hrow (And.intro hb hst))
        clear hrow hb hst
        go_wp2_with fail
        go_roundw
        case rel => exact ⟨k + 1, by omega, by go_num, by rw [H.out.2.2]; exact H.out.1, H.out.2.1⟩
        case measure => simp [intOf]; omega
    · obtain rfl : k = 32 := by omega
      have H := Lib.hid (And.intro hrow hb)
      have hln : (ftu l p x 32).length = S.size := by rw [ftu_length]; have := HX.out.2.2.2.2.1; omega
      have hcv1 := hrow.conv S.size hln cap
      clear hrow hb
      obtain ⟨L, hL⟩ : ∃ L, L = str (ftu l p x 32) := ⟨_, rfl⟩
      rw [← hL] at hcv1
      have hLs : L.size = S.size := by rw [hL, str_size, hln]
      have hF := front_any L (by omega)
      have hp8 : p < 8 * l.length := by have := HX.out.2.2.2.2.1; omega
      have HLL := Lib.hid hL
      have hml : may l := by rw [HX.out.2.2.2.2.2]; exact HX.out.2.2.1
      by_cases heq : ftu l p x 32 = frm l
      · have hSL : L = S := by
          rw [hL, heq, HX.out.2.1, wrapS_ok HX.out.2.2.1, HX.out.2.2.2.2.2]
        have hf := fr_frm HX.out.2.2.1 ⟨#[]⟩
        have hcn : wrapS s ++ (⟨#[]⟩ : ByteArray) = S := by
          rw [HX.out.2.1]; apply Go.WideShapes.bytes_inj; rw [ByteArray.data_append]; simp
        rw [hcn, ← hSL] at hf
        rw [hf.1, hf.2.1, hf.2.2] at hF
        have hcs : (L.toList == S.toList) = true := by rw [hSL]; simp
        have hss : (s.toList == s.toList) = true := by simp
        have HL := Lib.hid (And.intro hF hln)
        clear hF hln hL hLs hp8 hml heq hSL hf hcn
        go_wp2_with fail
        refine (HL.out.1 _).mono ?_
        rintro e w3 ⟨rfl, h3⟩
        have hcv2 := (H.out.1.call h3).conv S.size HL.out.2 cap
        rw [← HLL.out] at hcv2
        have H3 := Lib.hid (below_call H.out.2 h3)
        clear h3
        go_wp2_with fail
        refine (awake_f _).mono ?_
        rintro e w4 ⟨rfl, h4⟩
        have H4 := Lib.hid (below_call H3.out h4)
        clear h4
        go_wp2_with fail
        go_ret
        exact ⟨rfl, H4.out⟩
      · have hf := ftu_fst l p x hml hp8 heq
        have hLd : L.data.toList = ftu l p x 32 := by rw [hL, str_data]
        rw [← hLd] at hf
        have e1 : frB L = ⟨#[]⟩ := by unfold frB; rw [hf]; rfl
        have e2 : frR L = ⟨#[]⟩ := by unfold frR; rw [hf]; rfl
        have e3 : frE L = 8 := by unfold frE; rw [hf]; rfl
        rw [e1, e2, e3] at hF
        have hcs : (L.toList == S.toList) = false := by
          have : L.toList ≠ S.toList := fun e => heq (by
            rw [toList_data, toList_data] at e
            rw [← hLd, e, HX.out.2.2.2.1])
          simpa using this
        have HL := Lib.hid (And.intro hF hln)
        clear hF hln hL hLs hp8 hml heq hf hLd e1 e2 e3
        go_wp2_with fail
        refine (HL.out.1 _).mono ?_
        rintro e w3 ⟨rfl, h3⟩
        have hcv2 := (H.out.1.call h3).conv S.size HL.out.2 cap
        rw [← HLL.out] at hcv2
        have H3 := Lib.hid (below_call H.out.2 h3)
        clear h3
        go_wp2_with fail
        refine (awake_f _).mono ?_
        rintro e w4 ⟨rfl, h4⟩
        have H4 := Lib.hid (below_call H3.out h4)
        clear h4
        go_wp2_with fail
        go_ret
        exact ⟨rfl, H4.out⟩
end Go.Proofs.Ytdmbombjkinboaa

namespace Go.Proofs.Ytdmbombjkinboaa.frameBurstLaw
open Go.ChangeShapes Go.WideShapes Go.ChangeAt Go.RowKit
open Go.ChangeMaps (open_string shut_string)

theorem own : ownKnob Try.prog.godebug = none := by kernel_rfl
set_option maxRecDepth 100000 in
theorem lifted (os : Os) (started : os.Started) (H : Type) (enc : TypeId × Value → H) :
    ReturnsInHanded {} Try.checked os 7 .any (Rows.frameBurstSpec.pre6 enc Try.prog Try.f7 Rows.frameBurstRow.domain false) (Rows.frameBurstSpec.post enc Try.prog Try.f7 false true false false) := by
  refine returnsInHanded_of_change (C := Try.checked) own started (by kernel_rfl) Try.func7
    (ChangeSpec.witness6 (enc := enc) (C := Try.checked) false ⟨#[], #[.string ⟨#[]⟩, .int .i64 0, .int .u32 0], []⟩ 8 (by kernel_rfl) (by kernel_rfl) (by kernel_rfl) (by kernel_rfl)) ?_
  intro W base args ds gs before hval0 hW hcnd _
  have hval : ∀ (j : Nat) t v, Try.f7.params[j]? = some t → args[j]? = some v → Value.okWide Try.prog W .any base t v := hval0
  have hW' := hW
  obtain ⟨p, q, hA0, hV, rfl, hfz, hnd⟩ := hW
  have hA : DataW.TrodAll enc Try.prog W 0 (fun _ => true) true Try.f7.params.toList args.toList ds p := hA0
  rw [Try.params7] at hA hval
  obtain ⟨v0, vs0, d0, ds0, p0, q0, hargs, rfl, rfl, h0, r0⟩ := trodAll_cons hA
  obtain ⟨v1, vs1, d1, ds1, p1, q1, rfl, rfl, rfl, h1, r1⟩ := trodAll_cons r0
  obtain ⟨v2, vs2, d2, ds2, p2, q2, rfl, rfl, rfl, h2, r2⟩ := trodAll_cons r1
  obtain ⟨rfl, rfl, rfl⟩ := trodAll_nil r2
  obtain rfl : args = #[v0, v1, v2] := by cases args; simp_all
  obtain ⟨rfl, rfl⟩ := trodVars_none hV
  obtain ⟨s0, rfl, rfl, rfl, ws0⟩ := open_string Try.underlying9 (hval 0 9 v0 rfl rfl) h0
  obtain ⟨n1, rfl, rfl, rfl, ws1⟩ := open_int Try.underlying3 (hval 1 3 v1 rfl rfl) h1
  have hbd1 := ws1
  simp only [Lit.wf, Bool.and_eq_true, decide_eq_true_eq] at hbd1
  obtain ⟨n2, rfl, rfl, rfl, ws2⟩ := open_int Try.underlying46 (hval 2 46 v2 rfl rfl) h2
  obtain ⟨x2, rfl⟩ := u32_of ws2
  clear hA0 hval0
  simp only [List.append_nil] at hW'
  refine (fburst_law s0 (by simpa using ws0) n1 hbd1.1 hbd1.2 x2 (w := W)).mono fun e W' ⟨he, hb⟩ => ?_
  subst he
  exact ⟨_, rfl, _, _, _, [], [], [], hW', trodAll_cons_mk (shut_bool Try.underlying4 _) trodAll_mk0, (trodAll_cons_mk (shut_string Try.underlying9 ws0) (trodAll_cons_mk (shut_int Try.underlying3 ws1) (trodAll_cons_mk (shut_int Try.underlying46 ws2) trodAll_mk0))), rfl, hb.frame _, fun h => by cases h⟩
theorem over : Rows.frameBurstRow.holds Try.pinned (OpenSpec.ofChange Rows.frameBurstSpec) :=
  OpenClaim.holds_of_wide 7 Try.f7 rfl rfl rfl rfl rfl rfl rfl ⟨rfl, rfl, rfl, rfl, rfl⟩ rfl rfl rfl rfl rfl (by kernel_rfl) Try.func7 (by kernel_rfl)
    (of_decide_eq_true (by kernel_rfl)) (by unfold Func.isWrapper; first | (rw [if_pos (by decide +kernel)]; kernel_rfl) | (rw [if_neg (by decide +kernel)]; exact ⟨rfl, rfl⟩))
    (fun os started H enc _ => lifted os started H enc)
end Go.Proofs.Ytdmbombjkinboaa.frameBurstLaw

namespace Go.Proofs.Ytdmbombjkinboaa
theorem frameBurst_said : Rows.FrameBurstSaid := frameBurstLaw.over
end Go.Proofs.Ytdmbombjkinboaa
