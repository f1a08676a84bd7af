/- PROVED HERE: for every key, word and list of words the law WordsTags returns true (the tag, the tags, or the error, are the reference's; the last of the texts that are summed has the tag as its digest), and all read afterwards as they did. Its conditions: the two package-level tables of the digest hold what their initialisers lay (tied to the program's text by the card). -/
import Derived.Test.YtgoimggfpagojaaDoorWdAwake
import Derived.Test.YtgoimggfpagojaaDoorWdTags
import Derived.Test.YtgoimggfpagojaaDoorFewer
import Derived.Test.YtgoimggfpagojaaDoorLaid
namespace Go.Proofs.YtgoimggfpagojaaDoor
open Go.RowKit

def tl : Except Int (List ByteArray) → List ByteArray
  | .ok o => o
  | .error _ => []
def te {α : Type} : Except Int α → Int
  | .ok _ => 0
  | .error e => e
def tt : Except Int ByteArray → ByteArray
  | .ok o => o
  | .error _ => ⟨#[]⟩
theorem tagV_eq (r : Except Int ByteArray) : tagV r = .tuple #[.string (tt r), .int .i64 (te r)] := by cases r <;> rfl
theorem tagsAt_flat {B : Nat} {w : World} {v : Value} {R : Except Int (List ByteArray)} (h : TagsAt B w v R) : ∃ ad cap, v = .tuple #[.slice ad (tl R).length cap, .int .i64 (te R)] ∧ TextsAt w ad (tl R) := by
  cases R with
  | ok o =>
    obtain ⟨ad, cap, e, ho⟩ := h
    exact ⟨ad, cap, e, ho.texts⟩
  | error e => exact ⟨none, 0, h, (OwnT.nil 0 w).texts⟩
theorem tl_len (key : ByteArray) (ws : List ByteArray) : (tl (tagsE key ws)).length ≤ ws.length := by
  by_cases h0 : checkN key ws = 0
  · obtain ⟨_, _, _, h⟩ := tagsE_ok h0
    rw [h]
    show (Wd.tagsOf _).length ≤ _
    unfold Wd.tagsOf
    rw [List.length_map]
    refine Nat.le_trans (Wd.compact_length _) ?_
    rw [(Wd.srt_perm _).length_eq]
    unfold Wd.raw
    rw [List.length_map, List.length_map]; exact Nat.le_refl _
  · rw [tagsE_err h0]; exact Nat.zero_le _
set_option maxRecDepth 100000 in
set_option maxHeartbeats 2000000 in
theorem wtags_law {w : World} (key : ByteArray) (_ : key.size ≤ maxLen) (word : ByteArray) (_ : word.size ≤ maxLen) (ss : List ByteArray) (a0 : Option Addr) (cap : Nat) (hT : TextsAt w a0 ss) (hm : ss.length ≤ maxLen) (hG : Glob w) :
    Calls Tryd.prog 5 #[.string key, .string word, .slice a0 ss.length cap] w fun e w' => e = .returned (.bool true) ∧ Below w.heap.size w w' := by
  by_cases h1 : (100 : Int) < key.size
  · obtain ⟨n, hn⟩ : ∃ n, n = ss.length := ⟨_, rfl⟩
    rw [← hn]
    clear hT hm hn
    go_enter Tryd.func5, Tryd.ntmps5
    go_wp2_with fail
    refine (awake15_any _ hG).mono ?_
    rintro e w1 ⟨rfl, h1⟩
    go_wp2_with fail
    go_ret
    exact ⟨rfl, h1⟩
  by_cases h2 : (100 : Int) < word.size
  · obtain ⟨n, hn⟩ : ∃ n, n = ss.length := ⟨_, rfl⟩
    rw [← hn]
    clear hT hm hn
    go_enter Tryd.func5, Tryd.ntmps5
    go_wp2_with fail
    refine (awake15_any _ hG).mono ?_
    rintro e w1 ⟨rfl, h1⟩
    go_wp2_with fail
    go_ret
    exact ⟨rfl, h1⟩
  have few := few_any ss a0 cap 20 100 w hT hm
  by_cases hfew : FewOf ss 20 100
  · rw [fewB_true hfew] at few
    have h20 : ss.length ≤ 20 := by have := hfew.1; omega
    have hsz : ∀ x ∈ ss, x.size ≤ 1000000 := fun x hx => by
      obtain ⟨j, hj, rfl⟩ := List.mem_iff_getElem.1 hx
      have := hfew.2 j hj
      rw [List.getD_eq_getElem?_getD, List.getElem?_eq_getElem hj, Option.getD_some] at this
      omega
    have c1 := fun W (hb : Below w.heap.size w W) => wtag_any key word (by omega) W (hG.below hb)
    have c2 := fun W => rtag_any key word (by omega) W
    have c3 := fun W (hb : Below w.heap.size w W) => wtags_any key ss a0 cap (by omega) hsz W (hT.below hb) (hG.below hb)
    have c4 := fun W (hb : Below w.heap.size w W) => rtags_any key ss a0 cap (by omega) (fun x hx => by have := hsz x hx; omega) W (hT.below hb)
    have c5 := fun W (hb : Below w.heap.size w W) => wtexts_any key word (by omega) W (hG.below hb)
    have hLl := tl_len key ss
    obtain ⟨R, hR⟩ : ∃ R, R = tagsE key ss := ⟨_, rfl⟩
    rw [← hR] at c3 c4 hLl
    obtain ⟨L, hL⟩ : ∃ L, L = tl R := ⟨_, rfl⟩
    obtain ⟨K, hK⟩ : ∃ K, K = te R := ⟨_, rfl⟩
    rw [← hL] at hLl
    have hflat := fun (B : Nat) (W : World) (v : Value) (h : TagsAt B W v R) => tagsAt_flat h
    rw [← hL, ← hK] at hflat
    rw [tagV_eq] at c1 c2
    have hG0 := hG
    obtain ⟨n, hn⟩ : ∃ n, n = ss.length := ⟨_, rfl⟩
    rw [← hn] at few c3 c4 h20 hLl ⊢
    have hLs : L.length ≤ 1000000 := by omega
    have HE : (∃ e, tagE key word = .error e) ∨ (∃ t, tagE key word = .ok t) := by
      cases tagE key word with
      | ok t => exact .inr ⟨t, rfl⟩
      | error e => exact .inl ⟨e, rfl⟩
    rcases HE with ⟨e, hE⟩ | ⟨t, hE⟩
    · have he0 := tagE_err hE
      have hTT := tagTexts_err hE
      rw [hTT] at c5
      rw [hE] at c1 c2
      have H := Lib.hid (And.intro few (And.intro c1 (And.intro c2 (And.intro c3 (And.intro c4 (And.intro c5 (And.intro hflat (And.intro hLs hG))))))))
      clear few c1 c2 c3 c4 c5 hflat hLs hG hG0 hfew hsz hTT hE hT hm hn hLl hL hK hR h20
      go_enter Tryd.func5, Tryd.ntmps5
      go_wp2_with fail
      refine H.out.1.mono ?_
      rintro e0 w0 ⟨rfl, rfl⟩
      go_wp2_with fail
      refine (H.out.2.1 _ (Below.refl _ _)).mono ?_
      rintro e0 w1 ⟨rfl, k1⟩
      have K1 := Lib.hid k1
      clear k1
      go_wp2_with fail
      refine (H.out.2.2.1 _).mono ?_
      rintro e0 w2 ⟨rfl, k2⟩
      have K2 := Lib.hid (wbelow_call K1.out k2)
      clear k2
      go_wp2_with fail
      refine (H.out.2.2.2.1 _ K2.out).mono ?_
      rintro e0 w3 ⟨v3, rfl, t3, k3⟩
      obtain ⟨a3, c3, rfl, u3⟩ := H.out.2.2.2.2.2.2.1 _ _ _ t3
      have K3 := Lib.hid (And.intro (wbelow_call K2.out k3) u3)
      clear k3 t3 u3
      go_wp2_with fail
      refine (H.out.2.2.2.2.1 _ K3.out.1).mono ?_
      rintro e0 w4 ⟨v4, rfl, t4, k4⟩
      obtain ⟨a4, c4, rfl, u4⟩ := H.out.2.2.2.2.2.2.1 _ _ _ t4
      have K4 := Lib.hid (And.intro (wbelow_call K3.out.1 k4) (And.intro (K3.out.2.below k4) u4))
      clear k4 t4 u4
      go_wp2_with fail
      refine (H.out.2.2.2.2.2.1 _ K4.out.1).mono ?_
      rintro e0 w5 ⟨a5, c5, rfl, t5, k5⟩
      have K5 := Lib.hid (And.intro (wbelow_call K4.out.1 k5) (And.intro (K4.out.2.1.below k5) (K4.out.2.2.below k5)))
      clear k5 t5
      go_wp2_with fail
      refine (rsame_any L a3 a4 c3 c4 _ K5.out.2.1 K5.out.2.2 H.out.2.2.2.2.2.2.2.1).mono ?_
      rintro e0 w6 ⟨rfl, k6⟩
      have K6 := Lib.hid (wbelow_call K5.out.1 k6)
      clear k6
      go_wp2_with fail
      refine (awake15_any _ (H.out.2.2.2.2.2.2.2.2.below K6.out)).mono ?_
      rintro e0 w7 ⟨rfl, k7⟩
      have K7 := Lib.hid (wbelow_call K6.out k7)
      clear k7
      go_wp2_with fail
      go_ret
      exact ⟨rfl, K7.out⟩
    · obtain ⟨ta, tb, hTT, hsum, htb⟩ := tagTexts_ok hE
      rw [hTT] at c5
      rw [hE, show tt (Except.ok t) = t from rfl, show te (Except.ok t) = 0 from rfl] at c1 c2
      have hXX : (t.toList == t.toList) = true := by simp
      have csum := fun W => rsumref_any tb (by omega) W
      rw [hsum] at csum
      have H := Lib.hid (And.intro few (And.intro c1 (And.intro c2 (And.intro c3 (And.intro c4 (And.intro c5 (And.intro hflat (And.intro hLs (And.intro hG csum)))))))))
      clear few c1 c2 c3 c4 c5 hflat hLs hG hG0 hfew hsz hTT hE hT hm hn hLl hL hK hR h20 csum hsum htb
      go_enter Tryd.func5, Tryd.ntmps5
      go_wp2_with fail
      refine H.out.1.mono ?_
      rintro e0 w0 ⟨rfl, rfl⟩
      go_wp2_with fail
      refine (H.out.2.1 _ (Below.refl _ _)).mono ?_
      rintro e0 w1 ⟨rfl, k1⟩
      have K1 := Lib.hid k1
      clear k1
      go_wp2_with fail
      refine (H.out.2.2.1 _).mono ?_
      rintro e0 w2 ⟨rfl, k2⟩
      have K2 := Lib.hid (wbelow_call K1.out k2)
      clear k2
      go_wp2_with fail
      refine (H.out.2.2.2.1 _ K2.out).mono ?_
      rintro e0 w3 ⟨v3, rfl, t3, k3⟩
      obtain ⟨a3, c3, rfl, u3⟩ := H.out.2.2.2.2.2.2.1 _ _ _ t3
      have K3 := Lib.hid (And.intro (wbelow_call K2.out k3) u3)
      clear k3 t3 u3
      go_wp2_with fail
      refine (H.out.2.2.2.2.1 _ K3.out.1).mono ?_
      rintro e0 w4 ⟨v4, rfl, t4, k4⟩
      obtain ⟨a4, c4, rfl, u4⟩ := H.out.2.2.2.2.2.2.1 _ _ _ t4
      have K4 := Lib.hid (And.intro (wbelow_call K3.out.1 k4) (And.intro (K3.out.2.below k4) u4))
      clear k4 t4 u4
      go_wp2_with fail
      refine (H.out.2.2.2.2.2.1 _ K4.out.1).mono ?_
      rintro e0 w5 ⟨a5, c5, rfl, t5, k5⟩
      obtain ⟨b5, o5, rfl, -, -⟩ := t5 1 (show 1 < 2 by decide)
      have K5 := Lib.hid (And.intro (wbelow_call K4.out.1 k5) (And.intro (K4.out.2.1.below k5) (And.intro (K4.out.2.2.below k5) t5)))
      clear k5 t5
      go_wp2_with fail
      refine (rsame_any L a3 a4 c3 c4 _ K5.out.2.1 K5.out.2.2.1 H.out.2.2.2.2.2.2.2.1).mono ?_
      rintro e0 w6 ⟨rfl, k6⟩
      have K6 := Lib.hid (And.intro (wbelow_call K5.out.1 k6) (K5.out.2.2.2.below k6))
      clear k6
      go_wp2_with fail
      refine (awake15_any _ (H.out.2.2.2.2.2.2.2.2.1.below K6.out.1)).mono ?_
      rintro e0 w7 ⟨rfl, k7⟩
      have K7 := Lib.hid (And.intro (wbelow_call K6.out.1 k7) (K6.out.2.below k7))
      obtain ⟨bx, ox, ex, -, hc⟩ := (K6.out.2.below k7) 1 (show 1 < 2 by decide)
      injection ex with ex
      injection ex with ex1 ex2
      subst ex1 ex2
      have hc' : w7.cell? ⟨b5, o5 + 1, none⟩ = some (.string tb) := hc
      clear k7 hc
      go_wp2_with fail
      refine (H.out.2.2.2.2.2.2.2.2.2 _).mono ?_
      rintro e0 w8 ⟨rfl, k8⟩
      have K8 := Lib.hid (wbelow_call K7.out.1 k8)
      clear k8
      go_wp2_with fail
      go_ret
      exact ⟨rfl, K8.out⟩
  · rw [fewB_false hfew] at few
    obtain ⟨n, hn⟩ : ∃ n, n = ss.length := ⟨_, rfl⟩
    rw [← hn] at few ⊢
    have H := Lib.hid few
    clear few hfew hT hm hn
    go_enter Tryd.func5, Tryd.ntmps5
    go_wp2_with fail
    refine H.out.mono ?_
    rintro e w0 ⟨rfl, rfl⟩
    go_wp2_with fail
    refine (awake15_any _ hG).mono ?_
    rintro e w1 ⟨rfl, h1⟩
    go_wp2_with fail
    go_ret
    exact ⟨rfl, h1⟩
end Go.Proofs.YtgoimggfpagojaaDoor

namespace Go.Proofs.YtgoimggfpagojaaDoor.wordsTagsLaw
open Go.ChangeShapes Go.WideShapes Go.ChangeAt Go.RowKit
open Go.ChangeMaps (open_string shut_string)

set_option maxRecDepth 100000 in
theorem contract (H : Type) (enc : TypeId × Value → H) (W : World) (base : Nat) (args : Array Value) (ds gs : List (DataW H)) (before : List MemPlace)
    (hval : ∀ (j : Nat) t v, Tryd.f5.params[j]? = some t → args[j]? = some v → Value.okWide Tryd.prog W .any base t v)
    (hW : DataW.Whole enc Tryd.prog Tryd.f5.params.toList Rows.wordsTagsSpec.vars false W args.toList ds gs before) (hL : laidMetH Tryd.prog Rows.wordsTagsRow.laid W) :
    Calls Tryd.prog 5 args W fun e W' => ∃ v, e = .returned v ∧ Rows.wordsTagsSpec.post enc Tryd.prog Tryd.f5 false true false false W args v W' := by
  have hW' := hW
  obtain ⟨p, q, hA0, hV, rfl, hfz, hnd⟩ := hW
  have hA : DataW.TrodAll enc Tryd.prog W 0 (fun _ => true) true Tryd.f5.params.toList args.toList ds p := hA0
  rw [Tryd.params5] at hA hval
  obtain ⟨v0, vs0, d0, ds0, p0, q0, hargs, rfl, rfl, h0, r0⟩ := trodAll_cons hA
  obtain ⟨v1, vs1, d1, ds1, p1, q1, rfl, rfl, rfl, h1, r1⟩ := trodAll_cons r0
  obtain ⟨v2, vs2, d2, ds2, p2, q2, rfl, rfl, rfl, h2, r2⟩ := trodAll_cons r1
  obtain ⟨rfl, rfl, rfl⟩ := trodAll_nil r2
  obtain rfl : args = #[v0, v1, v2] := by cases args; simp_all
  obtain ⟨rfl, rfl⟩ := trodVars_none hV
  obtain ⟨s0, rfl, rfl, rfl, ws0⟩ := open_string Tryd.underlying9 (hval 0 9 v0 rfl rfl) h0
  obtain ⟨s1, rfl, rfl, rfl, ws1⟩ := open_string Tryd.underlying9 (hval 1 9 v1 rfl rfl) h1
  obtain ⟨a2, len2, cap2, rfl⟩ := okWide_slice Tryd.underlying30 (hval 2 30 v2 rfl rfl)
  have hk2 := h2
  obtain ⟨fuel2, hf2⟩ := h2
  clear hA0
  simp only [List.append_nil, List.nil_append] at hW'
  have hlt2 : ∀ x ∈ p2, x.block < W.heap.size := fun x hx => by simpa using hW'.lt x (by simp [hx])
  obtain ⟨ss2, hlen2, hmax2, hT2⟩ := texts_of hf2 hlt2
  subst hlen2
  refine (wtags_law s0 (by simpa using ws0) s1 (by simpa using ws1) ss2 a2 cap2 hT2 hmax2 (w := W) (hG := glob_of_laid hL)).mono fun e W' ⟨he, hb⟩ => ?_
  subst he
  exact ⟨_, rfl, _, _, _, [], _, [], hW', trodAll_cons_mk (shut_bool Tryd.underlying4 _) trodAll_mk0, (trodAll_cons_mk (shut_string Tryd.underlying9 ws0) (trodAll_cons_mk (shut_string Tryd.underlying9 ws1) (trodAll_cons_mk (Below.trod laidOut (by kernel_rfl) (of_decide_eq_true (by kernel_rfl)) hk2 hb hlt2) trodAll_mk0))), rfl, hb.frame _, fun h => by cases h⟩
theorem laid_met (os : Os) : laidMet Tryd.prog Rows.wordsTagsRow.laid ((laidWorld os).forCall (fun _ _ => 0) ⟨#[], #[.string ⟨#[]⟩, .string ⟨#[]⟩, .slice none 0 0], []⟩).memory :=
  laidMet_of_run' 8 (by kernel_rfl) (by kernel_rfl)
theorem reads (os : Os) {H : Type} (enc : TypeId × Value → H) : ∃ places, DataW.whole enc Tryd.prog ((laidWorld os).forCall (fun _ _ => 0) ⟨#[], #[.string ⟨#[]⟩, .string ⟨#[]⟩, .slice none 0 0], []⟩).memory Tryd.f5.params.toList Rows.wordsTagsSpec.vars false #[Value.string ⟨#[]⟩, .string ⟨#[]⟩, .slice none 0 0].toList 8 = some ([.lit (.string []), .lit (.string []), .nil], [], places) :=
  ⟨[], by kernel_rfl⟩
set_option maxRecDepth 100000 in
theorem lifted (os : Os) (started : os.Started) (H : Type) (enc : TypeId × Value → H) (F : Stop.Interp) :
    ReturnsInHanded {} Tryd.checked os 5 .any ((OpenSpec.ofChange Rows.wordsTagsSpec).preRow enc Tryd.prog Tryd.f5 Rows.wordsTagsRow.domain false Rows.wordsTagsRow.laid) (((OpenSpec.ofChange Rows.wordsTagsSpec).at F).post enc Tryd.prog Tryd.f5 false true false false) := by
  obtain ⟨places, hx⟩ := reads os enc
  refine returnsInHanded_of_row (C := Tryd.checked) (s := OpenSpec.ofChange Rows.wordsTagsSpec) own started (by kernel_rfl) Tryd.func5
    (witness_row_at (enc := enc) (C := Tryd.checked) false (laidWorld os) #[.string ⟨#[]⟩, .string ⟨#[]⟩, .slice none 0 0] rfl (by kernel_rfl) (by kernel_rfl) (by kernel_rfl)
      (OpenSpec.preRow_of_cond 8 hx (by kernel_rfl) (fun k hk => by cases hk) (by kernel_rfl) (laid_met os))) ?_
  intro W base args ds gs before hval hW _ _ _ hL _ _
  exact contract H enc W base args ds gs before hval hW hL
theorem said : Rows.WordsTagsSaid :=
  OpenClaim.holds_of_cond 5 Tryd.f5 rfl rfl rfl rfl rfl rfl rfl ⟨rfl, rfl, rfl, rfl, rfl⟩ rfl rfl rfl rfl rfl (by kernel_rfl) Tryd.func5 (by kernel_rfl)
    (of_decide_eq_true (by kernel_rfl)) (by unfold Func.isWrapper; first | (rw [if_pos (by decide +kernel)]; kernel_rfl) | (rw [if_neg (by decide +kernel)]; exact ⟨rfl, rfl⟩))
    (fun os started H enc _ F => by rw [OpenClaim.pre_eq_preRow]; exact lifted os started H enc F)
theorem plain (f : FuncId) (fn : Func) (hf : Tryd.pinned.checked.prog.funcNamed "lockbox/lockboxlaw15.WordsTags" = some f) (hfn : Tryd.pinned.checked.prog.funcs[f]? = some fn) :
    false = Tryd.pinned.checked.prog.looks [] ∧ ∀ (j : Nat) t, fn.params[j]? = some t → Tryd.pinned.checked.prog.wantsStandIn t = false := by
  obtain rfl : f = 5 := Option.some.inj ((show Tryd.prog.funcNamed "lockbox/lockboxlaw15.WordsTags" = some 5 by kernel_rfl).symm.trans hf) |>.symm
  obtain rfl : fn = Tryd.f5 := (Option.some.inj (Tryd.func5.symm.trans hfn)).symm
  refine ⟨by kernel_rfl, fun j t ht => ?_⟩
  rw [Tryd.params5] at ht
  have hm : t ∈ [9, 9, 30] := by simpa using Array.mem_of_getElem? ht
  have hall : ([9, 9, 30].all fun u => !Tryd.prog.wantsStandIn u) = true := by kernel_rfl
  exact (show Tryd.prog.wantsStandIn t = false by simpa using List.all_eq_true.1 hall t hm)
end Go.Proofs.YtgoimggfpagojaaDoor.wordsTagsLaw

namespace Go.Proofs.YtgoimggfpagojaaDoor
/-- THE CARD. -/
theorem wordsTags_card : Rows.WordsTagsCardSaid :=
  Claim7.holds_tied_plain_at .later [] _ _ _ _ wordsTagsLaw.said (fun _ h => by cases h) (by kernel_rfl) (fun _ h => by cases h) wordsTags_row_tie rfl ⟨rfl, rfl⟩ (by kernel_rfl) rfl wordsTagsLaw.plain (by kernel_rfl)
end Go.Proofs.YtgoimggfpagojaaDoor
