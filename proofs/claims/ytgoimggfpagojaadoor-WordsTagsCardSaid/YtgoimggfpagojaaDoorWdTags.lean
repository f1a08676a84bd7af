/- words.Tags, Texts. -/
import Derived.Test.YtgoimggfpagojaaDoorWdTag
import Derived.Test.YtgoimggfpagojaaDoorWdSort
import Derived.Test.YtgoimggfpagojaaDoorMTexts
namespace Go.Proofs.YtgoimggfpagojaaDoor
open Go.RowKit

/-- A word's tag, if it is one. -/
def tg (key x : ByteArray) : ByteArray := match Wd.norm x.data.toList with
  | .ok y => tagT key y
  | .error _ => ByteArray.empty
theorem tagAll_eq {key : ByteArray} (h32 : key.size = 32) : ∀ (ws o : List ByteArray), tagAll key o ws = match allN ws with
    | .ok _ => .ok ((ws.map (tg key)).foldl Wd.put o)
    | .error e => .error e
  | [], o => rfl
  | x :: r, o => by
    rw [tagAll, allN]
    unfold tagE
    rw [if_neg (by omega)]
    cases h : Wd.norm x.data.toList with
    | error e => rfl
    | ok y =>
      show tagAll key (Wd.put o (tagT key y)) r = _
      rw [tagAll_eq h32 r]
      have e : tg key x = tagT key y := by unfold tg; rw [h]
      rw [List.map_cons, List.foldl_cons, e]
theorem tagsE_err {key : ByteArray} {ws : List ByteArray} (h : checkN key ws ≠ 0) : tagsE key ws = .error (checkN key ws) := by
  unfold checkN at h ⊢
  unfold tagsE
  by_cases h32 : key.size = 32
  · rw [if_neg (by omega), if_neg (by omega)]
    rw [if_neg (by omega)] at h
    rw [tagAll_eq h32]
    cases e : allN ws with
    | error e => rfl
    | ok u =>
      rw [e] at h
      by_cases h12 : 12 < ws.length
      · show (if 12 < ws.length then _ else _) = Except.error (if 12 < ws.length then _ else _)
        rw [if_pos h12, if_pos h12]
      · exact absurd (if_neg h12) h
  · rw [if_pos h32, if_pos h32]
theorem allN_norm : ∀ {ws : List ByteArray} {u : Unit}, allN ws = .ok u → ∀ x ∈ ws, ∃ y, Wd.norm x.data.toList = .ok y
  | [], _, _, x, hx => by cases hx
  | a :: r, u, h, x, hx => by
    rw [allN] at h
    cases e : Wd.norm a.data.toList with
    | error e2 => rw [e] at h; cases h
    | ok y =>
      rw [e] at h
      rcases List.mem_cons.1 hx with rfl | hx
      · exact ⟨y, e⟩
      · exact allN_norm h x hx
theorem tagsE_ok {key : ByteArray} {ws : List ByteArray} (h : checkN key ws = 0) : key.size = 32 ∧ ws.length ≤ 12 ∧ (∀ x ∈ ws, tagE key x = .ok (tg key x)) ∧ tagsE key ws = .ok (Wd.tagsOf (ws.map (tg key))) := by
  unfold checkN at h
  by_cases h32 : key.size = 32
  · rw [if_neg (by omega)] at h
    unfold tagsE
    rw [if_neg (by omega), tagAll_eq h32]
    cases e : allN ws with
    | error e2 =>
      rw [e] at h
      exfalso
      have : ∀ (l : List ByteArray) (e2 : Int), allN l = .error e2 → e2 ≠ 0 := by
        intro l
        induction l with
        | nil => intro e2 h; cases h
        | cons a r ih =>
          intro e2 h
          rw [allN] at h
          cases e3 : Wd.norm a.data.toList with
          | error e4 => rw [e3] at h; injection h with h; subst h; exact norm_ne e3
          | ok y => rw [e3] at h; exact ih _ h
      exact this _ _ e h
    | ok u =>
      rw [e] at h
      by_cases h12 : 12 < ws.length
      · exfalso
        have h' : (if 12 < ws.length then (2 : Int) else 0) = 0 := h
        rw [if_pos h12] at h'
        omega
      · refine ⟨h32, by omega, fun x hx => ?_, ?_⟩
        · obtain ⟨y, hy⟩ := allN_norm e x hx
          unfold tagE tg
          rw [if_neg (by omega), hy]
        · show (if 12 < ws.length then _ else _) = _
          rw [if_neg h12, Wd.tagsOf_eq]
  · rw [if_pos h32] at h
    omega
theorem take_snoc' {l : List ByteArray} {k : Nat} (h : k < l.length) : l.take (k + 1) = l.take k ++ [l.getD k ByteArray.empty] := by
  rw [List.take_add_one, List.getD_eq_getElem?_getD, List.getElem?_eq_getElem h]; rfl
set_option maxRecDepth 100000 in
set_option maxHeartbeats 2000000 in
theorem wtags_any (key : ByteArray) (ws : List ByteArray) (a0 : Option Addr) (cap0 : Nat) (hl : ws.length ≤ 900000) (hw : ∀ x ∈ ws, x.size ≤ 1000000) (w : World) (hT : TextsAt w a0 ws) (hG : Glob w) :
    Calls Tryd.prog 21 #[.string key, .slice a0 ws.length cap0] w fun e w' => ∃ v, e = .returned v ∧ TagsAt w.heap.size w' v (tagsE key ws) ∧ Below w.heap.size w w' := by
  obtain ⟨R, hR⟩ : ∃ R, R = tagsE key ws := ⟨_, rfl⟩
  rw [← hR]
  have hck := wcheck_any key ws a0 cap0 hl hw w hT
  by_cases h0 : checkN key ws = 0
  · obtain ⟨h32, h12, htag, hRe⟩ := tagsE_ok h0
    rw [← hR] at hRe
    rw [h0] at hck
    have htags := fun (x : ByteArray) (hx : x ∈ ws) (W : World) (hb : Below w.heap.size w W) => wtag_any key x (hw x hx) W (hG.below hb)
    obtain ⟨n, hn⟩ : ∃ n, n = ws.length := ⟨_, rfl⟩
    have HT := Lib.hid (And.intro hT (And.intro hn (And.intro hRe (And.intro htag (And.intro htags hck)))))
    rw [← hn] at h12 ⊢
    have hck2 := hck
    rw [← hn] at hck2
    have HC := Lib.hid hck2
    clear hT hn hRe htag htags hck hck2 h0 hl hw hG hR
    go_enter Tryd.func21, Tryd.ntmps21
    go_wp2_with fail
    refine HC.out.mono ?_
    rintro e w1 ⟨rfl, hb1⟩
    have H1 := Lib.hid hb1
    clear hb1
    go_wp2_with fail
    go_loopw [7, 9, 10, 11, 20] (fun v _ _ _ i wr => ∃ (k : Nat) (o : List ByteArray) (ad : Option Addr) (cap : Nat), k ≤ n ∧ i = .int .i64 (k : Int) ∧ v = .slice ad k cap ∧ o = (ws.take k).map (tg key) ∧ o.length = k ∧ OwnT w.heap.size wr ad cap o ∧ Below w.heap.size w wr) (fun _ _ _ _ i _ => n - (intOf i).toNat)
    case atStart => exact ⟨0, [], none, 0, by omega, rfl, rfl, rfl, rfl, OwnT.nil _ _, H1.out⟩
    case round =>
      obtain ⟨k, o, ad, cap, hk2, rfl, rfl, ho, hol, hown, hbe⟩ := hrel
      have hsz := hbe.size
      by_cases hlt : k < n
      · have hkl : k < ws.length := by have := HT.out.2.1; omega
        obtain ⟨b, off, rfl, -, hc⟩ := HT.out.1.below hbe k hkl
        have hxm : ws.getD k ByteArray.empty ∈ ws := by
          rw [List.getD_eq_getElem?_getD, List.getElem?_eq_getElem hkl]
          exact List.getElem_mem hkl
        have hsn := take_snoc' hkl
        obtain ⟨x, hx⟩ : ∃ x, x = ws.getD k ByteArray.empty := ⟨_, rfl⟩
        rw [← hx] at hc hxm hsn
        have hcall := HT.out.2.2.2.2.1 x hxm
        rw [HT.out.2.2.2.1 x hxm] at hcall
        obtain ⟨t, ht⟩ : ∃ t, t = tg key x := ⟨_, rfl⟩
        have ho1 : o ++ [t] = (ws.take (k + 1)).map (tg key) := by rw [hsn, List.map_append, ho, ht]; rfl
        rw [← ht] at hcall
        have hv : tagV (.ok t) = .tuple #[.string t, .int .i64 0] := rfl
        rw [hv] at hcall
        have HM := Lib.hid (And.intro hcall (And.intro hown (And.intro hbe (And.intro hol ho1))))
        clear hcall hown hbe hol ho1 hx ht hv hsn ho hxm
        go_wp2_with fail
        refine (HM.out.1 _ HM.out.2.2.1).mono ?_
        rintro e2 w2 ⟨rfl, hb2⟩
        have hbe2 := HM.out.2.2.1.trans (hb2.mono hsz)
        have ho2 := HM.out.2.1.call hb2
        have hsz2 := hbe2.size
        have HN := Lib.hid (And.intro hbe2 ho2)
        clear hb2 hbe2 ho2
        go_wp2_with (at_builtin; (refine wpList_append_texts (w0 := w) rfl (.tmp 30) (.tmp 32) rfl (HN.out.2.alloc _) k HM.out.2.2.2.1 rfl _ _ 1 [t] rfl rfl (texts_one _ t) (by omega) (by simp; omega) (HN.out.1.alloc hsz2 _) ?_; intro ad1 cap1 w3 hown1 hb3; have H3 := Lib.hid (And.intro hown1 hb3); clear hown1 hb3))
        go_roundw
        case rel => exact ⟨k + 1, o ++ [t], ad1, cap1, by omega, by go_num, rfl, HM.out.2.2.2.2, by rw [List.length_append, HM.out.2.2.2.1]; rfl, H3.out.1, H3.out.2⟩
        case measure => simp [intOf]; omega
      · obtain rfl : k = n := by omega
        have hall : ws.take k = ws := List.take_of_length_le (by have := HT.out.2.1; omega)
        rw [hall] at ho
        have hraw : (Wd.raw o).length = k := by unfold Wd.raw; rw [List.length_map, hol]
        have hsl : (Wd.srt (Wd.raw o)).length = k := by rw [(Wd.srt_perm _).length_eq, hraw]
        have hsort := fun (W : World) (h : OwnT w.heap.size W ad cap o) => sort_any h (by omega)
        have hcomp := fun (W : World) (h : OwnT w.heap.size W ad cap ((Wd.srt (Wd.raw o)).map str)) => compact_any h (by omega)
        rw [hol] at hsort
        rw [hsl] at hcomp
        obtain ⟨C, hC⟩ : ∃ C, C = (Lib.compact (Wd.srt (Wd.raw o))).map str := ⟨_, rfl⟩
        have hCl : (Lib.compact (Wd.srt (Wd.raw o))).length = C.length := by rw [hC, List.length_map]
        rw [← hC, hCl] at hcomp
        have hRC : R = .ok C := by rw [HT.out.2.2.1, hC, ← ho]; rfl
        have HM := Lib.hid (And.intro hsort (And.intro hcomp (And.intro hown (And.intro hbe hRC))))
        clear hsort hcomp hown hbe hRC hCl hC hraw hsl hall ho hol
        go_wp2_with fail
        refine (HM.out.1 _ HM.out.2.2.1).mono ?_
        rintro e2 w2 ⟨rfl, ho2, hb2⟩
        have HN := Lib.hid (And.intro (HM.out.2.2.2.1.trans hb2) ho2)
        clear hb2 ho2
        go_wp2_with fail
        refine (HM.out.2.1 _ HN.out.2).mono ?_
        rintro e2 w3 ⟨rfl, ho3, hb3⟩
        have HP := Lib.hid (And.intro (HN.out.1.trans hb3) ho3)
        clear hb3 ho3
        go_wp2_with fail
        go_ret2
        exact ⟨_, rfl, by rw [HM.out.2.2.2.2]; exact ⟨ad, cap, rfl, HP.out.2⟩, HP.out.1⟩
  · have hRe := tagsE_err h0
    rw [← hR] at hRe
    obtain ⟨c, hc⟩ : ∃ c, c = checkN key ws := ⟨_, rfl⟩
    rw [← hc] at hck hRe h0
    obtain ⟨n, hn⟩ : ∃ n, n = ws.length := ⟨_, rfl⟩
    rw [← hn] at hck ⊢
    have HM := Lib.hid (And.intro hck hRe)
    clear hck hRe hR hn hl hc hw hT hG
    go_enter Tryd.func21, Tryd.ntmps21
    go_wp2_with fail
    refine HM.out.1.mono ?_
    rintro e2 w2 ⟨rfl, hb2⟩
    have HN := Lib.hid hb2
    clear hb2
    go_wp2_with fail
    go_ret2
    exact ⟨_, rfl, by rw [HM.out.2]; rfl, HN.out⟩
/-- The texts that are summed for a tag. -/
def tagTexts (key word : ByteArray) : List ByteArray := if ¬ (key.size = 32) then [] else match Wd.norm word.data.toList with
  | .ok x => textsOf key (tagMark ++ str x)
  | .error _ => []
set_option maxRecDepth 100000 in
set_option maxHeartbeats 1000000 in
theorem wtexts_any (key word : ByteArray) (hw : word.size ≤ 1000000) (w : World) (hG : Glob w) :
    Calls Tryd.prog 23 #[.string key, .string word] w fun e w' => ∃ a cap, e = .returned (.slice a (tagTexts key word).length cap) ∧ TextsAt w' a (tagTexts key word) ∧ Below w.heap.size w w' := by
  obtain ⟨R, hR⟩ : ∃ R, R = tagTexts key word := ⟨_, rfl⟩
  rw [← hR]
  by_cases h32 : key.size = 32
  · have h32i : (key.size : Int) = 32 := by omega
    have hcall := fun W : World => norm15_any word hw W
    cases hno : Wd.norm word.data.toList with
    | error e =>
      have he0 := norm_ne hno
      have hRe : R = [] := by rw [hR]; unfold tagTexts; rw [if_neg (by omega), hno]
      rw [nr_err hno] at hcall
      subst hRe
      have HM := Lib.hid hcall
      clear hcall hno hR
      go_enter Tryd.func23, Tryd.ntmps23
      go_wp2_with fail
      refine (HM.out _).mono ?_
      rintro e2 w2 ⟨rfl, hb2⟩
      have HN := Lib.hid hb2
      clear hb2
      go_wp2_with fail
      go_ret
      exact ⟨none, 0, rfl, (OwnT.nil 0 _).texts, HN.out⟩
    | ok x =>
      have hRe : R = textsOf key (tagMark ++ str x) := by rw [hR]; unfold tagTexts; rw [if_neg (by omega), hno]
      have hxl : x.length ≤ 24 := by
        obtain ⟨rfl, -, h, -⟩ := Wd.norm_ok hno
        rw [List.length_map]; exact h
      rw [nr_ok hno] at hcall
      obtain ⟨X, hX⟩ : ∃ X, X = str x := ⟨_, rfl⟩
      have hxs : X.size ≤ 24 := by rw [hX]; exact hxl
      rw [← hX] at hRe hcall
      have ht := fun (W : World) (hb : Below w.heap.size w W) => mtexts_any key (⟨#[116, 97, 103, 0]⟩ ++ X) (by omega) (by rw [ByteArray.size_append]; show 4 + X.size ≤ _; omega) W (hG.below hb)
      rw [show textsOf key (⟨#[116, 97, 103, 0]⟩ ++ X) = R from hRe.symm] at ht
      have HM := Lib.hid (And.intro hcall ht)
      clear hcall hRe hno hR ht hX hxl
      go_enter Tryd.func23, Tryd.ntmps23
      go_wp2_with fail
      refine (HM.out.1 _).mono ?_
      rintro e2 w2 ⟨rfl, hb2⟩
      have HN := Lib.hid hb2
      clear hb2
      go_wp2_with fail
      refine (HM.out.2 _ HN.out).mono ?_
      rintro e2 w3 ⟨a, cap, rfl, t3, hb3⟩
      have HP := Lib.hid (And.intro (HN.out.trans (hb3.mono HN.out.size)) t3)
      clear hb3 t3
      go_wp2_with fail
      go_ret
      exact ⟨a, cap, rfl, HP.out.2, HP.out.1⟩
  · have h32i : ¬ ((key.size : Int) = 32) := by omega
    have hRe : R = [] := by rw [hR]; unfold tagTexts; rw [if_pos h32]
    subst hRe
    clear hR
    go_enter Tryd.func23, Tryd.ntmps23
    go_wp2_with fail
    go_ret
    exact ⟨none, 0, rfl, (OwnT.nil 0 _).texts, Below.refl _ _⟩
theorem tagTexts_err {key word : ByteArray} {e : Int} (h : tagE key word = .error e) : tagTexts key word = [] := by
  unfold tagE at h
  unfold tagTexts
  split
  · rfl
  · rename_i h1
    rw [if_neg h1] at h
    cases e2 : Wd.norm word.data.toList with
    | ok x => rw [e2] at h; cases h
    | error e3 => rfl
/-- The last text's digest is the tag. -/
theorem tagTexts_ok {key word t : ByteArray} (h : tagE key word = .ok t) : ∃ a b, tagTexts key word = [a, b] ∧ str (sha b.data.toList) = t ∧ b.size ≤ 1000 := by
  unfold tagE at h
  unfold tagTexts
  by_cases h1 : key.size = 32
  · rw [if_neg (by omega)] at h ⊢
    cases e2 : Wd.norm word.data.toList with
    | error e3 => rw [e2] at h; cases h
    | ok x =>
      rw [e2] at h
      injection h with h
      refine ⟨innerT key (tagMark ++ str x), outerT key (tagMark ++ str x), ?_, ?_, ?_⟩
      · show textsOf _ _ = _
        unfold textsOf
        rw [if_neg (by omega)]
      · rw [← h, tagT]
        unfold outerT innerT code
        rw [ByteArray.data_append, Array.toList_append, ByteArray.data_append, Array.toList_append, show (tagMark ++ str x).data.toList = ([116, 97, 103, 0] : List UInt8) ++ x from tag_text x]
        rfl
      · unfold outerT
        rw [ByteArray.size_append, str_size, str_size, padX_length, sha_length]; omega
  · rw [if_pos h1] at h; cases h
end Go.Proofs.YtgoimggfpagojaaDoor
