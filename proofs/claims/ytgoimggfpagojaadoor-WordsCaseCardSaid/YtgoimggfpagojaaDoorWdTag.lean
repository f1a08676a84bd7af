/- words.Tag, check, Tags, Texts. -/
import Derived.Test.YtgoimggfpagojaaDoorWdRTag
import Derived.Test.YtgoimggfpagojaaDoorWdLet
import Derived.Test.YtgoimggfpagojaaDoorWdWith
import Derived.Test.YtgoimggfpagojaaDoorMCode
import Derived.Test.YtgoimggfpagojaaDoorMOne
namespace Go.Proofs.YtgoimggfpagojaaDoor
open Go.RowKit

def tagMark : ByteArray := ⟨#[116, 97, 103, 0]⟩
theorem tag_cat (X : ByteArray) : (catN [tagMark, X] 2).data.toList = ([116, 97, 103, 0] : List UInt8) ++ X.data.toList := by
  show ((ByteArray.empty ++ tagMark) ++ X).data.toList = _
  rw [ByteArray.data_append, Array.toList_append, ByteArray.data_append, Array.toList_append]; rfl
theorem tag_cat_size (X : ByteArray) : (catN [tagMark, X] 2).size = 4 + X.size := by
  show ((ByteArray.empty ++ tagMark) ++ X).size = _
  rw [ByteArray.size_append, ByteArray.size_append]; rfl
theorem norm_ne {p : List UInt8} {e : Int} (h : Wd.norm p = .error e) : ¬ (e = 0) := by
  unfold Wd.norm at h
  split at h
  · injection h with h; omega
  · split at h
    · injection h with h; omega
    · split at h
      · injection h with h; omega
      · cases h
theorem nr_ok {s : ByteArray} {x : List UInt8} (h : Wd.norm s.data.toList = .ok x) : normR s = .tuple #[.string (str x), .int .i64 0] := by unfold normR; rw [h]
theorem nr_err {s : ByteArray} {e : Int} (h : Wd.norm s.data.toList = .error e) : normR s = .tuple #[.string ⟨#[]⟩, .int .i64 e] := by unfold normR; rw [h]
set_option maxRecDepth 100000 in
set_option maxHeartbeats 1000000 in
theorem wtag_any (key word : ByteArray) (hw : word.size ≤ 1000000) (w : World) (hG : Glob w) :
    Calls Tryd.prog 19 #[.string key, .string word] w fun e w' => e = .returned (tagV (tagE key word)) ∧ Below w.heap.size w w' := by
  obtain ⟨R, hR⟩ : ∃ R, R = tagV (tagE key word) := ⟨_, rfl⟩
  rw [← hR]
  by_cases h32 : key.size = 32
  · have h32i : (key.size : Int) = 32 := by omega
    have hcall := fun W : World => norm15_any word hw W
    cases hno : Wd.norm word.data.toList with
    | error e =>
      have he0 := norm_ne hno
      have hRe : R = .tuple #[.string ⟨#[]⟩, .int .i64 e] := by rw [hR]; unfold tagE; rw [if_neg (by omega), hno]; rfl
      rw [nr_err hno] at hcall
      have HM := Lib.hid (And.intro hcall hRe)
      clear hcall hRe hno hR
      go_enter Tryd.func19, Tryd.ntmps19
      go_wp2_with fail
      refine (HM.out.1 _).mono ?_
      rintro e2 w2 ⟨rfl, hb2⟩
      have HN := Lib.hid hb2
      clear hb2
      go_wp2_with fail
      go_ret2
      exact ⟨by rw [HM.out.2]; rfl, HN.out⟩
    | ok x =>
      have hRe : R = .tuple #[.string (tagT key x), .int .i64 0] := by rw [hR]; unfold tagE; rw [if_neg (by omega), hno]; rfl
      have hxl : x.length ≤ 24 := by
        obtain ⟨rfl, -, h, -⟩ := Wd.norm_ok hno
        rw [List.length_map]; exact h
      rw [nr_ok hno] at hcall
      obtain ⟨X, hX⟩ : ∃ X, X = str x := ⟨_, rfl⟩
      have hxs : X.size ≤ 24 := by rw [hX]; exact hxl
      have hcode := fun (W : World) (hb : Below w.heap.size w W) => mcode_any key (by omega) [tagMark, X] (some ⟨W.heap.size, 0, none⟩) 2 (W.alloc (.cells #[.string tagMark, .string X] 9)) ((hG.below hb).alloc _) (texts_new W [tagMark, X] #[.string tagMark, .string X] rfl) (show 2 ≤ maxLen by decide) (by show (catN [tagMark, X] 2).size < _; rw [tag_cat_size]; omega)
      have htc : str (code key.data.toList (catN [tagMark, X] [tagMark, X].length).data.toList) = tagT key x := by
        show str (code key.data.toList (catN [tagMark, X] 2).data.toList) = _
        rw [tag_cat, hX]; rfl
      rw [htc] at hcode
      rw [← hX] at hcall
      have HM := Lib.hid (And.intro hcall (And.intro hRe hcode))
      clear hcall hRe hno hR hcode hX htc
      go_enter Tryd.func19, Tryd.ntmps19
      go_wp2_with fail
      refine (HM.out.1 _).mono ?_
      rintro e2 w2 ⟨rfl, hb2⟩
      have HN := Lib.hid hb2
      clear hb2
      go_wp2_with fail
      refine (HM.out.2.2 _ HN.out).mono ?_
      rintro e2 w3 ⟨rfl, hb3⟩
      have HP := Lib.hid ((HN.out.alloc HN.out.size _).trans (hb3.mono (by have := HN.out.size; simp; omega)))
      clear hb3
      go_wp2_with fail
      go_ret2
      exact ⟨by rw [HM.out.2.1]; rfl, HP.out⟩
  · have h32i : ¬ ((key.size : Int) = 32) := by omega
    have hRe : R = .tuple #[.string ⟨#[]⟩, .int .i64 13] := by rw [hR]; unfold tagE; rw [if_pos h32]; rfl
    have HM := Lib.hid hRe
    clear hRe hR
    go_enter Tryd.func19, Tryd.ntmps19
    go_wp2_with fail
    go_ret2
    exact ⟨by rw [HM.out]; rfl, Below.refl _ _⟩
/-- All are words, or the first error. -/
def allN : List ByteArray → Except Int Unit
  | [] => .ok ()
  | x :: r => match Wd.norm x.data.toList with
    | .ok _ => allN r
    | .error e => .error e
def checkN (key : ByteArray) (ws : List ByteArray) : Int := if ¬ (key.size = 32) then 13 else match allN ws with
  | .ok _ => if 12 < ws.length then 2 else 0
  | .error e => e
set_option maxRecDepth 100000 in
set_option maxHeartbeats 1000000 in
theorem wcheck_any (key : ByteArray) (ws : List ByteArray) (a0 : Option Addr) (cap0 : Nat) (hl : ws.length ≤ 900000) (hw : ∀ x ∈ ws, x.size ≤ 1000000) (w : World) (hT : TextsAt w a0 ws) :
    Calls Tryd.prog 37 #[.string key, .slice a0 ws.length cap0] w fun e w' => e = .returned (.int .i64 (checkN key ws)) ∧ Below w.heap.size w w' := by
  obtain ⟨n, hn⟩ : ∃ n, n = ws.length := ⟨_, rfl⟩
  obtain ⟨R, hR⟩ : ∃ R, R = checkN key ws := ⟨_, rfl⟩
  rw [← hR]
  by_cases h32 : key.size = 32
  · have h32i : (key.size : Int) = 32 := by omega
    obtain ⟨A, hA⟩ : ∃ A, A = allN ws := ⟨_, rfl⟩
    have hRe : (∀ e, A = .error e → R = e) ∧ (∀ o, A = .ok o → R = if 12 < n then 2 else 0) := by
      rw [hR, hA, hn]
      unfold checkN
      rw [if_neg (by omega)]
      exact ⟨fun e h => by rw [h], fun o h => by rw [h]⟩
    have HR := Lib.hid hRe
    have HT := Lib.hid (And.intro hT (And.intro hn hw))
    rw [← hn] at hl ⊢
    have hA0 : A = allN (ws.drop 0) := hA
    clear hT hn hw hA hRe hR
    go_enter Tryd.func37, Tryd.ntmps37
    go_wp2_with fail
    go_loopw [6, 7, 8, 14] (fun _ _ _ i wr => ∃ (k : Nat), k ≤ n ∧ i = .int .i64 (k : Int) ∧ A = allN (ws.drop k) ∧ Below w.heap.size w wr) (fun _ _ _ i _ => n - (intOf i).toNat)
    case atStart => exact ⟨0, by omega, rfl, hA0, Below.refl _ _⟩
    case round =>
      clear hA0
      obtain ⟨k, hk2, rfl, hA, hbe⟩ := hrel
      have hsz := hbe.size
      by_cases hlt : k < n
      · have hkl : k < ws.length := by have := HT.out.2.1; omega
        obtain ⟨b, off, rfl, -, hc⟩ := HT.out.1.below hbe k hkl
        have hxm : (ws.getD k ByteArray.empty).size ≤ 1000000 := by
          rw [List.getD_eq_getElem?_getD, List.getElem?_eq_getElem hkl]
          exact HT.out.2.2 _ (List.getElem_mem hkl)
        rw [tail_cons hkl, allN] at hA
        obtain ⟨x, hx⟩ : ∃ x, x = ws.getD k ByteArray.empty := ⟨_, rfl⟩
        rw [← hx] at hc hxm hA
        have hcall := fun W : World => norm15_any x hxm W
        cases ht : Wd.norm x.data.toList with
        | error e =>
          rw [ht] at hA
          rw [nr_err ht] at hcall
          have he0 := norm_ne ht
          have hA' : A = .error e := hA
          have HM := Lib.hid (And.intro hcall (And.intro hA' hbe))
          clear hcall hA hA' hbe hx ht
          go_wp2_with fail
          refine (HM.out.1 _).mono ?_
          rintro e2 w2 ⟨rfl, hb2⟩
          have HN := Lib.hid (HM.out.2.2.trans (hb2.mono hsz))
          clear hb2
          go_wp2_with fail
          go_ret
          exact ⟨by rw [HR.out.1 _ HM.out.2.1]; rfl, HN.out⟩
        | ok t =>
          rw [ht] at hA
          rw [nr_ok ht] at hcall
          have hA' : A = allN (ws.drop (k + 1)) := hA
          obtain ⟨X, hX⟩ : ∃ X, X = str t := ⟨_, rfl⟩
          rw [← hX] at hcall
          have HM := Lib.hid (And.intro hcall (And.intro hA' hbe))
          clear hcall hA hA' hbe hx ht hX
          go_wp2_with fail
          refine (HM.out.1 _).mono ?_
          rintro e2 w2 ⟨rfl, hb2⟩
          have HN := Lib.hid (HM.out.2.2.trans (hb2.mono hsz))
          clear hb2
          go_wp2_with fail
          go_roundw
          case rel => exact ⟨k + 1, by omega, by go_num, HM.out.2.1, HN.out⟩
          case measure => simp [intOf]; omega
      · obtain rfl : k = n := by omega
        rw [List.drop_eq_nil_of_le (by have := HT.out.2.1; omega), allN] at hA
        have hRe := HR.out.2 _ hA
        by_cases h12 : 12 < k
        · have h12i : (12 : Int) < (k : Int) := by omega
          have hRe' : R = 2 := by rw [hRe, if_pos h12]
          have HM := Lib.hid (And.intro hRe' hbe)
          clear hRe hRe' hA hbe
          go_wp2_with fail
          go_ret
          exact ⟨by rw [HM.out.1]; rfl, HM.out.2⟩
        · have h12i : ¬ ((12 : Int) < (k : Int)) := by omega
          have hRe' : R = 0 := by rw [hRe, if_neg h12]
          have HM := Lib.hid (And.intro hRe' hbe)
          clear hRe hRe' hA hbe
          go_wp2_with fail
          go_ret
          exact ⟨by rw [HM.out.1]; rfl, HM.out.2⟩
  · have h32i : ¬ ((key.size : Int) = 32) := by omega
    have hRe : R = 13 := by rw [hR]; unfold checkN; rw [if_pos h32]
    have HM := Lib.hid hRe
    clear hRe hR
    go_enter Tryd.func37, Tryd.ntmps37
    go_wp2_with fail
    go_ret
    exact ⟨by rw [HM.out]; rfl, Below.refl _ _⟩
end Go.Proofs.YtgoimggfpagojaaDoor
