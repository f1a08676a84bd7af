/- The reference's Tag, Tags (lockboxref15). -/
import Derived.Test.YtgoimggfpagojaaDoorWdRPut
import Derived.Test.YtgoimggfpagojaaDoorMRef
namespace Go.Proofs.YtgoimggfpagojaaDoor
open Go.RowKit

/-- A word's tag. -/
def tagT (key : ByteArray) (x : List UInt8) : ByteArray := str (code key.data.toList (([116, 97, 103, 0] : List UInt8) ++ x))
def tagE (key word : ByteArray) : Except Int ByteArray := if ¬ (key.size = 32) then .error 13 else match Wd.norm word.data.toList with
  | .ok x => .ok (tagT key x)
  | .error e => .error e
def tagV : Except Int ByteArray → Value
  | .ok t => .tuple #[.string t, .int .i64 0]
  | .error e => .tuple #[.string ⟨#[]⟩, .int .i64 e]
theorem tag_text (x : List UInt8) : ((⟨#[116, 97, 103, 0]⟩ : ByteArray) ++ str x).data.toList = ([116, 97, 103, 0] : List UInt8) ++ x := by
  rw [ByteArray.data_append, Array.toList_append]; rfl
set_option maxRecDepth 100000 in
set_option maxHeartbeats 1000000 in
theorem rtag_any (key word : ByteArray) (hw : word.size ≤ 1000000000) (w : World) :
    Calls Tryd.prog 20 #[.string key, .string word] w fun e w' => e = .returned (tagV (tagE key word)) ∧ Below w.heap.size w w' := by
  obtain ⟨R, hR⟩ : ∃ R, R = tagV (tagE key word) := ⟨_, rfl⟩
  rw [← hR]
  by_cases h32 : key.size = 32
  · have h32i : (key.size : Int) = 32 := by omega
    cases hno : Wd.norm word.data.toList with
    | error e =>
      have hcall := fun W : World => rnorm_any word hw W
      have he0 : ¬ (e = 0) := by
        unfold Wd.norm at hno
        split at hno
        · injection hno with h; omega
        · split at hno
          · injection hno with h; omega
          · split at hno
            · injection hno with h; omega
            · cases hno
      have hnr : normR word = .tuple #[.string ⟨#[]⟩, .int .i64 e] := by unfold normR; rw [hno]
      have hRe : R = .tuple #[.string ⟨#[]⟩, .int .i64 e] := by rw [hR]; unfold tagE; rw [if_neg (by omega), hno]; rfl
      rw [hnr] at hcall
      have HM := Lib.hid (And.intro hcall hRe)
      clear hcall hRe hnr hno hR
      go_enter Tryd.func20, Tryd.ntmps20
      go_wp2_with fail
      refine (HM.out.1 _).mono ?_
      rintro e2 w2 ⟨rfl, hb2⟩
      have HN := Lib.hid hb2
      clear hb2
      go_wp2_with fail
      go_ret2
      exact ⟨by rw [HM.out.2]; rfl, HN.out⟩
    | ok x =>
      have hcall := fun W : World => rnorm_any word hw W
      have hnr : normR word = .tuple #[.string (str x), .int .i64 0] := by unfold normR; rw [hno]
      have hRe : R = .tuple #[.string (tagT key x), .int .i64 0] := by rw [hR]; unfold tagE; rw [if_neg (by omega), hno]; rfl
      have hxl : x.length ≤ 24 := by
        obtain ⟨rfl, -, h, -⟩ := Wd.norm_ok hno
        rw [List.length_map]; exact h
      rw [hnr] at hcall
      obtain ⟨X, hX⟩ : ∃ X, X = str x := ⟨_, rfl⟩
      have hxs : X.size ≤ 24 := by rw [hX]; exact hxl
      have hcode := fun W : World => rcode_any key (⟨#[116, 97, 103, 0]⟩ ++ str x) (by omega) (by rw [ByteArray.size_append, str_size]; show 4 + x.length < _; omega) W
      rw [tag_text, show str (code key.data.toList ([116, 97, 103, 0] ++ x)) = tagT key x from rfl, ← hX] at hcode
      rw [← hX] at hcall
      have HM := Lib.hid (And.intro hcall (And.intro hRe hcode))
      clear hcall hRe hnr hno hR hcode hX
      go_enter Tryd.func20, Tryd.ntmps20
      go_wp2_with fail
      refine (HM.out.1 _).mono ?_
      rintro e2 w2 ⟨rfl, hb2⟩
      have HN := Lib.hid hb2
      clear hb2
      go_wp2_with fail
      refine (HM.out.2.2 _).mono ?_
      rintro e2 w3 ⟨rfl, hb3⟩
      have HP := Lib.hid (HN.out.trans (hb3.mono HN.out.size))
      clear hb3
      go_wp2_with fail
      go_ret2
      exact ⟨by rw [HM.out.2.1]; rfl, HP.out⟩
  · have h32i : ¬ ((key.size : Int) = 32) := by omega
    have hRe : R = .tuple #[.string ⟨#[]⟩, .int .i64 13] := by rw [hR]; unfold tagE; rw [if_pos h32]; rfl
    have HM := Lib.hid hRe
    clear hRe hR
    go_enter Tryd.func20, Tryd.ntmps20
    go_wp2_with fail
    go_ret2
    exact ⟨by rw [HM.out]; rfl, Below.refl _ _⟩
/-- The tags of words, one put behind the other; the first error. -/
def tagAll (key : ByteArray) : List ByteArray → List ByteArray → Except Int (List ByteArray)
  | o, [] => .ok o
  | o, x :: r => match tagE key x with
    | .ok t => tagAll key (Wd.put o t) r
    | .error e => .error e
def tagsE (key : ByteArray) (ws : List ByteArray) : Except Int (List ByteArray) := if ¬ (key.size = 32) then .error 13 else match tagAll key [] ws with
  | .ok o => if 12 < ws.length then .error 2 else .ok o
  | .error e => .error e
/-- What Tags answers, as it lies. -/
def TagsAt (B : Nat) (w : World) (v : Value) : Except Int (List ByteArray) → Prop
  | .ok o => ∃ ad cap, v = .tuple #[.slice ad o.length cap, .int .i64 0] ∧ OwnT B w ad cap o
  | .error e => v = .tuple #[.slice none 0 0, .int .i64 e]
theorem tagE_err {key x : ByteArray} {e : Int} (h : tagE key x = .error e) : ¬ (e = 0) := by
  unfold tagE at h
  split at h
  · injection h with h; omega
  · cases hno : Wd.norm x.data.toList with
    | ok y => rw [hno] at h; cases h
    | error e2 =>
      rw [hno] at h
      injection h with h
      subst h
      unfold Wd.norm at hno
      split at hno
      · injection hno with h; omega
      · split at hno
        · injection hno with h; omega
        · split at hno
          · injection hno with h; omega
          · cases hno
set_option maxRecDepth 100000 in
set_option maxHeartbeats 2000000 in
theorem rtags_any (key : ByteArray) (ws : List ByteArray) (a0 : Option Addr) (cap0 : Nat) (hl : ws.length ≤ 900000) (hw : ∀ x ∈ ws, x.size ≤ 1000000000) (w : World) (hT : TextsAt w a0 ws) :
    Calls Tryd.prog 22 #[.string key, .slice a0 ws.length cap0] w fun e w' => ∃ v, e = .returned v ∧ TagsAt w.heap.size w' v (tagsE key ws) ∧ Below w.heap.size w w' := by
  obtain ⟨n, hn⟩ : ∃ n, n = ws.length := ⟨_, rfl⟩
  obtain ⟨R, hR⟩ : ∃ R, R = tagsE key ws := ⟨_, rfl⟩
  rw [← hR]
  by_cases h32 : key.size = 32
  · have h32i : (key.size : Int) = 32 := by omega
    obtain ⟨A, hA⟩ : ∃ A, A = tagAll key [] ws := ⟨_, rfl⟩
    have hRe : (∀ e, A = .error e → R = .error e) ∧ (∀ o, A = .ok o → R = if 12 < n then .error 2 else .ok o) := by
      rw [hR, hA, hn]
      unfold tagsE
      rw [if_neg (by omega)]
      exact ⟨fun e h => by rw [h], fun o h => by rw [h]⟩
    have HR := Lib.hid hRe
    have HT := Lib.hid (And.intro hT (And.intro hn hw))
    rw [← hn] at hl ⊢
    have hA0 : A = tagAll key [] (ws.drop 0) := hA
    clear hT hn hw hA hRe hR
    go_enter Tryd.func22, Tryd.ntmps22
    go_wp2_with fail
    go_loopw [6, 7, 8, 9] (fun v i _ _ wr => ∃ (k m : Nat) (o : List ByteArray) (ad : Option Addr) (cap : Nat), k ≤ n ∧ i = .int .i64 (k : Int) ∧ v = .slice ad m cap ∧ o.length = m ∧ m ≤ k ∧ OwnT w.heap.size wr ad cap o ∧ A = tagAll key o (ws.drop k) ∧ Below w.heap.size w wr) (fun _ i _ _ _ => n - (intOf i).toNat)
    case atStart => exact ⟨0, 0, [], none, 0, by omega, rfl, rfl, rfl, by omega, OwnT.nil _ _, hA0, Below.refl _ _⟩
    case round =>
      clear hA0
      obtain ⟨k, m, o, ad, cap, hk2, rfl, rfl, hm, hmk, hown, hA, hbe⟩ := hrel
      have hsz := hbe.size
      by_cases hlt : k < n
      · have hkl : k < ws.length := by have := HT.out.2.1; omega
        obtain ⟨b, off, rfl, -, hc⟩ := HT.out.1.below hbe k hkl
        have hxm : (ws.getD k ByteArray.empty).size ≤ 1000000000 := by
          rw [List.getD_eq_getElem?_getD, List.getElem?_eq_getElem hkl]
          exact HT.out.2.2 _ (List.getElem_mem hkl)
        rw [tail_cons hkl, tagAll] at hA
        obtain ⟨x, hx⟩ : ∃ x, x = ws.getD k ByteArray.empty := ⟨_, rfl⟩
        rw [← hx] at hc hxm hA
        have hcall := fun W : World => rtag_any key x hxm W
        cases ht : tagE key x with
        | error e =>
          rw [ht] at hA hcall
          have he0 := tagE_err ht
          have hv : tagV (.error e) = .tuple #[.string ⟨#[]⟩, .int .i64 e] := rfl
          rw [hv] at hcall
          have hA' : A = .error e := hA
          have HM := Lib.hid (And.intro hcall (And.intro hA' hbe))
          clear hcall hA hA' hbe hown hx ht hv
          go_wp2_with fail
          refine (HM.out.1 _).mono ?_
          rintro e2 w2 ⟨rfl, hb2⟩
          have HN := Lib.hid (HM.out.2.2.trans (hb2.mono hsz))
          clear hb2
          go_wp2_with fail
          go_ret2
          exact ⟨_, rfl, by rw [HR.out.1 _ HM.out.2.1]; rfl, HN.out⟩
        | ok t =>
          rw [ht] at hA hcall
          have hv : tagV (.ok t) = .tuple #[.string t, .int .i64 0] := rfl
          rw [hv] at hcall
          have hA' : A = tagAll key (Wd.put o t) (ws.drop (k + 1)) := hA
          have hpl := Wd.put_length o t
          have hput := fun (W : World) (hW : TextsAt W ad o) => rput_any o t ad cap (by omega) W hW
          rw [hm] at hput hpl
          obtain ⟨P, hP⟩ : ∃ P, P = Wd.put o t := ⟨_, rfl⟩
          rw [← hP] at hput hA' hpl
          have hTo := hown.texts
          have HM := Lib.hid (And.intro hcall (And.intro hA' (And.intro hbe (And.intro hput hTo))))
          clear hcall hA hA' hbe hown hx ht hv hput hP hTo hm
          go_wp2_with fail
          refine (HM.out.1 _).mono ?_
          rintro e2 w2 ⟨rfl, hb2⟩
          have hbe2 := HM.out.2.2.1.trans (hb2.mono hsz)
          have hT2 := HM.out.2.2.2.2.below hb2
          have hsz2 := hbe2.size
          have HN := Lib.hid (And.intro hbe2 hT2)
          clear hb2 hbe2 hT2
          go_wp2_with fail
          refine (HM.out.2.2.2.1 _ HN.out.2).mono ?_
          rintro e2 w3 ⟨ad2, cap2, rfl, ho3, hb3⟩
          have HP := Lib.hid (And.intro (HN.out.1.trans (hb3.mono hsz2)) (ho3.mono hsz2))
          clear hb3 ho3
          go_wp2_with fail
          go_roundw
          case rel => exact ⟨k + 1, P.length, P, ad2, cap2, by omega, by go_num, rfl, rfl, by omega, HP.out.2, HM.out.2.1, HP.out.1⟩
          case measure => simp [intOf]; omega
      · obtain rfl : k = n := by omega
        rw [List.drop_eq_nil_of_le (by have := HT.out.2.1; omega), tagAll] at hA
        have hRe := HR.out.2 _ hA
        by_cases h12 : 12 < k
        · have h12i : (12 : Int) < (k : Int) := by omega
          have hRe' : R = .error 2 := by rw [hRe, if_pos h12]
          have HM := Lib.hid (And.intro hRe' hbe)
          clear hRe hRe' hA hbe hown
          go_wp2_with fail
          go_ret2
          exact ⟨_, rfl, by rw [HM.out.1]; rfl, HM.out.2⟩
        · have h12i : ¬ ((12 : Int) < (k : Int)) := by omega
          have hRe' : R = .ok o := by rw [hRe, if_neg h12]
          have HM := Lib.hid (And.intro hRe' (And.intro hbe (And.intro hown hm)))
          clear hRe hRe' hA hbe hown hm
          go_wp2_with fail
          go_ret2
          exact ⟨_, rfl, by rw [HM.out.1]; exact ⟨ad, cap, by rw [HM.out.2.2.2]; rfl, HM.out.2.2.1⟩, HM.out.2.1⟩
  · have h32i : ¬ ((key.size : Int) = 32) := by omega
    have hRe : R = .error 13 := by rw [hR]; unfold tagsE; rw [if_pos h32]
    have HM := Lib.hid hRe
    clear hRe hR
    go_enter Tryd.func22, Tryd.ntmps22
    go_wp2_with fail
    go_ret2
    exact ⟨_, rfl, by rw [HM.out]; rfl, Below.refl _ _⟩
end Go.Proofs.YtgoimggfpagojaaDoor
