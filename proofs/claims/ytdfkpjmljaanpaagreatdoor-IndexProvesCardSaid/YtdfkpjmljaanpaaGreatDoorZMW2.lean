/- MW2, what is wanted of it. -/
import Derived.Test.YtdfkpjmljaanpaaGreatDoorZMW1
import Derived.Test.YtdfkpjmljaanpaaGreatDoorZMB
import Derived.Test.YtdfkpjmljaanpaaGreatDoorZMX3
namespace Go.Proofs.YtdfkpjmljaanpaaGreatDoor
open Go.RowKit
end Go.Proofs.YtdfkpjmljaanpaaGreatDoor
namespace Go.Proofs.YtdfkpjmljaanpaaGreatDoor
open Go.RowKit
end Go.Proofs.YtdfkpjmljaanpaaGreatDoor
namespace Go.Proofs.YtdfkpjmljaanpaaGreatDoor
open Go.RowKit
/-- What still has to come behind what stands: the flag says whether the text is in already. -/
def tailP (f : Bool) (s : ByteArray) (r : List ByteArray) : List ByteArray := if f = true then r else Wd.put r s
theorem tail_cons {l : List ByteArray} {k : Nat} (h : k < l.length) : l.drop k = l.getD k ByteArray.empty :: l.drop (k + 1) := by
  rw [List.drop_eq_getElem_cons h, List.getD_eq_getElem?_getD, List.getElem?_eq_getElem h]; rfl
theorem tail_is (s : ByteArray) (f : Bool) (r : List ByteArray) : tailP f s (s :: r) = s :: tailP true s r := by
  unfold tailP
  cases f
  · simp [Wd.put]
  · simp
theorem tail_more {x s : ByteArray} (h : x ≠ s) (h2 : Wd.less s x = true) (r : List ByteArray) : tailP false s (x :: r) = s :: x :: tailP true s r := by
  simp [tailP, Wd.put, h, h2]
theorem tail_less {x s : ByteArray} (h : x ≠ s) (h2 : Wd.less s x = false) (r : List ByteArray) : tailP false s (x :: r) = x :: tailP false s r := by
  simp [tailP, Wd.put, h, h2]
theorem list_ne {x s : ByteArray} (h : x ≠ s) : (x.toList == s.toList) = false := by
  cases e : x.toList == s.toList with
  | false => rfl
  | true => exact absurd (Wd.toList_eq (by simpa using e)) h
theorem TextsAt.cell {w w' : World} {b off : Nat} {l : List ByteArray} (h : TextsAt w (some ⟨b, off, none⟩) l) (hb : Below w.heap.size w w') (k : Nat) (hk : k < l.length) : w'.cell? ⟨b, off + k, none⟩ = some (.string (l.getD k ByteArray.empty)) := by
  obtain ⟨b', off', e, -, hc⟩ := h.below hb k hk
  injection e with e
  injection e with e1 e2
  subst e1 e2
  exact hc
set_option maxRecDepth 100000 in
set_option maxHeartbeats 2000000 in
theorem rput_any (l : List ByteArray) (s : ByteArray) (a0 : Option Addr) (cap0 : Nat) (hl : l.length ≤ 1000000) (w : World) (hT : TextsAt w a0 l) :
    Calls Tryz.prog 59 #[.slice a0 l.length cap0, .string s] w fun e w' => ∃ ad cap, e = .returned (.slice ad (Wd.put l s).length cap) ∧ OwnT w.heap.size w' ad cap (Wd.put l s) ∧ Below w.heap.size w w' := by
  obtain ⟨n, hn⟩ : ∃ n, n = l.length := ⟨_, rfl⟩
  obtain ⟨P, hP⟩ : ∃ P, P = Wd.put l s := ⟨_, rfl⟩
  have HT := Lib.hid (And.intro hT (And.intro hn hP))
  rw [← hn] at hl ⊢
  rw [← hP]
  have hP0 : P = [] ++ tailP false s (l.drop 0) := hP
  clear hT hn hP
  go_enter Tryz.func59, Tryz.ntmps59
  go_wp2_with fail
  go_loopw [5, 6, 7] (fun v b i wr => ∃ (k m : Nat) (f : Bool) (o : List ByteArray) (ad : Option Addr) (cap : Nat), k ≤ n ∧ i = .int .i64 (k : Int) ∧ b = .bool f ∧ v = .slice ad m cap ∧ o.length = m ∧ m ≤ k + 1 ∧ (f = false → m ≤ k) ∧ OwnT w.heap.size wr ad cap o ∧ P = o ++ tailP f s (l.drop k) ∧ Below w.heap.size w wr) (fun _ _ i _ => n - (intOf i).toNat)
  case atStart => exact ⟨0, 0, false, [], none, 0, by omega, rfl, rfl, rfl, rfl, by omega, fun _ => Nat.le_refl _, OwnT.nil _ _, hP0, Below.refl _ _⟩
  case round =>
    clear hP0
    obtain ⟨k, m, f, o, ad, cap, hk, rfl, rfl, rfl, hm, hmk, hmf, hown, hput, hbe⟩ := hrel
    by_cases hlt : k < n
    · obtain ⟨b, off, rfl, -, hc⟩ := HT.out.1.below hbe k (by have := HT.out.2.1; omega)
      rw [tail_cons (by have := HT.out.2.1; omega)] at hput
      obtain ⟨x, hx⟩ : ∃ x, x = l.getD k ByteArray.empty := ⟨_, rfl⟩
      rw [← hx] at hc hput
      have hsz := hbe.size
      by_cases hxs : x = s
      · subst hxs
        rw [tail_is] at hput
        have hxx : (x.toList == x.toList) = true := by simp
        have hfin : P = (o ++ [x]) ++ tailP true x (l.drop (k + 1)) := by rw [hput, List.append_assoc]; rfl
        have HM := Lib.hid (And.intro hown (And.intro hm (And.intro hfin hbe)))
        clear hown hm hput hbe hx hfin hmf
        go_wp2_with (at_builtin; (refine wpList_append_texts (w0 := w) rfl (.tmp 34) (.tmp 39) rfl (HM.out.1.alloc _) m HM.out.2.1 rfl _ _ 1 [x] rfl rfl (texts_one _ x) (by omega) (by simp; omega) (HM.out.2.2.2.alloc hsz _) ?_; intro ad1 cap1 w1 hown1 hb1; have H1 := Lib.hid (And.intro hown1 hb1); clear hown1 hb1))
        go_roundw
        case rel => exact ⟨k + 1, m + 1, true, o ++ [x], ad1, cap1, by omega, by go_num, rfl, rfl, by rw [List.length_append, HM.out.2.1]; rfl, by omega, (by intro h; cases h), H1.out.1, HM.out.2.2.1, H1.out.2⟩
        case measure => simp [intOf]; omega
      · have hxx := list_ne hxs
        cases f with
        | true =>
          have hfin : P = (o ++ [x]) ++ tailP true s (l.drop (k + 1)) := by rw [hput, List.append_assoc]; rfl
          have HM := Lib.hid (And.intro hown (And.intro hm (And.intro hfin hbe)))
          clear hown hm hput hbe hx hfin hmf hxs
          go_wp2_with (at_builtin; (refine wpList_append_texts (w0 := w) rfl (.tmp 34) (.tmp 39) rfl (HM.out.1.alloc _) m HM.out.2.1 rfl _ _ 1 [x] rfl rfl (texts_one _ x) (by omega) (by simp; omega) (HM.out.2.2.2.alloc hsz _) ?_; intro ad1 cap1 w1 hown1 hb1; have H1 := Lib.hid (And.intro hown1 hb1); clear hown1 hb1))
          go_roundw
          case rel => exact ⟨k + 1, m + 1, true, o ++ [x], ad1, cap1, by omega, by go_num, rfl, rfl, by rw [List.length_append, HM.out.2.1]; rfl, by omega, (by intro h; cases h), H1.out.1, HM.out.2.2.1, H1.out.2⟩
          case measure => simp [intOf]; omega
        | false =>
          have hmf' := hmf rfl
          by_cases hls : Wd.less s x = true
          · rw [tail_more hxs hls] at hput
            have hlb : Op.bytesLess s.toList x.toList = true := hls
            have hfin : P = ((o ++ [s]) ++ [x]) ++ tailP true s (l.drop (k + 1)) := by rw [hput]; simp
            have HM := Lib.hid (And.intro hown (And.intro hm (And.intro hfin (And.intro hbe hx))))
            clear hown hm hput hbe hx hfin hmf hxs hls
            go_wp2_with (at_builtin; (first | (refine wpList_append_texts (w0 := w) rfl (.tmp 30) (.tmp 32) rfl (HM.out.1.alloc _) m HM.out.2.1 rfl _ _ 1 [s] rfl rfl (texts_one _ s) (by omega) (by simp; omega) (HM.out.2.2.2.1.alloc hsz _) ?_; intro ad1 cap1 w1 hown1 hb1; have H1 := Lib.hid (And.intro hown1 hb1); clear hown1 hb1; have hc1 := TextsAt.cell HT.out.1 H1.out.2 k (by have := HT.out.2.1; omega); rw [← HM.out.2.2.2.2] at hc1; have hsz1 := H1.out.2.size; have hl1 : (o ++ [s]).length = m + 1 := (by rw [List.length_append, HM.out.2.1]; rfl)) | (refine wpList_append_texts (w0 := w) rfl (.tmp 34) (.tmp 39) rfl (H1.out.1.alloc _) (m + 1) hl1 rfl _ _ 1 [x] rfl rfl (texts_one _ x) (by omega) (by simp; omega) (H1.out.2.alloc hsz1 _) ?_; intro ad2 cap2 w2 hown1 hb1; have H2 := Lib.hid (And.intro hown1 hb1); clear hown1 hb1)))
            go_roundw
            case rel => exact ⟨k + 1, m + 1 + 1, true, (o ++ [s]) ++ [x], ad2, cap2, by omega, by go_num, rfl, rfl, by rw [List.length_append, List.length_append, HM.out.2.1]; rfl, by omega, (by intro h; cases h), H2.out.1, HM.out.2.2.1, H2.out.2⟩
            case measure => simp [intOf]; omega
          · have hls : Wd.less s x = false := by simpa using hls
            rw [tail_less hxs hls] at hput
            have hlb : Op.bytesLess s.toList x.toList = false := hls
            have hfin : P = (o ++ [x]) ++ tailP false s (l.drop (k + 1)) := by rw [hput, List.append_assoc]; rfl
            have HM := Lib.hid (And.intro hown (And.intro hm (And.intro hfin hbe)))
            clear hown hm hput hbe hx hfin hmf hxs hls
            go_wp2_with (at_builtin; (refine wpList_append_texts (w0 := w) rfl (.tmp 34) (.tmp 39) rfl (HM.out.1.alloc _) m HM.out.2.1 rfl _ _ 1 [x] rfl rfl (texts_one _ x) (by omega) (by simp; omega) (HM.out.2.2.2.alloc hsz _) ?_; intro ad1 cap1 w1 hown1 hb1; have H1 := Lib.hid (And.intro hown1 hb1); clear hown1 hb1))
            go_roundw
            case rel => exact ⟨k + 1, m + 1, false, o ++ [x], ad1, cap1, by omega, by go_num, rfl, rfl, by rw [List.length_append, HM.out.2.1]; rfl, by omega, (by intro h; omega), H1.out.1, HM.out.2.2.1, H1.out.2⟩
            case measure => simp [intOf]; omega
    · obtain rfl : k = n := by omega
      have hsz := hbe.size
      rw [List.drop_eq_nil_of_le (by have := HT.out.2.1; omega)] at hput
      cases f with
      | true =>
        have hfin : P = o := by rw [hput]; simp [tailP]
        have HM := Lib.hid (And.intro hown (And.intro hm (And.intro hfin hbe)))
        clear hown hm hput hbe hfin hmf
        go_wp2_with fail
        go_ret
        exact ⟨ad, cap, by rw [HM.out.2.2.1, HM.out.2.1]; rfl, by rw [HM.out.2.2.1]; exact HM.out.1, HM.out.2.2.2⟩
      | false =>
        have hmf' := hmf rfl
        have hfin : P = o ++ [s] := by rw [hput]; rfl
        have HM := Lib.hid (And.intro hown (And.intro hm (And.intro hfin hbe)))
        clear hown hm hput hbe hfin hmf
        go_wp2_with (at_builtin; (refine wpList_append_texts (w0 := w) rfl (.tmp 43) (.tmp 45) rfl (HM.out.1.alloc _) m HM.out.2.1 rfl _ _ 1 [s] rfl rfl (texts_one _ s) (by omega) (by simp; omega) (HM.out.2.2.2.alloc hsz _) ?_; intro ad1 cap1 w1 hown1 hb1; have H1 := Lib.hid (And.intro hown1 hb1); clear hown1 hb1))
        go_ret
        exact ⟨ad1, cap1, by rw [HM.out.2.2.1, List.length_append, HM.out.2.1]; rfl, by rw [HM.out.2.2.1]; exact H1.out.1, H1.out.2⟩
end Go.Proofs.YtdfkpjmljaanpaaGreatDoor
