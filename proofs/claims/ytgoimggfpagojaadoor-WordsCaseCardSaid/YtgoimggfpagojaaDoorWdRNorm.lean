/- The reference's Norm (lockboxref15). -/
import Derived.Test.YtgoimggfpagojaaDoorWdRef
namespace Go.Proofs.YtgoimggfpagojaaDoor
open Go.RowKit

/-- What Norm answers, as values. -/
def normR (s : ByteArray) : Value := match Wd.norm s.data.toList with
  | .ok x => .tuple #[.string (str x), .int .i64 0]
  | .error e => .tuple #[.string ⟨#[]⟩, .int .i64 e]
/-- The first k bytes as letters. -/
def lets (s : ByteArray) (k : Nat) : List UInt8 := (s.data.toList.take k).map Wd.let1
theorem lets_length {s : ByteArray} {k : Nat} (h : k ≤ s.size) : (lets s k).length = k := by
  unfold lets
  rw [List.length_map, List.length_take]
  have : s.data.toList.length = s.size := rfl
  omega
theorem lets_snoc {s : ByteArray} {k : Nat} (h : k < s.size) : lets s (k + 1) = lets s k ++ [Wd.let1 s[k]] := by
  have hk : k < s.data.toList.length := h
  unfold lets
  rw [List.take_add_one, List.getElem?_eq_getElem hk, List.map_append]
  rfl
theorem lets_all (s : ByteArray) : lets s s.size = s.data.toList.map Wd.let1 := by
  unfold lets
  rw [List.take_of_length_le (show s.data.toList.length ≤ s.size from Nat.le_refl _)]
theorem norm_bad {s : ByteArray} {k : Nat} (h : k < s.size) (hz : Wd.let1 s[k] = 0) : normR s = .tuple #[.string ⟨#[]⟩, .int .i64 3] := by
  have : Wd.norm s.data.toList = .error 3 := by
    unfold Wd.norm
    rw [if_pos]
    rw [List.any_eq_true]
    exact ⟨s[k], List.getElem_mem (l := s.data.toList) h, by simp [hz]⟩
  unfold normR
  rw [this]
theorem norm_any {s : ByteArray} (h : ∀ k (hk : k < s.size), Wd.let1 s[k] ≠ 0) : Wd.norm s.data.toList = if s.size = 0 then .error 3 else if 24 < s.size then .error 2 else .ok (s.data.toList.map Wd.let1) := by
  unfold Wd.norm
  have hl : s.data.toList.length = s.size := rfl
  rw [if_neg]
  · by_cases e : s.size = 0
    · rw [if_pos (List.length_eq_zero_iff.1 (hl.trans e)), if_pos e]
    · rw [if_neg (fun e2 => e (by rw [← hl, e2]; rfl)), if_neg e, hl]
  · rw [List.any_eq_true]
    rintro ⟨c, hc, e⟩
    obtain ⟨k, hk, rfl⟩ := List.getElem_of_mem hc
    have e' : Wd.let1 s.data.toList[k] = 0 := by simpa using e
    exact h k hk e'
set_option maxRecDepth 100000 in
set_option maxHeartbeats 1000000 in
theorem rnorm_any (s : ByteArray) (hs : s.size ≤ 1000000000) (w : World) : Calls Tryd.prog 14 #[.string s] w fun e w' => e = .returned (normR s) ∧ Below w.heap.size w w' := by
  obtain ⟨R, hR⟩ : ∃ R, R = normR s := ⟨_, rfl⟩
  obtain ⟨n, hn⟩ : ∃ n, n = s.size := ⟨_, rfl⟩
  rw [← hR]
  have HR := Lib.hid hR
  clear hR
  have hnl : (s.size : Int) = (n : Int) := by omega
  go_enter Tryd.func14, Tryd.ntmps14
  go_wp2_with fail
  go_loopw [4, 5] (fun v i wr => ∃ (k : Nat) (ad : Option Addr) (cap : Nat), k ≤ s.size ∧ i = .int .i64 (k : Int) ∧ v = .slice ad k cap ∧ OwnB w.heap.size wr ad cap (lets s k) ∧ (∀ j (hj : j < k) (hk : j < s.size), Wd.let1 s[j] ≠ 0) ∧ Below w.heap.size w wr) (fun _ i _ => s.size - (intOf i).toNat)
  case atStart => exact ⟨0, none, 0, by omega, rfl, rfl, OwnB.nil _ _, fun j hj => absurd hj (by omega), Below.refl _ _⟩
  case round =>
    obtain ⟨k, ad, cap, hk, rfl, rfl, hown, hgood, hbe⟩ := hrel
    by_cases hlt : k < s.size
    · obtain ⟨d, hd⟩ : ∃ d, d = s[k] := ⟨_, rfl⟩
      obtain ⟨c, hc⟩ : ∃ c, c = Wd.let1 d := ⟨_, rfl⟩
      have hcall := fun W : World => rletter_any d W
      rw [← hc] at hcall
      by_cases hz : c = 0
      · have hbad := norm_bad hlt (by rw [← hd, ← hc]; exact hz)
        have hz0 : (c.toNat : Int) = 0 := by rw [hz]; rfl
        have HM := Lib.hid (And.intro hcall (And.intro hbe hbad))
        rw [hd] at HM
        clear hcall hown hgood hbe hbad hz hc hd
        go_wp2_with fail
        refine (HM.out.1 _).mono ?_
        rintro e w2 ⟨rfl, rfl⟩
        go_wp2_with fail
        go_ret2
        exact ⟨by rw [HR.out, HM.out.2.2]; rfl, HM.out.2.1⟩
      · have hz0 : ¬ ((c.toNat : Int) = 0) := fun e => hz (UInt8.toNat_inj.1 (by simpa using e))
        have hsn := lets_snoc hlt
        have hln := lets_length hk
        have hgood' : ∀ j (hj : j < k + 1) (hk2 : j < s.size), Wd.let1 s[j] ≠ 0 := fun j hj hk2 => by
          rcases Nat.lt_succ_iff_lt_or_eq.1 hj with h | h
          · exact hgood j h hk2
          · subst h; rw [← hd, ← hc]; exact hz
        rw [← hd, ← hc] at hsn
        have hsz := hbe.size
        have HM := Lib.hid (And.intro hcall (And.intro hbe (And.intro hown (And.intro hsn (And.intro hln hgood')))))
        rw [hd] at HM
        clear hcall hown hgood hgood' hbe hsn hln hz hc hd
        go_wp2_with fail
        refine (HM.out.1 _).mono ?_
        rintro e w2 ⟨rfl, rfl⟩
        go_wp2_with fail
        refine (HM.out.1 _).mono ?_
        rintro e w2 ⟨rfl, rfl⟩
        go_wp2_with (at_builtin; (refine wpList_append_byte' (w0 := w) rfl (.tmp 17) (.tmp 22) rfl (HM.out.2.2.1.alloc _) k HM.out.2.2.2.2.1 rfl _ 1 c rfl (cell_new _ _ _) (by omega) (by simp; omega) (HM.out.2.1.alloc hsz _) ?_; intro g1 cap1 w1 hown1 hb1; have H1 := Lib.hid (And.intro hown1 hb1); clear hown1 hb1))
        go_roundw
        case rel => exact ⟨k + 1, _, cap1, by omega, by go_num, rfl, by rw [HM.out.2.2.2.1]; exact H1.out.1, HM.out.2.2.2.2.2, H1.out.2⟩
        case measure => simp [intOf]; omega
    · obtain rfl : k = s.size := by omega
      have hno := norm_any (fun k hk => hgood k hk hk)
      by_cases e0 : s.size = 0
      · rw [if_pos e0] at hno
        have HM := Lib.hid (And.intro hno hbe)
        clear hno hown hgood hbe
        go_wp2_with fail
        go_ret2
        exact ⟨by rw [HR.out]; unfold normR; rw [HM.out.1]; rfl, HM.out.2⟩
      · rw [if_neg e0] at hno
        by_cases e1 : 24 < s.size
        · rw [if_pos e1] at hno
          have HM := Lib.hid (And.intro hno hbe)
          clear hno hown hgood hbe
          go_wp2_with fail
          go_ret2
          exact ⟨by rw [HR.out]; unfold normR; rw [HM.out.1]; rfl, HM.out.2⟩
        · rw [if_neg e1] at hno
          obtain ⟨L, hL⟩ : ∃ L, L = str (lets s s.size) := ⟨_, rfl⟩
          have hcv := hown.conv
          rw [lets_length (Nat.le_refl _), ← hL] at hcv
          rw [lets_all] at hL
          have HM := Lib.hid (And.intro hno (And.intro hbe hL))
          clear hno hown hgood hbe hL
          go_wp2_with fail
          go_ret2
          exact ⟨by rw [HR.out]; unfold normR; rw [HM.out.1, HM.out.2.2]; rfl, HM.out.2.1⟩
end Go.Proofs.YtgoimggfpagojaaDoor
