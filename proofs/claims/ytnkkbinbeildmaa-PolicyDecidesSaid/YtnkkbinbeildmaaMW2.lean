/- Merged by program: The reference of words: letter, Norm, Put, Of, Tag, Tags (lockboxref15). | The reference's Norm (lockboxref15). | The reference's Put (lockboxref15). -/
import Derived.Test.YtnkkbinbeildmaaMW1
import Derived.Test.YtnkkbinbeildmaaMB
import Derived.Test.YtnkkbinbeildmaaOwnT
namespace Go.Proofs.Ytnkkbinbeildmaa
open Go.RowKit

theorem let1_nat (c : UInt8) : Wd.let1 c = if 65 ≤ c.toNat ∧ c.toNat ≤ 90 then c + 32 else if (97 ≤ c.toNat ∧ c.toNat ≤ 122) ∨ (48 ≤ c.toNat ∧ c.toNat ≤ 57) then c else 0 := by
  unfold Wd.let1
  simp only [UInt8.le_iff_toNat_le]
  rfl
theorem let1_up {c : UInt8} (h1 : 65 ≤ c.toNat) (h2 : c.toNat ≤ 90) : (Wd.let1 c).toNat = c.toNat + 32 := by
  rw [let1_nat, if_pos ⟨h1, h2⟩, UInt8.toNat_add]
  show (c.toNat + 32) % 256 = _
  omega
theorem let1_low {c : UInt8} (h : (97 ≤ c.toNat ∧ c.toNat ≤ 122) ∨ (48 ≤ c.toNat ∧ c.toNat ≤ 57)) : Wd.let1 c = c := by
  rw [let1_nat, if_neg (by omega), if_pos h]
theorem let1_no {c : UInt8} (h1 : ¬ (65 ≤ c.toNat ∧ c.toNat ≤ 90)) (h2 : ¬ ((97 ≤ c.toNat ∧ c.toNat ≤ 122) ∨ (48 ≤ c.toNat ∧ c.toNat ≤ 57))) : Wd.let1 c = 0 := by
  rw [let1_nat, if_neg h1, if_neg h2]
set_option maxRecDepth 100000 in
set_option maxHeartbeats 1000000 in
theorem rletter_any (c : UInt8) (w : World) : Calls Try.prog 74 #[.int .u8 (c.toNat : Int)] w fun e w' => e = .returned (.int .u8 ((Wd.let1 c).toNat : Int)) ∧ w' = w := by
  have hlt := c.toNat_lt
  obtain ⟨n, hn⟩ : ∃ n, n = c.toNat := ⟨_, rfl⟩
  rw [← hn] at hlt ⊢
  obtain ⟨y, hy⟩ : ∃ y, y = (Wd.let1 c).toNat := ⟨_, rfl⟩
  rw [← hy]
  have hcases : (n < 48) ∨ (48 ≤ n ∧ n ≤ 57) ∨ (57 < n ∧ n < 65) ∨ (65 ≤ n ∧ n ≤ 90) ∨ (90 < n ∧ n < 97) ∨ (97 ≤ n ∧ n ≤ 122) ∨ (122 < n) := by omega
  rcases hcases with h | h | h | h | h | h | h
  · have hv : y = 0 := by
      rw [hy, let1_no (by omega) (by omega)]; rfl
    have g0 : ¬ ((65 : Int) ≤ (n : Int)) := by omega
    have g1 : (n : Int) ≤ 90 := by omega
    have g2 : ¬ ((97 : Int) ≤ (n : Int)) := by omega
    have g3 : (n : Int) ≤ 122 := by omega
    have g4 : ¬ ((48 : Int) ≤ (n : Int)) := by omega
    have g5 : (n : Int) ≤ 57 := by omega
    clear h hlt hn hy
    subst hv
    go_enter Try.func74, Try.ntmps74
    go_wp2_with fail
    go_ret
    exact ⟨rfl, rfl⟩
  · have hv : y = n := by
      rw [hy, let1_low (by omega), hn]
    have g0 : ¬ ((65 : Int) ≤ (n : Int)) := by omega
    have g1 : (n : Int) ≤ 90 := by omega
    have g2 : ¬ ((97 : Int) ≤ (n : Int)) := by omega
    have g3 : (n : Int) ≤ 122 := by omega
    have g4 : (48 : Int) ≤ (n : Int) := by omega
    have g5 : (n : Int) ≤ 57 := by omega
    clear h hlt hn hy
    subst hv
    go_enter Try.func74, Try.ntmps74
    go_wp2_with fail
    go_ret
    exact ⟨rfl, rfl⟩
  · have hv : y = 0 := by
      rw [hy, let1_no (by omega) (by omega)]; rfl
    have g0 : ¬ ((65 : Int) ≤ (n : Int)) := by omega
    have g1 : (n : Int) ≤ 90 := by omega
    have g2 : ¬ ((97 : Int) ≤ (n : Int)) := by omega
    have g3 : (n : Int) ≤ 122 := by omega
    have g4 : (48 : Int) ≤ (n : Int) := by omega
    have g5 : ¬ ((n : Int) ≤ 57) := by omega
    clear h hlt hn hy
    subst hv
    go_enter Try.func74, Try.ntmps74
    go_wp2_with fail
    go_ret
    exact ⟨rfl, rfl⟩
  · have hv : y = n + 32 := by
      rw [hy, let1_up (by omega) (by omega), hn]
    have g0 : (65 : Int) ≤ (n : Int) := by omega
    have g1 : (n : Int) ≤ 90 := by omega
    have g2 : ¬ ((97 : Int) ≤ (n : Int)) := by omega
    have g3 : (n : Int) ≤ 122 := by omega
    have g4 : (48 : Int) ≤ (n : Int) := by omega
    have g5 : ¬ ((n : Int) ≤ 57) := by omega
    have gw : IntKind.u8.wrap ((n : Int) + 32) = (y : Int) := by rw [hv, IntKind.wrap_u8]; omega
    clear h hlt hn hy hv
    go_enter Try.func74, Try.ntmps74
    go_wp2_with fail
    go_ret
    exact ⟨rfl, rfl⟩
  · have hv : y = 0 := by
      rw [hy, let1_no (by omega) (by omega)]; rfl
    have g0 : (65 : Int) ≤ (n : Int) := by omega
    have g1 : ¬ ((n : Int) ≤ 90) := by omega
    have g2 : ¬ ((97 : Int) ≤ (n : Int)) := by omega
    have g3 : (n : Int) ≤ 122 := by omega
    have g4 : (48 : Int) ≤ (n : Int) := by omega
    have g5 : ¬ ((n : Int) ≤ 57) := by omega
    clear h hlt hn hy
    subst hv
    go_enter Try.func74, Try.ntmps74
    go_wp2_with fail
    go_ret
    exact ⟨rfl, rfl⟩
  · have hv : y = n := by
      rw [hy, let1_low (by omega), hn]
    have g0 : (65 : Int) ≤ (n : Int) := by omega
    have g1 : ¬ ((n : Int) ≤ 90) := by omega
    have g2 : (97 : Int) ≤ (n : Int) := by omega
    have g3 : (n : Int) ≤ 122 := by omega
    have g4 : (48 : Int) ≤ (n : Int) := by omega
    have g5 : ¬ ((n : Int) ≤ 57) := by omega
    clear h hlt hn hy
    subst hv
    go_enter Try.func74, Try.ntmps74
    go_wp2_with fail
    go_ret
    exact ⟨rfl, rfl⟩
  · have hv : y = 0 := by
      rw [hy, let1_no (by omega) (by omega)]; rfl
    have g0 : (65 : Int) ≤ (n : Int) := by omega
    have g1 : ¬ ((n : Int) ≤ 90) := by omega
    have g2 : (97 : Int) ≤ (n : Int) := by omega
    have g3 : ¬ ((n : Int) ≤ 122) := by omega
    have g4 : (48 : Int) ≤ (n : Int) := by omega
    have g5 : ¬ ((n : Int) ≤ 57) := by omega
    clear h hlt hn hy
    subst hv
    go_enter Try.func74, Try.ntmps74
    go_wp2_with fail
    go_ret
    exact ⟨rfl, rfl⟩
end Go.Proofs.Ytnkkbinbeildmaa
namespace Go.Proofs.Ytnkkbinbeildmaa
open Go.RowKit

/-- What Norm answers, as values. -/
def normR (s : ByteArray) : Value := match Wd.norm s.data.toList with
  | .ok x => .tuple #[.string (str x), .int .i64 0]
  | .error e => .tuple #[.string ⟨#[]⟩, .int .i64 e]
/-- The first k bytes as letters. -/
def lets (s : ByteArray) (k : Nat) : List UInt8 := (s.data.toList.take k).map Wd.let1
theorem lets_length {s : ByteArray} {k : Nat} (h : k ≤ s.size) : (lets s k).length = k := by
  unfold lets
  rw [List.length_map, List.length_take]
  have : s.data.toList.length = s.size := rfl
  omega
theorem lets_snoc {s : ByteArray} {k : Nat} (h : k < s.size) : lets s (k + 1) = lets s k ++ [Wd.let1 s[k]] := by
  have hk : k < s.data.toList.length := h
  unfold lets
  rw [List.take_add_one, List.getElem?_eq_getElem hk, List.map_append]
  rfl
theorem lets_all (s : ByteArray) : lets s s.size = s.data.toList.map Wd.let1 := by
  unfold lets
  rw [List.take_of_length_le (show s.data.toList.length ≤ s.size from Nat.le_refl _)]
theorem norm_bad {s : ByteArray} {k : Nat} (h : k < s.size) (hz : Wd.let1 s[k] = 0) : normR s = .tuple #[.string ⟨#[]⟩, .int .i64 3] := by
  have : Wd.norm s.data.toList = .error 3 := by
    unfold Wd.norm
    rw [if_pos]
    rw [List.any_eq_true]
    exact ⟨s[k], List.getElem_mem (l := s.data.toList) h, by simp [hz]⟩
  unfold normR
  rw [this]
theorem norm_any {s : ByteArray} (h : ∀ k (hk : k < s.size), Wd.let1 s[k] ≠ 0) : Wd.norm s.data.toList = if s.size = 0 then .error 3 else if 24 < s.size then .error 2 else .ok (s.data.toList.map Wd.let1) := by
  unfold Wd.norm
  have hl : s.data.toList.length = s.size := rfl
  rw [if_neg]
  · by_cases e : s.size = 0
    · rw [if_pos (List.length_eq_zero_iff.1 (hl.trans e)), if_pos e]
    · rw [if_neg (fun e2 => e (by rw [← hl, e2]; rfl)), if_neg e, hl]
  · rw [List.any_eq_true]
    rintro ⟨c, hc, e⟩
    obtain ⟨k, hk, rfl⟩ := List.getElem_of_mem hc
    have e' : Wd.let1 s.data.toList[k] = 0 := by simpa using e
    exact h k hk e'
set_option maxRecDepth 100000 in
set_option maxHeartbeats 1000000 in
theorem rnorm_any (s : ByteArray) (hs : s.size ≤ 1000000000) (w : World) : Calls Try.prog 69 #[.string s] w fun e w' => e = .returned (normR s) ∧ Below w.heap.size w w' := by
  obtain ⟨R, hR⟩ : ∃ R, R = normR s := ⟨_, rfl⟩
  obtain ⟨n, hn⟩ : ∃ n, n = s.size := ⟨_, rfl⟩
  rw [← hR]
  have HR := Lib.hid hR
  clear hR
  have hnl : (s.size : Int) = (n : Int) := by omega
  go_enter Try.func69, Try.ntmps69
  go_wp2_with fail
  go_loopw [4, 5] (fun v i wr => ∃ (k : Nat) (ad : Option Addr) (cap : Nat), k ≤ s.size ∧ i = .int .i64 (k : Int) ∧ v = .slice ad k cap ∧ OwnB w.heap.size wr ad cap (lets s k) ∧ (∀ j (hj : j < k) (hk : j < s.size), Wd.let1 s[j] ≠ 0) ∧ Below w.heap.size w wr) (fun _ i _ => s.size - (intOf i).toNat)
  case atStart => exact ⟨0, none, 0, by omega, rfl, rfl, OwnB.nil _ _, fun j hj => absurd hj (by omega), Below.refl _ _⟩
  case round =>
    obtain ⟨k, ad, cap, hk, rfl, rfl, hown, hgood, hbe⟩ := hrel
    by_cases hlt : k < s.size
    · obtain ⟨d, hd⟩ : ∃ d, d = s[k] := ⟨_, rfl⟩
      obtain ⟨c, hc⟩ : ∃ c, c = Wd.let1 d := ⟨_, rfl⟩
      have hcall := fun W : World => rletter_any d W
      rw [← hc] at hcall
      by_cases hz : c = 0
      · have hbad := norm_bad hlt (by rw [← hd, ← hc]; exact hz)
        have hz0 : (c.toNat : Int) = 0 := by rw [hz]; rfl
        have HM := Lib.hid (And.intro hcall (And.intro hbe hbad))
        rw [hd] at HM
        clear hcall hown hgood hbe hbad hz hc hd
        go_wp2_with fail
        refine (HM.out.1 _).mono ?_
        rintro e w2 ⟨rfl, rfl⟩
        go_wp2_with fail
        go_ret2
        exact ⟨by rw [HR.out, HM.out.2.2]; rfl, HM.out.2.1⟩
      · have hz0 : ¬ ((c.toNat : Int) = 0) := fun e => hz (UInt8.toNat_inj.1 (by simpa using e))
        have hsn := lets_snoc hlt
        have hln := lets_length hk
        have hgood' : ∀ j (hj : j < k + 1) (hk2 : j < s.size), Wd.let1 s[j] ≠ 0 := fun j hj hk2 => by
          rcases Nat.lt_succ_iff_lt_or_eq.1 hj with h | h
          · exact hgood j h hk2
          · subst h; rw [← hd, ← hc]; exact hz
        rw [← hd, ← hc] at hsn
        have hsz := hbe.size
        have HM := Lib.hid (And.intro hcall (And.intro hbe (And.intro hown (And.intro hsn (And.intro hln hgood')))))
        rw [hd] at HM
        clear hcall hown hgood hgood' hbe hsn hln hz hc hd
        go_wp2_with fail
        refine (HM.out.1 _).mono ?_
        rintro e w2 ⟨rfl, rfl⟩
        go_wp2_with fail
        refine (HM.out.1 _).mono ?_
        rintro e w2 ⟨rfl, rfl⟩
        go_wp2_with (at_builtin; (refine wpList_append_byte' (w0 := w) rfl (.tmp 17) (.tmp 22) rfl (HM.out.2.2.1.alloc _) k HM.out.2.2.2.2.1 rfl _ 1 c rfl (cell_new _ _ _) (by omega) (by simp; omega) (HM.out.2.1.alloc hsz _) ?_; intro g1 cap1 w1 hown1 hb1; have H1 := Lib.hid (And.intro hown1 hb1); clear hown1 hb1))
        go_roundw
        case rel => exact ⟨k + 1, _, cap1, by omega, by go_num, rfl, by rw [HM.out.2.2.2.1]; exact H1.out.1, HM.out.2.2.2.2.2, H1.out.2⟩
        case measure => simp [intOf]; omega
    · obtain rfl : k = s.size := by omega
      have hno := norm_any (fun k hk => hgood k hk hk)
      by_cases e0 : s.size = 0
      · rw [if_pos e0] at hno
        have HM := Lib.hid (And.intro hno hbe)
        clear hno hown hgood hbe
        go_wp2_with fail
        go_ret2
        exact ⟨by rw [HR.out]; unfold normR; rw [HM.out.1]; rfl, HM.out.2⟩
      · rw [if_neg e0] at hno
        by_cases e1 : 24 < s.size
        · rw [if_pos e1] at hno
          have HM := Lib.hid (And.intro hno hbe)
          clear hno hown hgood hbe
          go_wp2_with fail
          go_ret2
          exact ⟨by rw [HR.out]; unfold normR; rw [HM.out.1]; rfl, HM.out.2⟩
        · rw [if_neg e1] at hno
          obtain ⟨L, hL⟩ : ∃ L, L = str (lets s s.size) := ⟨_, rfl⟩
          have hcv := hown.conv
          rw [lets_length (Nat.le_refl _), ← hL] at hcv
          rw [lets_all] at hL
          have HM := Lib.hid (And.intro hno (And.intro hbe hL))
          clear hno hown hgood hbe hL
          go_wp2_with fail
          go_ret2
          exact ⟨by rw [HR.out]; unfold normR; rw [HM.out.1, HM.out.2.2]; rfl, HM.out.2.1⟩
end Go.Proofs.Ytnkkbinbeildmaa
namespace Go.Proofs.Ytnkkbinbeildmaa
open Go.RowKit

/-- What still has to come behind what stands: the flag says whether the text is in already. -/
def tailP (f : Bool) (s : ByteArray) (r : List ByteArray) : List ByteArray := if f = true then r else Wd.put r s
theorem tail_cons {l : List ByteArray} {k : Nat} (h : k < l.length) : l.drop k = l.getD k ByteArray.empty :: l.drop (k + 1) := by
  rw [List.drop_eq_getElem_cons h, List.getD_eq_getElem?_getD, List.getElem?_eq_getElem h]; rfl
theorem tail_in (x s : ByteArray) (r : List ByteArray) : tailP true s (x :: r) = x :: tailP true s r := rfl
theorem tail_is (s : ByteArray) (f : Bool) (r : List ByteArray) : tailP f s (s :: r) = s :: tailP true s r := by
  unfold tailP
  cases f
  · simp [Wd.put]
  · simp
theorem tail_more {x s : ByteArray} (h : x ≠ s) (h2 : Wd.less s x = true) (r : List ByteArray) : tailP false s (x :: r) = s :: x :: tailP true s r := by
  simp [tailP, Wd.put, h, h2]
theorem tail_less {x s : ByteArray} (h : x ≠ s) (h2 : Wd.less s x = false) (r : List ByteArray) : tailP false s (x :: r) = x :: tailP false s r := by
  simp [tailP, Wd.put, h, h2]
theorem list_ne {x s : ByteArray} (h : x ≠ s) : (x.toList == s.toList) = false := by
  cases e : x.toList == s.toList with
  | false => rfl
  | true => exact absurd (Wd.toList_eq (by simpa using e)) h
theorem TextsAt.cell {w w' : World} {b off : Nat} {l : List ByteArray} (h : TextsAt w (some ⟨b, off, none⟩) l) (hb : Below w.heap.size w w') (k : Nat) (hk : k < l.length) : w'.cell? ⟨b, off + k, none⟩ = some (.string (l.getD k ByteArray.empty)) := by
  obtain ⟨b', off', e, -, hc⟩ := h.below hb k hk
  injection e with e
  injection e with e1 e2
  subst e1 e2
  exact hc
set_option maxRecDepth 100000 in
set_option maxHeartbeats 2000000 in
theorem rput_any (l : List ByteArray) (s : ByteArray) (a0 : Option Addr) (cap0 : Nat) (hl : l.length ≤ 1000000) (w : World) (hT : TextsAt w a0 l) :
    Calls Try.prog 75 #[.slice a0 l.length cap0, .string s] w fun e w' => ∃ ad cap, e = .returned (.slice ad (Wd.put l s).length cap) ∧ OwnT w.heap.size w' ad cap (Wd.put l s) ∧ Below w.heap.size w w' := by
  obtain ⟨n, hn⟩ : ∃ n, n = l.length := ⟨_, rfl⟩
  obtain ⟨P, hP⟩ : ∃ P, P = Wd.put l s := ⟨_, rfl⟩
  have HT := Lib.hid (And.intro hT (And.intro hn hP))
  rw [← hn] at hl ⊢
  rw [← hP]
  have hP0 : P = [] ++ tailP false s (l.drop 0) := hP
  clear hT hn hP
  go_enter Try.func75, Try.ntmps75
  go_wp2_with fail
  go_loopw [5, 6, 7] (fun v b i wr => ∃ (k m : Nat) (f : Bool) (o : List ByteArray) (ad : Option Addr) (cap : Nat), k ≤ n ∧ i = .int .i64 (k : Int) ∧ b = .bool f ∧ v = .slice ad m cap ∧ o.length = m ∧ m ≤ k + 1 ∧ (f = false → m ≤ k) ∧ OwnT w.heap.size wr ad cap o ∧ P = o ++ tailP f s (l.drop k) ∧ Below w.heap.size w wr) (fun _ _ i _ => n - (intOf i).toNat)
  case atStart => exact ⟨0, 0, false, [], none, 0, by omega, rfl, rfl, rfl, rfl, by omega, fun _ => Nat.le_refl _, OwnT.nil _ _, hP0, Below.refl _ _⟩
  case round =>
    clear hP0
    obtain ⟨k, m, f, o, ad, cap, hk, rfl, rfl, rfl, hm, hmk, hmf, hown, hput, hbe⟩ := hrel
    by_cases hlt : k < n
    · obtain ⟨b, off, rfl, -, hc⟩ := HT.out.1.below hbe k (by have := HT.out.2.1; omega)
      rw [tail_cons (by have := HT.out.2.1; omega)] at hput
      obtain ⟨x, hx⟩ : ∃ x, x = l.getD k ByteArray.empty := ⟨_, rfl⟩
      rw [← hx] at hc hput
      have hsz := hbe.size
      by_cases hxs : x = s
      · subst hxs
        rw [tail_is] at hput
        have hxx : (x.toList == x.toList) = true := by simp
        have hfin : P = (o ++ [x]) ++ tailP true x (l.drop (k + 1)) := by rw [hput, List.append_assoc]; rfl
        have HM := Lib.hid (And.intro hown (And.intro hm (And.intro hfin hbe)))
        clear hown hm hput hbe hx hfin hmf
        go_wp2_with (at_builtin; (refine wpList_append_texts (w0 := w) rfl (.tmp 34) (.tmp 39) rfl (HM.out.1.alloc _) m HM.out.2.1 rfl _ _ 1 [x] rfl rfl (texts_one _ x) (by omega) (by simp; omega) (HM.out.2.2.2.alloc hsz _) ?_; intro ad1 cap1 w1 hown1 hb1; have H1 := Lib.hid (And.intro hown1 hb1); clear hown1 hb1))
        go_roundw
        case rel => exact ⟨k + 1, m + 1, true, o ++ [x], ad1, cap1, by omega, by go_num, rfl, rfl, by rw [List.length_append, HM.out.2.1]; rfl, by omega, (by intro h; cases h), H1.out.1, HM.out.2.2.1, H1.out.2⟩
        case measure => simp [intOf]; omega
      · have hxx := list_ne hxs
        cases f with
        | true =>
          have hfin : P = (o ++ [x]) ++ tailP true s (l.drop (k + 1)) := by rw [hput, List.append_assoc]; rfl
          have HM := Lib.hid (And.intro hown (And.intro hm (And.intro hfin hbe)))
          clear hown hm hput hbe hx hfin hmf hxs
          go_wp2_with (at_builtin; (refine wpList_append_texts (w0 := w) rfl (.tmp 34) (.tmp 39) rfl (HM.out.1.alloc _) m HM.out.2.1 rfl _ _ 1 [x] rfl rfl (texts_one _ x) (by omega) (by simp; omega) (HM.out.2.2.2.alloc hsz _) ?_; intro ad1 cap1 w1 hown1 hb1; have H1 := Lib.hid (And.intro hown1 hb1); clear hown1 hb1))
          go_roundw
          case rel => exact ⟨k + 1, m + 1, true, o ++ [x], ad1, cap1, by omega, by go_num, rfl, rfl, by rw [List.length_append, HM.out.2.1]; rfl, by omega, (by intro h; cases h), H1.out.1, HM.out.2.2.1, H1.out.2⟩
          case measure => simp [intOf]; omega
        | false =>
          have hmf' := hmf rfl
          by_cases hls : Wd.less s x = true
          · rw [tail_more hxs hls] at hput
            have hlb : Op.bytesLess s.toList x.toList = true := hls
            have hfin : P = ((o ++ [s]) ++ [x]) ++ tailP true s (l.drop (k + 1)) := by rw [hput]; simp
            have HM := Lib.hid (And.intro hown (And.intro hm (And.intro hfin (And.intro hbe hx))))
            clear hown hm hput hbe hx hfin hmf hxs hls
            go_wp2_with (at_builtin; (first | (refine wpList_append_texts (w0 := w) rfl (.tmp 30) (.tmp 32) rfl (HM.out.1.alloc _) m HM.out.2.1 rfl _ _ 1 [s] rfl rfl (texts_one _ s) (by omega) (by simp; omega) (HM.out.2.2.2.1.alloc hsz _) ?_; intro ad1 cap1 w1 hown1 hb1; have H1 := Lib.hid (And.intro hown1 hb1); clear hown1 hb1; have hc1 := TextsAt.cell HT.out.1 H1.out.2 k (by have := HT.out.2.1; omega); rw [← HM.out.2.2.2.2] at hc1; have hsz1 := H1.out.2.size; have hl1 : (o ++ [s]).length = m + 1 := (by rw [List.length_append, HM.out.2.1]; rfl)) | (refine wpList_append_texts (w0 := w) rfl (.tmp 34) (.tmp 39) rfl (H1.out.1.alloc _) (m + 1) hl1 rfl _ _ 1 [x] rfl rfl (texts_one _ x) (by omega) (by simp; omega) (H1.out.2.alloc hsz1 _) ?_; intro ad2 cap2 w2 hown1 hb1; have H2 := Lib.hid (And.intro hown1 hb1); clear hown1 hb1)))
            go_roundw
            case rel => exact ⟨k + 1, m + 1 + 1, true, (o ++ [s]) ++ [x], ad2, cap2, by omega, by go_num, rfl, rfl, by rw [List.length_append, List.length_append, HM.out.2.1]; rfl, by omega, (by intro h; cases h), H2.out.1, HM.out.2.2.1, H2.out.2⟩
            case measure => simp [intOf]; omega
          · have hls : Wd.less s x = false := by simpa using hls
            rw [tail_less hxs hls] at hput
            have hlb : Op.bytesLess s.toList x.toList = false := hls
            have hfin : P = (o ++ [x]) ++ tailP false s (l.drop (k + 1)) := by rw [hput, List.append_assoc]; rfl
            have HM := Lib.hid (And.intro hown (And.intro hm (And.intro hfin hbe)))
            clear hown hm hput hbe hx hfin hmf hxs hls
            go_wp2_with (at_builtin; (refine wpList_append_texts (w0 := w) rfl (.tmp 34) (.tmp 39) rfl (HM.out.1.alloc _) m HM.out.2.1 rfl _ _ 1 [x] rfl rfl (texts_one _ x) (by omega) (by simp; omega) (HM.out.2.2.2.alloc hsz _) ?_; intro ad1 cap1 w1 hown1 hb1; have H1 := Lib.hid (And.intro hown1 hb1); clear hown1 hb1))
            go_roundw
            case rel => exact ⟨k + 1, m + 1, false, o ++ [x], ad1, cap1, by omega, by go_num, rfl, rfl, by rw [List.length_append, HM.out.2.1]; rfl, by omega, (by intro h; omega), H1.out.1, HM.out.2.2.1, H1.out.2⟩
            case measure => simp [intOf]; omega
    · obtain rfl : k = n := by omega
      have hsz := hbe.size
      rw [List.drop_eq_nil_of_le (by have := HT.out.2.1; omega)] at hput
      cases f with
      | true =>
        have hfin : P = o := by rw [hput]; simp [tailP]
        have HM := Lib.hid (And.intro hown (And.intro hm (And.intro hfin hbe)))
        clear hown hm hput hbe hfin hmf
        go_wp2_with fail
        go_ret
        exact ⟨ad, cap, by rw [HM.out.2.2.1, HM.out.2.1]; rfl, by rw [HM.out.2.2.1]; exact HM.out.1, HM.out.2.2.2⟩
      | false =>
        have hmf' := hmf rfl
        have hfin : P = o ++ [s] := by rw [hput]; rfl
        have HM := Lib.hid (And.intro hown (And.intro hm (And.intro hfin hbe)))
        clear hown hm hput hbe hfin hmf
        go_wp2_with (at_builtin; (refine wpList_append_texts (w0 := w) rfl (.tmp 43) (.tmp 45) rfl (HM.out.1.alloc _) m HM.out.2.1 rfl _ _ 1 [s] rfl rfl (texts_one _ s) (by omega) (by simp; omega) (HM.out.2.2.2.alloc hsz _) ?_; intro ad1 cap1 w1 hown1 hb1; have H1 := Lib.hid (And.intro hown1 hb1); clear hown1 hb1))
        go_ret
        exact ⟨ad1, cap1, by rw [HM.out.2.2.1, List.length_append, HM.out.2.1]; rfl, by rw [HM.out.2.2.1]; exact H1.out.1, H1.out.2⟩
end Go.Proofs.Ytnkkbinbeildmaa
