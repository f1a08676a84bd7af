/- cmp.Compare, cmp.Or, shape.Order; lockboxref06.Order, Zero. -/
import Derived.Test.YtgighdiidblihaaHWalk
import Derived.Test.YtgighdiidblihaaHCmp
import Derived.Deep.QuietTactic
import Derived.BigQuiet
import Derived.WalkSmall
namespace Go.Proofs.Ytgighdiidblihaa
open Go.RowKit

theorem isNaN_any (x : Int) (w : World) :
    Calls Try.prog 32 #[.int .i64 x] w fun e w' => e = .returned (.bool false) ∧ w = w' := by
  go_enter Try.func32, Try.ntmps32
  go_wp2
  go_ret
  exact ⟨rfl, rfl⟩
set_option maxHeartbeats 400000 in
theorem compare_any (x y : Int) (w : World) :
    Calls Try.prog 31 #[.int .i64 x, .int .i64 y] w fun e w' => e = .returned (.int .i64 (sgn3 x y)) ∧ w = w' := by
  unfold sgn3
  by_cases h : x < y
  · rw [if_pos h]
    go_enter Try.func31, Try.ntmps31
    go_wp2_with (go_at_call 32; refine (isNaN_any _ _).mono ?_; rintro e w' ⟨rfl, rfl⟩)
    go_ret
    exact ⟨rfl, rfl⟩
  · rw [if_neg h]
    by_cases h2 : y < x
    · rw [if_pos h2]
      go_enter Try.func31, Try.ntmps31
      go_wp2_with (go_at_call 32; refine (isNaN_any _ _).mono ?_; rintro e w' ⟨rfl, rfl⟩)
      go_ret
      exact ⟨rfl, rfl⟩
    · rw [if_neg h2]
      go_enter Try.func31, Try.ntmps31
      go_wp2_with (go_at_call 32; refine (isNaN_any _ _).mono ?_; rintro e w' ⟨rfl, rfl⟩)
      go_ret
      exact ⟨rfl, rfl⟩

def orI (x y : Int) : Int := if x = 0 then y else x
set_option maxRecDepth 100000 in
set_option maxHeartbeats 400000 in
theorem or2_any (x y : Int) (g : Nat) (w : World) (h0 : w.cell? ⟨g, 0, none⟩ = some (.int .i64 x)) (h1 : w.cell? ⟨g, 1, none⟩ = some (.int .i64 y)) :
    Calls Try.prog 30 #[.slice (some ⟨g, 0, none⟩) 2 2] w fun e w' => e = .returned (.int .i64 (orI x y)) ∧ w = w' := by
  unfold orI
  by_cases h : x = 0
  · rw [if_pos h]
    subst h
    by_cases k : y = 0
    · subst k
      go_enter Try.func30, Try.ntmps30
      go_wp2
      go_loop [5, 8] (fun _ i => ∃ k : Nat, k ≤ 2 ∧ i = .int .i64 k) (fun _ i => 2 - (intOf i).toNat)
      case atStart => exact ⟨0, by omega, rfl⟩
      case round =>
        obtain ⟨k, hk, rfl⟩ := hrel
        by_cases hlt : k < 2
        · have hc : w.cell? ⟨g, k, none⟩ = some (.int .i64 0) := by
            obtain rfl | rfl : k = 0 ∨ k = 1 := by omega
            · exact h0
            · exact h1
          clear h0 h1
          go_wp2
          go_round
          case rel => exact ⟨k + 1, by omega, by go_num⟩
          case measure => simp [intOf]; omega
        · obtain rfl : k = 2 := by omega
          go_wp2
          go_ret
          exact ⟨rfl, rfl⟩
    · have hn : (y != 0) = true := by simpa using k
      go_enter Try.func30, Try.ntmps30
      go_wp2
      go_loop [5, 8] (fun _ i => ∃ k : Nat, k ≤ 1 ∧ i = .int .i64 k) (fun _ i => 2 - (intOf i).toNat)
      case atStart => exact ⟨0, by omega, rfl⟩
      case round =>
        obtain ⟨k, hk, rfl⟩ := hrel
        obtain rfl | rfl : k = 0 ∨ k = 1 := by omega
        · go_wp2
          go_round
          case rel => exact ⟨1, by omega, by go_num⟩
          case measure => simp [intOf]
        · go_wp2
          go_ret
          exact ⟨rfl, rfl⟩
  · rw [if_neg h]
    have hn : (x != 0) = true := by simpa using h
    go_enter Try.func30, Try.ntmps30
    go_wp2
    go_loop [5, 8] (fun _ i => i = .int .i64 0) (fun _ i => 2 - (intOf i).toNat)
    case atStart => rfl
    case round =>
      subst hrel
      go_wp2
      go_ret
      exact ⟨rfl, rfl⟩

/-- How a text stands to another one. -/
def cmpB (a b : ByteArray) : Int := cmpL a.data.toList b.data.toList
theorem told_longer (a b : ByteArray) : told (firstD a.data.toList b.data.toList (longer a b)) a.size b.size = cmpB a b := by
  have := told_cmp (longer a b) a.data.toList b.data.toList (by have := longer_left a b; simpa using this) (by have := longer_right a b; simpa using this)
  simpa [cmpB] using this

attribute [local go_sem high] run_max_I
set_option maxRecDepth 100000 in
set_option maxHeartbeats 400000 in
theorem order_any (a b : ByteArray) (ha : a.size ≤ maxLen) (hb : b.size ≤ maxLen) (w : World) :
    Calls Try.prog 14 #[.string a, .string b] w fun e w' => e = .returned (.tuple #[.int .i64 (cmpB a b), .int .i64 (longer a b)]) ∧ Below w.heap.size w w' := by
  obtain ⟨n, hn⟩ : ∃ n, n = longer a b := ⟨_, rfl⟩
  have ht := told_longer a b
  have hm := max_size a b
  have hn2 : n ≤ maxLen := by rw [hn]; exact longer_le ha hb
  rw [← hn] at hm ht ⊢
  rw [← ht]
  clear hn ht
  unfold maxLen at hn2
  go_enter Try.func14, Try.ntmps14
  go_wp2_with fail
  go_loop [6, 7, 8, 9, 16] (fun f o _ _ i => ∃ k : Nat, k ≤ n ∧ i = .int .i64 k ∧ f = .int .i64 (firstD a.data.toList b.data.toList k) ∧ o = .int .i64 (openI (firstD a.data.toList b.data.toList k))) (fun _ _ _ _ i => n - (intOf i).toNat)
  case atStart => exact ⟨0, Nat.zero_le _, rfl, rfl, rfl⟩
  case round =>
    obtain ⟨k, hk, rfl, rfl, rfl⟩ := hrel
    obtain ⟨f, hf⟩ : ∃ f, f = firstD a.data.toList b.data.toList k := ⟨_, rfl⟩
    rw [← hf]
    by_cases hlt : k < n
    · have c1 := byteAt_any a ha k
      have c2 := byteAt_any b hb k
      have hr := firstD_range a.data.toList b.data.toList k
      have hd := dAt_range a.data.toList b.data.toList k
      have hs : firstD a.data.toList b.data.toList (k + 1) = if f = 0 then dAt a.data.toList b.data.toList k else f := by rw [firstD, ← hf]
      rw [← hf] at hr
      have h1 := first_step f _ hr hd
      have h2 := open_step f _ hd
      rw [← hs] at h1 h2
      have hdd : ((at0 a.data.toList k).toNat : Int) - ((at0 b.data.toList k).toNat : Int) = dAt a.data.toList b.data.toList k := rfl
      have hx : ((at0 a.data.toList k).toNat : Int) < 256 := by have := (at0 a.data.toList k).toNat_lt; omega
      have hy : ((at0 b.data.toList k).toNat : Int) < 256 := by have := (at0 b.data.toList k).toNat_lt; omega
      generalize dAt a.data.toList b.data.toList k = d at *
      generalize at0 a.data.toList k = x at *
      generalize at0 b.data.toList k = y at *
      obtain ⟨hd1, hd2⟩ := hd
      obtain ⟨f', hf'⟩ : ∃ f', f' = firstD a.data.toList b.data.toList (k + 1) := ⟨_, rfl⟩
      rw [← hf'] at h1 h2
      have HS := Lib.hid (And.intro hf' (And.intro c1 c2))
      clear hs hf hf' c1 c2 hr
      go_wp2_with fail
      refine (HS.out.2.1 _).mono ?_
      rintro e w' ⟨rfl, rfl⟩
      go_wp2_with fail
      refine (HS.out.2.2 _).mono ?_
      rintro e w' ⟨rfl, rfl⟩
      go_wp2_with fail
      go_round
      case rel => exact ⟨k + 1, by omega, by go_num, by rw [HS.out.1], by rw [HS.out.1]⟩
      case measure => simp [intOf]; omega
    · obtain rfl : k = n := by omega
      have HQ := Lib.hid hf
      clear hf
      go_wp2_with fail
      refine (compare_any f 0 _).mono ?_
      rintro e w' ⟨rfl, rfl⟩
      go_wp2_with fail
      refine (compare_any _ _ _).mono ?_
      rintro e w' ⟨rfl, rfl⟩
      go_wp2_with fail
      refine (or2_any (sgn3 f 0) (sgn3 a.size b.size) w.heap.size _ ?_ ?_).mono ?_
      · rw [cell_of_row _ _ _ _ _ _ (heap_alloc_new _ _)]; rfl
      · rw [cell_of_row _ _ _ _ _ _ (heap_alloc_new _ _)]; rfl
      rintro e w' ⟨rfl, rfl⟩
      go_wp2_with fail
      go_ret2
      exact ⟨by rw [← HQ.out]; rfl, (Below.refl _ _).alloc (Nat.le_refl _) _⟩

theorem drop_byte (s : ByteArray) (k : Nat) (h : k < s.size) : s.data.toList.drop k = s[k] :: s.data.toList.drop (k + 1) := by
  have h' : k < s.data.toList.length := by simpa using h
  rw [List.drop_eq_getElem_cons h']
  congr 1
theorem drop_end (s : ByteArray) (k : Nat) (h : s.size ≤ k) : s.data.toList.drop k = [] := List.drop_eq_nil_of_le (by simpa using h)
set_option maxRecDepth 100000 in
set_option maxHeartbeats 400000 in
theorem rorder_any (a b : ByteArray) (ha : a.size ≤ maxLen) (_ : b.size ≤ maxLen) (w : World) :
    Calls Try.prog 17 #[.string a, .string b] w fun e w' => e = .returned (.int .i64 (cmpB a b)) ∧ Below w.heap.size w w' := by
  unfold maxLen at ha
  obtain ⟨c, hc⟩ : ∃ c, c = cmpB a b := ⟨_, rfl⟩
  rw [← hc]
  have HC := Lib.hid hc
  clear hc
  go_enter Try.func17, Try.ntmps17
  go_wp2_with fail
  go_loopw [5] (fun i wr => ∃ k : Nat, k ≤ a.size ∧ k ≤ b.size ∧ i = .int .i64 k ∧ Below w.heap.size w wr ∧ cmpL (a.data.toList.drop k) (b.data.toList.drop k) = c) (fun i _ => a.size - (intOf i).toNat)
  case atStart => exact ⟨0, Nat.zero_le _, Nat.zero_le _, rfl, Below.refl _ _, HC.out.symm⟩
  case round =>
    obtain ⟨k, hka, hkb, rfl, hbw, hr⟩ := hrel
    have HB := Lib.hid hbw
    clear hbw
    by_cases h1 : k < a.size
    · by_cases h2 : k < b.size
      · rw [drop_byte a k h1, drop_byte b k h2, cmpL] at hr
        by_cases h3 : a[k].toNat < b[k].toNat
        · rw [if_pos h3] at hr
          subst hr
          go_wp2_with fail
          go_quiet (fail)
          go_wp2_with fail
          go_ret
          exact ⟨rfl, below_drewN HB.out _⟩
        · rw [if_neg h3] at hr
          by_cases h4 : b[k].toNat < a[k].toNat
          · rw [if_pos h4] at hr
            subst hr
            go_wp2_with fail
            go_quiet (fail)
            go_wp2_with fail
            go_quiet (fail)
            go_wp2_with fail
            go_ret
            exact ⟨rfl, below_drewN (below_drewN HB.out _) _⟩
          · rw [if_neg h4] at hr
            have HR := Lib.hid hr
            clear hr
            go_wp2_with fail
            go_quiet (fail)
            go_wp2_with fail
            go_quiet (fail)
            go_wp2_with fail
            go_roundw
            case rel => exact ⟨k + 1, by omega, by omega, by go_num, below_drewN HB.out _, HR.out⟩
            case measure => simp [intOf]; omega
      · obtain rfl : k = b.size := by omega
        rw [drop_byte a _ h1, drop_end b _ (Nat.le_refl _), cmpL] at hr
        subst hr
        go_wp2_with fail
        go_ret
        exact ⟨rfl, HB.out⟩
    · obtain rfl : k = a.size := by omega
      rw [drop_end a _ (Nat.le_refl _)] at hr
      by_cases h2 : a.size < b.size
      · rw [drop_byte b _ h2, cmpL] at hr
        subst hr
        go_wp2_with fail
        go_ret
        exact ⟨rfl, HB.out⟩
      · rw [drop_end b _ (by omega), cmpL] at hr
        subst hr
        go_wp2_with fail
        go_ret
        exact ⟨rfl, HB.out⟩
set_option maxRecDepth 100000 in
set_option maxHeartbeats 400000 in
theorem rzero_any (s : ByteArray) (hs : s.size ≤ maxLen) (w : World) :
    Calls Try.prog 18 #[.string s] w fun e w' => e = .returned (.bool (zeroB s)) ∧ w = w' := by
  unfold maxLen at hs
  obtain ⟨c, hc⟩ : ∃ c, c = zeroB s := ⟨_, rfl⟩
  rw [← hc]
  have HC := Lib.hid hc
  clear hc
  go_enter Try.func18, Try.ntmps18
  go_wp2_with fail
  go_loop [3] (fun i => ∃ k : Nat, k ≤ s.size ∧ i = .int .i64 k ∧ ∀ j, j < k → at0 s.data.toList j = 0) (fun i => s.size - (intOf i).toNat)
  case atStart => exact ⟨0, Nat.zero_le _, rfl, fun j h => absurd h (by omega)⟩
  case round =>
    obtain ⟨k, hk, rfl, hall⟩ := hrel
    by_cases h1 : k < s.size
    · by_cases h2 : s[k] = 0
      · have hb : ((s[k].toNat : Int) != 0) = false := by rw [h2]; rfl
        have HA := Lib.hid (show ∀ j, j < k + 1 → at0 s.data.toList j = 0 from fun j hj => by
          by_cases e : j = k
          · subst e; rw [at0_lt s j h1, h2]
          · exact hall j (by omega))
        clear hall h2
        go_wp2_with fail
        go_round
        case rel => exact ⟨k + 1, by omega, by go_num, HA.out⟩
        case measure => simp [intOf]; omega
      · have hb : ((s[k].toNat : Int) != 0) = true := by
          have : ¬ (s[k].toNat : Int) = 0 := fun e => h2 (UInt8.toNat_inj.1 (by simpa using e))
          simpa using this
        have hcf : c = false := by
          rw [HC.out]; exact @decide_eq_false _ (Classical.propDecidable _) fun h => h2 (by have := h k h1; rwa [at0_lt s k h1] at this)
        subst hcf
        clear hall h2
        go_wp2_with fail
        go_ret
        exact ⟨rfl, rfl⟩
    · obtain rfl : k = s.size := by omega
      have hct : c = true := by rw [HC.out]; exact @decide_eq_true _ (Classical.propDecidable _) hall
      subst hct
      clear hall
      go_wp2_with fail
      go_ret
      exact ⟨rfl, rfl⟩
end Go.Proofs.Ytgighdiidblihaa
