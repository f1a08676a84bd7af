/- poly.unlike, arePoints; lockboxref08.Unlike, Points. -/
import Derived.Test.YtefpfedpgedloaaDoorPRMul
namespace Go.Proofs.YtefpfedpgedloaaDoor
open Go.RowKit
open Gf

/-- Are bytes all unlike? -/
def ulk (s : ByteArray) : Bool := decide s.data.toList.Nodup
theorem ulk_nodup {s : ByteArray} (h : ulk s = true) : s.data.toList.Nodup := of_decide_eq_true h
theorem take_snoc (s : ByteArray) (k : Nat) (hk : k < s.size) : s.data.toList.take (k + 1) = s.data.toList.take k ++ [s[k]] := by
  rw [← List.take_append_getElem (by rw [data_len]; exact hk)]; rfl
theorem nodup_snoc {l : List UInt8} {x : UInt8} (h : l.Nodup) (hx : x ∉ l) : (l ++ [x]).Nodup := by
  rw [List.nodup_append]
  exact ⟨h, by simp, fun a ha b hb => by simp at hb; subst hb; exact fun e => hx (e ▸ ha)⟩
theorem not_nodup {s : ByteArray} {k : Nat} (hk : k < s.size) (h : s[k] ∈ s.data.toList.take k) : ulk s = false := by
  refine decide_eq_false (fun hn => ?_)
  have h1 : (s.data.toList.take (k + 1)).Nodup := hn.sublist (List.take_sublist _ _)
  rw [take_snoc s k hk, List.nodup_append] at h1
  exact h1.2.2 _ h _ (by simp) rfl
/-- Which bytes were seen. -/
def seenK (l : List UInt8) : List Value := (List.range 256).map fun i => Value.bool (l.any fun c => c.toNat == i)
theorem seenK_length (l : List UInt8) : (seenK l).length = 256 := by unfold seenK; rw [List.length_map, List.length_range]
theorem seenK_get (l : List UInt8) (x : UInt8) : (seenK l)[x.toNat]? = some (.bool (decide (x ∈ l))) := by
  unfold seenK
  rw [List.getElem?_map, List.getElem?_range x.toNat_lt, Option.map_some]
  congr 2
  by_cases h : x ∈ l
  · rw [decide_eq_true h, List.any_eq_true]; exact ⟨x, h, by simp⟩
  · rw [decide_eq_false h, List.any_eq_false]
    intro c hc e
    rw [beq_iff_eq] at e
    exact h (UInt8.toNat_inj.1 e ▸ hc)
theorem seenK_snoc (l : List UInt8) (x : UInt8) : (seenK l).set x.toNat (.bool true) = seenK (l ++ [x]) := by
  apply List.ext_getElem?
  intro i
  unfold seenK
  rw [List.getElem?_set, List.length_map, List.length_range, List.getElem?_map, List.getElem?_map]
  have hx := x.toNat_lt
  by_cases e : x.toNat = i
  · subst e
    rw [if_pos rfl, if_pos (by simpa using hx), List.getElem?_range (by simpa using hx)]
    simp
  · rw [if_neg e]
    by_cases hi : i < 256
    · rw [List.getElem?_range hi, Option.map_some, Option.map_some, List.any_append]
      have h1 : (x.toNat == i) = false := by simpa using e
      simp [h1]
    · rw [List.getElem?_eq_none (by rw [List.length_range]; omega)]; rfl
def noneSeen : List Value := List.replicate 256 (.bool false)
theorem noneSeen_eq : noneSeen = seenK [] := by
  unfold noneSeen seenK
  apply List.ext_getElem?
  intro i
  rw [List.getElem?_map, List.getElem?_replicate]
  by_cases hi : i < 256
  · rw [List.getElem?_range hi, if_pos hi]; rfl
  · rw [if_neg hi, List.getElem?_eq_none (by rw [List.length_range]; omega)]; rfl
theorem zbool (w : World) : (zeroValue 74).run Tryd.prog w = .ok (.agg noneSeen.toArray) w := (zero_of_info (P := Tryd.prog) (t := 74) (v := .agg noneSeen.toArray) (n := 256) (by kernel_rfl)).1 w
set_option maxRecDepth 100000 in
set_option maxHeartbeats 1000000 in
theorem unlike_any (s : ByteArray) (hs : s.size ≤ maxLen) (w : World) :
    Calls Tryd.prog 55 #[.string s] w fun e w' => e = .returned (.bool (ulk s)) ∧ Below w.heap.size w w' := by
  unfold maxLen at hs
  obtain ⟨R, hR⟩ : ∃ R, R = ulk s := ⟨_, rfl⟩
  rw [← hR]
  have HR := Lib.hid hR
  clear hR
  have hz := zbool
  have hr0 : RowV 74 (w.alloc (.cells noneSeen.toArray 74)) w.heap.size (seenK []) := by
    rw [← noneSeen_eq]; exact heap_alloc_new w (.cells noneSeen.toArray 74)
  have hb0 : Below w.heap.size w (w.alloc (.cells noneSeen.toArray 74)) := (Below.refl _ _).alloc (Nat.le_refl _) _
  have H0 := Lib.hid (And.intro hr0 hb0)
  clear hr0 hb0
  go_enter Tryd.func55, Tryd.ntmps55
  go_wp2_with fail
  generalize World.alloc w _ = w1 at *
  clear hz
  go_loopw [4, 7] (fun _ i wr => ∃ k : Nat, k ≤ s.size ∧ i = .int .i64 (k : Int) ∧ (s.data.toList.take k).Nodup ∧ RowV 74 wr w.heap.size (seenK (s.data.toList.take k)) ∧ Below w.heap.size w wr) (fun _ i _ => s.size - (intOf i).toNat)
  case atStart => exact ⟨0, by omega, rfl, by simp, by rw [List.take_zero]; exact H0.out.1, H0.out.2⟩
  case round =>
    clear H0
    obtain ⟨k, hk, rfl, hnd, hr, hb⟩ := hrel
    by_cases hlt : k < s.size
    · have c1 := hr.cell s[k].toNat _ (seenK_get _ s[k])
      have f1 := hr.frozen s[k].toNat
      have hbl := s[k].toNat_lt
      have hbi : (s[k].toNat : Int) < 256 := by omega
      by_cases hin : s[k] ∈ s.data.toList.take k
      · obtain rfl : R = false := by rw [HR.out]; exact not_nodup hlt hin
        rw [decide_eq_true hin] at c1
        have HB := Lib.hid hb
        clear hin hnd hr hb HR hbl
        go_wp2_with fail
        go_ret
        exact ⟨rfl, HB.out⟩
      · rw [decide_eq_false hin] at c1
        have hp := hr.put s[k].toNat (.bool true)
        rw [seenK_snoc, ← take_snoc s k hlt] at hp
        have hpn := nodup_snoc hnd hin
        rw [← take_snoc s k hlt] at hpn
        have hpb := hb.setCell (p := ⟨w.heap.size, s[k].toNat, none⟩) (Nat.le_refl _) (.bool true)
        have HP := Lib.hid (And.intro hpn (And.intro hp hpb))
        clear hin hnd hr hb hp hpn hpb hbl
        go_wp2_with fail
        go_roundw
        case rel => exact ⟨k + 1, by omega, by go_num, HP.out.1, HP.out.2.1, HP.out.2.2⟩
        case measure => simp [intOf]; omega
    · obtain rfl : k = s.size := by omega
      obtain rfl : R = true := by
        rw [HR.out]
        rw [List.take_of_length_le (by rw [data_len]; omega)] at hnd
        exact decide_eq_true hnd
      have HB := Lib.hid hb
      clear hnd hr hb HR
      go_wp2_with fail
      go_ret
      exact ⟨rfl, HB.out⟩
/-- Are two texts points? -/
def pts (l v : ByteArray) : Bool := decide (l.size = v.size) && decide (l.size ≤ 255) && ulk l
set_option maxHeartbeats 400000 in
theorem arePoints_any (l v : ByteArray) (hs : l.size ≤ maxLen) (w : World) :
    Calls Tryd.prog 45 #[.string l, .string v] w fun e w' => e = .returned (.bool (pts l v)) ∧ Below w.heap.size w w' := by
  by_cases h1 : l.size = v.size
  · have e1 : ((l.size : Int) == (v.size : Int)) = true := beq_iff_eq.2 (by omega)
    by_cases h2 : (l.size : Int) ≤ 255
    · have hp : pts l v = ulk l := by unfold pts; rw [decide_eq_true h1, decide_eq_true (by omega), Bool.and_self, Bool.true_and]
      rw [hp]
      clear hp h1
      go_enter Tryd.func45, Tryd.ntmps45
      go_wp2_with fail
      refine (unlike_any l hs _).mono ?_
      rintro e w1 ⟨rfl, hb⟩
      have HB := Lib.hid hb
      clear hb
      go_wp2_with fail
      go_ret
      exact ⟨rfl, HB.out⟩
    · have hp : pts l v = false := by unfold pts; rw [decide_eq_false (p := l.size ≤ 255) (by omega), Bool.and_false, Bool.false_and]
      rw [hp]
      clear hp h1
      go_enter Tryd.func45, Tryd.ntmps45
      go_wp2_with fail
      go_ret
      exact ⟨rfl, Below.refl _ _⟩
  · have e1 : ((l.size : Int) == (v.size : Int)) = false := by
      have : (l.size : Int) ≠ (v.size : Int) := by omega
      exact beq_eq_false_iff_ne.2 this
    have hp : pts l v = false := by unfold pts; rw [decide_eq_false h1, Bool.false_and, Bool.false_and]
    rw [hp]
    clear hp h1
    go_enter Tryd.func45, Tryd.ntmps45
    go_wp2_with fail
    go_ret
    exact ⟨rfl, Below.refl _ _⟩
theorem not_in_take {s : ByteArray} {k : Nat} (hk : k < s.size) (h : ∀ j, j < k → co s.data.toList j ≠ s[k]) : s[k] ∉ s.data.toList.take k := fun hm => by
  obtain ⟨j, hj, e⟩ := List.mem_iff_getElem.1 hm
  rw [List.length_take, data_len] at hj
  rw [List.getElem_take] at e
  refine h j (by omega) ?_
  rw [co_at s j (by omega)]
  exact e
theorem in_take {s : ByteArray} {j k : Nat} (hk : k < s.size) (hj : j < k) (e : s[j]'(by omega) = s[k]) : s[k] ∈ s.data.toList.take k := by
  rw [List.mem_iff_getElem]
  refine ⟨j, by rw [List.length_take, data_len]; omega, ?_⟩
  rw [List.getElem_take]; exact e
set_option maxRecDepth 100000 in
set_option maxHeartbeats 1000000 in
theorem runlike_any (s : ByteArray) (hs : s.size ≤ maxLen) (w : World) :
    Calls Tryd.prog 43 #[.string s] w fun e w' => e = .returned (.bool (ulk s)) ∧ Below w.heap.size w w' := by
  unfold maxLen at hs
  obtain ⟨R, hR⟩ : ∃ R, R = ulk s := ⟨_, rfl⟩
  rw [← hR]
  have HR := Lib.hid hR
  clear hR
  go_enter Tryd.func43, Tryd.ntmps43
  go_wp2_with fail
  go_loopw [3, 4] (fun i _ wr => ∃ k : Nat, k ≤ s.size ∧ i = .int .i64 (k : Int) ∧ (s.data.toList.take k).Nodup ∧ Below w.heap.size w wr) (fun i _ _ => s.size - (intOf i).toNat)
  case atStart => exact ⟨0, by omega, rfl, by simp, Below.refl _ _⟩
  case round =>
    obtain ⟨k, hk, rfl, hnd, hb⟩ := hrel
    by_cases hlt : k < s.size
    · have H := Lib.hid (And.intro hnd hb)
      clear hnd hb
      go_wp2_with fail
      go_loopw [4] (fun i W => ∃ j : Nat, j ≤ k ∧ i = .int .i64 (j : Int) ∧ (∀ t, t < j → co s.data.toList t ≠ s[k]) ∧ Below w.heap.size w W) (fun i _ => k - (intOf i).toNat)
      case atStart => exact ⟨0, by omega, rfl, fun t ht => absurd ht (by omega), H.out.2⟩
      case round =>
        obtain ⟨j, hj, rfl, hall, hb⟩ := hrel
        by_cases hlj : j < k
        · have hjs : j < s.size := by omega
          have heq := u_eq s[j] s[k]
          by_cases he : s[j] = s[k]
          · obtain rfl : R = false := by rw [HR.out]; exact not_nodup hlt (in_take hlt hlj he)
            rw [decide_eq_true he] at heq
            have HB := Lib.hid hb
            clear he hall hb HR H
            go_wp2_with fail
            go_quiet (fail)
            go_wp2_with fail
            go_ret
            exact ⟨rfl, gdrew HB.out _⟩
          · rw [decide_eq_false he] at heq
            have HB := Lib.hid (And.intro hb (And.intro hall he))
            clear he hall hb
            go_wp2_with fail
            go_quiet (fail)
            go_wp2_with fail
            go_roundw
            case rel =>
              refine ⟨j + 1, by omega, by go_num, fun t ht => ?_, gdrew HB.out.1 _⟩
              by_cases e : t = j
              · subst e; rw [co_at s t hjs]; exact HB.out.2.2
              · exact HB.out.2.1 t (by omega)
            case measure => simp [intOf]; omega
        · obtain rfl : j = k := by omega
          have hpn := nodup_snoc H.out.1 (not_in_take hlt hall)
          rw [← take_snoc s j hlt] at hpn
          have HP := Lib.hid (And.intro hpn hb)
          clear hall hb hpn
          go_wp2_with fail
          go_roundw
          case rel => exact ⟨j + 1, by omega, by go_num, HP.out.1, HP.out.2⟩
          case measure => simp [intOf]; omega
    · obtain rfl : k = s.size := by omega
      obtain rfl : R = true := by
        rw [HR.out]
        rw [List.take_of_length_le (by rw [data_len]; omega)] at hnd
        exact decide_eq_true hnd
      have HB := Lib.hid hb
      clear hnd hb HR
      go_wp2_with fail
      go_ret
      exact ⟨rfl, HB.out⟩
set_option maxHeartbeats 400000 in
theorem rpoints_any (l v : ByteArray) (hs : l.size ≤ maxLen) (w : World) :
    Calls Tryd.prog 34 #[.string l, .string v] w fun e w' => e = .returned (.bool (pts l v)) ∧ Below w.heap.size w w' := by
  by_cases h1 : l.size = v.size
  · have e1 : ((l.size : Int) == (v.size : Int)) = true := beq_iff_eq.2 (by omega)
    by_cases h2 : (l.size : Int) ≤ 255
    · have hp : pts l v = ulk l := by unfold pts; rw [decide_eq_true h1, decide_eq_true (by omega), Bool.and_self, Bool.true_and]
      rw [hp]
      clear hp h1
      go_enter Tryd.func34, Tryd.ntmps34
      go_wp2_with fail
      refine (runlike_any l hs _).mono ?_
      rintro e w1 ⟨rfl, hb⟩
      have HB := Lib.hid hb
      clear hb
      go_wp2_with fail
      go_ret
      exact ⟨rfl, HB.out⟩
    · have hp : pts l v = false := by unfold pts; rw [decide_eq_false (p := l.size ≤ 255) (by omega), Bool.and_false, Bool.false_and]
      rw [hp]
      clear hp h1
      go_enter Tryd.func34, Tryd.ntmps34
      go_wp2_with fail
      go_ret
      exact ⟨rfl, Below.refl _ _⟩
  · have e1 : ((l.size : Int) == (v.size : Int)) = false := by
      have : (l.size : Int) ≠ (v.size : Int) := by omega
      exact beq_eq_false_iff_ne.2 this
    have hp : pts l v = false := by unfold pts; rw [decide_eq_false h1, Bool.false_and, Bool.false_and]
    rw [hp]
    clear hp h1
    go_enter Tryd.func34, Tryd.ntmps34
    go_wp2_with fail
    go_ret
    exact ⟨rfl, Below.refl _ _⟩
end Go.Proofs.YtefpfedpgedloaaDoor
