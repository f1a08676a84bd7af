/- Merged by program: lockboxref08.Add, Mul. | lockboxref08.Mul. | poly.unlike, arePoints; lockboxref08.Unlike, Points. | poly.Weights, At. | poly.At; lockboxref08.Weights, At. | poly.Through. | lockboxlaw08.few, awake. | What the weights tell of points, in texts. -/
import Derived.Test.YtefpfedpgedloaaGreatDoorMP1
import Derived.Test.YtefpfedpgedloaaGreatDoorMG2
namespace Go.Proofs.YtefpfedpgedloaaGreatDoor
open Go.RowKit
open Gf

/-- The sums of the first k bytes. -/
def xorK (b c : List UInt8) : Nat → List UInt8
  | 0 => []
  | k + 1 => xorK b c k ++ [co b k ^^^ co c k]
theorem xorK_length (b c : List UInt8) : ∀ k, (xorK b c k).length = k
  | 0 => rfl
  | k + 1 => by rw [xorK, List.length_append, xorK_length b c k]; rfl
theorem co_app (p q : List UInt8) (i : Nat) : co (p ++ q) i = if i < p.length then co p i else co q (i - p.length) := by
  unfold co
  rw [List.getD_eq_getElem?_getD, List.getD_eq_getElem?_getD, List.getD_eq_getElem?_getD]
  split
  · next h => rw [List.getElem?_append_left h]
  · next h => rw [List.getElem?_append_right (by omega)]
theorem co_xorK (b c : List UInt8) : ∀ k i, i < k → co (xorK b c k) i = co b i ^^^ co c i
  | 0, i, h => absurd h (by omega)
  | k + 1, i, h => by
    rw [xorK, co_app, xorK_length]
    by_cases e : i < k
    · rw [if_pos e, co_xorK b c k i e]
    · obtain rfl : i = k := by omega
      rw [if_neg e, Nat.sub_self, co_zero]
theorem xorK_all {a b : ByteArray} {n : Nat} (ha : a.size ≤ n) (hb : b.size ≤ n) : trimB (str (xorK a.data.toList b.data.toList n)) = sumB a b := by
  unfold trimB sumB
  rw [str_data]
  congr 1
  refine trimL_same (fun i => ?_)
  rw [co_addP]
  by_cases h : i < n
  · rw [co_xorK _ _ _ _ h]
  · rw [co_far (by rw [xorK_length]; omega), co_far (by rw [data_len]; omega), co_far (by rw [data_len]; omega)]; rfl
end Go.Proofs.YtefpfedpgedloaaGreatDoor
namespace Go.Proofs.YtefpfedpgedloaaGreatDoor
open Go.RowKit
open Gf

/-- The product's first k bytes. -/
def convK (a b : List UInt8) : Nat → List UInt8
  | 0 => []
  | k + 1 => convK a b k ++ [conv a b k a.length]
theorem convK_length (a b : List UInt8) : ∀ k, (convK a b k).length = k
  | 0 => rfl
  | k + 1 => by rw [convK, List.length_append, convK_length a b k]; rfl
theorem co_convK (a b : List UInt8) : ∀ k i, i < k → co (convK a b k) i = conv a b i a.length
  | 0, i, h => absurd h (by omega)
  | k + 1, i, h => by
    rw [convK, co_app, convK_length]
    by_cases e : i < k
    · rw [if_pos e, co_convK a b k i e]
    · obtain rfl : i = k := by omega
      rw [if_neg e, Nat.sub_self, co_zero]
theorem convK_all {a b : ByteArray} {n : Nat} (hn : n = a.size + b.size) : trimB (str (convK a.data.toList b.data.toList n)) = mulB a b := by
  unfold trimB mulB
  rw [str_data]
  congr 1
  refine trimL_same (fun i => ?_)
  by_cases h : i < n
  · rw [co_convK _ _ _ _ h, co_mulP]
  · rw [co_far (by rw [convK_length]; omega), mulP_length _ _ _ (by rw [data_len, data_len]; omega)]
theorem coI_sub (b : ByteArray) (k i : Nat) (x : UInt8) : mul x (coI b ((k : Int) - (i : Int))) = if i ≤ k then mul x (co b.data.toList (k - i)) else 0 := by
  unfold coI
  by_cases h : i ≤ k
  · rw [if_neg (by omega), if_pos h]
    congr 2
    omega
  · rw [if_pos (by omega), if_neg h, mul_zero]
end Go.Proofs.YtefpfedpgedloaaGreatDoor
namespace Go.Proofs.YtefpfedpgedloaaGreatDoor
open Go.RowKit
open Gf

/-- Are bytes all unlike? -/
def ulk (s : ByteArray) : Bool := decide s.data.toList.Nodup
theorem ulk_nodup {s : ByteArray} (h : ulk s = true) : s.data.toList.Nodup := of_decide_eq_true h
theorem take_snoc (s : ByteArray) (k : Nat) (hk : k < s.size) : s.data.toList.take (k + 1) = s.data.toList.take k ++ [s[k]] := by
  rw [← List.take_append_getElem (by rw [data_len]; exact hk)]; rfl
theorem nodup_snoc {l : List UInt8} {x : UInt8} (h : l.Nodup) (hx : x ∉ l) : (l ++ [x]).Nodup := by
  rw [List.nodup_append]
  exact ⟨h, by simp, fun a ha b hb => by simp at hb; subst hb; exact fun e => hx (e ▸ ha)⟩
theorem not_nodup {s : ByteArray} {k : Nat} (hk : k < s.size) (h : s[k] ∈ s.data.toList.take k) : ulk s = false := by
  refine decide_eq_false (fun hn => ?_)
  have h1 : (s.data.toList.take (k + 1)).Nodup := hn.sublist (List.take_sublist _ _)
  rw [take_snoc s k hk, List.nodup_append] at h1
  exact h1.2.2 _ h _ (by simp) rfl
/-- Which bytes were seen. -/
def seenK (l : List UInt8) : List Value := (List.range 256).map fun i => Value.bool (l.any fun c => c.toNat == i)
theorem seenK_length (l : List UInt8) : (seenK l).length = 256 := by unfold seenK; rw [List.length_map, List.length_range]
theorem seenK_get (l : List UInt8) (x : UInt8) : (seenK l)[x.toNat]? = some (.bool (decide (x ∈ l))) := by
  unfold seenK
  rw [List.getElem?_map, List.getElem?_range x.toNat_lt, Option.map_some]
  congr 2
  by_cases h : x ∈ l
  · rw [decide_eq_true h, List.any_eq_true]; exact ⟨x, h, by simp⟩
  · rw [decide_eq_false h, List.any_eq_false]
    intro c hc e
    rw [beq_iff_eq] at e
    exact h (UInt8.toNat_inj.1 e ▸ hc)
theorem seenK_snoc (l : List UInt8) (x : UInt8) : (seenK l).set x.toNat (.bool true) = seenK (l ++ [x]) := by
  apply List.ext_getElem?
  intro i
  unfold seenK
  rw [List.getElem?_set, List.length_map, List.length_range, List.getElem?_map, List.getElem?_map]
  have hx := x.toNat_lt
  by_cases e : x.toNat = i
  · subst e
    rw [if_pos rfl, if_pos (by simpa using hx), List.getElem?_range (by simpa using hx)]
    simp
  · rw [if_neg e]
    by_cases hi : i < 256
    · rw [List.getElem?_range hi, Option.map_some, Option.map_some, List.any_append]
      have h1 : (x.toNat == i) = false := by simpa using e
      simp [h1]
    · rw [List.getElem?_eq_none (by rw [List.length_range]; omega)]; rfl
def noneSeen : List Value := List.replicate 256 (.bool false)
theorem noneSeen_eq : noneSeen = seenK [] := by
  unfold noneSeen seenK
  apply List.ext_getElem?
  intro i
  rw [List.getElem?_map, List.getElem?_replicate]
  by_cases hi : i < 256
  · rw [List.getElem?_range hi, if_pos hi]; rfl
  · rw [if_neg hi, List.getElem?_eq_none (by rw [List.length_range]; omega)]; rfl
theorem zbool (w : World) : (zeroValue 77).run Tryz.prog w = .ok (.agg noneSeen.toArray) w := (zero_of_info (P := Tryz.prog) (t := 77) (v := .agg noneSeen.toArray) (n := 256) (by kernel_rfl)).1 w
set_option maxRecDepth 100000 in
set_option maxHeartbeats 1000000 in
theorem unlike_any (s : ByteArray) (hs : s.size ≤ maxLen) (w : World) :
    Calls Tryz.prog 108 #[.string s] w fun e w' => e = .returned (.bool (ulk s)) ∧ Below w.heap.size w w' := by
  unfold maxLen at hs
  obtain ⟨R, hR⟩ : ∃ R, R = ulk s := ⟨_, rfl⟩
  rw [← hR]
  have HR := Lib.hid hR
  clear hR
  have hz := zbool
  have hr0 : RowV 77 (w.alloc (.cells noneSeen.toArray 77)) w.heap.size (seenK []) := by
    rw [← noneSeen_eq]; exact heap_alloc_new w (.cells noneSeen.toArray 77)
  have hb0 : Below w.heap.size w (w.alloc (.cells noneSeen.toArray 77)) := (Below.refl _ _).alloc (Nat.le_refl _) _
  have H0 := Lib.hid (And.intro hr0 hb0)
  clear hr0 hb0
  go_enter Tryz.func108, Tryz.ntmps108
  go_wp2_with fail
  generalize World.alloc w _ = w1 at *
  clear hz
  go_loopw [4, 7] (fun _ i wr => ∃ k : Nat, k ≤ s.size ∧ i = .int .i64 (k : Int) ∧ (s.data.toList.take k).Nodup ∧ RowV 77 wr w.heap.size (seenK (s.data.toList.take k)) ∧ Below w.heap.size w wr) (fun _ i _ => s.size - (intOf i).toNat)
  case atStart => exact ⟨0, by omega, rfl, by simp, by rw [List.take_zero]; exact H0.out.1, H0.out.2⟩
  case round =>
    clear H0
    obtain ⟨k, hk, rfl, hnd, hr, hb⟩ := hrel
    by_cases hlt : k < s.size
    · have c1 := hr.cell s[k].toNat _ (seenK_get _ s[k])
      have f1 := hr.frozen s[k].toNat
      have hbl := s[k].toNat_lt
      have hbi : (s[k].toNat : Int) < 256 := by omega
      by_cases hin : s[k] ∈ s.data.toList.take k
      · obtain rfl : R = false := by rw [HR.out]; exact not_nodup hlt hin
        rw [decide_eq_true hin] at c1
        have HB := Lib.hid hb
        clear hin hnd hr hb HR hbl
        go_wp2_with fail
        go_ret
        exact ⟨rfl, HB.out⟩
      · rw [decide_eq_false hin] at c1
        have hp := hr.put s[k].toNat (.bool true)
        rw [seenK_snoc, ← take_snoc s k hlt] at hp
        have hpn := nodup_snoc hnd hin
        rw [← take_snoc s k hlt] at hpn
        have hpb := hb.setCell (p := ⟨w.heap.size, s[k].toNat, none⟩) (Nat.le_refl _) (.bool true)
        have HP := Lib.hid (And.intro hpn (And.intro hp hpb))
        clear hin hnd hr hb hp hpn hpb hbl
        go_wp2_with fail
        go_roundw
        case rel => exact ⟨k + 1, by omega, by go_num, HP.out.1, HP.out.2.1, HP.out.2.2⟩
        case measure => simp [intOf]; omega
    · obtain rfl : k = s.size := by omega
      obtain rfl : R = true := by
        rw [HR.out]
        rw [List.take_of_length_le (by rw [data_len]; omega)] at hnd
        exact decide_eq_true hnd
      have HB := Lib.hid hb
      clear hnd hr hb HR
      go_wp2_with fail
      go_ret
      exact ⟨rfl, HB.out⟩
/-- Are two texts points? -/
def pts (l v : ByteArray) : Bool := decide (l.size = v.size) && decide (l.size ≤ 255) && ulk l
set_option maxHeartbeats 400000 in
theorem arePoints_any (l v : ByteArray) (hs : l.size ≤ maxLen) (w : World) :
    Calls Tryz.prog 77 #[.string l, .string v] w fun e w' => e = .returned (.bool (pts l v)) ∧ Below w.heap.size w w' := by
  by_cases h1 : l.size = v.size
  · have e1 : ((l.size : Int) == (v.size : Int)) = true := beq_iff_eq.2 (by omega)
    by_cases h2 : (l.size : Int) ≤ 255
    · have hp : pts l v = ulk l := by unfold pts; rw [decide_eq_true h1, decide_eq_true (by omega), Bool.and_self, Bool.true_and]
      rw [hp]
      clear hp h1
      go_enter Tryz.func77, Tryz.ntmps77
      go_wp2_with fail
      refine (unlike_any l hs _).mono ?_
      rintro e w1 ⟨rfl, hb⟩
      have HB := Lib.hid hb
      clear hb
      go_wp2_with fail
      go_ret
      exact ⟨rfl, HB.out⟩
    · have hp : pts l v = false := by unfold pts; rw [decide_eq_false (p := l.size ≤ 255) (by omega), Bool.and_false, Bool.false_and]
      rw [hp]
      clear hp h1
      go_enter Tryz.func77, Tryz.ntmps77
      go_wp2_with fail
      go_ret
      exact ⟨rfl, Below.refl _ _⟩
  · have e1 : ((l.size : Int) == (v.size : Int)) = false := by
      have : (l.size : Int) ≠ (v.size : Int) := by omega
      exact beq_eq_false_iff_ne.2 this
    have hp : pts l v = false := by unfold pts; rw [decide_eq_false h1, Bool.false_and, Bool.false_and]
    rw [hp]
    clear hp h1
    go_enter Tryz.func77, Tryz.ntmps77
    go_wp2_with fail
    go_ret
    exact ⟨rfl, Below.refl _ _⟩
theorem not_in_take {s : ByteArray} {k : Nat} (hk : k < s.size) (h : ∀ j, j < k → co s.data.toList j ≠ s[k]) : s[k] ∉ s.data.toList.take k := fun hm => by
  obtain ⟨j, hj, e⟩ := List.mem_iff_getElem.1 hm
  rw [List.length_take, data_len] at hj
  rw [List.getElem_take] at e
  refine h j (by omega) ?_
  rw [co_at s j (by omega)]
  exact e
theorem in_take {s : ByteArray} {j k : Nat} (hk : k < s.size) (hj : j < k) (e : s[j]'(by omega) = s[k]) : s[k] ∈ s.data.toList.take k := by
  rw [List.mem_iff_getElem]
  refine ⟨j, by rw [List.length_take, data_len]; omega, ?_⟩
  rw [List.getElem_take]; exact e
end Go.Proofs.YtefpfedpgedloaaGreatDoor
namespace Go.Proofs.YtefpfedpgedloaaGreatDoor
open Go.RowKit
open Gf

theorem OwnB.drewN {B : Nat} {w : World} {a : Option Addr} {cap : Nat} {l : List UInt8} (h : OwnB B w a cap l) : ∀ n, OwnB B (w.drewN n) a cap l
  | 0 => h
  | n + 1 => (OwnB.drewN h n).drew
/-- The weights, or nothing. -/
def wgtB (l : ByteArray) (x : UInt8) : ByteArray := if ulk l = true then str (wgts l.data.toList x) else ⟨#[]⟩
def werr (l : ByteArray) : Int := if ulk l = true then 0 else 1
/-- What stands in memory behind k weights. -/
def wK (l : List UInt8) (x : UInt8) (k : Nat) : List UInt8 := (List.range l.length).map fun i => if i < k then wgt l x i else 0
theorem wK_length (l : List UInt8) (x : UInt8) (k : Nat) : (wK l x k).length = l.length := by unfold wK; rw [List.length_map, List.length_range]
theorem wK_zero (l : List UInt8) (x : UInt8) : wK l x 0 = List.replicate l.length 0 := by
  unfold wK
  apply List.ext_getElem?
  intro i
  rw [List.getElem?_map, List.getElem?_replicate]
  by_cases hi : i < l.length
  · rw [List.getElem?_range hi, if_pos hi]; rfl
  · rw [if_neg hi, List.getElem?_eq_none (by rw [List.length_range]; omega)]; rfl
theorem wK_step (l : List UInt8) (x : UInt8) (k : Nat) (hk : k < l.length) : (wK l x k).set k (wgt l x k) = wK l x (k + 1) := by
  apply List.ext_getElem?
  intro i
  unfold wK
  rw [List.getElem?_set, List.length_map, List.length_range, List.getElem?_map, List.getElem?_map]
  by_cases hi : i < l.length
  · rw [List.getElem?_range hi]
    by_cases e : k = i
    · subst e; rw [if_pos rfl, if_pos hk]; simp
    · rw [if_neg e]
      have : (i < k) = (i < k + 1) := by apply propext; omega
      simp [this]
  · rw [if_neg (by omega), List.getElem?_eq_none (by rw [List.length_range]; omega)]; rfl
theorem wK_all (l : List UInt8) (x : UInt8) : wK l x l.length = wgts l x := by
  unfold wK wgts
  refine List.map_congr_left (fun i hi => ?_)
  rw [if_pos (List.mem_range.1 hi)]
end Go.Proofs.YtefpfedpgedloaaGreatDoor
namespace Go.Proofs.YtefpfedpgedloaaGreatDoor
open Go.RowKit
open Gf

theorem wgtB_size {l : ByteArray} (x : UInt8) (h : ulk l = true) : (wgtB l x).size = l.size := by
  unfold wgtB; rw [if_pos h, str_size, wgts_length, data_len]
theorem wgtB_le (l : ByteArray) (x : UInt8) : (wgtB l x).size ≤ l.size := by
  by_cases h : ulk l = true
  · rw [wgtB_size x h]; exact Nat.le_refl _
  · unfold wgtB; rw [if_neg h]; exact Nat.zero_le _
/-- What goes through the points, there. -/
def atB (l v : ByteArray) (x : UInt8) : UInt8 := if pts l v = true then dot (wgtB l x) v else 0
def aerr (l v : ByteArray) : Int := if pts l v = true then 0 else 1
theorem pts_true {l v : ByteArray} (h : pts l v = true) : l.size = v.size ∧ l.size ≤ 255 ∧ ulk l = true := by
  unfold pts at h
  simp only [Bool.and_eq_true, decide_eq_true_eq] at h
  exact ⟨h.1.1, h.1.2, h.2⟩
/-- The first k weights. -/
def wS (l : List UInt8) (x : UInt8) (k : Nat) : List UInt8 := (List.range k).map (wgt l x)
theorem wS_length (l : List UInt8) (x : UInt8) (k : Nat) : (wS l x k).length = k := by unfold wS; rw [List.length_map, List.length_range]
theorem wS_snoc (l : List UInt8) (x : UInt8) (k : Nat) : wS l x (k + 1) = wS l x k ++ [wgt l x k] := by
  unfold wS; rw [List.range_succ, List.map_append]; rfl
/-- Factor by factor. -/
def fac (l : List UInt8) (x : UInt8) (i m : Nat) : UInt8 := prodX (fun k => mul (x ^^^ co l k) (inv (co l i ^^^ co l k))) i m
end Go.Proofs.YtefpfedpgedloaaGreatDoor
namespace Go.Proofs.YtefpfedpgedloaaGreatDoor
open Go.RowKit
open Gf

/-- x, and 1: x less a place. -/
def lin (x : UInt8) : ByteArray := str [x, 1]
/-- What goes through the first k points, and what is 0 at their places. -/
def thr (l v : ByteArray) : Nat → ByteArray × ByteArray
  | 0 => (⟨#[]⟩, ⟨#[1]⟩)
  | k + 1 => (sumB (thr l v k).1 (scaleB (thr l v k).2 (mul (co v.data.toList k ^^^ valB (thr l v k).1 (co l.data.toList k)) (invz (valB (thr l v k).2 (co l.data.toList k))))),
      mulB (thr l v k).2 (lin (co l.data.toList k)))
theorem valB_sumB (a b : ByteArray) (x : UInt8) : valB (sumB a b) x = valB a x ^^^ valB b x := by
  unfold valB sumB; rw [str_data, val_trimL, val_addP]
theorem valB_mulB (a b : ByteArray) (x : UInt8) : valB (mulB a b) x = mul (valB a x) (valB b x) := by
  unfold valB mulB; rw [str_data, val_trimL, val_mulP]
theorem valB_scaleB (p : ByteArray) (c x : UInt8) : valB (scaleB p c) x = mul (valB p x) c := by
  unfold valB scaleB; rw [str_data, val_trimL, val_scale]
theorem valB_lin (q x : UInt8) : valB (lin q) x = x ^^^ q := by
  unfold valB lin; rw [str_data, val, val, val, mul_zero, UInt8.xor_zero, mul_one, UInt8.xor_comm]
theorem thr_zero (l v : ByteArray) (y : UInt8) : ∀ k, valB (thr l v k).2 y = nought l.data.toList y k
  | 0 => by
    show valB ⟨#[1]⟩ y = 1
    unfold valB
    show val [1] y = 1
    rw [val, val, mul_zero, UInt8.xor_zero]
  | k + 1 => by
    show valB (mulB (thr l v k).2 (lin (co l.data.toList k))) y = _
    rw [valB_mulB, valB_lin, thr_zero l v y k]; rfl
theorem thr_sizes (l v : ByteArray) : ∀ k, (thr l v k).1.size ≤ k ∧ (thr l v k).2.size ≤ k + 1
  | 0 => ⟨Nat.le_refl _, Nat.le_refl _⟩
  | k + 1 => by
    obtain ⟨h1, h2⟩ := thr_sizes l v k
    constructor
    · show (sumB (thr l v k).1 (scaleB (thr l v k).2 _)).size ≤ _
      have := sumB_size (thr l v k).1 (scaleB (thr l v k).2 (mul (co v.data.toList k ^^^ valB (thr l v k).1 (co l.data.toList k)) (invz (valB (thr l v k).2 (co l.data.toList k)))))
      have h3 := scaleB_size (thr l v k).2 (mul (co v.data.toList k ^^^ valB (thr l v k).1 (co l.data.toList k)) (invz (valB (thr l v k).2 (co l.data.toList k))))
      omega
    · show (mulB (thr l v k).2 (lin (co l.data.toList k))).size ≤ _
      have h4 : (lin (co l.data.toList k)).size = 2 := rfl
      have := mulB_size (thr l v k).2 (lin (co l.data.toList k)) (by omega)
      omega
theorem thr_through {l v : ByteArray} (hn : l.data.toList.Nodup) : ∀ k, k ≤ l.size → ∀ j, j < k → valB (thr l v k).1 (co l.data.toList j) = co v.data.toList j
  | 0, _, j, h => absurd h (by omega)
  | k + 1, hk, j, h => by
    show valB (sumB (thr l v k).1 (scaleB (thr l v k).2 _)) _ = _
    rw [valB_sumB, valB_scaleB, thr_zero]
    by_cases e : j = k
    · subst e
      have h0 : nought l.data.toList (co l.data.toList j) j ≠ 0 := nought_ne hn (by rw [data_len]; omega) j (Nat.le_refl _)
      rw [thr_zero, show invz (nought l.data.toList (co l.data.toList j) j) = inv (nought l.data.toList (co l.data.toList j) j) from if_neg h0]
      generalize nought l.data.toList (co l.data.toList j) j = z at *
      rw [mul_comm z, mul_assoc, mul_comm (inv z) z, mul_inv h0, mul_one]
      generalize valB _ _ = a
      rw [UInt8.xor_comm (co v.data.toList j), ← UInt8.xor_assoc, UInt8.xor_self, UInt8.zero_xor]
    · rw [nought_at k (show j < k by omega), zero_mul, UInt8.xor_zero]
      exact thr_through hn k (by omega) j (by omega)
theorem trim_sumB (a b : ByteArray) : trimB (sumB a b) = sumB a b := by
  unfold trimB sumB; rw [str_data, trimL_trimL]
theorem thr_trimmed (l v : ByteArray) : ∀ k, trimB (thr l v k).1 = (thr l v k).1
  | 0 => trimB_empty rfl
  | _ + 1 => trim_sumB _ _
/-- What goes through points, or nothing. -/
def thrB (l v : ByteArray) : ByteArray := if pts l v = true then (thr l v l.size).1 else ⟨#[]⟩
theorem conv_x1 (c : UInt8) (W : World) : (convert 35 9 (.slice (some ⟨W.heap.size, 0, none⟩) 2 2)).run Tryz.prog (W.alloc (.cells #[.int .u8 (c.toNat : Int), .int .u8 1] 5)) = .ok (.string (lin c)) (W.alloc (.cells #[.int .u8 (c.toNat : Int), .int .u8 1] 5)) := by
  have h := run_convert_bytes_arg (P := Tryz.prog) (W.alloc (.cells #[.int .u8 (c.toNat : Int), .int .u8 1] 5)) 35 5 Tryz.underlying35 Tryz.underlying5 W.heap.size 0 2 2 [(c.toNat : Int), 1] rfl (fun j hj => by
    rw [cell_of_row _ _ _ _ _ _ (heap_alloc_new _ _)]
    obtain rfl | rfl : j = 0 ∨ j = 1 := by omega
    · rfl
    · rfl) 9 Tryz.underlying9
  rw [h, show strOfNums [(c.toNat : Int), 1] = lin c from by simp [strOfNums, lin, str]]
theorem div_still (a b : UInt8) (w : World) :
    Calls Tryz.prog 78 #[.int .u8 (a.toNat : Int), .int .u8 (b.toNat : Int)] w fun e w' => e = .returned (.tuple #[.int .u8 ((mul a (invz b)).toNat : Int), .int .i64 (ierr b)]) ∧ w' = w :=
  (gfdiv_any a b w).mono fun _ _ ⟨h, k⟩ => ⟨h, k.symm⟩
set_option maxRecDepth 100000 in
set_option maxHeartbeats 2000000 in
theorem through_any (l v : ByteArray) (hs : l.size ≤ 100000) (w : World) :
    Calls Tryz.prog 63 #[.string l, .string v] w fun e w' => e = .returned (.tuple #[.string (thrB l v), .int .i64 (aerr l v)]) ∧ Below w.heap.size w w' := by
  have hp := arePoints_any l v (by unfold maxLen; omega)
  cases hpt : pts l v with
  | false =>
    rw [show thrB l v = ⟨#[]⟩ by unfold thrB; rw [hpt]; rfl, show aerr l v = 1 by unfold aerr; rw [hpt]; rfl]
    rw [hpt] at hp
    have HU := Lib.hid hp
    clear hp hpt
    go_enter Tryz.func63, Tryz.ntmps63
    go_wp2_with fail
    refine (HU.out _).mono ?_
    rintro e w1 ⟨rfl, hb⟩
    have HB := Lib.hid hb
    clear hb
    go_wp2_with fail
    go_ret2
    exact ⟨rfl, HB.out⟩
  | true =>
    obtain ⟨h1, h2, _⟩ := pts_true hpt
    rw [show aerr l v = 0 by unfold aerr; rw [hpt]; rfl, show thrB l v = (thr l v l.size).1 by unfold thrB; rw [hpt]; rfl]
    rw [hpt] at hp
    have HU := Lib.hid hp
    have hvl : (v.size : Int) = l.size := by omega
    clear hp hpt hs
    go_enter Tryz.func63, Tryz.ntmps63
    go_wp2_with fail
    refine (HU.out _).mono ?_
    rintro e w1 ⟨rfl, hb1⟩
    have H0 := Lib.hid hb1
    clear hb1
    go_wp2_with fail
    go_loopw [6, 7, 8, 9, 10, 11, 18] (fun t z _ _ _ _ i wr => ∃ k : Nat, k ≤ l.size ∧ i = .int .i64 (k : Int) ∧ t = .string (thr l v k).1 ∧ z = .string (thr l v k).2 ∧ Below w.heap.size w wr) (fun _ _ _ _ _ _ i _ => l.size - (intOf i).toNat)
    case atStart => exact ⟨0, by omega, rfl, rfl, rfl, H0.out⟩
    case round =>
      clear H0
      obtain ⟨k, hk, rfl, rfl, rfl, hb⟩ := hrel
      by_cases hlt : k < l.size
      · have hkv : k < v.size := by omega
        obtain ⟨s1, s2⟩ := thr_sizes l v k
        have hn1 : (thr l v (k + 1)).1 = sumB (thr l v k).1 (scaleB (thr l v k).2 (mul (v[k] ^^^ valB (thr l v k).1 l[k]) (invz (valB (thr l v k).2 l[k])))) := by
          rw [← co_at l k hlt, ← co_at v k hkv]; rfl
        have hn2 : (thr l v (k + 1)).2 = mulB (thr l v k).2 (lin l[k]) := by rw [← co_at l k hlt]; rfl
        obtain ⟨T, hT⟩ : ∃ T, T = (thr l v (k + 1)).1 := ⟨_, rfl⟩
        obtain ⟨Z, hZ⟩ : ∃ Z, Z = (thr l v (k + 1)).2 := ⟨_, rfl⟩
        rw [← hT] at hn1
        rw [← hZ] at hn2
        generalize (thr l v k).1 = t at *
        generalize (thr l v k).2 = z at *
        obtain ⟨y, hy⟩ : ∃ y, y = v[k] ^^^ valB t l[k] := ⟨_, rfl⟩
        have e1 := u_xor v[k] (valB t l[k])
        rw [← hy] at e1 hn1
        obtain ⟨q, hq⟩ : ∃ q, q = mul y (invz (valB z l[k])) := ⟨_, rfl⟩
        have hdiv := div_still y (valB z l[k])
        rw [← hq] at hdiv hn1
        have hv1 : t.size ≤ maxLen := by unfold maxLen; omega
        have hv2 : z.size ≤ maxLen := by unfold maxLen; omega
        have hsc := pscale_any z (by omega) q
        have hsz := scaleB_size z q
        have hsu := padd_any t (scaleB z q) (by omega) (by omega)
        rw [← hn1] at hsu
        have hml := pmul_any z (lin l[k]) (by omega) (by show (2 : Nat) ≤ _; omega)
        rw [← hn2] at hml
        have hcv := conv_x1 l[k]
        generalize scaleB z q = S at *
        have HV := Lib.hid (And.intro hdiv (And.intro hsc (And.intro hsu hml)))
        have HT := Lib.hid (And.intro hT hZ)
        have HB := Lib.hid hb
        clear hdiv hsc hsu hml hT hZ hb hn1 hn2 hy hq hsz s1 s2
        go_wp2_with fail
        go_quiet ((first
          | (go_at_call 78; exact Calls.quiet_of_same (HV.out.1 _))
          | (go_at_call 46; exact Calls.quiet_of (value_q _ (by assumption) _ _))))
        have HB1 := Lib.hid (gdrew HB.out nq)
        clear HB
        generalize World.drewN _ _ = W1 at *
        go_wp2_with fail
        refine (HV.out.2.1 _).mono ?_
        rintro e w2 ⟨rfl, hb2⟩
        have HB2 := Lib.hid (HB1.out.trans (hb2.mono HB1.out.size))
        clear hb2
        go_wp2_with fail
        refine (HV.out.2.2.1 _).mono ?_
        rintro e w3 ⟨rfl, hb3⟩
        have HB3 := Lib.hid (HB2.out.trans (hb3.mono HB2.out.size))
        clear hb3
        have hb4 : Below w.heap.size w (w3.alloc (.cells #[.int .u8 (l[k].toNat : Int), .int .u8 1] 5)) := HB3.out.alloc HB3.out.size _
        have HB4 := Lib.hid hb4
        clear hb4
        go_wp2_with fail
        refine (HV.out.2.2.2 _).mono ?_
        rintro e w5 ⟨rfl, hb5⟩
        have HB5 := Lib.hid (HB4.out.trans (hb5.mono HB4.out.size))
        clear hb5
        go_wp2_with fail
        go_roundw
        case rel => exact ⟨k + 1, by omega, by go_num, by rw [← HT.out.1], by rw [← HT.out.2], HB5.out⟩
        case measure => simp [intOf]; omega
      · obtain rfl : k = l.size := by omega
        have HB := Lib.hid hb
        clear hb
        go_wp2_with fail
        go_ret2
        exact ⟨rfl, HB.out⟩
end Go.Proofs.YtefpfedpgedloaaGreatDoor
namespace Go.Proofs.YtefpfedpgedloaaGreatDoor
open Go.RowKit
open Gf

/-- Not longer than that, both. -/
def few2 (m : Int) (a b : ByteArray) : Bool := decide ((a.size : Int) ≤ m) && decide ((b.size : Int) ≤ m)
theorem aw_thr (w : World) : Calls Tryz.prog 63 #[.string ⟨#[1, 2]⟩, .string ⟨#[3, 0]⟩] w fun e w' => e = .returned (.tuple #[.string ⟨#[2, 1]⟩, .int .i64 0]) ∧ Below w.heap.size w w' := by
  have h := through_any ⟨#[1, 2]⟩ ⟨#[3, 0]⟩ (by decide) w
  rw [show thrB ⟨#[1, 2]⟩ ⟨#[3, 0]⟩ = ⟨#[2, 1]⟩ by decide +kernel, show aerr ⟨#[1, 2]⟩ ⟨#[3, 0]⟩ = 0 by decide +kernel] at h
  exact h
theorem aw_v1 (w : World) : Calls Tryz.prog 46 #[.string ⟨#[1, 1]⟩, .int .u8 2] w fun e w' => e = .returned (.int .u8 3) ∧ Below w.heap.size w w' := by
  have h := value_any ⟨#[1, 1]⟩ (by decide) 2 w
  rw [show valB ⟨#[1, 1]⟩ 2 = 3 by decide +kernel] at h
  exact h
theorem aw_v2 (w : World) : Calls Tryz.prog 46 #[.string ⟨#[2, 1]⟩, .int .u8 1] w fun e w' => e = .returned (.int .u8 3) ∧ Below w.heap.size w w' := by
  have h := value_any ⟨#[2, 1]⟩ (by decide) 1 w
  rw [show valB ⟨#[2, 1]⟩ 1 = 3 by decide +kernel] at h
  exact h
theorem aw_v3 (w : World) : Calls Tryz.prog 46 #[.string ⟨#[2, 1]⟩, .int .u8 2] w fun e w' => e = .returned (.int .u8 0) ∧ Below w.heap.size w w' := by
  have h := value_any ⟨#[2, 1]⟩ (by decide) 2 w
  rw [show valB ⟨#[2, 1]⟩ 2 = 0 by decide +kernel] at h
  exact h
theorem gtrans {w X Y : World} (h : Below w.heap.size w X) (k : Below X.heap.size X Y) : Below w.heap.size w Y := h.trans (k.mono h.size)
end Go.Proofs.YtefpfedpgedloaaGreatDoor
namespace Go.Proofs.YtefpfedpgedloaaGreatDoor
open Go.RowKit
open Gf

theorem at_tell {l v : ByteArray} (h : pts l v = true) (x : UInt8) : atB l v x = tell l.data.toList (co v.data.toList) x := by
  obtain ⟨h1, _, h3⟩ := pts_true h
  unfold atB
  rw [if_pos h]
  unfold dot
  rw [if_pos (by rw [wgtB_size x h3]; exact h1), wgtB_size x h3]
  unfold dotN tell
  rw [data_len]
  refine sumX_congr _ (fun i hi => ?_)
  rw [show (wgtB l x).data.toList = wgts l.data.toList x by unfold wgtB; rw [if_pos h3, str_data], co_wgts _ _ _ (by rw [data_len]; exact hi)]
theorem at_val {l v p : ByteArray} (h : pts l v = true) (hp : p.size ≤ l.size) (hv : ∀ i, i < l.size → valB p (co l.data.toList i) = co v.data.toList i) (x : UInt8) : atB l v x = valB p x := by
  rw [at_tell h]
  exact tell_val (ulk_nodup (pts_true h).2.2) (by rw [data_len, data_len]; exact hp) _ (fun i hi => hv i (by rwa [data_len] at hi)) x
theorem thrB_facts {l v : ByteArray} (h : pts l v = true) : trimB (thrB l v) = thrB l v ∧ (thrB l v).size ≤ l.size ∧ ∀ i, i < l.size → valB (thrB l v) (co l.data.toList i) = co v.data.toList i := by
  unfold thrB
  rw [if_pos h]
  exact ⟨thr_trimmed l v _, (thr_sizes l v _).1, fun i hi => thr_through (ulk_nodup (pts_true h).2.2) l.size (Nat.le_refl _) i hi⟩
theorem few2_le {m : Nat} {a b : ByteArray} (h : few2 (m : Int) a b = true) : a.size ≤ m ∧ b.size ≤ m := by
  unfold few2 at h; simp only [Bool.and_eq_true, decide_eq_true_eq] at h; omega
theorem rvalue_still (s : ByteArray) (hs : s.size ≤ maxLen) (x : UInt8) (w : World) :
    Calls Tryz.prog 43 #[.string s, .int .u8 (x.toNat : Int)] w fun e w' => e = .returned (.int .u8 ((valB s x).toNat : Int)) ∧ w' = w :=
  (rvalue_any s hs x w).mono fun _ _ ⟨h, k⟩ => ⟨h, k.symm⟩
end Go.Proofs.YtefpfedpgedloaaGreatDoor
