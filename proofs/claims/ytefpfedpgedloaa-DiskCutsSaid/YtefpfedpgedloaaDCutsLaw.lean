/- PROVED HERE: for every three numbers the law DiskCuts returns true (a cut strikes at just the change behind so many others, once). No condition. -/
import Derived.Test.YtefpfedpgedloaaDAwake
import Derived.Test.YtefpfedpgedloaaDPlain
import Derived.Test.YtefpfedpgedloaaStrs
import Derived.Test.YtefpfedpgedloaaRows
import Derived.ProofKit
import Derived.OpenShut
namespace Go.Proofs.Ytefpfedpgedloaa
open Go.RowKit
open Dk

theorem ret_true {a : Bool} (h : a = true) : Ending.returned (.bool a) = .returned (.bool true) := by rw [h]
theorem small_appD {room : Int} {l : List ByteArray} {ch a k t : Int} {laid : Bool} (hl : l.length ≤ 999999999) (h0 : 0 ≤ ch) (h1 : ch ≤ 1000000000000) (ha : a ≤ 9223372036854775807) : Small (appD room l ch laid a k t) := ⟨by simpa [appD] using hl, Int.le_refl 0, by show (0 : Int) ≤ _; omega, h0, h1, ha⟩
def tX : ByteArray := ⟨#[120]⟩
def tY : ByteArray := ⟨#[121]⟩
def tZ : ByteArray := ⟨#[122]⟩
def xs (i : Nat) : List ByteArray := List.replicate i tX
theorem xs_snoc (i : Nat) : xs i ++ [tX] = xs (i + 1) := by unfold xs; rw [List.replicate_succ']
theorem sum_ones : ∀ (l : List ByteArray), (∀ t ∈ l, t.size = 1) → (cat l).size = l.length := fun l => by
  rw [cat_size]
  induction l with
  | nil => intro _; rfl
  | cons t l ih => intro h; rw [List.map_cons, List.sum_cons, List.length_cons, ih (fun u hu => h u (by simp [hu])), h t (by simp)]; omega
theorem xs_one (i : Nat) : ∀ t ∈ xs i, t.size = 1 := fun t ht => by rw [List.eq_of_mem_replicate ht]; rfl
theorem cat_xs (i : Nat) : (cat (xs i)).size = i := by rw [sum_ones _ (xs_one i)]; simp [xs]
theorem xy_one (i : Nat) : ∀ t ∈ xs i ++ [tY], t.size = 1 := fun t ht => by
  rcases List.mem_append.1 ht with h | h
  · exact xs_one i t h
  · rw [List.mem_singleton.1 h]; rfl
theorem xy_length (i : Nat) : (xs i ++ [tY]).length = i + 1 := by simp [xs]
/-- What is left. -/
def cutT (n : Nat) (keep torn : Int) : ByteArray := cat ((xs n ++ [tY]).take (keepOf (xs n ++ [tY]).length keep)) ++ tornT torn (xs n ++ [tY])[keepOf (xs n ++ [tY]).length keep]?
def cutD (n : Nat) (after keep torn : Int) : Disk := ⟨100, [cutT n keep torn], [], (n : Int), 1, true, false, after, keep, torn⟩
theorem cut_fail (n : Nat) (after keep torn : Int) : (appD 100 (xs n ++ [tY]) (n : Int) false after keep torn).fail keep torn = cutD n after keep torn := appD_fail _ _ _ _ _ _ _ _ _
/-- How long it is. -/
def wantN (n : Nat) (keep torn : Int) : Nat := if min keep.toNat (n + 1) ≤ n ∧ 0 < torn then min keep.toNat (n + 1) + 1 else min keep.toNat (n + 1)
theorem cut_size (n : Nat) (keep torn : Int) : (cutT n keep torn).size = wantN n keep torn := by
  unfold cutT wantN
  rw [ByteArray.size_append, sum_ones _ (fun t ht => xy_one n t (List.mem_of_mem_take ht)), List.length_take, xy_length, show keepOf (n + 1) keep = min keep.toNat (n + 1) from rfl]
  by_cases hk : min keep.toNat (n + 1) ≤ n
  · have hlt : min keep.toNat (n + 1) < (xs n ++ [tY]).length := by rw [xy_length]; omega
    rw [List.getElem?_eq_getElem hlt]
    by_cases ht : 0 < torn
    · rw [if_pos ⟨hk, ht⟩, tornT, if_pos ht, ByteArray.size_extract, xy_one n _ (List.getElem_mem hlt)]
      omega
    · rw [if_neg (fun e => ht e.2), tornT, if_neg ht]
      show min _ _ + 0 = _
      omega
  · rw [if_neg (fun e => hk e.1), List.getElem?_eq_none (by rw [xy_length]; omega)]
    show min _ _ + 0 = _
    omega
theorem cut_size_le (n : Nat) (keep torn : Int) : (cutT n keep torn).size ≤ n + 1 := by rw [cut_size]; unfold wantN; split <;> omega
theorem cut_read (n : Nat) (after keep torn : Int) : readD (cutD n after keep torn).up 0 = cutT n keep torn := rfl
theorem cut_err (n : Nat) (after keep torn : Int) : eerr (cutD n after keep torn).up 0 = 0 := rfl
theorem cut_again {n : Nat} (hn : n ≤ 12) (after keep torn : Int) : ((cutD n after keep torn).up.act 0 0 0 tZ).2 = 0 ∧ ((cutD n after keep torn).up.act 0 0 0 tZ).1.down = false := by
  have hr : (cutD n after keep torn).up.refused 0 0 0 tZ = 0 := by
    unfold Disk.refused
    rw [if_neg (by simp [cutD, Disk.up]), if_neg (by simp [cutD, Disk.up]), if_neg (by simp), if_neg]
    show ¬ (0 = 0 ∧ (100 : Int) - ((cutT n keep torn).size : Int) < 1)
    have := cut_size_le n keep torn
    omega
  unfold Disk.act
  rw [if_pos hr]
  unfold Disk.puts
  rw [if_neg (by simp [cutD, Disk.up])]
  exact ⟨rfl, rfl⟩
theorem sync_up {D : Disk} (h : D.down = false) : D.sync.2 = 0 ∧ D.sync.1.down = false := by unfold Disk.sync; rw [if_neg (by rw [h]; decide)]; exact ⟨rfl, h⟩
theorem small_cut {n : Nat} (hn : n ≤ 12) {after keep torn : Int} (ha : after ≤ 12) : Small (cutD n after keep torn).up := ⟨Nat.zero_le _, by show (0 : Int) ≤ 1; decide, by show (1 : Int) ≤ _; decide, by show (0 : Int) ≤ n; omega, by show (n : Int) ≤ _; omega, by show after ≤ _; omega⟩
theorem fail_after {D : Disk} (keep torn : Int) : (D.fail keep torn).after = D.after := by unfold Disk.fail; split <;> rfl
theorem act_after {D : Disk} (kind : Nat) (x long : Int) (t : ByteArray) : (D.act kind x long t).1.after ≤ D.after := by
  unfold Disk.act
  split
  · unfold Disk.puts
    split
    · rw [fail_after]; exact Int.le_refl _
    · show (if D.laid = true then D.after - 1 else D.after) ≤ D.after
      split <;> omega
  · exact Int.le_refl _
theorem small_act {D : Disk} (h : Small D) (hw : D.waits.length ≤ 99999999) (hf : D.falls ≤ 100000000000) (hc : D.changes ≤ 100000000000) (kind : Nat) (x long : Int) (t : ByteArray) : Small (D.act kind x long t).1 :=
  ⟨by have := Disk.act_waits (d := D) kind x long t; omega, by have := Disk.act_falls (d := D) kind x long t; have := h.falls0; omega, by have := Disk.act_falls (d := D) kind x long t; omega, by have := Disk.act_changes (d := D) kind x long t; have := h.changes0; omega, by have := Disk.act_changes (d := D) kind x long t; omega, Int.le_trans (act_after kind x long t) h.after⟩
set_option maxRecDepth 100000 in
set_option maxHeartbeats 2000000 in
theorem cuts_law {w : World} (after : Int) (_ : -9223372036854775808 ≤ after) (_ : after ≤ 9223372036854775807) (keep : Int) (_ : -9223372036854775808 ≤ keep) (_ : keep ≤ 9223372036854775807) (torn : Int) (_ : -9223372036854775808 ≤ torn) (_ : torn ≤ 9223372036854775807) :
    Calls Try.prog 6 #[.int .i64 after, .int .i64 keep, .int .i64 torn] w fun e w' => e = .returned (.bool true) ∧ Below w.heap.size w w' := by
  have hn := new_has 1 100 (by decide) (by decide) (by decide) (by decide) w
  by_cases h12 : 12 < after
  · go_enter Try.func6, Try.ntmps6
    go_wp2_with fail
    refine hn.mono ?_
    rintro e w1 ⟨b, rfl, hd⟩
    have hD := Lib.hid hd
    clear hd hn
    go_wp2_with fail
    refine (awake_any _).mono ?_
    rintro e w2 ⟨rfl, hb⟩
    have hB := Lib.hid (hD.out.old.trans (hb.mono hD.out.old.size))
    clear hb
    go_wp2_with fail
    refine (awake_any _).mono ?_
    rintro e w3 ⟨rfl, hb⟩
    have hB3 := Lib.hid (hB.out.trans (hb.mono hB.out.size))
    clear hb
    go_wp2_with fail
    go_ret
    exact ⟨rfl, hB3.out⟩
  · obtain ⟨n, m0, hn0⟩ : ∃ n : Nat, max after 0 = (n : Int) ∧ n = after.toNat := ⟨after.toNat, by omega, rfl⟩
    have hn12 : n ≤ 12 := by omega
    have hni : (n : Int) ≤ 12 := by omega
    have HN := Lib.hid hn0
    clear hn0
    go_enter Try.func6, Try.ntmps6
    go_wp2_with fail
    refine hn.mono ?_
    rintro e w1 ⟨b, rfl, hd⟩
    have hD := Lib.hid hd
    clear hd hn
    go_wp2_with fail
    refine (awake_any _).mono ?_
    rintro e w2 ⟨rfl, hb⟩
    have hB := Lib.hid (hD.out.below hb)
    clear hb
    go_wp2_with fail
    refine (lay_has hB.out after keep torn).mono ?_
    rintro e w3 ⟨rfl, hd⟩
    rw [appD_new, appD_lay] at hd
    have H3 := Lib.hid hd
    clear hd
    go_wp2_with fail
    go_loopw [9, 34, 35, 36, 37, 38, 39, 40, 41] (fun c _ _ _ _ _ _ _ _ wr => ∃ i : Nat, i ≤ n ∧ c = .int .i64 i ∧ Has w wr b (appD 100 (xs i) i true (after - i) keep torn)) (fun c _ _ _ _ _ _ _ _ _ => n - (intOf c).toNat)
    case atStart => exact ⟨0, by omega, rfl, by have := H3.out; simpa [xs] using this⟩
    case round =>
      clear H3 hB hD
      obtain ⟨i, hi, rfl, hh⟩ := hrel
      by_cases hlt : i < n
      · have hn0 := HN.out
        have hap := append_has hh (small_appD (by simp [xs]; omega) (by omega) (by omega) (by omega)) 0 tX
        rw [appD_act (by rw [cat_xs, show tX.size = 1 from rfl]; omega) (fun _ => by omega), xs_snoc, if_pos rfl] at hap
        have HA := Lib.hid hap
        clear hap hh hn0
        go_wp2_with fail
        refine HA.out.mono ?_
        rintro e w4 ⟨rfl, hd⟩
        have H4 := Lib.hid hd
        clear hd
        go_wp2_with fail
        go_roundw
        case rel => exact ⟨i + 1, by omega, by go_num, by have := H4.out; rw [show ((i + 1 : Nat) : Int) = (i : Int) + 1 from rfl, show after - ((i : Int) + 1) = after - i - 1 by omega]; exact this⟩
        case measure => simp [intOf]; omega
      · obtain rfl : i = n := by omega
        have hn0 := HN.out
        have hap := append_has hh (small_appD (by simp [xs]; omega) (by omega) (by omega) (by omega)) 0 tY
        rw [appD_strike (by rw [cat_xs, show tY.size = 1 from rfl]; omega) (by omega), cut_fail] at hap
        have hsc := small_cut (keep := keep) (torn := torn) hn12 (show after - (i : Int) ≤ 12 by omega)
        have hag := cut_again hn12 (after - i) keep torn
        obtain ⟨D1, hD1⟩ : ∃ D1, D1 = cutD i (after - i) keep torn := ⟨_, rfl⟩
        have hrd := fun (W : World) (hd : Has w W b D1.up) => read_has hd 0
        rw [hD1, cut_read, cut_err] at hrd
        rw [← hD1] at hrd hap hsc hag
        have hsz := cut_size i keep torn
        obtain ⟨R, hR⟩ : ∃ R, R = cutT i keep torn := ⟨_, rfl⟩
        rw [← hR] at hrd hsz
        have hdn := fun (W : World) (hd : Has w W b D1) => down_has hd
        have hwt := fun (W : World) (hd : Has w W b D1) => waits_has hd
        have hch := fun (W : World) (hd : Has w W b D1) => changes_has hd
        have hup := fun (W : World) (hd : Has w W b D1) => up_has hd
        rw [show D1.down = true by rw [hD1]; rfl] at hdn hup
        rw [show D1.waits.length = 0 by rw [hD1]; rfl] at hwt
        rw [show D1.changes = (i : Int) by rw [hD1]; rfl] at hch
        have hz := fun (W : World) (hd : Has w W b D1.up) => append_has hd hsc 0 tZ
        rw [hag.1] at hz
        have hs2 : Small (D1.up.act 0 0 0 tZ).1 := by
          refine small_act hsc ?_ ?_ ?_ _ _ _ _
          · rw [hD1]; exact Nat.zero_le _
          · rw [hD1]; show (1 : Int) ≤ _; decide
          · rw [hD1]; show (i : Int) ≤ _; omega
        have hsy := fun (W : World) (hd : Has w W b (D1.up.act 0 0 0 tZ).1) => sync_has hd hs2
        rw [(sync_up hag.2).1] at hsy
        have hdl := fun (W : World) (hd : Has w W b (D1.up.act 0 0 0 tZ).1.sync.1) => down_has hd
        rw [(sync_up hag.2).2] at hdl
        obtain ⟨kp, m1, hkp⟩ : ∃ kp : Nat, max keep 0 = (kp : Int) ∧ kp = keep.toNat := ⟨keep.toNat, by omega, rfl⟩
        obtain ⟨k1, m2, hk1⟩ : ∃ k1 : Nat, min (kp : Int) ((i : Int) + 1) = (k1 : Int) ∧ k1 = min kp (i + 1) := ⟨min kp (i + 1), by omega, rfl⟩
        unfold wantN at hsz
        rw [← hkp, ← hk1] at hsz
        have hkl : k1 ≤ i + 1 := by omega
        have hkli : (k1 : Int) ≤ 13 := by omega
        have HF := Lib.hid (And.intro hap (And.intro hdn (And.intro hwt (And.intro hch (And.intro hup (And.intro hrd (And.intro hz (And.intro hsy hdl))))))))
        clear hap hdn hwt hch hup hrd hz hsy hdl hh hn0 hsc hag hD1 hR hkp hk1 hs2
        by_cases hki : k1 ≤ i
        · by_cases ht : 0 < torn
          · rw [if_pos ⟨hki, ht⟩] at hsz
            have p5 : ((R.size : Int) != (k1 : Int) + 1) = false := by rw [hsz]; simp
            have hkii : (k1 : Int) ≤ i := by omega
            clear hsz
            go_wp2_with fail
            refine HF.out.1.mono ?_
            rintro e w4 ⟨rfl, hd⟩
            have H4 := Lib.hid hd
            clear hd
            go_wp2_with fail
            refine (HF.out.2.1 _ H4.out).mono ?_
            rintro e w5 ⟨rfl, rfl⟩
            go_wp2_with fail
            refine (HF.out.2.2.1 _ H4.out).mono ?_
            rintro e w5 ⟨rfl, rfl⟩
            go_wp2_with fail
            refine (HF.out.2.2.2.1 _ H4.out).mono ?_
            rintro e w5 ⟨rfl, rfl⟩
            go_wp2_with fail
            refine (HF.out.2.2.2.2.1 _ H4.out).mono ?_
            rintro e w6 ⟨rfl, hd⟩
            have H6 := Lib.hid hd
            clear hd
            go_wp2_with fail
            refine (HF.out.2.2.2.2.2.1 _ H6.out).mono ?_
            rintro e w7 ⟨rfl, rfl⟩
            go_wp2_with fail
            refine (HF.out.2.2.2.2.2.2.1 _ H6.out).mono ?_
            rintro e w8 ⟨rfl, hd⟩
            have H8 := Lib.hid hd
            clear hd
            go_wp2_with fail
            refine (HF.out.2.2.2.2.2.2.2.1 _ H8.out).mono ?_
            rintro e w9 ⟨rfl, hd⟩
            have H9 := Lib.hid hd
            clear hd
            go_wp2_with fail
            refine (HF.out.2.2.2.2.2.2.2.2 _ H9.out).mono ?_
            rintro e w10 ⟨rfl, rfl⟩
            go_wp2_with fail
            go_ret
            exact ⟨rfl, H9.out.old⟩
          · rw [if_neg (fun e => ht e.2)] at hsz
            have p5 : (R.size != k1) = false := by rw [hsz]; simp
            have p6 : ((R.size : Int) != (k1 : Int)) = false := by rw [hsz]; simp
            have ht2 : decide (0 < torn) = false := by simpa using ht
            clear hsz
            go_wp2_with fail
            refine HF.out.1.mono ?_
            rintro e w4 ⟨rfl, hd⟩
            have H4 := Lib.hid hd
            clear hd
            go_wp2_with fail
            refine (HF.out.2.1 _ H4.out).mono ?_
            rintro e w5 ⟨rfl, rfl⟩
            go_wp2_with fail
            refine (HF.out.2.2.1 _ H4.out).mono ?_
            rintro e w5 ⟨rfl, rfl⟩
            go_wp2_with fail
            refine (HF.out.2.2.2.1 _ H4.out).mono ?_
            rintro e w5 ⟨rfl, rfl⟩
            go_wp2_with fail
            refine (HF.out.2.2.2.2.1 _ H4.out).mono ?_
            rintro e w6 ⟨rfl, hd⟩
            have H6 := Lib.hid hd
            clear hd
            go_wp2_with fail
            refine (HF.out.2.2.2.2.2.1 _ H6.out).mono ?_
            rintro e w7 ⟨rfl, rfl⟩
            go_wp2_with fail
            refine (HF.out.2.2.2.2.2.2.1 _ H6.out).mono ?_
            rintro e w8 ⟨rfl, hd⟩
            have H8 := Lib.hid hd
            clear hd
            go_wp2_with fail
            refine (HF.out.2.2.2.2.2.2.2.1 _ H8.out).mono ?_
            rintro e w9 ⟨rfl, hd⟩
            have H9 := Lib.hid hd
            clear hd
            go_wp2_with fail
            refine (HF.out.2.2.2.2.2.2.2.2 _ H9.out).mono ?_
            rintro e w10 ⟨rfl, rfl⟩
            go_wp2_with fail
            go_ret
            exact ⟨rfl, H9.out.old⟩
        · rw [if_neg (fun e => hki e.1)] at hsz
          have p5 : (R.size != k1) = false := by rw [hsz]; simp
          have p6 : ((R.size : Int) != (k1 : Int)) = false := by rw [hsz]; simp
          have hk2 : decide (k1 ≤ i) = false := by simpa using hki
          have hk3 : (i : Int) < k1 := by omega
          clear hsz
          go_wp2_with fail
          refine HF.out.1.mono ?_
          rintro e w4 ⟨rfl, hd⟩
          have H4 := Lib.hid hd
          clear hd
          go_wp2_with fail
          refine (HF.out.2.1 _ H4.out).mono ?_
          rintro e w5 ⟨rfl, rfl⟩
          go_wp2_with fail
          refine (HF.out.2.2.1 _ H4.out).mono ?_
          rintro e w5 ⟨rfl, rfl⟩
          go_wp2_with fail
          refine (HF.out.2.2.2.1 _ H4.out).mono ?_
          rintro e w5 ⟨rfl, rfl⟩
          go_wp2_with fail
          refine (HF.out.2.2.2.2.1 _ H4.out).mono ?_
          rintro e w6 ⟨rfl, hd⟩
          have H6 := Lib.hid hd
          clear hd
          go_wp2_with fail
          refine (HF.out.2.2.2.2.2.1 _ H6.out).mono ?_
          rintro e w7 ⟨rfl, rfl⟩
          go_wp2_with fail
          refine (HF.out.2.2.2.2.2.2.1 _ H6.out).mono ?_
          rintro e w8 ⟨rfl, hd⟩
          have H8 := Lib.hid hd
          clear hd
          go_wp2_with fail
          refine (HF.out.2.2.2.2.2.2.2.1 _ H8.out).mono ?_
          rintro e w9 ⟨rfl, hd⟩
          have H9 := Lib.hid hd
          clear hd
          go_wp2_with fail
          refine (HF.out.2.2.2.2.2.2.2.2 _ H9.out).mono ?_
          rintro e w10 ⟨rfl, rfl⟩
          go_wp2_with fail
          go_ret
          exact ⟨rfl, H9.out.old⟩
end Go.Proofs.Ytefpfedpgedloaa

namespace Go.Proofs.Ytefpfedpgedloaa.diskCutsLaw
open Go.ChangeShapes Go.WideShapes Go.ChangeAt Go.RowKit
open Go.ChangeMaps (open_string shut_string)

theorem own : ownKnob Try.prog.godebug = none := by kernel_rfl
set_option maxRecDepth 100000 in
theorem lifted (os : Os) (started : os.Started) (H : Type) (enc : TypeId × Value → H) :
    ReturnsInHanded {} Try.checked os 6 .any (Rows.diskCutsSpec.pre6 enc Try.prog Try.f6 Rows.diskCutsRow.domain false) (Rows.diskCutsSpec.post enc Try.prog Try.f6 false true false false) := by
  refine returnsInHanded_of_change (C := Try.checked) own started (by kernel_rfl) Try.func6
    (ChangeSpec.witness6 (enc := enc) (C := Try.checked) false ⟨#[], #[.int .i64 0, .int .i64 0, .int .i64 0], []⟩ 8 (by kernel_rfl) (by kernel_rfl) (by kernel_rfl) (by kernel_rfl)) ?_
  intro W base args ds gs before hval0 hW hcnd _
  have hval : ∀ (j : Nat) t v, Try.f6.params[j]? = some t → args[j]? = some v → Value.okWide Try.prog W .any base t v := hval0
  have hW' := hW
  obtain ⟨p, q, hA0, hV, rfl, hfz, hnd⟩ := hW
  have hA : DataW.TrodAll enc Try.prog W 0 (fun _ => true) true Try.f6.params.toList args.toList ds p := hA0
  rw [Try.params6] at hA hval
  obtain ⟨v0, vs0, d0, ds0, p0, q0, hargs, rfl, rfl, h0, r0⟩ := trodAll_cons hA
  obtain ⟨v1, vs1, d1, ds1, p1, q1, rfl, rfl, rfl, h1, r1⟩ := trodAll_cons r0
  obtain ⟨v2, vs2, d2, ds2, p2, q2, rfl, rfl, rfl, h2, r2⟩ := trodAll_cons r1
  obtain ⟨rfl, rfl, rfl⟩ := trodAll_nil r2
  obtain rfl : args = #[v0, v1, v2] := by cases args; simp_all
  obtain ⟨rfl, rfl⟩ := trodVars_none hV
  obtain ⟨n0, rfl, rfl, rfl, ws0⟩ := open_int Try.underlying3 (hval 0 3 v0 rfl rfl) h0
  have hbd0 := ws0
  simp only [Lit.wf, Bool.and_eq_true, decide_eq_true_eq] at hbd0
  obtain ⟨n1, rfl, rfl, rfl, ws1⟩ := open_int Try.underlying3 (hval 1 3 v1 rfl rfl) h1
  have hbd1 := ws1
  simp only [Lit.wf, Bool.and_eq_true, decide_eq_true_eq] at hbd1
  obtain ⟨n2, rfl, rfl, rfl, ws2⟩ := open_int Try.underlying3 (hval 2 3 v2 rfl rfl) h2
  have hbd2 := ws2
  simp only [Lit.wf, Bool.and_eq_true, decide_eq_true_eq] at hbd2
  clear hA0 hval0
  simp only [List.append_nil] at hW'
  refine (cuts_law n0 hbd0.1 hbd0.2 n1 hbd1.1 hbd1.2 n2 hbd2.1 hbd2.2 (w := W)).mono fun e W' ⟨he, hb⟩ => ?_
  subst he
  exact ⟨_, rfl, _, _, _, [], [], [], hW', trodAll_cons_mk (shut_bool Try.underlying4 _) trodAll_mk0, (trodAll_cons_mk (shut_int Try.underlying3 ws0) (trodAll_cons_mk (shut_int Try.underlying3 ws1) (trodAll_cons_mk (shut_int Try.underlying3 ws2) trodAll_mk0))), rfl, hb.frame _, fun h => by cases h⟩
theorem over : Rows.diskCutsRow.holds Try.pinned (OpenSpec.ofChange Rows.diskCutsSpec) :=
  OpenClaim.holds_of_wide 6 Try.f6 rfl rfl rfl rfl rfl rfl rfl ⟨rfl, rfl, rfl, rfl, rfl⟩ rfl rfl rfl rfl rfl (by kernel_rfl) Try.func6 (by kernel_rfl)
    (of_decide_eq_true (by kernel_rfl)) (by unfold Func.isWrapper; first | (rw [if_pos (by decide +kernel)]; kernel_rfl) | (rw [if_neg (by decide +kernel)]; exact ⟨rfl, rfl⟩))
    (fun os started H enc _ => lifted os started H enc)
end Go.Proofs.Ytefpfedpgedloaa.diskCutsLaw

namespace Go.Proofs.Ytefpfedpgedloaa
theorem diskCuts_said : Rows.DiskCutsSaid := diskCutsLaw.over
end Go.Proofs.Ytefpfedpgedloaa
