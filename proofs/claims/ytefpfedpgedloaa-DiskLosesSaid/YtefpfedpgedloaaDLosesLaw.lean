/- PROVED HERE: for every list of texts and every two numbers the law DiskLoses returns true (what is left behind a loss of power is a beginning of all that was appended, no shorter than what is kept, and just as much longer as is torn off), and the texts read afterwards as they did. No condition. -/
import Derived.Test.YtefpfedpgedloaaDAwake
import Derived.Test.YtefpfedpgedloaaDPlain
import Derived.Test.YtefpfedpgedloaaStrs
import Derived.Test.YtefpfedpgedloaaRows
import Derived.ProofKit
import Derived.OpenShut
namespace Go.Proofs.Ytefpfedpgedloaa
open Go.RowKit
open Dk

theorem ret_true {a : Bool} (h : a = true) : Ending.returned (.bool a) = .returned (.bool true) := by rw [h]
theorem TextsAt.at {w : World} {a0 : Option Addr} {ss : List ByteArray} (h : TextsAt w a0 ss) {j : Nat} (hj : j < ss.length) : ∃ b off, a0 = some ⟨b, off, none⟩ ∧ b < w.heap.size ∧ w.cell? ⟨b, off + j, none⟩ = some (.string (ss.getD j ByteArray.empty)) := h j hj
theorem small_appD {room : Int} {l : List ByteArray} {ch a k t : Int} {laid : Bool} (hl : l.length ≤ 999999999) (h0 : 0 ≤ ch) (h1 : ch ≤ 1000000000000) (ha : a ≤ 9223372036854775807) : Small (appD room l ch laid a k t) := ⟨by simpa [appD] using hl, Int.le_refl 0, by show (0 : Int) ≤ _; omega, h0, h1, ha⟩
theorem cat_take_le {l : List ByteArray} (hs : ∀ t ∈ l, t.size ≤ 100) : ∀ i, (cat (l.take i)).size ≤ i * 100 := fun i => by
  rw [cat_size]
  have : ∀ (m : List ByteArray), (∀ t ∈ m, t.size ≤ 100) → (m.map ByteArray.size).sum ≤ m.length * 100 := fun m => by
    induction m with
    | nil => intro _; simp
    | cons t m ih => intro h; rw [List.map_cons, List.sum_cons, List.length_cons]; have := ih (fun u hu => h u (by simp [hu])); have := h t (by simp); omega
  have := this (l.take i) (fun t ht => hs t (List.mem_of_mem_take ht))
  rw [List.length_take] at this
  omega
/-- How many bytes are kept whole, of the first i texts. -/
def leastOf (l : List ByteArray) (keep : Int) (i : Nat) : Nat := (cat (l.take (min keep.toNat i))).size
/-- All that stands at the head of a round. -/
structure LosS (w : World) (b : Nat) (l : List ByteArray) (i : Nat) (wr : World) : Prop where
  has : Has w wr b (appD 3000 (l.take i) i false 0 0 0)
  small : ∀ j, j < i → (l.getD j ByteArray.empty).size ≤ 100
theorem losS_le {l : List ByteArray} {i : Nat} (hi : i ≤ l.length) (h : ∀ j, j < i → (l.getD j ByteArray.empty).size ≤ 100) : ∀ t ∈ l.take i, t.size ≤ 100 := fun t ht => by
  obtain ⟨j, hj, rfl⟩ := List.mem_iff_getElem.1 ht
  rw [List.length_take] at hj
  have := h j (by omega)
  rw [List.getD_eq_getElem?_getD, List.getElem?_eq_getElem (by omega)] at this
  simpa using this
theorem take_snoc_getD {l : List ByteArray} {i : Nat} (h : i < l.length) : l.take (i + 1) = l.take i ++ [l.getD i ByteArray.empty] := by
  rw [List.take_add_one, List.getElem?_eq_getElem h, Option.toList_some, List.getD_eq_getElem?_getD, List.getElem?_eq_getElem h]; rfl
theorem least_in {l : List ByteArray} {keep : Int} {i : Nat} (h : (i : Int) < keep) : leastOf l keep (i + 1) = (cat (l.take (i + 1))).size := by unfold leastOf; rw [show min keep.toNat (i + 1) = i + 1 by omega]
theorem least_out {l : List ByteArray} {keep : Int} {i : Nat} (h : ¬ (i : Int) < keep) : leastOf l keep (i + 1) = leastOf l keep i := by unfold leastOf; rw [show min keep.toNat (i + 1) = min keep.toNat i by omega]
/-- What is left. -/
def leftT (l : List ByteArray) (keep torn : Int) : ByteArray := cat (l.take (keepOf l.length keep)) ++ tornT torn l[keepOf l.length keep]?
def leftD (l : List ByteArray) (keep torn : Int) : Disk := ⟨3000, [leftT l keep torn], [], (l.length : Int), 1, true, false, 0, 0, 0⟩
theorem left_fail (l : List ByteArray) (keep torn : Int) : (appD 3000 l (l.length : Int) false 0 0 0).fail keep torn = leftD l keep torn := appD_fail _ _ _ _ _ _ _ _ _
theorem left_read (l : List ByteArray) (keep torn : Int) : readD (leftD l keep torn).up 0 = leftT l keep torn := rfl
theorem left_err (l : List ByteArray) (keep torn : Int) : eerr (leftD l keep torn).up 0 = 0 := rfl
theorem left_size (l : List ByteArray) (keep torn : Int) : (leftT l keep torn).size = leastOf l keep l.length + (tornT torn l[keepOf l.length keep]?).size := by
  unfold leftT leastOf keepOf; rw [ByteArray.size_append]
theorem left_next {l : List ByteArray} {keep torn : Int} {kp : Nat} (hk : kp = keep.toNat) (hl : kp < l.length) (ht : 0 < torn) : (tornT torn l[keepOf l.length keep]?).size = min torn.toNat (l.getD kp ByteArray.empty).size := by
  rw [show keepOf l.length keep = kp by unfold keepOf; omega, List.getElem?_eq_getElem hl, tornT, if_pos ht, List.getD_eq_getElem?_getD, List.getElem?_eq_getElem hl, ByteArray.size_extract]
  simp
theorem left_none {l : List ByteArray} {keep torn : Int} {kp : Nat} (hk : kp = keep.toNat) (h : ¬ (kp < l.length ∧ 0 < torn)) : (tornT torn l[keepOf l.length keep]?).size = 0 := by
  by_cases hl : kp < l.length
  · rw [show keepOf l.length keep = kp by unfold keepOf; omega, List.getElem?_eq_getElem hl, tornT, if_neg (fun e => h ⟨hl, e⟩)]; rfl
  · rw [show keepOf l.length keep = l.length by unfold keepOf; omega, List.getElem?_eq_none (Nat.le_refl _)]; rfl
set_option maxRecDepth 100000 in
set_option maxHeartbeats 2000000 in
theorem loses_law {w : World} (l : List ByteArray) (a0 : Option Addr) (cap : Nat) (hT : TextsAt w a0 l) (hmax : l.length ≤ maxLen) (keep : Int) (_ : -9223372036854775808 ≤ keep) (_ : keep ≤ 9223372036854775807) (torn : Int) (_ : -9223372036854775808 ≤ torn) (_ : torn ≤ 9223372036854775807) :
    Calls Try.prog 5 #[.slice a0 l.length cap, .int .i64 keep, .int .i64 torn] w fun e w' => e = .returned (.bool true) ∧ Below w.heap.size w w' := by
  have hn := new_has 1 3000 (by decide) (by decide) (by decide) (by decide) w
  unfold maxLen at hmax
  by_cases h20 : l.length ≤ 20
  · obtain ⟨n, hN⟩ : ∃ n, n = l.length := ⟨_, rfl⟩
    have H := Lib.hid (And.intro hT hN)
    rw [← hN] at h20 hmax ⊢
    have h20i : (n : Int) ≤ 20 := by omega
    clear hT hN
    go_enter Try.func5, Try.ntmps5
    go_wp2_with fail
    refine hn.mono ?_
    rintro e w1 ⟨b, rfl, hd⟩
    clear hn
    have hD := Lib.hid hd
    clear hd
    go_wp2_with fail
    refine (awake_any _).mono ?_
    rintro e w2 ⟨rfl, hb⟩
    have hS : LosS w b l 0 w2 := ⟨by have := hD.out.below hb; rw [appD_new] at this; simpa using this, fun j hj => absurd hj (by omega)⟩
    have HS := Lib.hid hS
    clear hb hS
    go_wp2_with fail
    go_loopw [8, 9, 10] (fun al le c wr => ∃ i : Nat, i ≤ n ∧ c = .int .i64 i ∧ al = .string (cat (l.take i)) ∧ le = .int .i64 (leastOf l keep i : Nat) ∧ LosS w b l i wr) (fun _ _ c _ => n - (intOf c).toNat)
    case atStart => exact ⟨0, by omega, rfl, by rw [List.take_zero]; rfl, by unfold leastOf; rw [show min keep.toNat 0 = 0 by omega, List.take_zero]; rfl, HS.out⟩
    case round =>
      clear HS hD
      obtain ⟨i, hi, rfl, rfl, rfl, hs⟩ := hrel
      by_cases hlt : i < n
      · obtain ⟨tb, off, rfl, htb, hc⟩ := (H.out.1.below hs.has.old).at (show i < l.length by have := H.out.2; omega)
        have hts := take_snoc_getD (show i < l.length by have := H.out.2; omega)
        have hle := least_in (l := l) (keep := keep) (i := i)
        have hlo := least_out (l := l) (keep := keep) (i := i)
        obtain ⟨s, hs0⟩ : ∃ s, s = l.getD i ByteArray.empty := ⟨_, rfl⟩
        rw [← hs0] at hc hts
        by_cases h100 : s.size ≤ 100
        · have hsm : ∀ j, j < i + 1 → (l.getD j ByteArray.empty).size ≤ 100 := fun j hj => by
            by_cases e : j = i
            · rw [e, ← hs0]; exact h100
            · exact hs.small j (by omega)
          have hcs : (cat (l.take i)).size ≤ 2000 := by
            have := cat_take_le (l := l.take i) (losS_le (by have := H.out.2; omega) hs.small) i
            rw [List.take_take, Nat.min_self] at this; omega
          have hap := append_has hs.has (small_appD (by rw [List.length_take]; omega) (by omega) (by omega) (by omega)) 0 s
          rw [appD_act (by omega) (fun e => by cases e), ← hts] at hap
          have h100i : (s.size : Int) ≤ 100 := by omega
          obtain ⟨S, hS⟩ : ∃ S, S = cat (l.take i) := ⟨_, rfl⟩
          have hS1 : cat (l.take (i + 1)) = S ++ s := by rw [hts, cat_snoc, hS]
          rw [hS1] at hle
          rw [← hS] at hcs ⊢
          have hSs : (S.size : Int) ≤ 2000 := by omega
          have HR := Lib.hid (And.intro hap (And.intro hsm (And.intro hS1 (And.intro hle (And.intro hlo hs0)))))
          clear hs hap hsm hS1 hle hlo hs0 hS hts hcs
          generalize leastOf l keep i = le at *
          by_cases hik : (i : Int) < keep
          · go_wp2_with fail
            refine HR.out.1.mono ?_
            rintro e w4 ⟨rfl, hd⟩
            have H4 := Lib.hid hd
            clear hd
            go_wp2_with fail
            go_roundw
            case rel => exact ⟨i + 1, by omega, by go_num, by rw [HR.out.2.2.1], by rw [HR.out.2.2.2.1 hik, ByteArray.size_append]; rfl, H4.out, HR.out.2.1⟩
            case measure => simp [intOf]; omega
          · go_wp2_with fail
            refine HR.out.1.mono ?_
            rintro e w4 ⟨rfl, hd⟩
            have H4 := Lib.hid hd
            clear hd
            go_wp2_with fail
            go_roundw
            case rel => exact ⟨i + 1, by omega, by go_num, by rw [HR.out.2.2.1], by rw [HR.out.2.2.2.2.1 hik], H4.out, HR.out.2.1⟩
            case measure => simp [intOf]; omega
        · have h100i : (100 : Int) < s.size := by omega
          have HR := Lib.hid hs
          clear hs hs0 hts hle hlo
          go_wp2_with fail
          go_ret
          exact ⟨rfl, HR.out.has.old⟩
      · obtain rfl : i = n := by omega
        have hll := H.out.2
        have hhas := hs.has
        have hbelow := H.out.1.below hs.has.old
        have htl : l.take i = l := by rw [hll, List.take_length]
        rw [htl] at hhas ⊢
        have hcs : (cat l).size ≤ 2000 := by
          have := cat_take_le (l := l.take i) (losS_le (by omega) hs.small) i
          rw [List.take_take, Nat.min_self, htl] at this; omega
        have hfl := fail_has hhas (small_appD (by omega) (by omega) (by omega) (by omega)) keep torn
        rw [hll, left_fail] at hfl
        have hsz := left_size l keep torn
        have hpre := left_pre l (keepOf l.length keep) torn
        change Pre (leftT l keep torn) (cat l) at hpre
        obtain ⟨R, hR⟩ : ∃ R, R = leftT l keep torn := ⟨_, rfl⟩
        obtain ⟨D1, hD1⟩ : ∃ D1, D1 = leftD l keep torn := ⟨_, rfl⟩
        have hup := fun (W : World) (hd : Has w W b D1) => up_has hd
        have hrd := fun (W : World) (hd : Has w W b D1.up) => read_has hd 0
        rw [hD1, left_read, left_err, ← hR] at hrd
        rw [← hD1] at hrd hfl
        rw [show D1.down = true by rw [hD1]; rfl] at hup
        rw [← hR] at hsz hpre
        have hps := hpre.size
        have hpe := hpre.extract
        obtain ⟨le, hle⟩ : ∃ le, le = leastOf l keep l.length := ⟨_, rfl⟩
        rw [show leastOf l keep i = le by rw [hle, hll]]
        rw [← hle] at hsz
        obtain ⟨A, hA⟩ : ∃ A, A = cat l := ⟨_, rfl⟩
        rw [← hA] at hps hpe hcs ⊢
        have p1 : (le : Int) ≤ R.size := by omega
        have p2 : (R.size : Int) ≤ A.size := by omega
        have p3 : (A.size : Int) ≤ 2000 := by omega
        have p1' : decide (R.size < le) = false := by rw [decide_eq_false_iff_not]; omega
        have p2' : decide (A.size < R.size) = false := by rw [decide_eq_false_iff_not]; omega
        have p4 : (!((A.extract 0 R.size).toList == R.toList)) = false := by rw [hpe]; simp
        obtain ⟨kp, m1, hkp⟩ : ∃ kp : Nat, max keep 0 = (kp : Int) ∧ kp = keep.toNat := ⟨keep.toNat, by omega, rfl⟩
        by_cases hyes : kp < i ∧ 0 < torn
        · obtain ⟨hk1, ht1⟩ := hyes
          obtain ⟨tb, off, rfl, htb, hc⟩ := hbelow.at (show kp < l.length by omega)
          have hnx := left_next (l := l) hkp (by omega) ht1
          rw [hnx] at hsz
          have hget : ∀ W, Below w.heap.size w W → W.cell? ⟨tb, off + kp, none⟩ = some (.string (l.getD kp ByteArray.empty)) := fun W hW => by
            obtain ⟨b2, o2, e2, -, h2⟩ := (H.out.1.below hW).at (show kp < l.length by omega)
            injection e2 with e2; injection e2 with e3 e4; rw [e3, e4]; exact h2
          obtain ⟨s, hs0⟩ : ∃ s, s = l.getD kp ByteArray.empty := ⟨_, rfl⟩
          rw [← hs0] at hsz hget
          have m2 : min torn (s.size : Int) = ((min torn.toNat s.size : Nat) : Int) := by omega
          obtain ⟨tk, htk⟩ : ∃ tk, tk = min torn.toNat s.size := ⟨_, rfl⟩
          rw [← htk] at m2 hsz
          have p5 : (R.size : Int) = (le : Int) + (tk : Int) := by omega
          have hk1i : (kp : Int) < i := by omega
          have p6 : (tk : Int) ≤ 2000 := by omega
          have HF := Lib.hid (And.intro hfl (And.intro hup (And.intro hrd (And.intro hget p5))))
          clear hfl hup hrd hget p5 hs hs0 hhas hbelow htl hsz hpre hps hpe hcs hR hD1 hle hA htk hnx hkp hll hc htb
          go_wp2_with fail
          refine HF.out.1.mono ?_
          rintro e w4 ⟨rfl, hd⟩
          have H4 := Lib.hid hd
          clear hd
          go_wp2_with fail
          refine (HF.out.2.1 _ H4.out).mono ?_
          rintro e w5 ⟨rfl, hd⟩
          have H5 := Lib.hid hd
          clear hd
          go_wp2_with fail
          refine (HF.out.2.2.1 _ H5.out).mono ?_
          rintro e w6 ⟨rfl, rfl⟩
          have hc := HF.out.2.2.2.1 _ H5.out.old
          go_wp2_with fail
          go_ret
          exact ⟨ret_true (by rw [HF.out.2.2.2.2]; simp), H5.out.old⟩
        · have hnx := left_none (l := l) (torn := torn) hkp (by rw [← hll]; exact hyes)
          rw [hnx] at hsz
          have p5 : (R.size : Int) = (le : Int) := by omega
          have hno : ¬ kp < i ∨ ¬ 0 < torn := by
            by_cases e : kp < i
            · exact .inr (fun e2 => hyes ⟨e, e2⟩)
            · exact .inl e
          have HF := Lib.hid (And.intro hfl (And.intro hup (And.intro hrd p5)))
          clear hfl hup hrd p5 hs hhas hbelow htl hsz hpre hps hpe hcs hR hD1 hle hA hnx hkp hll hyes
          by_cases hk1 : kp < i
          · have ht1 : decide (0 < torn) = false := by
              rcases hno with h | h
              · exact absurd hk1 h
              · simpa using h
            clear hno
            go_wp2_with fail
            refine HF.out.1.mono ?_
            rintro e w4 ⟨rfl, hd⟩
            have H4 := Lib.hid hd
            clear hd
            go_wp2_with fail
            refine (HF.out.2.1 _ H4.out).mono ?_
            rintro e w5 ⟨rfl, hd⟩
            have H5 := Lib.hid hd
            clear hd
            go_wp2_with fail
            refine (HF.out.2.2.1 _ H5.out).mono ?_
            rintro e w6 ⟨rfl, rfl⟩
            go_wp2_with fail
            go_ret
            exact ⟨ret_true (by rw [HF.out.2.2.2]; simp), H5.out.old⟩
          · have hk2 : decide (kp < i) = false := by simpa using hk1
            clear hno
            go_wp2_with fail
            refine HF.out.1.mono ?_
            rintro e w4 ⟨rfl, hd⟩
            have H4 := Lib.hid hd
            clear hd
            go_wp2_with fail
            refine (HF.out.2.1 _ H4.out).mono ?_
            rintro e w5 ⟨rfl, hd⟩
            have H5 := Lib.hid hd
            clear hd
            go_wp2_with fail
            refine (HF.out.2.2.1 _ H5.out).mono ?_
            rintro e w6 ⟨rfl, rfl⟩
            go_wp2_with fail
            go_ret
            exact ⟨ret_true (by rw [HF.out.2.2.2]; simp), H5.out.old⟩
  · have h20i : (20 : Int) < l.length := by omega
    go_enter Try.func5, Try.ntmps5
    go_wp2_with fail
    refine hn.mono ?_
    rintro e w1 ⟨b, rfl, hd⟩
    have hD := Lib.hid hd
    clear hd hn
    go_wp2_with fail
    refine (awake_any _).mono ?_
    rintro e w2 ⟨rfl, hb⟩
    have hB := Lib.hid (hD.out.old.trans (hb.mono hD.out.old.size))
    clear hb
    go_wp2_with fail
    refine (awake_any _).mono ?_
    rintro e w3 ⟨rfl, hb⟩
    have hB3 := Lib.hid (hB.out.trans (hb.mono hB.out.size))
    clear hb
    go_wp2_with fail
    go_ret
    exact ⟨rfl, hB3.out⟩
end Go.Proofs.Ytefpfedpgedloaa

namespace Go.Proofs.Ytefpfedpgedloaa.diskLosesLaw
open Go.ChangeShapes Go.WideShapes Go.ChangeAt Go.RowKit
open Go.ChangeMaps (open_string shut_string)

theorem own : ownKnob Try.prog.godebug = none := by kernel_rfl
set_option maxRecDepth 100000 in
theorem lifted (os : Os) (started : os.Started) (H : Type) (enc : TypeId × Value → H) :
    ReturnsInHanded {} Try.checked os 5 .any (Rows.diskLosesSpec.pre6 enc Try.prog Try.f5 Rows.diskLosesRow.domain false) (Rows.diskLosesSpec.post enc Try.prog Try.f5 false true false false) := by
  refine returnsInHanded_of_change (C := Try.checked) own started (by kernel_rfl) Try.func5
    (ChangeSpec.witness6 (enc := enc) (C := Try.checked) false ⟨#[], #[.slice none 0 0, .int .i64 0, .int .i64 0], []⟩ 8 (by kernel_rfl) (by kernel_rfl) (by kernel_rfl) (by kernel_rfl)) ?_
  intro W base args ds gs before hval0 hW hcnd _
  have hval : ∀ (j : Nat) t v, Try.f5.params[j]? = some t → args[j]? = some v → Value.okWide Try.prog W .any base t v := hval0
  have hW' := hW
  obtain ⟨p, q, hA0, hV, rfl, hfz, hnd⟩ := hW
  have hA : DataW.TrodAll enc Try.prog W 0 (fun _ => true) true Try.f5.params.toList args.toList ds p := hA0
  rw [Try.params5] at hA hval
  obtain ⟨v0, vs0, d0, ds0, p0, q0, hargs, rfl, rfl, h0, r0⟩ := trodAll_cons hA
  obtain ⟨v1, vs1, d1, ds1, p1, q1, rfl, rfl, rfl, h1, r1⟩ := trodAll_cons r0
  obtain ⟨v2, vs2, d2, ds2, p2, q2, rfl, rfl, rfl, h2, r2⟩ := trodAll_cons r1
  obtain ⟨rfl, rfl, rfl⟩ := trodAll_nil r2
  obtain rfl : args = #[v0, v1, v2] := by cases args; simp_all
  obtain ⟨rfl, rfl⟩ := trodVars_none hV
  obtain ⟨a0, len0, cap0, rfl⟩ := okWide_slice Try.underlying27 (hval 0 27 v0 rfl rfl)
  have hk0 := h0
  obtain ⟨fuel0, hf0⟩ := h0
  obtain ⟨n1, rfl, rfl, rfl, ws1⟩ := open_int Try.underlying3 (hval 1 3 v1 rfl rfl) h1
  have hbd1 := ws1
  simp only [Lit.wf, Bool.and_eq_true, decide_eq_true_eq] at hbd1
  obtain ⟨n2, rfl, rfl, rfl, ws2⟩ := open_int Try.underlying3 (hval 2 3 v2 rfl rfl) h2
  have hbd2 := ws2
  simp only [Lit.wf, Bool.and_eq_true, decide_eq_true_eq] at hbd2
  clear hA0 hval0
  simp only [List.append_nil] at hW'
  have hlt0 : ∀ x ∈ p0, x.block < W.heap.size := fun x hx => by simpa using hW'.lt x (by simp [hx])
  obtain ⟨ss0, hlen0, hmax0, hT0⟩ := texts_of hf0 hlt0
  subst hlen0
  refine (loses_law ss0 a0 cap0 hT0 hmax0 n1 hbd1.1 hbd1.2 n2 hbd2.1 hbd2.2 (w := W)).mono fun e W' ⟨he, hb⟩ => ?_
  subst he
  exact ⟨_, rfl, _, _, _, [], _, [], hW', trodAll_cons_mk (shut_bool Try.underlying4 _) trodAll_mk0, (trodAll_cons_mk (Below.trod laidOut (by kernel_rfl) (of_decide_eq_true (by kernel_rfl)) hk0 hb hlt0) (trodAll_cons_mk (shut_int Try.underlying3 ws1) (trodAll_cons_mk (shut_int Try.underlying3 ws2) trodAll_mk0))), rfl, hb.frame _, fun h => by cases h⟩
theorem over : Rows.diskLosesRow.holds Try.pinned (OpenSpec.ofChange Rows.diskLosesSpec) :=
  OpenClaim.holds_of_wide 5 Try.f5 rfl rfl rfl rfl rfl rfl rfl ⟨rfl, rfl, rfl, rfl, rfl⟩ rfl rfl rfl rfl rfl (by kernel_rfl) Try.func5 (by kernel_rfl)
    (of_decide_eq_true (by kernel_rfl)) (by unfold Func.isWrapper; first | (rw [if_pos (by decide +kernel)]; kernel_rfl) | (rw [if_neg (by decide +kernel)]; exact ⟨rfl, rfl⟩))
    (fun os started H enc _ => lifted os started H enc)
end Go.Proofs.Ytefpfedpgedloaa.diskLosesLaw

namespace Go.Proofs.Ytefpfedpgedloaa
theorem diskLoses_said : Rows.DiskLosesSaid := diskLosesLaw.over
end Go.Proofs.Ytefpfedpgedloaa
