/- PROVED HERE: for every number the law RequestFull returns true (a book of 200 requests takes no more; what is there already is told ahead of that; all are open until their time is over). No condition. -/
import Derived.Test.YtnkkbinbeildmaaBkF
import Derived.Test.YtnkkbinbeildmaaPyOpen
import Derived.Test.YtnkkbinbeildmaaRows
namespace Go.Proofs.Ytnkkbinbeildmaa
open Go.RowKit
/-- The requests of the law. -/
def xQ (i : Int) : Py.Q := ⟨i, ⟨#[120]⟩, 0, ⟨#[]⟩, 5⟩
def flB : Nat → List En
  | 0 => []
  | k + 1 => flB k ++ [⟨xQ ((k : Int) + 1), 1⟩]
theorem flB_length : ∀ k, (flB k).length = k
  | 0 => rfl
  | k + 1 => by rw [flB, List.length_append, flB_length k]; rfl
theorem flB_mem : ∀ {k : Nat} {x : En}, x ∈ flB k → x.q.id ≤ k ∧ x = ⟨xQ x.q.id, 1⟩
  | 0, x, h => by cases h
  | k + 1, x, h => by
    rw [flB, List.mem_append] at h
    rcases h with h | h
    · have := flB_mem h
      exact ⟨by omega, this.2⟩
    · simp at h; subst h; exact ⟨by show (k : Int) + 1 ≤ _; omega, rfl⟩
theorem flB_has : ∀ (k : Nat) (i : Int), 1 ≤ i → i ≤ k → ∃ x ∈ flB k, x.q.id = i
  | 0, i, h1, h2 => by omega
  | k + 1, i, h1, h2 => by
    rw [flB]
    by_cases h : i = (k : Int) + 1
    · exact ⟨⟨xQ ((k : Int) + 1), 1⟩, List.mem_append_right _ (by simp), h.symm⟩
    · obtain ⟨x, hx, e⟩ := flB_has k i h1 (by omega)
      exact ⟨x, List.mem_append_left _ hx, e⟩
theorem xQ_may {i : Int} (h1 : 1 ≤ i) (h2 : i ≤ 300) : Py.mayB (xQ i) = true := by
  have hn : Py.nameB (xQ i).who = true := by
    show Py.nameB ⟨#[120]⟩ = true
    decide
  have hi : Py.inB (xQ i).id 1 1048576 = true := by
    show (decide (1 ≤ i) && decide (i ≤ 1048576)) = true
    rw [decide_eq_true h1, decide_eq_true (by omega)]; rfl
  unfold Py.mayB
  rw [hn, hi]
  rfl
theorem flB_new {k : Nat} {i : Int} (h : (k : Int) < i) : Bk.findN (flB k) i = (flB k).length :=
  Py.first_none fun x hx => by
    have := (flB_mem hx).1
    simp; omega
theorem flB_old {k : Nat} {i : Int} (h1 : 1 ≤ i) (h2 : i ≤ k) : Bk.findN (flB k) i < (flB k).length := by
  rcases Nat.lt_or_ge (Bk.findN (flB k) i) (flB k).length with h | h
  · exact h
  · obtain ⟨x, hx, e⟩ := flB_has k i h1 h2
    exact absurd e (Bk.find_no (Nat.le_antisymm (Bk.find_le _ _) h) x hx)
theorem fl_put {k : Nat} (hk : k < 200) : Bk.doI (flB k) ⟨0, xQ ((k : Int) + 1), 0, ⟨#[]⟩, 0⟩ = (some (flB (k + 1)), 0) := by
  unfold Bk.doI
  rw [if_neg (show ¬ (Py.inB 0 0 1099511627776 = false) by decide), if_pos rfl]
  unfold Bk.putI
  simp only
  rw [if_neg (by rw [xQ_may (by omega) (by omega)]; decide), if_neg (by show ¬ (Bk.findN (flB k) ((k : Int) + 1) < _); rw [flB_new (by omega)]; omega), if_neg (by show ¬ ((5 : Int) < 0); decide), if_neg (by rw [flB_length]; omega)]
  rfl
theorem fl_full {i : Int} (h1 : 201 ≤ i) (h2 : i ≤ 300) : Bk.doI (flB 200) ⟨0, xQ i, 0, ⟨#[]⟩, 0⟩ = (none, 6) := by
  unfold Bk.doI
  rw [if_neg (show ¬ (Py.inB 0 0 1099511627776 = false) by decide), if_pos rfl]
  unfold Bk.putI
  simp only
  rw [if_neg (by rw [xQ_may (by omega) (by omega)]; decide), if_neg (by show ¬ (Bk.findN (flB 200) i < _); rw [flB_new (by omega)]; omega), if_neg (by show ¬ ((5 : Int) < 0); decide), if_pos (by rw [flB_length]; omega)]
theorem fl_there {i : Int} (h1 : 1 ≤ i) (h2 : i ≤ 200) : Bk.doI (flB 200) ⟨0, xQ i, 0, ⟨#[]⟩, 0⟩ = (none, 5) := by
  unfold Bk.doI
  rw [if_neg (show ¬ (Py.inB 0 0 1099511627776 = false) by decide), if_pos rfl]
  unfold Bk.putI
  simp only
  rw [if_neg (by rw [xQ_may (by omega) (by omega)]; decide), if_pos (show Bk.findN (flB 200) (xQ i).id < _ from flB_old (i := i) h1 (by omega))]
theorem fl_open5 : Bk.openN (flB 200) ⟨#[120]⟩ 5 = 200 := by
  unfold Bk.openN
  rw [List.filter_eq_self.2 (fun x hx => by
    rw [(flB_mem hx).2]
    rfl), flB_length]
theorem fl_open6 : Bk.openN (flB 200) ⟨#[120]⟩ 6 = 0 := by
  unfold Bk.openN
  rw [List.filter_eq_nil_iff.2 (fun x hx => by
    rw [(flB_mem hx).2]
    show ¬ (_ && decide (Bk.atI ⟨xQ x.q.id, 1⟩ 6 = 1)) = true
    rw [show Bk.atI ⟨xQ x.q.id, 1⟩ 6 = 5 by rfl]
    simp), List.length_nil]
theorem fl_code {i : Int} (h1 : 1 ≤ i) (h2 : i ≤ 300) : Bk.doI (flB 200) ⟨0, xQ i, 0, ⟨#[]⟩, 0⟩ = (none, if i ≤ 200 then 5 else 6) := by
  by_cases h : i ≤ 200
  · rw [if_pos h, fl_there h1 h]
  · rw [if_neg h, fl_full (by omega) h2]
set_option maxRecDepth 100000 in
set_option maxHeartbeats 2000000 in
theorem bfull_law {w : World} (n : Int) (_ : -9223372036854775808 ≤ n) (_ : n ≤ 9223372036854775807) :
    Calls Try.prog 9 #[.int .i64 n] w fun e w' => e = .returned (.bool true) ∧ Below w.heap.size w w' := by
  obtain ⟨nb, hnb⟩ : ∃ nb, nb = w.heap.size := ⟨_, rfl⟩
  have hnew := bnew_any w
  rw [← hnb] at hnew
  have HN := Lib.hid (And.intro hnew hnb.symm)
  clear hnew hnb
  have hsz : ∀ W, Below nb w W → nb ≤ W.heap.size := fun W h => Nat.le_trans (Nat.le_of_eq HN.out.2.symm) h.size
  have HS := Lib.hid hsz
  clear hsz
  go_enter Try.func9, Try.ntmps9
  go_wp2_with fail
  refine HN.out.1.mono ?_
  rintro e w1 ⟨rfl, hbk1, hb1, -⟩
  have HB1 := Lib.hid (And.intro hbk1 hb1)
  clear hbk1 hb1
  go_wp2_with fail
  refine (awake21_any _).mono ?_
  rintro e w2 ⟨rfl, hb2⟩
  have HB2 := Lib.hid (And.intro (HB1.out.1.below hb2) (HB1.out.2.trans (hb2.mono (HS.out _ HB1.out.2))))
  clear hb2
  go_wp2_with fail
  go_loopw [4] (fun v wr => ∃ (k : Nat) (R : Option Nat), k ≤ 200 ∧ v = .int .i64 ((k : Int) + 1) ∧ BkAt nb wr nb R (flB k) ∧ Below nb w wr) (fun v _ => (202 - intOf v).toNat)
  case atStart => exact ⟨0, none, by omega, rfl, HB2.out.1, HB2.out.2⟩
  case round =>
    obtain ⟨k, R, hk, rfl, hbk, hb⟩ := hrel
    by_cases hlt : k < 200
    · have hput := hbk.putq (by rw [flB_length]; omega) (xQ ((k : Int) + 1)) (by show 1 ≤ _; decide) (by show 0 ≤ _; decide) 0 ⟨#[]⟩ 0 (HS.out _ hb)
      have hrow := fun (g : Nat) (hg : R = some g) => (hbk.row g hg).1
      have HB := Lib.hid (And.intro hbk (And.intro hb (And.intro hput (And.intro hrow (fl_put hlt)))))
      have g200 : (k : Int) + 1 ≤ 200 := by omega
      clear hbk hb hput hrow
      go_wp2_with fail
      refine HB.out.2.2.1.mono ?_
      rintro e w3 ⟨v, R', rfl, hE, hbk3, hk3, hR3⟩
      unfold Bk.after at hbk3
      rw [HB.out.2.2.2.2] at hE hbk3
      obtain rfl := hE.zero
      have hb3 := hk3.below HB.out.2.1 (HS.out _ HB.out.2.1) (Nat.le_refl _) HB.out.2.2.2.1
      have H3 := Lib.hid (And.intro hbk3 hb3)
      clear hE hbk3 hk3 hR3 hb3
      go_wp2_with fail
      go_roundw
      case rel => exact ⟨k + 1, R', by omega, by go_num, H3.out.1, H3.out.2⟩
      case measure => simp [intOf]; omega
    · obtain rfl : k = 200 := by omega
      obtain ⟨t, ht⟩ : ∃ t, n.tmod 300 = t := ⟨_, rfl⟩
      have ht1 : -300 < t := by rw [← ht, Int.tmod_eq_emod]; split <;> omega
      have ht2 : t < 300 := by rw [← ht, Int.tmod_eq_emod]; split <;> omega
      obtain ⟨u, hu⟩ : ∃ u, (t + 300).tmod 300 = u := ⟨_, rfl⟩
      have hu1 : 0 ≤ u := by rw [← hu, Int.tmod_eq_emod]; split <;> omega
      have hu2 : u < 300 := by rw [← hu, Int.tmod_eq_emod]; split <;> omega
      obtain ⟨i, hi⟩ : ∃ i, i = 1 + u := ⟨_, rfl⟩
      have hput := hbk.putq (by rw [flB_length]; omega) (xQ i) (by show 1 ≤ _; decide) (by show 0 ≤ _; decide) 0 ⟨#[]⟩ 0 (HS.out _ hb)
      have hrow := fun (g : Nat) (hg : R = some g) => (hbk.row g hg).1
      have hcode := fl_code (i := i) (by omega) (by omega)
      have HB := Lib.hid (And.intro hbk (And.intro hb (And.intro hput (And.intro hrow hcode))))
      clear hbk hb hput hrow hcode
      have gi1 : i ≤ 300 := by omega
      have gi0 : 1 ≤ i := by omega
      have hw1 : IntKind.i64.wrap (t + 300) = t + 300 := IntWalk.i64_in _ (by omega)
      have hw2 : IntKind.i64.wrap (1 + u) = i := by rw [← hi]; exact IntWalk.i64_in _ (by omega)
      clear hi
      go_wp2_with fail
      refine HB.out.2.2.1.mono ?_
      rintro e w3 ⟨v, R', rfl, hE, hbk3, hk3, hR3⟩
      unfold Bk.after at hbk3
      rw [HB.out.2.2.2.2] at hE hbk3
      simp only [Option.getD_none] at hbk3
      have hb3 := hk3.below HB.out.2.1 (HS.out _ HB.out.2.1) (Nat.le_refl _) HB.out.2.2.2.1
      have hids := hbk3.ids (by rw [flB_length]; omega)
      rw [flB_length] at hids
      have ho5 := fun W (hb : Below w3.heap.size w3 W) => (hbk3.below hb).opens (by rw [flB_length]; omega) ⟨#[120]⟩ 5
      have ho6 := fun W (hb : Below w3.heap.size w3 W) => (hbk3.below hb).opens (by rw [flB_length]; omega) ⟨#[120]⟩ 6
      rw [fl_open5] at ho5
      rw [fl_open6] at ho6
      have H3 := Lib.hid (And.intro hb3 (And.intro hids (And.intro ho5 ho6)))
      clear hb3 hids ho5 ho6 hbk3 hk3 hR3
      by_cases h2 : i ≤ 200
      · rw [if_pos h2] at hE
        have hc := code_any hE (by decide) (by decide)
        have HC := Lib.hid hc
        clear hE hc
        go_wp2_with fail
        refine HC.out.mono ?_
        rintro e w4 ⟨rfl, hww⟩
        cases hww
        go_wp2_with fail
        refine H3.out.2.1.mono ?_
        rintro e w5 ⟨ad, cp, rfl, -, hb5⟩
        go_wp2_with fail
        refine (H3.out.2.2.1 _ hb5).mono ?_
        rintro e w6 ⟨rfl, hb6⟩
        have HB6 := Lib.hid (hb5.trans (hb6.mono hb5.size))
        clear hb5 hb6
        go_wp2_with fail
        refine (H3.out.2.2.2 _ HB6.out).mono ?_
        rintro e w7 ⟨rfl, hb7⟩
        have HB7 := Lib.hid (HB6.out.trans (hb7.mono HB6.out.size))
        clear hb7
        go_wp2_with fail
        go_ret
        exact ⟨rfl, by have := H3.out.1.trans (HB7.out.mono (HS.out _ H3.out.1)); rw [← HN.out.2] at this; exact this⟩
      · rw [if_neg h2] at hE
        have hc := code_any hE (by decide) (by decide)
        have HC := Lib.hid hc
        clear hE hc
        go_wp2_with fail
        refine HC.out.mono ?_
        rintro e w4 ⟨rfl, hww⟩
        cases hww
        go_wp2_with fail
        refine H3.out.2.1.mono ?_
        rintro e w5 ⟨ad, cp, rfl, -, hb5⟩
        go_wp2_with fail
        refine (H3.out.2.2.1 _ hb5).mono ?_
        rintro e w6 ⟨rfl, hb6⟩
        have HB6 := Lib.hid (hb5.trans (hb6.mono hb5.size))
        clear hb5 hb6
        go_wp2_with fail
        refine (H3.out.2.2.2 _ HB6.out).mono ?_
        rintro e w7 ⟨rfl, hb7⟩
        have HB7 := Lib.hid (HB6.out.trans (hb7.mono HB6.out.size))
        clear hb7
        go_wp2_with fail
        go_ret
        exact ⟨rfl, by have := H3.out.1.trans (HB7.out.mono (HS.out _ H3.out.1)); rw [← HN.out.2] at this; exact this⟩
end Go.Proofs.Ytnkkbinbeildmaa

namespace Go.Proofs.Ytnkkbinbeildmaa.requestFullLaw
open Go.ChangeShapes Go.WideShapes Go.ChangeAt Go.RowKit
open Go.ChangeMaps (open_string shut_string)

theorem own : ownKnob Try.prog.godebug = none := by kernel_rfl
set_option maxRecDepth 100000 in
theorem lifted (os : Os) (started : os.Started) (H : Type) (enc : TypeId × Value → H) :
    ReturnsInHanded {} Try.checked os 9 .any (Rows.requestFullSpec.pre6 enc Try.prog Try.f9 Rows.requestFullRow.domain false) (Rows.requestFullSpec.post enc Try.prog Try.f9 false true false false) := by
  refine returnsInHanded_of_change (C := Try.checked) own started (by kernel_rfl) Try.func9
    (ChangeSpec.witness6 (enc := enc) (C := Try.checked) false ⟨#[], #[.int .i64 0], []⟩ 8 (by kernel_rfl) (by kernel_rfl) (by kernel_rfl) (by kernel_rfl)) ?_
  intro W base args ds gs before hval0 hW hcnd _
  have hval : ∀ (j : Nat) t v, Try.f9.params[j]? = some t → args[j]? = some v → Value.okWide Try.prog W .any base t v := hval0
  have hW' := hW
  obtain ⟨p, q, hA0, hV, rfl, hfz, hnd⟩ := hW
  have hA : DataW.TrodAll enc Try.prog W 0 (fun _ => true) true Try.f9.params.toList args.toList ds p := hA0
  rw [Try.params9] at hA hval
  obtain ⟨v0, vs0, d0, ds0, p0, q0, hargs, rfl, rfl, h0, r0⟩ := trodAll_cons hA
  obtain ⟨rfl, rfl, rfl⟩ := trodAll_nil r0
  obtain rfl : args = #[v0] := by cases args; simp_all
  obtain ⟨rfl, rfl⟩ := trodVars_none hV
  obtain ⟨n0, rfl, rfl, rfl, ws0⟩ := open_int Try.underlying3 (hval 0 3 v0 rfl rfl) h0
  have hbd0 := ws0
  simp only [Lit.wf, Bool.and_eq_true, decide_eq_true_eq] at hbd0
  clear hA0 hval0
  simp only [List.append_nil] at hW'
  refine (bfull_law n0 hbd0.1 hbd0.2 (w := W)).mono fun e W' ⟨he, hb⟩ => ?_
  subst he
  exact ⟨_, rfl, _, _, _, [], [], [], hW', trodAll_cons_mk (shut_bool Try.underlying4 _) trodAll_mk0, (trodAll_cons_mk (shut_int Try.underlying3 ws0) trodAll_mk0), rfl, hb.frame _, fun h => by cases h⟩
theorem over : Rows.requestFullRow.holds Try.pinned (OpenSpec.ofChange Rows.requestFullSpec) :=
  OpenClaim.holds_of_wide 9 Try.f9 rfl rfl rfl rfl rfl rfl rfl ⟨rfl, rfl, rfl, rfl, rfl⟩ rfl rfl rfl rfl rfl (by kernel_rfl) Try.func9 (by kernel_rfl)
    (of_decide_eq_true (by kernel_rfl)) (by unfold Func.isWrapper; first | (rw [if_pos (by decide +kernel)]; kernel_rfl) | (rw [if_neg (by decide +kernel)]; exact ⟨rfl, rfl⟩))
    (fun os started H enc _ => lifted os started H enc)
end Go.Proofs.Ytnkkbinbeildmaa.requestFullLaw

namespace Go.Proofs.Ytnkkbinbeildmaa
theorem requestFull_said : Rows.RequestFullSaid := requestFullLaw.over
end Go.Proofs.Ytnkkbinbeildmaa
