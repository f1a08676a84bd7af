/- disk: Fail: the power fails. -/
import Derived.Test.YtefpfedpgedloaaDCopy
import Derived.Test.YtefpfedpgedloaaDPlain
namespace Go.Proofs.Ytefpfedpgedloaa
open Go.RowKit
open Dk

def maxI (x y : Int) : Int := if y > x then y else x
theorem run_max_I {P : Program} {w : World} (ts : Array TypeId) (t : TypeId) (k k' : IntKind) (x y : Int) : (Builtin.max_ ts t #[.int k x, .int k' y]).run P w = .ok (.int k (maxI x y)) w := run_max_int2 w ts t k k' x y
def minI (x y : Int) : Int := if y < x then y else x
theorem run_min_I {P : Program} {w : World} (ts : Array TypeId) (t : TypeId) (k k' : IntKind) (x y : Int) : (Builtin.min_ ts t #[.int k x, .int k' y]).run P w = .ok (.int k (minI x y)) w := run_min_int2 w ts t k k' x y
theorem min_keep (n : Nat) (keep : Int) : minI (keep.toNat : Int) (n : Int) = (keepOf n keep : Int) := by unfold minI keepOf; split <;> omega
theorem min_torn (torn : Int) (h : 0 < torn) (n : Nat) : minI torn (n : Int) = ((min torn.toNat n : Nat) : Int) := by unfold minI; split <;> omega
attribute [local go_sem high] run_max_I run_min_I

theorem chgsCells_set {cs : List Chg} {k : Nat} {c : Chg} (hc : cs[k]? = some c) (t : ByteArray) : (chgsCells cs).set (k * 4 + 3) (.string t) = chgsCells (cs.set k { c with text := t }) := by
  have hk := (List.getElem?_eq_some_iff.1 hc).1
  apply List.ext_getElem?
  intro j
  by_cases hj : j < cs.length * 4
  · obtain ⟨i, r, rfl, hr⟩ : ∃ i r, j = i * 4 + r ∧ r < 4 := ⟨j / 4, j % 4, by omega, by omega⟩
    have hi : i < cs.length := by omega
    rw [List.getElem?_set]
    by_cases e : i = k
    · subst e
      rw [chgsCells_at (cs.set i { c with text := t }) i { c with text := t } (by rw [List.getElem?_set_self hk]) r hr]
      by_cases e2 : r = 3
      · subst e2
        rw [if_pos rfl, if_pos (by rw [chgsCells_length]; omega)]; rfl
      · rw [if_neg (by omega), chgsCells_at cs i c hc r hr]
        rcases (by omega : r = 0 ∨ r = 1 ∨ r = 2) with rfl | rfl | rfl <;> rfl
    · rw [if_neg (by omega), chgsCells_at _ i cs[i] (List.getElem?_eq_getElem hi) r hr, chgsCells_at _ i cs[i] (by rw [List.getElem?_set_ne (fun e2 => e e2.symm)]; exact List.getElem?_eq_getElem hi) r hr]
  · rw [List.getElem?_eq_none (by rw [List.length_set, chgsCells_length]; omega), List.getElem?_eq_none (by rw [chgsCells_length, List.length_set]; omega)]
/-- A text of those that wait is another. -/
theorem raw_text {w w2 : World} {ρ : Nat → Nat} {b : Nat} {D : Disk} {N : List ByteArray} {ts tn g cap k : Nat} {c : Chg} {t : ByteArray} (hl : Lab ρ w) (hr : ρ b = 1) (hn : N.length = D.sure.length)
    (h1 : w.heap[b]? = some (.cells (headCells D ts tn (.slice (some ⟨g, 0, none⟩) D.waits.length cap)) 62 (0, 0))) (hS : Tab w ρ 2 fS ts D.sure) (hN : Tab w ρ 3 fN tn N)
    (ho : w.ownsRow 0 74 4 (.slice (some ⟨g, 0, none⟩) D.waits.length cap) D.waits.length (chgsCells D.waits)) (hg : ρ g = 4) (hc : D.waits[k]? = some c) (hw : w2 = (w.setCell ⟨g, k * 4 + 3, none⟩ (.string t)).drew) :
    Raw w2 ρ b { D with waits := D.waits.set k { c with text := t } } N ∧ Touch (· = 4) ρ ρ w w2 := by
  subst hw
  have hsz : (w.setCell ⟨g, k * 4 + 3, none⟩ (.string t)).heap.size = w.heap.size := by simp [World.setCell]
  have ht : Touch (· = 4) ρ ρ w (w.setCell ⟨g, k * 4 + 3, none⟩ (.string t)) := ⟨rfl, rfl, rfl, by rw [hsz]; exact Nat.le_refl _, fun _ _ => rfl, fun k hk hne => heap_setCell_other w _ k _ (fun e => hne (by rw [e]; exact hg)), fun _ _ => rfl⟩
  refine ⟨raw_drew ⟨hr, fun g hg => hl g (by rw [hsz] at hg; exact hg), hn, ts, tn, .slice (some ⟨g, 0, none⟩) D.waits.length cap, ?_, hS.kept (ht.kept (by decide)) (fun i _ => ht.kept (by unfold fS; omega)), hN.kept (ht.kept (by decide)) (fun i _ => ht.kept (by unfold fN; omega)), ?_⟩, touch_drew ht⟩
  · exact (heap_setCell_other w _ b _ (fun e => by have : b = g := e; rw [this, hg] at hr; omega)).trans h1
  · refine ⟨some ⟨g, 0, none⟩, cap, by simp, ?_, fun g' e => by rw [← Option.some.inj e]; exact hg⟩
    have := (World.ownsRow.stored ho (k * 4 + 3) (.string t)).1
    rw [chgsCells_set hc] at this
    simp only [List.length_set]
    exact this
theorem kept_no {ws : List Chg} {keep torn : Int} (h : tornOf torn ws[keepOf ws.length keep]? = []) : kept ws keep torn = ws.take (keepOf ws.length keep) := by rw [kept, h, List.append_nil]
theorem kept_yes {ws : List Chg} {keep torn : Int} {c : Chg} (hc : ws[keepOf ws.length keep]? = some c) (h0 : c.kind = 0) (ht : 0 < torn) :
    (ws.set (keepOf ws.length keep) { c with text := c.text.extract 0 (min torn.toNat c.text.size) }).take (keepOf ws.length keep + 1) = kept ws keep torn := by
  have hk := (List.getElem?_eq_some_iff.1 hc).1
  rw [kept, hc, tornOf_yes ⟨h0, ht⟩, List.take_add_one, List.take_set_of_le (Nat.le_refl _), List.getElem?_set_self hk]; rfl
theorem down_raw {w : World} {ρ : Nat → Nat} {b : Nat} {D : Disk} {N : List ByteArray} (h : Raw w ρ b D N) : Calls Try.prog 15 #[.pointer (some ⟨b, 0, none⟩)] w fun e w' => e = .returned (.bool D.down) ∧ w = w' := by
  obtain ⟨ts, tn, wv, h1, -⟩ := h.body
  have q := (head_cells h1).2.2.2.2.2.2.1
  clear h h1
  go_enter Try.func15, Try.ntmps15
  go_wp2_with fail
  go_ret
  exact ⟨rfl, rfl⟩
def RA (r : Nat) : Prop := r ≠ 0
theorem rs_ra {r : Nat} (h : RS r) : RA r := by
  rcases h with h | h | ⟨i, h⟩
  · unfold RA; omega
  · unfold RA; omega
  · unfold RA; unfold fS at h; omega
/-- What stands when the changes are settled, and behind that. -/
theorem fail_end {w w1 w2 w3 w4 : World} {ρ ρ1 : Nat → Nat} {b : Nat} {D : Disk} {N L : List ByteArray} (ht1 : Touch RA ρ ρ1 w w1) {ρ3 : Nat → Nat} {t' : Nat} (hR : Raw w1 ρ1 b { D with sure := L, waits := [] } N) (hL : L.length = D.sure.length) (hd : D.Ok) (hz : Sz L)
    (hT : Tab w2 ρ3 3 fN t' L) (ht : Touch (fun _ => False) ρ1 ρ3 w1 w2) (h3 : w3 = w2.setCell ⟨b, 2, none⟩ (.slice (some ⟨t', 0, none⟩) L.length L.length)) (h4 : w4 = (w3.setCell ⟨b, 5, none⟩ (.int .i64 (D.falls + 1))).setCell ⟨b, 6, none⟩ (.bool true)) :
    ∃ ρ', DiskAt w4 ρ' b { D with sure := L, waits := [], falls := D.falls + 1, down := true } ∧ Touch RA ρ ρ' w w4 := by
  subst h3 h4
  have hR2 := hR.touch ht (fun _ _ e => e)
  obtain ⟨ts, tn, wv, h1, hS, hN, hW⟩ := hR2.body
  obtain ⟨r1, s1⟩ := raw_put (w2 := w2.setCell ⟨b, 2, none⟩ (.slice (some ⟨t', 0, none⟩) L.length L.length)) (D' := { D with sure := L, waits := [] }) (N' := L) hR2.role hR2.lab rfl h1 rfl rfl hS hT hW
  obtain ⟨ts, tn, wv, h1, hS, hN, hW⟩ := r1.body
  obtain ⟨r2, s2⟩ := raw_put (w2 := (w2.setCell ⟨b, 2, none⟩ (.slice (some ⟨t', 0, none⟩) L.length L.length)).setCell ⟨b, 5, none⟩ (.int .i64 (D.falls + 1))) (D' := { D with sure := L, waits := [], falls := D.falls + 1 }) (N' := L) r1.role r1.lab rfl h1 rfl rfl hS hN hW
  obtain ⟨ts, tn, wv, h1, hS, hN, hW⟩ := r2.body
  obtain ⟨r3, s3⟩ := raw_put (w2 := ((w2.setCell ⟨b, 2, none⟩ (.slice (some ⟨t', 0, none⟩) L.length L.length)).setCell ⟨b, 5, none⟩ (.int .i64 (D.falls + 1))).setCell ⟨b, 6, none⟩ (.bool true)) (D' := { D with sure := L, waits := [], falls := D.falls + 1, down := true }) (N' := L) r2.role r2.lab rfl h1 rfl rfl hS hN hW
  refine ⟨ρ3, ⟨r3, ⟨hd.room0, hd.room1, by rw [hL]; exact hd.num, hz⟩⟩, ht1.trans ((ht.mono (fun _ e => e.elim)).trans ((s1.trans (s2.trans s3)).mono (fun r e => by unfold RA; omega)))⟩

set_option maxRecDepth 100000 in
set_option maxHeartbeats 2000000 in
theorem fail_raw {w : World} {ρ : Nat → Nat} {b : Nat} {D : Disk} {N : List ByteArray} (h : Raw w ρ b D N) (hd : D.Ok) (hdn : D.down = false) (hlen : D.waits.length ≤ 1000000000) (hf0 : 0 ≤ D.falls) (hf1 : D.falls ≤ 1000000000000) (keep torn : Int) :
    Calls Try.prog 24 #[.pointer (some ⟨b, 0, none⟩), .int .i64 keep, .int .i64 torn] w fun e w' => e = .returned (.tuple #[]) ∧ ∃ ρ', DiskAt w' ρ' b (D.fail keep torn) ∧ Touch RA ρ ρ' w w' := by
  have hfd : D.fail keep torn = { D with sure := madeAll D.sure (kept D.waits keep torn), waits := [], falls := D.falls + 1, down := true } := by unfold Disk.fail; rw [if_neg (by rw [hdn]; decide)]
  rw [hfd]
  have hK := kept_fits hd.fits keep torn
  have hdw := down_raw h
  rw [hdn] at hdw
  obtain ⟨ts, tn, wv, h1, hS, hN, a, cap, rfl, ho, hrole⟩ := h.body
  obtain ⟨q0, q1, q2, q3, q4, q5, q6, q7, q8, q9, q10⟩ := head_cells h1
  obtain ⟨kp, m1, m2⟩ : ∃ kp : Nat, maxI keep 0 = (kp : Int) ∧ minI (kp : Int) (D.waits.length : Int) = (keepOf D.waits.length keep : Int) := ⟨keep.toNat, by unfold maxI; split <;> omega, min_keep _ _⟩
  have hk0 : keepOf D.waits.length keep ≤ D.waits.length := Nat.min_le_right _ _
  obtain ⟨k0, hk⟩ : ∃ k0, k0 = keepOf D.waits.length keep := ⟨_, rfl⟩
  rw [← hk] at m2 hk0
  obtain ⟨n, hn⟩ : ∃ n, n = D.waits.length := ⟨_, rfl⟩
  obtain ⟨L, hL⟩ : ∃ L, L = madeAll D.sure (kept D.waits keep torn) := ⟨_, rfl⟩
  have hLl : L.length = D.sure.length := by rw [hL, madeAll_length]
  have hz : Sz L := by rw [hL]; exact hK.all
  rw [← hL]
  rw [← hn] at q3 m2 hk0
  by_cases hyes : ∃ c, D.waits[k0]? = some c ∧ c.kind = 0 ∧ 0 < torn
  · obtain ⟨c, hc, hc0, ht0⟩ := hyes
    have hlt : k0 < n := by rw [hn]; exact (List.getElem?_eq_some_iff.1 hc).1
    rcases own4_form ho with ⟨rfl, hw0, rfl⟩ | ⟨g, rfl, hcap, hcapm⟩
    · omega
    · obtain ⟨c0, c1, c2, c3⟩ := chg_cells_at ho hc
      have hkd : ((c.kind : Int) + 1 == 1) = true := by rw [hc0]; rfl
      have hgf : w.frozen? ⟨g, k0 * 4 + 3, none⟩ = false := World.ownsRow.frozenAt ho _
      have m3 := min_torn torn ht0 c.text.size
      obtain ⟨tk, htk⟩ : ∃ tk, tk = min torn.toNat c.text.size := ⟨_, rfl⟩
      rw [← htk] at m3
      have htl : (tk : Int) ≤ c.text.size := by omega
      have hcl : c.text.size ≤ 65536 := hd.fits.text hc hc0
      have hset := raw_text (t := c.text.extract 0 tk) h.lab h.role h.num (by rw [← hn]; rw [← hn] at h1; exact h1) hS hN ho (hrole g rfl) hc rfl
      have hkt := kept_yes (by rw [← hk]; exact hc) hc0 ht0
      rw [← hk, ← htk] at hkt
      have hcap' : n ≤ cap := by omega
      have hn9 : n ≤ 1000000000 := by omega
      unfold maxLen at hcapm
      have H := Lib.hid (And.intro hset (And.intro hkt (And.intro hL (And.intro hLl (And.intro hz (And.intro hK (And.intro hdw (And.intro hn hd))))))))
      clear h h1 hS hN ho hrole hset hkt hL hLl hz hK hdw hn hk hc hfd hlen htk hc0 hdn hd
      go_enter Try.func24, Try.ntmps24
      go_wp2_with fail
      refine H.out.2.2.2.2.2.2.1.mono ?_
      rintro e w' ⟨rfl, rfl⟩
      go_wp2_with fail
      go_region
      have hs1 := H.out.1
      have hsa := settle_any hs1.1 (k0 + 1) (by simp only [List.length_set]; have := H.out.2.2.2.2.2.2.2.1; omega) (by rw [H.out.2.1]; exact H.out.2.2.2.2.2.1) (by simp only [List.length_set]; have := H.out.2.2.2.2.2.2.2.1; omega) H.out.2.2.2.2.2.2.2.2.num
      have ht1 := hs1.2.mono (R' := RA) (fun r e => by unfold RA; omega)
      rw [show ((k0 + 1 : Nat) : Int) = (k0 : Int) + 1 from rfl, H.out.2.1, ← H.out.2.2.1] at hsa
      generalize World.drew _ = w1 at *
      have HW := Lib.hid (And.intro hsa ht1)
      clear hs1 hsa ht1 q0 q1 q2 q3 q4 q5 q6 q7 q8 q9 q10 c0 c1 c2 c3 hgf m1 m2 m3
      go_wp2_with fail
      refine HW.out.1.mono ?_
      rintro e w2 ⟨rfl, ρ2, hR2, hT2⟩
      obtain ⟨ts2, tn2, wv2, h2, hS2, hN2, hW2⟩ := hR2.body
      have hcp := copied_any hS2 H.out.2.2.2.2.1 (by rw [H.out.2.2.2.1]; exact H.out.2.2.2.2.2.2.2.2.num) ρ2 3 fN (fun i _ => fN_ne i)
      have d1 := (head_cells h2).2.1
      have HT := Lib.hid (And.intro hcp (And.intro hR2 (And.intro hT2 h2)))
      clear hcp hR2 hT2 h2 hS2 hN2 hW2
      go_wp2_with fail
      refine HT.out.1.mono ?_
      rintro e w3 ⟨t', ρ3, rfl, hT3, ht3⟩
      have h3 := (ht3.same b HT.out.2.1.lt (fun e => e)).trans HT.out.2.2.2
      have d2 := (head_cells h3).2.2.1
      have d5 := (head_cells h3).2.2.2.2.2.1
      have d6 := (head_cells h3).2.2.2.2.2.2.1
      have f2 := head_free h3 2
      have f5 := head_free h3 5
      have f6 := head_free h3 6
      have HU := Lib.hid (And.intro hT3 ht3)
      clear hT3 ht3 h3
      go_wp2_with fail
      go_end0
      refine ⟨rfl, ?_⟩
      exact fail_end (HW.out.2.trans (HT.out.2.2.1.mono (fun r e => rs_ra e))) HT.out.2.1 H.out.2.2.2.1 H.out.2.2.2.2.2.2.2.2 H.out.2.2.2.2.1 HU.out.1 HU.out.2 rfl rfl
  · have hno : tornOf torn D.waits[k0]? = [] := by
      cases hc : D.waits[k0]? with
      | none => rfl
      | some c => exact tornOf_no (fun e => hyes ⟨c, hc, e.1, e.2⟩)
    have hkt : kept D.waits keep torn = D.waits.take k0 := by rw [hk]; exact kept_no (by rw [← hk]; exact hno)
    have hsa := settle_any h k0 (by omega) (by rw [← hkt]; exact hK) hlen hd.num
    rw [← hkt, ← hL] at hsa
    have ht1 : Touch RA ρ ρ w w := Touch.refl _ _ _
    have HW := Lib.hid (And.intro hsa ht1)
    rcases own4_form ho with ⟨rfl, hw0, rfl⟩ | ⟨g, rfl, hcap, hcapm⟩
    · have hk00 : ¬ k0 < n := by omega
      have H := Lib.hid (And.intro hyes (And.intro hL (And.intro hLl (And.intro hz (And.intro hK (And.intro hdw (And.intro hn hd)))))))
      have hn9 : n ≤ 1000000000 := by omega
      clear h h1 hS hN ho hrole hyes hL hLl hz hK hdw hn hk hfd hlen hdn hd hno hkt hsa ht1
      go_enter Try.func24, Try.ntmps24
      go_wp2_with fail
      refine H.out.2.2.2.2.2.1.mono ?_
      rintro e w' ⟨rfl, rfl⟩
      go_wp2_with fail
      clear q0 q1 q2 q3 q4 q5 q6 q7 q8 q9 q10 m1 m2
      refine HW.out.1.mono ?_
      rintro e w2 ⟨rfl, ρ2, hR2, hT2⟩
      obtain ⟨ts2, tn2, wv2, h2, hS2, hN2, hW2⟩ := hR2.body
      have hcp := copied_any hS2 H.out.2.2.2.1 (by rw [H.out.2.2.1]; exact H.out.2.2.2.2.2.2.2.num) ρ2 3 fN (fun i _ => fN_ne i)
      have d1 := (head_cells h2).2.1
      have HT := Lib.hid (And.intro hcp (And.intro hR2 (And.intro hT2 h2)))
      clear hcp hR2 hT2 h2 hS2 hN2 hW2
      go_wp2_with fail
      refine HT.out.1.mono ?_
      rintro e w3 ⟨t', ρ3, rfl, hT3, ht3⟩
      have h3 := (ht3.same b HT.out.2.1.lt (fun e => e)).trans HT.out.2.2.2
      have d2 := (head_cells h3).2.2.1
      have d5 := (head_cells h3).2.2.2.2.2.1
      have d6 := (head_cells h3).2.2.2.2.2.2.1
      have f2 := head_free h3 2
      have f5 := head_free h3 5
      have f6 := head_free h3 6
      have HU := Lib.hid (And.intro hT3 ht3)
      clear hT3 ht3 h3
      go_wp2_with fail
      go_end0
      refine ⟨rfl, ?_⟩
      exact fail_end (HW.out.2.trans (HT.out.2.2.1.mono (fun r e => rs_ra e))) HT.out.2.1 H.out.2.2.1 H.out.2.2.2.2.2.2.2 H.out.2.2.2.1 HU.out.1 HU.out.2 rfl rfl
    · by_cases hlt : k0 < n
      · obtain ⟨c, hc⟩ : ∃ c, D.waits[k0]? = some c := ⟨_, List.getElem?_eq_getElem (by omega)⟩
        obtain ⟨c0, c1, c2, c3⟩ := chg_cells_at ho hc
        have hn9 : n ≤ 1000000000 := by omega
        have hcap' : n ≤ cap := by omega
        unfold maxLen at hcapm
        by_cases hc0 : c.kind = 0
        · have hkd : ((c.kind : Int) + 1 == 1) = true := by rw [hc0]; rfl
          have ht0 : ¬ 0 < torn := fun e => hyes ⟨c, hc, hc0, e⟩
          have ht0' : decide (0 < torn) = false := by simpa using ht0
          have H := Lib.hid (And.intro hyes (And.intro hL (And.intro hLl (And.intro hz (And.intro hK (And.intro hdw (And.intro hn hd)))))))
          clear h h1 hS hN ho hrole hyes hL hLl hz hK hdw hn hk hfd hlen hdn hd hno hkt hsa ht1 hc hc0
          go_enter Try.func24, Try.ntmps24
          go_wp2_with fail
          refine H.out.2.2.2.2.2.1.mono ?_
          rintro e w' ⟨rfl, rfl⟩
          go_wp2_with fail
          clear q0 q1 q2 q3 q4 q5 q6 q7 q8 q9 q10 m1 m2 c0 c1 c2 c3
          refine HW.out.1.mono ?_
          rintro e w2 ⟨rfl, ρ2, hR2, hT2⟩
          obtain ⟨ts2, tn2, wv2, h2, hS2, hN2, hW2⟩ := hR2.body
          have hcp := copied_any hS2 H.out.2.2.2.1 (by rw [H.out.2.2.1]; exact H.out.2.2.2.2.2.2.2.num) ρ2 3 fN (fun i _ => fN_ne i)
          have d1 := (head_cells h2).2.1
          have HT := Lib.hid (And.intro hcp (And.intro hR2 (And.intro hT2 h2)))
          clear hcp hR2 hT2 h2 hS2 hN2 hW2
          go_wp2_with fail
          refine HT.out.1.mono ?_
          rintro e w3 ⟨t', ρ3, rfl, hT3, ht3⟩
          have h3 := (ht3.same b HT.out.2.1.lt (fun e => e)).trans HT.out.2.2.2
          have d2 := (head_cells h3).2.2.1
          have d5 := (head_cells h3).2.2.2.2.2.1
          have d6 := (head_cells h3).2.2.2.2.2.2.1
          have f2 := head_free h3 2
          have f5 := head_free h3 5
          have f6 := head_free h3 6
          have HU := Lib.hid (And.intro hT3 ht3)
          clear hT3 ht3 h3
          go_wp2_with fail
          go_end0
          refine ⟨rfl, ?_⟩
          exact fail_end (HW.out.2.trans (HT.out.2.2.1.mono (fun r e => rs_ra e))) HT.out.2.1 H.out.2.2.1 H.out.2.2.2.2.2.2.2 H.out.2.2.2.1 HU.out.1 HU.out.2 rfl rfl
        · have hkd : ((c.kind : Int) + 1 == 1) = false := by rw [beq_eq_false_iff_ne]; omega
          have H := Lib.hid (And.intro hyes (And.intro hL (And.intro hLl (And.intro hz (And.intro hK (And.intro hdw (And.intro hn hd)))))))
          clear h h1 hS hN ho hrole hyes hL hLl hz hK hdw hn hk hfd hlen hdn hd hno hkt hsa ht1 hc hc0
          go_enter Try.func24, Try.ntmps24
          go_wp2_with fail
          refine H.out.2.2.2.2.2.1.mono ?_
          rintro e w' ⟨rfl, rfl⟩
          go_wp2_with fail
          clear q0 q1 q2 q3 q4 q5 q6 q7 q8 q9 q10 m1 m2 c0 c1 c2 c3
          refine HW.out.1.mono ?_
          rintro e w2 ⟨rfl, ρ2, hR2, hT2⟩
          obtain ⟨ts2, tn2, wv2, h2, hS2, hN2, hW2⟩ := hR2.body
          have hcp := copied_any hS2 H.out.2.2.2.1 (by rw [H.out.2.2.1]; exact H.out.2.2.2.2.2.2.2.num) ρ2 3 fN (fun i _ => fN_ne i)
          have d1 := (head_cells h2).2.1
          have HT := Lib.hid (And.intro hcp (And.intro hR2 (And.intro hT2 h2)))
          clear hcp hR2 hT2 h2 hS2 hN2 hW2
          go_wp2_with fail
          refine HT.out.1.mono ?_
          rintro e w3 ⟨t', ρ3, rfl, hT3, ht3⟩
          have h3 := (ht3.same b HT.out.2.1.lt (fun e => e)).trans HT.out.2.2.2
          have d2 := (head_cells h3).2.2.1
          have d5 := (head_cells h3).2.2.2.2.2.1
          have d6 := (head_cells h3).2.2.2.2.2.2.1
          have f2 := head_free h3 2
          have f5 := head_free h3 5
          have f6 := head_free h3 6
          have HU := Lib.hid (And.intro hT3 ht3)
          clear hT3 ht3 h3
          go_wp2_with fail
          go_end0
          refine ⟨rfl, ?_⟩
          exact fail_end (HW.out.2.trans (HT.out.2.2.1.mono (fun r e => rs_ra e))) HT.out.2.1 H.out.2.2.1 H.out.2.2.2.2.2.2.2 H.out.2.2.2.1 HU.out.1 HU.out.2 rfl rfl
      · have H := Lib.hid (And.intro hyes (And.intro hL (And.intro hLl (And.intro hz (And.intro hK (And.intro hdw (And.intro hn hd)))))))
        have hn9 : n ≤ 1000000000 := by omega
        clear h h1 hS hN ho hrole hyes hL hLl hz hK hdw hn hk hfd hlen hdn hd hno hkt hsa ht1
        go_enter Try.func24, Try.ntmps24
        go_wp2_with fail
        refine H.out.2.2.2.2.2.1.mono ?_
        rintro e w' ⟨rfl, rfl⟩
        go_wp2_with fail
        clear q0 q1 q2 q3 q4 q5 q6 q7 q8 q9 q10 m1 m2
        refine HW.out.1.mono ?_
        rintro e w2 ⟨rfl, ρ2, hR2, hT2⟩
        obtain ⟨ts2, tn2, wv2, h2, hS2, hN2, hW2⟩ := hR2.body
        have hcp := copied_any hS2 H.out.2.2.2.1 (by rw [H.out.2.2.1]; exact H.out.2.2.2.2.2.2.2.num) ρ2 3 fN (fun i _ => fN_ne i)
        have d1 := (head_cells h2).2.1
        have HT := Lib.hid (And.intro hcp (And.intro hR2 (And.intro hT2 h2)))
        clear hcp hR2 hT2 h2 hS2 hN2 hW2
        go_wp2_with fail
        refine HT.out.1.mono ?_
        rintro e w3 ⟨t', ρ3, rfl, hT3, ht3⟩
        have h3 := (ht3.same b HT.out.2.1.lt (fun e => e)).trans HT.out.2.2.2
        have d2 := (head_cells h3).2.2.1
        have d5 := (head_cells h3).2.2.2.2.2.1
        have d6 := (head_cells h3).2.2.2.2.2.2.1
        have f2 := head_free h3 2
        have f5 := head_free h3 5
        have f6 := head_free h3 6
        have HU := Lib.hid (And.intro hT3 ht3)
        clear hT3 ht3 h3
        go_wp2_with fail
        go_end0
        refine ⟨rfl, ?_⟩
        exact fail_end (HW.out.2.trans (HT.out.2.2.1.mono (fun r e => rs_ra e))) HT.out.2.1 H.out.2.2.1 H.out.2.2.2.2.2.2.2 H.out.2.2.2.1 HU.out.1 HU.out.2 rfl rfl
end Go.Proofs.Ytefpfedpgedloaa
