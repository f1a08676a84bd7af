/- The reference of disk: Fail. -/
import Derived.Test.YtefpfedpgedloaaDRSync
namespace Go.Proofs.Ytefpfedpgedloaa
open Go.RowKit
open Dk

/-- Where a result lies, and what must not turn: two blocks of the call's own. -/
def Apart (S : Nat → Prop) (B : Nat) (g : Nat) : Prop := S g ∧ g ≠ B ∧ g ≠ B + 1
def zeroRef : Array Value := #[.int .i64 0, .slice none 0 0, .slice none 0 0, .int .i64 0, .int .i64 0, .bool false, .int .i64 0, .int .i64 0, .int .i64 0, .bool false]
/-- Behind some rounds. -/
structure FailS (w wb : World) (S : Nat → Prop) (R : Disk) (keep torn : Int) (k : Nat) (v : Value) (wr : World) : Prop where
  texts : TextsR wr (Apart S w.heap.size) v (madeAll R.sure (kept (R.waits.take k) keep torn))
  below : Below wb.heap.size wb wr
set_option maxRecDepth 100000 in
set_option maxHeartbeats 2000000 in
theorem rfail_any {w : World} {S : Nat → Prop} {cells : Array Value} {R : Disk} (h : RefIn w S cells R) (hS : ∀ g, w.heap.size ≤ g → S g) (hF : Fits R.sure R.waits) (hn : R.sure.length ≤ 64) (hw : R.waits.length ≤ 1000000) (hf0 : 0 ≤ R.falls) (hf1 : R.falls ≤ 1000000000000) (keep torn : Int) :
    Calls Try.prog 34 #[.agg cells, .int .i64 keep, .int .i64 torn] w fun e w' => ∃ cells', e = .returned (.agg cells') ∧ RefIn w' S cells' { R with sure := madeAll R.sure (kept R.waits keep torn), waits := [], falls := R.falls + 1, down := true } ∧ Below w.heap.size w w' := by
  have hin := h
  obtain ⟨sv, wv, rfl, hsv, hwv⟩ := h
  obtain ⟨sa, sc, rfl⟩ := hsv.form
  obtain ⟨wa, wc, rfl⟩ := hwv.form
  obtain ⟨w1, hw1⟩ : ∃ w1, w1 = (w.alloc (.cells (refCells R (.slice sa R.sure.length sc) (.slice wa R.waits.length wc)) 32)).alloc (.cells zeroRef 32) := ⟨_, rfl⟩
  have hB : Below w.heap.size w w1 := by rw [hw1]; exact ((Below.refl _ _).alloc (Nat.le_refl _) _).alloc (by simp) _
  have hb0 : w1.heap[w.heap.size]? = some (.cells (refCells R (.slice sa R.sure.length sc) (.slice wa R.waits.length wc)) 32 (0, 0)) := by rw [hw1, Lib.alloc_old _ _ _ (by simp)]; exact heap_alloc_new _ _
  have hb1 : w1.heap[w.heap.size + 1]? = some (.cells zeroRef 32 (0, 0)) := by
    rw [hw1]
    have := heap_alloc_new (w.alloc (.cells (refCells R (.slice sa R.sure.length sc) (.slice wa R.waits.length wc)) 32)) (.cells zeroRef 32)
    rw [show (w.alloc (.cells (refCells R (.slice sa R.sure.length sc) (.slice wa R.waits.length wc)) 32)).heap.size = w.heap.size + 1 by simp] at this
    exact this
  have hsz1 : w1.heap.size = w.heap.size + 2 := by rw [hw1]; simp
  have hinA := hin.kept (w' := w1) (T := Apart S w.heap.size) ⟨fun b hs hb => ⟨⟨hs, by omega, by omega⟩, hB.block b hb⟩, hB.size⟩
  obtain ⟨sv', wv', ecs, hsA, hwA⟩ := hinA
  obtain ⟨rfl, rfl⟩ : sv' = .slice sa R.sure.length sc ∧ wv' = .slice wa R.waits.length wc := by
    simp only [refCells, Array.mk.injEq, List.cons.injEq] at ecs
    exact ⟨ecs.2.1.symm, ecs.2.2.1.symm⟩
  have H := Lib.hid (And.intro hin (And.intro hS (And.intro hB (And.intro hb0 (And.intro hb1 (And.intro hsz1 (And.intro hsA (And.intro hwA (And.intro hF hn)))))))))
  clear hsv hwv hS hF hn hin hB hb0 hb1 hsz1 hsA hwA ecs
  unfold refCells zeroRef at *
  go_enter Try.func34, Try.ntmps34
  go_wp2_with fail
  rw [← hw1]
  clear hw1
  generalize hnn : R.waits.length = n at *
  have HN := Lib.hid hnn
  clear hnn
  go_loopw [7, 8] (fun v i wr => ∃ k : Nat, k ≤ n ∧ i = .int .i64 k ∧ FailS w w1 S R keep torn k v wr) (fun _ i _ => n - (intOf i).toNat)
  case atStart => exact ⟨0, by omega, rfl, ⟨by rw [kept_zero]; exact H.out.2.2.2.2.2.2.1, Below.refl _ _⟩⟩
  case round =>
    obtain ⟨k, hk, rfl, hs⟩ := hrel
    have hb0 := (hs.below.block w.heap.size (by have := H.out.2.2.2.2.2.1; omega)).trans H.out.2.2.2.1
    have q1 : wr.cell? ⟨w.heap.size, 1, none⟩ = some (.slice sa R.sure.length sc) := by rw [cell_of_row _ _ _ _ _ _ hb0]; rfl
    have q2 : wr.cell? ⟨w.heap.size, 2, none⟩ = some (.slice wa n wc) := by rw [cell_of_row _ _ _ _ _ _ hb0]; rfl
    obtain ⟨av, cv, rfl⟩ := hs.texts.form
    have hbw : Below w.heap.size w wr := H.out.2.2.1.trans (hs.below.mono (by have := H.out.2.2.2.2.2.1; omega))
    by_cases hlt : k < n
    · obtain ⟨c, hc⟩ : ∃ c, R.waits[k]? = some c := ⟨_, List.getElem?_eq_getElem (by have := HN.out; omega)⟩
      obtain ⟨g, rfl, hg, hgS, c0, c1, c2, c3⟩ := (H.out.2.2.2.2.2.2.2.1.kept (keptS_below hs.below)).at hc
      have hLz : Sz (madeAll R.sure (kept (R.waits.take k) keep torn)) := (kept_fits (H.out.2.2.2.2.2.2.2.2.1.take k) keep torn).all
      have hLz2 : Sz (madeAll R.sure (kept (R.waits.take (k + 1)) keep torn)) := (kept_fits (H.out.2.2.2.2.2.2.2.2.1.take (k + 1)) keep torn).all
      have hLl : (madeAll R.sure (kept (R.waits.take k) keep torn)).length ≤ 64 := by rw [madeAll_length]; exact H.out.2.2.2.2.2.2.2.2.2
      have hmay := H.out.2.2.2.2.2.2.2.2.1.may hc
      have hwhole := kept_whole hc R.sure (keep := keep) torn
      have htorn := kept_torn hc R.sure (keep := keep) (torn := torn)
      have hnone := kept_none hc R.sure (keep := keep) (torn := torn)
      have hmayL : c.kind = 1 → (k : Int) < keep → c.long ≤ (exAt (madeAll R.sure (kept (R.waits.take k) keep torn)) c.x).size := fun e1 e2 => by
        rw [kept_take_lt (by have := HN.out; omega) keep torn (by omega)]; exact hmay.2.2 e1
      have hT := hs.texts
      generalize madeAll R.sure (kept (R.waits.take k) keep torn) = L at *
      generalize hL2 : madeAll R.sure (kept (R.waits.take (k + 1)) keep torn) = L2 at *
      obtain ⟨wx, hwx⟩ : ∃ wx, wx = wr.alloc (.cells #[.int .i64 (c.kind : Int), .int .i64 (c.x : Int), .string c.text, .int .i64 (c.long : Int)] 66) := ⟨_, rfl⟩
      have hmd := fun (W : World) (hW : Below wr.heap.size wr W) (c' : Chg) (h1 : c'.kind ≤ 2) (h2 : c'.kind = 1 → c'.long ≤ (exAt L c'.x).size) (h3 : Sz (made L c')) => rmade_any (hT.kept (keptS_below hW)) c' h1 h2 hLl hLz h3
      have fin : ∀ (v3 : Value) (W w3 : World), (∀ T : Nat → Prop, (∀ g, W.heap.size ≤ g → T g) → TextsR w3 T v3 L2) → Below W.heap.size W w3 → Below wr.heap.size wr W → FailS w w1 S R keep torn (k + 1) v3 w3 := fun v3 W w3 h1 h2 h3 => by
        have z1 := H.out.2.2.2.2.2.1
        have z2 := hs.below.size
        have z3 := h3.size
        refine ⟨by rw [hL2]; exact h1 _ (fun g hg => ⟨H.out.2.1 g (by omega), by omega, by omega⟩), hs.below.trans ((h3.mono z2).trans (h2.mono (by omega)))⟩
      have HN2 := Lib.hid (show ¬ (k : Int) < keep ∧ ¬ (((k : Int) = keep ∨ (k = 0 ∧ keep < 0)) ∧ 0 < torn ∧ c.kind = 0) → FailS w w1 S R keep torn (k + 1) (.slice av L.length cv) wr from fun hh => ⟨by rw [hL2, hnone hh.1 hh.2]; exact hT, hs.below⟩)
      have HR := Lib.hid (And.intro hT (And.intro hs.below hbw))
      have HMd := Lib.hid (And.intro hmd (And.intro hmay (And.intro hwhole (And.intro htorn (And.intro hLz2 hmayL)))))
      have HFin0 := Lib.hid fin
      clear hT hs hbw hmd fin hmay hwhole htorn hnone hLz hLz2 hLl hL2 hmayL hc hb0 hwx wx
      have hAb : ∀ o : Obj, Below wr.heap.size wr (wr.alloc o) := fun o => (Below.refl _ _).alloc (Nat.le_refl _) o
      have HAb := Lib.hid hAb
      clear hAb
      by_cases hA0 : (k : Int) < keep
      · have e1 : ((k : Int) == keep) = false := by rw [beq_eq_false_iff_ne]; omega
        have e2 : decide (keep < 0) = false := by rw [decide_eq_false_iff_not]; omega
        rcases Bool.eq_false_or_eq_true (((k : Int) == 0)) with e3 | e3
        · have HA := Lib.hid hA0
          have hm1 := fun W hW => HMd.out.1 W hW c HMd.out.2.1.2.1 (fun e => HMd.out.2.2.2.2.2 e hA0) (by rw [← HMd.out.2.2.1 hA0]; exact HMd.out.2.2.2.2.1)
          rw [← HMd.out.2.2.1 hA0] at hm1
          unfold rchgCells at hm1
          have HM := Lib.hid hm1
          have HFin := Lib.hid (fun v3 w3 h1 h2 => HFin0.out v3 (wr.alloc (.cells #[.int .i64 (c.kind : Int), .int .i64 (c.x : Int), .string c.text, .int .i64 (c.long : Int)] 66)) w3 h1 h2 (HAb.out _))
          clear hm1
          go_wp2_with fail
          refine (HM.out _ (HAb.out _)).mono ?_
          rintro e w3 ⟨v3, rfl, ht3, hb3⟩
          have H3 := Lib.hid (And.intro ht3 hb3)
          clear ht3 hb3
          go_wp2_with fail
          go_roundw
          case rel => exact ⟨k + 1, by omega, by go_num, HFin.out _ _ H3.out.1 H3.out.2⟩
          case measure => simp [intOf]; omega
        · have HA := Lib.hid hA0
          have hm1 := fun W hW => HMd.out.1 W hW c HMd.out.2.1.2.1 (fun e => HMd.out.2.2.2.2.2 e hA0) (by rw [← HMd.out.2.2.1 hA0]; exact HMd.out.2.2.2.2.1)
          rw [← HMd.out.2.2.1 hA0] at hm1
          unfold rchgCells at hm1
          have HM := Lib.hid hm1
          have HFin := Lib.hid (fun v3 w3 h1 h2 => HFin0.out v3 (wr.alloc (.cells #[.int .i64 (c.kind : Int), .int .i64 (c.x : Int), .string c.text, .int .i64 (c.long : Int)] 66)) w3 h1 h2 (HAb.out _))
          clear hm1
          go_wp2_with fail
          refine (HM.out _ (HAb.out _)).mono ?_
          rintro e w3 ⟨v3, rfl, ht3, hb3⟩
          have H3 := Lib.hid (And.intro ht3 hb3)
          clear ht3 hb3
          go_wp2_with fail
          go_roundw
          case rel => exact ⟨k + 1, by omega, by go_num, HFin.out _ _ H3.out.1 H3.out.2⟩
          case measure => simp [intOf]; omega
      · have hA1 : decide ((k : Int) < keep) = false := by rw [decide_eq_false_iff_not]; exact hA0
        by_cases hE0 : (k : Int) = keep
        · have e1 : ((k : Int) == keep) = true := by rw [beq_iff_eq]; exact hE0
          by_cases hT0 : 0 < torn
          · by_cases hK0 : c.kind = 0
            · have k0 : ((c.kind : Int) == 0) = true := by rw [hK0]; rfl
              have hP0 : (k : Int) = keep ∨ (k = 0 ∧ keep < 0) := .inl hE0
              by_cases hS0 : torn < (c.text.size : Int)
              · have hmn : (torn.toNat : Int) ≤ c.text.size := by omega
                have hteq : { c with text := c.text.extract 0 (min torn.toNat c.text.size) } = (⟨c.kind, c.x, c.long, (c.text.extract 0 torn.toNat)⟩ : Chg) := by rw [show min torn.toNat c.text.size = torn.toNat by omega]
                have hk1 := HMd.out.2.2.2.1 hA0 hP0 hT0 hK0
                rw [hteq] at hk1
                have hm1 := fun W hW => HMd.out.1 W hW ⟨c.kind, c.x, c.long, (c.text.extract 0 torn.toNat)⟩ HMd.out.2.1.2.1 (fun e => by rw [hK0] at e; cases e) (by rw [← hk1]; exact HMd.out.2.2.2.2.1)
                rw [← hk1] at hm1
                unfold rchgCells at hm1
                have HM := Lib.hid hm1
                have HFin := Lib.hid (fun v3 w3 h1 h2 => HFin0.out v3 (wr.alloc (.cells #[.int .i64 (c.kind : Int), .int .i64 (c.x : Int), .string (c.text.extract 0 torn.toNat), .int .i64 (c.long : Int)] 66)) w3 h1 h2 (HAb.out _))
                clear hm1 hk1 hteq
                clear hK0 hP0 hE0
                go_wp2_with fail
                refine (HM.out _ (HAb.out _)).mono ?_
                rintro e w3 ⟨v3, rfl, ht3, hb3⟩
                have H3 := Lib.hid (And.intro ht3 hb3)
                clear ht3 hb3
                go_wp2_with fail
                go_roundw
                case rel => exact ⟨k + 1, by omega, by go_num, HFin.out _ _ H3.out.1 H3.out.2⟩
                case measure => simp [intOf]; omega
              · have hS1 : decide (torn < (c.text.size : Int)) = false := by rw [decide_eq_false_iff_not]; exact hS0
                have hteq : { c with text := c.text.extract 0 (min torn.toNat c.text.size) } = (⟨c.kind, c.x, c.long, c.text⟩ : Chg) := by rw [show min torn.toNat c.text.size = c.text.size by omega, show c.text.extract 0 c.text.size = c.text from ext_list (by rw [extract_data, List.take_of_length_le (by simp)])]
                have hk1 := HMd.out.2.2.2.1 hA0 hP0 hT0 hK0
                rw [hteq] at hk1
                have hm1 := fun W hW => HMd.out.1 W hW ⟨c.kind, c.x, c.long, c.text⟩ HMd.out.2.1.2.1 (fun e => by rw [hK0] at e; cases e) (by rw [← hk1]; exact HMd.out.2.2.2.2.1)
                rw [← hk1] at hm1
                unfold rchgCells at hm1
                have HM := Lib.hid hm1
                have HFin := Lib.hid (fun v3 w3 h1 h2 => HFin0.out v3 (wr.alloc (.cells #[.int .i64 (c.kind : Int), .int .i64 (c.x : Int), .string c.text, .int .i64 (c.long : Int)] 66)) w3 h1 h2 (HAb.out _))
                clear hm1 hk1 hteq
                clear hK0 hP0 hE0
                go_wp2_with fail
                refine (HM.out _ (HAb.out _)).mono ?_
                rintro e w3 ⟨v3, rfl, ht3, hb3⟩
                have H3 := Lib.hid (And.intro ht3 hb3)
                clear ht3 hb3
                go_wp2_with fail
                go_roundw
                case rel => exact ⟨k + 1, by omega, by go_num, HFin.out _ _ H3.out.1 H3.out.2⟩
                case measure => simp [intOf]; omega
            · have k0 : ((c.kind : Int) == 0) = false := by rw [beq_eq_false_iff_ne]; omega
              have hno0 : ¬ (k : Int) < keep ∧ ¬ (((k : Int) = keep ∨ (k = 0 ∧ keep < 0)) ∧ 0 < torn ∧ c.kind = 0) := ⟨hA0, fun e => hK0 e.2.2⟩
              have HNo := Lib.hid hno0
              clear hno0 hK0 hE0
              go_wp2_with fail
              go_roundw
              case rel => exact ⟨k + 1, by omega, by go_num, (HN2.out HNo.out).texts.kept (keptS_below ((Below.refl _ _).alloc (Nat.le_refl _) _)), HR.out.2.1.alloc HR.out.2.1.size _⟩
              case measure => simp [intOf]; omega
          · have t0 : decide (0 < torn) = false := by rw [decide_eq_false_iff_not]; exact hT0
            have hno0 : ¬ (k : Int) < keep ∧ ¬ (((k : Int) = keep ∨ (k = 0 ∧ keep < 0)) ∧ 0 < torn ∧ c.kind = 0) := ⟨hA0, fun e => hT0 e.2.1⟩
            have HNo := Lib.hid hno0
            clear hno0 hE0
            go_wp2_with fail
            go_roundw
            case rel => exact ⟨k + 1, by omega, by go_num, (HN2.out HNo.out).texts.kept (keptS_below ((Below.refl _ _).alloc (Nat.le_refl _) _)), HR.out.2.1.alloc HR.out.2.1.size _⟩
            case measure => simp [intOf]; omega
        · have e1 : ((k : Int) == keep) = false := by rw [beq_eq_false_iff_ne]; exact hE0
          by_cases hZ0 : k = 0
          · have e3 : ((k : Int) == 0) = true := by rw [hZ0]; rfl
            by_cases hM0 : keep < 0
            · have e4 : decide (keep < 0) = true := by rw [decide_eq_true_eq]; exact hM0
              by_cases hT0 : 0 < torn
              · by_cases hK0 : c.kind = 0
                · have k0 : ((c.kind : Int) == 0) = true := by rw [hK0]; rfl
                  have hP0 : (k : Int) = keep ∨ (k = 0 ∧ keep < 0) := .inr ⟨hZ0, hM0⟩
                  by_cases hS0 : torn < (c.text.size : Int)
                  · have hmn : (torn.toNat : Int) ≤ c.text.size := by omega
                    have hteq : { c with text := c.text.extract 0 (min torn.toNat c.text.size) } = (⟨c.kind, c.x, c.long, (c.text.extract 0 torn.toNat)⟩ : Chg) := by rw [show min torn.toNat c.text.size = torn.toNat by omega]
                    have hk1 := HMd.out.2.2.2.1 hA0 hP0 hT0 hK0
                    rw [hteq] at hk1
                    have hm1 := fun W hW => HMd.out.1 W hW ⟨c.kind, c.x, c.long, (c.text.extract 0 torn.toNat)⟩ HMd.out.2.1.2.1 (fun e => by rw [hK0] at e; cases e) (by rw [← hk1]; exact HMd.out.2.2.2.2.1)
                    rw [← hk1] at hm1
                    unfold rchgCells at hm1
                    have HM := Lib.hid hm1
                    have HFin := Lib.hid (fun v3 w3 h1 h2 => HFin0.out v3 (wr.alloc (.cells #[.int .i64 (c.kind : Int), .int .i64 (c.x : Int), .string (c.text.extract 0 torn.toNat), .int .i64 (c.long : Int)] 66)) w3 h1 h2 (HAb.out _))
                    clear hm1 hk1 hteq
                    clear hK0 hP0 hE0 hZ0
                    go_wp2_with fail
                    refine (HM.out _ (HAb.out _)).mono ?_
                    rintro e w3 ⟨v3, rfl, ht3, hb3⟩
                    have H3 := Lib.hid (And.intro ht3 hb3)
                    clear ht3 hb3
                    go_wp2_with fail
                    go_roundw
                    case rel => exact ⟨k + 1, by omega, by go_num, HFin.out _ _ H3.out.1 H3.out.2⟩
                    case measure => simp [intOf]; omega
                  · have hS1 : decide (torn < (c.text.size : Int)) = false := by rw [decide_eq_false_iff_not]; exact hS0
                    have hteq : { c with text := c.text.extract 0 (min torn.toNat c.text.size) } = (⟨c.kind, c.x, c.long, c.text⟩ : Chg) := by rw [show min torn.toNat c.text.size = c.text.size by omega, show c.text.extract 0 c.text.size = c.text from ext_list (by rw [extract_data, List.take_of_length_le (by simp)])]
                    have hk1 := HMd.out.2.2.2.1 hA0 hP0 hT0 hK0
                    rw [hteq] at hk1
                    have hm1 := fun W hW => HMd.out.1 W hW ⟨c.kind, c.x, c.long, c.text⟩ HMd.out.2.1.2.1 (fun e => by rw [hK0] at e; cases e) (by rw [← hk1]; exact HMd.out.2.2.2.2.1)
                    rw [← hk1] at hm1
                    unfold rchgCells at hm1
                    have HM := Lib.hid hm1
                    have HFin := Lib.hid (fun v3 w3 h1 h2 => HFin0.out v3 (wr.alloc (.cells #[.int .i64 (c.kind : Int), .int .i64 (c.x : Int), .string c.text, .int .i64 (c.long : Int)] 66)) w3 h1 h2 (HAb.out _))
                    clear hm1 hk1 hteq
                    clear hK0 hP0 hE0 hZ0
                    go_wp2_with fail
                    refine (HM.out _ (HAb.out _)).mono ?_
                    rintro e w3 ⟨v3, rfl, ht3, hb3⟩
                    have H3 := Lib.hid (And.intro ht3 hb3)
                    clear ht3 hb3
                    go_wp2_with fail
                    go_roundw
                    case rel => exact ⟨k + 1, by omega, by go_num, HFin.out _ _ H3.out.1 H3.out.2⟩
                    case measure => simp [intOf]; omega
                · have k0 : ((c.kind : Int) == 0) = false := by rw [beq_eq_false_iff_ne]; omega
                  have hno0 : ¬ (k : Int) < keep ∧ ¬ (((k : Int) = keep ∨ (k = 0 ∧ keep < 0)) ∧ 0 < torn ∧ c.kind = 0) := ⟨hA0, fun e => hK0 e.2.2⟩
                  have HNo := Lib.hid hno0
                  clear hno0 hK0 hE0 hZ0
                  go_wp2_with fail
                  go_roundw
                  case rel => exact ⟨k + 1, by omega, by go_num, (HN2.out HNo.out).texts.kept (keptS_below ((Below.refl _ _).alloc (Nat.le_refl _) _)), HR.out.2.1.alloc HR.out.2.1.size _⟩
                  case measure => simp [intOf]; omega
              · have t0 : decide (0 < torn) = false := by rw [decide_eq_false_iff_not]; exact hT0
                have hno0 : ¬ (k : Int) < keep ∧ ¬ (((k : Int) = keep ∨ (k = 0 ∧ keep < 0)) ∧ 0 < torn ∧ c.kind = 0) := ⟨hA0, fun e => hT0 e.2.1⟩
                have HNo := Lib.hid hno0
                clear hno0 hE0 hZ0
                go_wp2_with fail
                go_roundw
                case rel => exact ⟨k + 1, by omega, by go_num, (HN2.out HNo.out).texts.kept (keptS_below ((Below.refl _ _).alloc (Nat.le_refl _) _)), HR.out.2.1.alloc HR.out.2.1.size _⟩
                case measure => simp [intOf]; omega
            · have e4 : decide (keep < 0) = false := by rw [decide_eq_false_iff_not]; exact hM0
              have hno0 : ¬ (k : Int) < keep ∧ ¬ (((k : Int) = keep ∨ (k = 0 ∧ keep < 0)) ∧ 0 < torn ∧ c.kind = 0) := ⟨hA0, fun e => by rcases e.1 with e | e; exact hE0 e; exact hM0 e.2⟩
              have HNo := Lib.hid hno0
              clear hno0 hE0 hZ0
              go_wp2_with fail
              go_roundw
              case rel => exact ⟨k + 1, by omega, by go_num, (HN2.out HNo.out).texts.kept (keptS_below ((Below.refl _ _).alloc (Nat.le_refl _) _)), HR.out.2.1.alloc HR.out.2.1.size _⟩
              case measure => simp [intOf]; omega
          · have e3 : ((k : Int) == 0) = false := by rw [beq_eq_false_iff_ne]; omega
            have hno0 : ¬ (k : Int) < keep ∧ ¬ (((k : Int) = keep ∨ (k = 0 ∧ keep < 0)) ∧ 0 < torn ∧ c.kind = 0) := ⟨hA0, fun e => by rcases e.1 with e | e; exact hE0 e; exact hZ0 e.1⟩
            have HNo := Lib.hid hno0
            clear hno0 hE0 hZ0
            go_wp2_with fail
            go_roundw
            case rel => exact ⟨k + 1, by omega, by go_num, (HN2.out HNo.out).texts.kept (keptS_below ((Below.refl _ _).alloc (Nat.le_refl _) _)), HR.out.2.1.alloc HR.out.2.1.size _⟩
            case measure => simp [intOf]; omega
    · obtain rfl : k = n := by omega
      have hz1 := H.out.2.2.2.2.2.1
      have r1 := (hs.below.block (w.heap.size + 1) (by omega)).trans H.out.2.2.2.2.1
      have c0 : wr.cell? ⟨w.heap.size, 0, none⟩ = some (.int .i64 R.room) := by rw [cell_of_row _ _ _ _ _ _ hb0]; rfl
      have c3 : wr.cell? ⟨w.heap.size, 3, none⟩ = some (.int .i64 R.changes) := by rw [cell_of_row _ _ _ _ _ _ hb0]; rfl
      have c4 : wr.cell? ⟨w.heap.size, 4, none⟩ = some (.int .i64 R.falls) := by rw [cell_of_row _ _ _ _ _ _ hb0]; rfl
      have c5 : wr.cell? ⟨w.heap.size, 5, none⟩ = some (.bool R.down) := by rw [cell_of_row _ _ _ _ _ _ hb0]; rfl
      have c6 : wr.cell? ⟨w.heap.size, 6, none⟩ = some (.int .i64 R.after) := by rw [cell_of_row _ _ _ _ _ _ hb0]; rfl
      have c7 : wr.cell? ⟨w.heap.size, 7, none⟩ = some (.int .i64 R.keep) := by rw [cell_of_row _ _ _ _ _ _ hb0]; rfl
      have c8 : wr.cell? ⟨w.heap.size, 8, none⟩ = some (.int .i64 R.torn) := by rw [cell_of_row _ _ _ _ _ _ hb0]; rfl
      have c9 : wr.cell? ⟨w.heap.size, 9, none⟩ = some (.bool R.laid) := by rw [cell_of_row _ _ _ _ _ _ hb0]; rfl
      have e0 : wr.cell? ⟨w.heap.size + 1, 0, none⟩ = some (.int .i64 0) := by rw [cell_of_row _ _ _ _ _ _ r1]; rfl
      have e1 : wr.cell? ⟨w.heap.size + 1, 1, none⟩ = some (.slice none 0 0) := by rw [cell_of_row _ _ _ _ _ _ r1]; rfl
      have e2 : wr.cell? ⟨w.heap.size + 1, 2, none⟩ = some (.slice none 0 0) := by rw [cell_of_row _ _ _ _ _ _ r1]; rfl
      have e3 : wr.cell? ⟨w.heap.size + 1, 3, none⟩ = some (.int .i64 0) := by rw [cell_of_row _ _ _ _ _ _ r1]; rfl
      have e4 : wr.cell? ⟨w.heap.size + 1, 4, none⟩ = some (.int .i64 0) := by rw [cell_of_row _ _ _ _ _ _ r1]; rfl
      have e5 : wr.cell? ⟨w.heap.size + 1, 5, none⟩ = some (.bool false) := by rw [cell_of_row _ _ _ _ _ _ r1]; rfl
      have e6 : wr.cell? ⟨w.heap.size + 1, 6, none⟩ = some (.int .i64 0) := by rw [cell_of_row _ _ _ _ _ _ r1]; rfl
      have e7 : wr.cell? ⟨w.heap.size + 1, 7, none⟩ = some (.int .i64 0) := by rw [cell_of_row _ _ _ _ _ _ r1]; rfl
      have e8 : wr.cell? ⟨w.heap.size + 1, 8, none⟩ = some (.int .i64 0) := by rw [cell_of_row _ _ _ _ _ _ r1]; rfl
      have e9 : wr.cell? ⟨w.heap.size + 1, 9, none⟩ = some (.bool false) := by rw [cell_of_row _ _ _ _ _ _ r1]; rfl
      have f1 : ∀ j, wr.frozen? ⟨w.heap.size + 1, j, none⟩ = false := fun j => frozen_of_row _ _ _ _ _ r1
      have hT := hs.texts
      have hka : kept (R.waits.take k) keep torn = kept R.waits keep torn := by rw [← HN.out, kept_all]
      rw [hka] at hT
      have hLl : (madeAll R.sure (kept R.waits keep torn)).length = (madeAll R.sure (kept (R.waits.take k) keep torn)).length := by rw [madeAll_length, madeAll_length]
      rw [← hLl]
      obtain ⟨L, hL⟩ : ∃ L, L = madeAll R.sure (kept R.waits keep torn) := ⟨_, rfl⟩
      rw [← hL] at hT ⊢
      have HR := Lib.hid (And.intro hT (And.intro hbw hL))
      clear hT hbw hL hs hb0 r1 hka hLl hz1
      go_wp2_with fail
      refine bodyPost_ret (v := .agg #[.int .i64 R.room, .slice av L.length cv, .slice none 0 0, .int .i64 R.changes, .int .i64 (R.falls + 1), .bool true, .int .i64 R.after, .int .i64 R.keep, .int .i64 R.torn, .bool R.laid]) (by simp [results, Try.results34, go_sem, e0, e1, e2, e3, e4, e5, e6, e7, e8, e9]) rfl ?_
      have hk : ∀ vs, KeptS (Apart S w.heap.size) S wr (wr.setCells (w.heap.size + 1) 0 vs) := fun vs => ⟨fun b hs hb => ⟨hs.1, heap_setCells_other _ _ (fun e => hs.2.2 e) _ _ _⟩, by rw [size_setCells]; exact Nat.le_refl _⟩
      have hbe : ∀ vs, Below w.heap.size w (wr.setCells (w.heap.size + 1) 0 vs) := fun vs => HR.out.2.1.grown (grownBy_setCells _ _ _ _) HR.out.2.1.size (fun k hk => by injection hk with hk; omega)
      refine ⟨_, rfl, ⟨.slice av L.length cv, .slice none 0 0, rfl, ?_, ⟨none, 0, rfl, fun e => absurd rfl e⟩⟩, hbe [.int .i64 R.room, .slice av L.length cv, .slice none 0 0, .int .i64 R.changes, .int .i64 (R.falls + 1), .bool true, .int .i64 R.after, .int .i64 R.keep, .int .i64 R.torn, .bool R.laid]⟩
      show TextsR _ S (.slice av L.length cv) (madeAll R.sure (kept R.waits keep torn))
      rw [show madeAll R.sure (kept R.waits keep torn) = L from HR.out.2.2.symm]
      exact HR.out.1.kept (hk [.int .i64 R.room, .slice av L.length cv, .slice none 0 0, .int .i64 R.changes, .int .i64 (R.falls + 1), .bool true, .int .i64 R.after, .int .i64 R.keep, .int .i64 R.torn, .bool R.laid])
end Go.Proofs.Ytefpfedpgedloaa
