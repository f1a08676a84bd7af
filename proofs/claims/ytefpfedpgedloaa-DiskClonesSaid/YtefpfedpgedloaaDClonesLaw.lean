/- PROVED HERE: for every two lists of acts the law DiskClones returns true (a clone is the same, and goes its own way), and the acts read afterwards as they did. No condition. -/
import Derived.Test.YtefpfedpgedloaaDCloneM
import Derived.Test.YtefpfedpgedloaaRows
import Derived.ProofKit
import Derived.OpenShut
import Derived.BigQuiet
namespace Go.Proofs.Ytefpfedpgedloaa
open Go.RowKit
open Dk

set_option maxRecDepth 100000 in
set_option maxHeartbeats 4000000 in
theorem clones_law {w : World} (l : List Deed) (a0 : Option Addr) (cap0 : Nat) (hT0 : ActsAt w a0 l) (hmax0 : l.length ≤ maxLen) (m : List Deed) (b0 : Option Addr) (cap1 : Nat) (hT1 : ActsAt w b0 m) (hmax1 : m.length ≤ maxLen) :
    Calls Try.prog 7 #[.slice a0 l.length cap0, .slice b0 m.length cap1] w fun e w' => e = .returned (.bool true) ∧ Below w.heap.size w w' := by
  have hnew := new_any 3 500 (by decide) (by decide) (by decide) (by decide) w
  have hfew0 := fun (W : World) (hb : Below w.heap.size w W) => few_any (hT0.below hb) hmax0 cap0
  have hfew1 := fun (W : World) (hb : Below w.heap.size w W) => few_any (hT1.below hb) hmax1 cap1
  unfold maxLen at hmax0 hmax1
  obtain ⟨L, hL⟩ : ∃ L, L = l.length := ⟨_, rfl⟩
  obtain ⟨M, hM⟩ : ∃ M, M = m.length := ⟨_, rfl⟩
  rw [← hL] at hmax0 ⊢
  rw [← hM] at hmax1 ⊢
  simp only [← hL] at hfew0
  simp only [← hM] at hfew1
  have HF := Lib.hid (And.intro hfew0 hfew1)
  have HL := Lib.hid (And.intro hT0 hL)
  have HM := Lib.hid (And.intro hT1 hM)
  clear hT0 hT1 hL hM hfew0 hfew1
  go_enter Try.func7, Try.ntmps7
  go_wp2_with fail
  refine hnew.mono ?_
  rintro e w1 ⟨b, ρ, rfl, hd, hf, hb⟩
  have H1 := Lib.hid (And.intro hd (And.intro hf hb))
  clear hd hf hb hnew
  go_wp2_with fail
  refine (HF.out.1 _ H1.out.2.2).mono ?_
  rintro e w2 ⟨t, rfl, ht0, hb2⟩
  have H2 := Lib.hid (H1.out.2.2.trans (hb2.mono H1.out.2.2.size))
  have hd2 := H1.out.1.below hb2
  cases t with
  | false =>
    clear ht0 hb2 hd2
    go_wp2_with fail
    refine (awake_any _).mono ?_
    rintro e w3 ⟨rfl, hb3⟩
    have H3 := Lib.hid (H2.out.trans (hb3.mono H2.out.size))
    clear hb3
    go_wp2_with fail
    go_ret
    exact ⟨rfl, H3.out⟩
  | true =>
    have hl := ht0 rfl
    have HD2 := Lib.hid hd2
    clear ht0 hb2 hd2
    go_wp2_with fail
    refine (HF.out.2 _ H2.out).mono ?_
    rintro e w3 ⟨t, rfl, ht1, hb3⟩
    have H3 := Lib.hid (H2.out.trans (hb3.mono H2.out.size))
    have hd3 := HD2.out.below hb3
    cases t with
    | false =>
      clear ht1 hb3 hd3
      go_wp2_with fail
      refine (awake_any _).mono ?_
      rintro e w4 ⟨rfl, hb4⟩
      have H4 := Lib.hid (H3.out.trans (hb4.mono H3.out.size))
      clear hb4
      go_wp2_with fail
      go_ret
      exact ⟨rfl, H4.out⟩
    | true =>
      have hm := ht1 rfl
      clear ht1
      go_wp2_with fail
      refine (awake_any _).mono ?_
      rintro e w4 ⟨rfl, hb4⟩
      have hd4 := hd3.below hb4
      have hw4 := H3.out.trans (hb4.mono H3.out.size)
      have hrn := rnew_any (w := w4) (fun g => ρ g = 0 ∧ True) (fun g hg => ⟨hd4.raw.lab g (by omega), trivial⟩) 3 (by decide) 500
      obtain ⟨D0, hD0⟩ : ∃ D0, D0 = Disk.new 3 500 := ⟨_, rfl⟩
      have hn0 : Near 0 D0 := by rw [hD0]; exact Near.new (by decide) (by decide) (by decide)
      have h3 : (Disk.new 3 500).sure.length = 3 := rfl
      rw [← hD0] at hrn
      have H4 := Lib.hid (And.intro hd4 (And.intro hw4 (And.intro hn0 (And.intro hrn (And.intro h3 hD0)))))
      clear hd4 hw4 hn0 hrn h3 hD0 hd3 hb4 hb3
      go_wp2_with fail
      refine H4.out.2.2.2.1.mono ?_
      rintro e w5 ⟨cells, rfl, hR5, hb5⟩
      have hR5' := hR5
      obtain ⟨sv, wv, rfl, hsv, hwv⟩ := hR5
      obtain ⟨sa, sc, rfl⟩ := hsv.form
      obtain ⟨wa, wc, rfl⟩ := hwv.form
      have hb6 : Below w5.heap.size w5 (w5.alloc (.cells (refCells D0 (.slice sa D0.sure.length sc) (.slice wa D0.waits.length wc)) 32)) := (Below.refl _ _).alloc (Nat.le_refl _) _
      have hw5 := H4.out.2.1.trans (hb5.mono H4.out.2.1.size)
      have hlab5 : ρ w5.heap.size = 0 := (H4.out.1.below hb5).raw.lab _ (Nat.le_refl _)
      have hS1 : ClS w b w5.heap.size ρ (Disk.new 3 500) D0 (refCells D0 (.slice sa D0.sure.length sc) (.slice wa D0.waits.length wc)) 0 (w5.alloc (.cells (refCells D0 (.slice sa D0.sure.length sc) (.slice wa D0.waits.length wc)) 32)) :=
        ⟨(H4.out.1.below hb5).below hb6, H1.out.2.1, hw5.trans (hb6.mono hw5.size), Near.new (by decide) (by decide) (by decide), hR5'.kept (keptS_below hb6), heap_alloc_new _ _, hlab5, H4.out.2.2.2.2.1⟩
      have HS1 := Lib.hid (And.intro hS1 H4.out.2.2.1)
      clear hS1 hR5' hsv hwv hb5 hb6 hw5 hlab5 H1 H2 H3 H4 HD2
      unfold refCells at *
      obtain ⟨B6, hB6⟩ : ∃ B6, B6 = w5.heap.size := ⟨_, rfl⟩
      rw [← hB6] at HS1
      go_wp2_with fail
      rw [← hB6]
      clear hB6
      go_loopw [7] (fun i wr => ∃ (k : Nat) (ρ : Nat → Nat) (D : Disk), k ≤ L ∧ i = .int .i64 (k : Int) ∧ ClS w b B6 ρ D D0 (refCells D0 (.slice sa D0.sure.length sc) (.slice wa D0.waits.length wc)) k wr) (fun i _ => L - (intOf i).toNat)
      case atStart => exact ⟨0, ρ, _, by omega, rfl, HS1.out.1⟩
      case round =>
        obtain ⟨k, ρ, D, hk, rfl, hS⟩ := hrel
        by_cases hlt : k < L
        · obtain ⟨x, hx⟩ : ∃ x, l[k]? = some x := ⟨_, List.getElem?_eq_getElem (by have := HL.out.2; omega)⟩
          have hxo := (HL.out.1 k x hx).1
          obtain ⟨g, off, rfl, hg, -⟩ := HL.out.1.cellsAt hx
          have hact : ∀ W, Below w.heap.size w W → W.cell? ⟨g, off + k * 7, none⟩ = some (.int .i64 x.kind) ∧ W.cell? ⟨g, off + k * 7 + 1, none⟩ = some (.int .i64 x.x) ∧ W.cell? ⟨g, off + k * 7 + 2, none⟩ = some (.int .i64 x.n) ∧ W.cell? ⟨g, off + k * 7 + 3, none⟩ = some (.string x.s) ∧
              W.cell? ⟨g, off + k * 7 + 4, none⟩ = some (.int .i64 x.after) ∧ W.cell? ⟨g, off + k * 7 + 5, none⟩ = some (.int .i64 x.keep) ∧ W.cell? ⟨g, off + k * 7 + 6, none⟩ = some (.int .i64 x.torn) := fun W hW => by
            obtain ⟨g', off', e', -, q⟩ := (HL.out.1.below hW).cellsAt hx
            injection e' with e'
            injection e' with e1 e2 _
            subst e1 e2
            exact q
          have hdo := fun (W : World) (hW : Below wr.heap.size wr W) => ldo_any (V := fun _ => True) x (hS.disk.below hW) (hS.ref.kept (keptS_below hW)) (fun _ _ => trivial) HS1.out.2.ok (hS.near.small (by omega)) (HS1.out.2.small (by omega)) (by have := HS1.out.2.waits; omega)
          unfold refCells Deed.cells at hdo
          have HR := Lib.hid (And.intro hdo (And.intro hact (And.intro hS.old hS.row)))
          have HSx := Lib.hid (And.intro hS hxo)
          clear hdo hact hS hxo hx hg
          go_wp2_with fail
          have C : Below w.heap.size w wr.drew ∧ wr.drew.heap[B6]? = some (.cells (refCells D0 (.slice sa D0.sure.length sc) (.slice wa D0.waits.length wc)) 32 (0, 0)) := ⟨HR.out.2.2.1.drew, HR.out.2.2.2⟩
          have hwd : Below wr.heap.size wr wr.drew := (Below.refl _ _).drew
          refine wp_region_held (S := fun W => Below w.heap.size w W ∧ W.heap[B6]? = some (.cells (refCells D0 (.slice sa D0.sure.length sc) (.slice wa D0.waits.length wc)) 32 (0, 0))) (by kernel_rfl) ?_
          change wpAnyH _ _ _ _ _ _ _ _ (World.drew _)
          generalize World.drew _ = wh at *
          refine wpAnyH_take (i := 0) (v := ?_) rfl (by kernel_rfl) (by kernel_rfl) (by kernel_rfl) (fun _ _ _ h => h) (Or.inl ⟨by kernel_rfl, ?_⟩) C ?_
          rotate_left
          · (intro W hS; clear hS; go_simp; try (with_reducible rfl))
          refine wpAnyH_take (i := 1) (v := ?_) rfl (by kernel_rfl) (by kernel_rfl) (by kernel_rfl) (fun _ _ _ h => h) (Or.inl ⟨by kernel_rfl, ?_⟩) C ?_
          rotate_left
          · (intro W hS; obtain ⟨a0, a1, a2, a3, a4, a5, a6, a7, a8, a9⟩ := ref_cell hS.2; clear hS; go_simp; try (with_reducible rfl))
          refine wpAnyH_take (i := 2) (v := ?_) rfl (by kernel_rfl) (by kernel_rfl) (by kernel_rfl) (fun _ _ _ h => h) (Or.inl ⟨by kernel_rfl, ?_⟩) C ?_
          rotate_left
          · (intro W hS; clear hS; go_simp; try (with_reducible rfl))
          refine wpAnyH_take (i := 3) (v := ?_) rfl (by kernel_rfl) (by kernel_rfl) (by kernel_rfl) (fun _ _ _ h => h) (Or.inl ⟨by kernel_rfl, ?_⟩) C ?_
          rotate_left
          · (intro W hS; clear hS; go_simp; try (with_reducible rfl))
          refine wpAnyH_take (i := 4) (v := ?_) rfl (by kernel_rfl) (by kernel_rfl) (by kernel_rfl) (fun _ _ _ h => h) (Or.inl ⟨by kernel_rfl, ?_⟩) C ?_
          rotate_left
          · (intro W hS; clear hS; go_simp; try (with_reducible rfl))
          refine wpAnyH_take (i := 5) (v := ?_) rfl (by kernel_rfl) (by kernel_rfl) (by kernel_rfl) (fun _ _ _ h => h) (Or.inl ⟨by kernel_rfl, ?_⟩) C ?_
          rotate_left
          · (intro W hS; obtain ⟨c0, c1, c2, c3, c4, c5, c6⟩ := HR.out.2.1 W hS.1; clear hS; go_simp; try (with_reducible rfl))
          refine wpAnyH_ready (rs := [6]) (by kernel_rfl) (by simp) ?_
          refine AllReadyH.cons rfl (fun K hK => ?_) AllReadyH.nil
          go_simp
          refine (HR.out.1 wh hwd).mono ?_
          rintro e w7 ⟨cells7, t7, rfl, -, ρ7, hd7, -, ht7⟩
          have HN := Lib.hid ((HSx.out.1.below hwd).step x HSx.out.2 hd7 ht7)
          have C7 : Below w.heap.size w w7 ∧ w7.heap[B6]? = some (.cells (refCells D0 (.slice sa D0.sure.length sc) (.slice wa D0.waits.length wc)) 32 (0, 0)) := ⟨HN.out.old, HN.out.row⟩
          refine hK.out _ _ C7 (fun _ => ?_)
          clear hK K
          refine wpAnyH_done (by kernel_rfl) ?_ _
          clear hd7 ht7 C7 C hwd
          go_wp2_with fail
          go_roundw
          case rel => exact ⟨k + 1, _, _, by omega, by go_num, HN.out⟩
          case measure => simp [intOf]; omega
        · obtain rfl : k = L := by omega
          have hcl := dclone_any hS.disk (by have := hS.near.waits; omega)
          have HA := Lib.hid (And.intro hS hcl)
          clear hS hcl
          go_wp2_with fail
          refine HA.out.2.mono ?_
          rintro e w8 ⟨b2, σ, rfl, hc8, hf8, hb8⟩
          have hup := up_any (HA.out.1.disk.below hb8)
          have HB := Lib.hid (And.intro hc8 (And.intro hf8 (And.intro hb8 hup)))
          clear hc8 hf8 hb8 hup
          go_wp2_with fail
          refine HB.out.2.2.2.mono ?_
          rintro e w9 ⟨rfl, hd9, ht9⟩
          have hl9 : D.up.sure.length = 3 := HA.out.1.three
          have hex := lext_any hd9
          rw [hl9] at hex
          have HC := Lib.hid (And.intro hd9 (And.intro (ht9.mono (R' := RA) (fun r e => by unfold RA; omega)) hl9))
          have HX := Lib.hid hex
          clear hd9 ht9 hl9 hex
          go_wp2_with fail
          refine HX.out.mono ?_
          rintro e w10 ⟨aw, cw, rfl, how, hbw⟩
          have hC2 := Cl2.start HA.out.1 HB.out.1 HB.out.2.1 HB.out.2.2.1 HC.out.1 HA.out.1.near.up HC.out.2.2 HC.out.2.1 how hbw
          have H2 := Lib.hid hC2
          clear how hbw hC2 HA HB HC HX
          obtain ⟨DU, hDU⟩ : ∃ DU, DU = D.up := ⟨_, rfl⟩
          rw [← hDU] at H2
          clear hDU
          go_wp2_with fail
          go_loopw [10] (fun i wr => ∃ (j : Nat) (σ : Nat → Nat) (C : Disk), j ≤ M ∧ i = .int .i64 (j : Int) ∧ Cl2 w b b2 B6 ρ σ DU C D0 (refCells D0 (.slice sa D0.sure.length sc) (.slice wa D0.waits.length wc)) aw cw (extD DU) k (k + j) wr) (fun i _ => M - (intOf i).toNat)
          case atStart => exact ⟨0, σ, _, by omega, rfl, H2.out⟩
          case round =>
            clear H2
            obtain ⟨j, σ, C, hj, rfl, hS⟩ := hrel
            by_cases hlt : j < M
            · obtain ⟨x, hx⟩ : ∃ x, m[j]? = some x := ⟨_, List.getElem?_eq_getElem (by have := HM.out.2; omega)⟩
              have hxo := (HM.out.1 j x hx).1
              obtain ⟨g, off, rfl, hg, -⟩ := HM.out.1.cellsAt hx
              have hact : ∀ W, Below w.heap.size w W → W.cell? ⟨g, off + j * 7, none⟩ = some (.int .i64 x.kind) ∧ W.cell? ⟨g, off + j * 7 + 1, none⟩ = some (.int .i64 x.x) ∧ W.cell? ⟨g, off + j * 7 + 2, none⟩ = some (.int .i64 x.n) ∧ W.cell? ⟨g, off + j * 7 + 3, none⟩ = some (.string x.s) ∧
                  W.cell? ⟨g, off + j * 7 + 4, none⟩ = some (.int .i64 x.after) ∧ W.cell? ⟨g, off + j * 7 + 5, none⟩ = some (.int .i64 x.keep) ∧ W.cell? ⟨g, off + j * 7 + 6, none⟩ = some (.int .i64 x.torn) := fun W hW => by
                obtain ⟨g', off', e', -, q⟩ := (HM.out.1.below hW).cellsAt hx
                injection e' with e'
                injection e' with e1 e2 _
                subst e1 e2
                exact q
              have hdo := fun (W : World) (hW : Below wr.heap.size wr W) => ldo_any (V := fun g => ρ g = 0) x (hS.dc.below hW) (hS.ref.kept (keptS_below hW)).swap (fun g hg => hS.dd.raw.lab g (Nat.le_trans hW.size hg)) HS1.out.2.ok (hS.nc.small (by omega)) (HS1.out.2.small (by omega)) (by have := HS1.out.2.waits; omega)
              unfold refCells Deed.cells at hdo
              have HR := Lib.hid (And.intro hdo (And.intro hact (And.intro hS.old hS.row)))
              have HSx := Lib.hid (And.intro hS hxo)
              clear hdo hact hS hxo hx hg
              go_wp2_with fail
              have C : Below w.heap.size w wr.drew ∧ wr.drew.heap[B6]? = some (.cells (refCells D0 (.slice sa D0.sure.length sc) (.slice wa D0.waits.length wc)) 32 (0, 0)) := ⟨HR.out.2.2.1.drew, HR.out.2.2.2⟩
              have hwd : Below wr.heap.size wr wr.drew := (Below.refl _ _).drew
              refine wp_region_held (S := fun W => Below w.heap.size w W ∧ W.heap[B6]? = some (.cells (refCells D0 (.slice sa D0.sure.length sc) (.slice wa D0.waits.length wc)) 32 (0, 0))) (by kernel_rfl) ?_
              change wpAnyH _ _ _ _ _ _ _ _ (World.drew _)
              generalize World.drew _ = wh at *
              refine wpAnyH_take (i := 0) (v := ?_) rfl (by kernel_rfl) (by kernel_rfl) (by kernel_rfl) (fun _ _ _ h => h) (Or.inl ⟨by kernel_rfl, ?_⟩) C ?_
              rotate_left
              · (intro W hS; clear hS; go_simp; try (with_reducible rfl))
              refine wpAnyH_take (i := 1) (v := ?_) rfl (by kernel_rfl) (by kernel_rfl) (by kernel_rfl) (fun _ _ _ h => h) (Or.inl ⟨by kernel_rfl, ?_⟩) C ?_
              rotate_left
              · (intro W hS; obtain ⟨a0, a1, a2, a3, a4, a5, a6, a7, a8, a9⟩ := ref_cell hS.2; clear hS; go_simp; try (with_reducible rfl))
              refine wpAnyH_take (i := 2) (v := ?_) rfl (by kernel_rfl) (by kernel_rfl) (by kernel_rfl) (fun _ _ _ h => h) (Or.inl ⟨by kernel_rfl, ?_⟩) C ?_
              rotate_left
              · (intro W hS; clear hS; go_simp; try (with_reducible rfl))
              refine wpAnyH_take (i := 3) (v := ?_) rfl (by kernel_rfl) (by kernel_rfl) (by kernel_rfl) (fun _ _ _ h => h) (Or.inl ⟨by kernel_rfl, ?_⟩) C ?_
              rotate_left
              · (intro W hS; clear hS; go_simp; try (with_reducible rfl))
              refine wpAnyH_take (i := 4) (v := ?_) rfl (by kernel_rfl) (by kernel_rfl) (by kernel_rfl) (fun _ _ _ h => h) (Or.inl ⟨by kernel_rfl, ?_⟩) C ?_
              rotate_left
              · (intro W hS; clear hS; go_simp; try (with_reducible rfl))
              refine wpAnyH_take (i := 5) (v := ?_) rfl (by kernel_rfl) (by kernel_rfl) (by kernel_rfl) (fun _ _ _ h => h) (Or.inl ⟨by kernel_rfl, ?_⟩) C ?_
              rotate_left
              · (intro W hS; obtain ⟨c0, c1, c2, c3, c4, c5, c6⟩ := HR.out.2.1 W hS.1; clear hS; go_simp; try (with_reducible rfl))
              refine wpAnyH_ready (rs := [6]) (by kernel_rfl) (by simp) ?_
              refine AllReadyH.cons rfl (fun K hK => ?_) AllReadyH.nil
              go_simp
              refine (HR.out.1 wh hwd).mono ?_
              rintro e w7 ⟨cells7, t7, rfl, -, ρ7, hd7, -, ht7⟩
              have HN := Lib.hid ((HSx.out.1.below hwd).stepC x HSx.out.2 hd7 ht7)
              have C7 : Below w.heap.size w w7 ∧ w7.heap[B6]? = some (.cells (refCells D0 (.slice sa D0.sure.length sc) (.slice wa D0.waits.length wc)) 32 (0, 0)) := ⟨HN.out.old, HN.out.row⟩
              refine hK.out _ _ C7 (fun _ => ?_)
              clear hK K
              refine wpAnyH_done (by kernel_rfl) ?_ _
              clear hd7 ht7 C7 C hwd
              go_wp2_with fail
              go_roundw
              case rel => exact ⟨j + 1, _, _, by omega, by go_num, HN.out⟩
              case measure => simp [intOf]; omega
            · obtain rfl : j = M := by omega
              have hex := lext_any hS.dd
              rw [hS.t1] at hex
              have HE := Lib.hid (And.intro hS hex)
              clear hS hex
              go_wp2_with fail
              refine HE.out.2.mono ?_
              rintro e w11 ⟨a2, c2, rfl, ho2, hb2⟩
              have hS11 := HE.out.1.below hb2
              have hel : (extD DU).length = 3 := (extD_length DU).trans hS11.t1
              have hsm := lsame_any (hS11.own.texts (S := fun _ => True) (fun _ _ => trivial)) (ho2.texts (S := fun _ => True) (fun _ _ => trivial)) (by omega)
              rw [hel] at hsm
              have HG := Lib.hid (And.intro hS11 hsm)
              clear ho2 hb2 hS11 hel hsm HE
              go_wp2_with fail
              refine HG.out.2.mono ?_
              rintro e w12 ⟨rfl, hb12⟩
              have hS12 := HG.out.1.below hb12
              have hcl := dclone_any hS12.dd (by have := hS12.nd.waits; omega)
              have HI := Lib.hid (And.intro hS12 hcl)
              clear hS12 hcl hb12 HG
              go_wp2_with fail
              refine HI.out.2.mono ?_
              rintro e w13 ⟨b3, σ3, rfl, hc3, hf3, hb3⟩
              have HJ := Lib.hid (HI.out.1.again hc3 hf3 hb3)
              clear hc3 hf3 hb3 HI
              go_wp2_with fail
              go_loopw [12] (fun i wr => ∃ (q : Nat) (ρ σ : Nat → Nat) (E : Disk), q ≤ j ∧ i = .int .i64 (q : Int) ∧ Cl2 w b b3 B6 ρ σ E E D0 (refCells D0 (.slice sa D0.sure.length sc) (.slice wa D0.waits.length wc)) aw cw (extD DU) (k + q) (k + q) wr) (fun i _ => j - (intOf i).toNat)
              case atStart => exact ⟨0, ρ, σ3, _, by omega, rfl, HJ.out⟩
              case round =>
                clear HJ
                obtain ⟨q, ρ, σ, E, hq, rfl, hS⟩ := hrel
                by_cases hlt : q < j
                · obtain ⟨x, hx⟩ : ∃ x, m[q]? = some x := ⟨_, List.getElem?_eq_getElem (by have := HM.out.2; omega)⟩
                  have hxo := (HM.out.1 q x hx).1
                  obtain ⟨g, off, rfl, hg, -⟩ := HM.out.1.cellsAt hx
                  have hact : ∀ W, Below w.heap.size w W → W.cell? ⟨g, off + q * 7, none⟩ = some (.int .i64 x.kind) ∧ W.cell? ⟨g, off + q * 7 + 1, none⟩ = some (.int .i64 x.x) ∧ W.cell? ⟨g, off + q * 7 + 2, none⟩ = some (.int .i64 x.n) ∧ W.cell? ⟨g, off + q * 7 + 3, none⟩ = some (.string x.s) ∧
                      W.cell? ⟨g, off + q * 7 + 4, none⟩ = some (.int .i64 x.after) ∧ W.cell? ⟨g, off + q * 7 + 5, none⟩ = some (.int .i64 x.keep) ∧ W.cell? ⟨g, off + q * 7 + 6, none⟩ = some (.int .i64 x.torn) := fun W hW => by
                    obtain ⟨g', off', e', -, q9⟩ := (HM.out.1.below hW).cellsAt hx
                    injection e' with e'
                    injection e' with e1 e2 _
                    subst e1 e2
                    exact q9
                  have hdo := fun (W : World) (hW : Below wr.heap.size wr W) => ldo_any (V := fun g => σ g = 0) x (hS.dd.below hW) (hS.ref.kept (keptS_below hW)) (fun g hg => hS.dc.raw.lab g (Nat.le_trans hW.size hg)) HS1.out.2.ok (hS.nd.small (by omega)) (HS1.out.2.small (by omega)) (by have := HS1.out.2.waits; omega)
                  unfold refCells Deed.cells at hdo
                  have HR := Lib.hid (And.intro hdo (And.intro hact (And.intro hS.old hS.row)))
                  have HSx := Lib.hid (And.intro hS (And.intro hxo hact))
                  clear hdo hact hS hxo hx hg
                  go_wp2_with fail
                  have C : Below w.heap.size w wr.drew ∧ wr.drew.heap[B6]? = some (.cells (refCells D0 (.slice sa D0.sure.length sc) (.slice wa D0.waits.length wc)) 32 (0, 0)) := ⟨HR.out.2.2.1.drew, HR.out.2.2.2⟩
                  have hwd : Below wr.heap.size wr wr.drew := (Below.refl _ _).drew
                  refine wp_region_held (S := fun W => Below w.heap.size w W ∧ W.heap[B6]? = some (.cells (refCells D0 (.slice sa D0.sure.length sc) (.slice wa D0.waits.length wc)) 32 (0, 0))) (by kernel_rfl) ?_
                  change wpAnyH _ _ _ _ _ _ _ _ (World.drew _)
                  generalize World.drew _ = wh at *
                  refine wpAnyH_take (i := 0) (v := ?_) rfl (by kernel_rfl) (by kernel_rfl) (by kernel_rfl) (fun _ _ _ h => h) (Or.inl ⟨by kernel_rfl, ?_⟩) C ?_
                  rotate_left
                  · (intro W hS; clear hS; go_simp; try (with_reducible rfl))
                  refine wpAnyH_take (i := 1) (v := ?_) rfl (by kernel_rfl) (by kernel_rfl) (by kernel_rfl) (fun _ _ _ h => h) (Or.inl ⟨by kernel_rfl, ?_⟩) C ?_
                  rotate_left
                  · (intro W hS; obtain ⟨a0, a1, a2, a3, a4, a5, a6, a7, a8, a9⟩ := ref_cell hS.2; clear hS; go_simp; try (with_reducible rfl))
                  refine wpAnyH_take (i := 2) (v := ?_) rfl (by kernel_rfl) (by kernel_rfl) (by kernel_rfl) (fun _ _ _ h => h) (Or.inl ⟨by kernel_rfl, ?_⟩) C ?_
                  rotate_left
                  · (intro W hS; clear hS; go_simp; try (with_reducible rfl))
                  refine wpAnyH_take (i := 3) (v := ?_) rfl (by kernel_rfl) (by kernel_rfl) (by kernel_rfl) (fun _ _ _ h => h) (Or.inl ⟨by kernel_rfl, ?_⟩) C ?_
                  rotate_left
                  · (intro W hS; clear hS; go_simp; try (with_reducible rfl))
                  refine wpAnyH_take (i := 4) (v := ?_) rfl (by kernel_rfl) (by kernel_rfl) (by kernel_rfl) (fun _ _ _ h => h) (Or.inl ⟨by kernel_rfl, ?_⟩) C ?_
                  rotate_left
                  · (intro W hS; clear hS; go_simp; try (with_reducible rfl))
                  refine wpAnyH_take (i := 5) (v := ?_) rfl (by kernel_rfl) (by kernel_rfl) (by kernel_rfl) (fun _ _ _ h => h) (Or.inl ⟨by kernel_rfl, ?_⟩) C ?_
                  rotate_left
                  · (intro W hS; obtain ⟨c0, c1, c2, c3, c4, c5, c6⟩ := HR.out.2.1 W hS.1; clear hS; go_simp; try (with_reducible rfl))
                  refine wpAnyH_ready (rs := [6]) (by kernel_rfl) (by simp) ?_
                  refine AllReadyH.cons rfl (fun K hK => ?_) AllReadyH.nil
                  go_simp
                  refine (HR.out.1 wh hwd).mono ?_
                  rintro e w7 ⟨cells7, t7, rfl, -, ρ7, hd7, -, ht7⟩
                  have HN := Lib.hid ((HSx.out.1.below hwd).stepD x HSx.out.2.1 hd7 ht7)
                  have C7 : Below w.heap.size w w7 ∧ w7.heap[B6]? = some (.cells (refCells D0 (.slice sa D0.sure.length sc) (.slice wa D0.waits.length wc)) 32 (0, 0)) := ⟨HN.out.old, HN.out.row⟩
                  refine hK.out _ _ C7 (fun _ => ?_)
                  clear hK K
                  refine wpAnyH_done (by kernel_rfl) ?_ _
                  clear hd7 ht7 C7 C hwd
                  go_wp2_with fail
                  have hdo := fun (W : World) (hW : Below w7.heap.size w7 W) => ldo_any (V := fun g => ρ7 g = 0) x (HN.out.dc.below hW) (HN.out.ref.kept (keptS_below hW)).swap (fun g hg => HN.out.dd.raw.lab g (Nat.le_trans hW.size hg)) HS1.out.2.ok (HN.out.nc.small (by omega)) (HS1.out.2.small (by omega)) (by have := HS1.out.2.waits; omega)
                  unfold refCells Deed.cells at hdo
                  have HR8 := Lib.hid (And.intro hdo (And.intro HSx.out.2.2 (And.intro HN.out.old HN.out.row)))
                  clear hdo
                  have C : Below w.heap.size w w7.drew ∧ w7.drew.heap[B6]? = some (.cells (refCells D0 (.slice sa D0.sure.length sc) (.slice wa D0.waits.length wc)) 32 (0, 0)) := ⟨HR8.out.2.2.1.drew, HR8.out.2.2.2⟩
                  have hwd8 : Below w7.heap.size w7 w7.drew := (Below.refl _ _).drew
                  refine wp_region_held (S := fun W => Below w.heap.size w W ∧ W.heap[B6]? = some (.cells (refCells D0 (.slice sa D0.sure.length sc) (.slice wa D0.waits.length wc)) 32 (0, 0))) (by kernel_rfl) ?_
                  change wpAnyH _ _ _ _ _ _ _ _ (World.drew _)
                  generalize World.drew _ = wh8 at *
                  refine wpAnyH_take (i := 0) (v := ?_) rfl (by kernel_rfl) (by kernel_rfl) (by kernel_rfl) (fun _ _ _ h => h) (Or.inl ⟨by kernel_rfl, ?_⟩) C ?_
                  rotate_left
                  · (intro W hS; clear hS; go_simp; try (with_reducible rfl))
                  refine wpAnyH_take (i := 1) (v := ?_) rfl (by kernel_rfl) (by kernel_rfl) (by kernel_rfl) (fun _ _ _ h => h) (Or.inl ⟨by kernel_rfl, ?_⟩) C ?_
                  rotate_left
                  · (intro W hS; obtain ⟨a0, a1, a2, a3, a4, a5, a6, a7, a8, a9⟩ := ref_cell hS.2; clear hS; go_simp; try (with_reducible rfl))
                  refine wpAnyH_take (i := 2) (v := ?_) rfl (by kernel_rfl) (by kernel_rfl) (by kernel_rfl) (fun _ _ _ h => h) (Or.inl ⟨by kernel_rfl, ?_⟩) C ?_
                  rotate_left
                  · (intro W hS; clear hS; go_simp; try (with_reducible rfl))
                  refine wpAnyH_take (i := 3) (v := ?_) rfl (by kernel_rfl) (by kernel_rfl) (by kernel_rfl) (fun _ _ _ h => h) (Or.inl ⟨by kernel_rfl, ?_⟩) C ?_
                  rotate_left
                  · (intro W hS; clear hS; go_simp; try (with_reducible rfl))
                  refine wpAnyH_take (i := 4) (v := ?_) rfl (by kernel_rfl) (by kernel_rfl) (by kernel_rfl) (fun _ _ _ h => h) (Or.inl ⟨by kernel_rfl, ?_⟩) C ?_
                  rotate_left
                  · (intro W hS; clear hS; go_simp; try (with_reducible rfl))
                  refine wpAnyH_take (i := 5) (v := ?_) rfl (by kernel_rfl) (by kernel_rfl) (by kernel_rfl) (fun _ _ _ h => h) (Or.inl ⟨by kernel_rfl, ?_⟩) C ?_
                  rotate_left
                  · (intro W hS; obtain ⟨c0, c1, c2, c3, c4, c5, c6⟩ := HR8.out.2.1 W hS.1; clear hS; go_simp; try (with_reducible rfl))
                  refine wpAnyH_ready (rs := [6]) (by kernel_rfl) (by simp) ?_
                  refine AllReadyH.cons rfl (fun K hK => ?_) AllReadyH.nil
                  go_simp
                  refine (HR8.out.1 wh8 hwd8).mono ?_
                  rintro e w8 ⟨cells7, t7, rfl, -, ρ7, hd7, -, ht7⟩
                  have HN8 := Lib.hid ((HN.out.below hwd8).stepC x HSx.out.2.1 hd7 ht7)
                  have C7 : Below w.heap.size w w8 ∧ w8.heap[B6]? = some (.cells (refCells D0 (.slice sa D0.sure.length sc) (.slice wa D0.waits.length wc)) 32 (0, 0)) := ⟨HN8.out.old, HN8.out.row⟩
                  refine hK.out _ _ C7 (fun _ => ?_)
                  clear hK K
                  refine wpAnyH_done (by kernel_rfl) ?_ _
                  clear hd7 ht7 C7 C hwd8
                  go_wp2_with fail
                  go_roundw
                  case rel => exact ⟨q + 1, _, _, _, by omega, by go_num, HN8.out⟩
                  case measure => simp [intOf]; omega
                · obtain rfl : q = j := by omega
                  have hd1 := down_any hS.dd
                  have hd2 := down_any hS.dc
                  have hw1 := waits_any hS.dd
                  have hw2 := waits_any hS.dc
                  have hx1 := lext_any hS.dd
                  rw [hS.t1] at hx1
                  obtain ⟨dn, hdn⟩ : ∃ dn, dn = E.down := ⟨_, rfl⟩
                  rw [← hdn] at hd1 hd2
                  have HK := Lib.hid (And.intro hS (And.intro hd1 (And.intro hd2 (And.intro hw1 (And.intro hw2 hx1)))))
                  clear hS hd1 hd2 hw1 hw2 hx1 hdn
                  cases dn with
                  | true =>
                    go_wp2_with fail
                    refine HK.out.2.1.mono ?_
                    rintro e we ⟨rfl, rfl⟩
                    go_wp2_with fail
                    refine HK.out.2.2.1.mono ?_
                    rintro e we ⟨rfl, rfl⟩
                    go_wp2_with fail
                    refine HK.out.2.2.2.1.mono ?_
                    rintro e we ⟨rfl, rfl⟩
                    go_wp2_with fail
                    refine HK.out.2.2.2.2.1.mono ?_
                    rintro e we ⟨rfl, rfl⟩
                    go_wp2_with fail
                    refine HK.out.2.2.2.2.2.mono ?_
                    rintro e w20 ⟨a2, c2, rfl, ho2, hb2⟩
                    have hS20 := HK.out.1.below hb2
                    have hx2 := lext_any hS20.dc
                    rw [hS20.t2] at hx2
                    have HP := Lib.hid (And.intro hS20 (And.intro ho2 hx2))
                    clear hS20 ho2 hx2 hb2
                    go_wp2_with fail
                    refine HP.out.2.2.mono ?_
                    rintro e w21 ⟨a3, c3, rfl, ho3, hb3⟩
                    have hel : (extD E).length = 3 := (extD_length E).trans HP.out.1.t1
                    have hsm := lsame_any ((HP.out.2.1.below hb3).texts (S := fun _ => True) (fun _ _ => trivial)) (ho3.texts (S := fun _ => True) (fun _ _ => trivial)) (by omega)
                    rw [hel] at hsm
                    have HQ := Lib.hid (And.intro (HP.out.1.below hb3).old hsm)
                    clear ho3 hb3 hel hsm
                    go_wp2_with fail
                    refine HQ.out.2.mono ?_
                    rintro e w22 ⟨rfl, hb22⟩
                    have HW := Lib.hid (HQ.out.1.trans (hb22.mono HQ.out.1.size))
                    clear hb22
                    go_wp2_with fail
                    go_ret
                    exact ⟨rfl, HW.out⟩
                  | false =>
                    go_wp2_with fail
                    refine HK.out.2.1.mono ?_
                    rintro e we ⟨rfl, rfl⟩
                    go_wp2_with fail
                    refine HK.out.2.2.1.mono ?_
                    rintro e we ⟨rfl, rfl⟩
                    go_wp2_with fail
                    refine HK.out.2.2.2.1.mono ?_
                    rintro e we ⟨rfl, rfl⟩
                    go_wp2_with fail
                    refine HK.out.2.2.2.2.1.mono ?_
                    rintro e we ⟨rfl, rfl⟩
                    go_wp2_with fail
                    refine HK.out.2.2.2.2.2.mono ?_
                    rintro e w20 ⟨a2, c2, rfl, ho2, hb2⟩
                    have hS20 := HK.out.1.below hb2
                    have hx2 := lext_any hS20.dc
                    rw [hS20.t2] at hx2
                    have HP := Lib.hid (And.intro hS20 (And.intro ho2 hx2))
                    clear hS20 ho2 hx2 hb2
                    go_wp2_with fail
                    refine HP.out.2.2.mono ?_
                    rintro e w21 ⟨a3, c3, rfl, ho3, hb3⟩
                    have hel : (extD E).length = 3 := (extD_length E).trans HP.out.1.t1
                    have hsm := lsame_any ((HP.out.2.1.below hb3).texts (S := fun _ => True) (fun _ _ => trivial)) (ho3.texts (S := fun _ => True) (fun _ _ => trivial)) (by omega)
                    rw [hel] at hsm
                    have HQ := Lib.hid (And.intro (HP.out.1.below hb3).old hsm)
                    clear ho3 hb3 hel hsm
                    go_wp2_with fail
                    refine HQ.out.2.mono ?_
                    rintro e w22 ⟨rfl, hb22⟩
                    have HW := Lib.hid (HQ.out.1.trans (hb22.mono HQ.out.1.size))
                    clear hb22
                    go_wp2_with fail
                    go_ret
                    exact ⟨rfl, HW.out⟩
end Go.Proofs.Ytefpfedpgedloaa

namespace Go.Proofs.Ytefpfedpgedloaa.diskClonesLaw
open Go.ChangeShapes Go.WideShapes Go.ChangeAt Go.RowKit
open Go.ChangeMaps (open_string shut_string)

theorem own : ownKnob Try.prog.godebug = none := by kernel_rfl
set_option maxRecDepth 100000 in
theorem lifted (os : Os) (started : os.Started) (H : Type) (enc : TypeId × Value → H) :
    ReturnsInHanded {} Try.checked os 7 .any (Rows.diskClonesSpec.pre6 enc Try.prog Try.f7 Rows.diskClonesRow.domain false) (Rows.diskClonesSpec.post enc Try.prog Try.f7 false true false false) := by
  refine returnsInHanded_of_change (C := Try.checked) own started (by kernel_rfl) Try.func7
    (ChangeSpec.witness6 (enc := enc) (C := Try.checked) false ⟨#[], #[.slice none 0 0, .slice none 0 0], []⟩ 8 (by kernel_rfl) (by kernel_rfl) (by kernel_rfl) (by kernel_rfl)) ?_
  intro W base args ds gs before hval0 hW hcnd _
  have hval : ∀ (j : Nat) t v, Try.f7.params[j]? = some t → args[j]? = some v → Value.okWide Try.prog W .any base t v := hval0
  have hW' := hW
  obtain ⟨p, q, hA0, hV, rfl, hfz, hnd⟩ := hW
  have hA : DataW.TrodAll enc Try.prog W 0 (fun _ => true) true Try.f7.params.toList args.toList ds p := hA0
  rw [Try.params7] at hA hval
  obtain ⟨v0, vs0, d0, ds0, p0, q0, hargs, rfl, rfl, h0, r0⟩ := trodAll_cons hA
  obtain ⟨v1, vs1, d1, ds1, p1, q1, rfl, rfl, rfl, h1, r1⟩ := trodAll_cons r0
  obtain ⟨rfl, rfl, rfl⟩ := trodAll_nil r1
  obtain rfl : args = #[v0, v1] := by cases args; simp_all
  obtain ⟨rfl, rfl⟩ := trodVars_none hV
  obtain ⟨a0, len0, cap0, rfl⟩ := okWide_slice Try.underlying22 (hval 0 22 v0 rfl rfl)
  have hk0 := h0
  obtain ⟨fuel0, hf0⟩ := h0
  obtain ⟨a1, len1, cap1, rfl⟩ := okWide_slice Try.underlying22 (hval 1 22 v1 rfl rfl)
  have hk1 := h1
  obtain ⟨fuel1, hf1⟩ := h1
  clear hA0 hval0
  simp only [List.append_nil] at hW'
  have hlt0 : ∀ x ∈ p0, x.block < W.heap.size := fun x hx => by simpa using hW'.lt x (by simp [hx])
  obtain ⟨ss0, hlen0, hmax0, hT0⟩ := acts_of hf0 hlt0
  subst hlen0
  have hlt1 : ∀ x ∈ p1, x.block < W.heap.size := fun x hx => by simpa using hW'.lt x (by simp [hx])
  obtain ⟨ss1, hlen1, hmax1, hT1⟩ := acts_of hf1 hlt1
  subst hlen1
  refine (clones_law ss0 a0 cap0 hT0 hmax0 ss1 a1 cap1 hT1 hmax1 (w := W)).mono fun e W' ⟨he, hb⟩ => ?_
  subst he
  exact ⟨_, rfl, _, _, _, [], _, [], hW', trodAll_cons_mk (shut_bool Try.underlying4 _) trodAll_mk0, (trodAll_cons_mk (Below.trod laidOut (by kernel_rfl) (of_decide_eq_true (by kernel_rfl)) hk0 hb hlt0) (trodAll_cons_mk (Below.trod laidOut (by kernel_rfl) (of_decide_eq_true (by kernel_rfl)) hk1 hb hlt1) trodAll_mk0)), rfl, hb.frame _, fun h => by cases h⟩
theorem over : Rows.diskClonesRow.holds Try.pinned (OpenSpec.ofChange Rows.diskClonesSpec) :=
  OpenClaim.holds_of_wide 7 Try.f7 rfl rfl rfl rfl rfl rfl rfl ⟨rfl, rfl, rfl, rfl, rfl⟩ rfl rfl rfl rfl rfl (by kernel_rfl) Try.func7 (by kernel_rfl)
    (of_decide_eq_true (by kernel_rfl)) (by unfold Func.isWrapper; first | (rw [if_pos (by decide +kernel)]; kernel_rfl) | (rw [if_neg (by decide +kernel)]; exact ⟨rfl, rfl⟩))
    (fun os started H enc _ => lifted os started H enc)
end Go.Proofs.Ytefpfedpgedloaa.diskClonesLaw

namespace Go.Proofs.Ytefpfedpgedloaa
theorem diskClones_said : Rows.DiskClonesSaid := diskClonesLaw.over
end Go.Proofs.Ytefpfedpgedloaa
