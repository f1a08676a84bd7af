/- PROVED HERE: for every list of leaves the law TreePeaks returns true (leaf by leaf the root is that of all there are; what was there ahead stays as it is). Its conditions: the package-level tables hold what their initialisers lay (tied to the program's text by the card). -/
import Derived.Test.YtdjhlgodecnidaaDoorTrPkL
import Derived.Test.YtdjhlgodecnidaaDoorLaid
namespace Go.Proofs.YtdjhlgodecnidaaDoor
open Go.RowKit
open Tr

set_option maxRecDepth 100000 in
set_option maxHeartbeats 8000000 in
theorem peaks_law {w : World} (ss : List ByteArray) (a0 : Option Addr) (cap : Nat) (hT : TextsAt w a0 ss) (hm : ss.length ≤ maxLen) (hG : Glob w) :
    Calls Tryd.prog 4 #[.slice a0 ss.length cap] w fun e w' => e = .returned (.bool true) ∧ Below w.heap.size w w' := by
  have HG := Lib.hid hG
  clear hG
  by_cases hf : FewOf ss 40 100
  · have cd := digests_any ss a0 cap w hT hm hf
    have hl : (ss.map leaf).length = ss.length := List.length_map ..
    have hD := digs_leaves ss
    have h40 : ss.length ≤ 40 := by have := hf.1; omega
    obtain ⟨D, hDD⟩ : ∃ D, D = ss.map leaf := ⟨_, rfl⟩
    rw [← hDD] at cd hl hD
    obtain ⟨n, hn⟩ : ∃ n, n = ss.length := ⟨_, rfl⟩
    rw [← hn] at cd hl h40 ⊢
    have H := Lib.hid (And.intro cd (And.intro hl hD))
    clear cd hl hD hDD hn hf hT hm
    go_enter Tryd.func4, Tryd.ntmps4
    go_wp2_with fail
    refine H.out.1.mono ?_
    rintro e w0 ⟨a, c, rfl, hO, hb0⟩
    have HA := Lib.hid (And.intro hO.texts (And.intro (show n ≤ c ∧ c ≤ maxLen from by have h := hO.capy; rw [H.out.2.1] at h; exact h) hb0))
    clear hO hb0
    go_upto_region 6 with fail
    obtain ⟨w1, hw1⟩ : ∃ w1, w1 = w0.alloc (.cells #[.int .i64 0, .slice none 0 0] 32) := ⟨_, rfl⟩
    have hb1 : Below w0.heap.size w0 w1 := by rw [hw1]; exact (Below.refl _ _).alloc (Nat.le_refl _) _
    have hg1 : w1.heap[w0.heap.size]? = some (.cells #[.int .i64 0, .slice none 0 0] 32 (0, 0)) := by rw [hw1]; exact heap_alloc_new _ _
    rw [← hw1]
    clear hw1
    obtain ⟨q0, q1, qf⟩ := row2 hg1
    have HB := Lib.hid (And.intro hb1 (And.intro hg1 (lt_obj' hg1)))
    clear hb1 hg1
    go_wp2_with (at_builtin; (refine wpList_append_pk (w0 := w0) (B := w0.heap.size + 1) rfl (.tmp 17) (.tmp 19) rfl (OwnP.nil _ _) 0 rfl rfl w1.heap.size 1 ⟨0, none, 0, 0⟩ rfl (heap_alloc_new w1 _) (by decide) (by have := HB.out.2.2; simp; omega) (B0 := w0.heap.size) (by omega) (HB.out.1.alloc HB.out.1.size _) ?_; intro al cp w2 ho hb hgr hli; have HC := Lib.hid (And.intro ho (And.intro hb (And.intro hgr hli))); clear ho hb hgr hli))
    have hS0 : PkS D w0 w0.heap.size 0 al cp ([] ++ [⟨0, none, 0, 0⟩]) w2 := by
      refine ⟨HC.out.2.1, HC.out.1, rfl, fun j x hx => ?_, ⟨⟨0, none, 0, 0⟩, rfl, ?_⟩⟩
      · obtain rfl : j = 0 := by
          have := (List.getElem?_eq_some_iff.1 hx).1
          simp at this; exact this
        simp at hx
        subst hx
        exact ⟨rfl, rfl, fun i hi => by simp [peaks_nil] at hi, ⟨Nat.le_refl _, Nat.zero_le _⟩, fun b off e => by cases e⟩
      · have hb2 : Below w1.heap.size w1 (w1.alloc (.cells (⟨0, none, 0, 0⟩ : Pr).cs 32)) := (Below.refl _ _).alloc (Nat.le_refl _) _
        exact (HC.out.2.2.1.block _ (by have := HB.out.2.2; simp; omega) (fun e => by cases e)).trans ((hb2.block _ HB.out.2.2).trans HB.out.2.1)
    have HS0 := Lib.hid hS0
    clear hS0 q0 q1 qf
    go_loopw [5, 7] (fun va vi wr => ∃ (i : Nat) (al : Option Addr) (cp : Nat) (rows : List Pr), i ≤ n ∧ va = .slice al rows.length cp ∧ vi = .int .i64 i ∧ PkS D w0 w0.heap.size i al cp rows wr) (fun _ vi _ => n - (intOf vi).toNat)
    case atStart => exact ⟨0, al, cp, _, Nat.zero_le _, rfl, rfl, HS0.out⟩
    case round =>
      obtain ⟨i, al, cp, rows, hi, rfl, rfl, hS⟩ := hrel
      have hrl := hS.len
      by_cases hlt : i < n
      · obtain ⟨x, hx, hbx⟩ := hS.box
        have hR := hS.all i x hx
        obtain ⟨xk, xa, xn, xc⟩ := x
        have hxk : xk = i := hR.k
        subst hxk
        have hxn : xn = (peaks (D.take xk)).length := hR.n
        obtain ⟨db, dof, hab, hdb, hdc⟩ := HA.out.1 xk (by rw [H.out.2.1]; exact hlt)
        cases hab
        have hdc' : wr.cell? ⟨db, dof + xk, none⟩ = some (.string (D.getD xk ByteArray.empty)) := (hS.low.cell (p := ⟨db, dof + xk, none⟩) hdb).trans hdc
        have hdl : db < wr.heap.size := Nat.lt_of_lt_of_le hdb hS.low.size
        obtain ⟨d, hd⟩ : ∃ d, d = D.getD xk ByteArray.empty := ⟨_, rfl⟩
        have hd32 : d.size = 32 := by rw [hd]; exact H.out.2.2.getD (by rw [H.out.2.1]; exact hlt)
        have htk : D.take xk ++ [d] = D.take (xk + 1) := by rw [hd, take_succ_getD (by rw [H.out.2.1]; exact hlt)]
        rw [← hd] at hdc'
        have hlk : (D.take xk).length = xk := by rw [List.length_take, H.out.2.1]; omega
        have cw := fun W (h : Below w0.heap.size w0 W) hTW => pkWith_any (D.take xk) (by omega) (fun y hy => H.out.2.2 y (List.mem_of_mem_take hy)) d hd32 xa xc (by rw [← hxn]; exact hR.cap.1) W (HG.out.below (HA.out.2.2.trans (h.mono HA.out.2.2.size))) hTW
        rw [htk, hlk, ← hxn] at cw
        obtain ⟨m2, hm2⟩ : ∃ m, m = (peaks (D.take (xk + 1))).length := ⟨_, rfl⟩
        rw [← hm2] at cw
        obtain ⟨k1, hk1⟩ : ∃ k, k = xk + 1 := ⟨_, rfl⟩
        rw [← hk1] at cw
        obtain ⟨k, hkk⟩ : ∃ k, k = xk := ⟨_, rfl⟩
        rw [← hkk] at cw hdc' hbx hR hlt hi hx hxn ⊢
        have hbx2 : wr.heap[w0.heap.size]? = some (.cells #[.int .i64 k, .slice xa xn xc] 32 (0, 0)) := hbx
        have HP := Lib.hid (And.intro hbx2 hS.low)
        have HR := Lib.hid hR
        have HW := Lib.hid cw
        obtain ⟨rl, hrl2⟩ : ∃ r, r = rows.length := ⟨_, rfl⟩
        have HS := Lib.hid (And.intro hS (And.intro hrl (And.intro hrl2 (And.intro hx (And.intro hxn (And.intro hm2 (And.intro hk1 hkk)))))))
        rw [← hrl2]
        clear hS hrl hrl2 hx hxn hm2 hk1 hkk hbx hbx2 hR cw hd hd32 htk hlk hdc
        go_upto_region 10 with fail
        go_wp2_with fail
        refine wp_region_held (S := fun W : World => W.cell? ⟨db, dof + k, none⟩ = some (.string d) ∧ db < W.heap.size) (by kernel_rfl) ?_
        change wpAnyH _ _ _ _ _ _ _ _ (World.drew _)
        generalize hv0 : World.drew _ = v0
        have E0 : v0.cell? ⟨db, dof + k, none⟩ = some (.string d) ∧ db < v0.heap.size := by rw [← hv0]; exact ⟨hdc', hdl⟩
        have F0 : Below w0.heap.size w0 v0 := by rw [← hv0]; exact HP.out.2.drew
        have X0 : v0.heap[w0.heap.size]? = some (.cells #[.int .i64 k, .slice xa xn xc] 32 (0, 0)) := by rw [← hv0]; exact HP.out.1
        have T0 : TextsAt v0 xa (peaks (D.take k)) := by rw [← hv0]; exact HR.out.tx
        have D0 : Below wr.heap.size wr v0 := by rw [← hv0]; exact (Below.refl _ _).drew
        clear hv0
        refine wpAnyH_take (i := 1) (v := ?_) rfl (by kernel_rfl) (by kernel_rfl) (by kernel_rfl) (fun _ _ _ h => h) (Or.inl ⟨by kernel_rfl, ?_⟩) E0 ?_
        rotate_left
        · (intro W hS; obtain ⟨q2, q3⟩ := hS; go_simp; try (with_reducible rfl))
        refine wpAnyH_take (i := 2) (v := ?_) rfl (by kernel_rfl) (by kernel_rfl) (by kernel_rfl) (fun _ _ _ h => h) (Or.inl ⟨by kernel_rfl, ?_⟩) E0 ?_
        rotate_left
        · (intro W hS; obtain ⟨q2, q3⟩ := hS; go_simp; try (with_reducible rfl))
        refine wpAnyH_take (i := 3) (v := ?_) rfl (by kernel_rfl) (by kernel_rfl) (by kernel_rfl) (fun _ _ _ h => h) (Or.inl ⟨by kernel_rfl, ?_⟩) E0 ?_
        rotate_left
        · (intro W hS; obtain ⟨q2, q3⟩ := hS; go_simp; try (with_reducible rfl))
        refine wpAnyH_take (i := 4) (v := ?_) rfl (by kernel_rfl) (by kernel_rfl) (by kernel_rfl) (fun _ _ _ h => h) (Or.inl ⟨by kernel_rfl, ?_⟩) E0 ?_
        rotate_left
        · (intro W hS; obtain ⟨q2, q3⟩ := hS; go_simp; try (with_reducible rfl))
        obtain ⟨p0, p1, pf⟩ := row2 X0
        refine wpAnyH_ready (rs := [0]) (by kernel_rfl) (by simp) ?_
        refine AllReadyH.cons rfl (fun K hK => ?_) AllReadyH.nil
        go_simp
        refine hK.out _ _ E0 (fun _ => ?_)
        clear hK K p0 p1 pf
        refine wpAnyH_ready (rs := [5]) (by kernel_rfl) (by simp) ?_
        refine AllReadyH.cons rfl (fun K hK => ?_) AllReadyH.nil
        go_simp
        refine (HW.out v0 F0 T0).mono ?_
        rintro e v1 ⟨g2, c2, rfl, hT2, hc2, hb, hg1, hg2⟩
        have F1 := F0.trans (hb.mono F0.size)
        have E1 : v1.cell? ⟨db, dof + k, none⟩ = some (.string d) ∧ db < v1.heap.size := ⟨(hb.cell E0.2).trans E0.1, Nat.lt_of_lt_of_le E0.2 hb.size⟩
        have X1 := (hb.block _ (lt_obj' X0)).trans X0
        refine hK.out _ _ E1 (fun _ => ?_)
        clear hK K
        obtain ⟨p0, p1, pf⟩ := row2 X1
        refine wpAnyH_ready (rs := [6]) (by kernel_rfl) (by simp) ?_
        refine AllReadyH.cons rfl (fun K hK => ?_) AllReadyH.nil
        go_simp
        obtain ⟨v2, hv2⟩ : ∃ v, v = (v1.setCell ⟨w0.heap.size, 0, none⟩ (.int .i64 k1)).setCell ⟨w0.heap.size, 1, none⟩ (.slice (some ⟨g2, 0, none⟩) m2 c2) := ⟨_, rfl⟩
        have F2 : Below w0.heap.size w0 v2 := by rw [hv2]; exact (F1.setCell (Nat.le_refl _) _).setCell (Nat.le_refl _) _
        have hz2 : v2.heap.size = v1.heap.size := by rw [hv2]; simp [World.setCell]
        have E2 : v2.cell? ⟨db, dof + k, none⟩ = some (.string d) ∧ db < v2.heap.size := ⟨(World.cell?_of_block (a := ⟨db, dof + k, none⟩) (w := v1) (w' := v2) (by rw [hv2, Below.heap_setCell _ _ _ _ (by show db ≠ w0.heap.size; omega), Below.heap_setCell _ _ _ _ (by show db ≠ w0.heap.size; omega)])).trans E1.1, by rw [hz2]; exact E1.2⟩
        have X2 : v2.heap[w0.heap.size]? = some (.cells #[.int .i64 k1, .slice (some ⟨g2, 0, none⟩) m2 c2] 32 (0, 0)) := by rw [hv2]; exact heap_setCell_same _ _ _ _ _ _ (heap_setCell_same _ _ _ _ _ _ X1)
        rw [← hv2]
        have HV2 := Lib.hid hv2
        clear hv2
        refine hK.out _ _ E2 (fun _ => ?_)
        clear hK K p0 p1 pf
        refine wpAnyH_done (by kernel_rfl) ?_ _
        go_simp
        have BW := D0.trans (hb.mono D0.size)
        have hown2 : OwnP (w0.heap.size + 1) v2 al cp rows := by rw [HV2.out]; exact ((HS.out.1.own.call BW).set (by omega) _ _).set (by omega) _ _
        have hall2 : ∀ j x, rows[j]? = some x → PkR D (w0.heap.size + 1) v2 (Value.slice al rows.length cp).ownBlock j x := fun j x hx => by rw [HV2.out]; exact (((HS.out.1.all j x hx).call BW).set (by omega) _ _).set (by omega) _ _
        have hnew2 : PkR D (w0.heap.size + 1) v2 (Value.slice al rows.length cp).ownBlock k1 ⟨k1, some ⟨g2, 0, none⟩, m2, c2⟩ := by
          have h1 : PkR D (w0.heap.size + 1) v1 (Value.slice al rows.length cp).ownBlock k1 ⟨k1, some ⟨g2, 0, none⟩, m2, c2⟩ := by
            refine ⟨rfl, show m2 = (peaks (D.take k1)).length by rw [HS.out.2.2.2.2.2.1, HS.out.2.2.2.2.2.2.1], hT2, hc2, fun b off e => ?_⟩
            injection e with e
            injection e with e1 e2
            subst e1
            refine ⟨hg2, fun e => ?_, ?_⟩
            · have h3 := (World.ownsRow.lt HS.out.1.own _ e).2
              have h4 := D0.size
              omega
            · have h3 := lt_obj' HP.out.1
              have h4 := D0.size
              omega
          rw [HV2.out]; exact (h1.set (by omega) _ _).set (by omega) _ _
        have HV := Lib.hid (And.intro F2 (And.intro X2 (And.intro hown2 (And.intro hall2 hnew2))))
        have hz0 := lt_obj' X2
        clear E0 E1 E2 F0 F1 F2 X0 X1 T0 D0 BW hb hT2 hc2 hg1 hg2 hz2 HV2 hown2 hall2 hnew2 hdc' hdl
        obtain ⟨p0, p1, pf⟩ := row2 X2
        clear X2
        go_wp2_with (at_builtin; (refine wpList_append_pk (w0 := w0) (B := w0.heap.size + 1) rfl (.tmp 33) (.tmp 35) rfl (HV.out.2.2.1.alloc _) rl HS.out.2.2.1.symm (by kernel_rfl) v2.heap.size 1 ⟨k1, some ⟨g2, 0, none⟩, m2, c2⟩ (by kernel_rfl) (heap_alloc_new v2 _) (by have h1 := HS.out.2.1; have h2 := HS.out.2.2.1; have h3 := HS.out.2.2.2.2.2.2.2; omega) (by simp; omega) (B0 := w0.heap.size) (by omega) (HV.out.1.alloc HV.out.1.size _) ?_; intro ad cap3 w3 ho hb hgr hli; have HC2 := Lib.hid (And.intro ho (And.intro hb (And.intro hgr hli))); clear ho hb hgr hli))
        have hx9 : (rows ++ [(⟨k1, some ⟨g2, 0, none⟩, m2, c2⟩ : Pr)]).length = rl + 1 := by rw [List.length_append, ← HS.out.2.2.1]; rfl
        have hnew : PkS D w0 w0.heap.size k1 ad cap3 (rows ++ [⟨k1, some ⟨g2, 0, none⟩, m2, c2⟩]) w3 := by
          have hba : Below v2.heap.size v2 (v2.alloc (.cells (⟨k1, some ⟨g2, 0, none⟩, m2, c2⟩ : Pr).cs 32)) := (Below.refl _ _).alloc (Nat.le_refl _) _
          have hrk : rows.length = k1 := by have h1 := HS.out.2.1; have h2 := HS.out.2.2.2.2.2.2.1; have h3 := HS.out.2.2.2.2.2.2.2; omega
          refine ⟨HC2.out.2.1, HC2.out.1, by rw [List.length_append, hrk]; rfl, fun j x hx => ?_, ⟨⟨k1, some ⟨g2, 0, none⟩, m2, c2⟩, ?_, ?_⟩⟩
          · by_cases hj : j < rows.length
            · rw [List.getElem?_append_left hj] at hx
              exact ((HV.out.2.2.2.1 j x hx).call hba).grown HC2.out.2.2.1 HC2.out.2.2.2
            · have hj2 : j = rows.length := by
                have := (List.getElem?_eq_some_iff.1 hx).1
                rw [List.length_append] at this; simp at this; omega
              subst hj2
              rw [List.getElem?_append_right (Nat.le_refl _), Nat.sub_self] at hx
              simp at hx
              subst hx
              rw [hrk]
              have := (HV.out.2.2.2.2.call hba).grown HC2.out.2.2.1 HC2.out.2.2.2
              exact this
          · rw [List.getElem?_append_right (by omega), hrk, Nat.sub_self]; rfl
          · refine (HC2.out.2.2.1.block _ (Nat.lt_of_lt_of_le hz0 hba.size) (fun e => ?_)).trans ((hba.block _ hz0).trans HV.out.2.1)
            have := (World.ownsRow.lt HV.out.2.2.1 _ e.symm).1; omega
        have HNW := Lib.hid (And.intro hnew (And.intro hx9 HS.out.2.2.2.2.2.2.2))
        have hk1k : k1 = k + 1 := by have h1 := HS.out.2.2.2.2.2.2.1; have h2 := HS.out.2.2.2.2.2.2.2; omega
        have HKK := Lib.hid hk1k
        clear hnew hx9 hk1k p0 p1 pf hz0
        go_roundw
        case rel => exact ⟨k1, ad, cap3, _, by have := HKK.out; omega, by rw [HNW.out.2.1], by rw [HKK.out]; go_num, HNW.out.1⟩
        case measure => simp [intOf]; omega
      · have hin : n = i := by omega
        subst hin
        obtain ⟨rl, hrl2⟩ : ∃ r, r = rows.length := ⟨_, rfl⟩
        rw [← hrl2]
        have HRN := Lib.hid (show rl = n + 1 by omega)
        obtain ⟨W1, hW1⟩ : ∃ W, W = wr := ⟨_, rfl⟩
        rw [← hW1] at hS ⊢
        have HE := Lib.hid (And.intro hS hrl2)
        have BW1 := Lib.hid (HA.out.2.2.trans (hS.low.mono HA.out.2.2.size))
        clear hS hrl hW1 hrl2
        go_wp2_with fail
        go_loopw [8] (fun vi w3 => ∃ j : Nat, j ≤ rl ∧ vi = .int .i64 j ∧ Below W1.heap.size W1 w3) (fun vi _ => rl - (intOf vi).toNat)
        case atStart => exact ⟨0, Nat.zero_le _, rfl, Below.refl _ _⟩
        case round =>
          obtain ⟨j, hj, rfl, hb⟩ := hrel
          by_cases hlt : j < rl
          · obtain ⟨x, hx⟩ : ∃ x, rows[j]? = some x := ⟨_, List.getElem?_eq_getElem (by have := HE.out.2; omega)⟩
            have hR := HE.out.1.all j x hx
            obtain ⟨g, hal, hc0, hc1, hgl⟩ := HE.out.1.own.at hx
            subst hal
            obtain ⟨xk, xa, xn, xc⟩ := x
            have hxk : xk = j := hR.k
            subst hxk
            have hxkn : xk ≤ n := by have := HRN.out; omega
            have hxn : xn = (peaks (D.take xk)).length := hR.n
            have hDt : Digs (D.take xk) := fun y hy => H.out.2.2 y (List.mem_of_mem_take hy)
            have hlk : (D.take xk).length = xk := by rw [List.length_take, H.out.2.1]; omega
            have hpl := peaks_length _ (D.take xk) rfl
            rw [hlk] at hpl
            have cr := fun W (h : Below W1.heap.size W1 W) => pkRoot_any xk (peaks (D.take xk)) (by omega) (peaks_digs _ _ rfl hDt) xa xc (by rw [← hxn]; exact hR.cap.1) hR.cap.2 W (HG.out.below (BW1.out.trans (h.mono BW1.out.size))) (hR.tx.below h)
            have cq := fun W (h : Below W1.heap.size W1 W) => rroot_any xk (D.take xk) hlk (by omega) hDt a c W (((HA.out.1.below (HE.out.1.low)).below h).take xk) (by rw [hlk]; have := HA.out.2.1.1; omega) HA.out.2.1.2
            rw [rf_peaks _ _ rfl, ← hxn] at cr
            rw [hlk] at cq
            obtain ⟨R, hRR⟩ : ∃ R, R = root (D.take xk) := ⟨_, rfl⟩
            rw [← hRR] at cr cq
            have hreq : (R.toList == R.toList) = true := by simp
            have hkc : xk ≤ c := by have := HA.out.2.1.1; omega
            have HC := Lib.hid (And.intro cr cq)
            have hd0 := (hb.cell (p := ⟨g, xk * 2, none⟩) hgl).trans hc0
            have hd1 := (hb.cell (p := ⟨g, xk * 2 + 1, none⟩) hgl).trans hc1
            have hgl2 := Nat.lt_of_lt_of_le hgl hb.size
            have HB2 := Lib.hid hb
            clear cr cq hRR hpl hlk hDt hxn hR hx hc0 hc1 hgl hb
            go_upto_region 15 with fail
            go_wp2_with fail
            refine wp_region_held (S := fun W : World => (W.cell? ⟨g, xk * 2, none⟩ = some (.int .i64 (xk : Int)) ∧ W.cell? ⟨g, xk * 2 + 1, none⟩ = some (.slice xa xn xc)) ∧ g < W.heap.size) (by kernel_rfl) ?_
            change wpAnyH _ _ _ _ _ _ _ _ (World.drew _)
            generalize hv0 : World.drew _ = v0
            have E0 : (v0.cell? ⟨g, xk * 2, none⟩ = some (.int .i64 (xk : Int)) ∧ v0.cell? ⟨g, xk * 2 + 1, none⟩ = some (.slice xa xn xc)) ∧ g < v0.heap.size := by rw [← hv0]; exact ⟨⟨hd0, hd1⟩, hgl2⟩
            have F0 : Below W1.heap.size W1 v0 := by rw [← hv0]; exact HB2.out.drew
            clear hv0
            refine wpAnyH_take (i := 0) (v := ?_) rfl (by kernel_rfl) (by kernel_rfl) (by kernel_rfl) (fun _ _ _ h => h) (Or.inl ⟨by kernel_rfl, ?_⟩) E0 ?_
            rotate_left
            · (intro W hS; obtain ⟨⟨q0, q1⟩, q2⟩ := hS; go_simp; try (with_reducible rfl))
            refine wpAnyH_take (i := 1) (v := ?_) rfl (by kernel_rfl) (by kernel_rfl) (by kernel_rfl) (fun _ _ _ h => h) (Or.inl ⟨by kernel_rfl, ?_⟩) E0 ?_
            rotate_left
            · (intro W hS; obtain ⟨⟨q0, q1⟩, q2⟩ := hS; go_simp; try (with_reducible rfl))
            refine wpAnyH_take (i := 2) (v := ?_) rfl (by kernel_rfl) (by kernel_rfl) (by kernel_rfl) (fun _ _ _ h => h) (Or.inl ⟨by kernel_rfl, ?_⟩) E0 ?_
            rotate_left
            · (intro W hS; obtain ⟨⟨q0, q1⟩, q2⟩ := hS; go_simp; try (with_reducible rfl))
            refine wpAnyH_take (i := 3) (v := ?_) rfl (by kernel_rfl) (by kernel_rfl) (by kernel_rfl) (fun _ _ _ h => h) (Or.inl ⟨by kernel_rfl, ?_⟩) E0 ?_
            rotate_left
            · (intro W hS; obtain ⟨⟨q0, q1⟩, q2⟩ := hS; go_simp; try (with_reducible rfl))
            refine wpAnyH_take (i := 5) (v := ?_) rfl (by kernel_rfl) (by kernel_rfl) (by kernel_rfl) (fun _ _ _ h => h) (Or.inl ⟨by kernel_rfl, ?_⟩) E0 ?_
            rotate_left
            · (intro W hS; obtain ⟨⟨q0, q1⟩, q2⟩ := hS; go_simp; try (with_reducible rfl))
            refine wpAnyH_ready (rs := [4]) (by kernel_rfl) (by simp) ?_
            refine AllReadyH.cons rfl (fun K hK => ?_) AllReadyH.nil
            go_simp
            refine (pkSize_any xk xa xn xc v0).mono ?_
            rintro e v1 ⟨rfl, hb⟩
            have F1 := F0.trans (hb.mono F0.size)
            have E1 : (v1.cell? ⟨g, xk * 2, none⟩ = some (.int .i64 (xk : Int)) ∧ v1.cell? ⟨g, xk * 2 + 1, none⟩ = some (.slice xa xn xc)) ∧ g < v1.heap.size := ⟨⟨(hb.cell E0.2).trans E0.1.1, (hb.cell E0.2).trans E0.1.2⟩, Nat.lt_of_lt_of_le E0.2 hb.size⟩
            refine hK.out _ _ E1 (fun _ => ?_)
            clear hK K hb
            refine wpAnyH_take (i := 6) (v := ?_) rfl (by kernel_rfl) (by kernel_rfl) (by kernel_rfl) (fun _ _ _ h => h) (Or.inl ⟨by kernel_rfl, ?_⟩) E1 ?_
            rotate_left
            · (intro W hS; obtain ⟨⟨q0, q1⟩, q2⟩ := hS; go_simp; try (with_reducible rfl))
            refine wpAnyH_take (i := 7) (v := ?_) rfl (by kernel_rfl) (by kernel_rfl) (by kernel_rfl) (fun _ _ _ h => h) (Or.inl ⟨by kernel_rfl, ?_⟩) E1 ?_
            rotate_left
            · (intro W hS; obtain ⟨⟨q0, q1⟩, q2⟩ := hS; go_simp; try (with_reducible rfl))
            refine wpAnyH_take (i := 8) (v := ?_) rfl (by kernel_rfl) (by kernel_rfl) (by kernel_rfl) (fun _ _ _ h => h) (Or.inl ⟨by kernel_rfl, ?_⟩) E1 ?_
            rotate_left
            · (intro W hS; obtain ⟨⟨q0, q1⟩, q2⟩ := hS; go_simp; try (with_reducible rfl))
            refine wpAnyH_take (i := 9) (v := ?_) rfl (by kernel_rfl) (by kernel_rfl) (by kernel_rfl) (fun _ _ _ h => h) (Or.inl ⟨by kernel_rfl, ?_⟩) E1 ?_
            rotate_left
            · (intro W hS; obtain ⟨⟨q0, q1⟩, q2⟩ := hS; go_simp; try (with_reducible rfl))
            refine wpAnyH_take (i := 10) (v := ?_) rfl (by kernel_rfl) (by kernel_rfl) (by kernel_rfl) (fun _ _ _ h => h) (Or.inl ⟨by kernel_rfl, ?_⟩) E1 ?_
            rotate_left
            · (intro W hS; obtain ⟨⟨q0, q1⟩, q2⟩ := hS; go_simp; try (with_reducible rfl))
            refine wpAnyH_take (i := 11) (v := ?_) rfl (by kernel_rfl) (by kernel_rfl) (by kernel_rfl) (fun _ _ _ h => h) (Or.inl ⟨by kernel_rfl, ?_⟩) E1 ?_
            rotate_left
            · (intro W hS; obtain ⟨⟨q0, q1⟩, q2⟩ := hS; go_simp; try (with_reducible rfl))
            refine wpAnyH_take (i := 13) (v := ?_) rfl (by kernel_rfl) (by kernel_rfl) (by kernel_rfl) (fun _ _ _ h => h) (Or.inl ⟨by kernel_rfl, ?_⟩) E1 ?_
            rotate_left
            · (intro W hS; obtain ⟨⟨q0, q1⟩, q2⟩ := hS; go_simp; try (with_reducible rfl))
            refine wpAnyH_take (i := 14) (v := ?_) rfl (by kernel_rfl) (by kernel_rfl) (by kernel_rfl) (fun _ _ _ h => h) (Or.inl ⟨by kernel_rfl, ?_⟩) E1 ?_
            rotate_left
            · (intro W hS; obtain ⟨⟨q0, q1⟩, q2⟩ := hS; go_simp; try (with_reducible rfl))
            refine wpAnyH_take (i := 15) (v := ?_) rfl (by kernel_rfl) (by kernel_rfl) (by kernel_rfl) (fun _ _ _ h => h) (Or.inl ⟨by kernel_rfl, ?_⟩) E1 ?_
            rotate_left
            · (intro W hS; obtain ⟨⟨q0, q1⟩, q2⟩ := hS; go_simp; try (with_reducible rfl))
            refine wpAnyH_ready (rs := [12]) (by kernel_rfl) (by simp) ?_
            refine AllReadyH.cons rfl (fun K hK => ?_) AllReadyH.nil
            go_simp
            refine (HC.out.1 v1 F1).mono ?_
            rintro e v2 ⟨rfl, hb⟩
            have F2 := F1.trans (hb.mono F1.size)
            have E2 : (v2.cell? ⟨g, xk * 2, none⟩ = some (.int .i64 (xk : Int)) ∧ v2.cell? ⟨g, xk * 2 + 1, none⟩ = some (.slice xa xn xc)) ∧ g < v2.heap.size := ⟨⟨(hb.cell E1.2).trans E1.1.1, (hb.cell E1.2).trans E1.1.2⟩, Nat.lt_of_lt_of_le E1.2 hb.size⟩
            refine hK.out _ _ E2 (fun _ => ?_)
            clear hK K hb
            refine wpAnyH_ready (rs := [16]) (by kernel_rfl) (by simp) ?_
            refine AllReadyH.cons rfl (fun K hK => ?_) AllReadyH.nil
            go_simp
            refine (HC.out.2 v2 F2).mono ?_
            rintro e v3 ⟨rfl, hb⟩
            have F3 := F2.trans (hb.mono F2.size)
            have E3 : (v3.cell? ⟨g, xk * 2, none⟩ = some (.int .i64 (xk : Int)) ∧ v3.cell? ⟨g, xk * 2 + 1, none⟩ = some (.slice xa xn xc)) ∧ g < v3.heap.size := ⟨⟨(hb.cell E2.2).trans E2.1.1, (hb.cell E2.2).trans E2.1.2⟩, Nat.lt_of_lt_of_le E2.2 hb.size⟩
            refine hK.out _ _ E3 (fun _ => ?_)
            clear hK K hb
            refine wpAnyH_take (i := 17) (v := ?_) rfl (by kernel_rfl) (by kernel_rfl) (by kernel_rfl) (fun _ _ _ h => h) (Or.inl ⟨by kernel_rfl, ?_⟩) E3 ?_
            rotate_left
            · (intro W hS; obtain ⟨⟨q0, q1⟩, q2⟩ := hS; go_simp; try (with_reducible rfl))
            refine wpAnyH_take (i := 18) (v := ?_) rfl (by kernel_rfl) (by kernel_rfl) (by kernel_rfl) (fun _ _ _ h => h) (Or.inl ⟨by kernel_rfl, ?_⟩) E3 ?_
            rotate_left
            · (intro W hS; obtain ⟨⟨q0, q1⟩, q2⟩ := hS; go_simp; try (with_reducible rfl))
            refine wpAnyH_done (by kernel_rfl) ?_ _
            go_simp
            have HF := Lib.hid F3
            clear E0 E1 E2 E3 F0 F1 F2 F3
            go_wp2_with fail
            go_roundw
            case rel => exact ⟨xk + 1, by omega, by go_num, HF.out⟩
            case measure => simp [intOf]; omega
          · have HF := Lib.hid (BW1.out.trans (hb.mono BW1.out.size))
            clear hb
            go_wp2_with fail
            refine (awake13_any _ (HG.out.below HF.out)).mono ?_
            rintro e w5 ⟨rfl, hb⟩
            have HZ := Lib.hid (HF.out.trans (hb.mono HF.out.size))
            clear hb
            go_wp2_with fail
            go_ret
            exact ⟨rfl, HZ.out⟩
  · have cn := nodigests_any ss a0 cap w hT hm hf
    obtain ⟨n, hn⟩ : ∃ n, n = ss.length := ⟨_, rfl⟩
    rw [← hn] at cn ⊢
    have H := Lib.hid cn
    clear cn hf hT hm hn
    go_enter Tryd.func4, Tryd.ntmps4
    go_wp2_with fail
    refine H.out.mono ?_
    rintro e w0 ⟨rfl, rfl⟩
    go_wp2_with fail
    refine (awake13_any _ HG.out).mono ?_
    rintro e w1 ⟨rfl, hb⟩
    have HB := Lib.hid hb
    clear hb
    go_wp2_with fail
    go_ret
    exact ⟨rfl, HB.out⟩
end Go.Proofs.YtdjhlgodecnidaaDoor

namespace Go.Proofs.YtdjhlgodecnidaaDoor.treePeaksLaw
open Go.ChangeShapes Go.WideShapes Go.ChangeAt Go.RowKit
open Go.ChangeMaps (open_string shut_string)

set_option maxRecDepth 100000 in
theorem contract (H : Type) (enc : TypeId × Value → H) (W : World) (base : Nat) (args : Array Value) (ds gs : List (DataW H)) (before : List MemPlace)
    (hval : ∀ (j : Nat) t v, Tryd.f4.params[j]? = some t → args[j]? = some v → Value.okWide Tryd.prog W .any base t v)
    (hW : DataW.Whole enc Tryd.prog Tryd.f4.params.toList Rows.treePeaksSpec.vars false W args.toList ds gs before) (hL : laidMetH Tryd.prog Rows.treePeaksRow.laid W) :
    Calls Tryd.prog 4 args W fun e W' => ∃ v, e = .returned v ∧ Rows.treePeaksSpec.post enc Tryd.prog Tryd.f4 false true false false W args v W' := by
  have hW' := hW
  obtain ⟨p, q, hA0, hV, rfl, hfz, hnd⟩ := hW
  have hA : DataW.TrodAll enc Tryd.prog W 0 (fun _ => true) true Tryd.f4.params.toList args.toList ds p := hA0
  rw [Tryd.params4] at hA hval
  obtain ⟨v0, vs0, d0, ds0, p0, q0, hargs, rfl, rfl, h0, r0⟩ := trodAll_cons hA
  obtain ⟨rfl, rfl, rfl⟩ := trodAll_nil r0
  obtain rfl : args = #[v0] := by cases args; simp_all
  obtain ⟨rfl, rfl⟩ := trodVars_none hV
  obtain ⟨a0, len0, cap0, rfl⟩ := okWide_slice Tryd.underlying22 (hval 0 22 v0 rfl rfl)
  have hk0 := h0
  obtain ⟨fuel0, hf0⟩ := h0
  clear hA0
  simp only [List.append_nil] at hW'
  have hlt0 : ∀ x ∈ p0, x.block < W.heap.size := fun x hx => by simpa using hW'.lt x (by simp [hx])
  obtain ⟨ss0, hlen0, hmax0, hT0⟩ := texts_of hf0 hlt0
  subst hlen0
  refine (peaks_law ss0 a0 cap0 hT0 hmax0 (w := W) (hG := glob_of_laid hL)).mono fun e W' ⟨he, hb⟩ => ?_
  subst he
  exact ⟨_, rfl, _, _, _, [], _, [], hW', trodAll_cons_mk (shut_bool Tryd.underlying4 _) trodAll_mk0, (trodAll_cons_mk (Below.trod laidOut (by kernel_rfl) (of_decide_eq_true (by kernel_rfl)) hk0 hb hlt0) trodAll_mk0), rfl, hb.frame _, fun h => by cases h⟩
theorem laid_met (os : Os) : laidMet Tryd.prog Rows.treePeaksRow.laid ((laidWorld os).forCall (fun _ _ => 0) ⟨#[], #[.slice none 0 0], []⟩).memory :=
  laidMet_of_run' 8 (by kernel_rfl) (by kernel_rfl)
theorem reads (os : Os) {H : Type} (enc : TypeId × Value → H) : ∃ places, DataW.whole enc Tryd.prog ((laidWorld os).forCall (fun _ _ => 0) ⟨#[], #[.slice none 0 0], []⟩).memory Tryd.f4.params.toList Rows.treePeaksSpec.vars false #[Value.slice none 0 0].toList 8 = some ([.nil], [], places) :=
  ⟨[], by kernel_rfl⟩
set_option maxRecDepth 100000 in
theorem lifted (os : Os) (started : os.Started) (H : Type) (enc : TypeId × Value → H) (F : Stop.Interp) :
    ReturnsInHanded {} Tryd.checked os 4 .any ((OpenSpec.ofChange Rows.treePeaksSpec).preRow enc Tryd.prog Tryd.f4 Rows.treePeaksRow.domain false Rows.treePeaksRow.laid) (((OpenSpec.ofChange Rows.treePeaksSpec).at F).post enc Tryd.prog Tryd.f4 false true false false) := by
  obtain ⟨places, hx⟩ := reads os enc
  refine returnsInHanded_of_row (C := Tryd.checked) (s := OpenSpec.ofChange Rows.treePeaksSpec) own started (by kernel_rfl) Tryd.func4
    (witness_row_at (enc := enc) (C := Tryd.checked) false (laidWorld os) #[.slice none 0 0] rfl (by kernel_rfl) (by kernel_rfl) (by kernel_rfl)
      (OpenSpec.preRow_of_cond 8 hx (by kernel_rfl) (fun k hk => by cases hk) (by kernel_rfl) (laid_met os))) ?_
  intro W base args ds gs before hval hW _ _ _ hL _ _
  exact contract H enc W base args ds gs before hval hW hL
theorem said : Rows.TreePeaksSaid :=
  OpenClaim.holds_of_cond 4 Tryd.f4 rfl rfl rfl rfl rfl rfl rfl ⟨rfl, rfl, rfl, rfl, rfl⟩ rfl rfl rfl rfl rfl (by kernel_rfl) Tryd.func4 (by kernel_rfl)
    (of_decide_eq_true (by kernel_rfl)) (by unfold Func.isWrapper; first | (rw [if_pos (by decide +kernel)]; kernel_rfl) | (rw [if_neg (by decide +kernel)]; exact ⟨rfl, rfl⟩))
    (fun os started H enc _ F => by rw [OpenClaim.pre_eq_preRow]; exact lifted os started H enc F)
theorem plain (f : FuncId) (fn : Func) (hf : Tryd.pinned.checked.prog.funcNamed "lockbox/lockboxlaw13.TreePeaks" = some f) (hfn : Tryd.pinned.checked.prog.funcs[f]? = some fn) :
    false = Tryd.pinned.checked.prog.looks [] ∧ ∀ (j : Nat) t, fn.params[j]? = some t → Tryd.pinned.checked.prog.wantsStandIn t = false := by
  obtain rfl : f = 4 := Option.some.inj ((show Tryd.prog.funcNamed "lockbox/lockboxlaw13.TreePeaks" = some 4 by kernel_rfl).symm.trans hf) |>.symm
  obtain rfl : fn = Tryd.f4 := (Option.some.inj (Tryd.func4.symm.trans hfn)).symm
  refine ⟨by kernel_rfl, fun j t ht => ?_⟩
  rw [Tryd.params4] at ht
  have hm : t ∈ [22] := by simpa using Array.mem_of_getElem? ht
  have hall : ([22].all fun u => !Tryd.prog.wantsStandIn u) = true := by kernel_rfl
  exact (show Tryd.prog.wantsStandIn t = false by simpa using List.all_eq_true.1 hall t hm)
end Go.Proofs.YtdjhlgodecnidaaDoor.treePeaksLaw

namespace Go.Proofs.YtdjhlgodecnidaaDoor
/-- THE CARD. -/
theorem treePeaks_card : Rows.TreePeaksCardSaid :=
  Claim7.holds_tied_plain_at .later [] _ _ _ _ treePeaksLaw.said (fun _ h => by cases h) (by kernel_rfl) (fun _ h => by cases h) treePeaks_row_tie rfl ⟨rfl, rfl⟩ (by kernel_rfl) rfl treePeaksLaw.plain (by kernel_rfl)
end Go.Proofs.YtdjhlgodecnidaaDoor
