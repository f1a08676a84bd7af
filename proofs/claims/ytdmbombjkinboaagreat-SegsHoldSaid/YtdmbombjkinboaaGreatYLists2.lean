/- segs: readLists, the walk. -/
import Derived.Test.YtdmbombjkinboaaGreatYLists
import Derived.Deep.DeepCutAuto
namespace Go.Proofs.YtdmbombjkinboaaGreat
open Go.RowKit
open Dk Sg Fr

set_option maxRecDepth 100000 in
set_option maxHeartbeats 4000000 in
theorem readLists_any {w0 w : World} {ρ : Nat → Nat} {o s b B n : Nat} {D : Disk} {falls : Int} (h : DiskAt w0 ρ b D) (hu : D.down = false) (hn : D.sure.length = n) (hn2 : 2 ≤ n) (hB : B = w0.heap.size)
    (hR : Opg B w0 o s b (stL falls (0, ⟨0, []⟩)) [] w) (L : Nat → Lst)
    (hL : ∀ j, j < 2 → Scans (exAt D.now j).data.toList ((L j).l.map entB) (L j).m (L j).er ∧ ((L j).er = 4 ∨ (L j).er = 7) ∧ ∀ e ∈ (L j).l, EntOk n e ∧ e.exts.length ≤ 62) :
    Calls Tryz.prog 50 #[.pointer (some ⟨o, 0, none⟩)] w fun e w' => e = .returned (.int .i64 0) ∧ Opg B w0 o s b (stL falls (cAt L 2)) (tAt L 2) w' := by
  have H := Lib.hid (And.intro h (And.intro hu (And.intro hn (And.intro hB (And.intro hR hL)))))
  clear h hu hn hB hR hL
  go_enter Tryz.func50, Tryz.ntmps50
  go_wp2_with fail
  go_loopw [11, 3, 4, 5, 7, 8, 9, 10] (fun jv _ _ _ _ _ _ _ wr => ∃ j : Nat, j ≤ 2 ∧ jv = .int .i64 j ∧ Opg B w0 o s b (stL falls (cAt L j)) (tAt L j) wr) (fun jv _ _ _ _ _ _ _ _ => 2 - (intOf jv).toNat)
  case atStart => exact ⟨0, by omega, rfl, H.out.2.2.2.2.1⟩
  case round =>
    obtain ⟨j, hj, rfl, hr⟩ := hrel
    have HR := Lib.hid hr
    clear hr
    by_cases hlt : j < 2
    · have hr := HR.out
      obtain ⟨ta, tc, a, cap, ar, cr, h1, h2, h3, h4, h5, h6⟩ := hr.ex
      obtain ⟨l1, l2, l3⟩ := H.out.2.2.2.2.2 j hlt
      have hBw : B ≤ wr.heap.size := by rw [H.out.2.2.2.1]; exact hr.low.size
      have hD : DiskAt wr ρ b D := H.out.1.below (by have := hr.low; rw [H.out.2.2.2.1] at this; exact this)
      have hT : (tAt L j).length ≤ 1000 := by
        match j with
        | 0 => exact Nat.zero_le _
        | 1 => show (tearsOf _ _ _ []).length ≤ 1000; unfold tearsOf; split <;> simp
        | k + 2 => omega
      have hsc := scanx_any (x := j) hD H.out.2.1 (by have := H.out.2.2.1; omega) h3 h1 h2 hBw true _ _ _ l1 (l2.imp id (fun e => ⟨e, rfl⟩)) hT
      have hsW0 : s < wr.heap.size := h3.lt
      have HS := Lib.hid (And.intro hsc (And.intro h1 (And.intro h2 (And.intro hBw (And.intro hD l3)))))
      clear hr h1 h2 h3 h4 h5 h6 l1 l2 l3 hBw hD hT hsc
      go_wp2_with fail
      refine HS.out.1.mono ?_
      rintro e w1 hpost
      obtain ⟨ba, bc, rfl, hob, hr1, hz1⟩ := HR.out.scan HS.out.2.2.2.1 HS.out.2.1 HS.out.2.2.1 hpost
      obtain ⟨K, hK⟩ : ∃ K, K = (L j).l.length := ⟨_, rfl⟩
      have hlen : ((L j).l.map entB |>.map str).length = K := by rw [List.length_map, List.length_map, hK]
      rw [hlen]
      have hK7 : K ≤ 1000000 := by
        have := ((H.out.2.2.2.2.2 j hlt).1).le
        have h2 := HS.out.2.2.2.2.1.ok.fits.all.at j
        have h3 : (exAt D.now j).data.toList.length = (exAt D.now j).size := rfl
        rw [List.length_map, ← hK] at this
        change (exAt D.now j).size ≤ 65536 at h2
        omega
      have H1 := Lib.hid (And.intro hob (And.intro hr1 (And.intro hz1 (And.intro hlen hK))))
      clear hpost hob hr1 hz1 hlen hK
      go_wp2_with fail
      obtain ⟨W0, hW0⟩ : ∃ W0, W0 = wr := ⟨_, rfl⟩
      subst hW0
      have HW0 := Lib.hid hsW0
      clear hsW0
      go_loopw [25, 7, 8, 9, 10] (fun iv _ _ _ _ wi => ∃ i : Nat, i ≤ K ∧ iv = .int .i64 i ∧ Opg B w0 o s b (stL falls (pickL j ((L j).l.take i) (cAt L j))) (tAt L (j + 1)) wi ∧ OwnT W0.heap.size wi ba bc (((L j).l.map entB).map str) ∧ W0.heap.size ≤ wi.heap.size) (fun iv _ _ _ _ _ => K - (intOf iv).toNat)
      case atStart => exact ⟨0, by omega, rfl, H1.out.2.1, H1.out.1, H1.out.2.2.1⟩
      case round =>
        obtain ⟨i, hi, rfl, hr, hob, hz⟩ := hrel
        have HI := Lib.hid (And.intro hr (And.intro hob hz))
        clear hr hob hz
        by_cases hlt2 : i < K
        · obtain ⟨e, he⟩ : ∃ e, (L j).l[i]? = some e := ⟨_, List.getElem?_eq_getElem (by have := H1.out.2.2.2.2; omega)⟩
          have hr := HI.out.1
          obtain ⟨ta, tc, a, cap, ar, cr, h1, h2, h3, h4, h5, h6⟩ := hr.ex
          obtain ⟨g, o', rfl, hgl, hc⟩ := HI.out.2.1.texts i (by rw [H1.out.2.2.2.1]; exact hlt2)
          have hcv : (((L j).l.map entB).map str).getD i ByteArray.empty = str (entB e) := by
            rw [List.getD_eq_getElem?_getD, List.getElem?_map, List.getElem?_map, he]; rfl
          rw [hcv] at hc
          have hBw : B ≤ wr.heap.size := by rw [H.out.2.2.2.1]; exact hr.low.size
          have hD : DiskAt wr ρ b D := H.out.1.below (by have := hr.low; rw [H.out.2.2.2.1] at this; exact this)
          have hex := extents_any hD
          rw [H.out.2.2.1] at hex
          obtain ⟨ok1, ok2⟩ := (H.out.2.2.2.2.2 j hlt).2.2 e (List.mem_of_getElem? he)
          have hrl := readList_any e n ok1 ok2 wr
          obtain ⟨o0, -, -⟩ := op_cells h1
          obtain ⟨q0, -, -, q3, -⟩ := hd_cells h3
          obtain ⟨c, hcc⟩ : ∃ c, c = pickL j ((L j).l.take i) (cAt L j) := ⟨_, rfl⟩
          rw [← hcc] at hr h3 h4 h5 h6 q3
          change wr.cell? ⟨s, 3, none⟩ = some (.int .i64 (c.2.epoch : Int)) at q3
          obtain ⟨text, htext⟩ : ∃ text, text = str (entB e) := ⟨_, rfl⟩
          rw [← htext] at hc hrl
          have hepe := ok1.epoch
          have HE := Lib.hid (And.intro he (And.intro hr (And.intro h1 (And.intro h3 (And.intro hBw (And.intro hex (And.intro hrl hcc)))))))
          clear he hr h1 h2 h3 h4 h5 h6 hcv hBw hD hex hrl hcc htext ok1 ok2
          obtain ⟨ep, hep⟩ : ∃ ep, ep = e.epoch := ⟨_, rfl⟩
          have HEP := Lib.hid hep
          rw [← hep] at hepe
          clear hep
          go_wp2_with fail
          refine HE.out.2.2.2.2.2.1.mono ?_
          rintro r w2 ⟨rfl, rfl⟩
          go_wp2_with fail
          refine HE.out.2.2.2.2.2.2.1.mono ?_
          rintro r w2 ⟨a2, cap2, rfl, hog2, hgb2, hb2⟩
          have hr2 := HE.out.2.1.below hb2 HE.out.2.2.2.2.1
          have hob2 := HI.out.2.1.call hb2
          have h12 : Op w2 o s (.slice ta (tAt L (j + 1)).length tc) := (hb2.block _ HE.out.2.2.1.lt).trans HE.out.2.2.1
          have h32 := HE.out.2.2.2.1.same (hb2.block _ HE.out.2.2.2.1.lt)
          obtain ⟨o0', -, -⟩ := op_cells h12
          obtain ⟨-, -, q2', q3', q4', -⟩ := hd_cells h32
          change w2.cell? ⟨s, 3, none⟩ = some (.int .i64 (c.2.epoch : Int)) at q3'
          have f2 := hd_free h32 2
          have f3 := hd_free h32 3
          have f4 := hd_free h32 4
          have hso := op_ne_hd h12 h32
          have H2 := Lib.hid (And.intro hr2 (And.intro hob2 (And.intro hog2 (And.intro hgb2 (And.intro hb2 hso)))))
          clear hr2 hob2 h12 h32 hog2 hgb2 hb2 o0 q0 q3 hc
          rw [← HEP.out]
          obtain ⟨M, hM⟩ : ∃ M, M = e.exts.length := ⟨_, rfl⟩
          rw [← hM]
          have HM := Lib.hid hM
          clear hM
          have hstep : pickL j ((L j).l.take (i + 1)) (cAt L j) = if c.2.epoch ≤ e.epoch then (j, e) else c := by
            rw [List.take_add_one, HE.out.1]
            show pickL j (List.take i (L j).l ++ [e]) (cAt L j) = _
            rw [pickL_snoc, ← HE.out.2.2.2.2.2.2.2]
          have HST := Lib.hid hstep
          clear hstep
          by_cases hcmp : c.2.epoch ≤ ep
          · have hd1 : decide ((c.2.epoch : Int) ≤ (ep : Int)) = true := decide_eq_true (by omega)
            have hso : o ≠ s := H2.out.2.2.2.2.2
            have hsW : s < W0.heap.size := HW0.out
            have hso' : s ≠ o := fun e => hso e.symm
            go_wp2_with fail
            go_region_with (fail)
            all_goals
              have hput := Opg.put (c := (j, e)) (H2.out.1.below (show Below w2.heap.size w2 w2.drew from (Below.refl _ _).drew) (Nat.le_trans HE.out.2.2.2.2.1 H2.out.2.2.2.2.1.size)) ⟨rfl, rfl⟩ (show OwnG w2.drew a2 cap2 _ from H2.out.2.2.1) (fun g hg => Nat.le_trans HE.out.2.2.2.2.1 (H2.out.2.2.2.1 g hg))
              simp only at hput
              rw [← HEP.out, ← HM.out] at hput
              have hobp : ∀ v2 v3 v4, OwnT W0.heap.size (((w2.drew.setCell ⟨s, 2, none⟩ v2).setCell ⟨s, 3, none⟩ v3).setCell ⟨s, 4, none⟩ v4) (some ⟨g, o', none⟩) bc (((L j).l.map entB).map str) := fun v2 v3 v4 => (((H2.out.2.1.drew).set ⟨s, 2, none⟩ v2 hsW).set ⟨s, 3, none⟩ v3 hsW).set ⟨s, 4, none⟩ v4 hsW
              have HP := Lib.hid (And.intro hput hobp)
              clear hput hobp
              go_wp2_with fail
              go_roundw
              case rel =>
                refine ⟨i + 1, by omega, by go_num, ?_, HP.out.2 _ _ _, ?_⟩
                · rw [HST.out, if_pos (by rw [← HEP.out]; exact hcmp)]
                  exact HP.out.1
                · have h1 := Nat.le_trans HI.out.2.2 H2.out.2.2.2.2.1.size
                  simpa [World.setCell] using h1
              case measure => simp [intOf]; omega
          · have hd1 : decide ((c.2.epoch : Int) ≤ (ep : Int)) = false := decide_eq_false (by omega)
            go_wp2_with fail
            go_roundw
            case rel =>
              refine ⟨i + 1, by omega, by go_num, ?_, H2.out.2.1, Nat.le_trans HI.out.2.2 H2.out.2.2.2.2.1.size⟩
              rw [HST.out, if_neg (by rw [← HEP.out]; exact hcmp)]
              exact H2.out.1
            case measure => simp [intOf]; omega
        · obtain rfl : i = K := by omega
          go_wp2_with fail
          go_roundw
          case rel =>
            refine ⟨j + 1, by omega, by go_num, ?_⟩
            have := HI.out.1
            rw [H1.out.2.2.2.2, List.take_length] at this
            exact this
          case measure => simp [intOf]; omega
    · obtain rfl : j = 2 := by omega
      go_wp2_with fail
      go_ret
      exact ⟨rfl, HR.out⟩
end Go.Proofs.YtdmbombjkinboaaGreat
