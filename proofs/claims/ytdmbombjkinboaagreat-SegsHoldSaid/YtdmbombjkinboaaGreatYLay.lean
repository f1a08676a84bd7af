/- segs: lay. -/
import Derived.Test.YtdmbombjkinboaaGreatMS4
import Derived.Deep.DeepCutAuto
import Derived.Deep.RegionHeld
namespace Go.Proofs.YtdmbombjkinboaaGreat
open Go.RowKit
open Dk Sg Fr

/-- The items of a list, so many extents of which are laid. -/
def entIts (E : Ent) (i : Nat) : List It := txtIt seqT :: numIt E.epoch :: (E.exts.take i).map numIt
theorem entIts_leaf (E : Ent) (i : Nat) : ∀ x ∈ entIts E i, Leaf x := fun x hx => by
  unfold entIts at hx
  rcases List.mem_cons.1 hx with rfl | hx
  · exact txtIt_leaf (by decide)
  rcases List.mem_cons.1 hx with rfl | hx
  · exact numIt_leaf _
  obtain ⟨n, -, rfl⟩ := List.mem_map.1 hx
  exact numIt_leaf _
theorem entIts_length (E : Ent) (i : Nat) (h : i ≤ E.exts.length) : (entIts E i).length = 2 + i := by
  unfold entIts; simp; omega
theorem entIts_next (E : Ent) (i x : Nat) (h : E.exts[i]? = some x) : entIts E (i + 1) = entIts E i ++ [numIt x] := by
  unfold entIts
  rw [List.take_add_one, h]; simp
theorem pureAll_nums : ∀ l : List Nat, It.pureAll (l.map numIt) = l.map numP
  | [] => rfl
  | x :: l => by rw [List.map_cons, It.pureAll, pureAll_nums l]; rfl
theorem entIts_pure (E : Ent) : lstP (It.pureAll (entIts E E.exts.length)) = entP E := by
  unfold entIts
  rw [List.take_length, It.pureAll, It.pureAll, pureAll_nums]; rfl
theorem own_two (w : World) (E : Ent) (B : Nat) (hB : B ≤ w.heap.size) :
    OwnI B (w.alloc (.cells #[.int .i64 2, .int .i64 0, .string seqT, .slice none 0 0, .int .i64 1, .int .i64 (E.epoch : Int), .string ⟨#[]⟩, .slice none 0 0] 115)) (some ⟨w.heap.size, 0, none⟩) 2 (entIts E 0) :=
  ⟨rfl, .inr ⟨w.heap.size, 2, _, rfl, hB, heap_alloc_new _ _, Nat.le_refl 2, by decide, rfl, rfl⟩⟩
set_option maxRecDepth 100000 in
set_option maxHeartbeats 1000000 in
theorem slay_any {w : World} {ρ : Nat → Nat} {s b n : Nat} {D : Disk} {S : Stor} {a ar : Option Addr} {cap cr : Nat} (h : DiskAt w ρ b D) (hs : Bud n D) (hn : n ≤ 99999999) (hd : Hd w s b S (.slice a S.segs.length cap) (.slice ar S.recs.length cr)) (h0 : ρ s = 0) (ho : OwnG w a cap S.segs) (hat : S.at_ ≤ 1)
    (he : S.epoch < 256 ^ 6) (hx : ∀ x ∈ S.exts, x < 256) (hl : S.exts.length ≤ 64) :
    Calls Tryz.prog 69 #[.pointer (some ⟨s, 0, none⟩)] w (Doing ρ s b (.slice a S.segs.length cap) (.slice ar S.recs.length cr) (layS D S) w) := by
  have hlen : S.exts.length = S.segs.length := by unfold Stor.exts; simp
  have hm := may_ent S.ent he hx hl
  have hel := ent_len S.ent he hx hl
  obtain ⟨R, hR⟩ : ∃ R, R = layS D S := ⟨_, rfl⟩
  rw [← hR]
  obtain ⟨-, -, q2, q3, q4, -⟩ := hd_cells hd
  obtain ⟨N, hN⟩ : ∃ N, N = S.segs.length := ⟨_, rfl⟩
  rw [← hN] at q4 hlen hd ⊢
  obtain ⟨vr, hvr⟩ : ∃ vr, vr = Value.slice ar S.recs.length cr := ⟨_, rfl⟩
  rw [← hvr] at hd ⊢
  have hN64 : N ≤ 64 := by omega
  have H := Lib.hid (And.intro h (And.intro hs (And.intro hd (And.intro h0 (And.intro ho (And.intro hm (And.intro hel (And.intro hR (And.intro hN (And.intro hvr (And.intro hlen (And.intro hn hat))))))))))))
  obtain ⟨ep, hep⟩ : ∃ ep : Nat, ep = S.epoch := ⟨_, rfl⟩
  rw [← hep] at q3
  have HE := Lib.hid hep
  clear h hs hd h0 ho he hx hl hm hel hR hN hlen hep hvr hn hat
  go_enter Tryz.func69, Tryz.ntmps69
  go_wp2_with fail
  have C : Below w.heap.size w w.drew := (Below.refl _ _).drew
  refine wp_region_held (S := fun W => Below w.heap.size w W) (by kernel_rfl) ?_
  change wpAnyH _ _ _ _ _ _ _ _ (World.drew _)
  generalize World.drew _ = wh at *
  refine wpAnyH_take (i := 1) (v := ?_) rfl (by kernel_rfl) (by kernel_rfl) (by kernel_rfl) (fun _ _ _ h => h) (Or.inl ⟨by kernel_rfl, ?_⟩) C ?_
  rotate_left
  · (intro W hS; clear hS; go_simp; try (with_reducible rfl))
  refine wpAnyH_take (i := 2) (v := ?_) rfl (by kernel_rfl) (by kernel_rfl) (by kernel_rfl) (fun _ _ _ h => h) (Or.inl ⟨by kernel_rfl, ?_⟩) C ?_
  rotate_left
  · (intro W hS; clear hS; go_simp; try (with_reducible rfl))
  refine wpAnyH_take (i := 3) (v := ?_) rfl (by kernel_rfl) (by kernel_rfl) (by kernel_rfl) (fun _ _ _ h => h) (Or.inl ⟨by kernel_rfl, ?_⟩) C ?_
  rotate_left
  · (intro W hS; clear hS; go_simp; try (with_reducible rfl))
  refine wpAnyH_take (i := 4) (v := .int .i64 (ep : Int)) rfl (by kernel_rfl) (by kernel_rfl) (by kernel_rfl) (fun _ _ _ h => h) (Or.inl ⟨by kernel_rfl, ?_⟩) C ?_
  · (intro W hS; have q3W : W.cell? ⟨s, 3, none⟩ = some (.int .i64 (ep : Int)) := (hS.cell (p := ⟨s, 3, none⟩) H.out.2.2.1.lt).trans q3; clear hS; go_simp; first | done | (with_reducible rfl) | simp)
  refine wpAnyH_ready (rs := [0]) (by kernel_rfl) (by simp) ?_
  refine AllReadyH.cons rfl (fun K hK => ?_) AllReadyH.nil
  go_simp
  refine (text_any _ _).mono ?_
  rintro e w4 ⟨rfl, hb⟩
  have C := C.trans (hb.mono C.size)
  refine hK.out _ _ C (fun _ => ?_)
  clear hK K hb
  refine wpAnyH_ready (rs := [5]) (by kernel_rfl) (by simp) ?_
  refine AllReadyH.cons rfl (fun K hK => ?_) AllReadyH.nil
  go_simp
  refine (num_any _ _).mono ?_
  rintro e w5 ⟨rfl, hb⟩
  have C := C.trans (hb.mono C.size)
  refine hK.out _ _ C (fun _ => ?_)
  clear hK K hb
  refine wpAnyH_ready (rs := [6]) (by kernel_rfl) (by simp) ?_
  refine AllReadyH.cons rfl (fun K hK => ?_) AllReadyH.nil
  go_simp
  refine hK.out _ _ (C.alloc C.size _) (fun _ => ?_)
  clear hK K
  refine wpAnyH_take (i := 7) (v := ?_) rfl (by kernel_rfl) (by kernel_rfl) (by kernel_rfl) (fun _ _ _ h => h) (Or.inl ⟨by kernel_rfl, ?_⟩) (C.alloc C.size _) ?_
  rotate_left
  · (intro W hS; clear hS; go_simp; try (with_reducible rfl))
  refine wpAnyH_done (by kernel_rfl) ?_ _
  go_simp
  have hown := own_two w5 S.ent w.heap.size C.size
  rw [show S.ent.epoch = ep from HE.out.symm] at hown
  have hb6 := C.alloc C.size (.cells #[.int .i64 2, .int .i64 0, .string seqT, .slice none 0 0, .int .i64 1, .int .i64 (ep : Int), .string ⟨#[]⟩, .slice none 0 0] 115)
  unfold seqT at hown hb6
  generalize World.alloc w5 _ = w6 at *
  clear C
  have q46 := (hb6.cell (p := ⟨s, 4, none⟩) H.out.2.2.1.lt).trans q4
  have H6 := Lib.hid (And.intro hown hb6)
  clear hown hb6 q3
  go_wp2_with fail
  go_loopw [20, 3, 5] (fun iv items _ wr => ∃ i : Nat, i ≤ N ∧ iv = .int .i64 i ∧ ∃ ia ic, items = .slice ia (2 + i) ic ∧ OwnI w.heap.size wr ia ic (entIts S.ent i) ∧ Below w.heap.size w wr) (fun iv _ _ _ => N - (intOf iv).toNat)
  case atStart => exact ⟨0, by omega, rfl, _, _, rfl, H6.out.1, H6.out.2⟩
  case round =>
    obtain ⟨i, hi, rfl, ia, ic, rfl, hown, hb⟩ := hrel
    have HR := Lib.hid (And.intro hown hb)
    clear hown hb
    by_cases hlt : i < N
    · obtain ⟨x, hx⟩ : ∃ x, S.segs[i]? = some x := ⟨_, List.getElem?_eq_getElem (by have := H.out.2.2.2.2.2.2.2.2.1; omega)⟩
      have hxe : S.ent.exts[i]? = some x.1 := by show (S.segs.map (·.1))[i]? = _; rw [List.getElem?_map, hx]; rfl
      obtain ⟨g, rfl, c0, c1, hgl⟩ := (H.out.2.2.2.2.1.call HR.out.2).at hx
      obtain ⟨x1, x2⟩ := x
      simp only at c0 c1 hxe
      have HX := Lib.hid hxe
      clear hx hxe
      go_wp2_with fail
      refine (num_any _ _).mono ?_
      rintro e w7 ⟨rfl, hb7⟩
      have hba : Below wr.heap.size wr (wr.alloc (.cells #[.int .i64 (x1 : Int), .int .i64 (x2 : Int)] 86)) := (Below.refl _ _).alloc (Nat.le_refl _) _
      have hb7' := hba.trans (hb7.mono hba.size)
      have hown7 := HR.out.1.call hb7'
      have hbb := HR.out.2.trans (hb7'.mono HR.out.2.size)
      have HB := Lib.hid (And.intro hown7 hbb)
      clear hba hb7 hb7' hown7 hbb c0 c1
      go_wp2_with (at_builtin; (refine wpList_append_item rfl (.tmp 24) (.tmp 28) rfl ((HB.out.1.call ((Below.refl _ _).alloc (Nat.le_refl _) _))) (2 + i) (entIts_length _ _ (by have := H.out.2.2.2.2.2.2.2.2.2.2.1; show i ≤ S.exts.length; omega)) rfl w7.heap.size 1 (numIt x1) (by simp [numIt, It.cells, Value.oneCell', It.k, It.n, It.s, It.a, It.l, It.cap]) rfl (heap_alloc_new w7 _) (by omega) (by have := HB.out.2.size; simp; omega) ?_; intro g1 cap1 w8 hown8 hgr8; have HA := Lib.hid (And.intro hown8 hgr8); clear hown8 hgr8))
      go_roundw
      case rel =>
        refine ⟨i + 1, by omega, by go_num, _, _, rfl, ?_, ?_⟩
        · rw [entIts_next _ _ _ HX.out]; exact HA.out.1
        · exact ((HB.out.2.alloc HB.out.2.size _).grown HA.out.2 (by have := HB.out.2.size; simp; omega) (fun k hk => (World.ownsRow.lt HB.out.1 k hk).1))
      case measure => simp [intOf]; omega
    · obtain rfl : i = N := by omega
      have hlE : S.ent.exts.length = i := H.out.2.2.2.2.2.2.2.2.2.2.1
      have hown := HR.out.1
      have hlen2 := entIts_length S.ent i (by omega)
      have hfr := framed_any (w.heap.size ≤ ·) (entIts S.ent i) ia ic wr (hown.lies (by omega)) (leaf_all (entIts_leaf _ _) _ _) (by rw [leaf_sz (entIts_leaf _ _)]; omega)
        (by have := H.out.2.2.2.2.2.1; rw [← entIts_pure, hlE] at this; exact this) (by have := H.out.2.2.2.2.2.2.1; unfold entB at this; rw [← entIts_pure, hlE] at this; exact this.1) (by have := H.out.2.2.2.2.2.2.1; unfold entB at this; rw [← entIts_pure, hlE] at this; omega)
      rw [hlen2, show lstP (It.pureAll (entIts S.ent i)) = entP S.ent by rw [← hlE]; exact entIts_pure _] at hfr
      obtain ⟨t, ht⟩ : ∃ t, t = entS S.ent := ⟨_, rfl⟩
      have hts : t.size ≤ 200 := by have := H.out.2.2.2.2.2.2.1; rw [ht]; unfold entS; rw [str_size, frm_length]; omega
      rw [show str (frm (Cn.bytes (entP S.ent))) = t from ht.symm] at hfr
      have HF := Lib.hid (And.intro hfr ht)
      clear hlE hown hlen2 hfr ht
      go_wp2_with fail
      refine HF.out.1.mono ?_
      rintro e w7 ⟨rfl, hb7⟩
      have hb := HR.out.2.trans (hb7.mono HR.out.2.size)
      have hd7 := H.out.2.2.1.same (hb.block _ H.out.2.2.1.lt)
      have hD7 := H.out.1.below hb
      have hrm := fun (n : Nat) => droom_any (hD7.below (below_dN w7 n)) (S.at_ : Int)
      obtain ⟨p0, -, p2, -⟩ := hd_cells hd7
      obtain ⟨at_, hat⟩ : ∃ at_, at_ = S.at_ := ⟨_, rfl⟩
      obtain ⟨rm, hrmm⟩ : ∃ rm, rm = roomD D at_ := ⟨_, rfl⟩
      rw [← hat] at p2 hrm
      rw [← hrmm] at hrm
      have hat1 : at_ ≤ 1 := by rw [hat]; exact H.out.2.2.2.2.2.2.2.2.2.2.2.2
      have H7 := Lib.hid (And.intro hb (And.intro hd7 (And.intro hD7 (And.intro hrm (And.intro hat hrmm)))))
      clear hb hd7 hD7 hrm hat hrmm hb7 q46 q4 q2
      have hR := H.out.2.2.2.2.2.2.2.1
      unfold layS at hR
      rw [← HF.out.2, ← H7.out.2.2.2.2.1, ← H7.out.2.2.2.2.2] at hR
      have HRR := Lib.hid hR
      clear hR
      by_cases hlt : rm < (t.size : Int)
      · have hd1 : decide (rm < (t.size : Int)) = true := decide_eq_true hlt
        have HL := Lib.hid hlt
        clear hlt
        go_wp2_with fail
        go_quiet ((go_at_call 40; exact Calls.quiet_of_same (still (H7.out.2.2.2.1 _))))
        have hb8 := H7.out.1.trans ((below_dN w7 nq).mono H7.out.1.size)
        have hd8 : Hd (w7.drewN nq) s b S (.slice a i cap) vr := H7.out.2.1
        have hD8 : DiskAt (w7.drewN nq) ρ b D := H7.out.2.2.1.below (below_dN w7 nq)
        clear p0 p2
        generalize World.drewN w7 nq = w8 at *
        obtain ⟨p0, -, p2, -⟩ := hd_cells hd8
        rw [← H7.out.2.2.2.2.1] at p2
        have f2 := hd_free hd8 2
        obtain ⟨a2, ha2⟩ : ∃ a2 : Nat, a2 = 1 - at_ := ⟨_, rfl⟩
        have e12 : (1 : Int) - (at_ : Int) = (a2 : Int) := by omega
        have hd9 : Hd (w8.setCell ⟨s, 2, none⟩ (.int .i64 (a2 : Int))) s b { S with at_ := a2 } (.slice a i cap) vr := hd_set hd8 2 rfl
        have hD9 := diskAt_set hD8 ⟨s, 2, none⟩ (.int .i64 (a2 : Int)) H.out.2.2.2.1
        have ht9 := (TouchX.below (X := (· = s)) (ρ := ρ) hb8).set ⟨s, 2, none⟩ (.int .i64 (a2 : Int)) rfl
        have hput := sput_any (S := { S with at_ := a2 }) (ar := ar) (cr := cr) hD9 H.out.2.1 H.out.2.2.2.2.2.2.2.2.2.2.2.1 (by rw [← H.out.2.2.2.2.2.2.2.2.2.1]; exact hd9) H.out.2.2.2.1 a2 t
        rw [show Value.slice ar ({ S with at_ := a2 } : Stor).recs.length cr = vr from H.out.2.2.2.2.2.2.2.2.2.1.symm] at hput
        have hput' := fun W (e : W = w8.setCell ⟨s, 2, none⟩ (.int .i64 (a2 : Int))) => e ▸ hput
        have H9 := Lib.hid (And.intro hput (And.intro ht9 ha2))
        clear hput hput' ht9 hd9 hD9 hD8 hd8 hb8 ha2
        go_wp2_with fail
        refine H9.out.1.mono ?_
        rintro e w10 ⟨rfl, ρ', hD', hd', ht'⟩
        have H10 := Lib.hid (And.intro hD' (And.intro hd' ht'))
        clear hD' hd' ht'
        go_wp2_with fail
        go_ret
        have hRR := HRR.out.trans (if_pos HL.out)
        rw [hRR, ← H9.out.2.2]
        exact ⟨rfl, ρ', H10.out.1, H10.out.2.1, H9.out.2.1.trans H10.out.2.2⟩
      · have hd1 : decide (rm < (t.size : Int)) = false := decide_eq_false hlt
        have HL := Lib.hid hlt
        clear hlt
        go_wp2_with fail
        go_quiet ((go_at_call 40; exact Calls.quiet_of_same (still (H7.out.2.2.2.1 _))))
        have hb8 := H7.out.1.trans ((below_dN w7 nq).mono H7.out.1.size)
        have hd8 : Hd (w7.drewN nq) s b S (.slice a i cap) vr := H7.out.2.1
        have hD8 : DiskAt (w7.drewN nq) ρ b D := H7.out.2.2.1.below (below_dN w7 nq)
        clear p0 p2
        generalize World.drewN w7 nq = w8 at *
        obtain ⟨p0, -, p2, -⟩ := hd_cells hd8
        rw [← H7.out.2.2.2.2.1] at p2
        have f2 := hd_free hd8 2
        have hap := append_any (show DiskAt w8.drew ρ b D from hD8.below ((Below.refl _ _).drew)) (H.out.2.1.small (by have := H.out.2.2.2.2.2.2.2.2.2.2.2.1; omega)) (at_ : Int) t
        have hs1 : Bud (n + 1) (D.act 0 (at_ : Int) 0 t).1 := H.out.2.1.act (kind := 0) (by decide) _ _ _
        have hRR := HRR.out.trans (if_neg (by have := HL.out; omega))
        generalize D.act 0 (at_ : Int) 0 t = r1 at *
        obtain ⟨D1, e1⟩ := r1
        have H9 := Lib.hid (And.intro hap (And.intro hs1 (And.intro hRR (And.intro hb8 hd8))))
        clear hap hs1 hRR hb8 hd8 hD8
        go_wp2_with fail
        go_region_with (go_at_call 45; refine H9.out.1.mono ?_; rintro e w9 ⟨rfl, ρ1, hD1, ht1⟩; have HX := Lib.hid (And.intro hD1 ht1); clear hD1 ht1)
        all_goals
          have hd9 : Hd w9 s b S (.slice a i cap) vr := (TouchX.of (X := fun _ => False) HX.out.2).hd (show Hd w8.drew s b S (.slice a i cap) vr from H9.out.2.2.2.2) H.out.2.2.2.1 (fun k => k)
          have h09 : ρ1 s = 0 := (HX.out.2.old s (show s < w8.drew.heap.size from H9.out.2.2.2.2.lt)).trans H.out.2.2.2.1
          have ht9 : TouchX (· = s) ρ ρ1 w w9 := (TouchX.below (X := (· = s)) (ρ := ρ) (show Below w.heap.size w w8.drew from H9.out.2.2.2.1.drew)).trans (TouchX.of HX.out.2)
          have H10 := Lib.hid (And.intro hd9 (And.intro h09 ht9))
          clear hd9 h09 ht9
          clear p0 p2 f2
          by_cases he1 : e1 = 0
          · subst he1
            have hsy := ssync_any (s := s) (S := S) (vs := .slice a i cap) (ar := ar) (cr := cr) HX.out.1 (H9.out.2.1.small (by have := H.out.2.2.2.2.2.2.2.2.2.2.2.1; omega)) (by rw [← H.out.2.2.2.2.2.2.2.2.2.1]; exact H10.out.1) H10.out.2.1
            rw [← H.out.2.2.2.2.2.2.2.2.2.1] at hsy
            have hR3 := H9.out.2.2.1.trans (andS_ok rfl)
            have H11 := Lib.hid (And.intro hsy hR3)
            clear hsy hR3
            go_wp2_with fail
            refine H11.out.1.mono ?_
            rintro e w10 ⟨rfl, ρ', hD', hd', ht'⟩
            have H12 := Lib.hid (And.intro hD' (And.intro hd' ht'))
            clear hD' hd' ht'
            go_wp2_with fail
            go_ret
            rw [H11.out.2]
            exact ⟨rfl, ρ', H12.out.1, H12.out.2.1, H10.out.2.2.trans H12.out.2.2⟩
          · have he1' : (e1 == 0) = false := by simpa using he1
            have HE1 := Lib.hid he1
            go_wp2_with fail
            go_ret
            rw [H9.out.2.2.1.trans (andS_no HE1.out)]
            exact ⟨rfl, ρ1, HX.out.1, H10.out.1, H10.out.2.2⟩
end Go.Proofs.YtdmbombjkinboaaGreat
