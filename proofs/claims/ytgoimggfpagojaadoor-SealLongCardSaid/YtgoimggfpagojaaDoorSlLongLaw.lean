/- PROVED HERE: for every text and number the law SealLong returns true (how long a sealed text is hangs on its text's length alone; too long a text is refused), and all read afterwards as they did. Its conditions: the package-level tables of digest and chacha hold what their initialisers lay (tied to the program's text by the card). -/
import Derived.Test.YtgoimggfpagojaaDoorSL1
import Derived.Test.YtgoimggfpagojaaDoorLaidS
import Derived.Deep.RegionHeld
namespace Go.Proofs.YtgoimggfpagojaaDoor
open Go.RowKit
open Cn

theorem lng_same {p q : ByteArray} (h : p.size = q.size) : lngP p = lngP q := by
  unfold lngP
  rw [h, slS_size, slS_size, slT_long h rfl]
theorem lng_seal {key p : ByteArray} (hp : p.size ≤ 1024) : ((sealP key 0 p).size : Int) = lngP p := by
  unfold lngP
  rw [if_neg (by omega), seal_size hp]
theorem ite_take {c : Prop} [Decidable c] {A B : Prop} (h : c) (k : A) : if c then A else B := by rw [if_pos h]; exact k
theorem askZ {key : ByteArray} (h : key.size = 32) : askP key 0 = 0 := by unfold askP; rw [if_neg (fun e => e h), if_pos ⟨by decide, by decide⟩]
theorem set_next {l : List UInt8} {k N : Nat} (hk : k < l.length) (hN : k < N) : (l.take k ++ List.replicate (N - k) 0).set k l[k] = l.take (k + 1) ++ List.replicate (N - (k + 1)) 0 := by
  have hl : (l.take k).length = k := by rw [List.length_take]; omega
  rw [List.set_append_right _ _ (by omega), hl, Nat.sub_self, show N - k = (N - (k + 1)) + 1 by omega, List.replicate_succ, List.take_add_one, List.getElem?_eq_getElem hk, List.append_assoc]
  rfl
set_option maxRecDepth 100000 in
set_option maxHeartbeats 8000000 in
theorem long16_law {w : World} (p : ByteArray) (_ : p.size ≤ maxLen) (n : Int) (_ : -9223372036854775808 ≤ n) (_ : n ≤ 9223372036854775807) (hG : Glob w ∧ GlobQ w) :
    Calls Tryd.prog 10 #[.string p, .int .i64 n] w fun e w' => e = .returned (.bool true) ∧ Below w.heap.size w w' := by
  have haw := fun (W : World) (hb : Below w.heap.size w W) => awake16_any W (hG.1.below hb) (hG.2.below hb)
  by_cases h1 : (1500 : Int) < p.size
  · have H := Lib.hid haw
    clear haw hG
    go_enter Tryd.func10, Tryd.ntmps10
    go_wp2_with fail
    refine (H.out _ (Below.refl _ _)).mono ?_
    rintro e w1 ⟨rfl, h1⟩
    go_wp2_with fail
    go_ret
    exact ⟨rfl, h1⟩
  obtain ⟨t, g0⟩ : ∃ t, n.tmod 1031 = t := ⟨_, rfl⟩
  have ht : -1031 < t ∧ t < 1031 := by subst g0; rw [Int.tmod_eq_emod]; split <;> omega
  obtain ⟨ht1, ht2⟩ := ht
  obtain ⟨N, hNq⟩ : ∃ N : Nat, (N : Int) = (t + 1031) % 1031 := ⟨((t + 1031) % 1031).toNat, by omega⟩
  have g2 : (t + 1031).tmod 1031 = (N : Int) := by rw [Int.tmod_eq_emod_of_nonneg (by omega)]; exact hNq.symm
  have hN : N < 1031 := by omega
  have hs := fun (Z B : ByteArray) (hZ : Z.size = 32) (W : World) (hb : Below w.heap.size w W) => sseal_any Z 0 B (by omega) W (hG.1.below hb) (hG.2.below hb)
  unfold sealV at hs
  obtain ⟨w1, hmk, hown, hb1⟩ := pmake_bytes w N (by omega)
  have hr1 : OwnB w.heap.size w1 (some ⟨w.heap.size, 0, none⟩) N (p.data.toList.take 0 ++ List.replicate (N - 0) 0) := hown
  have H := Lib.hid (And.intro haw (And.intro hs (And.intro hr1 hb1)))
  clear haw hs hr1 hb1 hown hG hNq
  obtain ⟨mkW, hmkW⟩ : ∃ f : World → World, ∀ W : World, (Instr.makeSlice 42 (.int .i64 (N : Int)) (.int .i64 (N : Int))).run Tryd.prog W = .ok (.slice (some ⟨W.heap.size, 0, none⟩) N N) (f W) ∧ OwnB W.heap.size (f W) (some ⟨W.heap.size, 0, none⟩) N (List.replicate N 0) ∧ Below W.heap.size W (f W) := ⟨fun W => Classical.choose (pmake_bytes W N (by omega)), fun W => Classical.choose_spec (pmake_bytes W N (by omega))⟩
  have HK := Lib.hid hmkW
  clear hmkW
  go_enter Tryd.func10, Tryd.ntmps10
  go_wp2_with fail
  clear hmk g0 g2
  go_loopw [6] (fun i wr => ∃ k : Nat, k ≤ N ∧ k ≤ p.size ∧ i = .int .i64 (k : Int) ∧ OwnB w.heap.size wr (some ⟨w.heap.size, 0, none⟩) N (p.data.toList.take k ++ List.replicate (N - k) 0) ∧ Below w.heap.size w wr) (fun i _ => N - (intOf i).toNat)
  case atStart => exact ⟨0, by omega, by omega, rfl, H.out.2.2.1, H.out.2.2.2⟩
  case round =>
    obtain ⟨k, hkN, hkp, rfl, hown, hbe⟩ := hrel
    have hll : (p.data.toList.take k ++ List.replicate (N - k) 0).length = N := by rw [List.length_append, List.length_take, List.length_replicate]; have : p.data.toList.length = p.size := rfl; omega
    have hsz := hbe.size
    by_cases hgo : k < N ∧ k < p.size
    · obtain ⟨hlN, hlp⟩ := hgo
      have hcell := hown.cellAt k (by omega)
      have hfz := hown.frozenAt k
      have hput := hown.put k p[k]
      have hset : (p.data.toList.take k ++ List.replicate (N - k) 0).set k p[k] = p.data.toList.take (k + 1) ++ List.replicate (N - (k + 1)) 0 := set_next (l := p.data.toList) hlp hlN
      rw [hset] at hput
      have HN := Lib.hid (And.intro hput hbe)
      clear hput hset hown hbe hll
      go_wp2_with fail
      go_roundw
      case rel => exact ⟨k + 1, by omega, by omega, by go_num, HN.out.1, HN.out.2.setCell (p := ⟨w.heap.size, k, none⟩) (Nat.le_refl _) _⟩
      case measure => simp [intOf]; omega
    · have hg1 : ¬ ((k : Int) < (N : Int) ∧ (k : Int) < (p.size : Int)) := fun ⟨a, b⟩ => hgo ⟨by omega, by omega⟩
      obtain ⟨L, hL⟩ : ∃ L, L = p.data.toList.take k ++ List.replicate (N - k) 0 := ⟨_, rfl⟩
      rw [← hL] at hown hll
      obtain ⟨B, hB⟩ : ∃ B, B = str L := ⟨_, rfl⟩
      have hBs : B.size = N := by rw [hB, str_size, hll]
      obtain ⟨Z, hZ⟩ : ∃ Z, Z = str (List.replicate 32 (0 : UInt8)) := ⟨_, rfl⟩
      have hZs : Z.size = 32 := by rw [hZ]; exact z16_size
      obtain ⟨w2, hmk0, hownK, hb2⟩ := pmake_bytes wr 32 (by decide)
      have hmk2 : (Instr.makeSlice 42 (.int .i64 32) (.int .i64 32)).run Tryd.prog wr = .ok (.slice (some ⟨wr.heap.size, 0, none⟩) 32 32) w2 := hmk0
      have hcvK := hownK.conv
      rw [List.length_replicate, ← hZ] at hcvK
      have hown2 := hown.call hb2
      have hcvB := hown2.conv
      rw [hll, ← hB] at hcvB
      have hB2 := sbelow_call hbe hb2
      have hs2 := H.out.2.1 Z B hZs w2 hB2
      have haz := askZ hZs
      have hlg : lngP B = lngP (str (List.replicate N 0)) := lng_same (by rw [hBs, str_size, List.length_replicate])
      by_cases hbig : 1024 < N
      · have hbigi : (1024 : Int) < (N : Int) := by omega
        have hse : sealE Z 0 B = (⟨#[]⟩, 2) := by unfold sealE; rw [if_neg (fun e => e haz), if_pos (by omega)]
        have hl0 : lngP B = 0 := by unfold lngP; rw [if_pos (by omega)]
        rw [hse] at hs2
        have hlong := fun W : World => slong_any B W
        rw [hl0] at hlong
        have HM := Lib.hid (And.intro hs2 (And.intro hB2 (And.intro hown2 (And.intro hll (And.intro hB hlong)))))
        clear hs2 hB2 hown2 hll hown hbe hb2 hownK hmk0 hlong hse hl0 hlg haz hZ hL hB hbig
        by_cases hkN2 : k < N
        · have hkp2 : ¬ ((k : Int) < (p.size : Int)) := by omega
          clear hgo hg1
          go_wp2_with fail
          refine HM.out.1.mono ?_
          rintro e w3 ⟨rfl, k3⟩
          have ho3 := HM.out.2.2.1.call k3
          have hB3 := sbelow_call HM.out.2.1 k3
          have HP := Lib.hid (And.intro hB3 ho3)
          clear k3 hB3 ho3 hmk2 hcvK hcvB
          go_wp2_with fail
          refine (H.out.1 _ HP.out.1).mono ?_
          rintro e w4 ⟨rfl, k4⟩
          have ho4 := HP.out.2.call k4
          have hcvB := ho4.conv
          rw [HM.out.2.2.2.1, ← HM.out.2.2.2.2.1] at hcvB
          have HR := Lib.hid (sbelow_call HP.out.1 k4)
          clear k4 ho4
          go_wp2_with fail
          refine (HM.out.2.2.2.2.2 _).mono ?_
          rintro e w5 ⟨rfl, k5⟩
          have HT := Lib.hid (sbelow_call HR.out k5)
          clear k5 hcvB
          go_wp2_with fail
          go_ret
          exact ⟨rfl, HT.out⟩
        · have hkp2 : ¬ ((k : Int) < (N : Int)) := by omega
          clear hgo hg1
          go_wp2_with fail
          refine HM.out.1.mono ?_
          rintro e w3 ⟨rfl, k3⟩
          have ho3 := HM.out.2.2.1.call k3
          have hB3 := sbelow_call HM.out.2.1 k3
          have HP := Lib.hid (And.intro hB3 ho3)
          clear k3 hB3 ho3 hmk2 hcvK hcvB
          go_wp2_with fail
          refine (H.out.1 _ HP.out.1).mono ?_
          rintro e w4 ⟨rfl, k4⟩
          have ho4 := HP.out.2.call k4
          have hcvB := ho4.conv
          rw [HM.out.2.2.2.1, ← HM.out.2.2.2.2.1] at hcvB
          have HR := Lib.hid (sbelow_call HP.out.1 k4)
          clear k4 ho4
          go_wp2_with fail
          refine (HM.out.2.2.2.2.2 _).mono ?_
          rintro e w5 ⟨rfl, k5⟩
          have HT := Lib.hid (sbelow_call HR.out k5)
          clear k5 hcvB
          go_wp2_with fail
          go_ret
          exact ⟨rfl, HT.out⟩
      · have hbigi : ¬ ((1024 : Int) < (N : Int)) := by omega
        have hse : sealE Z 0 B = (sealP Z 0 B, 0) := by unfold sealE; rw [if_neg (fun e => e haz), if_neg (by omega)]
        rw [hse] at hs2
        obtain ⟨S, hS⟩ : ∃ S, S = sealP Z 0 B := ⟨_, rfl⟩
        have hSG : lngP B = (S.size : Int) := by rw [hS]; exact (lng_seal (by omega)).symm
        have hlong := fun W : World => slong_any B W
        have hlongZ := fun W : World => slong_any (str (List.replicate N 0)) W
        rw [← hlg, hSG] at hlongZ
        rw [hSG] at hlong
        rw [← hS] at hs2
        have HM := Lib.hid (And.intro hs2 (And.intro hB2 (And.intro hown2 (And.intro hll (And.intro hB (And.intro hlong hlongZ))))))
        clear hs2 hB2 hown2 hll hown hbe hb2 hownK hmk0 hlong hlongZ hse hlg haz hZ hL hB hbig hS hSG
        by_cases hkN2 : k < N
        · have hkp2 : ¬ ((k : Int) < (p.size : Int)) := by omega
          clear hgo hg1
          go_wp2_with fail
          refine HM.out.1.mono ?_
          rintro e w3 ⟨rfl, k3⟩
          have ho3 := HM.out.2.2.1.call k3
          have hB3 := sbelow_call HM.out.2.1 k3
          have HP := Lib.hid (And.intro hB3 ho3)
          clear k3 hB3 ho3 hmk2 hcvK hcvB
          go_wp2_with fail
          refine wp_region_held (S := fun W : World => OwnB w.heap.size W (some ⟨w.heap.size, 0, none⟩) N L) (by kernel_rfl) ?_
          change wpAnyH _ _ _ _ _ _ _ _ (World.drew _)
          generalize hv0 : World.drew _ = v0
          have E0 : OwnB w.heap.size v0 (some ⟨w.heap.size, 0, none⟩) N L := by rw [← hv0]; exact HP.out.2.drew
          have F0 : Below w.heap.size w v0 := by rw [← hv0]; exact HP.out.1.drew
          clear hv0
          refine wpAnyH_ready (rs := [0]) (by kernel_rfl) (by simp) ?_
          refine AllReadyH.cons rfl (fun K hK => ?_) AllReadyH.nil
          go_simp
          refine (H.out.1 v0 F0).mono ?_
          rintro e v1 ⟨rfl, hb⟩
          have F1 := F0.trans (hb.mono F0.size)
          have E1 : OwnB w.heap.size v1 (some ⟨w.heap.size, 0, none⟩) N L := E0.call hb
          refine hK.out _ _ E1 (fun _ => ?_)
          clear hK K hb
          refine wpAnyH_take (i := 1) (v := ?_) rfl (by kernel_rfl) (by kernel_rfl) (by kernel_rfl) (fun _ _ _ h => h) (Or.inl ⟨by kernel_rfl, ?_⟩) E1 ?_
          rotate_left
          · (intro W hS; clear hS; go_simp; try (with_reducible rfl))
          refine wpAnyH_take (i := 2) (v := ?_) rfl (by kernel_rfl) (by kernel_rfl) (by kernel_rfl) (fun _ _ _ h => h) (Or.inl ⟨by kernel_rfl, ?_⟩) E1 ?_
          rotate_left
          · (intro W hS; clear hS; go_simp; try (with_reducible rfl))
          refine wpAnyH_take (i := 3) (v := ?_) rfl (by kernel_rfl) (by kernel_rfl) (by kernel_rfl) (fun _ _ _ h => h) (Or.inl ⟨by kernel_rfl, ?_⟩) E1 ?_
          rotate_left
          · (intro W hS; clear hS; go_simp; try (with_reducible rfl))
          refine wpAnyH_take (i := 4) (v := ?_) rfl (by kernel_rfl) (by kernel_rfl) (by kernel_rfl) (fun _ _ _ h => h) (Or.inl ⟨by kernel_rfl, ?_⟩) E1 ?_
          rotate_left
          · (intro W hS; clear hS; go_simp; try (with_reducible rfl))
          refine wpAnyH_take (i := 5) (v := ?_) rfl (by kernel_rfl) (by kernel_rfl) (by kernel_rfl) (fun _ _ _ h => h) (Or.inl ⟨by kernel_rfl, ?_⟩) E1 ?_
          rotate_left
          · (intro W hS; clear hS; go_simp; try (with_reducible rfl))
          refine wpAnyH_take (i := 6) (v := ?_) rfl (by kernel_rfl) (by kernel_rfl) (by kernel_rfl) (fun _ _ _ h => h) (Or.inl ⟨by kernel_rfl, ?_⟩) E1 ?_
          rotate_left
          · (intro W hS; clear hS; go_simp; try (with_reducible rfl))
          refine wpAnyH_take (i := 7) (v := ?_) rfl (by kernel_rfl) (by kernel_rfl) (by kernel_rfl) (fun _ _ _ h => h) (Or.inl ⟨by kernel_rfl, ?_⟩) E1 ?_
          rotate_left
          · (intro W hS; clear hS; go_simp; try (with_reducible rfl))
          refine wpAnyH_take (i := 8) (v := ?_) rfl (by kernel_rfl) (by kernel_rfl) (by kernel_rfl) (fun _ _ _ h => h) (Or.inl ⟨by kernel_rfl, ?_⟩) E1 ?_
          rotate_left
          · (intro W hS; clear hS; go_simp; try (with_reducible rfl))
          have hcvB := E1.conv
          rw [HM.out.2.2.2.1, ← HM.out.2.2.2.2.1] at hcvB
          refine wpAnyH_ready (rs := [9]) (by kernel_rfl) (by simp) ?_
          refine AllReadyH.cons rfl (fun K hK => ?_) AllReadyH.nil
          go_simp
          refine hK.out _ _ E1 (fun _ => ?_)
          clear hK K hcvB
          refine wpAnyH_ready (rs := [10]) (by kernel_rfl) (by simp) ?_
          refine AllReadyH.cons rfl (fun K hK => ?_) AllReadyH.nil
          go_simp
          refine (HM.out.2.2.2.2.2.1 v1).mono ?_
          rintro e v2 ⟨rfl, hb⟩
          have F2 := F1.trans (hb.mono F1.size)
          have E2 : OwnB w.heap.size v2 (some ⟨w.heap.size, 0, none⟩) N L := E1.call hb
          refine hK.out _ _ E2 (fun _ => ?_)
          clear hK K hb
          refine wpAnyH_take (i := 11) (v := .bool true) rfl (by kernel_rfl) (by kernel_rfl) (by kernel_rfl) (fun _ _ _ h => h) (Or.inl ⟨by kernel_rfl, ?_⟩) E2 ?_
          · (intro W hS; clear hS; go_simp; try simp)
          refine wpAnyH_take (i := 12) (v := .bool true) rfl (by kernel_rfl) (by kernel_rfl) (by kernel_rfl) (fun _ _ _ h => h) (Or.inl ⟨by kernel_rfl, ?_⟩) E2 ?_
          · (intro W hS; clear hS; go_simp; try simp)
          refine wpAnyH_take (i := 13) (v := .bool true) rfl (by kernel_rfl) (by kernel_rfl) (by kernel_rfl) (fun _ _ _ h => h) (Or.inl ⟨by kernel_rfl, ?_⟩) E2 ?_
          · (intro W hS; clear hS; go_simp; try simp)
          refine wpAnyH_take (i := 14) (v := ?_) rfl (by kernel_rfl) (by kernel_rfl) (by kernel_rfl) (fun _ _ _ h => h) (Or.inl ⟨by kernel_rfl, ?_⟩) E2 ?_
          rotate_left
          · (intro W hS; clear hS; go_simp; try (with_reducible rfl))
          refine wpAnyH_take (i := 17) (v := ?_) rfl (by kernel_rfl) (by kernel_rfl) (by kernel_rfl) (fun _ _ _ h => h) (Or.inl ⟨by kernel_rfl, ?_⟩) E2 ?_
          rotate_left
          · (intro W hS; clear hS; go_simp; try (with_reducible rfl))
          refine wpAnyH_ready (rs := [15, 18]) (by kernel_rfl) (by simp) ?_
          refine AllReadyH.cons (i := 15) (rs := [18]) (o := ?o101) ?h101 (fun K hK => ?_) ?_
          case h101 => (simp only [List.getElem?_toArray, List.getElem?_cons_succ]; exact rfl)
          · have hcvB := E2.conv
            rw [HM.out.2.2.2.1, ← HM.out.2.2.2.2.1] at hcvB
            go_simp
            refine hK.out _ _ E2 (fun _ => ?_)
            clear hK K hcvB
            refine wpAnyH_ready (rs := [16, 18]) (by kernel_rfl) (by simp) ?_
            refine AllReadyH.cons (i := 16) (rs := [18]) (o := ?o102) ?h102 (fun K hK => ?_) ?_
            case h102 => (simp only [List.getElem?_toArray, List.getElem?_cons_succ]; exact rfl)
            · go_simp
              refine (HM.out.2.2.2.2.2.1 v2).mono ?_
              rintro e v3 ⟨rfl, hb⟩
              have F3 := F2.trans (hb.mono F2.size)
              have E3 : OwnB w.heap.size v3 (some ⟨w.heap.size, 0, none⟩) N L := E2.call hb
              refine hK.out _ _ E3 (fun _ => ?_)
              clear hK K hb
              refine wpAnyH_ready (rs := [18]) (by kernel_rfl) (by simp) ?_
              refine AllReadyH.cons (i := 18) (rs := []) (o := ?o103) ?h103 (fun K hK => ?_) AllReadyH.nil
              case h103 => (simp only [List.getElem?_toArray, List.getElem?_cons_succ]; exact rfl)
              have hmk := (HK.out v3).1
              have Z4 := (HK.out v3).2.1
              have hb := (HK.out v3).2.2
              have F4 := F3.trans (hb.mono F3.size)
              have E4 : OwnB w.heap.size (mkW v3) (some ⟨w.heap.size, 0, none⟩) N L := E3.call hb
              go_simp
              refine hK.out _ _ E4 (fun _ => ?_)
              clear hK K hb hmk
              generalize mkW v3 = v4 at *
              refine wpAnyH_ready (rs := [19]) (by kernel_rfl) (by simp) ?_
              refine AllReadyH.cons (i := 19) (rs := []) (o := ?o104) ?h104 (fun K hK => ?_) AllReadyH.nil
              case h104 => (simp only [List.getElem?_toArray, List.getElem?_cons_succ]; exact rfl)
              have hcvZ := Z4.conv
              rw [List.length_replicate] at hcvZ
              go_simp
              refine hK.out _ _ E4 (fun _ => ?_)
              clear hK K hcvZ
              refine wpAnyH_ready (rs := [20]) (by kernel_rfl) (by simp) ?_
              refine AllReadyH.cons (i := 20) (rs := []) (o := ?o105) ?h105 (fun K hK => ?_) AllReadyH.nil
              case h105 => (simp only [List.getElem?_toArray, List.getElem?_cons_succ]; exact rfl)
              go_simp
              refine (HM.out.2.2.2.2.2.2 v4).mono ?_
              rintro e v5 ⟨rfl, hb⟩
              have F5 := F4.trans (hb.mono F4.size)
              have E5 : OwnB w.heap.size v5 (some ⟨w.heap.size, 0, none⟩) N L := E4.call hb
              refine hK.out _ _ E5 (fun _ => ?_)
              clear hK K hb
              refine wpAnyH_take (i := 21) (v := ?_) rfl (by kernel_rfl) (by kernel_rfl) (by kernel_rfl) (fun _ _ _ h => h) (Or.inl ⟨by kernel_rfl, ?_⟩) E5 ?_
              rotate_left
              · (intro W hS; clear hS; go_simp; try (with_reducible rfl))
              refine wpAnyH_take (i := 22) (v := ?_) rfl (by kernel_rfl) (by kernel_rfl) (by kernel_rfl) (fun _ _ _ h => h) (Or.inl ⟨by kernel_rfl, ?_⟩) E5 ?_
              rotate_left
              · (intro W hS; clear hS; go_simp; try (with_reducible rfl))
              refine wpAnyH_take (i := 23) (v := ?_) rfl (by kernel_rfl) (by kernel_rfl) (by kernel_rfl) (fun _ _ _ h => h) (Or.inl ⟨by kernel_rfl, ?_⟩) E5 ?_
              rotate_left
              · (intro W hS; clear hS; go_simp; try (with_reducible rfl))
              refine wpAnyH_done (by kernel_rfl) ?_ _
              go_simp
              go_wp2_with fail
              go_ret
              exact ⟨rfl, F5⟩
            refine AllReadyH.cons (i := 18) (rs := []) (o := ?o106) ?h106 (fun K hK => ?_) AllReadyH.nil
            case h106 => (simp only [List.getElem?_toArray, List.getElem?_cons_succ]; exact rfl)
            have hmk := (HK.out v2).1
            have Z3 := (HK.out v2).2.1
            have hb := (HK.out v2).2.2
            have F3 := F2.trans (hb.mono F2.size)
            have E3 : OwnB w.heap.size (mkW v2) (some ⟨w.heap.size, 0, none⟩) N L := E2.call hb
            go_simp
            refine hK.out _ _ E3 (fun _ => ?_)
            clear hK K hb hmk
            generalize mkW v2 = v3 at *
            refine wpAnyH_ready (rs := [16, 19]) (by kernel_rfl) (by simp) ?_
            refine AllReadyH.cons (i := 16) (rs := [19]) (o := ?o107) ?h107 (fun K hK => ?_) ?_
            case h107 => (simp only [List.getElem?_toArray, List.getElem?_cons_succ]; exact rfl)
            · go_simp
              refine (HM.out.2.2.2.2.2.1 v3).mono ?_
              rintro e v4 ⟨rfl, hb⟩
              have F4 := F3.trans (hb.mono F3.size)
              have E4 : OwnB w.heap.size v4 (some ⟨w.heap.size, 0, none⟩) N L := E3.call hb
              have Z4 := Z3.call hb
              refine hK.out _ _ E4 (fun _ => ?_)
              clear hK K hb
              refine wpAnyH_ready (rs := [19]) (by kernel_rfl) (by simp) ?_
              refine AllReadyH.cons (i := 19) (rs := []) (o := ?o108) ?h108 (fun K hK => ?_) AllReadyH.nil
              case h108 => (simp only [List.getElem?_toArray, List.getElem?_cons_succ]; exact rfl)
              have hcvZ := Z4.conv
              rw [List.length_replicate] at hcvZ
              go_simp
              refine hK.out _ _ E4 (fun _ => ?_)
              clear hK K hcvZ
              refine wpAnyH_ready (rs := [20]) (by kernel_rfl) (by simp) ?_
              refine AllReadyH.cons (i := 20) (rs := []) (o := ?o109) ?h109 (fun K hK => ?_) AllReadyH.nil
              case h109 => (simp only [List.getElem?_toArray, List.getElem?_cons_succ]; exact rfl)
              go_simp
              refine (HM.out.2.2.2.2.2.2 v4).mono ?_
              rintro e v5 ⟨rfl, hb⟩
              have F5 := F4.trans (hb.mono F4.size)
              have E5 : OwnB w.heap.size v5 (some ⟨w.heap.size, 0, none⟩) N L := E4.call hb
              refine hK.out _ _ E5 (fun _ => ?_)
              clear hK K hb
              refine wpAnyH_take (i := 21) (v := ?_) rfl (by kernel_rfl) (by kernel_rfl) (by kernel_rfl) (fun _ _ _ h => h) (Or.inl ⟨by kernel_rfl, ?_⟩) E5 ?_
              rotate_left
              · (intro W hS; clear hS; go_simp; try (with_reducible rfl))
              refine wpAnyH_take (i := 22) (v := ?_) rfl (by kernel_rfl) (by kernel_rfl) (by kernel_rfl) (fun _ _ _ h => h) (Or.inl ⟨by kernel_rfl, ?_⟩) E5 ?_
              rotate_left
              · (intro W hS; clear hS; go_simp; try (with_reducible rfl))
              refine wpAnyH_take (i := 23) (v := ?_) rfl (by kernel_rfl) (by kernel_rfl) (by kernel_rfl) (fun _ _ _ h => h) (Or.inl ⟨by kernel_rfl, ?_⟩) E5 ?_
              rotate_left
              · (intro W hS; clear hS; go_simp; try (with_reducible rfl))
              refine wpAnyH_done (by kernel_rfl) ?_ _
              go_simp
              go_wp2_with fail
              go_ret
              exact ⟨rfl, F5⟩
            refine AllReadyH.cons (i := 19) (rs := []) (o := ?o110) ?h110 (fun K hK => ?_) AllReadyH.nil
            case h110 => (simp only [List.getElem?_toArray, List.getElem?_cons_succ]; exact rfl)
            have hcvZ := Z3.conv
            rw [List.length_replicate] at hcvZ
            go_simp
            refine hK.out _ _ E3 (fun _ => ?_)
            clear hK K hcvZ
            refine wpAnyH_ready (rs := [16]) (by kernel_rfl) (by simp) ?_
            refine AllReadyH.cons (i := 16) (rs := []) (o := ?o111) ?h111 (fun K hK => ?_) AllReadyH.nil
            case h111 => (simp only [List.getElem?_toArray, List.getElem?_cons_succ]; exact rfl)
            go_simp
            refine (HM.out.2.2.2.2.2.1 v3).mono ?_
            rintro e v4 ⟨rfl, hb⟩
            have F4 := F3.trans (hb.mono F3.size)
            have E4 : OwnB w.heap.size v4 (some ⟨w.heap.size, 0, none⟩) N L := E3.call hb
            have Z4 := Z3.call hb
            refine hK.out _ _ E4 (fun _ => ?_)
            clear hK K hb
            refine wpAnyH_ready (rs := [20]) (by kernel_rfl) (by simp) ?_
            refine AllReadyH.cons (i := 20) (rs := []) (o := ?o112) ?h112 (fun K hK => ?_) AllReadyH.nil
            case h112 => (simp only [List.getElem?_toArray, List.getElem?_cons_succ]; exact rfl)
            go_simp
            refine (HM.out.2.2.2.2.2.2 v4).mono ?_
            rintro e v5 ⟨rfl, hb⟩
            have F5 := F4.trans (hb.mono F4.size)
            have E5 : OwnB w.heap.size v5 (some ⟨w.heap.size, 0, none⟩) N L := E4.call hb
            refine hK.out _ _ E5 (fun _ => ?_)
            clear hK K hb
            refine wpAnyH_take (i := 21) (v := ?_) rfl (by kernel_rfl) (by kernel_rfl) (by kernel_rfl) (fun _ _ _ h => h) (Or.inl ⟨by kernel_rfl, ?_⟩) E5 ?_
            rotate_left
            · (intro W hS; clear hS; go_simp; try (with_reducible rfl))
            refine wpAnyH_take (i := 22) (v := ?_) rfl (by kernel_rfl) (by kernel_rfl) (by kernel_rfl) (fun _ _ _ h => h) (Or.inl ⟨by kernel_rfl, ?_⟩) E5 ?_
            rotate_left
            · (intro W hS; clear hS; go_simp; try (with_reducible rfl))
            refine wpAnyH_take (i := 23) (v := ?_) rfl (by kernel_rfl) (by kernel_rfl) (by kernel_rfl) (fun _ _ _ h => h) (Or.inl ⟨by kernel_rfl, ?_⟩) E5 ?_
            rotate_left
            · (intro W hS; clear hS; go_simp; try (with_reducible rfl))
            refine wpAnyH_done (by kernel_rfl) ?_ _
            go_simp
            go_wp2_with fail
            go_ret
            exact ⟨rfl, F5⟩
          refine AllReadyH.cons (i := 18) (rs := []) (o := ?o113) ?h113 (fun K hK => ?_) AllReadyH.nil
          case h113 => (simp only [List.getElem?_toArray, List.getElem?_cons_succ]; exact rfl)
          have hmk := (HK.out v2).1
          have Z3 := (HK.out v2).2.1
          have hb := (HK.out v2).2.2
          have F3 := F2.trans (hb.mono F2.size)
          have E3 : OwnB w.heap.size (mkW v2) (some ⟨w.heap.size, 0, none⟩) N L := E2.call hb
          go_simp
          refine hK.out _ _ E3 (fun _ => ?_)
          clear hK K hb hmk
          generalize mkW v2 = v3 at *
          refine wpAnyH_ready (rs := [15, 19]) (by kernel_rfl) (by simp) ?_
          refine AllReadyH.cons (i := 15) (rs := [19]) (o := ?o114) ?h114 (fun K hK => ?_) ?_
          case h114 => (simp only [List.getElem?_toArray, List.getElem?_cons_succ]; exact rfl)
          · have hcvB := E3.conv
            rw [HM.out.2.2.2.1, ← HM.out.2.2.2.2.1] at hcvB
            go_simp
            refine hK.out _ _ E3 (fun _ => ?_)
            clear hK K hcvB
            refine wpAnyH_ready (rs := [16, 19]) (by kernel_rfl) (by simp) ?_
            refine AllReadyH.cons (i := 16) (rs := [19]) (o := ?o115) ?h115 (fun K hK => ?_) ?_
            case h115 => (simp only [List.getElem?_toArray, List.getElem?_cons_succ]; exact rfl)
            · go_simp
              refine (HM.out.2.2.2.2.2.1 v3).mono ?_
              rintro e v4 ⟨rfl, hb⟩
              have F4 := F3.trans (hb.mono F3.size)
              have E4 : OwnB w.heap.size v4 (some ⟨w.heap.size, 0, none⟩) N L := E3.call hb
              have Z4 := Z3.call hb
              refine hK.out _ _ E4 (fun _ => ?_)
              clear hK K hb
              refine wpAnyH_ready (rs := [19]) (by kernel_rfl) (by simp) ?_
              refine AllReadyH.cons (i := 19) (rs := []) (o := ?o116) ?h116 (fun K hK => ?_) AllReadyH.nil
              case h116 => (simp only [List.getElem?_toArray, List.getElem?_cons_succ]; exact rfl)
              have hcvZ := Z4.conv
              rw [List.length_replicate] at hcvZ
              go_simp
              refine hK.out _ _ E4 (fun _ => ?_)
              clear hK K hcvZ
              refine wpAnyH_ready (rs := [20]) (by kernel_rfl) (by simp) ?_
              refine AllReadyH.cons (i := 20) (rs := []) (o := ?o117) ?h117 (fun K hK => ?_) AllReadyH.nil
              case h117 => (simp only [List.getElem?_toArray, List.getElem?_cons_succ]; exact rfl)
              go_simp
              refine (HM.out.2.2.2.2.2.2 v4).mono ?_
              rintro e v5 ⟨rfl, hb⟩
              have F5 := F4.trans (hb.mono F4.size)
              have E5 : OwnB w.heap.size v5 (some ⟨w.heap.size, 0, none⟩) N L := E4.call hb
              refine hK.out _ _ E5 (fun _ => ?_)
              clear hK K hb
              refine wpAnyH_take (i := 21) (v := ?_) rfl (by kernel_rfl) (by kernel_rfl) (by kernel_rfl) (fun _ _ _ h => h) (Or.inl ⟨by kernel_rfl, ?_⟩) E5 ?_
              rotate_left
              · (intro W hS; clear hS; go_simp; try (with_reducible rfl))
              refine wpAnyH_take (i := 22) (v := ?_) rfl (by kernel_rfl) (by kernel_rfl) (by kernel_rfl) (fun _ _ _ h => h) (Or.inl ⟨by kernel_rfl, ?_⟩) E5 ?_
              rotate_left
              · (intro W hS; clear hS; go_simp; try (with_reducible rfl))
              refine wpAnyH_take (i := 23) (v := ?_) rfl (by kernel_rfl) (by kernel_rfl) (by kernel_rfl) (fun _ _ _ h => h) (Or.inl ⟨by kernel_rfl, ?_⟩) E5 ?_
              rotate_left
              · (intro W hS; clear hS; go_simp; try (with_reducible rfl))
              refine wpAnyH_done (by kernel_rfl) ?_ _
              go_simp
              go_wp2_with fail
              go_ret
              exact ⟨rfl, F5⟩
            refine AllReadyH.cons (i := 19) (rs := []) (o := ?o118) ?h118 (fun K hK => ?_) AllReadyH.nil
            case h118 => (simp only [List.getElem?_toArray, List.getElem?_cons_succ]; exact rfl)
            have hcvZ := Z3.conv
            rw [List.length_replicate] at hcvZ
            go_simp
            refine hK.out _ _ E3 (fun _ => ?_)
            clear hK K hcvZ
            refine wpAnyH_ready (rs := [16]) (by kernel_rfl) (by simp) ?_
            refine AllReadyH.cons (i := 16) (rs := []) (o := ?o119) ?h119 (fun K hK => ?_) AllReadyH.nil
            case h119 => (simp only [List.getElem?_toArray, List.getElem?_cons_succ]; exact rfl)
            go_simp
            refine (HM.out.2.2.2.2.2.1 v3).mono ?_
            rintro e v4 ⟨rfl, hb⟩
            have F4 := F3.trans (hb.mono F3.size)
            have E4 : OwnB w.heap.size v4 (some ⟨w.heap.size, 0, none⟩) N L := E3.call hb
            have Z4 := Z3.call hb
            refine hK.out _ _ E4 (fun _ => ?_)
            clear hK K hb
            refine wpAnyH_ready (rs := [20]) (by kernel_rfl) (by simp) ?_
            refine AllReadyH.cons (i := 20) (rs := []) (o := ?o120) ?h120 (fun K hK => ?_) AllReadyH.nil
            case h120 => (simp only [List.getElem?_toArray, List.getElem?_cons_succ]; exact rfl)
            go_simp
            refine (HM.out.2.2.2.2.2.2 v4).mono ?_
            rintro e v5 ⟨rfl, hb⟩
            have F5 := F4.trans (hb.mono F4.size)
            have E5 : OwnB w.heap.size v5 (some ⟨w.heap.size, 0, none⟩) N L := E4.call hb
            refine hK.out _ _ E5 (fun _ => ?_)
            clear hK K hb
            refine wpAnyH_take (i := 21) (v := ?_) rfl (by kernel_rfl) (by kernel_rfl) (by kernel_rfl) (fun _ _ _ h => h) (Or.inl ⟨by kernel_rfl, ?_⟩) E5 ?_
            rotate_left
            · (intro W hS; clear hS; go_simp; try (with_reducible rfl))
            refine wpAnyH_take (i := 22) (v := ?_) rfl (by kernel_rfl) (by kernel_rfl) (by kernel_rfl) (fun _ _ _ h => h) (Or.inl ⟨by kernel_rfl, ?_⟩) E5 ?_
            rotate_left
            · (intro W hS; clear hS; go_simp; try (with_reducible rfl))
            refine wpAnyH_take (i := 23) (v := ?_) rfl (by kernel_rfl) (by kernel_rfl) (by kernel_rfl) (fun _ _ _ h => h) (Or.inl ⟨by kernel_rfl, ?_⟩) E5 ?_
            rotate_left
            · (intro W hS; clear hS; go_simp; try (with_reducible rfl))
            refine wpAnyH_done (by kernel_rfl) ?_ _
            go_simp
            go_wp2_with fail
            go_ret
            exact ⟨rfl, F5⟩
          refine AllReadyH.cons (i := 19) (rs := []) (o := ?o121) ?h121 (fun K hK => ?_) AllReadyH.nil
          case h121 => (simp only [List.getElem?_toArray, List.getElem?_cons_succ]; exact rfl)
          have hcvZ := Z3.conv
          rw [List.length_replicate] at hcvZ
          go_simp
          refine hK.out _ _ E3 (fun _ => ?_)
          clear hK K hcvZ
          refine wpAnyH_ready (rs := [15]) (by kernel_rfl) (by simp) ?_
          refine AllReadyH.cons (i := 15) (rs := []) (o := ?o122) ?h122 (fun K hK => ?_) AllReadyH.nil
          case h122 => (simp only [List.getElem?_toArray, List.getElem?_cons_succ]; exact rfl)
          have hcvB := E3.conv
          rw [HM.out.2.2.2.1, ← HM.out.2.2.2.2.1] at hcvB
          go_simp
          refine hK.out _ _ E3 (fun _ => ?_)
          clear hK K hcvB
          refine wpAnyH_ready (rs := [16]) (by kernel_rfl) (by simp) ?_
          refine AllReadyH.cons (i := 16) (rs := []) (o := ?o123) ?h123 (fun K hK => ?_) AllReadyH.nil
          case h123 => (simp only [List.getElem?_toArray, List.getElem?_cons_succ]; exact rfl)
          go_simp
          refine (HM.out.2.2.2.2.2.1 v3).mono ?_
          rintro e v4 ⟨rfl, hb⟩
          have F4 := F3.trans (hb.mono F3.size)
          have E4 : OwnB w.heap.size v4 (some ⟨w.heap.size, 0, none⟩) N L := E3.call hb
          have Z4 := Z3.call hb
          refine hK.out _ _ E4 (fun _ => ?_)
          clear hK K hb
          refine wpAnyH_ready (rs := [20]) (by kernel_rfl) (by simp) ?_
          refine AllReadyH.cons (i := 20) (rs := []) (o := ?o124) ?h124 (fun K hK => ?_) AllReadyH.nil
          case h124 => (simp only [List.getElem?_toArray, List.getElem?_cons_succ]; exact rfl)
          go_simp
          refine (HM.out.2.2.2.2.2.2 v4).mono ?_
          rintro e v5 ⟨rfl, hb⟩
          have F5 := F4.trans (hb.mono F4.size)
          have E5 : OwnB w.heap.size v5 (some ⟨w.heap.size, 0, none⟩) N L := E4.call hb
          refine hK.out _ _ E5 (fun _ => ?_)
          clear hK K hb
          refine wpAnyH_take (i := 21) (v := ?_) rfl (by kernel_rfl) (by kernel_rfl) (by kernel_rfl) (fun _ _ _ h => h) (Or.inl ⟨by kernel_rfl, ?_⟩) E5 ?_
          rotate_left
          · (intro W hS; clear hS; go_simp; try (with_reducible rfl))
          refine wpAnyH_take (i := 22) (v := ?_) rfl (by kernel_rfl) (by kernel_rfl) (by kernel_rfl) (fun _ _ _ h => h) (Or.inl ⟨by kernel_rfl, ?_⟩) E5 ?_
          rotate_left
          · (intro W hS; clear hS; go_simp; try (with_reducible rfl))
          refine wpAnyH_take (i := 23) (v := ?_) rfl (by kernel_rfl) (by kernel_rfl) (by kernel_rfl) (fun _ _ _ h => h) (Or.inl ⟨by kernel_rfl, ?_⟩) E5 ?_
          rotate_left
          · (intro W hS; clear hS; go_simp; try (with_reducible rfl))
          refine wpAnyH_done (by kernel_rfl) ?_ _
          go_simp
          go_wp2_with fail
          go_ret
          exact ⟨rfl, F5⟩
        · have hkp2 : ¬ ((k : Int) < (N : Int)) := by omega
          clear hgo hg1
          go_wp2_with fail
          refine HM.out.1.mono ?_
          rintro e w3 ⟨rfl, k3⟩
          have ho3 := HM.out.2.2.1.call k3
          have hB3 := sbelow_call HM.out.2.1 k3
          have HP := Lib.hid (And.intro hB3 ho3)
          clear k3 hB3 ho3 hmk2 hcvK hcvB
          go_wp2_with fail
          refine wp_region_held (S := fun W : World => OwnB w.heap.size W (some ⟨w.heap.size, 0, none⟩) N L) (by kernel_rfl) ?_
          change wpAnyH _ _ _ _ _ _ _ _ (World.drew _)
          generalize hv0 : World.drew _ = v0
          have E0 : OwnB w.heap.size v0 (some ⟨w.heap.size, 0, none⟩) N L := by rw [← hv0]; exact HP.out.2.drew
          have F0 : Below w.heap.size w v0 := by rw [← hv0]; exact HP.out.1.drew
          clear hv0
          refine wpAnyH_ready (rs := [0]) (by kernel_rfl) (by simp) ?_
          refine AllReadyH.cons rfl (fun K hK => ?_) AllReadyH.nil
          go_simp
          refine (H.out.1 v0 F0).mono ?_
          rintro e v1 ⟨rfl, hb⟩
          have F1 := F0.trans (hb.mono F0.size)
          have E1 : OwnB w.heap.size v1 (some ⟨w.heap.size, 0, none⟩) N L := E0.call hb
          refine hK.out _ _ E1 (fun _ => ?_)
          clear hK K hb
          refine wpAnyH_take (i := 1) (v := ?_) rfl (by kernel_rfl) (by kernel_rfl) (by kernel_rfl) (fun _ _ _ h => h) (Or.inl ⟨by kernel_rfl, ?_⟩) E1 ?_
          rotate_left
          · (intro W hS; clear hS; go_simp; try (with_reducible rfl))
          refine wpAnyH_take (i := 2) (v := ?_) rfl (by kernel_rfl) (by kernel_rfl) (by kernel_rfl) (fun _ _ _ h => h) (Or.inl ⟨by kernel_rfl, ?_⟩) E1 ?_
          rotate_left
          · (intro W hS; clear hS; go_simp; try (with_reducible rfl))
          refine wpAnyH_take (i := 3) (v := ?_) rfl (by kernel_rfl) (by kernel_rfl) (by kernel_rfl) (fun _ _ _ h => h) (Or.inl ⟨by kernel_rfl, ?_⟩) E1 ?_
          rotate_left
          · (intro W hS; clear hS; go_simp; try (with_reducible rfl))
          refine wpAnyH_take (i := 4) (v := ?_) rfl (by kernel_rfl) (by kernel_rfl) (by kernel_rfl) (fun _ _ _ h => h) (Or.inl ⟨by kernel_rfl, ?_⟩) E1 ?_
          rotate_left
          · (intro W hS; clear hS; go_simp; try (with_reducible rfl))
          refine wpAnyH_take (i := 5) (v := ?_) rfl (by kernel_rfl) (by kernel_rfl) (by kernel_rfl) (fun _ _ _ h => h) (Or.inl ⟨by kernel_rfl, ?_⟩) E1 ?_
          rotate_left
          · (intro W hS; clear hS; go_simp; try (with_reducible rfl))
          refine wpAnyH_take (i := 6) (v := ?_) rfl (by kernel_rfl) (by kernel_rfl) (by kernel_rfl) (fun _ _ _ h => h) (Or.inl ⟨by kernel_rfl, ?_⟩) E1 ?_
          rotate_left
          · (intro W hS; clear hS; go_simp; try (with_reducible rfl))
          refine wpAnyH_take (i := 7) (v := ?_) rfl (by kernel_rfl) (by kernel_rfl) (by kernel_rfl) (fun _ _ _ h => h) (Or.inl ⟨by kernel_rfl, ?_⟩) E1 ?_
          rotate_left
          · (intro W hS; clear hS; go_simp; try (with_reducible rfl))
          refine wpAnyH_take (i := 8) (v := ?_) rfl (by kernel_rfl) (by kernel_rfl) (by kernel_rfl) (fun _ _ _ h => h) (Or.inl ⟨by kernel_rfl, ?_⟩) E1 ?_
          rotate_left
          · (intro W hS; clear hS; go_simp; try (with_reducible rfl))
          have hcvB := E1.conv
          rw [HM.out.2.2.2.1, ← HM.out.2.2.2.2.1] at hcvB
          refine wpAnyH_ready (rs := [9]) (by kernel_rfl) (by simp) ?_
          refine AllReadyH.cons rfl (fun K hK => ?_) AllReadyH.nil
          go_simp
          refine hK.out _ _ E1 (fun _ => ?_)
          clear hK K hcvB
          refine wpAnyH_ready (rs := [10]) (by kernel_rfl) (by simp) ?_
          refine AllReadyH.cons rfl (fun K hK => ?_) AllReadyH.nil
          go_simp
          refine (HM.out.2.2.2.2.2.1 v1).mono ?_
          rintro e v2 ⟨rfl, hb⟩
          have F2 := F1.trans (hb.mono F1.size)
          have E2 : OwnB w.heap.size v2 (some ⟨w.heap.size, 0, none⟩) N L := E1.call hb
          refine hK.out _ _ E2 (fun _ => ?_)
          clear hK K hb
          refine wpAnyH_take (i := 11) (v := .bool true) rfl (by kernel_rfl) (by kernel_rfl) (by kernel_rfl) (fun _ _ _ h => h) (Or.inl ⟨by kernel_rfl, ?_⟩) E2 ?_
          · (intro W hS; clear hS; go_simp; try simp)
          refine wpAnyH_take (i := 12) (v := .bool true) rfl (by kernel_rfl) (by kernel_rfl) (by kernel_rfl) (fun _ _ _ h => h) (Or.inl ⟨by kernel_rfl, ?_⟩) E2 ?_
          · (intro W hS; clear hS; go_simp; try simp)
          refine wpAnyH_take (i := 13) (v := .bool true) rfl (by kernel_rfl) (by kernel_rfl) (by kernel_rfl) (fun _ _ _ h => h) (Or.inl ⟨by kernel_rfl, ?_⟩) E2 ?_
          · (intro W hS; clear hS; go_simp; try simp)
          refine wpAnyH_take (i := 14) (v := ?_) rfl (by kernel_rfl) (by kernel_rfl) (by kernel_rfl) (fun _ _ _ h => h) (Or.inl ⟨by kernel_rfl, ?_⟩) E2 ?_
          rotate_left
          · (intro W hS; clear hS; go_simp; try (with_reducible rfl))
          refine wpAnyH_take (i := 17) (v := ?_) rfl (by kernel_rfl) (by kernel_rfl) (by kernel_rfl) (fun _ _ _ h => h) (Or.inl ⟨by kernel_rfl, ?_⟩) E2 ?_
          rotate_left
          · (intro W hS; clear hS; go_simp; try (with_reducible rfl))
          refine wpAnyH_ready (rs := [15, 18]) (by kernel_rfl) (by simp) ?_
          refine AllReadyH.cons (i := 15) (rs := [18]) (o := ?o101) ?h101 (fun K hK => ?_) ?_
          case h101 => (simp only [List.getElem?_toArray, List.getElem?_cons_succ]; exact rfl)
          · have hcvB := E2.conv
            rw [HM.out.2.2.2.1, ← HM.out.2.2.2.2.1] at hcvB
            go_simp
            refine hK.out _ _ E2 (fun _ => ?_)
            clear hK K hcvB
            refine wpAnyH_ready (rs := [16, 18]) (by kernel_rfl) (by simp) ?_
            refine AllReadyH.cons (i := 16) (rs := [18]) (o := ?o102) ?h102 (fun K hK => ?_) ?_
            case h102 => (simp only [List.getElem?_toArray, List.getElem?_cons_succ]; exact rfl)
            · go_simp
              refine (HM.out.2.2.2.2.2.1 v2).mono ?_
              rintro e v3 ⟨rfl, hb⟩
              have F3 := F2.trans (hb.mono F2.size)
              have E3 : OwnB w.heap.size v3 (some ⟨w.heap.size, 0, none⟩) N L := E2.call hb
              refine hK.out _ _ E3 (fun _ => ?_)
              clear hK K hb
              refine wpAnyH_ready (rs := [18]) (by kernel_rfl) (by simp) ?_
              refine AllReadyH.cons (i := 18) (rs := []) (o := ?o103) ?h103 (fun K hK => ?_) AllReadyH.nil
              case h103 => (simp only [List.getElem?_toArray, List.getElem?_cons_succ]; exact rfl)
              have hmk := (HK.out v3).1
              have Z4 := (HK.out v3).2.1
              have hb := (HK.out v3).2.2
              have F4 := F3.trans (hb.mono F3.size)
              have E4 : OwnB w.heap.size (mkW v3) (some ⟨w.heap.size, 0, none⟩) N L := E3.call hb
              go_simp
              refine hK.out _ _ E4 (fun _ => ?_)
              clear hK K hb hmk
              generalize mkW v3 = v4 at *
              refine wpAnyH_ready (rs := [19]) (by kernel_rfl) (by simp) ?_
              refine AllReadyH.cons (i := 19) (rs := []) (o := ?o104) ?h104 (fun K hK => ?_) AllReadyH.nil
              case h104 => (simp only [List.getElem?_toArray, List.getElem?_cons_succ]; exact rfl)
              have hcvZ := Z4.conv
              rw [List.length_replicate] at hcvZ
              go_simp
              refine hK.out _ _ E4 (fun _ => ?_)
              clear hK K hcvZ
              refine wpAnyH_ready (rs := [20]) (by kernel_rfl) (by simp) ?_
              refine AllReadyH.cons (i := 20) (rs := []) (o := ?o105) ?h105 (fun K hK => ?_) AllReadyH.nil
              case h105 => (simp only [List.getElem?_toArray, List.getElem?_cons_succ]; exact rfl)
              go_simp
              refine (HM.out.2.2.2.2.2.2 v4).mono ?_
              rintro e v5 ⟨rfl, hb⟩
              have F5 := F4.trans (hb.mono F4.size)
              have E5 : OwnB w.heap.size v5 (some ⟨w.heap.size, 0, none⟩) N L := E4.call hb
              refine hK.out _ _ E5 (fun _ => ?_)
              clear hK K hb
              refine wpAnyH_take (i := 21) (v := ?_) rfl (by kernel_rfl) (by kernel_rfl) (by kernel_rfl) (fun _ _ _ h => h) (Or.inl ⟨by kernel_rfl, ?_⟩) E5 ?_
              rotate_left
              · (intro W hS; clear hS; go_simp; try (with_reducible rfl))
              refine wpAnyH_take (i := 22) (v := ?_) rfl (by kernel_rfl) (by kernel_rfl) (by kernel_rfl) (fun _ _ _ h => h) (Or.inl ⟨by kernel_rfl, ?_⟩) E5 ?_
              rotate_left
              · (intro W hS; clear hS; go_simp; try (with_reducible rfl))
              refine wpAnyH_take (i := 23) (v := ?_) rfl (by kernel_rfl) (by kernel_rfl) (by kernel_rfl) (fun _ _ _ h => h) (Or.inl ⟨by kernel_rfl, ?_⟩) E5 ?_
              rotate_left
              · (intro W hS; clear hS; go_simp; try (with_reducible rfl))
              refine wpAnyH_done (by kernel_rfl) ?_ _
              go_simp
              go_wp2_with fail
              go_ret
              exact ⟨rfl, F5⟩
            refine AllReadyH.cons (i := 18) (rs := []) (o := ?o106) ?h106 (fun K hK => ?_) AllReadyH.nil
            case h106 => (simp only [List.getElem?_toArray, List.getElem?_cons_succ]; exact rfl)
            have hmk := (HK.out v2).1
            have Z3 := (HK.out v2).2.1
            have hb := (HK.out v2).2.2
            have F3 := F2.trans (hb.mono F2.size)
            have E3 : OwnB w.heap.size (mkW v2) (some ⟨w.heap.size, 0, none⟩) N L := E2.call hb
            go_simp
            refine hK.out _ _ E3 (fun _ => ?_)
            clear hK K hb hmk
            generalize mkW v2 = v3 at *
            refine wpAnyH_ready (rs := [16, 19]) (by kernel_rfl) (by simp) ?_
            refine AllReadyH.cons (i := 16) (rs := [19]) (o := ?o107) ?h107 (fun K hK => ?_) ?_
            case h107 => (simp only [List.getElem?_toArray, List.getElem?_cons_succ]; exact rfl)
            · go_simp
              refine (HM.out.2.2.2.2.2.1 v3).mono ?_
              rintro e v4 ⟨rfl, hb⟩
              have F4 := F3.trans (hb.mono F3.size)
              have E4 : OwnB w.heap.size v4 (some ⟨w.heap.size, 0, none⟩) N L := E3.call hb
              have Z4 := Z3.call hb
              refine hK.out _ _ E4 (fun _ => ?_)
              clear hK K hb
              refine wpAnyH_ready (rs := [19]) (by kernel_rfl) (by simp) ?_
              refine AllReadyH.cons (i := 19) (rs := []) (o := ?o108) ?h108 (fun K hK => ?_) AllReadyH.nil
              case h108 => (simp only [List.getElem?_toArray, List.getElem?_cons_succ]; exact rfl)
              have hcvZ := Z4.conv
              rw [List.length_replicate] at hcvZ
              go_simp
              refine hK.out _ _ E4 (fun _ => ?_)
              clear hK K hcvZ
              refine wpAnyH_ready (rs := [20]) (by kernel_rfl) (by simp) ?_
              refine AllReadyH.cons (i := 20) (rs := []) (o := ?o109) ?h109 (fun K hK => ?_) AllReadyH.nil
              case h109 => (simp only [List.getElem?_toArray, List.getElem?_cons_succ]; exact rfl)
              go_simp
              refine (HM.out.2.2.2.2.2.2 v4).mono ?_
              rintro e v5 ⟨rfl, hb⟩
              have F5 := F4.trans (hb.mono F4.size)
              have E5 : OwnB w.heap.size v5 (some ⟨w.heap.size, 0, none⟩) N L := E4.call hb
              refine hK.out _ _ E5 (fun _ => ?_)
              clear hK K hb
              refine wpAnyH_take (i := 21) (v := ?_) rfl (by kernel_rfl) (by kernel_rfl) (by kernel_rfl) (fun _ _ _ h => h) (Or.inl ⟨by kernel_rfl, ?_⟩) E5 ?_
              rotate_left
              · (intro W hS; clear hS; go_simp; try (with_reducible rfl))
              refine wpAnyH_take (i := 22) (v := ?_) rfl (by kernel_rfl) (by kernel_rfl) (by kernel_rfl) (fun _ _ _ h => h) (Or.inl ⟨by kernel_rfl, ?_⟩) E5 ?_
              rotate_left
              · (intro W hS; clear hS; go_simp; try (with_reducible rfl))
              refine wpAnyH_take (i := 23) (v := ?_) rfl (by kernel_rfl) (by kernel_rfl) (by kernel_rfl) (fun _ _ _ h => h) (Or.inl ⟨by kernel_rfl, ?_⟩) E5 ?_
              rotate_left
              · (intro W hS; clear hS; go_simp; try (with_reducible rfl))
              refine wpAnyH_done (by kernel_rfl) ?_ _
              go_simp
              go_wp2_with fail
              go_ret
              exact ⟨rfl, F5⟩
            refine AllReadyH.cons (i := 19) (rs := []) (o := ?o110) ?h110 (fun K hK => ?_) AllReadyH.nil
            case h110 => (simp only [List.getElem?_toArray, List.getElem?_cons_succ]; exact rfl)
            have hcvZ := Z3.conv
            rw [List.length_replicate] at hcvZ
            go_simp
            refine hK.out _ _ E3 (fun _ => ?_)
            clear hK K hcvZ
            refine wpAnyH_ready (rs := [16]) (by kernel_rfl) (by simp) ?_
            refine AllReadyH.cons (i := 16) (rs := []) (o := ?o111) ?h111 (fun K hK => ?_) AllReadyH.nil
            case h111 => (simp only [List.getElem?_toArray, List.getElem?_cons_succ]; exact rfl)
            go_simp
            refine (HM.out.2.2.2.2.2.1 v3).mono ?_
            rintro e v4 ⟨rfl, hb⟩
            have F4 := F3.trans (hb.mono F3.size)
            have E4 : OwnB w.heap.size v4 (some ⟨w.heap.size, 0, none⟩) N L := E3.call hb
            have Z4 := Z3.call hb
            refine hK.out _ _ E4 (fun _ => ?_)
            clear hK K hb
            refine wpAnyH_ready (rs := [20]) (by kernel_rfl) (by simp) ?_
            refine AllReadyH.cons (i := 20) (rs := []) (o := ?o112) ?h112 (fun K hK => ?_) AllReadyH.nil
            case h112 => (simp only [List.getElem?_toArray, List.getElem?_cons_succ]; exact rfl)
            go_simp
            refine (HM.out.2.2.2.2.2.2 v4).mono ?_
            rintro e v5 ⟨rfl, hb⟩
            have F5 := F4.trans (hb.mono F4.size)
            have E5 : OwnB w.heap.size v5 (some ⟨w.heap.size, 0, none⟩) N L := E4.call hb
            refine hK.out _ _ E5 (fun _ => ?_)
            clear hK K hb
            refine wpAnyH_take (i := 21) (v := ?_) rfl (by kernel_rfl) (by kernel_rfl) (by kernel_rfl) (fun _ _ _ h => h) (Or.inl ⟨by kernel_rfl, ?_⟩) E5 ?_
            rotate_left
            · (intro W hS; clear hS; go_simp; try (with_reducible rfl))
            refine wpAnyH_take (i := 22) (v := ?_) rfl (by kernel_rfl) (by kernel_rfl) (by kernel_rfl) (fun _ _ _ h => h) (Or.inl ⟨by kernel_rfl, ?_⟩) E5 ?_
            rotate_left
            · (intro W hS; clear hS; go_simp; try (with_reducible rfl))
            refine wpAnyH_take (i := 23) (v := ?_) rfl (by kernel_rfl) (by kernel_rfl) (by kernel_rfl) (fun _ _ _ h => h) (Or.inl ⟨by kernel_rfl, ?_⟩) E5 ?_
            rotate_left
            · (intro W hS; clear hS; go_simp; try (with_reducible rfl))
            refine wpAnyH_done (by kernel_rfl) ?_ _
            go_simp
            go_wp2_with fail
            go_ret
            exact ⟨rfl, F5⟩
          refine AllReadyH.cons (i := 18) (rs := []) (o := ?o113) ?h113 (fun K hK => ?_) AllReadyH.nil
          case h113 => (simp only [List.getElem?_toArray, List.getElem?_cons_succ]; exact rfl)
          have hmk := (HK.out v2).1
          have Z3 := (HK.out v2).2.1
          have hb := (HK.out v2).2.2
          have F3 := F2.trans (hb.mono F2.size)
          have E3 : OwnB w.heap.size (mkW v2) (some ⟨w.heap.size, 0, none⟩) N L := E2.call hb
          go_simp
          refine hK.out _ _ E3 (fun _ => ?_)
          clear hK K hb hmk
          generalize mkW v2 = v3 at *
          refine wpAnyH_ready (rs := [15, 19]) (by kernel_rfl) (by simp) ?_
          refine AllReadyH.cons (i := 15) (rs := [19]) (o := ?o114) ?h114 (fun K hK => ?_) ?_
          case h114 => (simp only [List.getElem?_toArray, List.getElem?_cons_succ]; exact rfl)
          · have hcvB := E3.conv
            rw [HM.out.2.2.2.1, ← HM.out.2.2.2.2.1] at hcvB
            go_simp
            refine hK.out _ _ E3 (fun _ => ?_)
            clear hK K hcvB
            refine wpAnyH_ready (rs := [16, 19]) (by kernel_rfl) (by simp) ?_
            refine AllReadyH.cons (i := 16) (rs := [19]) (o := ?o115) ?h115 (fun K hK => ?_) ?_
            case h115 => (simp only [List.getElem?_toArray, List.getElem?_cons_succ]; exact rfl)
            · go_simp
              refine (HM.out.2.2.2.2.2.1 v3).mono ?_
              rintro e v4 ⟨rfl, hb⟩
              have F4 := F3.trans (hb.mono F3.size)
              have E4 : OwnB w.heap.size v4 (some ⟨w.heap.size, 0, none⟩) N L := E3.call hb
              have Z4 := Z3.call hb
              refine hK.out _ _ E4 (fun _ => ?_)
              clear hK K hb
              refine wpAnyH_ready (rs := [19]) (by kernel_rfl) (by simp) ?_
              refine AllReadyH.cons (i := 19) (rs := []) (o := ?o116) ?h116 (fun K hK => ?_) AllReadyH.nil
              case h116 => (simp only [List.getElem?_toArray, List.getElem?_cons_succ]; exact rfl)
              have hcvZ := Z4.conv
              rw [List.length_replicate] at hcvZ
              go_simp
              refine hK.out _ _ E4 (fun _ => ?_)
              clear hK K hcvZ
              refine wpAnyH_ready (rs := [20]) (by kernel_rfl) (by simp) ?_
              refine AllReadyH.cons (i := 20) (rs := []) (o := ?o117) ?h117 (fun K hK => ?_) AllReadyH.nil
              case h117 => (simp only [List.getElem?_toArray, List.getElem?_cons_succ]; exact rfl)
              go_simp
              refine (HM.out.2.2.2.2.2.2 v4).mono ?_
              rintro e v5 ⟨rfl, hb⟩
              have F5 := F4.trans (hb.mono F4.size)
              have E5 : OwnB w.heap.size v5 (some ⟨w.heap.size, 0, none⟩) N L := E4.call hb
              refine hK.out _ _ E5 (fun _ => ?_)
              clear hK K hb
              refine wpAnyH_take (i := 21) (v := ?_) rfl (by kernel_rfl) (by kernel_rfl) (by kernel_rfl) (fun _ _ _ h => h) (Or.inl ⟨by kernel_rfl, ?_⟩) E5 ?_
              rotate_left
              · (intro W hS; clear hS; go_simp; try (with_reducible rfl))
              refine wpAnyH_take (i := 22) (v := ?_) rfl (by kernel_rfl) (by kernel_rfl) (by kernel_rfl) (fun _ _ _ h => h) (Or.inl ⟨by kernel_rfl, ?_⟩) E5 ?_
              rotate_left
              · (intro W hS; clear hS; go_simp; try (with_reducible rfl))
              refine wpAnyH_take (i := 23) (v := ?_) rfl (by kernel_rfl) (by kernel_rfl) (by kernel_rfl) (fun _ _ _ h => h) (Or.inl ⟨by kernel_rfl, ?_⟩) E5 ?_
              rotate_left
              · (intro W hS; clear hS; go_simp; try (with_reducible rfl))
              refine wpAnyH_done (by kernel_rfl) ?_ _
              go_simp
              go_wp2_with fail
              go_ret
              exact ⟨rfl, F5⟩
            refine AllReadyH.cons (i := 19) (rs := []) (o := ?o118) ?h118 (fun K hK => ?_) AllReadyH.nil
            case h118 => (simp only [List.getElem?_toArray, List.getElem?_cons_succ]; exact rfl)
            have hcvZ := Z3.conv
            rw [List.length_replicate] at hcvZ
            go_simp
            refine hK.out _ _ E3 (fun _ => ?_)
            clear hK K hcvZ
            refine wpAnyH_ready (rs := [16]) (by kernel_rfl) (by simp) ?_
            refine AllReadyH.cons (i := 16) (rs := []) (o := ?o119) ?h119 (fun K hK => ?_) AllReadyH.nil
            case h119 => (simp only [List.getElem?_toArray, List.getElem?_cons_succ]; exact rfl)
            go_simp
            refine (HM.out.2.2.2.2.2.1 v3).mono ?_
            rintro e v4 ⟨rfl, hb⟩
            have F4 := F3.trans (hb.mono F3.size)
            have E4 : OwnB w.heap.size v4 (some ⟨w.heap.size, 0, none⟩) N L := E3.call hb
            have Z4 := Z3.call hb
            refine hK.out _ _ E4 (fun _ => ?_)
            clear hK K hb
            refine wpAnyH_ready (rs := [20]) (by kernel_rfl) (by simp) ?_
            refine AllReadyH.cons (i := 20) (rs := []) (o := ?o120) ?h120 (fun K hK => ?_) AllReadyH.nil
            case h120 => (simp only [List.getElem?_toArray, List.getElem?_cons_succ]; exact rfl)
            go_simp
            refine (HM.out.2.2.2.2.2.2 v4).mono ?_
            rintro e v5 ⟨rfl, hb⟩
            have F5 := F4.trans (hb.mono F4.size)
            have E5 : OwnB w.heap.size v5 (some ⟨w.heap.size, 0, none⟩) N L := E4.call hb
            refine hK.out _ _ E5 (fun _ => ?_)
            clear hK K hb
            refine wpAnyH_take (i := 21) (v := ?_) rfl (by kernel_rfl) (by kernel_rfl) (by kernel_rfl) (fun _ _ _ h => h) (Or.inl ⟨by kernel_rfl, ?_⟩) E5 ?_
            rotate_left
            · (intro W hS; clear hS; go_simp; try (with_reducible rfl))
            refine wpAnyH_take (i := 22) (v := ?_) rfl (by kernel_rfl) (by kernel_rfl) (by kernel_rfl) (fun _ _ _ h => h) (Or.inl ⟨by kernel_rfl, ?_⟩) E5 ?_
            rotate_left
            · (intro W hS; clear hS; go_simp; try (with_reducible rfl))
            refine wpAnyH_take (i := 23) (v := ?_) rfl (by kernel_rfl) (by kernel_rfl) (by kernel_rfl) (fun _ _ _ h => h) (Or.inl ⟨by kernel_rfl, ?_⟩) E5 ?_
            rotate_left
            · (intro W hS; clear hS; go_simp; try (with_reducible rfl))
            refine wpAnyH_done (by kernel_rfl) ?_ _
            go_simp
            go_wp2_with fail
            go_ret
            exact ⟨rfl, F5⟩
          refine AllReadyH.cons (i := 19) (rs := []) (o := ?o121) ?h121 (fun K hK => ?_) AllReadyH.nil
          case h121 => (simp only [List.getElem?_toArray, List.getElem?_cons_succ]; exact rfl)
          have hcvZ := Z3.conv
          rw [List.length_replicate] at hcvZ
          go_simp
          refine hK.out _ _ E3 (fun _ => ?_)
          clear hK K hcvZ
          refine wpAnyH_ready (rs := [15]) (by kernel_rfl) (by simp) ?_
          refine AllReadyH.cons (i := 15) (rs := []) (o := ?o122) ?h122 (fun K hK => ?_) AllReadyH.nil
          case h122 => (simp only [List.getElem?_toArray, List.getElem?_cons_succ]; exact rfl)
          have hcvB := E3.conv
          rw [HM.out.2.2.2.1, ← HM.out.2.2.2.2.1] at hcvB
          go_simp
          refine hK.out _ _ E3 (fun _ => ?_)
          clear hK K hcvB
          refine wpAnyH_ready (rs := [16]) (by kernel_rfl) (by simp) ?_
          refine AllReadyH.cons (i := 16) (rs := []) (o := ?o123) ?h123 (fun K hK => ?_) AllReadyH.nil
          case h123 => (simp only [List.getElem?_toArray, List.getElem?_cons_succ]; exact rfl)
          go_simp
          refine (HM.out.2.2.2.2.2.1 v3).mono ?_
          rintro e v4 ⟨rfl, hb⟩
          have F4 := F3.trans (hb.mono F3.size)
          have E4 : OwnB w.heap.size v4 (some ⟨w.heap.size, 0, none⟩) N L := E3.call hb
          have Z4 := Z3.call hb
          refine hK.out _ _ E4 (fun _ => ?_)
          clear hK K hb
          refine wpAnyH_ready (rs := [20]) (by kernel_rfl) (by simp) ?_
          refine AllReadyH.cons (i := 20) (rs := []) (o := ?o124) ?h124 (fun K hK => ?_) AllReadyH.nil
          case h124 => (simp only [List.getElem?_toArray, List.getElem?_cons_succ]; exact rfl)
          go_simp
          refine (HM.out.2.2.2.2.2.2 v4).mono ?_
          rintro e v5 ⟨rfl, hb⟩
          have F5 := F4.trans (hb.mono F4.size)
          have E5 : OwnB w.heap.size v5 (some ⟨w.heap.size, 0, none⟩) N L := E4.call hb
          refine hK.out _ _ E5 (fun _ => ?_)
          clear hK K hb
          refine wpAnyH_take (i := 21) (v := ?_) rfl (by kernel_rfl) (by kernel_rfl) (by kernel_rfl) (fun _ _ _ h => h) (Or.inl ⟨by kernel_rfl, ?_⟩) E5 ?_
          rotate_left
          · (intro W hS; clear hS; go_simp; try (with_reducible rfl))
          refine wpAnyH_take (i := 22) (v := ?_) rfl (by kernel_rfl) (by kernel_rfl) (by kernel_rfl) (fun _ _ _ h => h) (Or.inl ⟨by kernel_rfl, ?_⟩) E5 ?_
          rotate_left
          · (intro W hS; clear hS; go_simp; try (with_reducible rfl))
          refine wpAnyH_take (i := 23) (v := ?_) rfl (by kernel_rfl) (by kernel_rfl) (by kernel_rfl) (fun _ _ _ h => h) (Or.inl ⟨by kernel_rfl, ?_⟩) E5 ?_
          rotate_left
          · (intro W hS; clear hS; go_simp; try (with_reducible rfl))
          refine wpAnyH_done (by kernel_rfl) ?_ _
          go_simp
          go_wp2_with fail
          go_ret
          exact ⟨rfl, F5⟩
end Go.Proofs.YtgoimggfpagojaaDoor

namespace Go.Proofs.YtgoimggfpagojaaDoor.sealLongLaw
open Go.ChangeShapes Go.WideShapes Go.ChangeAt Go.RowKit
open Go.ChangeMaps (open_string shut_string)

set_option maxRecDepth 100000 in
theorem contract (H : Type) (enc : TypeId × Value → H) (W : World) (base : Nat) (args : Array Value) (ds gs : List (DataW H)) (before : List MemPlace)
    (hval : ∀ (j : Nat) t v, Tryd.f10.params[j]? = some t → args[j]? = some v → Value.okWide Tryd.prog W .any base t v)
    (hW : DataW.Whole enc Tryd.prog Tryd.f10.params.toList Rows.sealLongSpec.vars false W args.toList ds gs before) (hL : laidMetH Tryd.prog Rows.sealLongRow.laid W) :
    Calls Tryd.prog 10 args W fun e W' => ∃ v, e = .returned v ∧ Rows.sealLongSpec.post enc Tryd.prog Tryd.f10 false true false false W args v W' := by
  have hW' := hW
  obtain ⟨p, q, hA0, hV, rfl, hfz, hnd⟩ := hW
  have hA : DataW.TrodAll enc Tryd.prog W 0 (fun _ => true) true Tryd.f10.params.toList args.toList ds p := hA0
  rw [Tryd.params10] at hA hval
  obtain ⟨v0, vs0, d0, ds0, p0, q0, hargs, rfl, rfl, h0, r0⟩ := trodAll_cons hA
  obtain ⟨v1, vs1, d1, ds1, p1, q1, rfl, rfl, rfl, h1, r1⟩ := trodAll_cons r0
  obtain ⟨rfl, rfl, rfl⟩ := trodAll_nil r1
  obtain rfl : args = #[v0, v1] := by cases args; simp_all
  obtain ⟨rfl, rfl⟩ := trodVars_none hV
  obtain ⟨s0, rfl, rfl, rfl, ws0⟩ := open_string Tryd.underlying9 (hval 0 9 v0 rfl rfl) h0
  obtain ⟨n1, rfl, rfl, rfl, ws1⟩ := open_int Tryd.underlying3 (hval 1 3 v1 rfl rfl) h1
  have hbd1 := ws1
  simp only [Lit.wf, Bool.and_eq_true, decide_eq_true_eq] at hbd1
  clear hA0
  simp only [List.append_nil] at hW'
  refine (long16_law s0 (by simpa using ws0) n1 hbd1.1 hbd1.2 (w := W) (hG := glob_of_laid3 hL)).mono fun e W' ⟨he, hb⟩ => ?_
  subst he
  exact ⟨_, rfl, _, _, _, [], [], [], hW', trodAll_cons_mk (shut_bool Tryd.underlying4 _) trodAll_mk0, (trodAll_cons_mk (shut_string Tryd.underlying9 ws0) (trodAll_cons_mk (shut_int Tryd.underlying3 ws1) trodAll_mk0)), rfl, hb.frame _, fun h => by cases h⟩
theorem laid_met (os : Os) : laidMet Tryd.prog Rows.sealLongRow.laid ((laidWorld3 os).forCall (fun _ _ => 0) ⟨#[], #[.string ⟨#[]⟩, .int .i64 0], []⟩).memory :=
  laidMet_of_run' 8 (by kernel_rfl) (by kernel_rfl)
theorem reads (os : Os) {H : Type} (enc : TypeId × Value → H) : ∃ places, DataW.whole enc Tryd.prog ((laidWorld3 os).forCall (fun _ _ => 0) ⟨#[], #[.string ⟨#[]⟩, .int .i64 0], []⟩).memory Tryd.f10.params.toList Rows.sealLongSpec.vars false #[Value.string ⟨#[]⟩, .int .i64 0].toList 8 = some ([.lit (.string []), .lit (.int .i64 0)], [], places) :=
  ⟨[], by kernel_rfl⟩
set_option maxRecDepth 100000 in
theorem lifted (os : Os) (started : os.Started) (H : Type) (enc : TypeId × Value → H) (F : Stop.Interp) :
    ReturnsInHanded {} Tryd.checked os 10 .any ((OpenSpec.ofChange Rows.sealLongSpec).preRow enc Tryd.prog Tryd.f10 Rows.sealLongRow.domain false Rows.sealLongRow.laid) (((OpenSpec.ofChange Rows.sealLongSpec).at F).post enc Tryd.prog Tryd.f10 false true false false) := by
  obtain ⟨places, hx⟩ := reads os enc
  refine returnsInHanded_of_row (C := Tryd.checked) (s := OpenSpec.ofChange Rows.sealLongSpec) own started (by kernel_rfl) Tryd.func10
    (witness_row_at (enc := enc) (C := Tryd.checked) false (laidWorld3 os) #[.string ⟨#[]⟩, .int .i64 0] rfl (by kernel_rfl) (by kernel_rfl) (by kernel_rfl)
      (OpenSpec.preRow_of_cond 8 hx (by kernel_rfl) (fun k hk => by cases hk) (by kernel_rfl) (laid_met os))) ?_
  intro W base args ds gs before hval hW _ _ _ hL _ _
  exact contract H enc W base args ds gs before hval hW hL
theorem said : Rows.SealLongSaid :=
  OpenClaim.holds_of_cond 10 Tryd.f10 rfl rfl rfl rfl rfl rfl rfl ⟨rfl, rfl, rfl, rfl, rfl⟩ rfl rfl rfl rfl rfl (by kernel_rfl) Tryd.func10 (by kernel_rfl)
    (of_decide_eq_true (by kernel_rfl)) (by unfold Func.isWrapper; first | (rw [if_pos (by decide +kernel)]; kernel_rfl) | (rw [if_neg (by decide +kernel)]; exact ⟨rfl, rfl⟩))
    (fun os started H enc _ F => by rw [OpenClaim.pre_eq_preRow]; exact lifted os started H enc F)
theorem plain (f : FuncId) (fn : Func) (hf : Tryd.pinned.checked.prog.funcNamed "lockbox/lockboxlaw16.SealLong" = some f) (hfn : Tryd.pinned.checked.prog.funcs[f]? = some fn) :
    false = Tryd.pinned.checked.prog.looks [] ∧ ∀ (j : Nat) t, fn.params[j]? = some t → Tryd.pinned.checked.prog.wantsStandIn t = false := by
  obtain rfl : f = 10 := Option.some.inj ((show Tryd.prog.funcNamed "lockbox/lockboxlaw16.SealLong" = some 10 by kernel_rfl).symm.trans hf) |>.symm
  obtain rfl : fn = Tryd.f10 := (Option.some.inj (Tryd.func10.symm.trans hfn)).symm
  refine ⟨by kernel_rfl, fun j t ht => ?_⟩
  rw [Tryd.params10] at ht
  have hm : t ∈ [9, 3] := by simpa using Array.mem_of_getElem? ht
  have hall : ([9, 3].all fun u => !Tryd.prog.wantsStandIn u) = true := by kernel_rfl
  exact (show Tryd.prog.wantsStandIn t = false by simpa using List.all_eq_true.1 hall t hm)
end Go.Proofs.YtgoimggfpagojaaDoor.sealLongLaw

namespace Go.Proofs.YtgoimggfpagojaaDoor
/-- THE CARD. -/
theorem sealLong_card : Rows.SealLongCardSaid :=
  Claim7.holds_tied_plain_at .later [] _ _ _ _ sealLongLaw.said (fun _ h => by cases h) (by kernel_rfl) (fun _ h => by cases h) sealLong_row_tie rfl ⟨rfl, rfl⟩ (by kernel_rfl) rfl sealLongLaw.plain (by kernel_rfl)
end Go.Proofs.YtgoimggfpagojaaDoor
