/- PROVED HERE: for every key, nonce and counter, every text and every number the law ChachaParts returns true (a text may be turned in parts of whole blocks), and all read afterwards as they did. Its condition: the package-level table of the quarter turns holds what its initialiser lays (tied to the program's text by the card). -/
import Derived.Test.YtgighdiidblihaaDoorQLaw
import Derived.Test.YtgighdiidblihaaDoorQTwice
import Derived.Deep.RegionHeld
namespace Go.Proofs.YtgighdiidblihaaDoor
open Go.RowKit

theorem LkS.drew {w : World} {g : Nat} {a b : ByteArray} {n : Int} {W : World} (h : LkS w g a b n W) : LkS w g a b n W.drew := ⟨h.1, h.2.1, h.2.2.1.drew, h.2.2.2⟩
set_option maxRecDepth 100000 in
set_option maxHeartbeats 2000000 in
theorem parts_law (a b : ByteArray) (c : Int) (_ : a.size ≤ maxLen) (_ : b.size ≤ maxLen) (_ : -9223372036854775808 ≤ c) (_ : c ≤ 9223372036854775807) (text : ByteArray) (_ : text.size ≤ maxLen) (n : Int) (_ : -9223372036854775808 ≤ n) (_ : n ≤ 9223372036854775807) (w : World) (hG : Glob w) :
    Calls Tryd.prog 6 #[.agg (lock a b c), .string text, .int .i64 n] w fun e w' => e = .returned (.bool true) ∧ Below w.heap.size w w' := by
  unfold lock
  have hL := LkS.start w a b c
  by_cases hf : (a.size : Int) ≤ 100 ∧ (b.size : Int) ≤ 100
  · obtain ⟨ha, hb⟩ := hf
    by_cases ht : (1000 : Int) < text.size
    · have H := Lib.hid hL
      clear hL hG
      go_enter Tryd.func6, Tryd.ntmps6
      go_wp2_with fail
      refine (few_yes a b c ha hb _).mono ?_
      rintro e w1 ⟨rfl, k1⟩
      have K1 := Lib.hid (below_call' H.out.2.2.1 k1)
      clear k1
      go_wp2_with fail
      refine (awake_any _).mono ?_
      rintro e w2 ⟨rfl, k2⟩
      have K2 := Lib.hid (below_call' K1.out k2)
      clear k2
      go_wp2_with fail
      go_ret
      exact ⟨rfl, K2.out⟩
    · have c1 := fun W (h : Below w.heap.size w W) => turn_any a b c text W (hG.below h)
      by_cases he : chkE a.size b.size c text.size = 0
      · obtain ⟨a1, a2, a3, a4, -, -, -⟩ := chkE_ok he
        obtain ⟨C0, rfl⟩ : ∃ C0 : Nat, c = C0 := ⟨c.toNat, by omega⟩
        obtain ⟨q, hq⟩ : ∃ q, q = text.size / 64 := ⟨_, rfl⟩
        have e1 : (text.size : Int) / 64 = (q : Int) := by omega
        have e2 : (text.size : Int).tdiv 64 = (q : Int) := by rw [Int.tdiv_eq_ediv_of_nonneg (by omega)]; omega
        obtain ⟨K, hK⟩ : ∃ K, K = q + 1 := ⟨_, rfl⟩
        have e3 : (q : Int) + 1 = (K : Int) := by omega
        have hK0 : (1 : Int) ≤ K := by omega
        obtain ⟨u, hu⟩ : ∃ u, n.tmod (K : Int) = u := ⟨_, rfl⟩
        have hu1 : -(K : Int) < u ∧ u < (K : Int) := by
          subst hu
          have h1 := Int.emod_nonneg n (show (K : Int) ≠ 0 by omega)
          have h2 := Int.emod_lt_of_pos n (show 0 < (K : Int) by omega)
          have h3 : ((K : Int).natAbs : Int) = K := by omega
          rw [Int.tmod_eq_emod]
          split <;> omega
        obtain ⟨hu1, hu2⟩ := hu1
        have hKl : (K : Int) ≤ 17 := by omega
        obtain ⟨v, hv⟩ : ∃ v : Nat, u + (K : Int) = v := ⟨(u + K).toNat, by omega⟩
        have hvb : (v : Int) < 100 := by omega
        obtain ⟨Z, hZ⟩ : ∃ Z, Z = v % K := ⟨_, rfl⟩
        have hZK : Z < K := by rw [hZ]; exact Nat.mod_lt _ (by omega)
        have e4 : (v : Int) % (K : Int) = (Z : Int) := by rw [hZ]; omega
        have e5 : (v : Int).tmod (K : Int) = (Z : Int) := by rw [Int.tmod_eq_emod_of_nonneg (by omega)]; exact e4
        obtain ⟨M, hM⟩ : ∃ M, M = 64 * Z := ⟨_, rfl⟩
        have e6 : (64 : Int) * (Z : Int) = (M : Int) := by omega
        have hMt : (M : Int) ≤ text.size := by omega
        have hMs : (M : Int) ≤ 1000 := by omega
        have c2 := fun W (h : Below w.heap.size w W) => turn_any a b C0 (text.extract 0 M) W (hG.below h)
        have e7 : IntKind.i64.wrap ((64 : Int) * (Z : Int)) = (M : Int) := by rw [IntWalk.i64_in _ (by omega)]; omega
        have e9 : IntKind.i64.wrap (M : Int) = (M : Int) := IntWalk.i64_in _ (by omega)
        by_cases hend : M = text.size
        · have hex : text.extract 0 M = text := by rw [hM]; exact trnS_whole Z (by omega)
          rw [hex] at c2
          rw [he] at c1 c2
          generalize trnS a b C0 text = S at *
          have hs := beq_same S
          have hMe : (M : Int) = (text.size : Int) := by omega
          have hMb : ((M : Int) == (text.size : Int)) = true := by rw [hMe]; simp
          have H := Lib.hid (And.intro c1 (And.intro c2 (And.intro hL hex)))
          clear c1 c2 hL hG he hq hK hu1 hu2 hZ hZK hM hMe hend a1 a2 a3 a4
          go_enter Tryd.func6, Tryd.ntmps6
          go_wp2_with fail
          refine (few_yes a b C0 ha hb _).mono ?_
          rintro e w1 ⟨rfl, k1⟩
          have L1 := H.out.2.2.1.call k1
          have K1 := Lib.hid L1
          obtain ⟨-, -, -, x0, x1, x2⟩ := L1
          clear k1
          go_wp2_with fail
          refine (H.out.1 _ K1.out.2.2.1).mono ?_
          rintro e w2 ⟨rfl, k2⟩
          have C := (K1.out.call k2).drew
          clear k2 x0 x1 x2
          go_wp2_with fail
          refine wp_region_held (S := LkS w w.heap.size a b (C0 : Int)) (by kernel_rfl) ?_
          change wpAnyH _ _ _ _ _ _ _ _ (World.drew _)
          generalize World.drew _ = wh at *
          refine wpAnyH_take (i := 0) (v := ?_) rfl (by kernel_rfl) (by kernel_rfl) (by kernel_rfl) (fun _ _ _ h => h) (Or.inl ⟨by kernel_rfl, ?_⟩) C ?_
          rotate_left
          · (intro W hS; obtain ⟨-, -, -, x0, x1, x2⟩ := hS; go_simp; try (with_reducible rfl))
          refine wpAnyH_take (i := 1) (v := ?_) rfl (by kernel_rfl) (by kernel_rfl) (by kernel_rfl) (fun _ _ _ h => h) (Or.inl ⟨by kernel_rfl, ?_⟩) C ?_
          rotate_left
          · (intro W hS; obtain ⟨-, -, -, x0, x1, x2⟩ := hS; go_simp; try (with_reducible rfl))
          refine wpAnyH_take (i := 2) (v := ?_) rfl (by kernel_rfl) (by kernel_rfl) (by kernel_rfl) (fun _ _ _ h => h) (Or.inl ⟨by kernel_rfl, ?_⟩) C ?_
          rotate_left
          · (intro W hS; obtain ⟨-, -, -, x0, x1, x2⟩ := hS; go_simp; try (with_reducible rfl))
          refine wpAnyH_take (i := 3) (v := ?_) rfl (by kernel_rfl) (by kernel_rfl) (by kernel_rfl) (fun _ _ _ h => h) (Or.inl ⟨by kernel_rfl, ?_⟩) C ?_
          rotate_left
          · (intro W hS; obtain ⟨-, -, -, x0, x1, x2⟩ := hS; go_simp; try (with_reducible rfl))
          refine wpAnyH_take (i := 4) (v := ?_) rfl (by kernel_rfl) (by kernel_rfl) (by kernel_rfl) (fun _ _ _ h => h) (Or.inl ⟨by kernel_rfl, ?_⟩) C ?_
          rotate_left
          · (intro W hS; obtain ⟨-, -, -, x0, x1, x2⟩ := hS; go_simp; try (with_reducible rfl))
          refine wpAnyH_take (i := 5) (v := ?_) rfl (by kernel_rfl) (by kernel_rfl) (by kernel_rfl) (fun _ _ _ h => h) (Or.inl ⟨by kernel_rfl, ?_⟩) C ?_
          rotate_left
          · (intro W hS; obtain ⟨-, -, -, x0, x1, x2⟩ := hS; go_simp; try (with_reducible rfl))
          refine wpAnyH_take (i := 6) (v := ?_) rfl (by kernel_rfl) (by kernel_rfl) (by kernel_rfl) (fun _ _ _ h => h) (Or.inl ⟨by kernel_rfl, ?_⟩) C ?_
          rotate_left
          · (intro W hS; obtain ⟨-, -, -, x0, x1, x2⟩ := hS; go_simp; try (with_reducible rfl))
          refine wpAnyH_take (i := 7) (v := ?_) rfl (by kernel_rfl) (by kernel_rfl) (by kernel_rfl) (fun _ _ _ h => h) (Or.inl ⟨by kernel_rfl, ?_⟩) C ?_
          rotate_left
          · (intro W hS; obtain ⟨-, -, -, x0, x1, x2⟩ := hS; go_simp; try (with_reducible rfl))
          refine wpAnyH_take (i := 8) (v := ?_) rfl (by kernel_rfl) (by kernel_rfl) (by kernel_rfl) (fun _ _ _ h => h) (Or.inl ⟨by kernel_rfl, ?_⟩) C ?_
          rotate_left
          · (intro W hS; obtain ⟨-, -, -, x0, x1, x2⟩ := hS; go_simp; try (with_reducible rfl))
          refine wpAnyH_take (i := 9) (v := ?_) rfl (by kernel_rfl) (by kernel_rfl) (by kernel_rfl) (fun _ _ _ h => h) (Or.inl ⟨by kernel_rfl, ?_⟩) C ?_
          rotate_left
          · (intro W hS; obtain ⟨-, -, -, x0, x1, x2⟩ := hS; go_simp; try (with_reducible rfl))
          refine wpAnyH_ready (rs := [10]) (by kernel_rfl) (by simp) ?_
          refine AllReadyH.cons rfl (fun K hK => ?_) AllReadyH.nil
          go_simp
          refine (H.out.2.1 _ C.2.2.1).mono ?_
          rintro e W10 ⟨rfl, hb⟩
          have C := C.call hb
          refine hK.out _ _ C (fun _ => ?_)
          clear hK K hb
          refine wpAnyH_take (i := 11) (v := ?_) rfl (by kernel_rfl) (by kernel_rfl) (by kernel_rfl) (fun _ _ _ h => h) (Or.inl ⟨by kernel_rfl, ?_⟩) C ?_
          rotate_left
          · (intro W hS; clear hS; go_simp; try (with_reducible rfl))
          refine wpAnyH_take (i := 12) (v := ?_) rfl (by kernel_rfl) (by kernel_rfl) (by kernel_rfl) (fun _ _ _ h => h) (Or.inl ⟨by kernel_rfl, ?_⟩) C ?_
          rotate_left
          · (intro W hS; clear hS; go_simp; try (with_reducible rfl))
          refine wpAnyH_take (i := 13) (v := ?_) rfl (by kernel_rfl) (by kernel_rfl) (by kernel_rfl) (fun _ _ _ h => h) (Or.inl ⟨by kernel_rfl, ?_⟩) C ?_
          rotate_left
          · (intro W hS; clear hS; go_simp; try (with_reducible rfl))
          refine wpAnyH_take (i := 14) (v := ?_) rfl (by kernel_rfl) (by kernel_rfl) (by kernel_rfl) (fun _ _ _ h => h) (Or.inl ⟨by kernel_rfl, ?_⟩) C ?_
          rotate_left
          · (intro W hS; clear hS; go_simp; try (with_reducible rfl))
          refine wpAnyH_take (i := 15) (v := ?_) rfl (by kernel_rfl) (by kernel_rfl) (by kernel_rfl) (fun _ _ _ h => h) (Or.inl ⟨by kernel_rfl, ?_⟩) C ?_
          rotate_left
          · (intro W hS; clear hS; go_simp; try (with_reducible rfl))
          refine wpAnyH_done (by kernel_rfl) ?_ _
          have K3 := Lib.hid C
          clear C
          go_wp2_with fail
          refine (awake_any _).mono ?_
          rintro e w5 ⟨rfl, k5⟩
          have K5 := Lib.hid (below_call' K3.out.2.2.1 k5)
          clear k5
          go_wp2_with fail
          go_ret
          exact ⟨rfl, K5.out⟩
        · obtain ⟨f1, f2, f3⟩ := trnS_parts (key := a) (nonce := b) (C := C0) (text := text) Z he (by omega)
          rw [← hM] at f1 f2 f3
          obtain ⟨D, hD⟩ : ∃ D, D = C0 + Z := ⟨_, rfl⟩
          have hDi : (C0 : Int) + (Z : Int) = (D : Int) := by omega
          have e8 : IntKind.i64.wrap ((C0 : Int) + (Z : Int)) = (D : Int) := by rw [IntWalk.i64_in _ (by omega)]; omega
          have e10 : IntKind.i64.wrap (D : Int) = (D : Int) := IntWalk.i64_in _ (by omega)
          rw [hDi] at f2 f3
          have c3 := fun W (h : Below w.heap.size w W) => turn_any a b D (text.extract M text.size) W (hG.below h)
          have s1 : (trnS a b C0 (text.extract 0 M)).size ≤ 1000 := by rw [trnS_size f1, ByteArray.size_extract]; omega
          have s2 : (trnS a b D (text.extract M text.size)).size ≤ 1000 := by rw [trnS_size f2, ByteArray.size_extract]; omega
          rw [he] at c1
          rw [f1] at c2
          rw [f2] at c3
          generalize trnS a b C0 text = S at *
          generalize trnS a b C0 (text.extract 0 M) = P at *
          generalize trnS a b D (text.extract M text.size) = Q at *
          have hs := beq_same S
          have hs1 : (P.size : Int) ≤ 1000 := by omega
          have hs2 : (Q.size : Int) ≤ 1000 := by omega
          have hMb : ((M : Int) == (text.size : Int)) = false := by
            have : ¬ (M : Int) = text.size := by omega
            simpa using this
          have H := Lib.hid (And.intro c1 (And.intro c2 (And.intro hL (And.intro c3 f3))))
          clear c1 c2 c3 hL hG he hq hK hu1 hu2 hZ hZK hM hend a1 a2 a3 a4 f1 f2 f3 s1 s2 hD
          go_enter Tryd.func6, Tryd.ntmps6
          go_wp2_with fail
          refine (few_yes a b C0 ha hb _).mono ?_
          rintro e w1 ⟨rfl, k1⟩
          have L1 := H.out.2.2.1.call k1
          have K1 := Lib.hid L1
          obtain ⟨-, -, -, x0, x1, x2⟩ := L1
          clear k1
          go_wp2_with fail
          refine (H.out.1 _ K1.out.2.2.1).mono ?_
          rintro e w2 ⟨rfl, k2⟩
          have C := (K1.out.call k2).drew
          clear k2 x0 x1 x2
          go_wp2_with fail
          refine wp_region_held (S := LkS w w.heap.size a b (C0 : Int)) (by kernel_rfl) ?_
          change wpAnyH _ _ _ _ _ _ _ _ (World.drew _)
          generalize World.drew _ = wh at *
          refine wpAnyH_take (i := 0) (v := ?_) rfl (by kernel_rfl) (by kernel_rfl) (by kernel_rfl) (fun _ _ _ h => h) (Or.inl ⟨by kernel_rfl, ?_⟩) C ?_
          rotate_left
          · (intro W hS; obtain ⟨-, -, -, x0, x1, x2⟩ := hS; go_simp; try (with_reducible rfl))
          refine wpAnyH_take (i := 1) (v := ?_) rfl (by kernel_rfl) (by kernel_rfl) (by kernel_rfl) (fun _ _ _ h => h) (Or.inl ⟨by kernel_rfl, ?_⟩) C ?_
          rotate_left
          · (intro W hS; obtain ⟨-, -, -, x0, x1, x2⟩ := hS; go_simp; try (with_reducible rfl))
          refine wpAnyH_take (i := 2) (v := ?_) rfl (by kernel_rfl) (by kernel_rfl) (by kernel_rfl) (fun _ _ _ h => h) (Or.inl ⟨by kernel_rfl, ?_⟩) C ?_
          rotate_left
          · (intro W hS; obtain ⟨-, -, -, x0, x1, x2⟩ := hS; go_simp; try (with_reducible rfl))
          refine wpAnyH_take (i := 3) (v := ?_) rfl (by kernel_rfl) (by kernel_rfl) (by kernel_rfl) (fun _ _ _ h => h) (Or.inl ⟨by kernel_rfl, ?_⟩) C ?_
          rotate_left
          · (intro W hS; obtain ⟨-, -, -, x0, x1, x2⟩ := hS; go_simp; try (with_reducible rfl))
          refine wpAnyH_take (i := 4) (v := ?_) rfl (by kernel_rfl) (by kernel_rfl) (by kernel_rfl) (fun _ _ _ h => h) (Or.inl ⟨by kernel_rfl, ?_⟩) C ?_
          rotate_left
          · (intro W hS; obtain ⟨-, -, -, x0, x1, x2⟩ := hS; go_simp; try (with_reducible rfl))
          refine wpAnyH_take (i := 5) (v := ?_) rfl (by kernel_rfl) (by kernel_rfl) (by kernel_rfl) (fun _ _ _ h => h) (Or.inl ⟨by kernel_rfl, ?_⟩) C ?_
          rotate_left
          · (intro W hS; obtain ⟨-, -, -, x0, x1, x2⟩ := hS; go_simp; try (with_reducible rfl))
          refine wpAnyH_take (i := 6) (v := ?_) rfl (by kernel_rfl) (by kernel_rfl) (by kernel_rfl) (fun _ _ _ h => h) (Or.inl ⟨by kernel_rfl, ?_⟩) C ?_
          rotate_left
          · (intro W hS; obtain ⟨-, -, -, x0, x1, x2⟩ := hS; go_simp; try (with_reducible rfl))
          refine wpAnyH_take (i := 7) (v := ?_) rfl (by kernel_rfl) (by kernel_rfl) (by kernel_rfl) (fun _ _ _ h => h) (Or.inl ⟨by kernel_rfl, ?_⟩) C ?_
          rotate_left
          · (intro W hS; obtain ⟨-, -, -, x0, x1, x2⟩ := hS; go_simp; try (with_reducible rfl))
          refine wpAnyH_take (i := 8) (v := ?_) rfl (by kernel_rfl) (by kernel_rfl) (by kernel_rfl) (fun _ _ _ h => h) (Or.inl ⟨by kernel_rfl, ?_⟩) C ?_
          rotate_left
          · (intro W hS; obtain ⟨-, -, -, x0, x1, x2⟩ := hS; go_simp; try (with_reducible rfl))
          refine wpAnyH_take (i := 9) (v := ?_) rfl (by kernel_rfl) (by kernel_rfl) (by kernel_rfl) (fun _ _ _ h => h) (Or.inl ⟨by kernel_rfl, ?_⟩) C ?_
          rotate_left
          · (intro W hS; obtain ⟨-, -, -, x0, x1, x2⟩ := hS; go_simp; try (with_reducible rfl))
          refine wpAnyH_ready (rs := [10]) (by kernel_rfl) (by simp) ?_
          refine AllReadyH.cons rfl (fun K hK => ?_) AllReadyH.nil
          go_simp
          refine (H.out.2.1 _ C.2.2.1).mono ?_
          rintro e W10 ⟨rfl, hb⟩
          have C := C.call hb
          refine hK.out _ _ C (fun _ => ?_)
          clear hK K hb
          refine wpAnyH_take (i := 11) (v := ?_) rfl (by kernel_rfl) (by kernel_rfl) (by kernel_rfl) (fun _ _ _ h => h) (Or.inl ⟨by kernel_rfl, ?_⟩) C ?_
          rotate_left
          · (intro W hS; clear hS; go_simp; try (with_reducible rfl))
          refine wpAnyH_take (i := 12) (v := ?_) rfl (by kernel_rfl) (by kernel_rfl) (by kernel_rfl) (fun _ _ _ h => h) (Or.inl ⟨by kernel_rfl, ?_⟩) C ?_
          rotate_left
          · (intro W hS; clear hS; go_simp; try (with_reducible rfl))
          refine wpAnyH_take (i := 13) (v := ?_) rfl (by kernel_rfl) (by kernel_rfl) (by kernel_rfl) (fun _ _ _ h => h) (Or.inl ⟨by kernel_rfl, ?_⟩) C ?_
          rotate_left
          · (intro W hS; clear hS; go_simp; try (with_reducible rfl))
          refine wpAnyH_take (i := 14) (v := ?_) rfl (by kernel_rfl) (by kernel_rfl) (by kernel_rfl) (fun _ _ _ h => h) (Or.inl ⟨by kernel_rfl, ?_⟩) C ?_
          rotate_left
          · (intro W hS; clear hS; go_simp; try (with_reducible rfl))
          refine wpAnyH_take (i := 15) (v := ?_) rfl (by kernel_rfl) (by kernel_rfl) (by kernel_rfl) (fun _ _ _ h => h) (Or.inl ⟨by kernel_rfl, ?_⟩) C ?_
          rotate_left
          · (intro W hS; clear hS; go_simp; try (with_reducible rfl))
          refine wpAnyH_done (by kernel_rfl) ?_ _
          have K3 := Lib.hid C
          clear C
          have C := K3.out.drew
          go_wp2_with fail
          refine wp_region_held (S := LkS w w.heap.size a b (C0 : Int)) (by kernel_rfl) ?_
          change wpAnyH _ _ _ _ _ _ _ _ (World.drew _)
          generalize World.drew _ = wh at *
          refine wpAnyH_take (i := 0) (v := ?_) rfl (by kernel_rfl) (by kernel_rfl) (by kernel_rfl) (fun _ _ _ h => h) (Or.inl ⟨by kernel_rfl, ?_⟩) C ?_
          rotate_left
          · (intro W hS; obtain ⟨-, -, -, x0, x1, x2⟩ := hS; go_simp; try (with_reducible rfl))
          refine wpAnyH_take (i := 1) (v := ?_) rfl (by kernel_rfl) (by kernel_rfl) (by kernel_rfl) (fun _ _ _ h => h) (Or.inl ⟨by kernel_rfl, ?_⟩) C ?_
          rotate_left
          · (intro W hS; obtain ⟨-, -, -, x0, x1, x2⟩ := hS; go_simp; try (with_reducible rfl))
          refine wpAnyH_take (i := 2) (v := ?_) rfl (by kernel_rfl) (by kernel_rfl) (by kernel_rfl) (fun _ _ _ h => h) (Or.inl ⟨by kernel_rfl, ?_⟩) C ?_
          rotate_left
          · (intro W hS; obtain ⟨-, -, -, x0, x1, x2⟩ := hS; go_simp; try (with_reducible rfl))
          refine wpAnyH_take (i := 3) (v := ?_) rfl (by kernel_rfl) (by kernel_rfl) (by kernel_rfl) (fun _ _ _ h => h) (Or.inl ⟨by kernel_rfl, ?_⟩) C ?_
          rotate_left
          · (intro W hS; obtain ⟨-, -, -, x0, x1, x2⟩ := hS; go_simp; try (with_reducible rfl))
          refine wpAnyH_take (i := 4) (v := ?_) rfl (by kernel_rfl) (by kernel_rfl) (by kernel_rfl) (fun _ _ _ h => h) (Or.inl ⟨by kernel_rfl, ?_⟩) C ?_
          rotate_left
          · (intro W hS; obtain ⟨-, -, -, x0, x1, x2⟩ := hS; go_simp; try (with_reducible rfl))
          refine wpAnyH_take (i := 5) (v := ?_) rfl (by kernel_rfl) (by kernel_rfl) (by kernel_rfl) (fun _ _ _ h => h) (Or.inl ⟨by kernel_rfl, ?_⟩) C ?_
          rotate_left
          · (intro W hS; obtain ⟨-, -, -, x0, x1, x2⟩ := hS; go_simp; try (with_reducible rfl))
          refine wpAnyH_take (i := 6) (v := ?_) rfl (by kernel_rfl) (by kernel_rfl) (by kernel_rfl) (fun _ _ _ h => h) (Or.inl ⟨by kernel_rfl, ?_⟩) C ?_
          rotate_left
          · (intro W hS; obtain ⟨-, -, -, x0, x1, x2⟩ := hS; go_simp; try (with_reducible rfl))
          refine wpAnyH_take (i := 7) (v := ?_) rfl (by kernel_rfl) (by kernel_rfl) (by kernel_rfl) (fun _ _ _ h => h) (Or.inl ⟨by kernel_rfl, ?_⟩) C ?_
          rotate_left
          · (intro W hS; obtain ⟨-, -, -, x0, x1, x2⟩ := hS; go_simp; try (with_reducible rfl))
          refine wpAnyH_take (i := 8) (v := ?_) rfl (by kernel_rfl) (by kernel_rfl) (by kernel_rfl) (fun _ _ _ h => h) (Or.inl ⟨by kernel_rfl, ?_⟩) C ?_
          rotate_left
          · (intro W hS; obtain ⟨-, -, -, x0, x1, x2⟩ := hS; go_simp; try (with_reducible rfl))
          refine wpAnyH_take (i := 9) (v := ?_) rfl (by kernel_rfl) (by kernel_rfl) (by kernel_rfl) (fun _ _ _ h => h) (Or.inl ⟨by kernel_rfl, ?_⟩) C ?_
          rotate_left
          · (intro W hS; obtain ⟨-, -, -, x0, x1, x2⟩ := hS; go_simp; try (with_reducible rfl))
          refine wpAnyH_take (i := 10) (v := ?_) rfl (by kernel_rfl) (by kernel_rfl) (by kernel_rfl) (fun _ _ _ h => h) (Or.inl ⟨by kernel_rfl, ?_⟩) C ?_
          rotate_left
          · (intro W hS; obtain ⟨-, -, -, x0, x1, x2⟩ := hS; go_simp; try (with_reducible rfl))
          refine wpAnyH_take (i := 11) (v := ?_) rfl (by kernel_rfl) (by kernel_rfl) (by kernel_rfl) (fun _ _ _ h => h) (Or.inl ⟨by kernel_rfl, ?_⟩) C ?_
          rotate_left
          · (intro W hS; obtain ⟨-, -, -, x0, x1, x2⟩ := hS; go_simp; try (with_reducible rfl))
          refine wpAnyH_ready (rs := [12]) (by kernel_rfl) (by simp) ?_
          refine AllReadyH.cons rfl (fun K hK => ?_) AllReadyH.nil
          go_simp
          refine (H.out.2.2.2.1 _ C.2.2.1).mono ?_
          rintro e W12 ⟨rfl, hb⟩
          have C := C.call hb
          refine hK.out _ _ C (fun _ => ?_)
          clear hK K hb
          refine wpAnyH_take (i := 13) (v := ?_) rfl (by kernel_rfl) (by kernel_rfl) (by kernel_rfl) (fun _ _ _ h => h) (Or.inl ⟨by kernel_rfl, ?_⟩) C ?_
          rotate_left
          · (intro W hS; clear hS; go_simp; try (with_reducible rfl))
          refine wpAnyH_take (i := 14) (v := ?_) rfl (by kernel_rfl) (by kernel_rfl) (by kernel_rfl) (fun _ _ _ h => h) (Or.inl ⟨by kernel_rfl, ?_⟩) C ?_
          rotate_left
          · (intro W hS; clear hS; go_simp; try (with_reducible rfl))
          refine wpAnyH_take (i := 15) (v := ?_) rfl (by kernel_rfl) (by kernel_rfl) (by kernel_rfl) (fun _ _ _ h => h) (Or.inl ⟨by kernel_rfl, ?_⟩) C ?_
          rotate_left
          · (intro W hS; clear hS; go_simp; try (with_reducible rfl))
          refine wpAnyH_take (i := 16) (v := ?_) rfl (by kernel_rfl) (by kernel_rfl) (by kernel_rfl) (fun _ _ _ h => h) (Or.inl ⟨by kernel_rfl, ?_⟩) C ?_
          rotate_left
          · (intro W hS; clear hS; go_simp; try (with_reducible rfl))
          refine wpAnyH_take (i := 17) (v := ?_) rfl (by kernel_rfl) (by kernel_rfl) (by kernel_rfl) (fun _ _ _ h => h) (Or.inl ⟨by kernel_rfl, ?_⟩) C ?_
          rotate_left
          · (intro W hS; clear hS; go_simp; try (with_reducible rfl))
          refine wpAnyH_done (by kernel_rfl) ?_ _
          have K4 := Lib.hid C
          clear C
          go_wp2_with fail
          refine (awake_any _).mono ?_
          rintro e w5 ⟨rfl, k5⟩
          have K5 := Lib.hid (below_call' K4.out.2.2.1 k5)
          clear k5
          go_wp2_with fail
          go_ret
          refine ⟨?_, K5.out⟩
          show Ending.returned (.bool ((P ++ Q).toList == S.toList)) = _
          rw [H.out.2.2.2.2, hs]
      · rw [trnS_bad he] at c1
        have hb2 := ne_zero_bne he
        generalize chkE a.size b.size c text.size = E at *
        have H := Lib.hid (And.intro c1 hL)
        clear c1 hL hG he
        go_enter Tryd.func6, Tryd.ntmps6
        go_wp2_with fail
        refine (few_yes a b c ha hb _).mono ?_
        rintro e w1 ⟨rfl, k1⟩
        have L1 := H.out.2.call k1
        have K1 := Lib.hid L1
        obtain ⟨-, -, -, x0, x1, x2⟩ := L1
        clear k1
        go_wp2_with fail
        refine (H.out.1 _ K1.out.2.2.1).mono ?_
        rintro e w2 ⟨rfl, k2⟩
        have K2 := Lib.hid (below_call' K1.out.2.2.1 k2)
        clear k2 x0 x1 x2
        go_wp2_with fail
        refine (awake_any _).mono ?_
        rintro e w3 ⟨rfl, k3⟩
        have K3 := Lib.hid (below_call' K2.out k3)
        clear k3
        go_wp2_with fail
        go_ret
        exact ⟨rfl, K3.out⟩
  · have H := Lib.hid hL
    clear hL hG
    go_enter Tryd.func6, Tryd.ntmps6
    go_wp2_with fail
    refine (few_no a b c hf _).mono ?_
    rintro e w1 ⟨rfl, k1⟩
    have K1 := Lib.hid (below_call' H.out.2.2.1 k1)
    clear k1
    go_wp2_with fail
    refine (awake_any _).mono ?_
    rintro e w2 ⟨rfl, k2⟩
    have K2 := Lib.hid (below_call' K1.out k2)
    clear k2
    go_wp2_with fail
    go_ret
    exact ⟨rfl, K2.out⟩
end Go.Proofs.YtgighdiidblihaaDoor

namespace Go.Proofs.YtgighdiidblihaaDoor.chachaPartsLaw
open Go.ChangeShapes Go.WideShapes Go.ChangeAt Go.RowKit
open Go.ChangeMaps (open_string shut_string)

theorem contract (H : Type) (enc : TypeId × Value → H) (W : World) (base : Nat) (args : Array Value) (ds gs : List (DataW H)) (before : List MemPlace)
    (hval : ∀ (j : Nat) t v, Tryd.f6.params[j]? = some t → args[j]? = some v → Value.okWide Tryd.prog W .any base t v)
    (hW : DataW.Whole enc Tryd.prog Tryd.f6.params.toList Rows.chachaPartsSpec.vars false W args.toList ds gs before) (hL : laidMetH Tryd.prog Rows.chachaPartsRow.laid W) :
    Calls Tryd.prog 6 args W fun e W' => ∃ v, e = .returned v ∧ Rows.chachaPartsSpec.post enc Tryd.prog Tryd.f6 false true false false W args v W' := by
  have hW' := hW
  obtain ⟨p, q, hA0, hV, rfl, hfz, hnd⟩ := hW
  have hA : DataW.TrodAll enc Tryd.prog W 0 (fun _ => true) true Tryd.f6.params.toList args.toList ds p := hA0
  rw [Tryd.params6] at hA hval
  obtain ⟨v0, vs0, d0, ds0, p0, q0, hargs, rfl, rfl, h0, r0⟩ := trodAll_cons hA
  obtain ⟨v1, vs1, d1, ds1, p1, q1, rfl, rfl, rfl, h1, r1⟩ := trodAll_cons r0
  obtain ⟨v2, vs2, d2, ds2, p2, q2, rfl, rfl, rfl, h2, r2⟩ := trodAll_cons r1
  obtain ⟨rfl, rfl, rfl⟩ := trodAll_nil r2
  obtain rfl : args = #[v0, v1, v2] := by cases args; simp_all
  obtain ⟨rfl, rfl⟩ := trodVars_none hV
  obtain ⟨cs0, rfl, hcs0⟩ := okWide_struct Tryd.underlying23 (hval 0 23 v0 rfl rfl)
  have hk0 := h0
  obtain ⟨fuel0, hf0⟩ := h0
  obtain ⟨s1, rfl, rfl, rfl, ws1⟩ := open_string Tryd.underlying9 (hval 1 9 v1 rfl rfl) h1
  obtain ⟨n2, rfl, rfl, rfl, ws2⟩ := open_int Tryd.underlying3 (hval 2 3 v2 rfl rfl) h2
  have hbd2 := ws2
  simp only [Lit.wf, Bool.and_eq_true, decide_eq_true_eq] at hbd2
  clear hA0
  simp only [List.append_nil] at hW'
  have hlt0 : ∀ x ∈ p0, x.block < W.heap.size := fun x hx => by simpa using hW'.lt x (by simp [hx])
  obtain ⟨x0a, x0b, x0n, hit0, hf0a, hf0b, hf0c, hf0d⟩ := open_lock hf0
  obtain rfl : cs0 = lock x0a x0b x0n := Array.toList_inj.1 hit0
  refine (parts_law x0a x0b x0n hf0a hf0b hf0c hf0d s1 (by simpa using ws1) n2 hbd2.1 hbd2.2 (w := W) (hG := glob_of_laid hL)).mono fun e W' ⟨he, hb⟩ => ?_
  subst he
  exact ⟨_, rfl, _, _, _, [], _, [], hW', trodAll_cons_mk (shut_bool Tryd.underlying4 _) trodAll_mk0, (trodAll_cons_mk (Below.trod laidOut (by kernel_rfl) (of_decide_eq_true (by kernel_rfl)) hk0 hb hlt0) (trodAll_cons_mk (shut_string Tryd.underlying9 ws1) (trodAll_cons_mk (shut_int Tryd.underlying3 ws2) trodAll_mk0))), rfl, hb.frame _, fun h => by cases h⟩
theorem laid_met (os : Os) : laidMet Tryd.prog Rows.chachaPartsRow.laid ((laidWorld os).forCall (fun _ _ => 0) ⟨#[], #[.agg #[.string ⟨#[]⟩, .string ⟨#[]⟩, .int .i64 0], .string ⟨#[]⟩, .int .i64 0], []⟩).memory :=
  laidMet_of_run' 8 (by kernel_rfl) (by kernel_rfl)
theorem reads (os : Os) {H : Type} (enc : TypeId × Value → H) : ∃ places, DataW.whole enc Tryd.prog ((laidWorld os).forCall (fun _ _ => 0) ⟨#[], #[.agg #[.string ⟨#[]⟩, .string ⟨#[]⟩, .int .i64 0], .string ⟨#[]⟩, .int .i64 0], []⟩).memory Tryd.f6.params.toList Rows.chachaPartsSpec.vars false #[Value.agg #[.string ⟨#[]⟩, .string ⟨#[]⟩, .int .i64 0], .string ⟨#[]⟩, .int .i64 0].toList 8 = some ([.agg [.lit (.string []), .lit (.string []), .lit (.int .i64 0)], .lit (.string []), .lit (.int .i64 0)], [], places) :=
  ⟨[], by kernel_rfl⟩
set_option maxRecDepth 100000 in
theorem lifted (os : Os) (started : os.Started) (H : Type) (enc : TypeId × Value → H) (F : Stop.Interp) :
    ReturnsInHanded {} Tryd.checked os 6 .any ((OpenSpec.ofChange Rows.chachaPartsSpec).preRow enc Tryd.prog Tryd.f6 Rows.chachaPartsRow.domain false Rows.chachaPartsRow.laid) (((OpenSpec.ofChange Rows.chachaPartsSpec).at F).post enc Tryd.prog Tryd.f6 false true false false) := by
  obtain ⟨places, hx⟩ := reads os enc
  refine returnsInHanded_of_row (C := Tryd.checked) (s := OpenSpec.ofChange Rows.chachaPartsSpec) own started (by kernel_rfl) Tryd.func6
    (witness_row_at (enc := enc) (C := Tryd.checked) false (laidWorld os) #[.agg #[.string ⟨#[]⟩, .string ⟨#[]⟩, .int .i64 0], .string ⟨#[]⟩, .int .i64 0] rfl (by kernel_rfl) (by kernel_rfl) (by kernel_rfl)
      (OpenSpec.preRow_of_cond 8 hx (by kernel_rfl) (fun k hk => by cases hk) (by kernel_rfl) (laid_met os))) ?_
  intro W base args ds gs before hval hW _ _ _ hL _ _
  exact contract H enc W base args ds gs before hval hW hL
theorem said : Rows.ChachaPartsSaid :=
  OpenClaim.holds_of_cond 6 Tryd.f6 rfl rfl rfl rfl rfl rfl rfl ⟨rfl, rfl, rfl, rfl, rfl⟩ rfl rfl rfl rfl rfl (by kernel_rfl) Tryd.func6 (by kernel_rfl)
    (of_decide_eq_true (by kernel_rfl)) (by unfold Func.isWrapper; first | (rw [if_pos (by decide +kernel)]; kernel_rfl) | (rw [if_neg (by decide +kernel)]; exact ⟨rfl, rfl⟩))
    (fun os started H enc _ F => by rw [OpenClaim.pre_eq_preRow]; exact lifted os started H enc F)
theorem plain (f : FuncId) (fn : Func) (hf : Tryd.pinned.checked.prog.funcNamed "lockbox/lockboxlaw05.ChachaParts" = some f) (hfn : Tryd.pinned.checked.prog.funcs[f]? = some fn) :
    false = Tryd.pinned.checked.prog.looks [] ∧ ∀ (j : Nat) t, fn.params[j]? = some t → Tryd.pinned.checked.prog.wantsStandIn t = false := by
  obtain rfl : f = 6 := Option.some.inj ((show Tryd.prog.funcNamed "lockbox/lockboxlaw05.ChachaParts" = some 6 by kernel_rfl).symm.trans hf) |>.symm
  obtain rfl : fn = Tryd.f6 := (Option.some.inj (Tryd.func6.symm.trans hfn)).symm
  refine ⟨by kernel_rfl, fun j t ht => ?_⟩
  rw [Tryd.params6] at ht
  have hm : t ∈ [23, 9, 3] := by simpa using Array.mem_of_getElem? ht
  have hall : ([23, 9, 3].all fun u => !Tryd.prog.wantsStandIn u) = true := by kernel_rfl
  exact (show Tryd.prog.wantsStandIn t = false by simpa using List.all_eq_true.1 hall t hm)
end Go.Proofs.YtgighdiidblihaaDoor.chachaPartsLaw

namespace Go.Proofs.YtgighdiidblihaaDoor
/-- THE CARD. -/
theorem chachaParts_card : Rows.ChachaPartsCardSaid :=
  Claim7.holds_tied_plain_at .later [] _ _ _ _ chachaPartsLaw.said (fun _ h => by cases h) (by kernel_rfl) (fun _ h => by cases h) chachaParts_row_tie rfl ⟨rfl, rfl⟩ (by kernel_rfl) rfl chachaPartsLaw.plain (by kernel_rfl)
end Go.Proofs.YtgighdiidblihaaDoor
