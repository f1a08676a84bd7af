/- Merged by program: seal.check, turned. | seal.listOf. | seal.Seal, Long. | seal.parted. | seal.Open, Number. | lockboxlaw16.awake. -/
import Derived.Test.YtgoimggfpagojaaDoorSlRef
import Derived.Test.YtgoimggfpagojaaDoorMKey
import Derived.Test.YtgoimggfpagojaaDoorQTurn
import Derived.Deep.RegionHeld
import Derived.Test.YtgoimggfpagojaaDoorSlMath
import Derived.Test.YtgoimggfpagojaaDoorItR
import Derived.Test.YtgoimggfpagojaaDoorOwnT
import Derived.Test.YtgoimggfpagojaaDoorMC3
import Derived.Test.YtgoimggfpagojaaDoorMOne
import Derived.Test.YtgoimggfpagojaaDoorCnF
import Derived.Test.YtgoimggfpagojaaDoorMC5
import Derived.Test.YtgoimggfpagojaaDoorMC6
import Derived.BigQuiet
import Derived.Deep.QuietTactic
import Derived.Test.YtgoimggfpagojaaDoorMakeB
namespace Go.Proofs.YtgoimggfpagojaaDoor
open Go.RowKit
open Cn

set_option maxRecDepth 100000 in
set_option maxHeartbeats 1000000 in
theorem scheck_any (key : ByteArray) (n : Int) (w : World) : Calls Tryd.prog 44 #[.string key, .int .i64 n] w fun e w' => e = .returned (.int .i64 (askP key n)) ∧ Below w.heap.size w w' := by
  obtain ⟨R, hR⟩ : ∃ R, R = askP key n := ⟨_, rfl⟩
  rw [← hR]
  by_cases h32 : key.size = 32
  · have h32i : (key.size : Int) = 32 := by omega
    by_cases h1 : n < 0
    · have hRe : R = 1 := by rw [hR]; unfold askP; rw [if_neg (fun h => h h32), if_neg (fun h => by obtain ⟨a, b⟩ := h; omega)]
      have HM := Lib.hid hRe
      clear hRe hR h32
      go_enter Tryd.func44, Tryd.ntmps44
      go_wp2_with fail
      go_ret
      exact ⟨by rw [HM.out]; rfl, Below.refl _ _⟩
    · by_cases h2 : 72057594037927935 < n
      · have hRe : R = 1 := by rw [hR]; unfold askP; rw [if_neg (fun h => h h32), if_neg (fun h => by obtain ⟨a, b⟩ := h; omega)]
        have HM := Lib.hid hRe
        clear hRe hR h32
        go_enter Tryd.func44, Tryd.ntmps44
        go_wp2_with fail
        go_ret
        exact ⟨by rw [HM.out]; rfl, Below.refl _ _⟩
      · have hRe : R = 0 := by rw [hR]; unfold askP; rw [if_neg (fun h => h h32), if_pos ⟨by omega, by omega⟩]
        have HM := Lib.hid hRe
        clear hRe hR h32
        go_enter Tryd.func44, Tryd.ntmps44
        go_wp2_with fail
        go_ret
        exact ⟨by rw [HM.out]; rfl, Below.refl _ _⟩
  · have h32i : ¬ ((key.size : Int) = 32) := by omega
    have hRe : R = 13 := by rw [hR]; unfold askP; rw [if_pos h32]
    have HM := Lib.hid hRe
    clear hRe hR h32
    go_enter Tryd.func44, Tryd.ntmps44
    go_wp2_with fail
    go_ret
    exact ⟨by rw [HM.out]; rfl, Below.refl _ _⟩
/-- A nonce, its last k bytes laid. -/
def nonL (u k : Nat) : List UInt8 := (List.range 12).map fun j => if 11 < j + k then UInt8.ofNat (u / 2 ^ (8 * (11 - j))) else 0
theorem nonL_length (u k : Nat) : (nonL u k).length = 12 := by simp [nonL]
theorem nonL_get (u k j : Nat) (hj : j < 12) : (nonL u k).getD j 0 = if 11 < j + k then UInt8.ofNat (u / 2 ^ (8 * (11 - j))) else 0 := by
  simp [nonL, List.getD_eq_getElem?_getD, hj]
theorem nonL_all (u : Nat) : nonL u 8 = 0 :: 0 :: 0 :: 0 :: numB u := by
  have e : ∀ k, 2 ^ (8 * k) = 256 ^ k := fun k => by rw [Nat.pow_mul]
  unfold nonL numB
  simp only [e]
  rfl
set_option maxRecDepth 100000 in
set_option maxHeartbeats 1000000 in
theorem sturned_any (key : ByteArray) (n : Int) (t : ByteArray) (hk : key.size ≤ 1000000) (hn : numOk n) (w : World) (hG : Glob w) (hQ : GlobQ w) :
    Calls Tryd.prog 45 #[.string key, .int .i64 n, .string t] w fun e w' => e = .returned (.string (trnP key n t)) ∧ Below w.heap.size w w' := by
  obtain ⟨u, rfl⟩ : ∃ u : Nat, n = (u : Int) := ⟨n.toNat, by have := hn.1; omega⟩
  have hu : u ≤ 72057594037927935 := by have := hn.2; omega
  have hkey := fun (W : World) (hb : Below w.heap.size w W) => key_any key hideL (by omega) (by decide) (u : Int) W (hG.below hb)
  obtain ⟨K, hK⟩ : ∃ K, K = keyS key hideL (u : Int) := ⟨_, rfl⟩
  obtain ⟨M, hM⟩ : ∃ M, M = str (nonL u 8) := ⟨_, rfl⟩
  have hMn : M = nonS (u : Int) := by rw [hM, nonL_all]; unfold nonS; congr 6; omega
  have hturn := fun (W : World) (hb : Below w.heap.size w W) => turn_any K M 1 t W (hQ.below hb)
  obtain ⟨E, hE⟩ : ∃ E, E = chkE K.size M.size 1 t.size := ⟨_, rfl⟩
  obtain ⟨R, hR⟩ : ∃ R, R = trnP key (u : Int) t := ⟨_, rfl⟩
  rw [show str (keyL key.data.toList hideL.data.toList ((u : Int) % 18446744073709551616).toNat) = K from by rw [hK]; rfl] at hkey
  rw [← hE, show trnS K M 1 t = R from by rw [hR, hK, hMn]; rfl] at hturn
  rw [← hR]
  have HF := Lib.hid (And.intro hkey (And.intro hturn hM))
  clear hkey hturn hR hE hM hMn hK hG hQ hn
  go_enter Tryd.func45, Tryd.ntmps45
  go_wp2_with fail
  have hR : Row8 w.heap.size (w.alloc (.cells #[.int .u8 0, .int .u8 0, .int .u8 0, .int .u8 0, .int .u8 0, .int .u8 0, .int .u8 0, .int .u8 0, .int .u8 0, .int .u8 0, .int .u8 0, .int .u8 0] 98)) w.heap.size (nonL u 0) := by
    refine ⟨Nat.le_refl _, by simp, fun i hi => ⟨?_, frozen_of_row _ _ _ _ _ (heap_alloc_new _ _)⟩⟩
    rw [nonL_length] at hi
    rw [cell_of_row _ _ _ _ _ _ (heap_alloc_new _ _), nonL_get _ _ _ hi, if_neg (by omega)]
    match i, hi with
    | 0, _ => rfl | 1, _ => rfl | 2, _ => rfl | 3, _ => rfl | 4, _ => rfl | 5, _ => rfl | 6, _ => rfl | 7, _ => rfl | 8, _ => rfl | 9, _ => rfl | 10, _ => rfl | 11, _ => rfl
  have HI := Lib.hid (And.intro hR ((Below.refl w.heap.size w).alloc (Nat.le_refl _) (.cells #[.int .u8 0, .int .u8 0, .int .u8 0, .int .u8 0, .int .u8 0, .int .u8 0, .int .u8 0, .int .u8 0, .int .u8 0, .int .u8 0, .int .u8 0, .int .u8 0] 98)))
  clear hR
  go_loopw [8, 11] (fun _ i wr => ∃ k : Nat, k ≤ 8 ∧ i = .int .i64 k ∧ Row8 w.heap.size wr w.heap.size (nonL u k) ∧ Below w.heap.size w wr) (fun _ i _ => 8 - (intOf i).toNat)
  case atStart => exact ⟨0, by omega, rfl, HI.out.1, HI.out.2⟩
  case round =>
    clear HI
    obtain ⟨k, hk8, rfl, hR, hb⟩ := hrel
    by_cases hlt : k < 8
    · obtain ⟨hc, hf⟩ := hR.2.2 (11 - k) (by rw [nonL_length]; omega)
      rw [nonL_get _ _ _ (by omega), if_neg (by omega)] at hc
      have H := Lib.hid (And.intro hR hb)
      clear hR hb
      go_wp2_with fail
      go_roundw
      case rel =>
        have hv : (u : Int) / 2 ^ (8 * k) % 256 = ((UInt8.ofNat (u / 2 ^ (8 * k))).toNat : Int) := by
          rw [UInt8.toNat_ofNat']; simp
        rw [hv]
        refine ⟨k + 1, by omega, by go_num, ?_, H.out.2.setCell (Nat.le_refl _) _⟩
        refine H.out.1.put (11 - k) (by rw [nonL_length]; omega) _ (by rw [nonL_length, nonL_length]) ?_ (fun i hi hne => ?_)
        · rw [nonL_get _ _ _ (by omega), if_pos (by omega), show 11 - (11 - k) = k by omega]
        · rw [nonL_length] at hi
          rw [nonL_get _ _ _ hi, nonL_get _ _ _ hi]
          by_cases h1 : 11 < i + k
          · rw [if_pos (by omega), if_pos h1]
          · rw [if_neg (by omega), if_neg h1]
      case measure => simp [intOf]; omega
    · obtain rfl : k = 8 := by omega
      have H := Lib.hid (And.intro hR hb)
      clear hR hb
      have hkl : True := trivial
      go_wp2_with fail
      refine wp_region_held (S := fun W : World => Row8 w.heap.size W w.heap.size (nonL u 8)) (by kernel_rfl) ?_
      change wpAnyH _ _ _ _ _ _ _ _ (World.drew _)
      generalize hv0 : World.drew _ = v0
      have E0 : Row8 w.heap.size v0 w.heap.size (nonL u 8) := by rw [← hv0]; exact H.out.1
      have F0 : Below w.heap.size w v0 := by rw [← hv0]; exact H.out.2.drew
      clear hv0 hkl
      refine wpAnyH_take (i := 0) (v := ?_) rfl (by kernel_rfl) (by kernel_rfl) (by kernel_rfl) (fun _ _ _ h => h) (Or.inl ⟨by kernel_rfl, ?_⟩) E0 ?_
      rotate_left
      · (intro W hS; clear hS; go_simp; try (with_reducible rfl))
      refine wpAnyH_take (i := 1) (v := ?_) rfl (by kernel_rfl) (by kernel_rfl) (by kernel_rfl) (fun _ _ _ h => h) (Or.inl ⟨by kernel_rfl, ?_⟩) E0 ?_
      rotate_left
      · (intro W hS; clear hS; go_simp; try (with_reducible rfl))
      refine wpAnyH_take (i := 3) (v := ?_) rfl (by kernel_rfl) (by kernel_rfl) (by kernel_rfl) (fun _ _ _ h => h) (Or.inl ⟨by kernel_rfl, ?_⟩) E0 ?_
      rotate_left
      · (intro W hS; clear hS; go_simp; try (with_reducible rfl))
      refine wpAnyH_take (i := 5) (v := ?_) rfl (by kernel_rfl) (by kernel_rfl) (by kernel_rfl) (fun _ _ _ h => h) (Or.inl ⟨by kernel_rfl, ?_⟩) E0 ?_
      rotate_left
      · (intro W hS; clear hS; go_simp; try (with_reducible rfl))
      have hcv0 := E0.conv 12 (nonL_length _ _) 12
      rw [← HF.out.2.2] at hcv0
      refine wpAnyH_ready (rs := [2, 4]) (by kernel_rfl) (by simp) ?_
      refine AllReadyH.cons rfl (fun K hK => ?_) (AllReadyH.cons rfl (fun K hK => ?_) AllReadyH.nil)
      · go_simp
        refine (HF.out.1 v0 F0).mono ?_
        rintro e v1 ⟨rfl, hb⟩
        have F1 := F0.trans (hb.mono F0.size)
        have E1 : Row8 w.heap.size v1 w.heap.size (nonL u 8) := E0.call hb
        refine hK.out _ _ E1 (fun _ => ?_)
        clear hK K hb hcv0
        have hcv1 := E1.conv 12 (nonL_length _ _) 12
        rw [← HF.out.2.2] at hcv1
        refine wpAnyH_ready (rs := [4]) (by kernel_rfl) (by simp) ?_
        refine AllReadyH.cons rfl (fun K hK => ?_) AllReadyH.nil
        go_simp
        refine hK.out _ _ E1 (fun _ => ?_)
        clear hK K hcv1
        refine wpAnyH_ready (rs := [6]) (by kernel_rfl) (by simp) ?_
        refine AllReadyH.cons rfl (fun K hK => ?_) AllReadyH.nil
        go_simp
        refine (HF.out.2.1 v1 F1).mono ?_
        rintro e v2 ⟨rfl, hb⟩
        have F2 := F1.trans (hb.mono F1.size)
        have E2 : Row8 w.heap.size v2 w.heap.size (nonL u 8) := E1.call hb
        refine hK.out _ _ E2 (fun _ => ?_)
        clear hK K hb
        refine wpAnyH_take (i := 7) (v := ?_) rfl (by kernel_rfl) (by kernel_rfl) (by kernel_rfl) (fun _ _ _ h => h) (Or.inl ⟨by kernel_rfl, ?_⟩) E2 ?_
        rotate_left
        · (intro W hS; clear hS; go_simp; try (with_reducible rfl))
        refine wpAnyH_take (i := 8) (v := ?_) rfl (by kernel_rfl) (by kernel_rfl) (by kernel_rfl) (fun _ _ _ h => h) (Or.inl ⟨by kernel_rfl, ?_⟩) E2 ?_
        rotate_left
        · (intro W hS; clear hS; go_simp; try (with_reducible rfl))
        refine wpAnyH_take (i := 9) (v := ?_) rfl (by kernel_rfl) (by kernel_rfl) (by kernel_rfl) (fun _ _ _ h => h) (Or.inl ⟨by kernel_rfl, ?_⟩) E2 ?_
        rotate_left
        · (intro W hS; clear hS; go_simp; try (with_reducible rfl))
        refine wpAnyH_take (i := 10) (v := ?_) rfl (by kernel_rfl) (by kernel_rfl) (by kernel_rfl) (fun _ _ _ h => h) (Or.inl ⟨by kernel_rfl, ?_⟩) E2 ?_
        rotate_left
        · (intro W hS; clear hS; go_simp; try (with_reducible rfl))
        refine wpAnyH_take (i := 11) (v := ?_) rfl (by kernel_rfl) (by kernel_rfl) (by kernel_rfl) (fun _ _ _ h => h) (Or.inl ⟨by kernel_rfl, ?_⟩) E2 ?_
        rotate_left
        · (intro W hS; clear hS; go_simp; try (with_reducible rfl))
        refine wpAnyH_done (by kernel_rfl) ?_ _
        go_simp
        go_wp2_with fail
        go_ret
        exact ⟨rfl, F2⟩
      · go_simp
        refine hK.out _ _ E0 (fun _ => ?_)
        clear hK K hcv0
        refine wpAnyH_ready (rs := [2]) (by kernel_rfl) (by simp) ?_
        refine AllReadyH.cons rfl (fun K hK => ?_) AllReadyH.nil
        go_simp
        refine (HF.out.1 v0 F0).mono ?_
        rintro e v1 ⟨rfl, hb⟩
        have F1 := F0.trans (hb.mono F0.size)
        have E1 : Row8 w.heap.size v1 w.heap.size (nonL u 8) := E0.call hb
        refine hK.out _ _ E1 (fun _ => ?_)
        clear hK K hb
        refine wpAnyH_ready (rs := [6]) (by kernel_rfl) (by simp) ?_
        refine AllReadyH.cons rfl (fun K hK => ?_) AllReadyH.nil
        go_simp
        refine (HF.out.2.1 v1 F1).mono ?_
        rintro e v2 ⟨rfl, hb⟩
        have F2 := F1.trans (hb.mono F1.size)
        have E2 : Row8 w.heap.size v2 w.heap.size (nonL u 8) := E1.call hb
        refine hK.out _ _ E2 (fun _ => ?_)
        clear hK K hb
        refine wpAnyH_take (i := 7) (v := ?_) rfl (by kernel_rfl) (by kernel_rfl) (by kernel_rfl) (fun _ _ _ h => h) (Or.inl ⟨by kernel_rfl, ?_⟩) E2 ?_
        rotate_left
        · (intro W hS; clear hS; go_simp; try (with_reducible rfl))
        refine wpAnyH_take (i := 8) (v := ?_) rfl (by kernel_rfl) (by kernel_rfl) (by kernel_rfl) (fun _ _ _ h => h) (Or.inl ⟨by kernel_rfl, ?_⟩) E2 ?_
        rotate_left
        · (intro W hS; clear hS; go_simp; try (with_reducible rfl))
        refine wpAnyH_take (i := 9) (v := ?_) rfl (by kernel_rfl) (by kernel_rfl) (by kernel_rfl) (fun _ _ _ h => h) (Or.inl ⟨by kernel_rfl, ?_⟩) E2 ?_
        rotate_left
        · (intro W hS; clear hS; go_simp; try (with_reducible rfl))
        refine wpAnyH_take (i := 10) (v := ?_) rfl (by kernel_rfl) (by kernel_rfl) (by kernel_rfl) (fun _ _ _ h => h) (Or.inl ⟨by kernel_rfl, ?_⟩) E2 ?_
        rotate_left
        · (intro W hS; clear hS; go_simp; try (with_reducible rfl))
        refine wpAnyH_take (i := 11) (v := ?_) rfl (by kernel_rfl) (by kernel_rfl) (by kernel_rfl) (fun _ _ _ h => h) (Or.inl ⟨by kernel_rfl, ?_⟩) E2 ?_
        rotate_left
        · (intro W hS; clear hS; go_simp; try (with_reducible rfl))
        refine wpAnyH_done (by kernel_rfl) ?_ _
        go_simp
        go_wp2_with fail
        go_ret
        exact ⟨rfl, F2⟩
end Go.Proofs.YtgoimggfpagojaaDoor
namespace Go.Proofs.YtgoimggfpagojaaDoor
open Go.RowKit
open Cn

theorem szP_txt : ∀ l : List ByteArray, szPAll (l.map txtT) = l.length
  | [] => rfl
  | p :: l => by rw [List.map_cons, szPAll, szP_txt l, List.length_cons]; simp only [txtT, szP, szPAll]; omega
theorem Mk.one {w0 wr : World} {g : Nat} (n : Int) (hb : Below w0.heap.size w0 wr) (hg : wr.heap[g]? = some (.cells #[.int .i64 1, .int .i64 n, .string ⟨#[]⟩, .slice none 0 0] 104 (0, 0))) (hB : w0.heap.size ≤ g) : Mk 104 w0 [numT n] [Fl.N n] (some ⟨g, 0, none⟩) 1 wr :=
  ⟨rfl, ⟨rfl, .inr ⟨g, 1, _, rfl, hB, hg, Nat.le_refl _, by decide, rfl, rfl⟩⟩, ⟨Fl.inN n, trivial⟩, hb⟩
theorem snocS {l : List ByteArray} {k : Nat} (h : k < l.length) : l.take (k + 1) = l.take k ++ [l.getD k ByteArray.empty] := by
  rw [List.take_add_one, List.getD_eq_getElem?_getD, List.getElem?_eq_getElem h]; rfl
set_option maxRecDepth 100000 in
set_option maxHeartbeats 2000000 in
theorem slistOf_any (n : Int) (ss : List ByteArray) (a0 : Option Addr) (cap0 : Nat) (hm : ss.length ≤ 10) (hs : ∀ x ∈ ss, x.size ≤ maxLen) (w : World) (hT : TextsAt w a0 ss) :
    Calls Tryd.prog 47 #[.int .i64 n, .slice a0 ss.length cap0] w fun e w' => e = .returned (.string (c_encS (lstT (numT n :: ss.map txtT)))) ∧ Below w.heap.size w w' := by
  obtain ⟨N, hN⟩ : ∃ N, N = ss.length := ⟨_, rfl⟩
  obtain ⟨R, hR⟩ : ∃ R, R = c_encS (lstT (numT n :: ss.map txtT)) := ⟨_, rfl⟩
  have H := Lib.hid (And.intro hT (And.intro hN (And.intro hs hR)))
  rw [← hN] at hm ⊢
  rw [← hR]
  clear hT hN hs hR
  go_enter Tryd.func47, Tryd.ntmps47
  go_wp2_with fail
  refine (num_any n _).mono ?_
  rintro e w1 ⟨rfl, hb1⟩
  have hM1 : Mk 104 w [numT n] [Fl.N n] (some ⟨w1.heap.size, 0, none⟩) 1 (w1.alloc (.cells #[.int .i64 1, .int .i64 n, .string ⟨#[]⟩, .slice none 0 0] 104)) :=
    Mk.one n (hb1.alloc hb1.size _) (heap_alloc_new _ _) hb1.size
  have H1 := Lib.hid hM1
  clear hM1 hb1
  go_wp2_with fail
  go_loopw [5, 7, 15] (fun v _ i wr => ∃ (j : Nat) (ls : List It) (ad : Option Addr) (cp : Nat), j ≤ N ∧ i = .int .i64 (j : Int) ∧ v = .slice ad (j + 1) cp ∧ ls.length = j + 1 ∧ Mk 104 w (numT n :: (ss.take j).map txtT) ls ad cp wr) (fun _ _ i _ => N - (intOf i).toNat)
  case atStart => exact ⟨0, [Fl.N n], some ⟨w1.heap.size, 0, none⟩, 1, by omega, rfl, rfl, rfl, H1.out⟩
  case round =>
    obtain ⟨j, ls, ad, cp, hj, rfl, rfl, hlen, hM⟩ := hrel
    have hbe := hM.below
    by_cases hlt : j < N
    · have hjl : j < ss.length := by have := H.out.2.1; omega
      obtain ⟨b, off, rfl, -, hc⟩ := H.out.1.below hbe j hjl
      have hsn := snocS hjl
      have hxm : (ss.getD j ByteArray.empty).size ≤ maxLen := by
        rw [List.getD_eq_getElem?_getD, List.getElem?_eq_getElem hjl]
        exact H.out.2.2.1 _ (List.getElem_mem hjl)
      obtain ⟨x, hx⟩ : ∃ x, x = ss.getD j ByteArray.empty := ⟨_, rfl⟩
      rw [← hx] at hc hsn hxm
      have hsn2 : (numT n :: (ss.take (j + 1)).map txtT) = (numT n :: (ss.take j).map txtT) ++ [txtT x] := by rw [hsn, List.map_append]; rfl
      have HM := Lib.hid (And.intro hM (And.intro hlen (And.intro hsn2 hxm)))
      clear hM hbe hlen hsn hsn2 hxm hx
      go_wp2_with fail
      refine (text_any x _).mono ?_
      rintro e w3 ⟨rfl, hb3⟩
      have M3 := (HM.out.1.call hb3).call ((Below.refl w3.heap.size w3).alloc (Nat.le_refl _) (.cells #[.int .i64 2, .int .i64 0, .string x, .slice none 0 0] 104))
      have H3 := Lib.hid M3
      clear M3 hb3
      go_wp2_with (at_builtin; (refine wpList_append_r (w0 := w) rfl (.tmp 19) (.tmp 22) 102 rfl item_rec it_one it_size H3.out.own (j + 1) HM.out.2.1 rfl _ 1 (Fl.T x) rfl (heap_alloc_new _ _) (by omega) H3.out.below.size H3.out.below ?_; intro g1 cp1 w4 ho hB4 hgr hat; have hnx := H3.out.next (y := Fl.T x) (p := txtT x) (Fl.inT HM.out.2.2.2) rfl ho (by rw [HM.out.2.1]; exact hgr) (by rw [HM.out.2.1]; exact hat); rw [← HM.out.2.2.1] at hnx; have H4 := Lib.hid hnx; clear ho hB4 hgr hat hnx))
      go_roundw
      case rel => exact ⟨j + 1, ls ++ [Fl.T x], some ⟨g1, 0, none⟩, cp1, by omega, by go_num, rfl, by rw [List.length_append, HM.out.2.1]; rfl, H4.out⟩
      case measure => simp [intOf]; omega
    · obtain rfl : j = N := by omega
      have hall : ss.take j = ss := List.take_of_length_le (by have := H.out.2.1; omega)
      rw [hall] at hM
      have hli := hM.lies (by simp; have := H.out.2.1; omega)
      have hsz : It.szAll ls ≤ 1000000 := by
        rw [szAll_pure, hM.pure, szPAll, szP_txt]
        have := H.out.2.1
        have h1 : szP (numT n) = 1 := rfl
        omega
      have hlist := list_any _ ls ad cp wr hli.1 hli.2 hsz
      rw [hlen] at hlist
      have HM := Lib.hid (And.intro hlist (And.intro hM.below hM.pure))
      clear hM hli hsz hlist hall hbe hlen
      go_wp2_with fail
      refine HM.out.1.mono ?_
      rintro e w3 ⟨y, rfl, hyp, hyi, hb3⟩
      have hen := encode_any _ y w3 hyi
      rw [hyp, HM.out.2.2] at hen
      rw [show c_encS (.mk 3 0 ⟨#[]⟩ (numT n :: ss.map txtT)) = R from H.out.2.2.2.symm] at hen
      obtain ⟨Q, hQ⟩ : ∃ Q, Q = encE (.mk 3 0 ⟨#[]⟩ (numT n :: ss.map txtT)) := ⟨_, rfl⟩
      rw [← hQ] at hen
      have H3 := Lib.hid (And.intro hen (HM.out.2.1.trans (hb3.mono HM.out.2.1.size)))
      clear hen hyp hyi hb3 hQ
      obtain ⟨yk, yn, ys, ya, yc, yl⟩ := y
      simp only [It.val, It.cells, It.k, It.n, It.s, It.a, It.cap, It.l] at H3 ⊢
      go_wp2_with fail
      refine H3.out.1.mono ?_
      rintro e w4 ⟨rfl, hb4⟩
      have H4 := Lib.hid (H3.out.2.trans (hb4.mono H3.out.2.size))
      clear hb4
      go_wp2_with fail
      go_ret
      exact ⟨rfl, H4.out⟩
end Go.Proofs.YtgoimggfpagojaaDoor
namespace Go.Proofs.YtgoimggfpagojaaDoor
open Go.RowKit
open Cn

theorem cdS_enc {n : Int} {t : ByteArray} (hn : numOk n) (ht : t.size ≤ 1500) : c_encS (lstT (numT n :: [t].map txtT)) = cdS n t := by
  show c_encS (cdT n t) = _
  unfold c_encS cdS
  rw [if_pos ⟨cdT_may hn (by omega), Nat.le_trans (cdT_len hn ht) (by decide)⟩]; rfl
theorem slS_enc {n : Int} {t c : ByteArray} (hn : numOk n) (ht : t.size ≤ 1500) (hc : c.size ≤ 32) : c_encS (lstT (numT n :: [t, c].map txtT)) = slS n t c := by
  show c_encS (slT n t c) = _
  unfold c_encS slS
  rw [if_pos ⟨slT_may hn (by omega) (by omega), Nat.le_trans (slT_len hn ht hc) (by decide)⟩]; rfl
theorem list1_any {n : Int} {t : ByteArray} (hn : numOk n) (ht : t.size ≤ 1500) (W : World) : Calls Tryd.prog 47 #[.int .i64 n, .slice (some ⟨W.heap.size, 0, none⟩) 1 1] (W.alloc (.cells #[.string t] 9)) fun e w' => e = .returned (.string (cdS n t)) ∧ Below W.heap.size W w' := by
  have h := slistOf_any n [t] (some ⟨W.heap.size, 0, none⟩) 1 (by simp) (fun x hx => by rw [List.mem_singleton.1 hx]; unfold maxLen; omega) _ (texts_new W [t] #[.string t] rfl)
  rw [cdS_enc hn ht] at h
  exact h.mono fun e w' ⟨h1, h2⟩ => ⟨h1, ((Below.refl _ _).alloc (Nat.le_refl _) _).trans (h2.mono (by simp))⟩
theorem list2_any {n : Int} {t c : ByteArray} (hn : numOk n) (ht : t.size ≤ 1500) (hc : c.size ≤ 32) (W : World) : Calls Tryd.prog 47 #[.int .i64 n, .slice (some ⟨W.heap.size, 0, none⟩) 2 2] (W.alloc (.cells #[.string t, .string c] 9)) fun e w' => e = .returned (.string (slS n t c)) ∧ Below W.heap.size W w' := by
  have h := slistOf_any n [t, c] (some ⟨W.heap.size, 0, none⟩) 2 (by simp) (fun x hx => by
    rcases List.mem_cons.1 hx with rfl | hx
    · unfold maxLen; omega
    · rw [List.mem_singleton.1 hx]; unfold maxLen; omega) _ (texts_new W [t, c] #[.string t, .string c] rfl)
  rw [slS_enc hn ht hc] at h
  exact h.mono fun e w' ⟨h1, h2⟩ => ⟨h1, ((Below.refl _ _).alloc (Nat.le_refl _) _).trans (h2.mono (by simp))⟩
theorem sbelow_call {A B C : World} (h : Below A.heap.size A B) (k : Below B.heap.size B C) : Below A.heap.size A C := h.trans (k.mono h.size)
set_option maxRecDepth 100000 in
set_option maxHeartbeats 1000000 in
theorem sseal_any (key : ByteArray) (n : Int) (p : ByteArray) (hk : key.size ≤ 1000000) (w : World) (hG : Glob w) (hQ : GlobQ w) : Calls Tryd.prog 26 #[.string key, .int .i64 n, .string p] w fun e w' => e = .returned (sealV (sealE key n p)) ∧ Below w.heap.size w w' := by
  have hask := fun W => scheck_any key n W
  obtain ⟨Q, hQ2⟩ : ∃ Q, Q = askP key n := ⟨_, rfl⟩
  obtain ⟨R, hR⟩ : ∃ R, R = sealV (sealE key n p) := ⟨_, rfl⟩
  rw [← hQ2] at hask
  rw [← hR]
  by_cases h0 : Q = 0
  · by_cases hp : 1024 < p.size
    · have hpi : (1024 : Int) < (p.size : Int) := by omega
      have hRe : R = .tuple #[.string ⟨#[]⟩, .int .i64 2] := by rw [hR]; unfold sealE sealV; rw [if_neg (by rw [← hQ2]; exact fun h => h h0), if_pos hp]
      have HM := Lib.hid (And.intro hask hRe)
      clear hask hRe hR hQ2 hp
      go_enter Tryd.func26, Tryd.ntmps26
      go_wp2_with fail
      refine (HM.out.1 _).mono ?_
      rintro e w1 ⟨rfl, hb1⟩
      have H1 := Lib.hid hb1
      clear hb1
      go_wp2_with fail
      go_ret2
      exact ⟨by rw [HM.out.2]; rfl, H1.out⟩
    · have hpi : ¬ ((1024 : Int) < (p.size : Int)) := by omega
      obtain ⟨hk32, hn⟩ := askP_ok (key := key) (n := n) (by rw [← hQ2]; exact h0)
      have hps : p.size ≤ 1024 := by omega
      have hturn := fun (W : World) (hb : Below w.heap.size w W) => sturned_any key n p hk hn W (hG.below hb) (hQ.below hb)
      have htz : (trnP key n p).size ≤ 1024 := by rw [trnP_size key n (by omega)]; exact hps
      have hkey := fun (W : World) (hb : Below w.heap.size w W) => key_any key tellL (by omega) (by decide) n W (hG.below hb)
      have hl1 := fun (W : World) => list1_any hn (t := trnP key n p) (by omega) W
      have hcs := codP_size key n (trnP key n p)
      have hl2 := fun (W : World) => list2_any hn (t := trnP key n p) (c := codP key n (trnP key n p)) (by omega) (by omega) W
      have hRe : R = .tuple #[.string (slS n (trnP key n p) (codP key n (trnP key n p))), .int .i64 0] := by rw [hR]; unfold sealE sealV sealP; rw [if_neg (by rw [← hQ2]; exact fun h => h h0), if_neg hp]
      obtain ⟨T, hT⟩ : ∃ T, T = trnP key n p := ⟨_, rfl⟩
      rw [← hT] at hturn htz hl1 hl2 hRe hcs
      obtain ⟨K, hK⟩ : ∃ K, K = keyS key tellL n := ⟨_, rfl⟩
      obtain ⟨D, hD⟩ : ∃ D, D = cdS n T := ⟨_, rfl⟩
      obtain ⟨C, hC⟩ : ∃ C, C = codP key n T := ⟨_, rfl⟩
      have hKs : K.size = 32 := by rw [hK]; exact keyS_size _ _ _
      have hDs : D.size ≤ 2000 := by rw [hD]; unfold cdS; rw [str_size]; exact cdT_len hn (by omega)
      have hcode := fun (W : World) (hb : Below w.heap.size w W) => mcode1 K D (by omega) (by omega) w W hG hb
      rw [show str (keyL key.data.toList tellL.data.toList (n % 18446744073709551616).toNat) = K from by rw [hK]; rfl] at hkey
      rw [show str (code K.data.toList D.data.toList) = C from by rw [hC, hK, hD]; rfl] at hcode
      rw [← hC] at hl2 hRe
      rw [← hD] at hl1
      have HM := Lib.hid (And.intro hask (And.intro hturn (And.intro hkey (And.intro hl1 (And.intro hcode (And.intro hl2 hRe))))))
      clear hask hturn hkey hl1 hcode hl2 hRe hR hQ2 hp hT hC hD hcs htz hn hps hK hKs hDs hG hQ
      go_enter Tryd.func26, Tryd.ntmps26
      go_wp2_with fail
      refine (HM.out.1 _).mono ?_
      rintro e w1 ⟨rfl, hb1⟩
      have H1 := Lib.hid hb1
      clear hb1
      go_wp2_with fail
      refine (HM.out.2.1 _ H1.out).mono ?_
      rintro e w2 ⟨rfl, hb2⟩
      have H2 := Lib.hid (sbelow_call H1.out hb2)
      clear hb2
      go_wp2_with fail
      refine (HM.out.2.2.1 _ H2.out).mono ?_
      rintro e w3 ⟨rfl, hb3⟩
      have H3 := Lib.hid (sbelow_call H2.out hb3)
      clear hb3
      go_wp2_with fail
      refine (HM.out.2.2.2.1 _).mono ?_
      rintro e w4 ⟨rfl, hb4⟩
      have H4 := Lib.hid (sbelow_call H3.out hb4)
      clear hb4
      go_wp2_with fail
      refine (HM.out.2.2.2.2.1 _ H4.out).mono ?_
      rintro e w5 ⟨rfl, hb5⟩
      have H5 := Lib.hid hb5
      clear hb5
      go_wp2_with fail
      refine (HM.out.2.2.2.2.2.1 _).mono ?_
      rintro e w6 ⟨rfl, hb6⟩
      have H6 := Lib.hid (sbelow_call H5.out hb6)
      clear hb6
      go_wp2_with fail
      go_ret2
      exact ⟨by rw [HM.out.2.2.2.2.2.2]; rfl, H6.out⟩
  · have hRe : R = .tuple #[.string ⟨#[]⟩, .int .i64 Q] := by rw [hR, hQ2]; unfold sealE sealV; rw [if_pos (by rw [← hQ2]; exact h0)]
    have HM := Lib.hid (And.intro hask hRe)
    clear hask hRe hR hQ2
    go_enter Tryd.func26, Tryd.ntmps26
    go_wp2_with fail
    refine (HM.out.1 _).mono ?_
    rintro e w1 ⟨rfl, hb1⟩
    have H1 := Lib.hid hb1
    clear hb1
    go_wp2_with fail
    go_ret2
    exact ⟨by rw [HM.out.2]; rfl, H1.out⟩
/-- How long a sealed text is. -/
def lngP (p : ByteArray) : Int := if 1024 < p.size then 0 else ((slS 0 p (str (List.replicate 32 0))).size : Int)
set_option maxRecDepth 100000 in
set_option maxHeartbeats 1000000 in
theorem slong_any (p : ByteArray) (w : World) : Calls Tryd.prog 30 #[.string p] w fun e w' => e = .returned (.int .i64 (lngP p)) ∧ Below w.heap.size w w' := by
  obtain ⟨R, hR⟩ : ∃ R, R = lngP p := ⟨_, rfl⟩
  rw [← hR]
  by_cases hp : 1024 < p.size
  · have hpi : (1024 : Int) < (p.size : Int) := by omega
    have hRe : R = 0 := by rw [hR]; exact if_pos hp
    have HM := Lib.hid hRe
    clear hRe hR hp
    go_enter Tryd.func30, Tryd.ntmps30
    go_wp2_with fail
    go_ret
    exact ⟨by rw [HM.out]; rfl, Below.refl _ _⟩
  · have hpi : ¬ ((1024 : Int) < (p.size : Int)) := by omega
    obtain ⟨Z, hZ⟩ : ∃ Z, Z = str (List.replicate 32 (0 : UInt8)) := ⟨_, rfl⟩
    have hl2 := fun (W : World) => list2_any (n := 0) ⟨by decide, by decide⟩ (t := p) (c := Z) (by omega) (by rw [hZ, str_size, List.length_replicate]; decide) W
    obtain ⟨D, hD⟩ : ∃ D, D = slS 0 p Z := ⟨_, rfl⟩
    have hRe : R = (D.size : Int) := by rw [hR, hD, hZ]; exact if_neg hp
    rw [← hD] at hl2
    obtain ⟨w1, hw1⟩ : ∃ w1, w1 = w.alloc (.cells #[.int .u8 0, .int .u8 0, .int .u8 0, .int .u8 0, .int .u8 0, .int .u8 0, .int .u8 0, .int .u8 0, .int .u8 0, .int .u8 0, .int .u8 0, .int .u8 0, .int .u8 0, .int .u8 0, .int .u8 0, .int .u8 0, .int .u8 0, .int .u8 0, .int .u8 0, .int .u8 0, .int .u8 0, .int .u8 0, .int .u8 0, .int .u8 0, .int .u8 0, .int .u8 0, .int .u8 0, .int .u8 0, .int .u8 0, .int .u8 0, .int .u8 0, .int .u8 0] 79) := ⟨_, rfl⟩
    have hg1 : w1.heap[w.heap.size]? = some (.cells #[.int .u8 0, .int .u8 0, .int .u8 0, .int .u8 0, .int .u8 0, .int .u8 0, .int .u8 0, .int .u8 0, .int .u8 0, .int .u8 0, .int .u8 0, .int .u8 0, .int .u8 0, .int .u8 0, .int .u8 0, .int .u8 0, .int .u8 0, .int .u8 0, .int .u8 0, .int .u8 0, .int .u8 0, .int .u8 0, .int .u8 0, .int .u8 0, .int .u8 0, .int .u8 0, .int .u8 0, .int .u8 0, .int .u8 0, .int .u8 0, .int .u8 0, .int .u8 0] 79 (0, 0)) := by rw [hw1]; exact heap_alloc_new _ _
    have hb1 : Below w.heap.size w w1 := by rw [hw1]; exact (Below.refl _ _).alloc (Nat.le_refl _) _
    have hrow : Row8 w.heap.size w1 w.heap.size (List.replicate 32 0) := by
      refine ⟨Nat.le_refl _, (Array.getElem?_eq_some_iff.1 hg1).1, fun i hi => ⟨?_, frozen_of_row _ _ _ _ _ hg1⟩⟩
      rw [List.length_replicate] at hi
      rw [cell_of_row _ _ _ _ _ _ hg1, List.getD_eq_getElem?_getD, List.getElem?_replicate, if_pos hi]
      rw [show (#[Value.int .u8 0, Value.int .u8 0, Value.int .u8 0, Value.int .u8 0, Value.int .u8 0, Value.int .u8 0, Value.int .u8 0, Value.int .u8 0, Value.int .u8 0, Value.int .u8 0, Value.int .u8 0, Value.int .u8 0, Value.int .u8 0, Value.int .u8 0, Value.int .u8 0, Value.int .u8 0, Value.int .u8 0, Value.int .u8 0, Value.int .u8 0, Value.int .u8 0, Value.int .u8 0, Value.int .u8 0, Value.int .u8 0, Value.int .u8 0, Value.int .u8 0, Value.int .u8 0, Value.int .u8 0, Value.int .u8 0, Value.int .u8 0, Value.int .u8 0, Value.int .u8 0, Value.int .u8 0] : Array Value) = (List.replicate 32 (Value.int .u8 0)).toArray from rfl, List.getElem?_toArray, List.getElem?_replicate, if_pos hi]; rfl
    have hcv := hrow.conv 32 (List.length_replicate ..) 32
    rw [← hZ] at hcv
    have HM := Lib.hid (And.intro hl2 (And.intro hRe hb1))
    clear hl2 hRe hb1 hg1 hrow hR hp hD hZ
    go_enter Tryd.func30, Tryd.ntmps30
    go_upto_region 4 with fail
    rw [← hw1]
    clear hw1
    go_wp2_with fail
    refine (HM.out.1 _).mono ?_
    rintro e w2 ⟨rfl, hb2⟩
    have H2 := Lib.hid (sbelow_call HM.out.2.2 hb2)
    clear hb2
    go_wp2_with fail
    go_ret
    exact ⟨by rw [HM.out.2.1]; rfl, H2.out⟩
end Go.Proofs.YtgoimggfpagojaaDoor
namespace Go.Proofs.YtgoimggfpagojaaDoor
open Go.RowKit
open Cn

theorem shape_ntd {x : Pt} (hm : may x 6 = true) (h : shapeP x ntd = true) : ∃ n t c, x = slT n t c ∧ numOk n ∧ c.size = 32 := by
  obtain ⟨l, rfl, -, h2, h3⟩ := shape_lst hm h
  unfold ntd at h3
  match l, h2, h3 with
  | [], _, h3 => simp [fitAll] at h3
  | [_], _, h3 => simp [fitAll] at h3
  | [_, _], _, h3 => simp [fitAll] at h3
  | _ :: _ :: _ :: _ :: _, _, h3 => simp [fitAll] at h3
  | [a, b, d], h2, h3 =>
    simp only [mayAll, Bool.and_eq_true] at h2
    simp only [fitAll, Bool.and_eq_true] at h3
    obtain ⟨ma, mb, md, -⟩ := h2
    obtain ⟨fa, fb, fd, -⟩ := h3
    obtain ⟨n, rfl, n1, n2⟩ := fit_num ma fa
    obtain ⟨t, rfl⟩ := fit_txt mb fb
    obtain ⟨c, rfl, hc⟩ := fit_dig md fd
    exact ⟨n, t, c, rfl, ⟨n1, n2⟩, hc⟩
theorem rdS_err {s : ByteArray} {e : Int} (h : decR s.data.toList = .error e) : rdS s = none := by unfold rdS; rw [h]; rfl
theorem rdS_shape {s : ByteArray} {x : Pt} (h : decR s.data.toList = .ok x) (h2 : shapeP x ntd = false) : rdS s = none := by
  unfold rdS; rw [h]; unfold rdSE; simp only; rw [if_neg (by rw [h2]; simp)]
theorem rdS_long {s : ByteArray} {n : Int} {t c : ByteArray} (h : decR s.data.toList = .ok (slT n t c)) (h2 : 1024 < t.size) : rdS s = none := by
  unfold rdS; rw [h]; unfold rdSE; simp only
  rw [if_neg (fun e => by have h3 : t.size ≤ 1024 := e.2; omega)]
theorem rdS_good {s : ByteArray} {n : Int} {t c : ByteArray} (h : decR s.data.toList = .ok (slT n t c)) (h1 : shapeP (slT n t c) ntd = true) (h2 : ¬ 1024 < t.size) : rdS s = some (n, t, c) := by
  unfold rdS; rw [h]; unfold rdSE; simp only
  rw [if_pos ⟨h1, (show t.size ≤ 1024 by omega)⟩]; rfl
/-- The parts, as values. -/
def partV : Option (Int × ByteArray × ByteArray) → Value
  | none => .tuple #[.int .i64 0, .string ⟨#[]⟩, .string ⟨#[]⟩, .int .i64 3]
  | some x => .tuple #[.int .i64 x.1, .string x.2.1, .string x.2.2, .int .i64 0]
theorem pbelow_drawN {B : Nat} {a w : World} (h : Below B a w) : ∀ n, Below B a (w.drewN n)
  | 0 => h
  | n + 1 => (pbelow_drawN h n).drew
set_option maxRecDepth 100000 in
set_option maxHeartbeats 2000000 in
theorem parted_any (s : ByteArray) (hs : s.size ≤ 1000000000) (w : World) : Calls Tryd.prog 52 #[.string s] w fun e w' => e = .returned (partV (rdS s)) ∧ Below w.heap.size w w' := by
  have hd := decode_any s (by unfold maxLen; omega) w
  obtain ⟨R, hR⟩ : ∃ R, R = decR s.data.toList := ⟨_, rfl⟩
  obtain ⟨V, hV⟩ : ∃ V, V = rdS s := ⟨_, rfl⟩
  rw [← hR] at hd
  rw [← hV]
  have H := Lib.hid (And.intro hd (And.intro hV hR))
  clear hd hR hV hs
  go_enter Tryd.func52, Tryd.ntmps52
  go_wp2_with fail
  refine H.out.1.mono ?_
  rintro e w2 ⟨hb, hres⟩
  cases R with
  | error x =>
    obtain ⟨hx, rfl⟩ := hres
    have hx0 : (x != 0) = true := by simpa using hx
    have hx1 : (x == 0) = false := by simpa using hx
    obtain ⟨w3, hw3⟩ : ∃ w3, w3 = w2.alloc (.cells #[.int .i64 0, .int .i64 0, .string ⟨#[]⟩, .slice none 0 0] 104) := ⟨_, rfl⟩
    have hb3 : Below w.heap.size w w3 := by rw [hw3]; exact hb.alloc hb.size _
    have HV := Lib.hid (And.intro (H.out.2.1.trans (rdS_err H.out.2.2.symm)) hb3)
    clear hb hb3 hx
    simp only [zeroIt]
    go_upto_region 2 with fail
    rw [← hw3]
    clear hw3
    go_wp2_with fail
    refine bodyPost_ret (v := .tuple #[.int .i64 0, .string ⟨#[]⟩, .string ⟨#[]⟩, .int .i64 3]) (by simp [results, Tryd.results52, go_sem]) rfl ?_
    exact ⟨by rw [HV.out.1]; rfl, HV.out.2⟩
  | ok x =>
    obtain ⟨it, hpi, rfl, hin⟩ := hres
    have hmx := (decR_ok H.out.2.2.symm).2.1
    obtain ⟨yk, yn, ys0, ya, yc, yl⟩ := it
    obtain ⟨w3, hw3⟩ : ∃ w3, w3 = w2.alloc (.cells #[.int .i64 yk, .int .i64 yn, .string ys0, .slice ya yl.length yc] 104) := ⟨_, rfl⟩
    have hb3 : Below w2.heap.size w2 w3 := by rw [hw3]; exact (Below.refl _ _).alloc (Nat.le_refl _) _
    have hg3 : w3.heap[w2.heap.size]? = some (.cells #[.int .i64 yk, .int .i64 yn, .string ys0, .slice ya yl.length yc] 104 (0, 0)) := by rw [hw3]; exact heap_alloc_new _ _
    have hin3 : It.In w3 (w.heap.size ≤ ·) (.mk yk yn ys0 ya yc yl) := It.In.kept (keptS_any hb3) _ hin
    have hsh := shape_any _ _ ⟨#[110, 116, 100]⟩ w3 hin3
    have hN : (ByteArray.mk #[110, 116, 100]).data.toList = ntd := rfl
    rw [hN, hpi] at hsh
    simp only [It.val, It.cells, It.k, It.n, It.s, It.a, It.cap, It.l] at hsh ⊢
    have B3 := hb.trans (hb3.mono hb.size)
    obtain ⟨i0, i1, i2, i3⟩ : w3.cell? ⟨w2.heap.size, 0, none⟩ = some (.int .i64 yk) ∧ w3.cell? ⟨w2.heap.size, 1, none⟩ = some (.int .i64 yn) ∧ w3.cell? ⟨w2.heap.size, 2, none⟩ = some (.string ys0) ∧ w3.cell? ⟨w2.heap.size, 3, none⟩ = some (.slice ya yl.length yc) := by refine ⟨?_, ?_, ?_, ?_⟩ <;> (rw [cell_of_row _ _ _ _ _ _ hg3]; rfl)
    cases hP : shapeP x ntd with
    | false =>
      rw [hP] at hsh
      have HV := Lib.hid (And.intro (H.out.2.1.trans (rdS_shape H.out.2.2.symm hP)) (And.intro hsh B3))
      clear hb hb3 hin hin3 hg3 hsh hN hpi B3 hP hmx
      go_upto_region 2 with fail
      rw [← hw3]
      clear hw3
      go_wp2_with fail
      refine HV.out.2.1.mono ?_
      rintro e w4 ⟨rfl, hb4⟩
      have H4 := Lib.hid (HV.out.2.2.trans (hb4.mono HV.out.2.2.size))
      clear hb4 i0 i1 i2 i3
      go_wp2_with fail
      refine bodyPost_ret (v := .tuple #[.int .i64 0, .string ⟨#[]⟩, .string ⟨#[]⟩, .int .i64 3]) (by simp [results, Tryd.results52, go_sem]) rfl ?_
      exact ⟨by rw [HV.out.1]; rfl, H4.out⟩
    | true =>
      rw [hP] at hsh
      obtain ⟨n, t, c, rfl, hn, hc⟩ := shape_ntd hmx hP
      have hpl : It.pureAll yl = [numT n, txtT t, txtT c] := by
        rw [It.pure] at hpi
        unfold slT lstT at hpi
        injection hpi with _ _ _ e
      have h3 : yl.length = 3 := by rw [← It.pureAll_length, hpl]; rfl
      obtain ⟨b, o, rfl, hbl, -, hrow⟩ := hin3.2.1.row (by show 0 < yl.length; omega)
      have r0 := row_num (j := 0) (n := n) hrow (by rw [hpl]; rfl)
      have r1 := row_txt (j := 1) (s := t) hrow (by rw [hpl]; rfl)
      have r2 := row_txt (j := 2) (s := c) hrow (by rw [hpl]; rfl)
      have hz3 := lt_of_heap hg3
      rw [h3] at i3 hsh hw3 ⊢
      have HF := Lib.hid (And.intro i3 (And.intro r0 (And.intro r1 (And.intro r2 (And.intro hz3 hbl)))))
      have HS := Lib.hid (And.intro hsh (And.intro B3 (And.intro H.out.2.1 (And.intro H.out.2.2.symm hP))))
      clear hb hb3 hin hin3 hg3 hsh hN hpi B3 hP hmx hn hc hpl h3 hrow r0 r1 r2 hz3 hbl
      go_upto_region 2 with fail
      rw [← hw3]
      clear hw3
      go_wp2_with fail
      refine HS.out.1.mono ?_
      rintro e w4 ⟨rfl, hb4⟩
      have j3 : w4.cell? ⟨w2.heap.size, 3, none⟩ = some (.slice (some ⟨b, o, none⟩) 3 yc) := (hb4.cell (p := ⟨w2.heap.size, 3, none⟩) HF.out.2.2.2.2.1).trans HF.out.1
      have q0 : w4.cell? ⟨b, o + 1, none⟩ = some (.int .i64 n) := (hb4.cell (p := ⟨b, o + 1, none⟩) HF.out.2.2.2.2.2).trans HF.out.2.1
      have q1 : w4.cell? ⟨b, o + 6, none⟩ = some (.string t) := (hb4.cell (p := ⟨b, o + 6, none⟩) HF.out.2.2.2.2.2).trans HF.out.2.2.1
      have q2 : w4.cell? ⟨b, o + 10, none⟩ = some (.string c) := (hb4.cell (p := ⟨b, o + 10, none⟩) HF.out.2.2.2.2.2).trans HF.out.2.2.2.1
      have H4 := Lib.hid (HS.out.2.1.trans (hb4.mono HS.out.2.1.size))
      clear hb4 i0 i1 i2 i3
      by_cases h10 : 1024 < t.size
      · have h10i : (1024 : Int) < (t.size : Int) := by omega
        have HV := Lib.hid (HS.out.2.2.1.trans (rdS_long HS.out.2.2.2.1 h10))
        clear h10
        go_wp2_with fail
        refine bodyPost_ret (v := .tuple #[.int .i64 0, .string ⟨#[]⟩, .string ⟨#[]⟩, .int .i64 3]) (by simp [results, Tryd.results52, go_sem]) rfl ?_
        exact ⟨by rw [HV.out]; rfl, H4.out⟩
      · have h10i : ¬ ((1024 : Int) < (t.size : Int)) := by omega
        have HV := Lib.hid (HS.out.2.2.1.trans (rdS_good HS.out.2.2.2.1 HS.out.2.2.2.2 h10))
        clear h10
        go_wp2_with fail
        go_quiet (fail)
        go_wp2_with fail
        refine bodyPost_ret (v := .tuple #[.int .i64 n, .string t, .string c, .int .i64 0]) (by simp [results, Tryd.results52, go_sem]) rfl ?_
        exact ⟨by rw [HV.out]; rfl, pbelow_drawN H4.out _⟩
end Go.Proofs.YtgoimggfpagojaaDoor
namespace Go.Proofs.YtgoimggfpagojaaDoor
open Go.RowKit
open Cn

def numV (x : Int × Int) : Value := .tuple #[.int .i64 x.1, .int .i64 x.2]
set_option maxRecDepth 100000 in
set_option maxHeartbeats 1000000 in
theorem snumber_any (s : ByteArray) (hs : s.size ≤ 1000000000) (w : World) : Calls Tryd.prog 29 #[.string s] w fun e w' => e = .returned (numV (numE' s)) ∧ Below w.heap.size w w' := by
  have hp := fun W : World => parted_any s hs W
  cases h : rdS s with
  | none =>
    rw [h] at hp
    unfold partV at hp
    have hv : numV (numE' s) = .tuple #[.int .i64 0, .int .i64 3] := by unfold numE'; rw [h]; rfl
    rw [hv]
    have HM := Lib.hid hp
    clear hp h hv
    go_enter Tryd.func29, Tryd.ntmps29
    go_wp2_with fail
    refine (HM.out _).mono ?_
    rintro e w1 ⟨rfl, hb1⟩
    have H1 := Lib.hid hb1
    clear hb1
    go_wp2_with fail
    go_ret2
    exact ⟨rfl, H1.out⟩
  | some x =>
    obtain ⟨m, t, c⟩ := x
    rw [h] at hp
    unfold partV at hp
    have hv : numV (numE' s) = .tuple #[.int .i64 m, .int .i64 0] := by unfold numE'; rw [h]; rfl
    rw [hv]
    have HM := Lib.hid hp
    clear hp h hv
    go_enter Tryd.func29, Tryd.ntmps29
    go_wp2_with fail
    refine (HM.out _).mono ?_
    rintro e w1 ⟨rfl, hb1⟩
    have H1 := Lib.hid hb1
    clear hb1
    go_wp2_with fail
    go_ret2
    exact ⟨rfl, H1.out⟩
set_option maxRecDepth 100000 in
set_option maxHeartbeats 2000000 in
theorem sopen_any (key : ByteArray) (n : Int) (s : ByteArray) (hk : key.size ≤ 1000000) (hs : s.size ≤ 1000000000) (w : World) (hG : Glob w) (hQ : GlobQ w) : Calls Tryd.prog 28 #[.string key, .int .i64 n, .string s] w fun e w' => e = .returned (sealV (openE key n s)) ∧ Below w.heap.size w w' := by
  have hask := fun W => scheck_any key n W
  have hp := fun W : World => parted_any s hs W
  obtain ⟨Q, hQ2⟩ : ∃ Q, Q = askP key n := ⟨_, rfl⟩
  obtain ⟨R, hR⟩ : ∃ R, R = sealV (openE key n s) := ⟨_, rfl⟩
  rw [← hQ2] at hask
  rw [← hR]
  by_cases h0 : Q = 0
  · have h0' : ¬ (askP key n ≠ 0) := by rw [← hQ2]; exact fun h => h h0
    cases h : rdS s with
    | none =>
      rw [h] at hp
      unfold partV at hp
      have hRe : R = .tuple #[.string ⟨#[]⟩, .int .i64 3] := by rw [hR]; unfold openE sealV; rw [if_neg h0', h]
      have HM := Lib.hid (And.intro hask (And.intro hp hRe))
      clear hask hp hRe hR hQ2 h h0' hG hQ
      go_enter Tryd.func28, Tryd.ntmps28
      go_wp2_with fail
      refine (HM.out.1 _).mono ?_
      rintro e w1 ⟨rfl, hb1⟩
      have H1 := Lib.hid hb1
      clear hb1
      go_wp2_with fail
      refine (HM.out.2.1 _).mono ?_
      rintro e w2 ⟨rfl, hb2⟩
      have H2 := Lib.hid (sbelow_call H1.out hb2)
      clear hb2
      go_wp2_with fail
      go_ret2
      exact ⟨by rw [HM.out.2.2]; rfl, H2.out⟩
    | some x =>
      obtain ⟨m, t, c⟩ := x
      rw [h] at hp
      unfold partV at hp
      obtain ⟨hn, ht, hc, -⟩ := rdS_inv h
      by_cases hm : m = n
      · subst hm
        have hkey := fun (W : World) (hb : Below w.heap.size w W) => key_any key tellL (by omega) (by decide) m W (hG.below hb)
        have hl1 := fun (W : World) => list1_any hn (t := t) (by omega) W
        obtain ⟨K, hK⟩ : ∃ K, K = keyS key tellL m := ⟨_, rfl⟩
        obtain ⟨D, hD⟩ : ∃ D, D = cdS m t := ⟨_, rfl⟩
        obtain ⟨C, hC⟩ : ∃ C, C = codP key m t := ⟨_, rfl⟩
        have hKs : K.size = 32 := by rw [hK]; exact keyS_size _ _ _
        have hDs : D.size ≤ 2000 := by rw [hD]; unfold cdS; rw [str_size]; exact cdT_len hn (by omega)
        have hchk := fun (W : World) (hb : Below w.heap.size w W) => check_any K D c (by omega) (by omega) W (hG.below hb)
        rw [show str (keyL key.data.toList tellL.data.toList (m % 18446744073709551616).toNat) = K from by rw [hK]; rfl] at hkey
        rw [show str (code K.data.toList D.data.toList) = C from by rw [hC, hK, hD]; rfl] at hchk
        rw [← hD] at hl1
        have hmm : (m == m) = true := by simp
        by_cases hcc : C = c
        · have hRe : R = .tuple #[.string (trnP key m t), .int .i64 0] := by
            rw [hR]; unfold openE sealV; rw [if_neg h0', h]; simp only
            rw [if_neg (fun e => e rfl), if_neg (by rw [← hC]; exact fun e => e hcc)]
          have hturn := fun (W : World) (hb : Below w.heap.size w W) => sturned_any key m t hk hn W (hG.below hb) (hQ.below hb)
          subst hcc
          have heq : (C.toList == C.toList) = true := by simp
          rw [heq] at hchk
          obtain ⟨T, hT⟩ : ∃ T, T = trnP key m t := ⟨_, rfl⟩
          rw [← hT] at hturn hRe
          have HM := Lib.hid (And.intro hask (And.intro hp (And.intro hkey (And.intro hl1 (And.intro hchk (And.intro hturn hRe))))))
          clear hask hp hkey hl1 hchk hturn hRe hR hQ2 h h0' hG hQ hT hC hD hK heq hn ht hc hKs hDs
          go_enter Tryd.func28, Tryd.ntmps28
          go_wp2_with fail
          refine (HM.out.1 _).mono ?_
          rintro e w1 ⟨rfl, hb1⟩
          have H1 := Lib.hid hb1
          clear hb1
          go_wp2_with fail
          refine (HM.out.2.1 _).mono ?_
          rintro e w2 ⟨rfl, hb2⟩
          have H2 := Lib.hid (sbelow_call H1.out hb2)
          clear hb2
          go_wp2_with fail
          refine (HM.out.2.2.1 _ H2.out).mono ?_
          rintro e w3 ⟨rfl, hb3⟩
          have H3 := Lib.hid (sbelow_call H2.out hb3)
          clear hb3
          go_wp2_with fail
          refine (HM.out.2.2.2.1 _).mono ?_
          rintro e w4 ⟨rfl, hb4⟩
          have H4 := Lib.hid (sbelow_call H3.out hb4)
          clear hb4
          go_wp2_with fail
          refine (HM.out.2.2.2.2.1 _ H4.out).mono ?_
          rintro e w5 ⟨rfl, hb5⟩
          have H5 := Lib.hid (sbelow_call H4.out hb5)
          clear hb5
          go_wp2_with fail
          refine (HM.out.2.2.2.2.2.1 _ H5.out).mono ?_
          rintro e w6 ⟨rfl, hb6⟩
          have H6 := Lib.hid (sbelow_call H5.out hb6)
          clear hb6
          go_wp2_with fail
          go_ret2
          exact ⟨by rw [HM.out.2.2.2.2.2.2]; rfl, H6.out⟩
        · have hRe : R = .tuple #[.string ⟨#[]⟩, .int .i64 8] := by
            rw [hR]; unfold openE sealV; rw [if_neg h0', h]; simp only
            rw [if_neg (fun e => e rfl), if_pos (by rw [← hC]; exact hcc)]
          have heq : (C.toList == c.toList) = false := by
            cases e : (C.toList == c.toList) with
            | false => rfl
            | true =>
              exfalso
              apply hcc
              have e2 : C.toList = c.toList := by simpa using e
              apply ByteArray.ext
              rw [ByteArray.toList_eq, ByteArray.toList_eq] at e2
              exact Array.toList_inj.1 e2
          rw [heq] at hchk
          have HM := Lib.hid (And.intro hask (And.intro hp (And.intro hkey (And.intro hl1 (And.intro hchk hRe)))))
          clear hask hp hkey hl1 hchk hRe hR hQ2 h h0' hG hQ hC hD hK heq hn ht hc hKs hDs hcc
          go_enter Tryd.func28, Tryd.ntmps28
          go_wp2_with fail
          refine (HM.out.1 _).mono ?_
          rintro e w1 ⟨rfl, hb1⟩
          have H1 := Lib.hid hb1
          clear hb1
          go_wp2_with fail
          refine (HM.out.2.1 _).mono ?_
          rintro e w2 ⟨rfl, hb2⟩
          have H2 := Lib.hid (sbelow_call H1.out hb2)
          clear hb2
          go_wp2_with fail
          refine (HM.out.2.2.1 _ H2.out).mono ?_
          rintro e w3 ⟨rfl, hb3⟩
          have H3 := Lib.hid (sbelow_call H2.out hb3)
          clear hb3
          go_wp2_with fail
          refine (HM.out.2.2.2.1 _).mono ?_
          rintro e w4 ⟨rfl, hb4⟩
          have H4 := Lib.hid (sbelow_call H3.out hb4)
          clear hb4
          go_wp2_with fail
          refine (HM.out.2.2.2.2.1 _ H4.out).mono ?_
          rintro e w5 ⟨rfl, hb5⟩
          have H5 := Lib.hid (sbelow_call H4.out hb5)
          clear hb5
          go_wp2_with fail
          go_ret2
          exact ⟨by rw [HM.out.2.2.2.2.2]; rfl, H5.out⟩
      · have hRe : R = .tuple #[.string ⟨#[]⟩, .int .i64 3] := by
          rw [hR]; unfold openE sealV; rw [if_neg h0', h]; simp only
          rw [if_pos hm]
        have hmn : (m == n) = false := by simpa using hm
        have HM := Lib.hid (And.intro hask (And.intro hp hRe))
        clear hask hp hRe hR hQ2 h h0' hG hQ hn ht hc
        go_enter Tryd.func28, Tryd.ntmps28
        go_wp2_with fail
        refine (HM.out.1 _).mono ?_
        rintro e w1 ⟨rfl, hb1⟩
        have H1 := Lib.hid hb1
        clear hb1
        go_wp2_with fail
        refine (HM.out.2.1 _).mono ?_
        rintro e w2 ⟨rfl, hb2⟩
        have H2 := Lib.hid (sbelow_call H1.out hb2)
        clear hb2
        go_wp2_with fail
        go_ret2
        exact ⟨by rw [HM.out.2.2]; rfl, H2.out⟩
  · have hRe : R = .tuple #[.string ⟨#[]⟩, .int .i64 Q] := by rw [hR, hQ2]; unfold openE sealV; rw [if_pos (by rw [← hQ2]; exact h0)]
    have HM := Lib.hid (And.intro hask hRe)
    clear hask hRe hR hQ2 hp hG hQ
    go_enter Tryd.func28, Tryd.ntmps28
    go_wp2_with fail
    refine (HM.out.1 _).mono ?_
    rintro e w1 ⟨rfl, hb1⟩
    have H1 := Lib.hid hb1
    clear hb1
    go_wp2_with fail
    go_ret2
    exact ⟨by rw [HM.out.2]; rfl, H1.out⟩
end Go.Proofs.YtgoimggfpagojaaDoor
namespace Go.Proofs.YtgoimggfpagojaaDoor
open Go.RowKit
open Cn

theorem z16_size : (str (List.replicate 32 (0 : UInt8))).size = 32 := by rw [str_size, List.length_replicate]
theorem ask16 {Z : ByteArray} (h : Z.size = 32) : askP Z 0 = 0 := by unfold askP; rw [if_neg (fun e => e h), if_pos ⟨by decide, by decide⟩]
/-- How long a sealed text is: by its text's length. -/
theorem slS_size {n : Int} {t c : ByteArray} : (slS n t c).size = (Cn.bytes (slT n t c)).length := by unfold slS; rw [str_size]
theorem slT_long {n : Int} {t t' c c' : ByteArray} (ht : t.size = t'.size) (hc : c.size = c'.size) : (Cn.bytes (slT n t c)).length = (Cn.bytes (slT n t' c')).length := by
  have hl : ∀ x : ByteArray, x.data.toList.length = x.size := fun x => by simp
  unfold slT
  rw [bytes_lstT, bytes_lstT, bytesAll, bytesAll, bytesAll, bytesAll, bytesAll, bytesAll, bytesAll, bytes_txtT, bytes_txtT, bytes_txtT, bytes_txtT, bytes_numT]
  simp only [List.length_cons, List.length_append, List.length_nil, hl, ht, hc]
  rfl
theorem sl41 : (Cn.bytes (slT 0 ⟨#[]⟩ (str (List.replicate 32 0)))).length = 41 := by decide +kernel
theorem seal_size {key : ByteArray} {n : Int} {p : ByteArray} (hp : p.size ≤ 1024) : (sealP key n p).size = (slS n p (str (List.replicate 32 0))).size := by
  unfold sealP
  rw [slS_size, slS_size]
  exact slT_long (trnP_size key n (by omega)) (by rw [codP_size, z16_size])
set_option maxRecDepth 100000 in
set_option maxHeartbeats 1000000 in
theorem awake16_any (w : World) (hG : Glob w) (hQ : GlobQ w) : Calls Tryd.prog 25 #[] w fun e w' => e = .returned (.bool true) ∧ Below w.heap.size w w' := by
  obtain ⟨Z, hZ⟩ : ∃ Z, Z = str (List.replicate 32 0) := ⟨_, rfl⟩
  have hZs : Z.size = 32 := by rw [hZ]; exact z16_size
  obtain ⟨w1, hmk, hown, hb1⟩ := pmake_bytes w 32 (by decide)
  have hmk2 : (Instr.makeSlice 42 (.int .i64 32) (.int .i64 32)).run Tryd.prog w = .ok (.slice (some ⟨w.heap.size, 0, none⟩) 32 32) w1 := hmk
  clear hmk
  have hcv := hown.conv
  rw [List.length_replicate, ← hZ] at hcv
  have ha := ask16 hZs
  have hse : sealE Z 0 ⟨#[]⟩ = (sealP Z 0 ⟨#[]⟩, 0) := by unfold sealE; rw [if_neg (fun e => e ha), if_neg (by decide)]
  have hoe := (open_seal (p := ⟨#[]⟩) ha (by decide)).1
  have hsz : (sealP Z 0 ⟨#[]⟩).size = 41 := by rw [seal_size (by decide), slS_size]; exact sl41
  have hlg : lngP ⟨#[]⟩ = 41 := by
    unfold lngP
    rw [if_neg (by decide), slS_size, sl41]; rfl
  have h1 := fun (W : World) (hb : Below w.heap.size w W) => sseal_any Z 0 ⟨#[]⟩ (by omega) W (hG.below hb) (hQ.below hb)
  have h2 := fun (W : World) (hb : Below w.heap.size w W) => sopen_any Z 0 (sealP Z 0 ⟨#[]⟩) (by omega) (by omega) W (hG.below hb) (hQ.below hb)
  have h3 := fun (W : World) => slong_any ⟨#[]⟩ W
  rw [hlg] at h3
  rw [hoe] at h2
  rw [hse] at h1
  obtain ⟨S, hS⟩ : ∃ S, S = sealP Z 0 ⟨#[]⟩ := ⟨_, rfl⟩
  rw [← hS] at h1 h2 hsz
  unfold sealV at h1 h2
  simp only at h1 h2
  have H := Lib.hid (And.intro h1 (And.intro h2 (And.intro h3 hb1)))
  clear h1 h2 h3 hb1 hS hZ hlg hoe hse ha hown hG hQ
  go_enter Tryd.func25, Tryd.ntmps25
  go_wp2_with fail
  refine (H.out.1 _ H.out.2.2.2).mono ?_
  rintro e w2 ⟨rfl, k2⟩
  have K2 := Lib.hid (sbelow_call H.out.2.2.2 k2)
  clear k2 hmk2 hcv
  go_wp2_with fail
  refine (H.out.2.1 _ K2.out).mono ?_
  rintro e w3 ⟨rfl, k3⟩
  have K3 := Lib.hid (sbelow_call K2.out k3)
  clear k3
  go_wp2_with fail
  refine (H.out.2.2.1 _).mono ?_
  rintro e w4 ⟨rfl, k4⟩
  have K4 := Lib.hid (sbelow_call K3.out k4)
  clear k4
  go_wp2_with fail
  go_ret
  exact ⟨rfl, K4.out⟩
end Go.Proofs.YtgoimggfpagojaaDoor
