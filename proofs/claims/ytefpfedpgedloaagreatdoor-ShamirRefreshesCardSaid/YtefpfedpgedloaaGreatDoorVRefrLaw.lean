/- PROVED HERE: for all shares and all bytes drawn the law ShamirRefreshes returns true (refreshed shares are the old ones and shares of nothing added up, of the same secret; what is no row of shares is refused). No condition. -/
import Derived.Test.YtefpfedpgedloaaGreatDoorVRefr
import Derived.Test.YtefpfedpgedloaaGreatDoorVRAlike
import Derived.Test.YtefpfedpgedloaaGreatDoorVRSplit
import Derived.Test.YtefpfedpgedloaaGreatDoorVOpen
import Derived.Test.YtefpfedpgedloaaGreatDoorMV4
import Derived.Test.YtefpfedpgedloaaGreatDoorPLaidG
namespace Go.Proofs.YtefpfedpgedloaaGreatDoor
open Go.RowKit
open Gf

theorem rgood_iff {l : List Shr} {d : ByteArray} : RGood l d ↔ (alk l = true ∧ l ≠ [] ∧ (∀ (k : Nat) s, l[k]? = some s → s.x = (k : Int) + 1) ∧ need0 l ≤ l.length ∧ (d.size : Int) = (need0 l - 1) * (len0 l : Int)) := by
  constructor
  · intro h
    have hm := mayP_iff.1 h.may
    rw [zS_size] at hm
    exact ⟨h.alk, h.ne, h.xs, hm.2.2.1, hm.2.2.2.2⟩
  · rintro ⟨h1, h2, h3, h4, h5⟩
    have hA := alk_iff.1 h1
    have hpos := List.length_pos_iff.2 h2
    obtain ⟨s, hs⟩ : ∃ s, l[l.length - 1]? = some s := ⟨_, List.getElem?_eq_getElem (by omega)⟩
    have hok := okS_iff.1 (hA.ok s (List.mem_of_getElem? hs))
    have hx := h3 _ s hs
    rw [hA.need s (List.mem_of_getElem? hs), hA.size s (List.mem_of_getElem? hs)] at hok
    exact ⟨h1, h2, h3, mayP_iff.2 ⟨by rw [zS_size]; exact hok.2.2, hok.2.1.1, h4, by omega, by rw [zS_size]; exact h5⟩⟩
/-- The bytes so far. -/
def yL (y z : ByteArray) (j : Nat) : List UInt8 := (List.range j).map fun i => co y.data.toList i ^^^ co z.data.toList i
theorem yL_length (y z : ByteArray) (j : Nat) : (yL y z j).length = j := by simp [yL]
theorem yL_snoc (y z : ByteArray) (j : Nat) : yL y z (j + 1) = yL y z j ++ [co y.data.toList j ^^^ co z.data.toList j] := by
  unfold yL; rw [List.range_succ, List.map_append]; rfl
theorem yL_all {y z : ByteArray} {m : Nat} (h : z.size = m) : str (yL y z m) = xorY z y := by
  unfold yL xorY; rw [h]; congr 1; exact List.map_congr_left fun i _ => UInt8.xor_comm _ _
/-- What the comparison reads. -/
def CmS (tb o mb p : Nat) (kk need : Int) (Y : ByteArray) (v : Value) (W : World) : Prop :=
  W.cell? ⟨mb, p, none⟩ = some (.int .i64 kk) ∧ W.cell? ⟨mb, p + 1, none⟩ = some (.int .i64 need) ∧ W.cell? ⟨mb, p + 2, none⟩ = some (.string Y) ∧ W.cell? ⟨tb, o + 1, none⟩ = some (.int .i64 need) ∧ (convert 35 9 v).run Tryz.prog W = .ok (.string Y) W
/-- What the region of a byte reads. -/
def LwS (tb o zb p : Nat) (y z : ByteArray) (W : World) : Prop := W.cell? ⟨tb, o, none⟩ = some (.string y) ∧ W.cell? ⟨zb, p, none⟩ = some (.string z)
set_option maxRecDepth 100000 in
set_option maxHeartbeats 2000000 in
theorem refreshes_law {w : World} (l : List Shr) (a0 : Option Addr) (cap : Nat) (hT : SharesAt w a0 l) (hO : ∀ s ∈ l, s.Ok) (hmax : l.length ≤ maxLen) (d : ByteArray) (_ : d.size ≤ maxLen) : Calls Tryz.prog 3 #[.slice a0 l.length cap, .string d] w fun e w' => e = .returned (.bool true) ∧ Below w.heap.size w w' := by
  have hf := few_any hT hmax cap
  have hy : ∀ s ∈ l, s.y.size ≤ maxLen := fun s hs => (hO s hs).y
  obtain ⟨n, hN⟩ : ∃ n, n = l.length := ⟨_, rfl⟩
  rw [← hN] at hf ⊢
  obtain ⟨D, hD⟩ : ∃ D, D = d.size := ⟨_, rfl⟩
  have hds : (d.size : Int) = (D : Int) := by omega
  have H := Lib.hid (And.intro hf (And.intro hT (And.intro hy (And.intro hN hD))))
  clear hf hT hO hmax hy hN hD
  go_enter Tryz.func3, Tryz.ntmps3
  go_wp2_with fail
  refine H.out.1.mono ?_
  rintro e w1 ⟨t, rfl, hfew, hb⟩
  have HB := Lib.hid (And.intro hfew hb)
  clear hfew hb
  cases t with
  | false =>
    go_wp2_with fail
    refine (awake_any _).mono ?_
    rintro e w2 ⟨rfl, hb⟩
    have H2 := Lib.hid (HB.out.2.trans (hb.mono HB.out.2.size))
    clear hb
    go_wp2_with fail
    go_ret
    exact ⟨rfl, H2.out⟩
  | true =>
    by_cases q1 : (800 : Int) < (D : Int)
    · have q1' : decide ((800 : Int) < (D : Int)) = true := decide_eq_true q1
      go_wp2_with fail
      refine (awake_any _).mono ?_
      rintro e w2 ⟨rfl, hb⟩
      have H2 := Lib.hid (HB.out.2.trans (hb.mono HB.out.2.size))
      clear hb
      go_wp2_with fail
      go_ret
      exact ⟨rfl, H2.out⟩
    have q1' : decide ((800 : Int) < (D : Int)) = false := decide_eq_false q1
    have h12 : n ≤ 12 := by have := (HB.out.1 rfl).1; have := H.out.2.2.2.1; omega
    have hrf := refresh_any (H.out.2.1.below HB.out.2) (by have := H.out.2.2.2.1; omega) H.out.2.2.1 cap d
    rw [← H.out.2.2.2.1] at hrf
    have HC := Lib.hid hrf
    clear hrf
    go_wp2_with fail
    refine HC.out.mono ?_
    rintro e w2 ⟨hb, hcase⟩
    have hb2 := HB.out.2.trans (hb.mono HB.out.2.size)
    have hrf := refs_any (H.out.2.1.below hb2) (by have := H.out.2.2.2.1; omega) cap
    rw [← H.out.2.2.2.1] at hrf
    have H2 := Lib.hid (And.intro hb2 (And.intro hrf hb))
    clear hb hb2 hrf
    rcases hcase with ⟨hG, a2, cp2, rfl, ho2⟩ | ⟨hG, rfl⟩
    · have hgi := rgood_iff.1 hG
      have hn1 : 1 ≤ n := by
        have := List.length_pos_iff.2 hG.ne
        have := H.out.2.2.2.1
        omega
      have hA := alk_iff.1 hG.alk
      obtain ⟨s0, hs0⟩ : ∃ s, l[0]? = some s := ⟨_, List.getElem?_eq_getElem (by have := H.out.2.2.2.1; omega)⟩
      obtain ⟨hnd, hln⟩ := head_need hs0
      have hok := okS_iff.1 (hA.ok s0 (List.mem_of_getElem? hs0))
      obtain ⟨tb, off, rfl, htb, -, d1, d2⟩ := H.out.2.1 0 s0 hs0
      rw [Nat.zero_mul, Nat.add_zero] at d1 d2
      obtain ⟨m, hm⟩ : ∃ m, m = len0 l := ⟨_, rfl⟩
      obtain ⟨Q, hQ⟩ : ∃ Q : Nat, need0 l - 1 = (Q : Int) := ⟨(need0 l - 1).toNat, by omega⟩
      obtain ⟨need, hne⟩ : ∃ need, need = need0 l := ⟨_, rfl⟩
      obtain ⟨y0, hy0⟩ : ∃ y0, y0 = s0.y := ⟨_, rfl⟩
      rw [← hnd, ← hne] at d1
      rw [← hy0] at d2
      have hm1 : 1 ≤ m := by omega
      have hm2 : m ≤ 64 := by omega
      have hysi : (y0.size : Int) = (m : Int) := by rw [hy0]; omega
      have hne1 : 1 ≤ need := by omega
      have hne2 : need ≤ n := by have := hgi.2.2.2.1; have := H.out.2.2.2.1; omega
      have hqm : (Q : Int) * (m : Int) = (D : Int) := by rw [← hQ, hm, H.out.2.2.2.2]; exact hgi.2.2.2.2.symm
      have hwn : IntKind.i64.wrap (need - 1) = (Q : Int) := by rw [hne, hQ]; exact IntWalk.i64_in _ (by omega)
      have hwm : IntKind.i64.wrap ((Q : Int) * (m : Int)) = (D : Int) := by rw [hqm]; exact IntWalk.i64_in _ (by omega)
      have hn1i : (0 : Int) < n := by omega
      have hn0 : 0 < n := by omega
      have hd1 : decide ((0 : Int) < (n : Int)) = true := decide_eq_true hn1i
      have hd2 : decide (need ≤ (n : Int)) = true := decide_eq_true hne2
      have hF : ∀ W, Below w.heap.size w W → RfS tb off need y0 W := fun W hW => ⟨(hW.cell (p := ⟨tb, off + 1, none⟩) htb).trans d1, (hW.cell (p := ⟨tb, off + 2, none⟩) htb).trans d2⟩
      have hmay := hG.may
      rw [← hm, ← hne, ← H.out.2.2.2.1] at hmay
      rw [← hm, ← hne] at hA ho2
      rw [← hm, ← hne] at hgi
      have HG := Lib.hid (And.intro hF (And.intro hG (And.intro hmay (And.intro hA (And.intro hm (And.intro hne (And.intro ho2 hgi)))))))
      have halk := hG.alk
      clear hgi hG hA hs0 hnd hln hok htb d1 d2 hQ hy0 hqm hF hmay hm hne ho2
      go_wp2_with fail
      refine H2.out.2.1.mono ?_
      rintro e w3 ⟨a3, cp3, rfl, ho3, hb⟩
      have hal := ralike_any ho3.at (by have := H.out.2.2.2.1; omega) cp3
      rw [← H.out.2.2.2.1, halk] at hal
      have hb3 := H2.out.1.trans (hb.mono H2.out.1.size)
      have H3 := Lib.hid (And.intro hb3 (And.intro hal hb))
      clear hb hb3 ho3 hal
      go_wp2_with fail
      refine H3.out.2.1.mono ?_
      rintro e w4 ⟨rfl, hb⟩
      have hb24 := H3.out.2.2.trans (hb.mono H3.out.2.2.size)
      have H4 := Lib.hid (And.intro (H3.out.1.trans (hb.mono H3.out.1.size)) hb24)
      clear hb hb24
      go_wp2_with fail
      go_loopw [7, 8] (fun g i wr => ∃ k : Nat, k ≤ n ∧ i = .int .i64 (k : Int) ∧ g = .bool true ∧ Below w4.heap.size w4 wr) (fun _ i _ => n - (intOf i).toNat)
      case atStart => exact ⟨0, by omega, rfl, rfl, Below.refl _ _⟩
      case round =>
        obtain ⟨k, hk, rfl, rfl, hb⟩ := hrel
        by_cases hlt : k < n
        · obtain ⟨s, hsk⟩ : ∃ s, l[k]? = some s := ⟨_, List.getElem?_eq_getElem (by have := H.out.2.2.2.1; omega)⟩
          obtain ⟨tb', off', e', -, c0, -, -⟩ := (H.out.2.1.below (H4.out.1.trans (hb.mono H4.out.1.size))) k s hsk
          injection e' with e'
          injection e' with e1 e2 _
          subst e1 e2
          rw [HG.out.2.1.xs k s hsk] at c0
          have HK := Lib.hid hb
          clear hb hsk
          go_wp2_with fail
          go_roundw
          case rel => exact ⟨k + 1, by omega, by go_num, rfl, HK.out⟩
          case measure => simp [intOf]; omega
        · obtain rfl : n = k := by omega
          obtain ⟨g1, g2⟩ := HG.out.1 wr (H4.out.1.trans (hb.mono H4.out.1.size))
          have HK := Lib.hid (And.intro hb H4.out.1)
          clear hb
          go_wp2_with fail
          go_quiet (fail)
          go_wp2_with fail
          have hwd : Below wr.heap.size wr (World.drew (World.drewN wr nq)) := ⟨rfl, rfl, rfl, Nat.le_refl _, fun _ _ => rfl⟩
          have hb4w := H4.out.2.trans (HK.out.1.mono H4.out.2.size)
          have hb2h := hb4w.trans (hwd.mono hb4w.size)
          have hwh := H2.out.1.trans (hb2h.mono H2.out.1.size)
          have C := HG.out.1 _ hwh
          have H5 := Lib.hid (And.intro hwh hb2h)
          clear g1 g2 hb4w hwd hwh hb2h
          refine wp_region_held (S := RfS tb off need y0) (by kernel_rfl) ?_
          change wpAnyH _ _ _ _ _ _ _ _ (World.drew _)
          generalize World.drew _ = wh at *
          refine wpAnyH_take (i := 0) (v := ?_) rfl (by kernel_rfl) (by kernel_rfl) (by kernel_rfl) (fun _ _ _ h => h) (Or.inl ⟨by kernel_rfl, ?_⟩) C ?_
          rotate_left
          · (intro W hS; obtain ⟨g1, g2⟩ := hS; go_simp; try (with_reducible rfl))
          refine wpAnyH_take (i := 1) (v := ?_) rfl (by kernel_rfl) (by kernel_rfl) (by kernel_rfl) (fun _ _ _ h => h) (Or.inl ⟨by kernel_rfl, ?_⟩) C ?_
          rotate_left
          · (intro W hS; obtain ⟨g1, g2⟩ := hS; go_simp; try (with_reducible rfl))
          refine wpAnyH_take (i := 2) (v := ?_) rfl (by kernel_rfl) (by kernel_rfl) (by kernel_rfl) (fun _ _ _ h => h) (Or.inl ⟨by kernel_rfl, ?_⟩) C ?_
          rotate_left
          · (intro W hS; obtain ⟨g1, g2⟩ := hS; go_simp; try (with_reducible rfl))
          refine wpAnyH_take (i := 3) (v := ?_) rfl (by kernel_rfl) (by kernel_rfl) (by kernel_rfl) (fun _ _ _ h => h) (Or.inl ⟨by kernel_rfl, ?_⟩) C ?_
          rotate_left
          · (intro W hS; obtain ⟨g1, g2⟩ := hS; go_simp; try (with_reducible rfl))
          refine wpAnyH_take (i := 4) (v := ?_) rfl (by kernel_rfl) (by kernel_rfl) (by kernel_rfl) (fun _ _ _ h => h) (Or.inl ⟨by kernel_rfl, ?_⟩) C ?_
          rotate_left
          · (intro W hS; obtain ⟨g1, g2⟩ := hS; go_simp; try (with_reducible rfl))
          refine wpAnyH_take (i := 7) (v := ?_) rfl (by kernel_rfl) (by kernel_rfl) (by kernel_rfl) (fun _ _ _ h => h) (Or.inl ⟨by kernel_rfl, ?_⟩) C ?_
          rotate_left
          · (intro W hS; obtain ⟨g1, g2⟩ := hS; go_simp; try (with_reducible rfl))
          refine wpAnyH_take (i := 8) (v := ?_) rfl (by kernel_rfl) (by kernel_rfl) (by kernel_rfl) (fun _ _ _ h => h) (Or.inl ⟨by kernel_rfl, ?_⟩) C ?_
          rotate_left
          · (intro W hS; obtain ⟨g1, g2⟩ := hS; go_simp; try (with_reducible rfl))
          refine wpAnyH_take (i := 9) (v := ?_) rfl (by kernel_rfl) (by kernel_rfl) (by kernel_rfl) (fun _ _ _ h => h) (Or.inl ⟨by kernel_rfl, ?_⟩) C ?_
          rotate_left
          · (intro W hS; obtain ⟨g1, g2⟩ := hS; go_simp; try (with_reducible rfl))
          refine wpAnyH_take (i := 10) (v := ?_) rfl (by kernel_rfl) (by kernel_rfl) (by kernel_rfl) (fun _ _ _ h => h) (Or.inl ⟨by kernel_rfl, ?_⟩) C ?_
          rotate_left
          · (intro W hS; obtain ⟨g1, g2⟩ := hS; go_simp; try (with_reducible rfl))
          refine wpAnyH_take (i := 11) (v := ?_) rfl (by kernel_rfl) (by kernel_rfl) (by kernel_rfl) (fun _ _ _ h => h) (Or.inl ⟨by kernel_rfl, ?_⟩) C ?_
          rotate_left
          · (intro W hS; obtain ⟨g1, g2⟩ := hS; go_simp; try (with_reducible rfl))
          refine wpAnyH_take (i := 12) (v := ?_) rfl (by kernel_rfl) (by kernel_rfl) (by kernel_rfl) (fun _ _ _ h => h) (Or.inl ⟨by kernel_rfl, ?_⟩) C ?_
          rotate_left
          · (intro W hS; obtain ⟨g1, g2⟩ := hS; go_simp; try (with_reducible rfl))
          refine wpAnyH_take (i := 13) (v := ?_) rfl (by kernel_rfl) (by kernel_rfl) (by kernel_rfl) (fun _ _ _ h => h) (Or.inl ⟨by kernel_rfl, ?_⟩) C ?_
          rotate_left
          · (intro W hS; obtain ⟨g1, g2⟩ := hS; go_simp; try (with_reducible rfl))
          obtain ⟨wm, hmk, hown, hbm⟩ := make_bytes wh m (by omega)
          refine wpAnyH_ready (rs := [5]) (by kernel_rfl) (by simp) ?_
          refine AllReadyH.cons rfl (fun K hK => ?_) AllReadyH.nil
          go_simp
          have hbwm := H5.out.1.trans (hbm.mono H5.out.1.size)
          have C := HG.out.1 wm hbwm
          refine hK.out _ _ C (fun _ => ?_)
          clear hK K hmk
          have hcv := hown.conv
          rw [List.length_replicate] at hcv
          rw [show str (List.replicate m 0) = zS m from rfl] at hcv
          obtain ⟨Z, hZ⟩ : ∃ Z, Z = zS m := ⟨_, rfl⟩
          rw [← hZ] at hcv
          have HZ := Lib.hid hZ
          clear hZ
          refine wpAnyH_ready (rs := [6]) (by kernel_rfl) (by simp) ?_
          refine AllReadyH.cons rfl (fun K hK => ?_) AllReadyH.nil
          go_simp
          refine hK.out _ _ C (fun _ => ?_)
          clear hK K hcv
          refine wpAnyH_ready (rs := [14]) (by kernel_rfl) (by simp) ?_
          refine AllReadyH.cons rfl (fun K hK => ?_) AllReadyH.nil
          go_simp
          refine (rsplit_good Z d need n (by rw [HZ.out]; exact HG.out.2.2.1) wm).mono ?_
          rintro e w5 ⟨a5, cp5, rfl, ho5, hb5⟩
          have C := HG.out.1 w5 (hbwm.trans (hb5.mono hbwm.size))
          refine hK.out _ _ C (fun _ => ?_)
          clear hK K
          refine wpAnyH_take (i := 15) (v := ?_) rfl (by kernel_rfl) (by kernel_rfl) (by kernel_rfl) (fun _ _ _ h => h) (Or.inl ⟨by kernel_rfl, ?_⟩) C ?_
          rotate_left
          · (intro W hS; clear hS; go_simp; try (with_reducible rfl))
          refine wpAnyH_take (i := 16) (v := ?_) rfl (by kernel_rfl) (by kernel_rfl) (by kernel_rfl) (fun _ _ _ h => h) (Or.inl ⟨by kernel_rfl, ?_⟩) C ?_
          rotate_left
          · (intro W hS; clear hS; go_simp; try (with_reducible rfl))
          refine wpAnyH_take (i := 17) (v := ?_) rfl (by kernel_rfl) (by kernel_rfl) (by kernel_rfl) (fun _ _ _ h => h) (Or.inl ⟨by kernel_rfl, ?_⟩) C ?_
          rotate_left
          · (intro W hS; clear hS; go_simp; try (with_reducible rfl))
          refine wpAnyH_take (i := 18) (v := ?_) rfl (by kernel_rfl) (by kernel_rfl) (by kernel_rfl) (fun _ _ _ h => h) (Or.inl ⟨by kernel_rfl, ?_⟩) C ?_
          rotate_left
          · (intro W hS; clear hS; go_simp; try (with_reducible rfl))
          refine wpAnyH_take (i := 19) (v := ?_) rfl (by kernel_rfl) (by kernel_rfl) (by kernel_rfl) (fun _ _ _ h => h) (Or.inl ⟨by kernel_rfl, ?_⟩) C ?_
          rotate_left
          · (intro W hS; clear hS; go_simp; try (with_reducible rfl))
          refine wpAnyH_done (by kernel_rfl) ?_ _
          go_simp
          have hb25 := H5.out.2.trans ((hbm.trans (hb5.mono hbm.size)).mono H5.out.2.size)
          have hM5 := (HG.out.2.2.2.2.2.2.1.below hb25).at
          have hZ5 := ho5.at
          have hb05 := hbwm.trans (hb5.mono hbwm.size)
          have H6 := Lib.hid (And.intro hb05 (And.intro hM5 (And.intro hZ5 HZ.out)))
          clear hb25 hM5 hZ5 hb05 hown hbm hbwm ho5 hb5 C
          go_wp2_with fail
          go_loopw [11, 12, 13] (fun i _ _ wr => ∃ k : Nat, k ≤ n ∧ i = .int .i64 (k : Int) ∧ Below w5.heap.size w5 wr) (fun i _ _ _ => n - (intOf i).toNat)
          case atStart => exact ⟨0, by omega, rfl, Below.refl _ _⟩
          case round =>
            obtain ⟨k, hk, rfl, hb⟩ := hrel
            by_cases hlt : k < n
            · obtain ⟨s, hsk⟩ : ∃ s, l[k]? = some s := ⟨_, List.getElem?_eq_getElem (by have := H.out.2.2.2.1; omega)⟩
              have hxk := HG.out.2.1.xs k s hsk
              have hsy := HG.out.2.2.2.1.size s (List.mem_of_getElem? hsk)
              obtain ⟨zy, hzy⟩ : ∃ zy, zy = shY Z d (need.toNat - 1) (bx ((k : Int) + 1)) := ⟨_, rfl⟩
              have hzs : zy.size = m := by rw [hzy, shY_size, H6.out.2.2.2, zS_size]
              obtain ⟨Y, hY⟩ : ∃ Y, Y = xorY zy s.y := ⟨_, rfl⟩
              have hmk : (rfr need m d l)[k]? = some ⟨(k : Int) + 1, need, Y⟩ := by
                unfold rfr
                rw [List.getElem?_map, hsk]
                show some (rf need m d s) = _
                unfold rf
                rw [hxk, hY, hzy, H6.out.2.2.2]
              have hzk : (splt Z d need n)[k]? = some ⟨(k : Int) + 1, need, zy⟩ := by rw [splt_get hlt, hzy]
              obtain ⟨W1, hW1⟩ : ∃ W1, W1 = wr := ⟨_, rfl⟩
              subst hW1
              obtain ⟨tb', off', e', htb, -, -, c2⟩ := (H.out.2.1.below (H6.out.1.trans (hb.mono H6.out.1.size))) k s hsk
              injection e' with e'
              injection e' with e1 e2 _
              subst e1 e2
              obtain ⟨mb, mo, rfl, hmb, m0, m1, m2⟩ := (H6.out.2.1.below hb) k _ hmk
              obtain ⟨zb, zo, rfl, hzb, -, -, z2⟩ := (H6.out.2.2.1.below hb) k _ hzk
              simp only at m0 m1 m2 z2
              obtain ⟨g1, -⟩ := HG.out.1 W1 (H6.out.1.trans (hb.mono H6.out.1.size))
              have hki : (k : Int) < (n : Int) := by omega
              have hwk : IntKind.i64.wrap ((k : Int) + 1) = (k : Int) + 1 := IntWalk.i64_in _ (by omega)
              have hke : ((k : Int) + 1 != (k : Int) + 1) = false := by simp
              have hnn : (need != need) = false := by simp
              have hsyi : (s.y.size : Int) = (m : Int) := by omega
              have HK := Lib.hid (And.intro hb (And.intro hzy (And.intro hzs (And.intro hY (And.intro hsy (And.intro hmb (And.intro hzb (And.intro htb (And.intro m0 (And.intro m1 (And.intro m2 (And.intro z2 (And.intro c2 g1)))))))))))))
              clear hb hzy hzs hY hsy hmk hzk hsk hmb hzb htb m0 m1 m2 z2 hxk g1
              go_wp2_with fail
              clear c2
              go_loopw [12, 13] (fun v j W => ∃ (q : Nat) (ay : Option Addr) (cy : Nat), q ≤ m ∧ j = .int .i64 (q : Int) ∧ v = .slice ay q cy ∧ OwnB W1.heap.size W ay cy (yL s.y zy q) ∧ Below W1.heap.size W1 W) (fun _ j _ => m - (intOf j).toNat)
              case atStart => exact ⟨0, none, 0, by omega, rfl, rfl, OwnB.nil _ _, Below.refl _ _⟩
              case round =>
                obtain ⟨q, ay, cy, hq, rfl, rfl, hy, hby⟩ := hrel
                have c2 := (hby.cell (p := ⟨tb, off + k * 3 + 2, none⟩) HK.out.2.2.2.2.2.2.2.1).trans HK.out.2.2.2.2.2.2.2.2.2.2.2.2.1
                by_cases hqm : q < m
                · have z2 := (hby.cell (p := ⟨zb, zo + k * 3 + 2, none⟩) HK.out.2.2.2.2.2.2.1).trans HK.out.2.2.2.2.2.2.2.2.2.2.2.1
                  have hqs : q < s.y.size := by have := HK.out.2.2.2.2.1; omega
                  have hqz : q < zy.size := by have := HK.out.2.2.1; omega
                  obtain ⟨z, hz⟩ : ∃ z, z = s.y[q] ^^^ zy[q] := ⟨_, rfl⟩
                  have hxo : bits .xor .u8 (s.y[q].toNat : Int) (zy[q].toNat : Int) = (z.toNat : Int) := by rw [hz]; exact u_xor _ _
                  have hsn := yL_snoc s.y zy q
                  rw [co_at s.y q hqs, co_at zy q hqz, ← hz] at hsn
                  have hyd := hy.drew
                  have hbyd := hby.drew
                  have C : LwS tb (off + k * 3 + 2) zb (zo + k * 3 + 2) s.y zy (World.drew wr) := ⟨c2, z2⟩
                  have HY := Lib.hid (And.intro hsn (yL_length s.y zy q))
                  clear hz hsn z2 hy hby
                  go_wp2_with fail
                  clear c2
                  refine wp_region_held (S := LwS tb (off + k * 3 + 2) zb (zo + k * 3 + 2) s.y zy) (by kernel_rfl) ?_
                  change wpAnyH _ _ _ _ _ _ _ _ (World.drew _)
                  generalize World.drew _ = wh at *
                  refine wpAnyH_take (i := 0) (v := ?_) rfl (by kernel_rfl) (by kernel_rfl) (by kernel_rfl) (fun _ _ _ h => h) (Or.inl ⟨by kernel_rfl, ?_⟩) C ?_
                  rotate_left
                  · (intro W hS; obtain ⟨g1, g2⟩ := hS; go_simp; try (with_reducible rfl))
                  refine wpAnyH_take (i := 1) (v := ?_) rfl (by kernel_rfl) (by kernel_rfl) (by kernel_rfl) (fun _ _ _ h => h) (Or.inl ⟨by kernel_rfl, ?_⟩) C ?_
                  rotate_left
                  · (intro W hS; obtain ⟨g1, g2⟩ := hS; go_simp; try (with_reducible rfl))
                  refine wpAnyH_take (i := 2) (v := ?_) rfl (by kernel_rfl) (by kernel_rfl) (by kernel_rfl) (fun _ _ _ h => h) (Or.inl ⟨by kernel_rfl, ?_⟩) C ?_
                  rotate_left
                  · (intro W hS; obtain ⟨g1, g2⟩ := hS; go_simp; try (with_reducible rfl))
                  refine wpAnyH_take (i := 3) (v := ?_) rfl (by kernel_rfl) (by kernel_rfl) (by kernel_rfl) (fun _ _ _ h => h) (Or.inl ⟨by kernel_rfl, ?_⟩) C ?_
                  rotate_left
                  · (intro W hS; obtain ⟨g1, g2⟩ := hS; go_simp; try (with_reducible rfl))
                  refine wpAnyH_take (i := 4) (v := ?_) rfl (by kernel_rfl) (by kernel_rfl) (by kernel_rfl) (fun _ _ _ h => h) (Or.inl ⟨by kernel_rfl, ?_⟩) C ?_
                  rotate_left
                  · (intro W hS; obtain ⟨g1, g2⟩ := hS; go_simp; try (with_reducible rfl))
                  refine wpAnyH_take (i := 5) (v := ?_) rfl (by kernel_rfl) (by kernel_rfl) (by kernel_rfl) (fun _ _ _ h => h) (Or.inl ⟨by kernel_rfl, ?_⟩) C ?_
                  rotate_left
                  · (intro W hS; obtain ⟨g1, g2⟩ := hS; go_simp; try (with_reducible rfl))
                  refine wpAnyH_take (i := 6) (v := ?_) rfl (by kernel_rfl) (by kernel_rfl) (by kernel_rfl) (fun _ _ _ h => h) (Or.inl ⟨by kernel_rfl, ?_⟩) C ?_
                  rotate_left
                  · (intro W hS; obtain ⟨g1, g2⟩ := hS; go_simp; try (with_reducible rfl))
                  refine wpAnyH_take (i := 7) (v := ?_) rfl (by kernel_rfl) (by kernel_rfl) (by kernel_rfl) (fun _ _ _ h => h) (Or.inl ⟨by kernel_rfl, ?_⟩) C ?_
                  rotate_left
                  · (intro W hS; obtain ⟨g1, g2⟩ := hS; go_simp; try (with_reducible rfl))
                  refine wpAnyH_take (i := 8) (v := ?_) rfl (by kernel_rfl) (by kernel_rfl) (by kernel_rfl) (fun _ _ _ h => h) (Or.inl ⟨by kernel_rfl, ?_⟩) C ?_
                  rotate_left
                  · (intro W hS; obtain ⟨g1, g2⟩ := hS; go_simp; try (with_reducible rfl))
                  refine wpAnyH_take (i := 9) (v := ?_) rfl (by kernel_rfl) (by kernel_rfl) (by kernel_rfl) (fun _ _ _ h => h) (Or.inl ⟨by kernel_rfl, ?_⟩) C ?_
                  rotate_left
                  · (intro W hS; obtain ⟨g1, g2⟩ := hS; go_simp; try (with_reducible rfl))
                  refine wpAnyH_take (i := 10) (v := ?_) rfl (by kernel_rfl) (by kernel_rfl) (by kernel_rfl) (fun _ _ _ h => h) (Or.inl ⟨by kernel_rfl, ?_⟩) C ?_
                  rotate_left
                  · (intro W hS; obtain ⟨g1, g2⟩ := hS; go_simp; try (with_reducible rfl))
                  refine wpAnyH_take (i := 11) (v := ?_) rfl (by kernel_rfl) (by kernel_rfl) (by kernel_rfl) (fun _ _ _ h => h) (Or.inl ⟨by kernel_rfl, ?_⟩) C ?_
                  rotate_left
                  · (intro W hS; obtain ⟨g1, g2⟩ := hS; go_simp; try (with_reducible rfl))
                  refine wpAnyH_take (i := 12) (v := ?_) rfl (by kernel_rfl) (by kernel_rfl) (by kernel_rfl) (fun _ _ _ h => h) (Or.inl ⟨by kernel_rfl, ?_⟩) C ?_
                  rotate_left
                  · (intro W hS; obtain ⟨g1, g2⟩ := hS; go_simp; try (with_reducible rfl))
                  refine wpAnyH_take (i := 13) (v := ?_) rfl (by kernel_rfl) (by kernel_rfl) (by kernel_rfl) (fun _ _ _ h => h) (Or.inl ⟨by kernel_rfl, ?_⟩) C ?_
                  rotate_left
                  · (intro W hS; obtain ⟨g1, g2⟩ := hS; go_simp; try (with_reducible rfl))
                  refine wpAnyH_take (i := 14) (v := ?_) rfl (by kernel_rfl) (by kernel_rfl) (by kernel_rfl) (fun _ _ _ h => h) (Or.inl ⟨by kernel_rfl, ?_⟩) C ?_
                  rotate_left
                  · (intro W hS; obtain ⟨g1, g2⟩ := hS; go_simp; try (with_reducible rfl))
                  refine wpAnyH_take (i := 15) (v := ?_) rfl (by kernel_rfl) (by kernel_rfl) (by kernel_rfl) (fun _ _ _ h => h) (Or.inl ⟨by kernel_rfl, ?_⟩) C ?_
                  rotate_left
                  · (intro W hS; obtain ⟨g1, g2⟩ := hS; go_simp; try (with_reducible rfl))
                  have hwz := hbyd.size
                  refine wpAnyH_ready (rs := [16]) (by kernel_rfl) (by simp) ?_
                  refine AllReadyH.cons rfl (fun K hK => ?_) AllReadyH.nil
                  go_simp
                  have hal : ∀ o, Below wh.heap.size wh (wh.alloc o) := fun o => (Below.refl _ _).alloc (Nat.le_refl _) o
                  have htw : tb < wh.heap.size := Nat.lt_of_lt_of_le HK.out.2.2.2.2.2.2.2.1 hwz
                  have hzw : zb < wh.heap.size := Nat.lt_of_lt_of_le HK.out.2.2.2.2.2.2.1 hwz
                  have C1 : LwS tb (off + k * 3 + 2) zb (zo + k * 3 + 2) s.y zy (wh.alloc (.cells #[.int .u8 (z.toNat : Int)] 5)) := ⟨((hal _).cell (p := ⟨tb, off + k * 3 + 2, none⟩) htw).trans C.1, ((hal _).cell (p := ⟨zb, zo + k * 3 + 2, none⟩) hzw).trans C.2⟩
                  refine hK.out _ _ C1 (fun _ => ?_)
                  clear hK K
                  refine wpAnyH_ready (rs := [17]) (by kernel_rfl) (by simp) ?_
                  refine AllReadyH.cons rfl (fun K hK => ?_) AllReadyH.nil
                  refine step_append_byte (w0 := W1) (by rfl) _ _ (by rfl) (hyd.alloc _) q HY.out.2 (by rfl) wh.heap.size 1 z (by rfl) (cell_new wh _ _) (by omega) (by simp; omega) (hbyd.alloc hwz _) ?_
                  intro g cap1 w6 hown1 hb1
                  try go_simp
                  have C6 : LwS tb (off + k * 3 + 2) zb (zo + k * 3 + 2) s.y zy w6 := ⟨(hb1.cell (p := ⟨tb, off + k * 3 + 2, none⟩) HK.out.2.2.2.2.2.2.2.1).trans HK.out.2.2.2.2.2.2.2.2.2.2.2.2.1, (hb1.cell (p := ⟨zb, zo + k * 3 + 2, none⟩) HK.out.2.2.2.2.2.2.1).trans HK.out.2.2.2.2.2.2.2.2.2.2.2.1⟩
                  refine hK.out _ _ C6 (fun _ => ?_)
                  clear hK K
                  refine wpAnyH_take (i := 18) (v := ?_) rfl (by kernel_rfl) (by kernel_rfl) (by kernel_rfl) (fun _ _ _ h => h) (Or.inl ⟨by kernel_rfl, ?_⟩) C6 ?_
                  rotate_left
                  · (intro W hS; clear hS; go_simp; try (with_reducible rfl))
                  refine wpAnyH_done (by kernel_rfl) ?_ _
                  go_simp
                  have H1 := Lib.hid (And.intro hown1 hb1)
                  clear hown1 hb1 C C1 C6 hyd hbyd hal htw hzw hwz hxo
                  go_wp2_with fail
                  go_roundw
                  case rel => exact ⟨q + 1, _, cap1, by omega, by go_num, rfl, by rw [HY.out.1]; exact H1.out.1, H1.out.2⟩
                  case measure => simp [intOf]; omega
                · obtain rfl : m = q := by omega
                  have hcv := hy.drew.conv
                  have HC2 := Lib.hid c2
                  rw [yL_length, yL_all HK.out.2.2.1, ← HK.out.2.2.2.1] at hcv
                  have m0 := (hby.cell (p := ⟨mb, mo + k * 3, none⟩) HK.out.2.2.2.2.2.1).trans HK.out.2.2.2.2.2.2.2.2.1
                  have m1 := (hby.cell (p := ⟨mb, mo + k * 3 + 1, none⟩) HK.out.2.2.2.2.2.1).trans HK.out.2.2.2.2.2.2.2.2.2.1
                  have m2 := (hby.cell (p := ⟨mb, mo + k * 3 + 2, none⟩) HK.out.2.2.2.2.2.1).trans HK.out.2.2.2.2.2.2.2.2.2.2.1
                  have g1 := (hby.cell (p := ⟨tb, off + 1, none⟩) HK.out.2.2.2.2.2.2.2.1).trans HK.out.2.2.2.2.2.2.2.2.2.2.2.2.2
                  have hYY : (!(Y.toList == Y.toList)) = false := by simp
                  have HY := Lib.hid (HK.out.1.trans (hby.mono HK.out.1.size))
                  have C : CmS tb off mb (mo + k * 3) ((k : Int) + 1) need Y (.slice ay m cy) (World.drew wr) := ⟨m0, m1, m2, g1, hcv⟩
                  clear hy hby m0 m1 m2 g1 hcv
                  go_wp2_with fail
                  refine wp_region_held (S := CmS tb off mb (mo + k * 3) ((k : Int) + 1) need Y (.slice ay m cy)) (by kernel_rfl) ?_
                  change wpAnyH _ _ _ _ _ _ _ _ (World.drew _)
                  have hwd : Below wr.heap.size wr (World.drew wr) := (Below.refl _ _).drew
                  have HW := Lib.hid (HY.out.trans (hwd.mono HY.out.size))
                  clear hwd
                  generalize World.drew _ = wh at *
                  refine wpAnyH_take (i := 0) (v := ?_) rfl (by kernel_rfl) (by kernel_rfl) (by kernel_rfl) (fun _ _ _ h => h) (Or.inl ⟨by kernel_rfl, ?_⟩) C ?_
                  rotate_left
                  · (intro W hS; obtain ⟨g1, g2, g3, g4, g5⟩ := hS; go_simp; try (with_reducible rfl))
                  refine wpAnyH_take (i := 1) (v := ?_) rfl (by kernel_rfl) (by kernel_rfl) (by kernel_rfl) (fun _ _ _ h => h) (Or.inl ⟨by kernel_rfl, ?_⟩) C ?_
                  rotate_left
                  · (intro W hS; obtain ⟨g1, g2, g3, g4, g5⟩ := hS; go_simp; try (with_reducible rfl))
                  refine wpAnyH_take (i := 2) (v := ?_) rfl (by kernel_rfl) (by kernel_rfl) (by kernel_rfl) (fun _ _ _ h => h) (Or.inl ⟨by kernel_rfl, ?_⟩) C ?_
                  rotate_left
                  · (intro W hS; obtain ⟨g1, g2, g3, g4, g5⟩ := hS; go_simp; try (with_reducible rfl))
                  refine wpAnyH_take (i := 3) (v := ?_) rfl (by kernel_rfl) (by kernel_rfl) (by kernel_rfl) (fun _ _ _ h => h) (Or.inl ⟨by kernel_rfl, ?_⟩) C ?_
                  rotate_left
                  · (intro W hS; obtain ⟨g1, g2, g3, g4, g5⟩ := hS; go_simp; try (with_reducible rfl))
                  refine wpAnyH_take (i := 4) (v := ?_) rfl (by kernel_rfl) (by kernel_rfl) (by kernel_rfl) (fun _ _ _ h => h) (Or.inl ⟨by kernel_rfl, ?_⟩) C ?_
                  rotate_left
                  · (intro W hS; obtain ⟨g1, g2, g3, g4, g5⟩ := hS; go_simp; try (with_reducible rfl))
                  refine wpAnyH_take (i := 5) (v := ?_) rfl (by kernel_rfl) (by kernel_rfl) (by kernel_rfl) (fun _ _ _ h => h) (Or.inl ⟨by kernel_rfl, ?_⟩) C ?_
                  rotate_left
                  · (intro W hS; obtain ⟨g1, g2, g3, g4, g5⟩ := hS; go_simp; try (with_reducible rfl))
                  refine wpAnyH_take (i := 6) (v := ?_) rfl (by kernel_rfl) (by kernel_rfl) (by kernel_rfl) (fun _ _ _ h => h) (Or.inl ⟨by kernel_rfl, ?_⟩) C ?_
                  rotate_left
                  · (intro W hS; obtain ⟨g1, g2, g3, g4, g5⟩ := hS; go_simp; try (with_reducible rfl))
                  refine wpAnyH_take (i := 7) (v := ?_) rfl (by kernel_rfl) (by kernel_rfl) (by kernel_rfl) (fun _ _ _ h => h) (Or.inl ⟨by kernel_rfl, ?_⟩) C ?_
                  rotate_left
                  · (intro W hS; obtain ⟨g1, g2, g3, g4, g5⟩ := hS; go_simp; try (with_reducible rfl))
                  refine wpAnyH_take (i := 8) (v := ?_) rfl (by kernel_rfl) (by kernel_rfl) (by kernel_rfl) (fun _ _ _ h => h) (Or.inl ⟨by kernel_rfl, ?_⟩) C ?_
                  rotate_left
                  · (intro W hS; obtain ⟨g1, g2, g3, g4, g5⟩ := hS; go_simp; try (with_reducible rfl))
                  refine wpAnyH_take (i := 9) (v := ?_) rfl (by kernel_rfl) (by kernel_rfl) (by kernel_rfl) (fun _ _ _ h => h) (Or.inl ⟨by kernel_rfl, ?_⟩) C ?_
                  rotate_left
                  · (intro W hS; obtain ⟨g1, g2, g3, g4, g5⟩ := hS; go_simp; try (with_reducible rfl))
                  refine wpAnyH_take (i := 10) (v := ?_) rfl (by kernel_rfl) (by kernel_rfl) (by kernel_rfl) (fun _ _ _ h => h) (Or.inl ⟨by kernel_rfl, ?_⟩) C ?_
                  rotate_left
                  · (intro W hS; obtain ⟨g1, g2, g3, g4, g5⟩ := hS; go_simp; try (with_reducible rfl))
                  refine wpAnyH_take (i := 11) (v := ?_) rfl (by kernel_rfl) (by kernel_rfl) (by kernel_rfl) (fun _ _ _ h => h) (Or.inl ⟨by kernel_rfl, ?_⟩) C ?_
                  rotate_left
                  · (intro W hS; obtain ⟨g1, g2, g3, g4, g5⟩ := hS; go_simp; try (with_reducible rfl))
                  refine wpAnyH_take (i := 12) (v := ?_) rfl (by kernel_rfl) (by kernel_rfl) (by kernel_rfl) (fun _ _ _ h => h) (Or.inl ⟨by kernel_rfl, ?_⟩) C ?_
                  rotate_left
                  · (intro W hS; obtain ⟨g1, g2, g3, g4, g5⟩ := hS; go_simp; try (with_reducible rfl))
                  refine wpAnyH_take (i := 13) (v := ?_) rfl (by kernel_rfl) (by kernel_rfl) (by kernel_rfl) (fun _ _ _ h => h) (Or.inl ⟨by kernel_rfl, ?_⟩) C ?_
                  rotate_left
                  · (intro W hS; obtain ⟨g1, g2, g3, g4, g5⟩ := hS; go_simp; try (with_reducible rfl))
                  refine wpAnyH_take (i := 14) (v := ?_) rfl (by kernel_rfl) (by kernel_rfl) (by kernel_rfl) (fun _ _ _ h => h) (Or.inl ⟨by kernel_rfl, ?_⟩) C ?_
                  rotate_left
                  · (intro W hS; obtain ⟨g1, g2, g3, g4, g5⟩ := hS; go_simp; try (with_reducible rfl))
                  refine wpAnyH_take (i := 15) (v := ?_) rfl (by kernel_rfl) (by kernel_rfl) (by kernel_rfl) (fun _ _ _ h => h) (Or.inl ⟨by kernel_rfl, ?_⟩) C ?_
                  rotate_left
                  · (intro W hS; obtain ⟨g1, g2, g3, g4, g5⟩ := hS; go_simp; try (with_reducible rfl))
                  refine wpAnyH_take (i := 16) (v := ?_) rfl (by kernel_rfl) (by kernel_rfl) (by kernel_rfl) (fun _ _ _ h => h) (Or.inl ⟨by kernel_rfl, ?_⟩) C ?_
                  rotate_left
                  · (intro W hS; obtain ⟨g1, g2, g3, g4, g5⟩ := hS; go_simp; try (with_reducible rfl))
                  refine wpAnyH_take (i := 17) (v := ?_) rfl (by kernel_rfl) (by kernel_rfl) (by kernel_rfl) (fun _ _ _ h => h) (Or.inl ⟨by kernel_rfl, ?_⟩) C ?_
                  rotate_left
                  · (intro W hS; obtain ⟨g1, g2, g3, g4, g5⟩ := hS; go_simp; try (with_reducible rfl))
                  refine wpAnyH_take (i := 18) (v := ?_) rfl (by kernel_rfl) (by kernel_rfl) (by kernel_rfl) (fun _ _ _ h => h) (Or.inl ⟨by kernel_rfl, ?_⟩) C ?_
                  rotate_left
                  · (intro W hS; obtain ⟨g1, g2, g3, g4, g5⟩ := hS; go_simp; try (with_reducible rfl))
                  refine wpAnyH_take (i := 19) (v := ?_) rfl (by kernel_rfl) (by kernel_rfl) (by kernel_rfl) (fun _ _ _ h => h) (Or.inl ⟨by kernel_rfl, ?_⟩) C ?_
                  rotate_left
                  · (intro W hS; obtain ⟨g1, g2, g3, g4, g5⟩ := hS; go_simp; try (with_reducible rfl))
                  refine wpAnyH_take (i := 20) (v := ?_) rfl (by kernel_rfl) (by kernel_rfl) (by kernel_rfl) (fun _ _ _ h => h) (Or.inl ⟨by kernel_rfl, ?_⟩) C ?_
                  rotate_left
                  · (intro W hS; obtain ⟨g1, g2, g3, g4, g5⟩ := hS; go_simp; try (with_reducible rfl))
                  refine wpAnyH_take (i := 21) (v := ?_) rfl (by kernel_rfl) (by kernel_rfl) (by kernel_rfl) (fun _ _ _ h => h) (Or.inl ⟨by kernel_rfl, ?_⟩) C ?_
                  rotate_left
                  · (intro W hS; obtain ⟨g1, g2, g3, g4, g5⟩ := hS; go_simp; try (with_reducible rfl))
                  refine wpAnyH_take (i := 22) (v := ?_) rfl (by kernel_rfl) (by kernel_rfl) (by kernel_rfl) (fun _ _ _ h => h) (Or.inl ⟨by kernel_rfl, ?_⟩) C ?_
                  rotate_left
                  · (intro W hS; obtain ⟨g1, g2, g3, g4, g5⟩ := hS; go_simp; try (with_reducible rfl))
                  refine wpAnyH_take (i := 23) (v := ?_) rfl (by kernel_rfl) (by kernel_rfl) (by kernel_rfl) (fun _ _ _ h => h) (Or.inl ⟨by kernel_rfl, ?_⟩) C ?_
                  rotate_left
                  · (intro W hS; obtain ⟨g1, g2, g3, g4, g5⟩ := hS; go_simp; try (with_reducible rfl))
                  refine wpAnyH_take (i := 24) (v := ?_) rfl (by kernel_rfl) (by kernel_rfl) (by kernel_rfl) (fun _ _ _ h => h) (Or.inl ⟨by kernel_rfl, ?_⟩) C ?_
                  rotate_left
                  · (intro W hS; obtain ⟨g1, g2, g3, g4, g5⟩ := hS; go_simp; try (with_reducible rfl))
                  refine wpAnyH_take (i := 25) (v := ?_) rfl (by kernel_rfl) (by kernel_rfl) (by kernel_rfl) (fun _ _ _ h => h) (Or.inl ⟨by kernel_rfl, ?_⟩) C ?_
                  rotate_left
                  · (intro W hS; obtain ⟨g1, g2, g3, g4, g5⟩ := hS; go_simp; try (with_reducible rfl))
                  refine wpAnyH_take (i := 26) (v := ?_) rfl (by kernel_rfl) (by kernel_rfl) (by kernel_rfl) (fun _ _ _ h => h) (Or.inl ⟨by kernel_rfl, ?_⟩) C ?_
                  rotate_left
                  · (intro W hS; obtain ⟨g1, g2, g3, g4, g5⟩ := hS; go_simp; try (with_reducible rfl))
                  refine wpAnyH_take (i := 27) (v := ?_) rfl (by kernel_rfl) (by kernel_rfl) (by kernel_rfl) (fun _ _ _ h => h) (Or.inl ⟨by kernel_rfl, ?_⟩) C ?_
                  rotate_left
                  · (intro W hS; obtain ⟨g1, g2, g3, g4, g5⟩ := hS; go_simp; try (with_reducible rfl))
                  refine wpAnyH_take (i := 28) (v := ?_) rfl (by kernel_rfl) (by kernel_rfl) (by kernel_rfl) (fun _ _ _ h => h) (Or.inl ⟨by kernel_rfl, ?_⟩) C ?_
                  rotate_left
                  · (intro W hS; obtain ⟨g1, g2, g3, g4, g5⟩ := hS; go_simp; try (with_reducible rfl))
                  refine wpAnyH_take (i := 29) (v := ?_) rfl (by kernel_rfl) (by kernel_rfl) (by kernel_rfl) (fun _ _ _ h => h) (Or.inl ⟨by kernel_rfl, ?_⟩) C ?_
                  rotate_left
                  · (intro W hS; obtain ⟨g1, g2, g3, g4, g5⟩ := hS; go_simp; try (with_reducible rfl))
                  refine wpAnyH_done (by kernel_rfl) ?_ _
                  go_simp
                  clear C
                  go_wp2_with fail
                  go_roundw
                  case rel => exact ⟨k + 1, by omega, by go_num, HW.out⟩
                  case measure => simp [intOf]; omega
            · obtain rfl : n = k := by omega
              have hb0 := H6.out.1.trans (hb.mono H6.out.1.size)
              have hcb := combine_any (H.out.2.1.below hb0) (by have := H.out.2.2.2.1; omega) H.out.2.2.1 cap
              rw [← H.out.2.2.2.1] at hcb
              obtain ⟨R, hR⟩ : ∃ R, R = outc l 0 := ⟨_, rfl⟩
              rw [← hR] at hcb
              obtain ⟨S1, c1⟩ := R
              simp only at hcb
              have hM := H6.out.2.1.below hb
              have HL := Lib.hid (And.intro hcb (And.intro hR (And.intro hb0 hM)))
              clear hcb hR hb0 hM hb
              go_wp2_with fail
              refine HL.out.1.mono ?_
              rintro e w7 ⟨rfl, hb⟩
              have hcm := combine_any (HL.out.2.2.2.below hb) (by rw [rfr_length]; have := H.out.2.2.2.1; omega) (fun s hs => by rw [(rfr_alk (d := d) HG.out.2.2.2.1).size s hs]; unfold maxLen; omega) cp2
              rw [rfr_length, ← H.out.2.2.2.1, rfr_out HG.out.2.2.2.1 HG.out.2.1.ne (by rw [← H.out.2.2.2.1]; exact hne2), ← HL.out.2.1] at hcm
              simp only at hcm
              have H7 := Lib.hid (And.intro hcm (HL.out.2.2.1.trans (hb.mono HL.out.2.2.1.size)))
              clear hcm hb
              go_wp2_with fail
              refine H7.out.1.mono ?_
              rintro e w8 ⟨rfl, hb⟩
              have H8 := Lib.hid (H7.out.2.trans (hb.mono H7.out.2.size))
              clear hb
              go_wp2_with fail
              refine (awake_any _).mono ?_
              rintro e w9 ⟨rfl, hb⟩
              have hss : (S1.toList == S1.toList) = true := by simp
              have H9 := Lib.hid (H8.out.trans (hb.mono H8.out.size))
              clear hb
              go_wp2_with fail
              go_ret
              exact ⟨rfl, H9.out⟩
    · have HGB := Lib.hid hG
      clear hG
      obtain ⟨A, hA⟩ : ∃ A, A = alk l := ⟨_, rfl⟩
      go_wp2_with fail
      refine H2.out.2.1.mono ?_
      rintro e w3 ⟨a3, cp3, rfl, ho3, hb⟩
      have hal := ralike_any ho3.at (by have := H.out.2.2.2.1; omega) cp3
      rw [← H.out.2.2.2.1, ← hA] at hal
      have hb3 := H2.out.1.trans (hb.mono H2.out.1.size)
      have H3 := Lib.hid (And.intro hb3 (And.intro hal hb))
      clear hb hb3 ho3 hal
      go_wp2_with fail
      refine H3.out.2.1.mono ?_
      rintro e w4 ⟨rfl, hb⟩
      have hb24 := H3.out.2.2.trans (hb.mono H3.out.2.2.size)
      have H4 := Lib.hid (And.intro (H3.out.1.trans (hb.mono H3.out.1.size)) hb24)
      clear hb hb24
      have HAA := Lib.hid hA
      clear hA
      cases A with
      | false =>
        go_wp2_with fail
        go_loopw [7, 8] (fun g i wr => ∃ (k : Nat) (b : Bool), k ≤ n ∧ i = .int .i64 (k : Int) ∧ g = .bool b ∧ (b = true → alk l = true ∧ 0 < n ∧ ∀ (j : Nat) s, j < k → l[j]? = some s → s.x = (j : Int) + 1) ∧ Below w4.heap.size w4 wr) (fun _ i _ => n - (intOf i).toNat)
        case atStart => exact ⟨0, false, by omega, rfl, rfl, (fun e => Bool.noConfusion e), Below.refl _ _⟩
        case round =>
          obtain ⟨k, b, hk, rfl, rfl, hbg, hb⟩ := hrel
          by_cases hlt : k < n
          · obtain ⟨s, hsk⟩ : ∃ s, l[k]? = some s := ⟨_, List.getElem?_eq_getElem (by have := H.out.2.2.2.1; omega)⟩
            obtain ⟨tb', off', e', -, c0, -, -⟩ := (H.out.2.1.below (H4.out.1.trans (hb.mono H4.out.1.size))) k s hsk
            subst e'
            have HK := Lib.hid (And.intro hb (And.intro hbg hsk))
            clear hb hsk hbg
            cases b with
            | false =>
              go_wp2_with fail
              go_roundw
              case rel => exact ⟨k + 1, false, by omega, by go_num, rfl, (fun e => Bool.noConfusion e), HK.out.1⟩
              case measure => simp [intOf]; omega
            | true =>
              by_cases hx : s.x = (k : Int) + 1
              · have hxb : (s.x == (k : Int) + 1) = true := by rw [hx]; simp
                have HX := Lib.hid hx
                clear hx
                go_wp2_with fail
                go_roundw
                case rel => exact ⟨k + 1, true, by omega, by go_num, rfl, (fun e => by
                  obtain ⟨p1, p2, p3⟩ := HK.out.2.1 rfl
                  refine ⟨p1, p2, fun j t hj ht => ?_⟩
                  by_cases e : j = k
                  · subst e
                    rw [HK.out.2.2] at ht
                    injection ht with ht
                    subst ht
                    exact HX.out
                  · exact p3 j t (by omega) ht), HK.out.1⟩
                case measure => simp [intOf]; omega
              · have hxb : (s.x == (k : Int) + 1) = false := by rw [beq_eq_false_iff_ne]; exact hx
                clear hx
                go_wp2_with fail
                go_roundw
                case rel => exact ⟨k + 1, false, by omega, by go_num, rfl, (fun e => Bool.noConfusion e), HK.out.1⟩
                case measure => simp [intOf]; omega
          · obtain rfl : n = k := by omega
            have HK := Lib.hid (And.intro hb hbg)
            clear hb hbg
            cases b with
            | false =>
              go_wp2_with fail
              go_quiet (fail)
              go_wp2_with fail
              refine (awake_any _).mono ?_
              rintro e w5 ⟨rfl, hb⟩
              have hq5 : Below w4.heap.size w4 (wr.drewN nq) := HK.out.1.trans ⟨rfl, rfl, rfl, Nat.le_refl _, fun _ _ => rfl⟩
              have h5 := hq5.trans (hb.mono hq5.size)
              have H5 := Lib.hid (H4.out.1.trans (h5.mono H4.out.1.size))
              clear hb h5 hq5
              go_wp2_with fail
              go_ret
              exact ⟨rfl, H5.out⟩
            | true =>
              obtain ⟨p1, p2, p3⟩ := HK.out.2 rfl
              have hA := alk_iff.1 p1
              obtain ⟨s0, hs0⟩ : ∃ s, l[0]? = some s := ⟨_, List.getElem?_eq_getElem (by have := H.out.2.2.2.1; omega)⟩
              obtain ⟨hnd, hln⟩ := head_need hs0
              have hok := okS_iff.1 (hA.ok s0 (List.mem_of_getElem? hs0))
              obtain ⟨tb, off, rfl, htb, -, d1, d2⟩ := (H.out.2.1.below (H4.out.1.trans (HK.out.1.mono H4.out.1.size))) 0 s0 hs0
              rw [Nat.zero_mul, Nat.add_zero] at d1 d2
              obtain ⟨m, hm⟩ : ∃ m, m = s0.y.size := ⟨_, rfl⟩
              obtain ⟨need, hne⟩ : ∃ need, need = s0.need := ⟨_, rfl⟩
              obtain ⟨y0, hy0⟩ : ∃ y0, y0 = s0.y := ⟨_, rfl⟩
              rw [← hne] at d1
              rw [← hy0] at d2
              have hysi : (y0.size : Int) = (m : Int) := by rw [hy0]; omega
              obtain ⟨Q, hQ⟩ : ∃ Q : Nat, need - 1 = (Q : Int) := ⟨(need - 1).toNat, by omega⟩
              have hwn : IntKind.i64.wrap (need - 1) = (Q : Int) := by rw [hQ]; exact IntWalk.i64_in _ (by omega)
              obtain ⟨R, hR⟩ : ∃ R : Nat, R = Q * m := ⟨_, rfl⟩
              have hRm : (Q : Int) * (m : Int) = (R : Int) := by rw [hR]; exact (Int.natCast_mul _ _).symm
              have hR2 : R ≤ 254 * 64 := by rw [hR]; exact Nat.mul_le_mul (by omega) (by omega)
              have hwm : IntKind.i64.wrap ((Q : Int) * (m : Int)) = (R : Int) := by rw [hRm]; exact IntWalk.i64_in _ (by omega)
              have hbad : need ≤ (n : Int) → (D : Int) ≠ (R : Int) := fun h1 h2 => HGB.out (rgood_iff.2 ⟨p1, fun e => by rw [e] at hs0; simp at hs0, fun j s hs => p3 j s (by have := (List.getElem?_eq_some_iff.1 hs).1; have := H.out.2.2.2.1; omega) hs, by rw [hnd, ← hne, ← H.out.2.2.2.1]; exact h1, by rw [← H.out.2.2.2.2, hnd, hln, ← hne, ← hm, hQ, hRm]; exact h2⟩)
              have hn0i : (0 : Int) < n := by omega
              clear p1 p2 p3 hA hs0 hnd hln hok htb hm hne hy0 hQ hR hRm
              by_cases hnn : need ≤ (n : Int)
              · have hd2 : decide (need ≤ (n : Int)) = true := decide_eq_true hnn
                have hde : ((D : Int) == (R : Int)) = false := by rw [beq_eq_false_iff_ne]; exact hbad hnn
                clear hbad
                go_wp2_with fail
                go_quiet (fail)
                go_wp2_with fail
                refine (awake_any _).mono ?_
                rintro e w5 ⟨rfl, hb⟩
                have hq5 : Below w4.heap.size w4 (wr.drewN nq) := HK.out.1.trans ⟨rfl, rfl, rfl, Nat.le_refl _, fun _ _ => rfl⟩
                have h5 := hq5.trans (hb.mono hq5.size)
                have H5 := Lib.hid (H4.out.1.trans (h5.mono H4.out.1.size))
                clear hb h5 hq5
                go_wp2_with fail
                go_ret
                exact ⟨rfl, H5.out⟩
              · have hd2 : decide (need ≤ (n : Int)) = false := decide_eq_false hnn
                clear hbad hwm hwn
                go_wp2_with fail
                go_quiet (fail)
                go_wp2_with fail
                refine (awake_any _).mono ?_
                rintro e w5 ⟨rfl, hb⟩
                have hq5 : Below w4.heap.size w4 (wr.drewN nq) := HK.out.1.trans ⟨rfl, rfl, rfl, Nat.le_refl _, fun _ _ => rfl⟩
                have h5 := hq5.trans (hb.mono hq5.size)
                have H5 := Lib.hid (H4.out.1.trans (h5.mono H4.out.1.size))
                clear hb h5 hq5
                go_wp2_with fail
                go_ret
                exact ⟨rfl, H5.out⟩
      | true =>
        by_cases hn : 0 < n
        · have hd1 : decide ((0 : Int) < (n : Int)) = true := decide_eq_true (by omega)
          go_wp2_with fail
          go_loopw [7, 8] (fun g i wr => ∃ (k : Nat) (b : Bool), k ≤ n ∧ i = .int .i64 (k : Int) ∧ g = .bool b ∧ (b = true → alk l = true ∧ 0 < n ∧ ∀ (j : Nat) s, j < k → l[j]? = some s → s.x = (j : Int) + 1) ∧ Below w4.heap.size w4 wr) (fun _ i _ => n - (intOf i).toNat)
          case atStart => exact ⟨0, true, by omega, rfl, rfl, (fun _ => ⟨HAA.out.symm, hn, fun j s hj => absurd hj (by omega)⟩), Below.refl _ _⟩
          case round =>
            obtain ⟨k, b, hk, rfl, rfl, hbg, hb⟩ := hrel
            by_cases hlt : k < n
            · obtain ⟨s, hsk⟩ : ∃ s, l[k]? = some s := ⟨_, List.getElem?_eq_getElem (by have := H.out.2.2.2.1; omega)⟩
              obtain ⟨tb', off', e', -, c0, -, -⟩ := (H.out.2.1.below (H4.out.1.trans (hb.mono H4.out.1.size))) k s hsk
              subst e'
              have HK := Lib.hid (And.intro hb (And.intro hbg hsk))
              clear hb hsk hbg
              cases b with
              | false =>
                go_wp2_with fail
                go_roundw
                case rel => exact ⟨k + 1, false, by omega, by go_num, rfl, (fun e => Bool.noConfusion e), HK.out.1⟩
                case measure => simp [intOf]; omega
              | true =>
                by_cases hx : s.x = (k : Int) + 1
                · have hxb : (s.x == (k : Int) + 1) = true := by rw [hx]; simp
                  have HX := Lib.hid hx
                  clear hx
                  go_wp2_with fail
                  go_roundw
                  case rel => exact ⟨k + 1, true, by omega, by go_num, rfl, (fun e => by
                    obtain ⟨p1, p2, p3⟩ := HK.out.2.1 rfl
                    refine ⟨p1, p2, fun j t hj ht => ?_⟩
                    by_cases e : j = k
                    · subst e
                      rw [HK.out.2.2] at ht
                      injection ht with ht
                      subst ht
                      exact HX.out
                    · exact p3 j t (by omega) ht), HK.out.1⟩
                  case measure => simp [intOf]; omega
                · have hxb : (s.x == (k : Int) + 1) = false := by rw [beq_eq_false_iff_ne]; exact hx
                  clear hx
                  go_wp2_with fail
                  go_roundw
                  case rel => exact ⟨k + 1, false, by omega, by go_num, rfl, (fun e => Bool.noConfusion e), HK.out.1⟩
                  case measure => simp [intOf]; omega
            · obtain rfl : n = k := by omega
              have HK := Lib.hid (And.intro hb hbg)
              clear hb hbg
              cases b with
              | false =>
                go_wp2_with fail
                go_quiet (fail)
                go_wp2_with fail
                refine (awake_any _).mono ?_
                rintro e w5 ⟨rfl, hb⟩
                have hq5 : Below w4.heap.size w4 (wr.drewN nq) := HK.out.1.trans ⟨rfl, rfl, rfl, Nat.le_refl _, fun _ _ => rfl⟩
                have h5 := hq5.trans (hb.mono hq5.size)
                have H5 := Lib.hid (H4.out.1.trans (h5.mono H4.out.1.size))
                clear hb h5 hq5
                go_wp2_with fail
                go_ret
                exact ⟨rfl, H5.out⟩
              | true =>
                obtain ⟨p1, p2, p3⟩ := HK.out.2 rfl
                have hA := alk_iff.1 p1
                obtain ⟨s0, hs0⟩ : ∃ s, l[0]? = some s := ⟨_, List.getElem?_eq_getElem (by have := H.out.2.2.2.1; omega)⟩
                obtain ⟨hnd, hln⟩ := head_need hs0
                have hok := okS_iff.1 (hA.ok s0 (List.mem_of_getElem? hs0))
                obtain ⟨tb, off, rfl, htb, -, d1, d2⟩ := (H.out.2.1.below (H4.out.1.trans (HK.out.1.mono H4.out.1.size))) 0 s0 hs0
                rw [Nat.zero_mul, Nat.add_zero] at d1 d2
                obtain ⟨m, hm⟩ : ∃ m, m = s0.y.size := ⟨_, rfl⟩
                obtain ⟨need, hne⟩ : ∃ need, need = s0.need := ⟨_, rfl⟩
                obtain ⟨y0, hy0⟩ : ∃ y0, y0 = s0.y := ⟨_, rfl⟩
                rw [← hne] at d1
                rw [← hy0] at d2
                have hysi : (y0.size : Int) = (m : Int) := by rw [hy0]; omega
                obtain ⟨Q, hQ⟩ : ∃ Q : Nat, need - 1 = (Q : Int) := ⟨(need - 1).toNat, by omega⟩
                have hwn : IntKind.i64.wrap (need - 1) = (Q : Int) := by rw [hQ]; exact IntWalk.i64_in _ (by omega)
                obtain ⟨R, hR⟩ : ∃ R : Nat, R = Q * m := ⟨_, rfl⟩
                have hRm : (Q : Int) * (m : Int) = (R : Int) := by rw [hR]; exact (Int.natCast_mul _ _).symm
                have hR2 : R ≤ 254 * 64 := by rw [hR]; exact Nat.mul_le_mul (by omega) (by omega)
                have hwm : IntKind.i64.wrap ((Q : Int) * (m : Int)) = (R : Int) := by rw [hRm]; exact IntWalk.i64_in _ (by omega)
                have hbad : need ≤ (n : Int) → (D : Int) ≠ (R : Int) := fun h1 h2 => HGB.out (rgood_iff.2 ⟨p1, fun e => by rw [e] at hs0; simp at hs0, fun j s hs => p3 j s (by have := (List.getElem?_eq_some_iff.1 hs).1; have := H.out.2.2.2.1; omega) hs, by rw [hnd, ← hne, ← H.out.2.2.2.1]; exact h1, by rw [← H.out.2.2.2.2, hnd, hln, ← hne, ← hm, hQ, hRm]; exact h2⟩)
                have hn0i : (0 : Int) < n := by omega
                clear p1 p2 p3 hA hs0 hnd hln hok htb hm hne hy0 hQ hR hRm
                by_cases hnn : need ≤ (n : Int)
                · have hd2 : decide (need ≤ (n : Int)) = true := decide_eq_true hnn
                  have hde : ((D : Int) == (R : Int)) = false := by rw [beq_eq_false_iff_ne]; exact hbad hnn
                  clear hbad
                  go_wp2_with fail
                  go_quiet (fail)
                  go_wp2_with fail
                  refine (awake_any _).mono ?_
                  rintro e w5 ⟨rfl, hb⟩
                  have hq5 : Below w4.heap.size w4 (wr.drewN nq) := HK.out.1.trans ⟨rfl, rfl, rfl, Nat.le_refl _, fun _ _ => rfl⟩
                  have h5 := hq5.trans (hb.mono hq5.size)
                  have H5 := Lib.hid (H4.out.1.trans (h5.mono H4.out.1.size))
                  clear hb h5 hq5
                  go_wp2_with fail
                  go_ret
                  exact ⟨rfl, H5.out⟩
                · have hd2 : decide (need ≤ (n : Int)) = false := decide_eq_false hnn
                  clear hbad hwm hwn
                  go_wp2_with fail
                  go_quiet (fail)
                  go_wp2_with fail
                  refine (awake_any _).mono ?_
                  rintro e w5 ⟨rfl, hb⟩
                  have hq5 : Below w4.heap.size w4 (wr.drewN nq) := HK.out.1.trans ⟨rfl, rfl, rfl, Nat.le_refl _, fun _ _ => rfl⟩
                  have h5 := hq5.trans (hb.mono hq5.size)
                  have H5 := Lib.hid (H4.out.1.trans (h5.mono H4.out.1.size))
                  clear hb h5 hq5
                  go_wp2_with fail
                  go_ret
                  exact ⟨rfl, H5.out⟩
        · have hd1 : decide ((0 : Int) < (n : Int)) = false := decide_eq_false (by omega)
          go_wp2_with fail
          go_loopw [7, 8] (fun g i wr => i = .int .i64 0 ∧ g = .bool false ∧ Below w4.heap.size w4 wr) (fun _ _ _ => 0)
          case atStart => exact ⟨rfl, rfl, Below.refl _ _⟩
          case round =>
            obtain ⟨rfl, rfl, hb⟩ := hrel
            have HK := Lib.hid (And.intro hb trivial)
            clear hb
            go_wp2_with fail
            go_quiet (fail)
            go_wp2_with fail
            refine (awake_any _).mono ?_
            rintro e w5 ⟨rfl, hb⟩
            have hq5 : Below w4.heap.size w4 (wr.drewN nq) := HK.out.1.trans ⟨rfl, rfl, rfl, Nat.le_refl _, fun _ _ => rfl⟩
            have h5 := hq5.trans (hb.mono hq5.size)
            have H5 := Lib.hid (H4.out.1.trans (h5.mono H4.out.1.size))
            clear hb h5 hq5
            go_wp2_with fail
            go_ret
            exact ⟨rfl, H5.out⟩
end Go.Proofs.YtefpfedpgedloaaGreatDoor

namespace Go.Proofs.YtefpfedpgedloaaGreatDoor.shamirRefreshesLaw
open Go.ChangeShapes Go.WideShapes Go.ChangeAt Go.RowKit
open Go.ChangeMaps (open_string shut_string)

set_option maxRecDepth 100000 in
theorem contract (H : Type) (enc : TypeId × Value → H) (W : World) (base : Nat) (args : Array Value) (ds gs : List (DataW H)) (before : List MemPlace)
    (hval : ∀ (j : Nat) t v, Tryz.f3.params[j]? = some t → args[j]? = some v → Value.okWide Tryz.prog W .any base t v)
    (hW : DataW.Whole enc Tryz.prog Tryz.f3.params.toList Rows.shamirRefreshesSpec.vars false W args.toList ds gs before) (_ : laidMetH Tryz.prog Rows.shamirRefreshesRow.laid W) :
    Calls Tryz.prog 3 args W fun e W' => ∃ v, e = .returned v ∧ Rows.shamirRefreshesSpec.post enc Tryz.prog Tryz.f3 false true false false W args v W' := by
  have hW' := hW
  obtain ⟨p, q, hA0, hV, rfl, hfz, hnd⟩ := hW
  have hA : DataW.TrodAll enc Tryz.prog W 0 (fun _ => true) true Tryz.f3.params.toList args.toList ds p := hA0
  rw [Tryz.params3] at hA hval
  obtain ⟨v0, vs0, d0, ds0, p0, q0, hargs, rfl, rfl, h0, r0⟩ := trodAll_cons hA
  obtain ⟨v1, vs1, d1, ds1, p1, q1, rfl, rfl, rfl, h1, r1⟩ := trodAll_cons r0
  obtain ⟨rfl, rfl, rfl⟩ := trodAll_nil r1
  obtain rfl : args = #[v0, v1] := by cases args; simp_all
  obtain ⟨rfl, rfl⟩ := trodVars_none hV
  obtain ⟨a0, len0, cap0, rfl⟩ := okWide_slice Tryz.underlying22 (hval 0 22 v0 rfl rfl)
  have hk0 := h0
  obtain ⟨fuel0, hf0⟩ := h0
  obtain ⟨s1, rfl, rfl, rfl, ws1⟩ := open_string Tryz.underlying9 (hval 1 9 v1 rfl rfl) h1
  clear hA0
  simp only [List.append_nil] at hW'
  have hlt0 : ∀ x ∈ p0, x.block < W.heap.size := fun x hx => by simpa using hW'.lt x (by simp [hx])
  obtain ⟨ss0, hlen0, hmax0, hO0, hT0⟩ := shares_of hf0 hlt0
  subst hlen0
  refine (refreshes_law ss0 a0 cap0 hT0 hO0 hmax0 s1 (by simpa using ws1) (w := W)).mono fun e W' ⟨he, hb⟩ => ?_
  subst he
  exact ⟨_, rfl, _, _, _, [], _, [], hW', trodAll_cons_mk (shut_bool Tryz.underlying4 _) trodAll_mk0, (trodAll_cons_mk (Below.trod laidOut (by kernel_rfl) (of_decide_eq_true (by kernel_rfl)) hk0 hb hlt0) (trodAll_cons_mk (shut_string Tryz.underlying9 ws1) trodAll_mk0)), rfl, hb.frame _, fun h => by cases h⟩
theorem laid_met (os : Os) : laidMet Tryz.prog Rows.shamirRefreshesRow.laid ((laidWorld os).forCall (fun _ _ => 0) ⟨#[], #[.slice none 0 0, .string ⟨#[]⟩], []⟩).memory :=
  laidMet_of_run' 8 (by kernel_rfl) (by kernel_rfl)
theorem reads (os : Os) {H : Type} (enc : TypeId × Value → H) : ∃ places, DataW.whole enc Tryz.prog ((laidWorld os).forCall (fun _ _ => 0) ⟨#[], #[.slice none 0 0, .string ⟨#[]⟩], []⟩).memory Tryz.f3.params.toList Rows.shamirRefreshesSpec.vars false #[Value.slice none 0 0, .string ⟨#[]⟩].toList 8 = some ([.nil, .lit (.string [])], [], places) :=
  ⟨[], by kernel_rfl⟩
set_option maxRecDepth 100000 in
theorem lifted (os : Os) (started : os.Started) (H : Type) (enc : TypeId × Value → H) (F : Stop.Interp) :
    ReturnsInHanded {} Tryz.checked os 3 .any ((OpenSpec.ofChange Rows.shamirRefreshesSpec).preRow enc Tryz.prog Tryz.f3 Rows.shamirRefreshesRow.domain false Rows.shamirRefreshesRow.laid) (((OpenSpec.ofChange Rows.shamirRefreshesSpec).at F).post enc Tryz.prog Tryz.f3 false true false false) := by
  obtain ⟨places, hx⟩ := reads os enc
  refine returnsInHanded_of_row (C := Tryz.checked) (s := OpenSpec.ofChange Rows.shamirRefreshesSpec) own started (by kernel_rfl) Tryz.func3
    (witness_row_at (enc := enc) (C := Tryz.checked) false (laidWorld os) #[.slice none 0 0, .string ⟨#[]⟩] rfl (by kernel_rfl) (by kernel_rfl) (by kernel_rfl)
      (OpenSpec.preRow_of_cond 8 hx (by kernel_rfl) (fun k hk => by cases hk) (by kernel_rfl) (laid_met os))) ?_
  intro W base args ds gs before hval hW _ _ _ hL _ _
  exact contract H enc W base args ds gs before hval hW hL
theorem said : Rows.ShamirRefreshesSaid :=
  OpenClaim.holds_of_cond 3 Tryz.f3 rfl rfl rfl rfl rfl rfl rfl ⟨rfl, rfl, rfl, rfl, rfl⟩ rfl rfl rfl rfl rfl (by kernel_rfl) Tryz.func3 (by kernel_rfl)
    (of_decide_eq_true (by kernel_rfl)) (by unfold Func.isWrapper; first | (rw [if_pos (by decide +kernel)]; kernel_rfl) | (rw [if_neg (by decide +kernel)]; exact ⟨rfl, rfl⟩))
    (fun os started H enc _ F => by rw [OpenClaim.pre_eq_preRow]; exact lifted os started H enc F)
theorem plain (f : FuncId) (fn : Func) (hf : Tryz.pinned.checked.prog.funcNamed "lockbox/lockboxlaw09.ShamirRefreshes" = some f) (hfn : Tryz.pinned.checked.prog.funcs[f]? = some fn) :
    false = Tryz.pinned.checked.prog.looks [] ∧ ∀ (j : Nat) t, fn.params[j]? = some t → Tryz.pinned.checked.prog.wantsStandIn t = false := by
  obtain rfl : f = 3 := Option.some.inj ((show Tryz.prog.funcNamed "lockbox/lockboxlaw09.ShamirRefreshes" = some 3 by kernel_rfl).symm.trans hf) |>.symm
  obtain rfl : fn = Tryz.f3 := (Option.some.inj (Tryz.func3.symm.trans hfn)).symm
  refine ⟨by kernel_rfl, fun j t ht => ?_⟩
  rw [Tryz.params3] at ht
  have hm : t ∈ [22, 9] := by simpa using Array.mem_of_getElem? ht
  have hall : ([22, 9].all fun u => !Tryz.prog.wantsStandIn u) = true := by kernel_rfl
  exact (show Tryz.prog.wantsStandIn t = false by simpa using List.all_eq_true.1 hall t hm)
end Go.Proofs.YtefpfedpgedloaaGreatDoor.shamirRefreshesLaw

namespace Go.Proofs.YtefpfedpgedloaaGreatDoor
/-- THE CARD. -/
theorem shamirRefreshes_card : Rows.ShamirRefreshesCardSaid :=
  Claim7.holds_tied_plain_at .later [] _ _ _ _ shamirRefreshesLaw.said (fun _ h => by cases h) (by kernel_rfl) (fun _ h => by cases h) shamirRefreshes_row_tie rfl ⟨rfl, rfl⟩ (by kernel_rfl) rfl shamirRefreshesLaw.plain (by kernel_rfl)
end Go.Proofs.YtefpfedpgedloaaGreatDoor
