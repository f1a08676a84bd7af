/- PROVED HERE: for every two lists of texts the law TreeTexts returns true (the texts of a root are one for each leaf, one for each two that come together; a twin is told if there is one). Its conditions: the package-level tables hold what their initialisers lay (tied to the program's text by the card). -/
import Derived.Test.YtdjhlgodecnidaaDoorTrTextsM
import Derived.Test.YtdjhlgodecnidaaDoorLaid
namespace Go.Proofs.YtdjhlgodecnidaaDoor
open Go.RowKit
open Tr

theorem no_pair {ts : List ByteArray} {m : Nat} (hm : m = ts.length) (h : ∀ i k, i < m → k < i → ¬ (gt ts i ≠ gt ts k ∧ sumE (gt ts i) = sumE (gt ts k))) : ¬ TwinIn ts := by
  rintro ⟨x, y, hx, hy, hne, he⟩
  obtain ⟨i, hi, rfl⟩ := List.mem_iff_getElem.1 hx
  obtain ⟨j, hj, rfl⟩ := List.mem_iff_getElem.1 hy
  have e1 : gt ts i = ts[i] := by unfold gt; rw [List.getD_eq_getElem?_getD, List.getElem?_eq_getElem hi]; rfl
  have e2 : gt ts j = ts[j] := by unfold gt; rw [List.getD_eq_getElem?_getD, List.getElem?_eq_getElem hj]; rfl
  rw [← e1, ← e2] at hne he
  rcases Nat.lt_trichotomy i j with h1 | h1 | h1
  · exact h j i (by omega) h1 ⟨fun e => hne e.symm, he.symm⟩
  · rw [h1] at hne; exact hne rfl
  · exact h i j (by omega) h1 ⟨hne, he⟩
set_option maxRecDepth 100000 in
set_option maxHeartbeats 8000000 in
theorem texts_law {w : World} (ss : List ByteArray) (a0 : Option Addr) (cap : Nat) (hT : TextsAt w a0 ss) (hm : ss.length ≤ maxLen) (ts : List ByteArray) (b0 : Option Addr) (cap2 : Nat) (hT2 : TextsAt w b0 ts) (hm2 : ts.length ≤ maxLen) (hG : Glob w) :
    Calls Tryd.prog 9 #[.slice a0 ss.length cap, .slice b0 ts.length cap2] w fun e w' => e = .returned (.bool true) ∧ Below w.heap.size w w' := by
  have HG := Lib.hid hG
  clear hG
  by_cases hf : FewOf ss 40 100
  · have cd := digests_any ss a0 cap w hT hm hf
    have cf := fun W (h : Below w.heap.size w W) => few_any ts b0 cap2 20 100 W (hT2.below h) hm2
    by_cases hg : FewOf ts 20 100
    · rw [fewB_true hg] at cf
      have h40 : ss.length ≤ 40 := by have := hf.1; omega
      have h20 : ts.length ≤ 20 := by have := hg.1; omega
      have hs : ∀ j, j < ss.length → (gt ss j).size ≤ 100 := fun j hj => by have := hf.2 j hj; unfold gt; omega
      have hs2 : ∀ j, j < ts.length → (gt ts j).size ≤ 100 := fun j hj => by have := hg.2 j hj; unfold gt; omega
      have ct := fun W (h : Below w.heap.size w W) => texts_any ss a0 cap W (HG.out.below h) (hT.below h) (by omega) (fun j hj => by have := hs j hj; unfold gt at this; omega)
      have cw := fun W (h : Below w.heap.size w W) => bigTwin_any ts b0 cap2 W (HG.out.below h) (hT2.below h) (by omega) (fun j hj => by have := hs2 j hj; omega)
      have hl : (ss.map leaf).length = ss.length := List.length_map ..
      have cr := fun W (x : Option Addr) (c : Nat) hTW (h1 : (ss.map leaf).length ≤ c) h2 => rroot_any _ (ss.map leaf) rfl (by omega) (digs_leaves ss) x c W hTW h1 h2
      obtain ⟨X, hX⟩ : ∃ X, X = txts ss := ⟨_, rfl⟩
      have hX1 : X.length = 2 * ss.length - 1 := by rw [hX]; exact txts_length ss
      have hX2 : ∀ i, i < ss.length → gt X i = leafT (gt ss i) := fun i hi => by rw [hX]; exact txts_leaf hi
      have hX3 : ∀ i, ss.length ≤ i → i < X.length → ∃ a b, gt X i = nodeT a b ∧ a.size = 32 ∧ b.size = 32 := fun i h1 h2 => by rw [hX] at h2 ⊢; exact txts_node h1 h2
      have hX4 : 1 ≤ ss.length → ∃ i, i < X.length ∧ sumE (gt X i) = root (ss.map leaf) := fun h => by rw [hX]; exact txts_root h
      have hX5 : ∀ i, i < X.length → (gt X i).size ≤ 101 := fun i hi => by rw [hX] at hi ⊢; exact txts_size hs (by omega) i hi
      obtain ⟨R, hR⟩ : ∃ R, R = root (ss.map leaf) := ⟨_, rfl⟩
      rw [← hR] at hX4 cr
      obtain ⟨D, hD⟩ : ∃ D, D = ss.map leaf := ⟨_, rfl⟩
      have ct : ∀ W (h : Below w.heap.size w W), Calls Tryd.prog 36 #[.slice a0 ss.length cap] W fun e w' => ∃ a c, e = .returned (.slice a X.length c) ∧ OwnT W.heap.size w' a c X ∧ Below W.heap.size W w' := by rw [hX]; exact ct
      rw [← hD] at cd cr hl
      obtain ⟨n, hn⟩ : ∃ n, n = ss.length := ⟨_, rfl⟩
      obtain ⟨m, hm'⟩ : ∃ m, m = ts.length := ⟨_, rfl⟩
      obtain ⟨x, hx⟩ : ∃ x, x = X.length := ⟨_, rfl⟩
      rw [← hn] at cd ct hl hX1 hX2 hX3 hX4 h40 ⊢
      rw [← hm'] at cf cw h20 ⊢
      rw [← hx] at ct hX1 hX3 hX4 hX5
      have HX1 := Lib.hid hX1
      have hmx : ((x : Int) != max (2 * (n : Int) - 1) 0) = false := by
        have : ((x : Int)) = max (2 * (n : Int) - 1) 0 := by rw [hX1]; omega
        rw [this]; simp
      have hx81 : x ≤ 80 := by omega
      clear hX1
      rw [hl] at cr
      have HX := Lib.hid (And.intro hX2 (And.intro hX3 (And.intro hX4 (And.intro hX5 (And.intro hx (And.intro hn (And.intro hm' hl)))))))
      have HS := Lib.hid (And.intro hT (And.intro hT2 (And.intro hs hs2)))
      have H := Lib.hid (And.intro cd (And.intro cf (And.intro ct (And.intro cw cr))))
      clear cd cf ct cw cr hX2 hX3 hX4 hX5 hX hR hD hf hg hs hs2 hT hT2 hm hm2 hl hn hm' hx
      go_enter Tryd.func9, Tryd.ntmps9
      go_wp2_with fail
      refine H.out.1.mono ?_
      rintro e w0 ⟨a, c, rfl, hO, hb0⟩
      have HA := Lib.hid (And.intro hO.texts (And.intro (show n ≤ c ∧ c ≤ maxLen from by have h := hO.capy; rw [HX.out.2.2.2.2.2.2.2] at h; exact h) hb0))
      clear hO hb0
      go_wp2_with fail
      refine (H.out.2.1 _ HA.out.2.2).mono ?_
      rintro e w1 ⟨rfl, rfl⟩
      go_wp2_with fail
      refine (H.out.2.2.1 _ HA.out.2.2).mono ?_
      rintro e w1 ⟨a1, c1, rfl, hO, hb⟩
      have HB := Lib.hid (And.intro (HA.out.2.2.trans (hb.mono HA.out.2.2.size)) (And.intro (HA.out.1.below hb) hO.texts))
      clear hb hO
      go_wp2_with fail
      go_loopw [9] (fun vi wr => ∃ i : Nat, i ≤ n ∧ vi = .int .i64 i ∧ Below w1.heap.size w1 wr) (fun vi _ => n - (intOf vi).toNat)
      case atStart => exact ⟨0, by omega, rfl, Below.refl _ _⟩
      case round =>
        obtain ⟨i, hi, rfl, hb⟩ := hrel
        by_cases hlt : i < n
        · have hix : i < x := by have := HX1.out; omega
          obtain ⟨b, off, hab, _, hc⟩ := (HB.out.2.2.below hb) i (by have h1 := HX.out.2.2.2.2.1; omega)
          cases hab
          obtain ⟨b', off', hab, _, hc'⟩ := (HS.out.1.below (HB.out.1.trans (hb.mono HB.out.1.size))) i (by have h1 := HX.out.2.2.2.2.2.1; omega)
          cases hab
          have hz := HS.out.2.2.1 i (by have h1 := HX.out.2.2.2.2.2.1; omega)
          obtain ⟨s, hs⟩ : ∃ s, s = gt ss i := ⟨_, rfl⟩
          rw [show X.getD i ByteArray.empty = ⟨#[0]⟩ ++ s from (HX.out.1 i hlt).trans (by rw [hs]; rfl)] at hc
          rw [show ss.getD i ByteArray.empty = s from hs.symm] at hc'
          rw [← hs] at hz
          clear hs
          go_wp2_with fail
          go_region
          go_wp2_with fail
          refine ⟨⟨i + 1, by omega, congrArg _ (by omega), hb.drew⟩, ?_⟩
          show n - ((i : Int) + 1).toNat < n - ((i : Int)).toNat
          omega
        · go_wp2_with fail
          have F1 := HB.out.1.trans (hb.mono HB.out.1.size)
          have TX := HB.out.2.2.below hb
          have TD := HB.out.2.1.below hb
          clear hb
          have HC := Lib.hid (And.intro F1 (And.intro TX TD))
          clear F1 TX TD
          go_loopw [10, 11] (fun vr vi w2 => ∃ (k : Nat) (rt : Bool), k ≤ x ∧ vr = .bool rt ∧ vi = .int .i64 k ∧ Below wr.heap.size wr w2 ∧ (rt = true ∨ n ≠ 0 ∧ ∀ j, j < k → sumE (gt X j) ≠ R)) (fun _ vi _ => x - (intOf vi).toNat)
          case atStart =>
            refine ⟨0, ((n : Int) == 0), by omega, rfl, rfl, Below.refl _ _, ?_⟩
            by_cases h : n = 0
            · left; simp [h]
            · right; exact ⟨h, fun j hj => by omega⟩
          case round =>
            obtain ⟨k, rt, hk, rfl, rfl, hb2, hrt⟩ := hrel
            by_cases hlt2 : k < x
            · obtain ⟨b, off, hab, hbl, hc⟩ := (HC.out.2.1.below hb2) k (by have h1 := HX.out.2.2.2.2.1; omega)
              cases hab
              obtain ⟨y, hy⟩ : ∃ y, y = gt X k := ⟨_, rfl⟩
              rw [show X.getD k ByteArray.empty = y from hy.symm] at hc
              have hz := HX.out.2.2.2.1 k hlt2
              rw [← hy] at hz
              have rs := fun W => rsumref_any y (by omega) W
              obtain ⟨d, hd⟩ : ∃ d, d = sumE y := ⟨_, rfl⟩
              rw [show str (sha y.data.toList) = d from hd.symm] at rs
              have hdR : (d.toList == R.toList) = decide (d = R) := twin_beq d R
              have hrt2 : (rt || decide (d = R)) = true ∨ n ≠ 0 ∧ ∀ j, j < k + 1 → sumE (gt X j) ≠ R := by
                rcases hrt with h | ⟨h, h2⟩
                · left; rw [h]; rfl
                · by_cases e : d = R
                  · left; simp [e]
                  · right
                    refine ⟨h, fun j hj => ?_⟩
                    by_cases e2 : j = k
                    · rw [e2, ← hy, ← hd]; exact e
                    · exact h2 j (by omega)
              by_cases hni : n ≤ k
              · have h65 : y.size = 65 ∧ y.data.toList[0]? = some 1 := by
                  obtain ⟨p, q, e, hp, hq⟩ := HX.out.2.1 k hni hlt2
                  rw [← hy] at e
                  rw [e]
                  exact ⟨by rw [nodeT_size, hp, hq], nodeT_first p q⟩
                obtain ⟨h65, h0⟩ := h65
                have h1 : y[0]'(by omega) = 1 := by
                  have e : y.data.toList[0]? = some (y[0]'(by omega)) := by rw [List.getElem?_eq_getElem (by rw [Array.length_toList]; show 0 < y.size; omega)]; rfl
                  rw [e] at h0
                  exact Option.some.inj h0
                clear h0
                have HR := Lib.hid hrt2
                clear hrt hrt2 hy hd
                cases rt with
                | true =>
                  go_wp2_with fail
                  refine ⟨⟨k + 1, _, by omega, rfl, congrArg _ (by omega), hb2, HR.out⟩, ?_⟩
                  show x - ((k : Int) + 1).toNat < x - ((k : Int)).toNat
                  omega
                | false =>
                  cases hq : decide (d = R) with
                  | true =>
                    rw [hq] at HR hdR
                    clear hq
                    go_wp2_with (first
                      | (refine (rs _).mono ?_; rintro e v ⟨rfl, hv⟩; replace hc := (hv.cell hbl).trans hc; replace hbl := Nat.lt_of_lt_of_le hbl hv.size; replace hb2 := hb2.trans (hv.mono hb2.size); clear hv rs)
                      | (refine (H.out.2.2.2.2 _ _ _ (HC.out.2.2.below hb2) HA.out.2.1.1 HA.out.2.1.2).mono ?_; rintro e v ⟨rfl, hv⟩; replace hc := (hv.cell hbl).trans hc; replace hbl := Nat.lt_of_lt_of_le hbl hv.size; replace hb2 := hb2.trans (hv.mono hb2.size); clear hv)
                      | fail)
                    refine ⟨⟨k + 1, _, by omega, rfl, congrArg _ (by omega), hb2, HR.out⟩, ?_⟩
                    show x - ((k : Int) + 1).toNat < x - ((k : Int)).toNat
                    omega
                  | false =>
                    rw [hq] at HR hdR
                    clear hq
                    go_wp2_with (first
                      | (refine (rs _).mono ?_; rintro e v ⟨rfl, hv⟩; replace hc := (hv.cell hbl).trans hc; replace hbl := Nat.lt_of_lt_of_le hbl hv.size; replace hb2 := hb2.trans (hv.mono hb2.size); clear hv rs)
                      | (refine (H.out.2.2.2.2 _ _ _ (HC.out.2.2.below hb2) HA.out.2.1.1 HA.out.2.1.2).mono ?_; rintro e v ⟨rfl, hv⟩; replace hc := (hv.cell hbl).trans hc; replace hbl := Nat.lt_of_lt_of_le hbl hv.size; replace hb2 := hb2.trans (hv.mono hb2.size); clear hv)
                      | fail)
                    refine ⟨⟨k + 1, _, by omega, rfl, congrArg _ (by omega), hb2, HR.out⟩, ?_⟩
                    show x - ((k : Int) + 1).toNat < x - ((k : Int)).toNat
                    omega
              · have HR := Lib.hid hrt2
                clear hrt hrt2 hy hd
                cases rt with
                | true =>
                  go_wp2_with fail
                  refine ⟨⟨k + 1, _, by omega, rfl, congrArg _ (by omega), hb2, HR.out⟩, ?_⟩
                  show x - ((k : Int) + 1).toNat < x - ((k : Int)).toNat
                  omega
                | false =>
                  cases hq : decide (d = R) with
                  | true =>
                    rw [hq] at HR hdR
                    clear hq
                    go_wp2_with (first
                      | (refine (rs _).mono ?_; rintro e v ⟨rfl, hv⟩; replace hc := (hv.cell hbl).trans hc; replace hbl := Nat.lt_of_lt_of_le hbl hv.size; replace hb2 := hb2.trans (hv.mono hb2.size); clear hv rs)
                      | (refine (H.out.2.2.2.2 _ _ _ (HC.out.2.2.below hb2) HA.out.2.1.1 HA.out.2.1.2).mono ?_; rintro e v ⟨rfl, hv⟩; replace hc := (hv.cell hbl).trans hc; replace hbl := Nat.lt_of_lt_of_le hbl hv.size; replace hb2 := hb2.trans (hv.mono hb2.size); clear hv)
                      | fail)
                    refine ⟨⟨k + 1, _, by omega, rfl, congrArg _ (by omega), hb2, HR.out⟩, ?_⟩
                    show x - ((k : Int) + 1).toNat < x - ((k : Int)).toNat
                    omega
                  | false =>
                    rw [hq] at HR hdR
                    clear hq
                    go_wp2_with (first
                      | (refine (rs _).mono ?_; rintro e v ⟨rfl, hv⟩; replace hc := (hv.cell hbl).trans hc; replace hbl := Nat.lt_of_lt_of_le hbl hv.size; replace hb2 := hb2.trans (hv.mono hb2.size); clear hv rs)
                      | (refine (H.out.2.2.2.2 _ _ _ (HC.out.2.2.below hb2) HA.out.2.1.1 HA.out.2.1.2).mono ?_; rintro e v ⟨rfl, hv⟩; replace hc := (hv.cell hbl).trans hc; replace hbl := Nat.lt_of_lt_of_le hbl hv.size; replace hb2 := hb2.trans (hv.mono hb2.size); clear hv)
                      | fail)
                    refine ⟨⟨k + 1, _, by omega, rfl, congrArg _ (by omega), hb2, HR.out⟩, ?_⟩
                    show x - ((k : Int) + 1).toNat < x - ((k : Int)).toNat
                    omega
            · have hroot : rt = true := by
                rcases hrt with h | ⟨h, h2⟩
                · exact h
                · obtain ⟨i, hi, e⟩ := HX.out.2.2.1 (by omega)
                  exact (h2 i (by omega) e).elim
              subst hroot
              have HK := Lib.hid (HC.out.1.trans (hb2.mono HC.out.1.size))
              clear hb2 hrt
              go_wp2_with fail
              refine (H.out.2.2.2.1 _ HK.out).mono ?_
              rintro e w5 ⟨⟨A, B, is, rfl, g1, g2⟩, hb⟩
              have HT := Lib.hid (And.intro g1 (And.intro g2 (HK.out.trans (hb.mono HK.out.size))))
              clear g1 g2 hb
              go_wp2_with fail
              go_loopw [15, 16, 17] (fun vf vi _ w6 => ∃ (p : Nat) (fd : Bool), p ≤ m ∧ vf = .bool fd ∧ vi = .int .i64 p ∧ Below w5.heap.size w5 w6 ∧ (fd = true → TwinIn ts) ∧ (fd = false → ∀ i k, i < p → k < i → ¬ (gt ts i ≠ gt ts k ∧ sumE (gt ts i) = sumE (gt ts k)))) (fun _ vi _ _ => m - (intOf vi).toNat)
              case atStart => exact ⟨0, false, by omega, rfl, rfl, Below.refl _ _, (fun h => by cases h), fun _ i k hi => by omega⟩
              case round =>
                obtain ⟨p, fd, hp, rfl, rfl, hb3, hfd, hfd2⟩ := hrel
                by_cases hlt3 : p < m
                · have HP := Lib.hid (And.intro hb3 (And.intro hfd hfd2))
                  clear hb3 hfd hfd2
                  go_wp2_with fail
                  go_loopw [15, 17] (fun vf vj w8 => ∃ (q : Nat) (f2 : Bool), q ≤ p ∧ vf = .bool f2 ∧ vj = .int .i64 q ∧ Below w5.heap.size w5 w8 ∧ (f2 = true → TwinIn ts) ∧ (f2 = false → (∀ i k, i < p → k < i → ¬ (gt ts i ≠ gt ts k ∧ sumE (gt ts i) = sumE (gt ts k))) ∧ ∀ k, k < q → ¬ (gt ts p ≠ gt ts k ∧ sumE (gt ts p) = sumE (gt ts k)))) (fun _ vj _ => p - (intOf vj).toNat)
                  case atStart => exact ⟨0, fd, by omega, rfl, rfl, HP.out.1, HP.out.2.1, fun h => ⟨HP.out.2.2 h, fun k hk => by omega⟩⟩
                  case round =>
                    obtain ⟨q, f2, hq, rfl, rfl, hb4, hf2, hf3⟩ := hrel
                    by_cases hlt4 : q < p
                    · have hbw := HT.out.2.2.trans (hb4.mono HT.out.2.2.size)
                      obtain ⟨b, off, hab, hbl, hc⟩ := (HS.out.2.1.below hbw) p (by have h1 := HX.out.2.2.2.2.2.2.1; omega)
                      cases hab
                      obtain ⟨b', off', hab, hbl', hc'⟩ := (HS.out.2.1.below hbw) q (by have h1 := HX.out.2.2.2.2.2.2.1; omega)
                      cases hab
                      have HZ := Lib.hid hbw
                      clear hbw
                      obtain ⟨y, hy⟩ : ∃ y, y = gt ts p := ⟨_, rfl⟩
                      obtain ⟨z, hz⟩ : ∃ z, z = gt ts q := ⟨_, rfl⟩
                      rw [show ts.getD p ByteArray.empty = y from hy.symm] at hc
                      rw [show ts.getD q ByteArray.empty = z from hz.symm] at hc'
                      have HY := Lib.hid (And.intro hy (And.intro hz (And.intro hf2 hf3)))
                      clear hy hz hf2 hf3
                      cases f2 with
                      | true =>
                        have HW := Lib.hid (HY.out.2.2.1 rfl)
                        go_wp2_with fail
                        go_region
                        go_wp2_with fail
                        refine ⟨⟨q + 1, true, by omega, rfl, congrArg _ (by omega), hb4.drew, fun _ => HW.out, fun h => by cases h⟩, ?_⟩
                        show p - ((q : Int) + 1).toNat < p - ((q : Int)).toNat
                        omega
                      | false =>
                        have HW := Lib.hid (HY.out.2.2.2 rfl).1
                        have hyz : (y.toList == z.toList) = decide (y = z) := twin_beq y z
                        by_cases e : y = z
                        · rw [decide_eq_true e] at hyz
                          have HN := Lib.hid (show ∀ k, k < q + 1 → ¬ (gt ts p ≠ gt ts k ∧ sumE (gt ts p) = sumE (gt ts k)) from fun k hk => by
                            by_cases e2 : k = q
                            · rw [e2, ← HY.out.1, ← HY.out.2.1]; exact fun h => h.1 e
                            · exact (HY.out.2.2.2 rfl).2 k (by omega))
                          clear e
                          go_wp2_with fail
                          go_region
                          go_wp2_with fail
                          refine ⟨⟨q + 1, false, by omega, rfl, congrArg _ (by omega), hb4.drew, (fun h => by cases h), fun _ => ⟨HW.out, HN.out⟩⟩, ?_⟩
                          show p - ((q : Int) + 1).toNat < p - ((q : Int)).toNat
                          omega
                        · have hyp := HS.out.2.2.2 p (by have h1 := HX.out.2.2.2.2.2.2.1; omega)
                          have hzq := HS.out.2.2.2 q (by have h1 := HX.out.2.2.2.2.2.2.1; omega)
                          rw [← HY.out.1] at hyp
                          rw [← HY.out.2.1] at hzq
                          have ry := fun W => rsumref_any y (by omega) W
                          have rz := fun W => rsumref_any z (by omega) W
                          obtain ⟨d1, hd1⟩ : ∃ d, d = sumE y := ⟨_, rfl⟩
                          obtain ⟨d2, hd2⟩ : ∃ d, d = sumE z := ⟨_, rfl⟩
                          rw [show str (sha y.data.toList) = d1 from hd1.symm] at ry
                          rw [show str (sha z.data.toList) = d2 from hd2.symm] at rz
                          have hqm : q < m := by omega
                          have hdd : (d1.toList == d2.toList) = decide (d1 = d2) := twin_beq d1 d2
                          obtain ⟨B, hB⟩ : ∃ B, B = decide (d1 = d2) := ⟨_, rfl⟩
                          rw [← hB] at hdd
                          rw [decide_eq_false e] at hyz
                          have hpm := HX.out.2.2.2.2.2.2.1
                          have HN := Lib.hid (show (B = true → TwinIn ts) ∧ (B = false → ∀ k, k < q + 1 → ¬ (gt ts p ≠ gt ts k ∧ sumE (gt ts p) = sumE (gt ts k))) from by
                            refine ⟨fun h => ?_, fun h k hk => ?_⟩
                            · rw [hB] at h
                              have h2 := of_decide_eq_true h
                              refine ⟨y, z, ?_, ?_, e, by rw [← hd1, ← hd2]; exact h2⟩
                              · rw [HY.out.1]; exact gt_mem (by omega)
                              · rw [HY.out.2.1]; exact gt_mem (by omega)
                            · by_cases e2 : k = q
                              · rw [hB] at h
                                have h2 := of_decide_eq_false h
                                rw [e2, ← HY.out.1, ← HY.out.2.1, ← hd1, ← hd2]; exact fun h3 => h2 h3.2
                              · exact (HY.out.2.2.2 rfl).2 k (by omega))
                          have RR := Lib.hid (And.intro ry rz)
                          clear ry rz hd1 hd2 hB e hpm hyp hzq
                          go_wp2_with fail
                          refine wp_region_held (S := fun W : World => (W.cell? ⟨b, off + p, none⟩ = some (.string y) ∧ W.cell? ⟨b, off + q, none⟩ = some (.string z)) ∧ b < W.heap.size) (by kernel_rfl) ?_
                          change wpAnyH _ _ _ _ _ _ _ _ (World.drew _)
                          generalize hv0 : World.drew _ = v0
                          have E0 : (v0.cell? ⟨b, off + p, none⟩ = some (.string y) ∧ v0.cell? ⟨b, off + q, none⟩ = some (.string z)) ∧ b < v0.heap.size := by rw [← hv0]; exact ⟨⟨hc, hc'⟩, hbl⟩
                          have F0 : Below w5.heap.size w5 v0 := by rw [← hv0]; exact hb4.drew
                          clear hv0 hc hc' hbl hbl' hb4
                          refine wpAnyH_take (i := 0) (v := ?_) rfl (by kernel_rfl) (by kernel_rfl) (by kernel_rfl) (fun _ _ _ h => h) (Or.inl ⟨by kernel_rfl, ?_⟩) E0 ?_
                          rotate_left
                          · (intro W hS; obtain ⟨⟨q0, q1⟩, q2⟩ := hS; go_simp; try (with_reducible rfl))
                          refine wpAnyH_take (i := 1) (v := ?_) rfl (by kernel_rfl) (by kernel_rfl) (by kernel_rfl) (fun _ _ _ h => h) (Or.inl ⟨by kernel_rfl, ?_⟩) E0 ?_
                          rotate_left
                          · (intro W hS; obtain ⟨⟨q0, q1⟩, q2⟩ := hS; go_simp; try (with_reducible rfl))
                          refine wpAnyH_take (i := 2) (v := ?_) rfl (by kernel_rfl) (by kernel_rfl) (by kernel_rfl) (fun _ _ _ h => h) (Or.inl ⟨by kernel_rfl, ?_⟩) E0 ?_
                          rotate_left
                          · (intro W hS; obtain ⟨⟨q0, q1⟩, q2⟩ := hS; go_simp; try (with_reducible rfl))
                          refine wpAnyH_take (i := 3) (v := ?_) rfl (by kernel_rfl) (by kernel_rfl) (by kernel_rfl) (fun _ _ _ h => h) (Or.inl ⟨by kernel_rfl, ?_⟩) E0 ?_
                          rotate_left
                          · (intro W hS; obtain ⟨⟨q0, q1⟩, q2⟩ := hS; go_simp; try (with_reducible rfl))
                          refine wpAnyH_take (i := 4) (v := ?_) rfl (by kernel_rfl) (by kernel_rfl) (by kernel_rfl) (fun _ _ _ h => h) (Or.inl ⟨by kernel_rfl, ?_⟩) E0 ?_
                          rotate_left
                          · (intro W hS; obtain ⟨⟨q0, q1⟩, q2⟩ := hS; go_simp; try (with_reducible rfl))
                          refine wpAnyH_take (i := 5) (v := ?_) rfl (by kernel_rfl) (by kernel_rfl) (by kernel_rfl) (fun _ _ _ h => h) (Or.inl ⟨by kernel_rfl, ?_⟩) E0 ?_
                          rotate_left
                          · (intro W hS; obtain ⟨⟨q0, q1⟩, q2⟩ := hS; go_simp; try (with_reducible rfl))
                          refine wpAnyH_take (i := 6) (v := ?_) rfl (by kernel_rfl) (by kernel_rfl) (by kernel_rfl) (fun _ _ _ h => h) (Or.inl ⟨by kernel_rfl, ?_⟩) E0 ?_
                          rotate_left
                          · (intro W hS; obtain ⟨⟨q0, q1⟩, q2⟩ := hS; go_simp; try (with_reducible rfl))
                          refine wpAnyH_take (i := 7) (v := ?_) rfl (by kernel_rfl) (by kernel_rfl) (by kernel_rfl) (fun _ _ _ h => h) (Or.inl ⟨by kernel_rfl, ?_⟩) E0 ?_
                          rotate_left
                          · (intro W hS; obtain ⟨⟨q0, q1⟩, q2⟩ := hS; go_simp; try (with_reducible rfl))
                          refine wpAnyH_take (i := 8) (v := ?_) rfl (by kernel_rfl) (by kernel_rfl) (by kernel_rfl) (fun _ _ _ h => h) (Or.inl ⟨by kernel_rfl, ?_⟩) E0 ?_
                          rotate_left
                          · (intro W hS; obtain ⟨⟨q0, q1⟩, q2⟩ := hS; go_simp; try (with_reducible rfl))
                          refine wpAnyH_take (i := 9) (v := ?_) rfl (by kernel_rfl) (by kernel_rfl) (by kernel_rfl) (fun _ _ _ h => h) (Or.inl ⟨by kernel_rfl, ?_⟩) E0 ?_
                          rotate_left
                          · (intro W hS; obtain ⟨⟨q0, q1⟩, q2⟩ := hS; go_simp; try (with_reducible rfl))
                          refine wpAnyH_take (i := 10) (v := ?_) rfl (by kernel_rfl) (by kernel_rfl) (by kernel_rfl) (fun _ _ _ h => h) (Or.inl ⟨by kernel_rfl, ?_⟩) E0 ?_
                          rotate_left
                          · (intro W hS; obtain ⟨⟨q0, q1⟩, q2⟩ := hS; go_simp; try (with_reducible rfl))
                          refine wpAnyH_take (i := 11) (v := ?_) rfl (by kernel_rfl) (by kernel_rfl) (by kernel_rfl) (fun _ _ _ h => h) (Or.inl ⟨by kernel_rfl, ?_⟩) E0 ?_
                          rotate_left
                          · (intro W hS; obtain ⟨⟨q0, q1⟩, q2⟩ := hS; go_simp; try (with_reducible rfl))
                          refine wpAnyH_take (i := 12) (v := ?_) rfl (by kernel_rfl) (by kernel_rfl) (by kernel_rfl) (fun _ _ _ h => h) (Or.inl ⟨by kernel_rfl, ?_⟩) E0 ?_
                          rotate_left
                          · (intro W hS; obtain ⟨⟨q0, q1⟩, q2⟩ := hS; go_simp; try (with_reducible rfl))
                          refine wpAnyH_take (i := 13) (v := ?_) rfl (by kernel_rfl) (by kernel_rfl) (by kernel_rfl) (fun _ _ _ h => h) (Or.inl ⟨by kernel_rfl, ?_⟩) E0 ?_
                          rotate_left
                          · (intro W hS; obtain ⟨⟨q0, q1⟩, q2⟩ := hS; go_simp; try (with_reducible rfl))
                          refine wpAnyH_take (i := 14) (v := ?_) rfl (by kernel_rfl) (by kernel_rfl) (by kernel_rfl) (fun _ _ _ h => h) (Or.inl ⟨by kernel_rfl, ?_⟩) E0 ?_
                          rotate_left
                          · (intro W hS; obtain ⟨⟨q0, q1⟩, q2⟩ := hS; go_simp; try (with_reducible rfl))
                          refine wpAnyH_take (i := 15) (v := ?_) rfl (by kernel_rfl) (by kernel_rfl) (by kernel_rfl) (fun _ _ _ h => h) (Or.inl ⟨by kernel_rfl, ?_⟩) E0 ?_
                          rotate_left
                          · (intro W hS; obtain ⟨⟨q0, q1⟩, q2⟩ := hS; go_simp; try (with_reducible rfl))
                          refine wpAnyH_take (i := 17) (v := ?_) rfl (by kernel_rfl) (by kernel_rfl) (by kernel_rfl) (fun _ _ _ h => h) (Or.inl ⟨by kernel_rfl, ?_⟩) E0 ?_
                          rotate_left
                          · (intro W hS; obtain ⟨⟨q0, q1⟩, q2⟩ := hS; go_simp; try (with_reducible rfl))
                          refine wpAnyH_take (i := 18) (v := ?_) rfl (by kernel_rfl) (by kernel_rfl) (by kernel_rfl) (fun _ _ _ h => h) (Or.inl ⟨by kernel_rfl, ?_⟩) E0 ?_
                          rotate_left
                          · (intro W hS; obtain ⟨⟨q0, q1⟩, q2⟩ := hS; go_simp; try (with_reducible rfl))
                          refine wpAnyH_take (i := 19) (v := ?_) rfl (by kernel_rfl) (by kernel_rfl) (by kernel_rfl) (fun _ _ _ h => h) (Or.inl ⟨by kernel_rfl, ?_⟩) E0 ?_
                          rotate_left
                          · (intro W hS; obtain ⟨⟨q0, q1⟩, q2⟩ := hS; go_simp; try (with_reducible rfl))
                          refine wpAnyH_take (i := 20) (v := ?_) rfl (by kernel_rfl) (by kernel_rfl) (by kernel_rfl) (fun _ _ _ h => h) (Or.inl ⟨by kernel_rfl, ?_⟩) E0 ?_
                          rotate_left
                          · (intro W hS; obtain ⟨⟨q0, q1⟩, q2⟩ := hS; go_simp; try (with_reducible rfl))
                          refine wpAnyH_ready (rs := [16]) (by kernel_rfl) (by simp) ?_
                          refine AllReadyH.cons rfl (fun K hK => ?_) AllReadyH.nil
                          go_simp
                          refine (RR.out.1 v0).mono ?_
                          rintro e v1 ⟨rfl, hv⟩
                          have F1 := F0.trans (hv.mono F0.size)
                          have E1 : (v1.cell? ⟨b, off + p, none⟩ = some (.string y) ∧ v1.cell? ⟨b, off + q, none⟩ = some (.string z)) ∧ b < v1.heap.size := ⟨⟨(hv.cell E0.2).trans E0.1.1, (hv.cell E0.2).trans E0.1.2⟩, Nat.lt_of_lt_of_le E0.2 hv.size⟩
                          refine hK.out _ _ E1 (fun _ => ?_)
                          clear hK K hv
                          refine wpAnyH_ready (rs := [21]) (by kernel_rfl) (by simp) ?_
                          refine AllReadyH.cons rfl (fun K hK => ?_) AllReadyH.nil
                          go_simp
                          refine (RR.out.2 v1).mono ?_
                          rintro e v2 ⟨rfl, hv⟩
                          have F2 := F1.trans (hv.mono F1.size)
                          have E2 : (v2.cell? ⟨b, off + p, none⟩ = some (.string y) ∧ v2.cell? ⟨b, off + q, none⟩ = some (.string z)) ∧ b < v2.heap.size := ⟨⟨(hv.cell E1.2).trans E1.1.1, (hv.cell E1.2).trans E1.1.2⟩, Nat.lt_of_lt_of_le E1.2 hv.size⟩
                          refine hK.out _ _ E2 (fun _ => ?_)
                          clear hK K hv
                          refine wpAnyH_take (i := 22) (v := ?_) rfl (by kernel_rfl) (by kernel_rfl) (by kernel_rfl) (fun _ _ _ h => h) (Or.inl ⟨by kernel_rfl, ?_⟩) E2 ?_
                          rotate_left
                          · (intro W hS; obtain ⟨⟨q0, q1⟩, q2⟩ := hS; go_simp; try (with_reducible rfl))
                          refine wpAnyH_take (i := 23) (v := ?_) rfl (by kernel_rfl) (by kernel_rfl) (by kernel_rfl) (fun _ _ _ h => h) (Or.inl ⟨by kernel_rfl, ?_⟩) E2 ?_
                          rotate_left
                          · (intro W hS; obtain ⟨⟨q0, q1⟩, q2⟩ := hS; go_simp; try (with_reducible rfl))
                          refine wpAnyH_take (i := 24) (v := ?_) rfl (by kernel_rfl) (by kernel_rfl) (by kernel_rfl) (fun _ _ _ h => h) (Or.inl ⟨by kernel_rfl, ?_⟩) E2 ?_
                          rotate_left
                          · (intro W hS; obtain ⟨⟨q0, q1⟩, q2⟩ := hS; go_simp; try (with_reducible rfl))
                          refine wpAnyH_take (i := 25) (v := ?_) rfl (by kernel_rfl) (by kernel_rfl) (by kernel_rfl) (fun _ _ _ h => h) (Or.inl ⟨by kernel_rfl, ?_⟩) E2 ?_
                          rotate_left
                          · (intro W hS; obtain ⟨⟨q0, q1⟩, q2⟩ := hS; go_simp; try (with_reducible rfl))
                          refine wpAnyH_done (by kernel_rfl) ?_ _
                          go_simp
                          have HF := Lib.hid F2
                          clear E0 E1 E2 F0 F1 F2
                          go_wp2_with fail
                          refine ⟨⟨q + 1, B, by omega, rfl, congrArg _ (by omega), HF.out, HN.out.1, fun h => ⟨HW.out, HN.out.2 h⟩⟩, ?_⟩
                          show p - ((q : Int) + 1).toNat < p - ((q : Int)).toNat
                          omega
                    · have HQ := Lib.hid (And.intro hb4 (And.intro hf2 hf3))
                      clear hb4 hf2 hf3
                      go_wp2_with fail
                      refine ⟨⟨p + 1, f2, by omega, rfl, congrArg _ (by omega), HQ.out.1, HQ.out.2.1, fun h i k hi hk => ?_⟩, ?_⟩
                      · by_cases e : i = p
                        · rw [e]; exact (HQ.out.2.2 h).2 k (by omega)
                        · exact (HQ.out.2.2 h).1 i k (by omega) hk
                      · show m - ((p : Int) + 1).toNat < m - ((p : Int)).toNat
                        omega
                · have hfi : fd = is := by
                    have hpm : p = m := by omega
                    cases is with
                    | true =>
                      cases fd with
                      | true => rfl
                      | false =>
                        obtain ⟨ha, hb', hne, he⟩ := HT.out.1 rfl
                        exact (no_pair HX.out.2.2.2.2.2.2.1 (fun i k hi hk => hfd2 rfl i k (by omega) hk) ⟨A, B, ha, hb', hne, he⟩).elim
                    | false =>
                      cases fd with
                      | false => rfl
                      | true => exact ((HT.out.2.1 rfl).2.2 (hfd rfl)).elim
                  subst hfi
                  have HM := Lib.hid (HT.out.2.2.trans (hb3.mono HT.out.2.2.size))
                  clear hb3 hfd hfd2
                  go_wp2_with fail
                  refine (awake13_any _ (HG.out.below HM.out)).mono ?_
                  rintro e w7 ⟨rfl, hb⟩
                  replace hb := HM.out.trans (hb.mono HM.out.size)
                  cases fd with
                  | false =>
                    obtain ⟨hA, hB, -⟩ := HT.out.2.1 rfl
                    subst hA
                    subst hB
                    have hem : (⟨#[]⟩ : ByteArray) ++ (⟨#[]⟩ : ByteArray) = ⟨#[]⟩ := rfl
                    have hem2 : ((⟨#[]⟩ : ByteArray).toList == (⟨#[]⟩ : ByteArray).toList) = true := by simp
                    go_wp2_with fail
                    go_ret
                    exact ⟨rfl, hb⟩
                  | true =>
                    obtain ⟨ha, hb2, hne, he⟩ := HT.out.1 rfl
                    have za := mem_size ha (fun j hj => by have := HS.out.2.2.2 j hj; omega)
                    have zb := mem_size hb2 (fun j hj => by have := HS.out.2.2.2 j hj; omega)
                    have hbe : (A.toList == B.toList) = false := by rw [twin_beq]; exact decide_eq_false hne
                    have ra := fun W => rsumref_any A (by omega) W
                    have rb := fun W => rsumref_any B (by omega) W
                    obtain ⟨d, hd⟩ : ∃ d, d = sumE A := ⟨_, rfl⟩
                    rw [show str (sha A.data.toList) = d from hd.symm] at ra
                    rw [show str (sha B.data.toList) = d from (hd.trans he).symm] at rb
                    clear ha hb2 hne he hd
                    go_wp2_with (first
                      | (refine (ra _).mono ?_; rintro e v ⟨rfl, hv⟩; replace hb := hb.trans ((hv.mono hb.size)); clear hv ra)
                      | (refine (rb _).mono ?_; rintro e v ⟨rfl, hv⟩; replace hb := hb.trans ((hv.mono hb.size)); clear hv rb)
                      | fail)
                    go_ret
                    exact ⟨rfl, hb⟩
    · rw [fewB_false hg] at cf
      obtain ⟨n, hn⟩ : ∃ n, n = ss.length := ⟨_, rfl⟩
      obtain ⟨m, hm'⟩ : ∃ m, m = ts.length := ⟨_, rfl⟩
      rw [← hn] at cd ⊢
      rw [← hm'] at cf ⊢
      have H := Lib.hid (And.intro cd cf)
      clear cd cf hf hg hT hT2 hm hm2 hn hm'
      go_enter Tryd.func9, Tryd.ntmps9
      go_wp2_with fail
      refine H.out.1.mono ?_
      rintro e w0 ⟨a, c, rfl, hO, hb0⟩
      have HA := Lib.hid hb0
      clear hO hb0
      go_wp2_with fail
      refine (H.out.2 _ HA.out).mono ?_
      rintro e w1 ⟨rfl, rfl⟩
      go_wp2_with fail
      refine (awake13_any _ (HG.out.below HA.out)).mono ?_
      rintro e w1 ⟨rfl, hb⟩
      have HB := Lib.hid (HA.out.trans (hb.mono HA.out.size))
      clear hb
      go_wp2_with fail
      go_ret
      exact ⟨rfl, HB.out⟩
  · have cn := nodigests_any ss a0 cap w hT hm hf
    obtain ⟨n, hn⟩ : ∃ n, n = ss.length := ⟨_, rfl⟩
    obtain ⟨m, hm'⟩ : ∃ m, m = ts.length := ⟨_, rfl⟩
    rw [← hn] at cn ⊢
    rw [← hm']
    have H := Lib.hid cn
    clear cn hf hT hT2 hm hm2 hn hm'
    go_enter Tryd.func9, Tryd.ntmps9
    go_wp2_with fail
    refine H.out.mono ?_
    rintro e w0 ⟨rfl, rfl⟩
    go_wp2_with fail
    refine (awake13_any _ HG.out).mono ?_
    rintro e w1 ⟨rfl, hb⟩
    have HB := Lib.hid hb
    clear hb
    go_wp2_with fail
    go_ret
    exact ⟨rfl, HB.out⟩
end Go.Proofs.YtdjhlgodecnidaaDoor

namespace Go.Proofs.YtdjhlgodecnidaaDoor.treeTextsLaw
open Go.ChangeShapes Go.WideShapes Go.ChangeAt Go.RowKit
open Go.ChangeMaps (open_string shut_string)

set_option maxRecDepth 100000 in
theorem contract (H : Type) (enc : TypeId × Value → H) (W : World) (base : Nat) (args : Array Value) (ds gs : List (DataW H)) (before : List MemPlace)
    (hval : ∀ (j : Nat) t v, Tryd.f9.params[j]? = some t → args[j]? = some v → Value.okWide Tryd.prog W .any base t v)
    (hW : DataW.Whole enc Tryd.prog Tryd.f9.params.toList Rows.treeTextsSpec.vars false W args.toList ds gs before) (hL : laidMetH Tryd.prog Rows.treeTextsRow.laid W) :
    Calls Tryd.prog 9 args W fun e W' => ∃ v, e = .returned v ∧ Rows.treeTextsSpec.post enc Tryd.prog Tryd.f9 false true false false W args v W' := by
  have hW' := hW
  obtain ⟨p, q, hA0, hV, rfl, hfz, hnd⟩ := hW
  have hA : DataW.TrodAll enc Tryd.prog W 0 (fun _ => true) true Tryd.f9.params.toList args.toList ds p := hA0
  rw [Tryd.params9] at hA hval
  obtain ⟨v0, vs0, d0, ds0, p0, q0, hargs, rfl, rfl, h0, r0⟩ := trodAll_cons hA
  obtain ⟨v1, vs1, d1, ds1, p1, q1, rfl, rfl, rfl, h1, r1⟩ := trodAll_cons r0
  obtain ⟨rfl, rfl, rfl⟩ := trodAll_nil r1
  obtain rfl : args = #[v0, v1] := by cases args; simp_all
  obtain ⟨rfl, rfl⟩ := trodVars_none hV
  obtain ⟨a0, len0, cap0, rfl⟩ := okWide_slice Tryd.underlying22 (hval 0 22 v0 rfl rfl)
  have hk0 := h0
  obtain ⟨fuel0, hf0⟩ := h0
  obtain ⟨a1, len1, cap1, rfl⟩ := okWide_slice Tryd.underlying22 (hval 1 22 v1 rfl rfl)
  have hk1 := h1
  obtain ⟨fuel1, hf1⟩ := h1
  clear hA0
  simp only [List.append_nil] at hW'
  have hlt0 : ∀ x ∈ p0, x.block < W.heap.size := fun x hx => by simpa using hW'.lt x (by simp [hx])
  obtain ⟨ss0, hlen0, hmax0, hT0⟩ := texts_of hf0 hlt0
  subst hlen0
  have hlt1 : ∀ x ∈ p1, x.block < W.heap.size := fun x hx => by simpa using hW'.lt x (by simp [hx])
  obtain ⟨ss1, hlen1, hmax1, hT1⟩ := texts_of hf1 hlt1
  subst hlen1
  refine (texts_law ss0 a0 cap0 hT0 hmax0 ss1 a1 cap1 hT1 hmax1 (w := W) (hG := glob_of_laid hL)).mono fun e W' ⟨he, hb⟩ => ?_
  subst he
  exact ⟨_, rfl, _, _, _, [], _, [], hW', trodAll_cons_mk (shut_bool Tryd.underlying4 _) trodAll_mk0, (trodAll_cons_mk (Below.trod laidOut (by kernel_rfl) (of_decide_eq_true (by kernel_rfl)) hk0 hb hlt0) (trodAll_cons_mk (Below.trod laidOut (by kernel_rfl) (of_decide_eq_true (by kernel_rfl)) hk1 hb hlt1) trodAll_mk0)), rfl, hb.frame _, fun h => by cases h⟩
theorem laid_met (os : Os) : laidMet Tryd.prog Rows.treeTextsRow.laid ((laidWorld os).forCall (fun _ _ => 0) ⟨#[], #[.slice none 0 0, .slice none 0 0], []⟩).memory :=
  laidMet_of_run' 8 (by kernel_rfl) (by kernel_rfl)
theorem reads (os : Os) {H : Type} (enc : TypeId × Value → H) : ∃ places, DataW.whole enc Tryd.prog ((laidWorld os).forCall (fun _ _ => 0) ⟨#[], #[.slice none 0 0, .slice none 0 0], []⟩).memory Tryd.f9.params.toList Rows.treeTextsSpec.vars false #[Value.slice none 0 0, .slice none 0 0].toList 8 = some ([.nil, .nil], [], places) :=
  ⟨[], by kernel_rfl⟩
set_option maxRecDepth 100000 in
theorem lifted (os : Os) (started : os.Started) (H : Type) (enc : TypeId × Value → H) (F : Stop.Interp) :
    ReturnsInHanded {} Tryd.checked os 9 .any ((OpenSpec.ofChange Rows.treeTextsSpec).preRow enc Tryd.prog Tryd.f9 Rows.treeTextsRow.domain false Rows.treeTextsRow.laid) (((OpenSpec.ofChange Rows.treeTextsSpec).at F).post enc Tryd.prog Tryd.f9 false true false false) := by
  obtain ⟨places, hx⟩ := reads os enc
  refine returnsInHanded_of_row (C := Tryd.checked) (s := OpenSpec.ofChange Rows.treeTextsSpec) own started (by kernel_rfl) Tryd.func9
    (witness_row_at (enc := enc) (C := Tryd.checked) false (laidWorld os) #[.slice none 0 0, .slice none 0 0] rfl (by kernel_rfl) (by kernel_rfl) (by kernel_rfl)
      (OpenSpec.preRow_of_cond 8 hx (by kernel_rfl) (fun k hk => by cases hk) (by kernel_rfl) (laid_met os))) ?_
  intro W base args ds gs before hval hW _ _ _ hL _ _
  exact contract H enc W base args ds gs before hval hW hL
theorem said : Rows.TreeTextsSaid :=
  OpenClaim.holds_of_cond 9 Tryd.f9 rfl rfl rfl rfl rfl rfl rfl ⟨rfl, rfl, rfl, rfl, rfl⟩ rfl rfl rfl rfl rfl (by kernel_rfl) Tryd.func9 (by kernel_rfl)
    (of_decide_eq_true (by kernel_rfl)) (by unfold Func.isWrapper; first | (rw [if_pos (by decide +kernel)]; kernel_rfl) | (rw [if_neg (by decide +kernel)]; exact ⟨rfl, rfl⟩))
    (fun os started H enc _ F => by rw [OpenClaim.pre_eq_preRow]; exact lifted os started H enc F)
theorem plain (f : FuncId) (fn : Func) (hf : Tryd.pinned.checked.prog.funcNamed "lockbox/lockboxlaw13.TreeTexts" = some f) (hfn : Tryd.pinned.checked.prog.funcs[f]? = some fn) :
    false = Tryd.pinned.checked.prog.looks [] ∧ ∀ (j : Nat) t, fn.params[j]? = some t → Tryd.pinned.checked.prog.wantsStandIn t = false := by
  obtain rfl : f = 9 := Option.some.inj ((show Tryd.prog.funcNamed "lockbox/lockboxlaw13.TreeTexts" = some 9 by kernel_rfl).symm.trans hf) |>.symm
  obtain rfl : fn = Tryd.f9 := (Option.some.inj (Tryd.func9.symm.trans hfn)).symm
  refine ⟨by kernel_rfl, fun j t ht => ?_⟩
  rw [Tryd.params9] at ht
  have hm : t ∈ [22, 22] := by simpa using Array.mem_of_getElem? ht
  have hall : ([22, 22].all fun u => !Tryd.prog.wantsStandIn u) = true := by kernel_rfl
  exact (show Tryd.prog.wantsStandIn t = false by simpa using List.all_eq_true.1 hall t hm)
end Go.Proofs.YtdjhlgodecnidaaDoor.treeTextsLaw

namespace Go.Proofs.YtdjhlgodecnidaaDoor
/-- THE CARD. -/
theorem treeTexts_card : Rows.TreeTextsCardSaid :=
  Claim7.holds_tied_plain_at .later [] _ _ _ _ treeTextsLaw.said (fun _ h => by cases h) (by kernel_rfl) (fun _ h => by cases h) treeTexts_row_tie rfl ⟨rfl, rfl⟩ (by kernel_rfl) rfl treeTextsLaw.plain (by kernel_rfl)
end Go.Proofs.YtdjhlgodecnidaaDoor
