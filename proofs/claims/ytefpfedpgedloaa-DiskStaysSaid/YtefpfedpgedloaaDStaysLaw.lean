/- PROVED HERE: for every list of acts the law DiskStays returns true (what was synced stays, whatever power fails behind it, unless it was trimmed or emptied since), and the acts read afterwards as they did. No condition. -/
import Derived.Test.YtefpfedpgedloaaDPlayM
import Derived.Test.YtefpfedpgedloaaDAwake
import Derived.Test.YtefpfedpgedloaaRows
import Derived.ProofKit
import Derived.OpenShut
import Derived.BigQuiet
import Derived.Deep.RegionWith
import Derived.Deep.DeepCutAuto
namespace Go.Proofs.Ytefpfedpgedloaa
open Go.RowKit
open Dk

/-- The state behind a round. -/
def StayE (w : World) (b k : Nat) (sv : Value) (wr : World) : Prop := ∃ S a cp ρ D, sv = .slice a 3 cp ∧ StayS w b S a cp k ρ D wr
set_option maxRecDepth 100000 in
set_option maxHeartbeats 4000000 in
theorem stays_law {w : World} (l : List Deed) (a0 : Option Addr) (cap : Nat) (hT : ActsAt w a0 l) (hmax : l.length ≤ maxLen) :
    Calls Try.prog 4 #[.slice a0 l.length cap] w fun e w' => e = .returned (.bool true) ∧ Below w.heap.size w w' := by
  have hnew := new_any 3 500 (by decide) (by decide) (by decide) (by decide) w
  have hfew := fun (W : World) (hb : Below w.heap.size w W) => few_any (hT.below hb) hmax cap
  unfold maxLen at hmax
  obtain ⟨L, hL⟩ : ∃ L, L = l.length := ⟨_, rfl⟩
  rw [← hL] at hmax ⊢
  simp only [← hL] at hfew
  have HT := Lib.hid (And.intro hT (And.intro hL hfew))
  clear hT hL hfew
  go_enter Try.func4, Try.ntmps4
  go_wp2_with fail
  refine hnew.mono ?_
  rintro e w1 ⟨b, ρ, rfl, hd, hf, hb⟩
  have H1 := Lib.hid (And.intro hd (And.intro hf hb))
  clear hd hf hb hnew
  go_wp2_with fail
  refine (HT.out.2.2 _ H1.out.2.2).mono ?_
  rintro e w2 ⟨t, rfl, ht, hb2⟩
  have H2 := Lib.hid hb2
  clear hb2
  cases t with
  | false =>
    go_wp2_with fail
    refine (awake_any _).mono ?_
    rintro e w3 ⟨rfl, hb3⟩
    have H3 := Lib.hid hb3
    clear hb3
    go_wp2_with fail
    go_ret
    exact ⟨rfl, H1.out.2.2.trans ((H2.out.trans (H3.out.mono H2.out.size)).mono H1.out.2.2.size)⟩
  | true =>
    have hl := ht rfl
    clear ht
    go_wp2_with fail
    refine (awake_any _).mono ?_
    rintro e w3 ⟨rfl, hb3⟩
    have hb3' := H2.out.trans (hb3.mono H2.out.size)
    have hz3 := hb3'.size
    have hz1 := H1.out.2.2.size
    have hbn : Below w1.heap.size w1 (w3.alloc (.cells #[.string ⟨#[]⟩, .string ⟨#[]⟩, .string ⟨#[]⟩] 9)) := hb3'.alloc hz3 _
    have hown := World.ownsRow_lit (base := 0) (e := 9) (size := 1) w3 #[.string ⟨#[]⟩, .string ⟨#[]⟩, .string ⟨#[]⟩] 3 (Nat.zero_le _) (by unfold maxLen; omega) rfl
    have hog : ∀ g, (Value.slice (some ⟨w3.heap.size, 0, none⟩) 3 3).ownBlock = some g → w1.heap.size ≤ g := fun g hg => by
      have hg' : w3.heap.size = g := by simpa [Value.ownBlock] using hg
      omega
    have hnil : ∀ k : Nat, exAt [⟨#[]⟩, ⟨#[]⟩, ⟨#[]⟩] k = ⟨#[]⟩ := fun k => by
      match k with
      | 0 => rfl
      | 1 => rfl
      | 2 => rfl
      | k + 3 => rfl
    have hS0 : StayS w b [⟨#[]⟩, ⟨#[]⟩, ⟨#[]⟩] (some ⟨w3.heap.size, 0, none⟩) 3 0 ρ (Disk.new 3 500) (w3.alloc (.cells #[.string ⟨#[]⟩, .string ⟨#[]⟩, .string ⟨#[]⟩] 9)) :=
      ⟨H1.out.1.below hbn, H1.out.2.1, H1.out.2.2.trans (hbn.mono hz1), Near.new (by decide) (by decide) (by decide), rfl, rfl, ⟨hown, fun g hg => Nat.le_trans hz1 (hog g hg)⟩, fun g hg => H1.out.1.raw.lab g (hog g hg), fun k => .inl (hnil k)⟩
    clear hog hnil
    have HS0 := Lib.hid hS0
    clear hS0 hown hbn hz1 hz3 hb3' hb3 H1 H2
    go_wp2_with fail
    go_loopw [4, 5, 6, 7, 8] (fun sv i _ _ _ wr => ∃ k : Nat, k ≤ L ∧ i = .int .i64 k ∧ StayE w b k sv wr) (fun _ i _ _ _ _ => L - (intOf i).toNat)
    case atStart => exact ⟨0, by omega, rfl, _, _, _, _, _, rfl, HS0.out⟩
    case round =>
      clear HS0
      obtain ⟨k, hk, rfl, S, a, cp, ρ1, D, rfl, hS⟩ := hrel
      by_cases hlt : k < L
      · obtain ⟨x, hx⟩ : ∃ x, l[k]? = some x := ⟨_, List.getElem?_eq_getElem (by have := HT.out.2.1; omega)⟩
        obtain ⟨g, off, rfl, hg, c0, c1, c2, c3, c4, c5, c6⟩ := (HT.out.1.below hS.old).cellsAt hx
        have hxo := (HT.out.1 k x hx).1
        have HS := Lib.hid (And.intro hS hxo)
        clear hS hxo
        go_upto_region 9 with fail
        have hbb : Below wr.heap.size wr (wr.alloc (.cells x.cells 39)) := (Below.refl _ _).alloc (Nat.le_refl _) _
        have hbox : (wr.alloc (.cells x.cells 39)).heap[wr.heap.size]? = some (.cells x.cells 39 (0, 0)) := heap_alloc_new _ _
        have hSb := HS.out.1.below hbb
        have hz9 : wr.heap.size < (wr.alloc (.cells x.cells 39)).heap.size := by simp
        have hrb : ρ1 wr.heap.size = 0 := HS.out.1.disk.raw.lab _ (Nat.le_refl _)
        obtain ⟨wb, hwb⟩ : ∃ wb, wb = wr.alloc (.cells x.cells 39) := ⟨_, rfl⟩
        rw [← hwb] at hbox hSb hz9
        have hwb' := hwb
        unfold Deed.cells at hwb'
        rw [← hwb']
        clear hwb hwb' hbb c0 c1 c2 c3 c4 c5 c6
        have hcell : ∀ (W : World), W.heap[wr.heap.size]? = some (.cells x.cells 39 (0, 0)) → W.cell? ⟨wr.heap.size, 0, none⟩ = some (.int .i64 x.kind) ∧ W.cell? ⟨wr.heap.size, 1, none⟩ = some (.int .i64 x.x) ∧ W.cell? ⟨wr.heap.size, 2, none⟩ = some (.int .i64 x.n) ∧ W.cell? ⟨wr.heap.size, 3, none⟩ = some (.string x.s) ∧
            W.cell? ⟨wr.heap.size, 4, none⟩ = some (.int .i64 x.after) ∧ W.cell? ⟨wr.heap.size, 5, none⟩ = some (.int .i64 x.keep) ∧ W.cell? ⟨wr.heap.size, 6, none⟩ = some (.int .i64 x.torn) := fun W h => by
          refine ⟨?_, ?_, ?_, ?_, ?_, ?_, ?_⟩ <;> (rw [cell_of_row _ _ _ _ _ _ h]; rfl)
        have hnewr := fun (W : World) (hW : Below wb.heap.size wb W) => rnew_any (w := W) (fun g => ρ1 g = 0 ∧ True) (fun g hg => ⟨hSb.disk.raw.lab g (by have := hW.size; omega), trivial⟩) 3 (by decide) 500
        have hdo := fun (W : World) (cells : Array Value) (hW : Below wb.heap.size wb W) (hR : RefIn W (fun g => ρ1 g = 0 ∧ True) cells (Disk.new 3 500)) => ldo_any (V := fun _ => True) x (hSb.disk.below hW) hR (fun _ _ => trivial) (Disk.Ok.new (by decide) (by decide) (by decide)) (hSb.near.small (by omega)) ((Near.new (by decide) (by decide) (by decide)).small (by omega)) (by simp [Disk.new])
        unfold Deed.cells at hdo
        have HQ := Lib.hid (And.intro hSb (And.intro hbox (And.intro hnewr (And.intro hdo (And.intro hz9 hrb)))))
        clear hSb hbox hnewr hdo hz9 hrb
        go_cut [] (fun wc => wc.heap[wr.heap.size]? = some (.cells x.cells 39 (0, 0)) ∧ ∃ ρ2, StayT w b S a cp (k + 1) ρ2 (deed D x).1 wc)
        case first =>
          have hwd : Below wb.heap.size wb wb.drew := (Below.refl _ _).drew
          have C : wb.drew.heap[wr.heap.size]? = some (.cells x.cells 39 (0, 0)) := HQ.out.2.1
          refine wp_region_held (S := fun W => W.heap[wr.heap.size]? = some (.cells x.cells 39 (0, 0))) (by kernel_rfl) ?_
          change wpAnyH _ _ _ _ _ _ _ _ (World.drew _)
          generalize World.drew _ = wh at *
          refine wpAnyH_take (i := 0) (v := ?_) rfl (by kernel_rfl) (by kernel_rfl) (by kernel_rfl) (fun _ _ _ h => h) (Or.inl ⟨by kernel_rfl, ?_⟩) C ?_
          rotate_left
          · (intro W hS; clear hS; go_simp; try (with_reducible rfl))
          refine wpAnyH_take (i := 2) (v := ?_) rfl (by kernel_rfl) (by kernel_rfl) (by kernel_rfl) (fun _ _ _ h => h) (Or.inl ⟨by kernel_rfl, ?_⟩) C ?_
          rotate_left
          · (intro W hS; obtain ⟨z0, z1, z2, z3, z4, z5, z6⟩ := hcell W hS; clear hS; go_simp; try (with_reducible rfl))
          refine wpAnyH_ready (rs := [1]) (by kernel_rfl) (by simp) ?_
          refine AllReadyH.cons rfl (fun K hK => ?_) AllReadyH.nil
          go_simp
          refine (HQ.out.2.2.1 wh hwd).mono ?_
          rintro e w5 ⟨cells5, rfl, hR5, hb5⟩
          have hwd5 := hwd.trans (hb5.mono hwd.size)
          have C5 : w5.heap[wr.heap.size]? = some (.cells x.cells 39 (0, 0)) := (hwd5.block wr.heap.size HQ.out.2.2.2.2.1).trans HQ.out.2.1
          refine hK.out _ _ C5 (fun _ => ?_)
          clear hK K hb5
          refine wpAnyH_ready (rs := [3]) (by kernel_rfl) (by simp) ?_
          refine AllReadyH.cons rfl (fun K hK => ?_) AllReadyH.nil
          go_simp
          refine (HQ.out.2.2.2.1 w5 cells5 hwd5 hR5).mono ?_
          rintro e w7 ⟨cells7, t7, rfl, -, ρ7, hd7, -, htch7⟩
          have C7 : w7.heap[wr.heap.size]? = some (.cells x.cells 39 (0, 0)) := (htch7.same wr.heap.size (Nat.lt_of_lt_of_le HQ.out.2.2.2.2.1 hwd5.size) (fun e => e HQ.out.2.2.2.2.2)).trans C5
          refine hK.out _ _ C7 (fun _ => ?_)
          clear hK K
          refine wpAnyH_done (by kernel_rfl) ?_ _
          have hT7 := (HQ.out.1.below hwd5).oper x HS.out.2 hd7 htch7
          go_wp2_with fail
          go_meet
          case rel => exact ⟨C7, ρ7, hT7⟩
        case rest =>
          obtain ⟨hbx, ρ2, hT⟩ := hcut
          obtain ⟨y0, y1, y2, y3, y4, y5, y6⟩ := hcell wc hbx
          have hD := down_any hT.disk
          have hE := lext_any hT.disk
          have s1 := stays_deed (x := x) HQ.out.1.stays HQ.out.1.near.ok (HQ.out.1.len.trans HQ.out.1.three.symm)
          have s2 := stays_cut (x := x) HQ.out.1.stays HQ.out.1.near.ok (HQ.out.1.len.trans HQ.out.1.three.symm)
          have s3 := stays_sync (D := D) (x := x)
          rw [HQ.out.1.len] at s1 s2
          obtain ⟨E, hEE⟩ : ∃ E, E = (deed D x).1 := ⟨_, rfl⟩
          rw [← hEE] at hT hD hE s1 s2 s3
          rw [hT.three] at hE
          have HC := Lib.hid (And.intro hT (And.intro hbx (And.intro hD (And.intro hE (And.intro s1 (And.intro s2 s3))))))
          clear hT hbx hD hE s1 s2 s3 hEE HQ HS
          cases hdn : E.down with
          | true =>
            have HN := Lib.hid hdn
            clear hdn
            rcases (by omega : x.kind = 3 ∨ x.kind = 1 ∨ x.kind = 2 ∨ (x.kind ≠ 3 ∧ x.kind ≠ 1 ∧ x.kind ≠ 2)) with h | h | h | ⟨h3, h1, h2⟩
            · have k3 : (x.kind == 3) = true := by rw [h]; rfl
              have k1 : (x.kind == 1) = false := by rw [h]; rfl
              have k2 : (x.kind == 2) = false := by rw [h]; rfl
              go_wp2_with fail
              refine HC.out.2.2.1.mono ?_
              rintro e we ⟨rfl, rfl⟩
              rw [HN.out]
              have HF := Lib.hid (HC.out.1.stays (HC.out.2.2.2.2.1 (fun e => by omega) (fun _ => HN.out)))
              go_wp2_with fail
              refine (down_any HF.out.disk).mono ?_
              rintro e we ⟨rfl, rfl⟩
              rw [HN.out]
              go_wp2_with fail
              go_roundw
              case rel => exact ⟨k + 1, by omega, by go_num, S, a, cp, ρ2, E, rfl, HF.out⟩
              case measure => simp [intOf]; omega
            · rcases (by omega : x.x < 0 ∨ (0 ≤ x.x ∧ x.x < 3) ∨ 3 ≤ x.x) with hx | ⟨hx, hx3⟩ | hx
              · have k3 : (x.kind == 3) = false := by rw [h]; rfl
                have k1 : (x.kind == 1) = true := by rw [h]; rfl
                have k2 : (x.kind == 2) = false := by rw [h]; rfl
                have d0 : decide (0 ≤ x.x) = false := by rw [decide_eq_false_iff_not]; omega
                have HF := Lib.hid (HC.out.1.stays (HC.out.2.2.2.2.1 (fun e => by omega) (fun e => by omega)))
                go_wp2_with fail
                refine (down_any HF.out.disk).mono ?_
                rintro e we ⟨rfl, rfl⟩
                rw [HN.out]
                go_wp2_with fail
                go_roundw
                case rel => exact ⟨k + 1, by omega, by go_num, S, a, cp, ρ2, E, rfl, HF.out⟩
                case measure => simp [intOf]; omega
              · have k3 : (x.kind == 3) = false := by rw [h]; rfl
                have k1 : (x.kind == 1) = true := by rw [h]; rfl
                have k2 : (x.kind == 2) = false := by rw [h]; rfl
                obtain ⟨j, hj⟩ : ∃ j : Nat, x.x = (j : Int) := ⟨x.x.toNat, by omega⟩
                have hj3 : j < 3 := by omega
                have hji : (j : Int) < 3 := by omega
                have s4 := HC.out.2.2.2.2.2.1 (by omega) hx (by omega)
                rw [hj, Int.toNat_natCast] at s4
                rw [hj] at y1
                obtain ⟨gs, rfl, hcp, hfz⟩ := HC.out.1.cell
                obtain ⟨gs', e1, hcs⟩ := text_at HC.out.1.own (j := j) (by rw [HC.out.1.len]; exact hj3)
                injection e1 with e1
                injection e1 with e1 _ _
                subst e1
                have HF := Lib.hid (HC.out.1.put j ⟨#[]⟩ s4)
                clear s4 hj hx hx3 hcp
                go_wp2_with fail
                refine (down_any HF.out.disk).mono ?_
                rintro e we ⟨rfl, rfl⟩
                rw [HN.out]
                go_wp2_with fail
                go_roundw
                case rel => exact ⟨k + 1, by omega, by go_num, S.set j ⟨#[]⟩, some ⟨gs, 0, none⟩, cp, ρ2, E, rfl, HF.out⟩
                case measure => simp [intOf]; omega
              · have k3 : (x.kind == 3) = false := by rw [h]; rfl
                have k1 : (x.kind == 1) = true := by rw [h]; rfl
                have k2 : (x.kind == 2) = false := by rw [h]; rfl
                have d0 : decide (0 ≤ x.x) = true := by rw [decide_eq_true_iff]; omega
                have d1 : decide (x.x < 3) = false := by rw [decide_eq_false_iff_not]; omega
                have HF := Lib.hid (HC.out.1.stays (HC.out.2.2.2.2.1 (fun e => by omega) (fun e => by omega)))
                go_wp2_with fail
                refine (down_any HF.out.disk).mono ?_
                rintro e we ⟨rfl, rfl⟩
                rw [HN.out]
                go_wp2_with fail
                go_roundw
                case rel => exact ⟨k + 1, by omega, by go_num, S, a, cp, ρ2, E, rfl, HF.out⟩
                case measure => simp [intOf]; omega
            · rcases (by omega : x.x < 0 ∨ (0 ≤ x.x ∧ x.x < 3) ∨ 3 ≤ x.x) with hx | ⟨hx, hx3⟩ | hx
              · have k3 : (x.kind == 3) = false := by rw [h]; rfl
                have k1 : (x.kind == 1) = false := by rw [h]; rfl
                have k2 : (x.kind == 2) = true := by rw [h]; rfl
                have d0 : decide (0 ≤ x.x) = false := by rw [decide_eq_false_iff_not]; omega
                have HF := Lib.hid (HC.out.1.stays (HC.out.2.2.2.2.1 (fun e => by omega) (fun e => by omega)))
                go_wp2_with fail
                refine (down_any HF.out.disk).mono ?_
                rintro e we ⟨rfl, rfl⟩
                rw [HN.out]
                go_wp2_with fail
                go_roundw
                case rel => exact ⟨k + 1, by omega, by go_num, S, a, cp, ρ2, E, rfl, HF.out⟩
                case measure => simp [intOf]; omega
              · have k3 : (x.kind == 3) = false := by rw [h]; rfl
                have k1 : (x.kind == 1) = false := by rw [h]; rfl
                have k2 : (x.kind == 2) = true := by rw [h]; rfl
                obtain ⟨j, hj⟩ : ∃ j : Nat, x.x = (j : Int) := ⟨x.x.toNat, by omega⟩
                have hj3 : j < 3 := by omega
                have hji : (j : Int) < 3 := by omega
                have s4 := HC.out.2.2.2.2.2.1 (by omega) hx (by omega)
                rw [hj, Int.toNat_natCast] at s4
                rw [hj] at y1
                obtain ⟨gs, rfl, hcp, hfz⟩ := HC.out.1.cell
                obtain ⟨gs', e1, hcs⟩ := text_at HC.out.1.own (j := j) (by rw [HC.out.1.len]; exact hj3)
                injection e1 with e1
                injection e1 with e1 _ _
                subst e1
                have HF := Lib.hid (HC.out.1.put j ⟨#[]⟩ s4)
                clear s4 hj hx hx3 hcp
                go_wp2_with fail
                refine (down_any HF.out.disk).mono ?_
                rintro e we ⟨rfl, rfl⟩
                rw [HN.out]
                go_wp2_with fail
                go_roundw
                case rel => exact ⟨k + 1, by omega, by go_num, S.set j ⟨#[]⟩, some ⟨gs, 0, none⟩, cp, ρ2, E, rfl, HF.out⟩
                case measure => simp [intOf]; omega
              · have k3 : (x.kind == 3) = false := by rw [h]; rfl
                have k1 : (x.kind == 1) = false := by rw [h]; rfl
                have k2 : (x.kind == 2) = true := by rw [h]; rfl
                have d0 : decide (0 ≤ x.x) = true := by rw [decide_eq_true_iff]; omega
                have d1 : decide (x.x < 3) = false := by rw [decide_eq_false_iff_not]; omega
                have HF := Lib.hid (HC.out.1.stays (HC.out.2.2.2.2.1 (fun e => by omega) (fun e => by omega)))
                go_wp2_with fail
                refine (down_any HF.out.disk).mono ?_
                rintro e we ⟨rfl, rfl⟩
                rw [HN.out]
                go_wp2_with fail
                go_roundw
                case rel => exact ⟨k + 1, by omega, by go_num, S, a, cp, ρ2, E, rfl, HF.out⟩
                case measure => simp [intOf]; omega
            · have k3 : (x.kind == 3) = false := by simpa using h3
              have k1 : (x.kind == 1) = false := by simpa using h1
              have k2 : (x.kind == 2) = false := by simpa using h2
              have HF := Lib.hid (HC.out.1.stays (HC.out.2.2.2.2.1 (fun e => by omega) (fun e => absurd e h3)))
              go_wp2_with fail
              refine (down_any HF.out.disk).mono ?_
              rintro e we ⟨rfl, rfl⟩
              rw [HN.out]
              go_wp2_with fail
              go_roundw
              case rel => exact ⟨k + 1, by omega, by go_num, S, a, cp, ρ2, E, rfl, HF.out⟩
              case measure => simp [intOf]; omega
          | false =>
            have HN := Lib.hid hdn
            clear hdn
            rcases (by omega : x.kind = 3 ∨ x.kind = 1 ∨ x.kind = 2 ∨ (x.kind ≠ 3 ∧ x.kind ≠ 1 ∧ x.kind ≠ 2)) with h | h | h | ⟨h3, h1, h2⟩
            · have k3 : (x.kind == 3) = true := by rw [h]; rfl
              have k1 : (x.kind == 1) = false := by rw [h]; rfl
              have k2 : (x.kind == 2) = false := by rw [h]; rfl
              go_wp2_with fail
              refine HC.out.2.2.1.mono ?_
              rintro e we ⟨rfl, rfl⟩
              rw [HN.out]
              go_wp2_with fail
              refine HC.out.2.2.2.1.mono ?_
              rintro e wx ⟨a', cp', rfl, ho, hb⟩
              have HF := Lib.hid (HC.out.1.fresh hb ho ((extD_length E).trans HC.out.1.three) (HC.out.2.2.2.2.2.2 h HN.out))
              obtain ⟨y0, y1, y2, y3, y4, y5, y6⟩ := hcell wx ((hb.block _ (Array.getElem?_eq_some_iff.1 HC.out.2.1).1).trans HC.out.2.1)
              clear ho hb
              go_wp2_with fail
              refine (down_any HF.out.disk).mono ?_
              rintro e we ⟨rfl, rfl⟩
              rw [HN.out]
              have hle := lext_any HF.out.disk
              rw [HF.out.three] at hle
              go_wp2_with fail
              refine hle.mono ?_
              rintro e wn ⟨an, cn, rfl, hon, hbn⟩
              clear hle
              have hFn := HF.out.below hbn
              have HN2 := Lib.hid (And.intro hFn (And.intro hon HF.out))
              clear hFn hon hbn HF
              go_wp2_with fail
              go_loopw [8] (fun i wr2 => ∃ q : Nat, q ≤ 3 ∧ i = .int .i64 q ∧ Below wn.heap.size wn wr2) (fun i _ => 3 - (intOf i).toNat)
              case atStart => exact ⟨0, by omega, rfl, Below.refl _ _⟩
              case round =>
                obtain ⟨q, hq, rfl, hb⟩ := hrel
                have hFq := HN2.out.1.below hb
                by_cases hq3 : q < 3
                · obtain ⟨g1, e1, hc1⟩ := text_at hFq.own (j := q) (by rw [hFq.len]; exact hq3)
                  obtain ⟨g2, e2, hc2⟩ := text_at (HN2.out.2.1.below hb) (j := q) (by rw [extD_length, hFq.three]; exact hq3)
                  have hpre := hFq.stays.now hFq.near.ok q
                  rw [extD_at HN.out (by rw [hFq.three]; exact hq3)] at hc2
                  obtain ⟨N, hNN⟩ : ∃ N, N = exAt E.now q := ⟨_, rfl⟩
                  obtain ⟨T, hTT⟩ : ∃ T, T = exAt (extD E) q := ⟨_, rfl⟩
                  rw [← hNN] at hpre hc2
                  rw [← hTT] at hpre hc1
                  have hsz : N.size ≤ 65536 := by rw [hNN]; exact hFq.near.ok.fits.all.at q
                  have hps := hpre.size
                  have hpe := hpre.extract
                  have p1 : decide (N.size < T.size) = false := by rw [decide_eq_false_iff_not]; omega
                  have p2 : (T.size : Int) ≤ N.size := by omega
                  have p3 : (N.size : Int) ≤ 65536 := by omega
                  have p4 : (!((N.extract 0 T.size).toList == T.toList)) = false := by rw [hpe]; simp
                  subst e2
                  subst e1
                  have HB := Lib.hid hb
                  clear hb hFq hpre hsz hps hpe hNN hTT
                  go_wp2_with fail
                  go_quiet (fail)
                  have hbb := HB.out.trans (show Below _ _ (World.drewN _ nq) from ⟨rfl, rfl, rfl, Nat.le_refl _, fun _ _ => rfl⟩)
                  go_wp2_with fail
                  go_roundw
                  case rel => exact ⟨q + 1, by omega, by go_num, hbb⟩
                  case measure => simp [intOf]; omega
                · obtain rfl : q = 3 := by omega
                  have HB := Lib.hid hFq
                  clear hFq hb
                  go_wp2_with fail
                  go_roundw
                  case rel => exact ⟨k + 1, by omega, by go_num, extD E, _, cp', ρ2, E, rfl, HB.out⟩
                  case measure => simp [intOf]; omega
            · rcases (by omega : x.x < 0 ∨ (0 ≤ x.x ∧ x.x < 3) ∨ 3 ≤ x.x) with hx | ⟨hx, hx3⟩ | hx
              · have k3 : (x.kind == 3) = false := by rw [h]; rfl
                have k1 : (x.kind == 1) = true := by rw [h]; rfl
                have k2 : (x.kind == 2) = false := by rw [h]; rfl
                have d0 : decide (0 ≤ x.x) = false := by rw [decide_eq_false_iff_not]; omega
                have HF := Lib.hid (HC.out.1.stays (HC.out.2.2.2.2.1 (fun e => by omega) (fun e => by omega)))
                go_wp2_with fail
                refine (down_any HF.out.disk).mono ?_
                rintro e we ⟨rfl, rfl⟩
                rw [HN.out]
                have hle := lext_any HF.out.disk
                rw [HF.out.three] at hle
                go_wp2_with fail
                refine hle.mono ?_
                rintro e wn ⟨an, cn, rfl, hon, hbn⟩
                clear hle
                have hFn := HF.out.below hbn
                have HN2 := Lib.hid (And.intro hFn (And.intro hon HF.out))
                clear hFn hon hbn HF
                go_wp2_with fail
                go_loopw [8] (fun i wr2 => ∃ q : Nat, q ≤ 3 ∧ i = .int .i64 q ∧ Below wn.heap.size wn wr2) (fun i _ => 3 - (intOf i).toNat)
                case atStart => exact ⟨0, by omega, rfl, Below.refl _ _⟩
                case round =>
                  obtain ⟨q, hq, rfl, hb⟩ := hrel
                  have hFq := HN2.out.1.below hb
                  by_cases hq3 : q < 3
                  · obtain ⟨g1, e1, hc1⟩ := text_at hFq.own (j := q) (by rw [hFq.len]; exact hq3)
                    obtain ⟨g2, e2, hc2⟩ := text_at (HN2.out.2.1.below hb) (j := q) (by rw [extD_length, hFq.three]; exact hq3)
                    have hpre := hFq.stays.now hFq.near.ok q
                    rw [extD_at HN.out (by rw [hFq.three]; exact hq3)] at hc2
                    obtain ⟨N, hNN⟩ : ∃ N, N = exAt E.now q := ⟨_, rfl⟩
                    obtain ⟨T, hTT⟩ : ∃ T, T = exAt (S) q := ⟨_, rfl⟩
                    rw [← hNN] at hpre hc2
                    rw [← hTT] at hpre hc1
                    have hsz : N.size ≤ 65536 := by rw [hNN]; exact hFq.near.ok.fits.all.at q
                    have hps := hpre.size
                    have hpe := hpre.extract
                    have p1 : decide (N.size < T.size) = false := by rw [decide_eq_false_iff_not]; omega
                    have p2 : (T.size : Int) ≤ N.size := by omega
                    have p3 : (N.size : Int) ≤ 65536 := by omega
                    have p4 : (!((N.extract 0 T.size).toList == T.toList)) = false := by rw [hpe]; simp
                    subst e2
                    subst e1
                    have HB := Lib.hid hb
                    clear hb hFq hpre hsz hps hpe hNN hTT
                    go_wp2_with fail
                    go_quiet (fail)
                    have hbb := HB.out.trans (show Below _ _ (World.drewN _ nq) from ⟨rfl, rfl, rfl, Nat.le_refl _, fun _ _ => rfl⟩)
                    go_wp2_with fail
                    go_roundw
                    case rel => exact ⟨q + 1, by omega, by go_num, hbb⟩
                    case measure => simp [intOf]; omega
                  · obtain rfl : q = 3 := by omega
                    have HB := Lib.hid hFq
                    clear hFq hb
                    go_wp2_with fail
                    go_roundw
                    case rel => exact ⟨k + 1, by omega, by go_num, S, _, cp, ρ2, E, rfl, HB.out⟩
                    case measure => simp [intOf]; omega
              · have k3 : (x.kind == 3) = false := by rw [h]; rfl
                have k1 : (x.kind == 1) = true := by rw [h]; rfl
                have k2 : (x.kind == 2) = false := by rw [h]; rfl
                obtain ⟨j, hj⟩ : ∃ j : Nat, x.x = (j : Int) := ⟨x.x.toNat, by omega⟩
                have hj3 : j < 3 := by omega
                have hji : (j : Int) < 3 := by omega
                have s4 := HC.out.2.2.2.2.2.1 (by omega) hx (by omega)
                rw [hj, Int.toNat_natCast] at s4
                rw [hj] at y1
                obtain ⟨gs, rfl, hcp, hfz⟩ := HC.out.1.cell
                obtain ⟨gs', e1, hcs⟩ := text_at HC.out.1.own (j := j) (by rw [HC.out.1.len]; exact hj3)
                injection e1 with e1
                injection e1 with e1 _ _
                subst e1
                have HF := Lib.hid (HC.out.1.put j ⟨#[]⟩ s4)
                clear s4 hj hx hx3 hcp
                go_wp2_with fail
                refine (down_any HF.out.disk).mono ?_
                rintro e we ⟨rfl, rfl⟩
                rw [HN.out]
                have hle := lext_any HF.out.disk
                rw [HF.out.three] at hle
                go_wp2_with fail
                refine hle.mono ?_
                rintro e wn ⟨an, cn, rfl, hon, hbn⟩
                clear hle
                have hFn := HF.out.below hbn
                have HN2 := Lib.hid (And.intro hFn (And.intro hon HF.out))
                clear hFn hon hbn HF
                go_wp2_with fail
                go_loopw [8] (fun i wr2 => ∃ q : Nat, q ≤ 3 ∧ i = .int .i64 q ∧ Below wn.heap.size wn wr2) (fun i _ => 3 - (intOf i).toNat)
                case atStart => exact ⟨0, by omega, rfl, Below.refl _ _⟩
                case round =>
                  obtain ⟨q, hq, rfl, hb⟩ := hrel
                  have hFq := HN2.out.1.below hb
                  by_cases hq3 : q < 3
                  · obtain ⟨g1, e1, hc1⟩ := text_at hFq.own (j := q) (by rw [hFq.len]; exact hq3)
                    obtain ⟨g2, e2, hc2⟩ := text_at (HN2.out.2.1.below hb) (j := q) (by rw [extD_length, hFq.three]; exact hq3)
                    have hpre := hFq.stays.now hFq.near.ok q
                    rw [extD_at HN.out (by rw [hFq.three]; exact hq3)] at hc2
                    obtain ⟨N, hNN⟩ : ∃ N, N = exAt E.now q := ⟨_, rfl⟩
                    obtain ⟨T, hTT⟩ : ∃ T, T = exAt (S.set j ⟨#[]⟩) q := ⟨_, rfl⟩
                    rw [← hNN] at hpre hc2
                    rw [← hTT] at hpre hc1
                    have hsz : N.size ≤ 65536 := by rw [hNN]; exact hFq.near.ok.fits.all.at q
                    have hps := hpre.size
                    have hpe := hpre.extract
                    have p1 : decide (N.size < T.size) = false := by rw [decide_eq_false_iff_not]; omega
                    have p2 : (T.size : Int) ≤ N.size := by omega
                    have p3 : (N.size : Int) ≤ 65536 := by omega
                    have p4 : (!((N.extract 0 T.size).toList == T.toList)) = false := by rw [hpe]; simp
                    subst e2
                    injection e1 with e1; injection e1 with e1 _ _; subst e1
                    have HB := Lib.hid hb
                    clear hb hFq hpre hsz hps hpe hNN hTT
                    go_wp2_with fail
                    go_quiet (fail)
                    have hbb := HB.out.trans (show Below _ _ (World.drewN _ nq) from ⟨rfl, rfl, rfl, Nat.le_refl _, fun _ _ => rfl⟩)
                    go_wp2_with fail
                    go_roundw
                    case rel => exact ⟨q + 1, by omega, by go_num, hbb⟩
                    case measure => simp [intOf]; omega
                  · obtain rfl : q = 3 := by omega
                    have HB := Lib.hid hFq
                    clear hFq hb
                    go_wp2_with fail
                    go_roundw
                    case rel => exact ⟨k + 1, by omega, by go_num, S.set j ⟨#[]⟩, _, cp, ρ2, E, rfl, HB.out⟩
                    case measure => simp [intOf]; omega
              · have k3 : (x.kind == 3) = false := by rw [h]; rfl
                have k1 : (x.kind == 1) = true := by rw [h]; rfl
                have k2 : (x.kind == 2) = false := by rw [h]; rfl
                have d0 : decide (0 ≤ x.x) = true := by rw [decide_eq_true_iff]; omega
                have d1 : decide (x.x < 3) = false := by rw [decide_eq_false_iff_not]; omega
                have HF := Lib.hid (HC.out.1.stays (HC.out.2.2.2.2.1 (fun e => by omega) (fun e => by omega)))
                go_wp2_with fail
                refine (down_any HF.out.disk).mono ?_
                rintro e we ⟨rfl, rfl⟩
                rw [HN.out]
                have hle := lext_any HF.out.disk
                rw [HF.out.three] at hle
                go_wp2_with fail
                refine hle.mono ?_
                rintro e wn ⟨an, cn, rfl, hon, hbn⟩
                clear hle
                have hFn := HF.out.below hbn
                have HN2 := Lib.hid (And.intro hFn (And.intro hon HF.out))
                clear hFn hon hbn HF
                go_wp2_with fail
                go_loopw [8] (fun i wr2 => ∃ q : Nat, q ≤ 3 ∧ i = .int .i64 q ∧ Below wn.heap.size wn wr2) (fun i _ => 3 - (intOf i).toNat)
                case atStart => exact ⟨0, by omega, rfl, Below.refl _ _⟩
                case round =>
                  obtain ⟨q, hq, rfl, hb⟩ := hrel
                  have hFq := HN2.out.1.below hb
                  by_cases hq3 : q < 3
                  · obtain ⟨g1, e1, hc1⟩ := text_at hFq.own (j := q) (by rw [hFq.len]; exact hq3)
                    obtain ⟨g2, e2, hc2⟩ := text_at (HN2.out.2.1.below hb) (j := q) (by rw [extD_length, hFq.three]; exact hq3)
                    have hpre := hFq.stays.now hFq.near.ok q
                    rw [extD_at HN.out (by rw [hFq.three]; exact hq3)] at hc2
                    obtain ⟨N, hNN⟩ : ∃ N, N = exAt E.now q := ⟨_, rfl⟩
                    obtain ⟨T, hTT⟩ : ∃ T, T = exAt (S) q := ⟨_, rfl⟩
                    rw [← hNN] at hpre hc2
                    rw [← hTT] at hpre hc1
                    have hsz : N.size ≤ 65536 := by rw [hNN]; exact hFq.near.ok.fits.all.at q
                    have hps := hpre.size
                    have hpe := hpre.extract
                    have p1 : decide (N.size < T.size) = false := by rw [decide_eq_false_iff_not]; omega
                    have p2 : (T.size : Int) ≤ N.size := by omega
                    have p3 : (N.size : Int) ≤ 65536 := by omega
                    have p4 : (!((N.extract 0 T.size).toList == T.toList)) = false := by rw [hpe]; simp
                    subst e2
                    subst e1
                    have HB := Lib.hid hb
                    clear hb hFq hpre hsz hps hpe hNN hTT
                    go_wp2_with fail
                    go_quiet (fail)
                    have hbb := HB.out.trans (show Below _ _ (World.drewN _ nq) from ⟨rfl, rfl, rfl, Nat.le_refl _, fun _ _ => rfl⟩)
                    go_wp2_with fail
                    go_roundw
                    case rel => exact ⟨q + 1, by omega, by go_num, hbb⟩
                    case measure => simp [intOf]; omega
                  · obtain rfl : q = 3 := by omega
                    have HB := Lib.hid hFq
                    clear hFq hb
                    go_wp2_with fail
                    go_roundw
                    case rel => exact ⟨k + 1, by omega, by go_num, S, _, cp, ρ2, E, rfl, HB.out⟩
                    case measure => simp [intOf]; omega
            · rcases (by omega : x.x < 0 ∨ (0 ≤ x.x ∧ x.x < 3) ∨ 3 ≤ x.x) with hx | ⟨hx, hx3⟩ | hx
              · have k3 : (x.kind == 3) = false := by rw [h]; rfl
                have k1 : (x.kind == 1) = false := by rw [h]; rfl
                have k2 : (x.kind == 2) = true := by rw [h]; rfl
                have d0 : decide (0 ≤ x.x) = false := by rw [decide_eq_false_iff_not]; omega
                have HF := Lib.hid (HC.out.1.stays (HC.out.2.2.2.2.1 (fun e => by omega) (fun e => by omega)))
                go_wp2_with fail
                refine (down_any HF.out.disk).mono ?_
                rintro e we ⟨rfl, rfl⟩
                rw [HN.out]
                have hle := lext_any HF.out.disk
                rw [HF.out.three] at hle
                go_wp2_with fail
                refine hle.mono ?_
                rintro e wn ⟨an, cn, rfl, hon, hbn⟩
                clear hle
                have hFn := HF.out.below hbn
                have HN2 := Lib.hid (And.intro hFn (And.intro hon HF.out))
                clear hFn hon hbn HF
                go_wp2_with fail
                go_loopw [8] (fun i wr2 => ∃ q : Nat, q ≤ 3 ∧ i = .int .i64 q ∧ Below wn.heap.size wn wr2) (fun i _ => 3 - (intOf i).toNat)
                case atStart => exact ⟨0, by omega, rfl, Below.refl _ _⟩
                case round =>
                  obtain ⟨q, hq, rfl, hb⟩ := hrel
                  have hFq := HN2.out.1.below hb
                  by_cases hq3 : q < 3
                  · obtain ⟨g1, e1, hc1⟩ := text_at hFq.own (j := q) (by rw [hFq.len]; exact hq3)
                    obtain ⟨g2, e2, hc2⟩ := text_at (HN2.out.2.1.below hb) (j := q) (by rw [extD_length, hFq.three]; exact hq3)
                    have hpre := hFq.stays.now hFq.near.ok q
                    rw [extD_at HN.out (by rw [hFq.three]; exact hq3)] at hc2
                    obtain ⟨N, hNN⟩ : ∃ N, N = exAt E.now q := ⟨_, rfl⟩
                    obtain ⟨T, hTT⟩ : ∃ T, T = exAt (S) q := ⟨_, rfl⟩
                    rw [← hNN] at hpre hc2
                    rw [← hTT] at hpre hc1
                    have hsz : N.size ≤ 65536 := by rw [hNN]; exact hFq.near.ok.fits.all.at q
                    have hps := hpre.size
                    have hpe := hpre.extract
                    have p1 : decide (N.size < T.size) = false := by rw [decide_eq_false_iff_not]; omega
                    have p2 : (T.size : Int) ≤ N.size := by omega
                    have p3 : (N.size : Int) ≤ 65536 := by omega
                    have p4 : (!((N.extract 0 T.size).toList == T.toList)) = false := by rw [hpe]; simp
                    subst e2
                    subst e1
                    have HB := Lib.hid hb
                    clear hb hFq hpre hsz hps hpe hNN hTT
                    go_wp2_with fail
                    go_quiet (fail)
                    have hbb := HB.out.trans (show Below _ _ (World.drewN _ nq) from ⟨rfl, rfl, rfl, Nat.le_refl _, fun _ _ => rfl⟩)
                    go_wp2_with fail
                    go_roundw
                    case rel => exact ⟨q + 1, by omega, by go_num, hbb⟩
                    case measure => simp [intOf]; omega
                  · obtain rfl : q = 3 := by omega
                    have HB := Lib.hid hFq
                    clear hFq hb
                    go_wp2_with fail
                    go_roundw
                    case rel => exact ⟨k + 1, by omega, by go_num, S, _, cp, ρ2, E, rfl, HB.out⟩
                    case measure => simp [intOf]; omega
              · have k3 : (x.kind == 3) = false := by rw [h]; rfl
                have k1 : (x.kind == 1) = false := by rw [h]; rfl
                have k2 : (x.kind == 2) = true := by rw [h]; rfl
                obtain ⟨j, hj⟩ : ∃ j : Nat, x.x = (j : Int) := ⟨x.x.toNat, by omega⟩
                have hj3 : j < 3 := by omega
                have hji : (j : Int) < 3 := by omega
                have s4 := HC.out.2.2.2.2.2.1 (by omega) hx (by omega)
                rw [hj, Int.toNat_natCast] at s4
                rw [hj] at y1
                obtain ⟨gs, rfl, hcp, hfz⟩ := HC.out.1.cell
                obtain ⟨gs', e1, hcs⟩ := text_at HC.out.1.own (j := j) (by rw [HC.out.1.len]; exact hj3)
                injection e1 with e1
                injection e1 with e1 _ _
                subst e1
                have HF := Lib.hid (HC.out.1.put j ⟨#[]⟩ s4)
                clear s4 hj hx hx3 hcp
                go_wp2_with fail
                refine (down_any HF.out.disk).mono ?_
                rintro e we ⟨rfl, rfl⟩
                rw [HN.out]
                have hle := lext_any HF.out.disk
                rw [HF.out.three] at hle
                go_wp2_with fail
                refine hle.mono ?_
                rintro e wn ⟨an, cn, rfl, hon, hbn⟩
                clear hle
                have hFn := HF.out.below hbn
                have HN2 := Lib.hid (And.intro hFn (And.intro hon HF.out))
                clear hFn hon hbn HF
                go_wp2_with fail
                go_loopw [8] (fun i wr2 => ∃ q : Nat, q ≤ 3 ∧ i = .int .i64 q ∧ Below wn.heap.size wn wr2) (fun i _ => 3 - (intOf i).toNat)
                case atStart => exact ⟨0, by omega, rfl, Below.refl _ _⟩
                case round =>
                  obtain ⟨q, hq, rfl, hb⟩ := hrel
                  have hFq := HN2.out.1.below hb
                  by_cases hq3 : q < 3
                  · obtain ⟨g1, e1, hc1⟩ := text_at hFq.own (j := q) (by rw [hFq.len]; exact hq3)
                    obtain ⟨g2, e2, hc2⟩ := text_at (HN2.out.2.1.below hb) (j := q) (by rw [extD_length, hFq.three]; exact hq3)
                    have hpre := hFq.stays.now hFq.near.ok q
                    rw [extD_at HN.out (by rw [hFq.three]; exact hq3)] at hc2
                    obtain ⟨N, hNN⟩ : ∃ N, N = exAt E.now q := ⟨_, rfl⟩
                    obtain ⟨T, hTT⟩ : ∃ T, T = exAt (S.set j ⟨#[]⟩) q := ⟨_, rfl⟩
                    rw [← hNN] at hpre hc2
                    rw [← hTT] at hpre hc1
                    have hsz : N.size ≤ 65536 := by rw [hNN]; exact hFq.near.ok.fits.all.at q
                    have hps := hpre.size
                    have hpe := hpre.extract
                    have p1 : decide (N.size < T.size) = false := by rw [decide_eq_false_iff_not]; omega
                    have p2 : (T.size : Int) ≤ N.size := by omega
                    have p3 : (N.size : Int) ≤ 65536 := by omega
                    have p4 : (!((N.extract 0 T.size).toList == T.toList)) = false := by rw [hpe]; simp
                    subst e2
                    injection e1 with e1; injection e1 with e1 _ _; subst e1
                    have HB := Lib.hid hb
                    clear hb hFq hpre hsz hps hpe hNN hTT
                    go_wp2_with fail
                    go_quiet (fail)
                    have hbb := HB.out.trans (show Below _ _ (World.drewN _ nq) from ⟨rfl, rfl, rfl, Nat.le_refl _, fun _ _ => rfl⟩)
                    go_wp2_with fail
                    go_roundw
                    case rel => exact ⟨q + 1, by omega, by go_num, hbb⟩
                    case measure => simp [intOf]; omega
                  · obtain rfl : q = 3 := by omega
                    have HB := Lib.hid hFq
                    clear hFq hb
                    go_wp2_with fail
                    go_roundw
                    case rel => exact ⟨k + 1, by omega, by go_num, S.set j ⟨#[]⟩, _, cp, ρ2, E, rfl, HB.out⟩
                    case measure => simp [intOf]; omega
              · have k3 : (x.kind == 3) = false := by rw [h]; rfl
                have k1 : (x.kind == 1) = false := by rw [h]; rfl
                have k2 : (x.kind == 2) = true := by rw [h]; rfl
                have d0 : decide (0 ≤ x.x) = true := by rw [decide_eq_true_iff]; omega
                have d1 : decide (x.x < 3) = false := by rw [decide_eq_false_iff_not]; omega
                have HF := Lib.hid (HC.out.1.stays (HC.out.2.2.2.2.1 (fun e => by omega) (fun e => by omega)))
                go_wp2_with fail
                refine (down_any HF.out.disk).mono ?_
                rintro e we ⟨rfl, rfl⟩
                rw [HN.out]
                have hle := lext_any HF.out.disk
                rw [HF.out.three] at hle
                go_wp2_with fail
                refine hle.mono ?_
                rintro e wn ⟨an, cn, rfl, hon, hbn⟩
                clear hle
                have hFn := HF.out.below hbn
                have HN2 := Lib.hid (And.intro hFn (And.intro hon HF.out))
                clear hFn hon hbn HF
                go_wp2_with fail
                go_loopw [8] (fun i wr2 => ∃ q : Nat, q ≤ 3 ∧ i = .int .i64 q ∧ Below wn.heap.size wn wr2) (fun i _ => 3 - (intOf i).toNat)
                case atStart => exact ⟨0, by omega, rfl, Below.refl _ _⟩
                case round =>
                  obtain ⟨q, hq, rfl, hb⟩ := hrel
                  have hFq := HN2.out.1.below hb
                  by_cases hq3 : q < 3
                  · obtain ⟨g1, e1, hc1⟩ := text_at hFq.own (j := q) (by rw [hFq.len]; exact hq3)
                    obtain ⟨g2, e2, hc2⟩ := text_at (HN2.out.2.1.below hb) (j := q) (by rw [extD_length, hFq.three]; exact hq3)
                    have hpre := hFq.stays.now hFq.near.ok q
                    rw [extD_at HN.out (by rw [hFq.three]; exact hq3)] at hc2
                    obtain ⟨N, hNN⟩ : ∃ N, N = exAt E.now q := ⟨_, rfl⟩
                    obtain ⟨T, hTT⟩ : ∃ T, T = exAt (S) q := ⟨_, rfl⟩
                    rw [← hNN] at hpre hc2
                    rw [← hTT] at hpre hc1
                    have hsz : N.size ≤ 65536 := by rw [hNN]; exact hFq.near.ok.fits.all.at q
                    have hps := hpre.size
                    have hpe := hpre.extract
                    have p1 : decide (N.size < T.size) = false := by rw [decide_eq_false_iff_not]; omega
                    have p2 : (T.size : Int) ≤ N.size := by omega
                    have p3 : (N.size : Int) ≤ 65536 := by omega
                    have p4 : (!((N.extract 0 T.size).toList == T.toList)) = false := by rw [hpe]; simp
                    subst e2
                    subst e1
                    have HB := Lib.hid hb
                    clear hb hFq hpre hsz hps hpe hNN hTT
                    go_wp2_with fail
                    go_quiet (fail)
                    have hbb := HB.out.trans (show Below _ _ (World.drewN _ nq) from ⟨rfl, rfl, rfl, Nat.le_refl _, fun _ _ => rfl⟩)
                    go_wp2_with fail
                    go_roundw
                    case rel => exact ⟨q + 1, by omega, by go_num, hbb⟩
                    case measure => simp [intOf]; omega
                  · obtain rfl : q = 3 := by omega
                    have HB := Lib.hid hFq
                    clear hFq hb
                    go_wp2_with fail
                    go_roundw
                    case rel => exact ⟨k + 1, by omega, by go_num, S, _, cp, ρ2, E, rfl, HB.out⟩
                    case measure => simp [intOf]; omega
            · have k3 : (x.kind == 3) = false := by simpa using h3
              have k1 : (x.kind == 1) = false := by simpa using h1
              have k2 : (x.kind == 2) = false := by simpa using h2
              have HF := Lib.hid (HC.out.1.stays (HC.out.2.2.2.2.1 (fun e => by omega) (fun e => absurd e h3)))
              go_wp2_with fail
              refine (down_any HF.out.disk).mono ?_
              rintro e we ⟨rfl, rfl⟩
              rw [HN.out]
              have hle := lext_any HF.out.disk
              rw [HF.out.three] at hle
              go_wp2_with fail
              refine hle.mono ?_
              rintro e wn ⟨an, cn, rfl, hon, hbn⟩
              clear hle
              have hFn := HF.out.below hbn
              have HN2 := Lib.hid (And.intro hFn (And.intro hon HF.out))
              clear hFn hon hbn HF
              go_wp2_with fail
              go_loopw [8] (fun i wr2 => ∃ q : Nat, q ≤ 3 ∧ i = .int .i64 q ∧ Below wn.heap.size wn wr2) (fun i _ => 3 - (intOf i).toNat)
              case atStart => exact ⟨0, by omega, rfl, Below.refl _ _⟩
              case round =>
                obtain ⟨q, hq, rfl, hb⟩ := hrel
                have hFq := HN2.out.1.below hb
                by_cases hq3 : q < 3
                · obtain ⟨g1, e1, hc1⟩ := text_at hFq.own (j := q) (by rw [hFq.len]; exact hq3)
                  obtain ⟨g2, e2, hc2⟩ := text_at (HN2.out.2.1.below hb) (j := q) (by rw [extD_length, hFq.three]; exact hq3)
                  have hpre := hFq.stays.now hFq.near.ok q
                  rw [extD_at HN.out (by rw [hFq.three]; exact hq3)] at hc2
                  obtain ⟨N, hNN⟩ : ∃ N, N = exAt E.now q := ⟨_, rfl⟩
                  obtain ⟨T, hTT⟩ : ∃ T, T = exAt (S) q := ⟨_, rfl⟩
                  rw [← hNN] at hpre hc2
                  rw [← hTT] at hpre hc1
                  have hsz : N.size ≤ 65536 := by rw [hNN]; exact hFq.near.ok.fits.all.at q
                  have hps := hpre.size
                  have hpe := hpre.extract
                  have p1 : decide (N.size < T.size) = false := by rw [decide_eq_false_iff_not]; omega
                  have p2 : (T.size : Int) ≤ N.size := by omega
                  have p3 : (N.size : Int) ≤ 65536 := by omega
                  have p4 : (!((N.extract 0 T.size).toList == T.toList)) = false := by rw [hpe]; simp
                  subst e2
                  subst e1
                  have HB := Lib.hid hb
                  clear hb hFq hpre hsz hps hpe hNN hTT
                  go_wp2_with fail
                  go_quiet (fail)
                  have hbb := HB.out.trans (show Below _ _ (World.drewN _ nq) from ⟨rfl, rfl, rfl, Nat.le_refl _, fun _ _ => rfl⟩)
                  go_wp2_with fail
                  go_roundw
                  case rel => exact ⟨q + 1, by omega, by go_num, hbb⟩
                  case measure => simp [intOf]; omega
                · obtain rfl : q = 3 := by omega
                  have HB := Lib.hid hFq
                  clear hFq hb
                  go_wp2_with fail
                  go_roundw
                  case rel => exact ⟨k + 1, by omega, by go_num, S, _, cp, ρ2, E, rfl, HB.out⟩
                  case measure => simp [intOf]; omega
      · obtain rfl : k = L := by omega
        have HB := Lib.hid hS.old
        clear hS
        go_wp2_with fail
        go_ret
        exact ⟨rfl, HB.out⟩
end Go.Proofs.Ytefpfedpgedloaa

namespace Go.Proofs.Ytefpfedpgedloaa.diskStaysLaw
open Go.ChangeShapes Go.WideShapes Go.ChangeAt Go.RowKit
open Go.ChangeMaps (open_string shut_string)

theorem own : ownKnob Try.prog.godebug = none := by kernel_rfl
set_option maxRecDepth 100000 in
theorem lifted (os : Os) (started : os.Started) (H : Type) (enc : TypeId × Value → H) :
    ReturnsInHanded {} Try.checked os 4 .any (Rows.diskStaysSpec.pre6 enc Try.prog Try.f4 Rows.diskStaysRow.domain false) (Rows.diskStaysSpec.post enc Try.prog Try.f4 false true false false) := by
  refine returnsInHanded_of_change (C := Try.checked) own started (by kernel_rfl) Try.func4
    (ChangeSpec.witness6 (enc := enc) (C := Try.checked) false ⟨#[], #[.slice none 0 0], []⟩ 8 (by kernel_rfl) (by kernel_rfl) (by kernel_rfl) (by kernel_rfl)) ?_
  intro W base args ds gs before hval0 hW hcnd _
  have hval : ∀ (j : Nat) t v, Try.f4.params[j]? = some t → args[j]? = some v → Value.okWide Try.prog W .any base t v := hval0
  have hW' := hW
  obtain ⟨p, q, hA0, hV, rfl, hfz, hnd⟩ := hW
  have hA : DataW.TrodAll enc Try.prog W 0 (fun _ => true) true Try.f4.params.toList args.toList ds p := hA0
  rw [Try.params4] at hA hval
  obtain ⟨v0, vs0, d0, ds0, p0, q0, hargs, rfl, rfl, h0, r0⟩ := trodAll_cons hA
  obtain ⟨rfl, rfl, rfl⟩ := trodAll_nil r0
  obtain rfl : args = #[v0] := by cases args; simp_all
  obtain ⟨rfl, rfl⟩ := trodVars_none hV
  obtain ⟨a0, len0, cap0, rfl⟩ := okWide_slice Try.underlying22 (hval 0 22 v0 rfl rfl)
  have hk0 := h0
  obtain ⟨fuel0, hf0⟩ := h0
  clear hA0 hval0
  simp only [List.append_nil] at hW'
  have hlt0 : ∀ x ∈ p0, x.block < W.heap.size := fun x hx => by simpa using hW'.lt x (by simp [hx])
  obtain ⟨ss0, hlen0, hmax0, hT0⟩ := acts_of hf0 hlt0
  subst hlen0
  refine (stays_law ss0 a0 cap0 hT0 hmax0 (w := W)).mono fun e W' ⟨he, hb⟩ => ?_
  subst he
  exact ⟨_, rfl, _, _, _, [], _, [], hW', trodAll_cons_mk (shut_bool Try.underlying4 _) trodAll_mk0, (trodAll_cons_mk (Below.trod laidOut (by kernel_rfl) (of_decide_eq_true (by kernel_rfl)) hk0 hb hlt0) trodAll_mk0), rfl, hb.frame _, fun h => by cases h⟩
theorem over : Rows.diskStaysRow.holds Try.pinned (OpenSpec.ofChange Rows.diskStaysSpec) :=
  OpenClaim.holds_of_wide 4 Try.f4 rfl rfl rfl rfl rfl rfl rfl ⟨rfl, rfl, rfl, rfl, rfl⟩ rfl rfl rfl rfl rfl (by kernel_rfl) Try.func4 (by kernel_rfl)
    (of_decide_eq_true (by kernel_rfl)) (by unfold Func.isWrapper; first | (rw [if_pos (by decide +kernel)]; kernel_rfl) | (rw [if_neg (by decide +kernel)]; exact ⟨rfl, rfl⟩))
    (fun os started H enc _ => lifted os started H enc)
end Go.Proofs.Ytefpfedpgedloaa.diskStaysLaw

namespace Go.Proofs.Ytefpfedpgedloaa
theorem diskStays_said : Rows.DiskStaysSaid := diskStaysLaw.over
end Go.Proofs.Ytefpfedpgedloaa
