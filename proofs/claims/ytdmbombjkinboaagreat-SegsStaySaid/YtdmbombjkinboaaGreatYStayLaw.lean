/- PROVED HERE: for every two numbers and every list of acts the law SegsStay returns true (behind any loss of power all records are there that were sure, and of the others a beginning, as they were; whenever, wherever the power fails), and all read afterwards as they did. No condition. -/
import Derived.Test.YtdmbombjkinboaaGreatYDo2
import Derived.Test.YtdmbombjkinboaaGreatYFewD
import Derived.Test.YtdmbombjkinboaaGreatRows
import Derived.ProofKit
import Derived.OpenShut
namespace Go.Proofs.YtdmbombjkinboaaGreat
open Go.RowKit
open Dk Sg Fr

theorem rem_pos (x : Int) (q : Nat) (hq : 0 < q) : ∃ t : Int, x.tmod (q : Int) = t ∧ -(q : Int) < t ∧ t < (q : Int) ∧ ∃ k : Nat, (t + (q : Int)) % (q : Int) = (k : Int) ∧ k < q := by
  refine ⟨x.tmod (q : Int), rfl, ?_, ?_, ((x.tmod (q : Int) + (q : Int)) % (q : Int)).toNat, ?_, ?_⟩
  · rw [Int.tmod_eq_emod]
    have h1 := Int.emod_nonneg x (show (q : Int) ≠ 0 by omega)
    have h2 := Int.emod_lt_of_pos x (show 0 < (q : Int) by omega)
    split <;> omega
  · rw [Int.tmod_eq_emod]
    have h1 := Int.emod_nonneg x (show (q : Int) ≠ 0 by omega)
    have h2 := Int.emod_lt_of_pos x (show 0 < (q : Int) by omega)
    split <;> omega
  · have := Int.emod_nonneg (x.tmod (q : Int) + (q : Int)) (show (q : Int) ≠ 0 by omega)
    omega
  · have h1 := Int.emod_nonneg (x.tmod (q : Int) + (q : Int)) (show (q : Int) ≠ 0 by omega)
    have h2 := Int.emod_lt_of_pos (x.tmod (q : Int) + (q : Int)) (show 0 < (q : Int) by omega)
    omega
/-- The shelf at its beginning. -/
theorem shelf_new {w0 w2 w3 : World} {ρ ρ3 : Nat → Nat} {U3 : Nat → Prop} {s b n N M : Nat} {D D3 : Disk} {S3 : Stor} (hc : Ctx w0.heap.size w0 w2 ρ (fun _ => False)) (hst : Stands ρ b n N M [] D w2 s ρ3 U3 D3 S3 w3) :
    Sh w0.heap.size w0 (w3.alloc (.cells #[.pointer (some ⟨b, 0, none⟩), .pointer (some ⟨s, 0, none⟩), .slice none 0 0, .int .i64 0] 32)) ρ3 U3 s b w3.heap.size D3 S3 none 0 := by
  have hb : Below w3.heap.size w3 (w3.alloc (.cells #[.pointer (some ⟨b, 0, none⟩), .pointer (some ⟨s, 0, none⟩), .slice none 0 0, .int .i64 0] 32)) := (Below.refl _ _).alloc (Nat.le_refl _) _
  have hc3 := hc.new hst.touch hst.new
  refine ⟨hst.at_.below hb, hc3.below hb, ?_, ?_, hc3.size, ⟨hst.at_.disk.raw.lab _ (Nat.le_refl _), fun u => by have := (hst.at_.off _ u).2; omega⟩, fun g hg => ?_⟩
  · rw [hst.recs, hst.sure]; exact heap_alloc_new _ _
  · rw [hst.recs]; exact World.ownsRow_nil _ _ _ _
  · rw [hst.recs] at hg; simp [Value.ownBlock] at hg
set_option maxRecDepth 100000 in
set_option maxHeartbeats 4000000 in
theorem sstay_law (x : Int) (_ : -9223372036854775808 ≤ x) (_ : x ≤ 9223372036854775807) (y : Int) (_ : -9223372036854775808 ≤ y) (_ : y ≤ 9223372036854775807) (l : List Deed) (a0 : Option Addr) (cap : Nat) (w : World) (hA : ActsAt w a0 l) (hm : l.length ≤ maxLen) :
    Calls Tryz.prog 3 #[.int .i64 x, .int .i64 y, .slice a0 l.length cap] w fun e w' => e = .returned (.bool true) ∧ Below w.heap.size w w' := by
  obtain ⟨t, ht, ht1, ht2, k, hk, hk8⟩ := rem_pos x 8 (by decide)
  obtain ⟨u, hu, hu1, hu2, j, hj, hj9⟩ := rem_pos y 977 (by decide)
  obtain ⟨n, hn⟩ : ∃ n : Nat, (3 : Int) + (k : Int) = (n : Int) := ⟨3 + k, by omega⟩
  obtain ⟨m, hm2⟩ : ∃ m : Nat, (1024 : Int) + (j : Int) = (m : Int) := ⟨1024 + j, by omega⟩
  have hn3 : 3 ≤ n := by omega
  have hn10 : n ≤ 10 := by omega
  have hm1 : 1024 ≤ m := by omega
  have hm9 : m ≤ 2000 := by omega
  have hkk : (k : Int) < 8 := by omega
  have hjj : (j : Int) < 977 := by omega
  simp only [Int.cast_ofNat_Int] at ht ht1 ht2 hk hu hu1 hu2 hj
  have hnew := new_any n (m : Int) (by omega) (by omega) (by omega) (by omega) w
  have hfw := fun W (hb : Below w.heap.size w W) => few12_any (hA.below hb) hm cap
  obtain ⟨Q, hQ⟩ : ∃ Q, Q = l.length := ⟨_, rfl⟩
  rw [← hQ] at hfw ⊢
  have H := Lib.hid (And.intro hnew (And.intro hn3 (And.intro hn10 (And.intro hm1 (And.intro hm9 (And.intro hfw (And.intro hA hQ)))))))
  clear hnew hn3 hn10 hk8 hj9 hm1 hm9 hfw hA hQ hm
  go_enter Tryz.func3, Tryz.ntmps3
  go_wp2_with fail
  refine H.out.1.mono ?_
  rintro e w1 ⟨b, ρ, rfl, hD, hF, hb1⟩
  have H1 := Lib.hid (And.intro hD (And.intro hF hb1))
  clear hD hF hb1 ht hk hn ht1 ht2 hkk hu hj hm2 hu1 hu2 hjj
  go_wp2_with fail
  refine (H.out.2.2.2.2.2.1 _ H1.out.2.2).mono ?_
  rintro e w2 ⟨tt, rfl, hfew, hb2⟩
  have H2 := Lib.hid (And.intro hfew (H1.out.2.2.trans (hb2.mono H1.out.2.2.size)))
  have hD2 := H1.out.1.below hb2
  cases tt with
  | false =>
    clear hfew hb2
    go_wp2_with fail
    refine (awake_s _).mono ?_
    rintro e w3 ⟨rfl, hb3⟩
    have HB := Lib.hid (H2.out.2.trans (hb3.mono H2.out.2.size))
    clear hb3
    go_wp2_with fail
    go_ret
    exact ⟨rfl, HB.out⟩
  | true =>
    have hQ60 : Q ≤ 60 := hfew rfl
    have HD2 := Lib.hid hD2
    clear hfew hb2 hD2
    go_wp2_with fail
    refine (awake_s _).mono ?_
    rintro e w3 ⟨rfl, hb3⟩
    have hag := again_any (n := n) (N := 0) (M := 0) (R := []) (HD2.out.below hb3) rfl ⟨_, _, _, _, Img.new H.out.2.1 (by have := H.out.2.2.1; omega), rfl⟩ (show (1024 : Int) ≤ (m : Int) by have := H.out.2.2.2.1; omega) (by decide) (Bud.new (by have := H.out.2.2.1; omega) (by have := H.out.2.2.2.1; omega) (by have := H.out.2.2.2.2.1; omega)) (by decide)
    have hc3 : Ctx w.heap.size w w3 ρ (fun _ => False) := ⟨H2.out.2.trans (hb3.mono H2.out.2.size), Nat.le_refl _, H1.out.2.1, fun _ _ k => k⟩
    have H3 := Lib.hid (And.intro hag hc3)
    clear hag hc3 hb3
    go_wp2_with fail
    refine H3.out.1.mono ?_
    rintro e w4 ⟨s, ρ4, U4, D4, S4, rfl, hst⟩
    have hsh := shelf_new H3.out.2 hst
    obtain ⟨xb, hxb⟩ : ∃ xb, xb = w4.heap.size := ⟨_, rfl⟩
    have H4 := Lib.hid (And.intro hsh hst)
    have hcx := shelf_cells (heap_alloc_new w4 (.cells #[.pointer (some ⟨b, 0, none⟩), .pointer (some ⟨s, 0, none⟩), .slice none 0 0, .int .i64 0] 32) : ShelfAt _ _ b (.pointer (some ⟨s, 0, none⟩)) (.slice none 0 0) 0)
    obtain ⟨-, g1, -, -⟩ := hcx
    clear hsh hst hxb xb
    go_upto_region 5 with fail
    generalize World.alloc w4 _ = w5 at *
    go_wp2_with fail
    clear g1
    obtain ⟨xb, hxb⟩ : ∃ xb, xb = w4.heap.size := ⟨_, rfl⟩
    rw [← hxb]
    have hsh5 := H4.out.1
    rw [← hxb] at hsh5
    have H5 := Lib.hid hsh5
    clear hsh5 hxb
    go_loopw [9] (fun iv wr => ∃ i : Nat, i ≤ Q ∧ iv = .int .i64 i ∧ ∃ s2 ρ2 U2 D2 S2 a2 cap2, Sh w.heap.size w wr ρ2 U2 s2 b xb D2 S2 a2 cap2 ∧ Live n (2 + 3 * i) D2 S2 ∧ Bud (14 + 20 * i) D2 ∧ D2.room = (m : Int) ∧ S2.recs.length ≤ i) (fun iv _ => Q - (intOf iv).toNat)
    case atStart => exact ⟨0, by omega, rfl, s, ρ4, U4, D4, S4, none, 0, H5.out, H4.out.2.live, H4.out.2.bud, H4.out.2.room, by rw [H4.out.2.recs]; exact Nat.le_refl _⟩
    case round =>
      obtain ⟨i, hi, rfl, s2, ρ2, U2, D2, S2, a2, cap2, h1, h2, h3, h4, h5⟩ := hrel
      by_cases hlt : i < Q
      · obtain ⟨d, hd⟩ : ∃ d, l[i]? = some d := ⟨_, List.getElem?_eq_getElem (by have := H.out.2.2.2.2.2.2.2; omega)⟩
        have hact := H.out.2.2.2.2.2.2.1.below h1.ctx.low
        obtain ⟨hdok, -⟩ := hact i d hd
        obtain ⟨ga, oa, rfl, hga, e0, e1, e2, e3, e4, e5, e6⟩ := hact.cellsAt hd
        have hdo := sdo_any h1 h2 h3 (by omega) (by omega) (by omega) d hdok
        unfold Deed.cells at hdo
        have HR := Lib.hid (And.intro hdo (And.intro h4 h5))
        clear h1 h2 h3 h4 h5 hact hdok hdo hd
        go_wp2_with fail
        refine HR.out.1.mono ?_
        rintro e w2 ⟨rfl, s2, ρ2, U2, D2, S2, a2, cap2, h1, h2, h3, h4, h5⟩
        clear e0 e1 e2 e3 e4 e5 e6
        have HS := Lib.hid (And.intro h1 (And.intro h2 (And.intro h3 (And.intro h4 h5))))
        obtain ⟨-, g1, g2, -⟩ := shelf_cells h1.head
        have hxl := h1.head.lt
        obtain ⟨L, hL⟩ : ∃ L, L = S2.recs.length := ⟨_, rfl⟩
        have hL9 : L ≤ 100 := by have := HR.out.2.2; omega
        have hln := fun W (hb : Below w2.heap.size w2 W) => sat_len (h1.below hb).at_
        have hal := fun W (hb : Below w2.heap.size w2 W) => sat_all (h1.below hb).at_ (by omega) (fun x hx => by have := h2.small x hx; omega)
        have hsm := fun W (hb : Below w2.heap.size w2 W) g (hg : TextsAt W (some ⟨g, 0, none⟩) S2.recs) => rsame_any S2.recs (some ⟨g, 0, none⟩) a2 S2.recs.length cap2 W hg (h1.below hb).all.texts (by omega)
        have hsu := fun W (hb : Below w2.heap.size w2 W) => sat_sure (h1.below hb).at_
        rw [← hL] at hln hal hsm g2
        obtain ⟨k2, hk2⟩ : ∃ k2, k2 = S2.sure := ⟨_, rfl⟩
        rw [← hk2] at hsu
        have hkl : (k2 : Int) ≤ (L : Int) := by have := h2.sure; omega
        have hsl : k2 ≤ L := by omega
        have HX := Lib.hid (And.intro hln (And.intro hal (And.intro hsm hsu)))
        clear h1 h2 h3 h4 h5 hln hal hsm hsu hL hk2
        go_upto_region 12 with fail
        refine wp_region_held (S := fun W => Below w2.heap.size w2 W) (by kernel_rfl) ?_
        change wpAnyH _ _ _ _ _ _ _ _ (World.drew _)
        have C : Below w2.heap.size w2 w2.drew := (Below.refl _ _).drew
        generalize World.drew w2 = wh at *
        refine wpAnyH_take (i := 0) (v := ?_) rfl (by kernel_rfl) (by kernel_rfl) (by kernel_rfl) (fun _ _ _ h => h) (Or.inl ⟨by kernel_rfl, ?_⟩) C ?_
        rotate_left
        · (intro W hS; clear hS; go_simp; try (with_reducible rfl))
        refine wpAnyH_take (i := 1) (v := ?_) rfl (by kernel_rfl) (by kernel_rfl) (by kernel_rfl) (fun _ _ _ h => h) (Or.inl ⟨by kernel_rfl, ?_⟩) C ?_
        rotate_left
        · (intro W hS; clear hS; go_simp; try (with_reducible rfl))
        refine wpAnyH_take (i := 2) (v := ?_) rfl (by kernel_rfl) (by kernel_rfl) (by kernel_rfl) (fun _ _ _ h => h) (Or.inl ⟨by kernel_rfl, ?_⟩) C ?_
        rotate_left
        · (intro W hS; clear hS; go_simp; try (with_reducible rfl))
        refine wpAnyH_take (i := 3) (v := .pointer (some ⟨s2, 0, none⟩)) rfl (by kernel_rfl) (by kernel_rfl) (by kernel_rfl) (fun _ _ _ h => h) (Or.inl ⟨by kernel_rfl, ?_⟩) C ?_
        · (intro W hS; have hc : W.cell? ⟨xb, 1, none⟩ = some (.pointer (some ⟨s2, 0, none⟩)) := (hS.cell (p := ⟨xb, 1, none⟩) hxl).trans g1; clear hS; go_simp; first | done | (with_reducible rfl) | simp)
        refine wpAnyH_take (i := 5) (v := ?_) rfl (by kernel_rfl) (by kernel_rfl) (by kernel_rfl) (fun _ _ _ h => h) (Or.inl ⟨by kernel_rfl, ?_⟩) C ?_
        rotate_left
        · (intro W hS; clear hS; go_simp; try (with_reducible rfl))
        refine wpAnyH_take (i := 6) (v := ?_) rfl (by kernel_rfl) (by kernel_rfl) (by kernel_rfl) (fun _ _ _ h => h) (Or.inl ⟨by kernel_rfl, ?_⟩) C ?_
        rotate_left
        · (intro W hS; clear hS; go_simp; try (with_reducible rfl))
        refine wpAnyH_take (i := 7) (v := ?_) rfl (by kernel_rfl) (by kernel_rfl) (by kernel_rfl) (fun _ _ _ h => h) (Or.inl ⟨by kernel_rfl, ?_⟩) C ?_
        rotate_left
        · (intro W hS; clear hS; go_simp; try (with_reducible rfl))
        refine wpAnyH_take (i := 8) (v := .slice a2 L cap2) rfl (by kernel_rfl) (by kernel_rfl) (by kernel_rfl) (fun _ _ _ h => h) (Or.inl ⟨by kernel_rfl, ?_⟩) C ?_
        · (intro W hS; have hc : W.cell? ⟨xb, 2, none⟩ = some (.slice a2 L cap2) := (hS.cell (p := ⟨xb, 2, none⟩) hxl).trans g2; clear hS; go_simp; first | done | (with_reducible rfl) | simp)
        refine wpAnyH_take (i := 9) (v := ?_) rfl (by kernel_rfl) (by kernel_rfl) (by kernel_rfl) (fun _ _ _ h => h) (Or.inl ⟨by kernel_rfl, ?_⟩) C ?_
        rotate_left
        · (intro W hS; clear hS; go_simp; try (with_reducible rfl))
        refine wpAnyH_ready (rs := [4]) (by kernel_rfl) (by simp) ?_
        refine AllReadyH.cons rfl (fun K hK => ?_) AllReadyH.nil
        go_simp
        refine (HX.out.1 _ C).mono ?_
        rintro e w3 ⟨rfl, rfl⟩
        refine hK.out _ _ C (fun _ => ?_)
        clear hK K
        refine wpAnyH_take (i := 10) (v := .bool false) rfl (by kernel_rfl) (by kernel_rfl) (by kernel_rfl) (fun _ _ _ h => h) (Or.inl ⟨by kernel_rfl, ?_⟩) C ?_
        · (intro W hS; clear hS; go_simp; first | done | (with_reducible rfl) | (simp; done) | exact hsl)
        refine wpAnyH_take (i := 11) (v := ?_) rfl (by kernel_rfl) (by kernel_rfl) (by kernel_rfl) (fun _ _ _ h => h) (Or.inl ⟨by kernel_rfl, ?_⟩) C ?_
        rotate_left
        · (intro W hS; clear hS; go_simp; try (with_reducible rfl))
        refine wpAnyH_take (i := 12) (v := ?_) rfl (by kernel_rfl) (by kernel_rfl) (by kernel_rfl) (fun _ _ _ h => h) (Or.inl ⟨by kernel_rfl, ?_⟩) C ?_
        rotate_left
        · (intro W hS; clear hS; go_simp; try (with_reducible rfl))
        refine wpAnyH_take (i := 13) (v := ?_) rfl (by kernel_rfl) (by kernel_rfl) (by kernel_rfl) (fun _ _ _ h => h) (Or.inl ⟨by kernel_rfl, ?_⟩) C ?_
        rotate_left
        · (intro W hS; clear hS; go_simp; try (with_reducible rfl))
        refine wpAnyH_take (i := 14) (v := ?_) rfl (by kernel_rfl) (by kernel_rfl) (by kernel_rfl) (fun _ _ _ h => h) (Or.inl ⟨by kernel_rfl, ?_⟩) C ?_
        rotate_left
        · (intro W hS; clear hS; go_simp; try (with_reducible rfl))
        refine wpAnyH_take (i := 15) (v := .pointer (some ⟨s2, 0, none⟩)) rfl (by kernel_rfl) (by kernel_rfl) (by kernel_rfl) (fun _ _ _ h => h) (Or.inl ⟨by kernel_rfl, ?_⟩) C ?_
        · (intro W hS; have hc : W.cell? ⟨xb, 1, none⟩ = some (.pointer (some ⟨s2, 0, none⟩)) := (hS.cell (p := ⟨xb, 1, none⟩) hxl).trans g1; clear hS; go_simp; first | done | (with_reducible rfl) | simp)
        refine wpAnyH_take (i := 17) (v := ?_) rfl (by kernel_rfl) (by kernel_rfl) (by kernel_rfl) (fun _ _ _ h => h) (Or.inl ⟨by kernel_rfl, ?_⟩) C ?_
        rotate_left
        · (intro W hS; clear hS; go_simp; try (with_reducible rfl))
        refine wpAnyH_take (i := 18) (v := ?_) rfl (by kernel_rfl) (by kernel_rfl) (by kernel_rfl) (fun _ _ _ h => h) (Or.inl ⟨by kernel_rfl, ?_⟩) C ?_
        rotate_left
        · (intro W hS; clear hS; go_simp; try (with_reducible rfl))
        refine wpAnyH_take (i := 19) (v := ?_) rfl (by kernel_rfl) (by kernel_rfl) (by kernel_rfl) (fun _ _ _ h => h) (Or.inl ⟨by kernel_rfl, ?_⟩) C ?_
        rotate_left
        · (intro W hS; clear hS; go_simp; try (with_reducible rfl))
        refine wpAnyH_take (i := 20) (v := .slice a2 L cap2) rfl (by kernel_rfl) (by kernel_rfl) (by kernel_rfl) (fun _ _ _ h => h) (Or.inl ⟨by kernel_rfl, ?_⟩) C ?_
        · (intro W hS; have hc : W.cell? ⟨xb, 2, none⟩ = some (.slice a2 L cap2) := (hS.cell (p := ⟨xb, 2, none⟩) hxl).trans g2; clear hS; go_simp; first | done | (with_reducible rfl) | simp)
        refine wpAnyH_ready (rs := [16]) (by kernel_rfl) (by simp) ?_
        refine AllReadyH.cons rfl (fun K hK => ?_) AllReadyH.nil
        go_simp
        refine (HX.out.2.1 _ C).mono ?_
        rintro e w4 ⟨g4, rfl, ho4, hb⟩
        have C := C.trans (hb.mono C.size)
        have hsm := HX.out.2.2.1 w4 C g4 ho4.texts
        refine hK.out _ _ C (fun _ => ?_)
        clear hK K hb ho4
        refine wpAnyH_ready (rs := [21]) (by kernel_rfl) (by simp) ?_
        refine AllReadyH.cons rfl (fun K hK => ?_) AllReadyH.nil
        go_simp
        refine hsm.mono ?_
        rintro e w5 ⟨rfl, hb⟩
        have C := C.trans (hb.mono C.size)
        refine hK.out _ _ C (fun _ => ?_)
        clear hK K hb hsm
        refine wpAnyH_take (i := 22) (v := ?_) rfl (by kernel_rfl) (by kernel_rfl) (by kernel_rfl) (fun _ _ _ h => h) (Or.inl ⟨by kernel_rfl, ?_⟩) C ?_
        rotate_left
        · (intro W hS; clear hS; go_simp; try (with_reducible rfl))
        refine wpAnyH_take (i := 23) (v := ?_) rfl (by kernel_rfl) (by kernel_rfl) (by kernel_rfl) (fun _ _ _ h => h) (Or.inl ⟨by kernel_rfl, ?_⟩) C ?_
        rotate_left
        · (intro W hS; clear hS; go_simp; try (with_reducible rfl))
        refine wpAnyH_take (i := 24) (v := ?_) rfl (by kernel_rfl) (by kernel_rfl) (by kernel_rfl) (fun _ _ _ h => h) (Or.inl ⟨by kernel_rfl, ?_⟩) C ?_
        rotate_left
        · (intro W hS; clear hS; go_simp; try (with_reducible rfl))
        refine wpAnyH_take (i := 25) (v := ?_) rfl (by kernel_rfl) (by kernel_rfl) (by kernel_rfl) (fun _ _ _ h => h) (Or.inl ⟨by kernel_rfl, ?_⟩) C ?_
        rotate_left
        · (intro W hS; clear hS; go_simp; try (with_reducible rfl))
        refine wpAnyH_take (i := 26) (v := ?_) rfl (by kernel_rfl) (by kernel_rfl) (by kernel_rfl) (fun _ _ _ h => h) (Or.inl ⟨by kernel_rfl, ?_⟩) C ?_
        rotate_left
        · (intro W hS; clear hS; go_simp; try (with_reducible rfl))
        refine wpAnyH_take (i := 27) (v := ?_) rfl (by kernel_rfl) (by kernel_rfl) (by kernel_rfl) (fun _ _ _ h => h) (Or.inl ⟨by kernel_rfl, ?_⟩) C ?_
        rotate_left
        · (intro W hS; clear hS; go_simp; try (with_reducible rfl))
        refine wpAnyH_take (i := 28) (v := .pointer (some ⟨s2, 0, none⟩)) rfl (by kernel_rfl) (by kernel_rfl) (by kernel_rfl) (fun _ _ _ h => h) (Or.inl ⟨by kernel_rfl, ?_⟩) C ?_
        · (intro W hS; have hc : W.cell? ⟨xb, 1, none⟩ = some (.pointer (some ⟨s2, 0, none⟩)) := (hS.cell (p := ⟨xb, 1, none⟩) hxl).trans g1; clear hS; go_simp; first | done | (with_reducible rfl) | simp)
        refine wpAnyH_take (i := 30) (v := ?_) rfl (by kernel_rfl) (by kernel_rfl) (by kernel_rfl) (fun _ _ _ h => h) (Or.inl ⟨by kernel_rfl, ?_⟩) C ?_
        rotate_left
        · (intro W hS; clear hS; go_simp; try (with_reducible rfl))
        refine wpAnyH_take (i := 31) (v := ?_) rfl (by kernel_rfl) (by kernel_rfl) (by kernel_rfl) (fun _ _ _ h => h) (Or.inl ⟨by kernel_rfl, ?_⟩) C ?_
        rotate_left
        · (intro W hS; clear hS; go_simp; try (with_reducible rfl))
        refine wpAnyH_take (i := 32) (v := ?_) rfl (by kernel_rfl) (by kernel_rfl) (by kernel_rfl) (fun _ _ _ h => h) (Or.inl ⟨by kernel_rfl, ?_⟩) C ?_
        rotate_left
        · (intro W hS; clear hS; go_simp; try (with_reducible rfl))
        refine wpAnyH_take (i := 33) (v := .slice a2 L cap2) rfl (by kernel_rfl) (by kernel_rfl) (by kernel_rfl) (fun _ _ _ h => h) (Or.inl ⟨by kernel_rfl, ?_⟩) C ?_
        · (intro W hS; have hc : W.cell? ⟨xb, 2, none⟩ = some (.slice a2 L cap2) := (hS.cell (p := ⟨xb, 2, none⟩) hxl).trans g2; clear hS; go_simp; first | done | (with_reducible rfl) | simp)
        refine wpAnyH_take (i := 34) (v := ?_) rfl (by kernel_rfl) (by kernel_rfl) (by kernel_rfl) (fun _ _ _ h => h) (Or.inl ⟨by kernel_rfl, ?_⟩) C ?_
        rotate_left
        · (intro W hS; clear hS; go_simp; try (with_reducible rfl))
        refine wpAnyH_ready (rs := [29]) (by kernel_rfl) (by simp) ?_
        refine AllReadyH.cons rfl (fun K hK => ?_) AllReadyH.nil
        go_simp
        refine (HX.out.2.2.2 _ C).mono ?_
        rintro e w3 ⟨rfl, rfl⟩
        refine hK.out _ _ C (fun _ => ?_)
        clear hK K
        refine wpAnyH_take (i := 35) (v := .bool false) rfl (by kernel_rfl) (by kernel_rfl) (by kernel_rfl) (fun _ _ _ h => h) (Or.inl ⟨by kernel_rfl, ?_⟩) C ?_
        · (intro W hS; clear hS; go_simp; first | done | (with_reducible rfl) | (simp; done) | exact hsl)
        refine wpAnyH_take (i := 36) (v := ?_) rfl (by kernel_rfl) (by kernel_rfl) (by kernel_rfl) (fun _ _ _ h => h) (Or.inl ⟨by kernel_rfl, ?_⟩) C ?_
        rotate_left
        · (intro W hS; clear hS; go_simp; try (with_reducible rfl))
        refine wpAnyH_done (by kernel_rfl) ?_ _
        go_simp
        have HE := Lib.hid C
        clear C g1 g2 hxl hkl hsl
        go_wp2_with fail
        go_roundw
        case rel => exact ⟨i + 1, by omega, by go_num, s2, ρ2, U2, D2, S2, a2, cap2, HS.out.1.below HE.out, HS.out.2.1.mono (by omega), HS.out.2.2.1.mono (by omega), HS.out.2.2.2.1.trans HR.out.2.1, by have := HS.out.2.2.2.2; have := HR.out.2.2; omega⟩
        case measure => simp [intOf]; omega
      · obtain rfl : i = Q := by omega
        have hfd := failD_any h1.at_.disk (h3.small (by omega)) 0 0
        have HR := Lib.hid (And.intro hfd (And.intro h1 (And.intro h2 (And.intro h3 (And.intro h4 h5)))))
        clear hfd h1 h2 h3 h4 h5
        go_wp2_with fail
        refine HR.out.1.mono ?_
        rintro e w6 ⟨rfl, ρ6, hD6, ht6⟩
        have hx6 := HR.out.2.1.touch hD6 (TouchX.of ht6)
        obtain ⟨y1, y2, y3, y4⟩ := HR.out.2.2.1.fail 0 0
        have hst := stands_any hx6.left y2 y3 (by rw [y4, HR.out.2.2.2.2.1]; have := H.out.2.2.2.1; omega) (by omega) (HR.out.2.2.2.1.fail 0 0) (by omega) (by have := HR.out.2.2.2.2.2; omega)
        have H6 := Lib.hid hst
        clear hst hx6 hD6 ht6 y1 y2 y3 y4
        go_wp2_with fail
        refine H6.out.mono ?_
        rintro e w7 ⟨rfl, s7, ρ7, U7, D7, S7, a7, cap7, z1, z2, z3, z4, z5⟩
        have H7 := Lib.hid z1
        clear z1 z2 z3 z4 z5
        go_wp2_with fail
        go_ret
        exact ⟨rfl, H7.out.ctx.low⟩
end Go.Proofs.YtdmbombjkinboaaGreat

namespace Go.Proofs.YtdmbombjkinboaaGreat.segsStayLaw
open Go.ChangeShapes Go.WideShapes Go.ChangeAt Go.RowKit
open Go.ChangeMaps (open_string shut_string)

theorem own : ownKnob Tryz.prog.godebug = none := by kernel_rfl
set_option maxRecDepth 100000 in
theorem lifted (os : Os) (started : os.Started) (H : Type) (enc : TypeId × Value → H) :
    ReturnsInHanded {} Tryz.checked os 3 .any (Rows.segsStaySpec.pre6 enc Tryz.prog Tryz.f3 Rows.segsStayRow.domain false) (Rows.segsStaySpec.post enc Tryz.prog Tryz.f3 false true false false) := by
  refine returnsInHanded_of_change (C := Tryz.checked) own started (by kernel_rfl) Tryz.func3
    (ChangeSpec.witness6 (enc := enc) (C := Tryz.checked) false ⟨#[], #[.int .i64 0, .int .i64 0, .slice none 0 0], []⟩ 8 (by kernel_rfl) (by kernel_rfl) (by kernel_rfl) (by kernel_rfl)) ?_
  intro W base args ds gs before hval0 hW hcnd _
  have hval : ∀ (j : Nat) t v, Tryz.f3.params[j]? = some t → args[j]? = some v → Value.okWide Tryz.prog W .any base t v := hval0
  have hW' := hW
  obtain ⟨p, q, hA0, hV, rfl, hfz, hnd⟩ := hW
  have hA : DataW.TrodAll enc Tryz.prog W 0 (fun _ => true) true Tryz.f3.params.toList args.toList ds p := hA0
  rw [Tryz.params3] at hA hval
  obtain ⟨v0, vs0, d0, ds0, p0, q0, hargs, rfl, rfl, h0, r0⟩ := trodAll_cons hA
  obtain ⟨v1, vs1, d1, ds1, p1, q1, rfl, rfl, rfl, h1, r1⟩ := trodAll_cons r0
  obtain ⟨v2, vs2, d2, ds2, p2, q2, rfl, rfl, rfl, h2, r2⟩ := trodAll_cons r1
  obtain ⟨rfl, rfl, rfl⟩ := trodAll_nil r2
  obtain rfl : args = #[v0, v1, v2] := by cases args; simp_all
  obtain ⟨rfl, rfl⟩ := trodVars_none hV
  obtain ⟨n0, rfl, rfl, rfl, ws0⟩ := open_int Tryz.underlying3 (hval 0 3 v0 rfl rfl) h0
  have hbd0 := ws0
  simp only [Lit.wf, Bool.and_eq_true, decide_eq_true_eq] at hbd0
  obtain ⟨n1, rfl, rfl, rfl, ws1⟩ := open_int Tryz.underlying3 (hval 1 3 v1 rfl rfl) h1
  have hbd1 := ws1
  simp only [Lit.wf, Bool.and_eq_true, decide_eq_true_eq] at hbd1
  obtain ⟨a2, len2, cap2, rfl⟩ := okWide_slice Tryz.underlying22 (hval 2 22 v2 rfl rfl)
  have hk2 := h2
  obtain ⟨fuel2, hf2⟩ := h2
  clear hA0 hval0
  simp only [List.append_nil, List.nil_append] at hW'
  have hlt2 : ∀ x ∈ p2, x.block < W.heap.size := fun x hx => by simpa using hW'.lt x (by simp [hx])
  obtain ⟨ss2, hlen2, hmax2, hT2⟩ := acts_of hf2 hlt2
  subst hlen2
  refine (sstay_law n0 hbd0.1 hbd0.2 n1 hbd1.1 hbd1.2 ss2 a2 cap2 hT2 hmax2 (w := W)).mono fun e W' ⟨he, hb⟩ => ?_
  subst he
  exact ⟨_, rfl, _, _, _, [], _, [], hW', trodAll_cons_mk (shut_bool Tryz.underlying4 _) trodAll_mk0, (trodAll_cons_mk (shut_int Tryz.underlying3 ws0) (trodAll_cons_mk (shut_int Tryz.underlying3 ws1) (trodAll_cons_mk (Below.trod laidOut (by kernel_rfl) (of_decide_eq_true (by kernel_rfl)) hk2 hb hlt2) trodAll_mk0))), rfl, hb.frame _, fun h => by cases h⟩
theorem over : Rows.segsStayRow.holds Tryz.pinned (OpenSpec.ofChange Rows.segsStaySpec) :=
  OpenClaim.holds_of_wide 3 Tryz.f3 rfl rfl rfl rfl rfl rfl rfl ⟨rfl, rfl, rfl, rfl, rfl⟩ rfl rfl rfl rfl rfl (by kernel_rfl) Tryz.func3 (by kernel_rfl)
    (of_decide_eq_true (by kernel_rfl)) (by unfold Func.isWrapper; first | (rw [if_pos (by decide +kernel)]; kernel_rfl) | (rw [if_neg (by decide +kernel)]; exact ⟨rfl, rfl⟩))
    (fun os started H enc _ => lifted os started H enc)
end Go.Proofs.YtdmbombjkinboaaGreat.segsStayLaw

namespace Go.Proofs.YtdmbombjkinboaaGreat
theorem segsStay_said : Rows.SegsStaySaid := segsStayLaw.over
end Go.Proofs.YtdmbombjkinboaaGreat
