/- PROVED HERE: for every list of acts the law SegsHold returns true (behind each act what the disk's extents hold is what the document says: lists, heads, and a frame for each record; how many records each segment has, and how many extents are left), and all read afterwards as they did. No condition. -/
import Derived.Test.YtdmbombjkinboaaGreatYDo2
import Derived.Test.YtdmbombjkinboaaGreatYFewD
import Derived.Test.YtdmbombjkinboaaGreatYSegm
import Derived.Test.YtdmbombjkinboaaGreatRows
import Derived.ProofKit
import Derived.OpenShut
namespace Go.Proofs.YtdmbombjkinboaaGreat
open Go.RowKit
open Dk Sg Fr

/-- The shelf at its beginning. -/
theorem shelf_new {w0 w2 w3 : World} {ρ ρ3 : Nat → Nat} {U3 : Nat → Prop} {s b n N M : Nat} {D D3 : Disk} {S3 : Stor} (hc : Ctx w0.heap.size w0 w2 ρ (fun _ => False)) (hst : Stands ρ b n N M [] D w2 s ρ3 U3 D3 S3 w3) :
    Sh w0.heap.size w0 (w3.alloc (.cells #[.pointer (some ⟨b, 0, none⟩), .pointer (some ⟨s, 0, none⟩), .slice none 0 0, .int .i64 0] 32)) ρ3 U3 s b w3.heap.size D3 S3 none 0 := by
  have hb : Below w3.heap.size w3 (w3.alloc (.cells #[.pointer (some ⟨b, 0, none⟩), .pointer (some ⟨s, 0, none⟩), .slice none 0 0, .int .i64 0] 32)) := (Below.refl _ _).alloc (Nat.le_refl _) _
  have hc3 := hc.new hst.touch hst.new
  refine ⟨hst.at_.below hb, hc3.below hb, ?_, ?_, hc3.size, ⟨hst.at_.disk.raw.lab _ (Nat.le_refl _), fun u => by have := (hst.at_.off _ u).2; omega⟩, fun g hg => ?_⟩
  · rw [hst.recs, hst.sure]; exact heap_alloc_new _ _
  · rw [hst.recs]; exact World.ownsRow_nil _ _ _ _
  · rw [hst.recs] at hg; simp [Value.ownBlock] at hg
/-- Segments of a store that stands. -/
theorem sat_segm {w : World} {ρ : Nat → Nat} {U : Nat → Prop} {s b : Nat} {D : Disk} {S : Stor} {l : List (Nat × List ByteArray)} (h : SAt w ρ U s b D S) (hs : S.segs = segsAt l l.length) (hr : S.recs = Sg.flat l) (hne : l ≠ []) (hn : (Sg.flat l).length ≤ 1000000) (hM62 : l.length ≤ 62) :
    Calls Tryz.prog 23 #[.pointer (some ⟨s, 0, none⟩)] w fun e w' => ∃ g, e = .returned (.slice (some ⟨g, 0, none⟩) l.length l.length) ∧ OwnN w.heap.size w' (some ⟨g, 0, none⟩) l.length (l.map (fun s => s.2.length)) ∧ Below w.heap.size w w' := by
  obtain ⟨a, cap, ar, cr, h1, h2, h3, h4, h5⟩ := h.body
  exact ssegm_any h1 h2 hs hr hne hn hM62
set_option maxRecDepth 100000 in
set_option maxHeartbeats 4000000 in
theorem shold_law (l : List Deed) (a0 : Option Addr) (cap : Nat) (w : World) (hA : ActsAt w a0 l) (hm : l.length ≤ maxLen) :
    Calls Tryz.prog 4 #[.slice a0 l.length cap] w fun e w' => e = .returned (.bool true) ∧ Below w.heap.size w w' := by
  have hnew := new_any 6 1200 (by decide) (by decide) (by decide) (by decide) w
  have hfw := fun W (hb : Below w.heap.size w W) => few12_any (hA.below hb) hm cap
  obtain ⟨Q, hQ⟩ : ∃ Q, Q = l.length := ⟨_, rfl⟩
  rw [← hQ] at hfw ⊢
  have H := Lib.hid (And.intro hnew (And.intro hfw (And.intro hA hQ)))
  clear hnew hfw hA hQ hm
  go_enter Tryz.func4, Tryz.ntmps4
  go_wp2_with fail
  refine H.out.1.mono ?_
  rintro e w1 ⟨b, ρ, rfl, hD, hF, hb1⟩
  have H1 := Lib.hid (And.intro hD (And.intro hF hb1))
  clear hD hF hb1
  go_wp2_with fail
  refine (H.out.2.1 _ H1.out.2.2).mono ?_
  rintro e w2 ⟨tt, rfl, hfew, hb2⟩
  have H2 := Lib.hid (And.intro hfew (H1.out.2.2.trans (hb2.mono H1.out.2.2.size)))
  have hD2 := H1.out.1.below hb2
  cases tt with
  | false =>
    clear hfew hb2
    go_wp2_with fail
    refine (awake_s _).mono ?_
    rintro e w3 ⟨rfl, hb3⟩
    have HB := Lib.hid (H2.out.2.trans (hb3.mono H2.out.2.size))
    clear hb3
    go_wp2_with fail
    go_ret
    exact ⟨rfl, HB.out⟩
  | true =>
    have hQ60 : Q ≤ 60 := hfew rfl
    have HD2 := Lib.hid hD2
    clear hfew hb2 hD2
    go_wp2_with fail
    refine (awake_s _).mono ?_
    rintro e w3 ⟨rfl, hb3⟩
    have hag := again_any (n := 6) (N := 0) (M := 0) (R := []) (HD2.out.below hb3) rfl ⟨_, _, _, _, Img.new (by decide) (by decide), rfl⟩ (show (1024 : Int) ≤ (1200 : Int) by decide) (by decide) (Bud.new (by decide) (by decide) (by decide)) (by decide)
    have hc3 : Ctx w.heap.size w w3 ρ (fun _ => False) := ⟨H2.out.2.trans (hb3.mono H2.out.2.size), Nat.le_refl _, H1.out.2.1, fun _ _ k => k⟩
    have H3 := Lib.hid (And.intro hag hc3)
    clear hag hc3 hb3
    go_wp2_with fail
    refine H3.out.1.mono ?_
    rintro e w4 ⟨s, ρ4, U4, D4, S4, rfl, hst⟩
    have hsh := shelf_new H3.out.2 hst
    obtain ⟨xb, hxb⟩ : ∃ xb, xb = w4.heap.size := ⟨_, rfl⟩
    have H4 := Lib.hid (And.intro hsh hst)
    have hcx := shelf_cells (heap_alloc_new w4 (.cells #[.pointer (some ⟨b, 0, none⟩), .pointer (some ⟨s, 0, none⟩), .slice none 0 0, .int .i64 0] 32) : ShelfAt _ _ b (.pointer (some ⟨s, 0, none⟩)) (.slice none 0 0) 0)
    obtain ⟨-, g1, -, -⟩ := hcx
    clear hsh hst hxb xb
    go_upto_region 5 with fail
    generalize World.alloc w4 _ = w5 at *
    go_wp2_with fail
    clear g1
    obtain ⟨xb, hxb⟩ : ∃ xb, xb = w4.heap.size := ⟨_, rfl⟩
    rw [← hxb]
    have hsh5 := H4.out.1
    rw [← hxb] at hsh5
    have H5 := Lib.hid hsh5
    clear hsh5 hxb
    go_loopw [5, 6, 7, 8, 9, 10] (fun iv _ _ _ _ _ wr => ∃ i : Nat, i ≤ Q ∧ iv = .int .i64 i ∧ ∃ s2 ρ2 U2 D2 S2 a2 cap2, Sh w.heap.size w wr ρ2 U2 s2 b xb D2 S2 a2 cap2 ∧ Live 6 (2 + 3 * i) D2 S2 ∧ Bud (14 + 20 * i) D2 ∧ S2.recs.length ≤ i) (fun iv _ _ _ _ _ _ => Q - (intOf iv).toNat)
    case atStart => exact ⟨0, by omega, rfl, s, ρ4, U4, D4, S4, none, 0, H5.out, H4.out.2.live, H4.out.2.bud, by rw [H4.out.2.recs]; exact Nat.le_refl _⟩
    case round =>
      obtain ⟨i, hi, rfl, s2, ρ2, U2, D2, S2, a2, cap2, h1, h2, h3, h5⟩ := hrel
      by_cases hlt : i < Q
      · obtain ⟨d, hd⟩ : ∃ d, l[i]? = some d := ⟨_, List.getElem?_eq_getElem (by have := H.out.2.2.2; omega)⟩
        have hact := H.out.2.2.1.below h1.ctx.low
        obtain ⟨hdok, -⟩ := hact i d hd
        obtain ⟨ga, oa, rfl, hga, e0, e1, e2, e3, e4, e5, e6⟩ := hact.cellsAt hd
        have hdo := sdo_any h1 h2 h3 (by omega) (by omega) (by omega) d hdok
        unfold Deed.cells at hdo
        have HR := Lib.hid (And.intro hdo h5)
        clear h1 h2 h3 h5 hact hdok hdo hd
        go_wp2_with fail
        refine HR.out.1.mono ?_
        rintro e w2 ⟨rfl, s2, ρ2, U2, D2, S2, a2, cap2, h1, h2, h3, h4, h5⟩
        clear e0 e1 e2 e3 e4 e5 e6
        have HS := Lib.hid (And.intro h1 (And.intro h2 (And.intro h3 (And.intro h4 h5))))
        obtain ⟨Ls, c, sl, him, hfit, hne⟩ := h2.img
        obtain ⟨-, g1, -, -⟩ := shelf_cells h1.head
        have hxl := h1.head.lt
        obtain ⟨L, hL⟩ : ∃ L, L = S2.recs.length := ⟨_, rfl⟩
        have hL9 : L ≤ 100 := by have := HR.out.2; omega
        obtain ⟨M, hM⟩ : ∃ M, M = sl.length := ⟨_, rfl⟩
        have hM4 : M ≤ 4 := by have := him.num; omega
        have hMe : c.2.exts.length = M := by rw [hM, ← him.exts, List.length_map]
        have hnl : D2.now.length = 6 := him.len
        have hfl : (Sg.flat sl).length = L := by rw [hL, hfit.recs]
        have hz := h1.at_.disk.ok.fits.all
        have hex := sext_any h1.at_.disk h2.up
        have hla := fun W a cp hT => rlast_any him hz a cp W hT
        have hri := fun W a cp hT => rright_any him hne hz (by omega) a cp W hT
        have hre := fun W a cp hT => rrecs_any him hz (by omega) a cp W hT
        have hal := fun W (hb : Below w2.heap.size w2 W) => sat_all (h1.below hb).at_ (by omega) (fun x hx => by have := h2.small x hx; omega)
        have hln := fun W (hb : Below w2.heap.size w2 W) => sat_len (h1.below hb).at_
        have hlf := fun W (hb : Below w2.heap.size w2 W) => sat_left (h1.below hb).at_ (by have := hfit.num; omega)
        have hsg := fun W (hb : Below w2.heap.size w2 W) => sat_segm (h1.below hb).at_ hfit.segs hfit.recs hne (by omega) (by omega)
        have hsm := fun W a cp g (hT : TextsAt W a S2.recs) (hg : TextsAt W (some ⟨g, 0, none⟩) S2.recs) => rsame_any S2.recs a (some ⟨g, 0, none⟩) cp S2.recs.length W hT hg (by omega)
        have hlv : leftS D2 S2 = 4 - (M : Int) := by
          unfold leftS
          have := h2.num.1
          have := hfit.num
          omega
        rw [hnl] at hex hla hri hre
        rw [hMe] at hla
        rw [hlv] at hlf
        rw [← hL] at hln hal hsm
        rw [← hM] at hsg
        rw [hfl, ← hfit.recs] at hre
        obtain ⟨ep, hep⟩ : ∃ ep, ep = c.2.epoch := ⟨_, rfl⟩
        rw [← hep] at hla
        have hss : ∀ p, p < M → (sl.map (fun s => s.2.length))[p]? = some (cntL sl p) ∧ ahead sl (p + 1) = ahead sl p + cntL sl p := fun p hp => ⟨cntL_map (by omega), cntL_next (by omega)⟩
        have haM : ahead sl M = L := by rw [hM, ahead_all, hfl]
        have hal9 : ∀ p, ahead sl p ≤ L := fun p => by rw [← hfl]; exact ahead_le sl p
        have HX := Lib.hid (And.intro hex (And.intro hla (And.intro hri (And.intro hre (And.intro hal (And.intro hln (And.intro hlf (And.intro hsg (And.intro hsm (And.intro hss (And.intro haM hal9)))))))))))
        clear h1 h2 h3 h4 h5 him hfit hne hM hMe hnl hfl hz hex hla hri hre hal hln hlf hsg hsm hlv hL hep hss haM hal9
        go_wp2_with fail
        refine HX.out.1.mono ?_
        rintro e w3 ⟨an, cn, rfl, hon, hb3⟩
        have hT3 := hon.texts
        have H3' := Lib.hid (And.intro hT3 hb3)
        clear hon hT3 hb3
        go_wp2_with fail
        refine (HX.out.2.1 _ _ _ H3'.out.1).mono ?_
        rintro e w4 ⟨ao, co, rfl, -, hb4⟩
        have hba : Below w4.heap.size w4 (w4.alloc (.cells #[.int .i64 (ep : Int), .slice ao M co] 46)) := (Below.refl _ _).alloc (Nat.le_refl _) _
        have hgn := heap_alloc_new w4 (.cells #[.int .i64 (ep : Int), .slice ao M co] 46)
        have hb34 := hb4.trans (hba.mono hb4.size)
        have hb24 := H3'.out.2.trans (hb34.mono H3'.out.2.size)
        have hT5 := H3'.out.1.below hb34
        have hsz5 : (w4.alloc (.cells #[.int .i64 (ep : Int), .slice ao M co] 46)).heap.size = w4.heap.size + 1 := by simp
        have H5' := Lib.hid (And.intro hb24 (And.intro hT5 hgn))
        clear hba hb4 hb34 hb24 hT5 hgn
        go_upto_region 14 with fail
        generalize World.alloc w4 _ = w5 at *
        have g15 : w5.cell? ⟨xb, 1, none⟩ = some (.pointer (some ⟨s2, 0, none⟩)) := (H5'.out.1.cell (p := ⟨xb, 1, none⟩) hxl).trans g1
        have hx5 : xb < w5.heap.size := Nat.lt_of_lt_of_le hxl H5'.out.1.size
        have g25 : w5.cell? ⟨w4.heap.size, 1, none⟩ = some (.slice ao M co) := by rw [cell_of_row _ _ _ _ _ _ H5'.out.2.2]; rfl
        have hx4 : w4.heap.size < w5.heap.size := by omega
        have hM4' : (M : Int) ≤ 4 := by omega
        have HWR := Lib.hid (show 4 - (M : Int) = IntKind.i64.wrap (4 - (M : Int)) by rw [IntKind.wrap_i64]; omega)
        refine wp_region_held (S := fun W => Below w5.heap.size w5 W) (by kernel_rfl) ?_
        change wpAnyH _ _ _ _ _ _ _ _ (World.drew _)
        have C : Below w5.heap.size w5 w5.drew := (Below.refl _ _).drew
        generalize World.drew w5 = wh at *
        refine wpAnyH_take (i := 0) (v := ?_) rfl (by kernel_rfl) (by kernel_rfl) (by kernel_rfl) (fun _ _ _ h => h) (Or.inl ⟨by kernel_rfl, ?_⟩) C ?_
        rotate_left
        · (intro W hS; clear hS; go_simp; try (with_reducible rfl))
        refine wpAnyH_ready (rs := [1]) (by kernel_rfl) (by simp) ?_
        refine AllReadyH.cons rfl (fun K hK => ?_) AllReadyH.nil
        go_simp
        refine (HX.out.2.2.1 _ _ _ (H5'.out.2.1.below C)).mono ?_
        rintro e w6 ⟨rfl, hb⟩
        have C := C.trans (hb.mono C.size)
        refine hK.out _ _ C (fun _ => ?_)
        clear hK K hb
        refine wpAnyH_take (i := 2) (v := ?_) rfl (by kernel_rfl) (by kernel_rfl) (by kernel_rfl) (fun _ _ _ h => h) (Or.inl ⟨by kernel_rfl, ?_⟩) C ?_
        rotate_left
        · (intro W hS; clear hS; go_simp; try (with_reducible rfl))
        refine wpAnyH_take (i := 3) (v := ?_) rfl (by kernel_rfl) (by kernel_rfl) (by kernel_rfl) (fun _ _ _ h => h) (Or.inl ⟨by kernel_rfl, ?_⟩) C ?_
        rotate_left
        · (intro W hS; clear hS; go_simp; try (with_reducible rfl))
        refine wpAnyH_take (i := 4) (v := ?_) rfl (by kernel_rfl) (by kernel_rfl) (by kernel_rfl) (fun _ _ _ h => h) (Or.inl ⟨by kernel_rfl, ?_⟩) C ?_
        rotate_left
        · (intro W hS; clear hS; go_simp; try (with_reducible rfl))
        refine wpAnyH_take (i := 6) (v := ?_) rfl (by kernel_rfl) (by kernel_rfl) (by kernel_rfl) (fun _ _ _ h => h) (Or.inl ⟨by kernel_rfl, ?_⟩) C ?_
        rotate_left
        · (intro W hS; clear hS; go_simp; try (with_reducible rfl))
        refine wpAnyH_take (i := 7) (v := ?_) rfl (by kernel_rfl) (by kernel_rfl) (by kernel_rfl) (fun _ _ _ h => h) (Or.inl ⟨by kernel_rfl, ?_⟩) C ?_
        rotate_left
        · (intro W hS; clear hS; go_simp; try (with_reducible rfl))
        refine wpAnyH_take (i := 8) (v := ?_) rfl (by kernel_rfl) (by kernel_rfl) (by kernel_rfl) (fun _ _ _ h => h) (Or.inl ⟨by kernel_rfl, ?_⟩) C ?_
        rotate_left
        · (intro W hS; clear hS; go_simp; try (with_reducible rfl))
        refine wpAnyH_take (i := 9) (v := .pointer (some ⟨s2, 0, none⟩)) rfl (by kernel_rfl) (by kernel_rfl) (by kernel_rfl) (fun _ _ _ h => h) (Or.inl ⟨by kernel_rfl, ?_⟩) C ?_
        · (intro W hS; have hc : W.cell? ⟨xb, 1, none⟩ = some (.pointer (some ⟨s2, 0, none⟩)) := (hS.cell (p := ⟨xb, 1, none⟩) hx5).trans g15; clear hS; go_simp; first | done | (with_reducible rfl) | simp)
        refine wpAnyH_ready (rs := [5]) (by kernel_rfl) (by simp) ?_
        refine AllReadyH.cons rfl (fun K hK => ?_) AllReadyH.nil
        go_simp
        refine (HX.out.2.2.2.1 _ _ _ (H5'.out.2.1.below C)).mono ?_
        rintro e w7 ⟨ar, cr, rfl, hor, hb⟩
        have C := C.trans (hb.mono C.size)
        refine hK.out _ _ C (fun _ => ?_)
        clear hK K hb
        refine wpAnyH_ready (rs := [10]) (by kernel_rfl) (by simp) ?_
        refine AllReadyH.cons rfl (fun K hK => ?_) AllReadyH.nil
        go_simp
        refine (HX.out.2.2.2.2.1 _ (H5'.out.1.trans (C.mono H5'.out.1.size))).mono ?_
        rintro e w8 ⟨g8, rfl, ho8, hb⟩
        have hsm := HX.out.2.2.2.2.2.2.2.2.1 w8 ar cr g8 (hor.texts.below hb) ho8.texts
        clear hor ho8
        have C := C.trans (hb.mono C.size)
        refine hK.out _ _ C (fun _ => ?_)
        clear hK K hb
        refine wpAnyH_ready (rs := [11]) (by kernel_rfl) (by simp) ?_
        refine AllReadyH.cons rfl (fun K hK => ?_) AllReadyH.nil
        go_simp
        refine (hsm).mono ?_
        rintro e w9 ⟨rfl, hb⟩
        have C := C.trans (hb.mono C.size)
        refine hK.out _ _ C (fun _ => ?_)
        clear hK K hb
        clear hsm
        refine wpAnyH_take (i := 12) (v := ?_) rfl (by kernel_rfl) (by kernel_rfl) (by kernel_rfl) (fun _ _ _ h => h) (Or.inl ⟨by kernel_rfl, ?_⟩) C ?_
        rotate_left
        · (intro W hS; clear hS; go_simp; try (with_reducible rfl))
        refine wpAnyH_take (i := 13) (v := ?_) rfl (by kernel_rfl) (by kernel_rfl) (by kernel_rfl) (fun _ _ _ h => h) (Or.inl ⟨by kernel_rfl, ?_⟩) C ?_
        rotate_left
        · (intro W hS; clear hS; go_simp; try (with_reducible rfl))
        refine wpAnyH_take (i := 14) (v := ?_) rfl (by kernel_rfl) (by kernel_rfl) (by kernel_rfl) (fun _ _ _ h => h) (Or.inl ⟨by kernel_rfl, ?_⟩) C ?_
        rotate_left
        · (intro W hS; clear hS; go_simp; try (with_reducible rfl))
        refine wpAnyH_take (i := 15) (v := ?_) rfl (by kernel_rfl) (by kernel_rfl) (by kernel_rfl) (fun _ _ _ h => h) (Or.inl ⟨by kernel_rfl, ?_⟩) C ?_
        rotate_left
        · (intro W hS; clear hS; go_simp; try (with_reducible rfl))
        refine wpAnyH_take (i := 16) (v := ?_) rfl (by kernel_rfl) (by kernel_rfl) (by kernel_rfl) (fun _ _ _ h => h) (Or.inl ⟨by kernel_rfl, ?_⟩) C ?_
        rotate_left
        · (intro W hS; clear hS; go_simp; try (with_reducible rfl))
        refine wpAnyH_take (i := 17) (v := ?_) rfl (by kernel_rfl) (by kernel_rfl) (by kernel_rfl) (fun _ _ _ h => h) (Or.inl ⟨by kernel_rfl, ?_⟩) C ?_
        rotate_left
        · (intro W hS; clear hS; go_simp; try (with_reducible rfl))
        refine wpAnyH_take (i := 18) (v := .pointer (some ⟨s2, 0, none⟩)) rfl (by kernel_rfl) (by kernel_rfl) (by kernel_rfl) (fun _ _ _ h => h) (Or.inl ⟨by kernel_rfl, ?_⟩) C ?_
        · (intro W hS; have hc : W.cell? ⟨xb, 1, none⟩ = some (.pointer (some ⟨s2, 0, none⟩)) := (hS.cell (p := ⟨xb, 1, none⟩) hx5).trans g15; clear hS; go_simp; first | done | (with_reducible rfl) | simp)
        refine wpAnyH_take (i := 20) (v := ?_) rfl (by kernel_rfl) (by kernel_rfl) (by kernel_rfl) (fun _ _ _ h => h) (Or.inl ⟨by kernel_rfl, ?_⟩) C ?_
        rotate_left
        · (intro W hS; clear hS; go_simp; try (with_reducible rfl))
        refine wpAnyH_take (i := 21) (v := .slice ao M co) rfl (by kernel_rfl) (by kernel_rfl) (by kernel_rfl) (fun _ _ _ h => h) (Or.inl ⟨by kernel_rfl, ?_⟩) C ?_
        · (intro W hS; have hc : W.cell? ⟨w4.heap.size, 1, none⟩ = some (.slice ao M co) := (hS.cell (p := ⟨w4.heap.size, 1, none⟩) hx4).trans g25; clear hS; go_simp; first | done | (with_reducible rfl) | simp)
        refine wpAnyH_take (i := 22) (v := ?_) rfl (by kernel_rfl) (by kernel_rfl) (by kernel_rfl) (fun _ _ _ h => h) (Or.inl ⟨by kernel_rfl, ?_⟩) C ?_
        rotate_left
        · (intro W hS; clear hS; go_simp; try (with_reducible rfl))
        refine wpAnyH_take (i := 23) (v := ?_) rfl (by kernel_rfl) (by kernel_rfl) (by kernel_rfl) (fun _ _ _ h => h) (Or.inl ⟨by kernel_rfl, ?_⟩) C ?_
        rotate_left
        · (intro W hS; clear hS; go_simp; try (with_reducible rfl))
        refine wpAnyH_ready (rs := [19]) (by kernel_rfl) (by simp) ?_
        refine AllReadyH.cons rfl (fun K hK => ?_) AllReadyH.nil
        go_simp
        refine (HX.out.2.2.2.2.2.2.1 _ (H5'.out.1.trans (C.mono H5'.out.1.size))).mono ?_
        rintro e w10 ⟨rfl, hb⟩
        have C := C.trans (hb.mono C.size)
        refine hK.out _ _ C (fun _ => ?_)
        clear hK K hb
        refine wpAnyH_take (i := 24) (v := .bool false) rfl (by kernel_rfl) (by kernel_rfl) (by kernel_rfl) (fun _ _ _ h => h) (Or.inl ⟨by kernel_rfl, ?_⟩) C ?_
        · (intro W hS; clear hS; go_simp; first | done | (with_reducible rfl) | exact HWR.out | (simp; done))
        refine wpAnyH_take (i := 25) (v := ?_) rfl (by kernel_rfl) (by kernel_rfl) (by kernel_rfl) (fun _ _ _ h => h) (Or.inl ⟨by kernel_rfl, ?_⟩) C ?_
        rotate_left
        · (intro W hS; clear hS; go_simp; try (with_reducible rfl))
        refine wpAnyH_done (by kernel_rfl) ?_ _
        go_simp
        have C5 := H5'.out.1.trans (C.mono H5'.out.1.size)
        have hg1 : w10.cell? ⟨xb, 1, none⟩ = some (.pointer (some ⟨s2, 0, none⟩)) := (C.cell (p := ⟨xb, 1, none⟩) hx5).trans g15
        have hb10 := (C.block w4.heap.size hx4).trans H5'.out.2.2
        have hsz10 := C.size
        have HC := Lib.hid (And.intro C5 hb10)
        clear C C5 hb10 g15 g25 g1
        go_wp2_with fail
        refine (HX.out.2.2.2.2.2.2.2.1 _ HC.out.1).mono ?_
        rintro e w11 ⟨gs, rfl, hos, hb11⟩
        have hg2 : w11.cell? ⟨xb, 1, none⟩ = some (.pointer (some ⟨s2, 0, none⟩)) := (hb11.cell (p := ⟨xb, 1, none⟩) (Nat.lt_of_lt_of_le hx5 hsz10)).trans hg1
        have g25 : w11.cell? ⟨w4.heap.size, 1, none⟩ = some (.slice ao M co) := by rw [cell_of_row _ _ _ _ _ _ ((hb11.block w4.heap.size (by omega)).trans HC.out.2)]; rfl
        have HD := Lib.hid (And.intro hos (HC.out.1.trans (hb11.mono HC.out.1.size)))
        clear hos hb11 hg1
        go_wp2_with fail
        go_loop [8, 10] (fun nv jv => ∃ j : Nat, j ≤ M ∧ jv = .int .i64 j ∧ nv = .int .i64 (ahead sl j : Nat)) (fun _ jv => M - (intOf jv).toNat)
        case atStart => exact ⟨0, by omega, rfl, rfl⟩
        case round =>
          obtain ⟨j, hj, rfl, rfl⟩ := hrel
          obtain ⟨A, hA⟩ : ∃ A, A = ahead sl j := ⟨_, rfl⟩
          rw [← hA]
          have hA9 : A ≤ 100 := by have := HX.out.2.2.2.2.2.2.2.2.2.2.2 j; omega
          by_cases hjm : j < M
          · obtain ⟨hc1, hc2⟩ := HX.out.2.2.2.2.2.2.2.2.2.1 j hjm
            obtain ⟨g', e', hck, -, -⟩ := HD.out.1.at hc1
            injection e' with e'
            injection e' with e'
            subst e'
            obtain ⟨k, hk⟩ : ∃ k, k = cntL sl j := ⟨_, rfl⟩
            rw [← hk] at hck hc2
            have hk9 : A + k ≤ 100 := by have := HX.out.2.2.2.2.2.2.2.2.2.2.2 (j + 1); omega
            have HK := Lib.hid (And.intro hc2 hA)
            clear hc1 hc2 hk hA
            go_wp2_with fail
            go_round
            case rel => exact ⟨j + 1, by omega, by go_num, by rw [HK.out.1, ← HK.out.2]; go_num⟩
            case measure => simp [intOf]; omega
          · obtain rfl : j = M := by omega
            obtain rfl : A = L := by rw [hA]; exact HX.out.2.2.2.2.2.2.2.2.2.2.1
            clear hA
            go_wp2_with fail
            refine (HX.out.2.2.2.2.2.1 _ HD.out.2).mono ?_
            rintro e w12 ⟨rfl, rfl⟩
            go_wp2_with fail
            go_roundw
            case rel => exact ⟨i + 1, by omega, by go_num, s2, ρ2, U2, D2, S2, a2, cap2, HS.out.1.below HD.out.2, HS.out.2.1.mono (by omega), HS.out.2.2.1.mono (by omega), by have := HS.out.2.2.2.2; have := HR.out.2; omega⟩
            case measure => simp [intOf]; omega
      · obtain rfl : i = Q := by omega
        have HE := Lib.hid h1
        clear h1 h2 h3 h5
        go_wp2_with fail
        go_ret
        exact ⟨rfl, HE.out.ctx.low⟩
end Go.Proofs.YtdmbombjkinboaaGreat

namespace Go.Proofs.YtdmbombjkinboaaGreat.segsHoldLaw
open Go.ChangeShapes Go.WideShapes Go.ChangeAt Go.RowKit
open Go.ChangeMaps (open_string shut_string)

theorem own : ownKnob Tryz.prog.godebug = none := by kernel_rfl
set_option maxRecDepth 100000 in
theorem lifted (os : Os) (started : os.Started) (H : Type) (enc : TypeId × Value → H) :
    ReturnsInHanded {} Tryz.checked os 4 .any (Rows.segsHoldSpec.pre6 enc Tryz.prog Tryz.f4 Rows.segsHoldRow.domain false) (Rows.segsHoldSpec.post enc Tryz.prog Tryz.f4 false true false false) := by
  refine returnsInHanded_of_change (C := Tryz.checked) own started (by kernel_rfl) Tryz.func4
    (ChangeSpec.witness6 (enc := enc) (C := Tryz.checked) false ⟨#[], #[.slice none 0 0], []⟩ 8 (by kernel_rfl) (by kernel_rfl) (by kernel_rfl) (by kernel_rfl)) ?_
  intro W base args ds gs before hval0 hW hcnd _
  have hval : ∀ (j : Nat) t v, Tryz.f4.params[j]? = some t → args[j]? = some v → Value.okWide Tryz.prog W .any base t v := hval0
  have hW' := hW
  obtain ⟨p, q, hA0, hV, rfl, hfz, hnd⟩ := hW
  have hA : DataW.TrodAll enc Tryz.prog W 0 (fun _ => true) true Tryz.f4.params.toList args.toList ds p := hA0
  rw [Tryz.params4] at hA hval
  obtain ⟨v0, vs0, d0, ds0, p0, q0, hargs, rfl, rfl, h0, r0⟩ := trodAll_cons hA
  obtain ⟨rfl, rfl, rfl⟩ := trodAll_nil r0
  obtain rfl : args = #[v0] := by cases args; simp_all
  obtain ⟨rfl, rfl⟩ := trodVars_none hV
  obtain ⟨a0, len0, cap0, rfl⟩ := okWide_slice Tryz.underlying22 (hval 0 22 v0 rfl rfl)
  have hk0 := h0
  obtain ⟨fuel0, hf0⟩ := h0
  clear hA0 hval0
  simp only [List.append_nil] at hW'
  have hlt0 : ∀ x ∈ p0, x.block < W.heap.size := fun x hx => by simpa using hW'.lt x (by simp [hx])
  obtain ⟨ss0, hlen0, hmax0, hT0⟩ := acts_of hf0 hlt0
  subst hlen0
  refine (shold_law ss0 a0 cap0 hT0 hmax0 (w := W)).mono fun e W' ⟨he, hb⟩ => ?_
  subst he
  exact ⟨_, rfl, _, _, _, [], _, [], hW', trodAll_cons_mk (shut_bool Tryz.underlying4 _) trodAll_mk0, (trodAll_cons_mk (Below.trod laidOut (by kernel_rfl) (of_decide_eq_true (by kernel_rfl)) hk0 hb hlt0) trodAll_mk0), rfl, hb.frame _, fun h => by cases h⟩
theorem over : Rows.segsHoldRow.holds Tryz.pinned (OpenSpec.ofChange Rows.segsHoldSpec) :=
  OpenClaim.holds_of_wide 4 Tryz.f4 rfl rfl rfl rfl rfl rfl rfl ⟨rfl, rfl, rfl, rfl, rfl⟩ rfl rfl rfl rfl rfl (by kernel_rfl) Tryz.func4 (by kernel_rfl)
    (of_decide_eq_true (by kernel_rfl)) (by unfold Func.isWrapper; first | (rw [if_pos (by decide +kernel)]; kernel_rfl) | (rw [if_neg (by decide +kernel)]; exact ⟨rfl, rfl⟩))
    (fun os started H enc _ => lifted os started H enc)
end Go.Proofs.YtdmbombjkinboaaGreat.segsHoldLaw

namespace Go.Proofs.YtdmbombjkinboaaGreat
theorem segsHold_said : Rows.SegsHoldSaid := segsHoldLaw.over
end Go.Proofs.YtdmbombjkinboaaGreat
