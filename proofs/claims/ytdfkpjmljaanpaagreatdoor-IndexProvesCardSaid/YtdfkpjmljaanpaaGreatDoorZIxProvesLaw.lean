/- PROVED HERE: for every list of leaves with tags, every number and every text the law IndexProves returns true (the proof of a tag, of the index of the first 40 leaves, shows what the document says, is verified with the root, and tells the tag's row, or that it has none), and all read afterwards as it did. Its conditions: the package-level tables of digest hold what their initialisers give (the tied card). -/
import Derived.Test.YtdfkpjmljaanpaaGreatDoorZIxMd
import Derived.Test.YtdfkpjmljaanpaaGreatDoorZMX9
import Derived.Test.YtdfkpjmljaanpaaGreatDoorZIxAwk
import Derived.Test.YtdfkpjmljaanpaaGreatDoorZIxVf
import Derived.Test.YtdfkpjmljaanpaaGreatDoorZIxPv
import Derived.Test.YtdfkpjmljaanpaaGreatDoorZIxSu
import Derived.Test.YtdfkpjmljaanpaaGreatDoorZMX1
import Derived.Test.YtdfkpjmljaanpaaGreatDoorZIxSame
import Derived.Test.YtdfkpjmljaanpaaGreatDoorZIxRPv
import Derived.Test.YtdfkpjmljaanpaaGreatDoorZLaid
namespace Go.Proofs.YtdfkpjmljaanpaaGreatDoor
open Go.RowKit
open Cn
/-- What a law has of an index that was made. -/
structure IxF (R : List Rw) : Prop where
  rise : Ix.Rise R
  ok : ∀ r ∈ R, Ix.rwOk r
  few : R.length ≤ 400
theorem ixF_of (l : List Lad) (mo : Nat) (_ : mo ≤ 50) : IxF (Ix.mdI ((ladP l).take mo)).1 := by
  have hk := Ix.mdI_ok ((ladP l).take mo)
  have hl : ((ladP l).take mo).length ≤ mo := by rw [List.length_take]; omega
  have h2 := hk.hi
  have h3 := hk.few
  exact ⟨hk.good.rise, hk.good.ok (by omega), by omega⟩
theorem tgo_any (i : Nat) (_ : i < 256) (w : World) : Calls Tryz.prog 14 #[.int .i64 (i : Int)] w fun e w' => e = .returned (.string (tgP (UInt8.ofNat i))) ∧ Below w.heap.size w w' :=
  ltag18_any (i : Int) (UInt8.ofNat i) (by rw [UInt8.toNat_ofNat']; omega) w
theorem rem40 (n : Int) : ∃ c : Nat, c < 40 ∧ (IntKind.i64.wrap (IntKind.i64.wrap (n.tmod 40) + 40)).tmod 40 = (c : Int) ∧ IntKind.i64.wrap (n.tmod 40) = n.tmod 40 ∧ IntKind.i64.wrap (n.tmod 40 + 40) = n.tmod 40 + 40 ∧ (n.tmod 40 + 40).tmod 40 = (c : Int) := by
  have h3 : -40 < n.tmod 40 ∧ n.tmod 40 < 40 := by
    constructor
    · have := Int.lt_tmod_of_pos n (show (0 : Int) < 40 by decide); omega
    · exact Int.tmod_lt_of_pos n (by decide)
  have e1 : IntKind.i64.wrap (n.tmod 40) = n.tmod 40 := Ix.wrap_in (by omega) (by omega)
  have e2 : IntKind.i64.wrap (n.tmod 40 + 40) = n.tmod 40 + 40 := Ix.wrap_in (by omega) (by omega)
  have h4 : 0 ≤ (n.tmod 40 + 40).tmod 40 := Int.tmod_nonneg _ (by omega)
  have h5 : (n.tmod 40 + 40).tmod 40 < 40 := Int.tmod_lt_of_pos _ (by decide)
  refine ⟨((n.tmod 40 + 40).tmod 40).toNat, by omega, by rw [e1, e2]; omega, e1, e2, by omega⟩
theorem fn_plc {R : List Rw} (t : ByteArray) : (∃ r j, Ix.fnd R t = some r ∧ Ix.plc R t 0 = (j : Nat) ∧ R[j]? = some r) ∨ (Ix.fnd R t = none ∧ Ix.plc R t 0 = -1) := by
  cases h : Ix.fnd R t with
  | none => exact Or.inr ⟨rfl, Ix.plc_none 0 h⟩
  | some r =>
    obtain ⟨j, h1, h2⟩ := Ix.plc_some 0 h
    exact Or.inl ⟨r, j, rfl, by rw [h1, Nat.zero_add], h2⟩
/-- What Verify tells of what Prove shows. -/
theorem prv_tells {R : List Rw} (hg : ∃ m : Int, Ix.Good m R ∧ m ≤ 4096) (hl : R.length ≤ 4096) (T : ByteArray) : ∃ (f : Rw) (fb : Bool), Ix.verI (Ix.rtI R) T R.length (Ix.prvI R T) = (f, fb, true) ∧ ((∃ j : Nat, fb = true ∧ Ix.plc R T 0 = (j : Nat) ∧ R[j]? = some f) ∨ (fb = false ∧ Ix.plc R T 0 = -1)) := by
  obtain ⟨m, h1, h2⟩ := hg
  have hv := Ix.ver_prv h1 h2 hl T
  rcases fn_plc (R := R) T with ⟨r, j, e, k1, k2⟩ | ⟨e, k1⟩
  · rw [e] at hv
    exact ⟨r, true, hv, Or.inl ⟨j, rfl, k1, k2⟩⟩
  · rw [e] at hv
    exact ⟨Ix.Rw.zero, false, hv, Or.inr ⟨rfl, k1⟩⟩
set_option maxRecDepth 100000 in
set_option maxHeartbeats 40000000 in
theorem ixproves_law {w : World} (l : List Lad) (a0 : Option Addr) (cap : Nat) (hT : LadsAt w a0 l) (hm : l.length ≤ maxLen) (n : Int) (_ : -9223372036854775808 ≤ n) (_ : n ≤ 9223372036854775807) (tx : ByteArray) (_ : tx.size ≤ maxLen) (hG : Glob w) :
    Calls Tryz.prog 3 #[.slice a0 l.length cap, .int .i64 n, .string tx] w fun e w' => e = .returned (.bool true) ∧ Below w.heap.size w w' := by
  have hmd := made18_any l a0 cap 40 (by decide) w hT hm
  have hX := ixF_of l 40 (by decide)
  have hk := Ix.mdI_ok ((ladP l).take 40)
  have hl40 : ((ladP l).take 40).length ≤ 40 := by rw [List.length_take]; omega
  have hgd : ∃ m : Int, Ix.Good m (Ix.mdI ((ladP l).take 40)).1 ∧ m ≤ 4096 := ⟨_, hk.good, by have := hk.hi; omega⟩
  clear hk hl40
  obtain ⟨R, hR⟩ : ∃ R, R = (Ix.mdI ((ladP l).take 40)).1 := ⟨_, rfl⟩
  rw [← hR] at hmd hX hgd
  obtain ⟨c, hc, -, hc1, hc2, hc3⟩ := rem40 n
  have htg := fun W => tgo_any c (by omega) W
  obtain ⟨tg, htgs⟩ : ∃ t, t = tgP (UInt8.ofNat c) := ⟨_, rfl⟩
  rw [← htgs] at htg
  have hR4 := hX.few
  have hrt := fun (W : World) (a : Option Addr) (c : Nat) (hb : Below w.heap.size w W) (h : RwAt W a R) => root18_any R a c W (hG.below hb) h (by omega) hX.ok
  have htl := fun T => prv_tells hgd (by omega) T
  unfold MdPost at hmd
  obtain ⟨n1, hn1⟩ : ∃ n1, n1 = R.length := ⟨_, rfl⟩
  obtain ⟨RT, hRT⟩ : ∃ RT, RT = Ix.rtI R := ⟨_, rfl⟩
  have hRT2 := hRT
  rw [← hn1] at hmd hrt hR4
  rw [← hRT] at hrt
  obtain ⟨N, hN⟩ : ∃ N, N = l.length := ⟨_, rfl⟩
  rw [← hN] at hmd ⊢
  have H := Lib.hid (And.intro hmd (And.intro hrt (And.intro htg (And.intro htl (And.intro hX (And.intro hn1 (And.intro hRT2 hG)))))))
  have HC := Lib.hid (And.intro hc1 (And.intro hc2 hc3))
  have HR4 := Lib.hid hR4
  clear hmd hrt htg htl hX hn1 hRT hRT2 hG hc1 hc2 hc3 htgs hR hc hN hm hT hgd hR4
  go_enter Tryz.func3, Tryz.ntmps3
  go_wp2_with fail
  refine H.out.1.mono ?_
  rintro e w2 ⟨a, ca, r, rc, rfl, hoa, hna, hor, hb2⟩
  obtain ⟨w3, hw3⟩ : ∃ w3, w3 = w2.alloc (.cells #[.slice a n1 ca] 25) := ⟨_, rfl⟩
  have hb3 : Below w2.heap.size w2 w3 := by rw [hw3]; exact (Below.refl _ _).alloc (Nat.le_refl _) _
  have hg3 : w3.heap[w2.heap.size]? = some (.cells #[.slice a n1 ca] 25 (0, 0)) := by rw [hw3]; exact heap_alloc_new _ _
  have H3 := Lib.hid (And.intro (bcall hb2 hb3 hb2.size) (And.intro hg3 (And.intro ((rwAt_own hoa).below hb3) ((rwAt_own hor).below hb3))))
  obtain ⟨gx, hgx⟩ : ∃ gx, gx = w2.heap.size := ⟨_, rfl⟩
  rw [← hgx] at H3
  clear hoa hna hor hb2 hb3 hg3
  go_upto_region 2 with fail
  rw [← hw3, ← hgx]
  clear hw3 hgx
  by_cases ht : ¬ tx.size ≤ 100
  · have ht2 : (100 : Int) < (tx.size : Int) := by omega
    clear ht
    go_wp2_with fail
    refine (awake18_any _).mono ?_
    rintro e w4 ⟨rfl, hb4⟩
    have H4 := Lib.hid (bcall H3.out.1 hb4 H3.out.1.size)
    clear hb4
    go_wp2_with fail
    go_ret
    exact ⟨rfl, H4.out⟩
  have ht2 : ¬ (100 : Int) < (tx.size : Int) := by omega
  clear ht
  go_wp2_with fail
  refine (awake18_any _).mono ?_
  rintro e w4 ⟨rfl, hb4⟩
  have H4 := Lib.hid (And.intro (bcall H3.out.1 hb4 H3.out.1.size) (And.intro ((hb4.block _ (lt_of_heap H3.out.2.1)).trans H3.out.2.1) (And.intro (H3.out.2.2.1.below hb4) (H3.out.2.2.2.below hb4))))
  clear hb4
  have hc1 := HC.out.1
  have hc2 := HC.out.2.1
  have hc3 := HC.out.2.2
  go_wp2_with fail
  go_loopw [10, 11, 12, 13, 14, 15, 16] (fun v _ _ _ _ _ _ wr => ∃ i : Nat, i ≤ 2 ∧ v = .int .i64 i ∧ Below w4.heap.size w4 wr) (fun v _ _ _ _ _ _ _ => 2 - (intOf v).toNat)
  case atStart => exact ⟨0, by omega, rfl, Below.refl _ _⟩
  case round =>
    obtain ⟨i, hi, rfl, hbr⟩ := hrel
    by_cases hlt : i < 2
    · obtain ⟨wo, hwo⟩ : ∃ wo, wo = wr := ⟨_, rfl⟩
      subst hwo
      have hli : (i : Int) < 2 := by omega
      have HI := Lib.hid (And.intro hbr hlt)
      clear hbr
      go_upto_region 7 with fail
      go_cut [11] (fun v wc => ∃ T, v = .string T ∧ Below wo.heap.size wo wc)
      case first =>
        by_cases h0 : i = 0
        · subst h0
          go_wp2_with fail
          refine (H.out.2.2.1 _).mono ?_
          rintro e w5 ⟨rfl, hb5⟩
          have H5 := Lib.hid hb5
          clear hb5
          go_wp2_with fail
          go_meet
          exact ⟨_, rfl, H5.out.alloc H5.out.size _⟩
        · obtain rfl : i = 1 := by omega
          go_wp2_with fail
          refine (H.out.2.2.1 _).mono ?_
          rintro e w5 ⟨rfl, hb5⟩
          have H5 := Lib.hid hb5
          clear hb5
          go_wp2_with fail
          go_meet
          exact ⟨_, rfl, H5.out.alloc H5.out.size _⟩
      case rest =>
        obtain ⟨T, rfl, hbc⟩ := hcut
        obtain ⟨w6, hw6⟩ : ∃ w6, w6 = wc := ⟨_, rfl⟩
        subst hw6
        have hb46 := bcall HI.out.1 hbc HI.out.1.size
        have H6 := Lib.hid (And.intro (bcall H4.out.1 hb46 H4.out.1.size) (And.intro ((hb46.block _ (lt_of_heap H4.out.2.1)).trans H4.out.2.1) (And.intro (H4.out.2.2.1.below hb46) (And.intro (H4.out.2.2.2.below hb46) hb46))))
        clear hbc hb46
        -- what is asked of this tag
        have hok := H.out.2.2.2.2.1.ok
        have hrise := H.out.2.2.2.2.1.rise
        have hRl : R.length ≤ 400 := H.out.2.2.2.2.1.few
        have hpv := fun (W : World) (hb : Below w.heap.size w W) (h : RwAt W a R) => prove18_any R hrise T a ca W (H.out.2.2.2.2.2.2.2.below hb) h (by omega) hok
        have hrp := fun (W : World) (h : RwAt W r R) => rprove18_any R T r rc W h (by omega) hok
        have hrf := fun (W : World) (h : RwAt W r R) => rfind18_any R r rc T W h (by omega)
        have hway : ∀ s ∈ Ix.prvI R T, s.way.length ≤ 400 := fun s hs => by
          obtain ⟨i, r, -, rfl⟩ := Ix.prv_mem hs
          have h1 := Tr.way_length _ (Ix.lvs R) i rfl
          rw [Ix.lvs_length] at h1
          exact Nat.le_trans h1 hRl
        have hpn : (Ix.prvI R T).length ≤ 400 := by
          unfold Ix.prvI Ix.prvN
          refine Nat.le_trans (List.length_filterMap_le _ _) ?_
          rw [List.length_range]; exact hRl
        have hsh := fun (W : World) (x : Option Addr) (y : Nat) (h : ShAt W x (Ix.prvI R T)) => lshown18_any (Ix.prvI R T) x y W h (by omega)
        have hss := fun (W : World) (x y : Option Addr) (p q : Nat) (h : ShAt W x (Ix.prvI R T)) (h2 : ShAt W y (Ix.prvI R T)) => lsameShown_any (Ix.prvI R T) x y p q W h h2 (by omega) (fun s hs => by have := hway s hs; omega)
        have hvf := fun (W : World) (x : Option Addr) (y : Nat) (hb : Below w.heap.size w W) (h : ShAt W x (Ix.prvI R T)) => verify18_any (Ix.rtI R) T R.length (Ix.prvI R T) x y W (H.out.2.2.2.2.2.2.2.below hb) h (by omega) (fun s hs => by have := hway s hs; omega)
        obtain ⟨⟨f1, f2, f3⟩, fb, hve, hfp⟩ := H.out.2.2.2.1 T
        rw [hve] at hvf
        simp only [vfV, rwCs, if_true] at hvf
        obtain ⟨P, hP⟩ : ∃ P, P = Ix.prvI R T := ⟨_, rfl⟩
        have hpv2 : ∀ (W : World), Below w.heap.size w W → RwAt W a R → Calls Tryz.prog 15 #[.agg #[.slice a R.length ca], .string T] W (fun e w' => ∃ x y, e = .returned (.agg #[.int .i64 R.length, .slice x P.length y]) ∧ ShAt w' x P ∧ P.length ≤ y ∧ y ≤ maxLen ∧ Below W.heap.size W w') := fun W hb h => by rw [hP]; exact hpv W hb h
        rw [← hP] at hrp hsh hss hvf hpn
        obtain ⟨np, hnp⟩ : ∃ np, np = P.length := ⟨_, rfl⟩
        obtain ⟨K, hK⟩ : ∃ K, K = Ix.plc R T 0 := ⟨_, rfl⟩
        rw [← hnp] at hpv2 hrp hsh hss hvf hpn
        rw [← hK] at hrf hfp
        rw [← H.out.2.2.2.2.2.1] at hpv2 hrp hrf hvf
        rw [← H.out.2.2.2.2.2.2.1] at hvf
        have HT := Lib.hid (And.intro hpv2 (And.intro hrp (And.intro hrf (And.intro hsh (And.intro hss (And.intro hvf hfp))))))
        clear hok hrise hRl hpv hrp hrf hway hsh hss hvf hve hfp hpv2 hK hP hnp hpn
        have k0 : w6.cell? ⟨gx, 0, none⟩ = some (.slice a n1 ca) := by rw [cell_of_row _ _ _ _ _ _ H6.out.2.1]; rfl
        go_wp2_with fail
        refine (HT.out.1 _ H6.out.1 H6.out.2.2.1).mono ?_
        rintro e w7 ⟨ap, cp, rfl, hSP, -, -, hb7⟩
        obtain ⟨w8, hw8⟩ : ∃ w8, w8 = w7.alloc (.cells #[.int .i64 n1, .slice ap np cp] 34) := ⟨_, rfl⟩
        have hb8 : Below w7.heap.size w7 w8 := by rw [hw8]; exact (Below.refl _ _).alloc (Nat.le_refl _) _
        have hg8 : w8.heap[w7.heap.size]? = some (.cells #[.int .i64 n1, .slice ap np cp] 34 (0, 0)) := by rw [hw8]; exact heap_alloc_new _ _
        obtain ⟨gp, hgp⟩ : ∃ gp, gp = w7.heap.size := ⟨_, rfl⟩
        have hb68 := bcall hb7 hb8 hb7.size
        have H8 := Lib.hid (And.intro (bcall H6.out.1 hb68 H6.out.1.size) (And.intro ((hb68.block _ (lt_of_heap H6.out.2.1)).trans H6.out.2.1) (And.intro (H6.out.2.2.1.below hb68) (And.intro (H6.out.2.2.2.1.below hb68) (And.intro (bcall H6.out.2.2.2.2 hb68 H6.out.2.2.2.2.size) (And.intro hg8 (hSP.below hb8)))))))
        rw [← hgp] at H8
        clear hSP hb7 hb8 hg8 hb68 k0
        go_upto_region 9 with fail
        rw [← hw8, ← hgp]
        clear hw8 hgp
        obtain ⟨p0, p1⟩ : w8.cell? ⟨gp, 0, none⟩ = some (.int .i64 n1) ∧ w8.cell? ⟨gp, 1, none⟩ = some (.slice ap np cp) := ⟨by rw [cell_of_row _ _ _ _ _ _ H8.out.2.2.2.2.2.1]; rfl, by rw [cell_of_row _ _ _ _ _ _ H8.out.2.2.2.2.2.1]; rfl⟩
        go_wp2_with fail
        refine (HT.out.2.2.2.1 _ _ _ H8.out.2.2.2.2.2.2).mono ?_
        rintro e w9 ⟨sa, sc, rfl, hS9, hb9⟩
        have H9 := Lib.hid (And.intro hb9 hS9)
        clear hb9 hS9 p0 p1
        go_wp2_with fail
        refine (HT.out.2.1 _ (H8.out.2.2.2.1.below H9.out.1)).mono ?_
        rintro e w10 ⟨ra, rb, rfl, hS10, hb10⟩
        have H10 := Lib.hid (And.intro (bcall H9.out.1 hb10 H9.out.1.size) (And.intro (H9.out.2.below hb10) hS10))
        clear hb10 hS10
        go_wp2_with fail
        refine (HT.out.2.2.2.2.1 _ _ _ _ _ H10.out.2.1 H10.out.2.2).mono ?_
        rintro e w11 ⟨rfl, hb11⟩
        have hb811 := bcall H10.out.1 hb11 H10.out.1.size
        have H11 := Lib.hid (And.intro (bcall H8.out.1 hb811 H8.out.1.size) (And.intro ((hb811.block _ (lt_of_heap H8.out.2.1)).trans H8.out.2.1) (And.intro (H8.out.2.2.1.below hb811) (And.intro (H8.out.2.2.2.1.below hb811) (And.intro (bcall H8.out.2.2.2.2.1 hb811 H8.out.2.2.2.2.1.size) (And.intro ((hb811.block _ (lt_of_heap H8.out.2.2.2.2.2.1)).trans H8.out.2.2.2.2.2.1) (H8.out.2.2.2.2.2.2.below hb811)))))))
        clear hb11 hb811
        go_upto_region 11 with fail
        go_cut [13, 14, 15] (fun y q e wc => ∃ gr : Nat, y = .pointer (some ⟨gr, 0, none⟩) ∧ q = .bool fb ∧ e = .int .i64 0 ∧ wc.heap[gr]? = some (.cells #[.string f1, .int .i64 f2, .int .i64 f3] 41 (0, 0)) ∧ Below w11.heap.size w11 wc)
        case first =>
          go_wp2_with fail
          refine wp_region_held (S := fun W : World => (W.heap[gx]? = some (.cells #[.slice a n1 ca] 25 (0, 0)) ∧ W.heap[gp]? = some (.cells #[.int .i64 n1, .slice ap np cp] 34 (0, 0)))) (by kernel_rfl) ?_
          change wpAnyH _ _ _ _ _ _ _ _ (World.drew _)
          generalize hv0 : World.drew _ = v0
          have E0 : (v0.heap[gx]? = some (.cells #[.slice a n1 ca] 25 (0, 0)) ∧ v0.heap[gp]? = some (.cells #[.int .i64 n1, .slice ap np cp] 34 (0, 0))) := by rw [← hv0]; exact (show _ ∧ _ from ⟨H11.out.2.1, H11.out.2.2.2.2.2.1⟩)
          have F0 : Below w11.heap.size w11 v0 := by rw [← hv0]; exact ((Below.refl _ _).drew)
          clear hv0
          refine wpAnyH_take (i := 0) (v := ?_) rfl (by kernel_rfl) (by kernel_rfl) (by kernel_rfl) (fun _ _ _ h => h) (Or.inl ⟨by kernel_rfl, ?_⟩) E0 ?_
          rotate_left
          · (intro W hS; have k0 : W.cell? ⟨gx, 0, none⟩ = some (.slice a n1 ca) := (by rw [cell_of_row _ _ _ _ _ _ hS.1]; rfl); have k1 : W.cell? ⟨gp, 0, none⟩ = some (.int .i64 n1) := (by rw [cell_of_row _ _ _ _ _ _ hS.2]; rfl); have k2 : W.cell? ⟨gp, 1, none⟩ = some (.slice ap np cp) := (by rw [cell_of_row _ _ _ _ _ _ hS.2]; rfl); go_simp; try (with_reducible rfl))
          refine wpAnyH_take (i := 2) (v := ?_) rfl (by kernel_rfl) (by kernel_rfl) (by kernel_rfl) (fun _ _ _ h => h) (Or.inl ⟨by kernel_rfl, ?_⟩) E0 ?_
          rotate_left
          · (intro W hS; have k0 : W.cell? ⟨gx, 0, none⟩ = some (.slice a n1 ca) := (by rw [cell_of_row _ _ _ _ _ _ hS.1]; rfl); have k1 : W.cell? ⟨gp, 0, none⟩ = some (.int .i64 n1) := (by rw [cell_of_row _ _ _ _ _ _ hS.2]; rfl); have k2 : W.cell? ⟨gp, 1, none⟩ = some (.slice ap np cp) := (by rw [cell_of_row _ _ _ _ _ _ hS.2]; rfl); go_simp; try (with_reducible rfl))
          refine wpAnyH_take (i := 3) (v := ?_) rfl (by kernel_rfl) (by kernel_rfl) (by kernel_rfl) (fun _ _ _ h => h) (Or.inl ⟨by kernel_rfl, ?_⟩) E0 ?_
          rotate_left
          · (intro W hS; have k0 : W.cell? ⟨gx, 0, none⟩ = some (.slice a n1 ca) := (by rw [cell_of_row _ _ _ _ _ _ hS.1]; rfl); have k1 : W.cell? ⟨gp, 0, none⟩ = some (.int .i64 n1) := (by rw [cell_of_row _ _ _ _ _ _ hS.2]; rfl); have k2 : W.cell? ⟨gp, 1, none⟩ = some (.slice ap np cp) := (by rw [cell_of_row _ _ _ _ _ _ hS.2]; rfl); go_simp; try (with_reducible rfl))
          refine wpAnyH_ready (rs := [1, 9]) (by kernel_rfl) (by simp) ?_
          refine AllReadyH.cons (i := 1) rfl (fun K hK => ?_) (AllReadyH.cons (i := 9) rfl (fun K hK => ?_) AllReadyH.nil)
          · go_simp
            refine (H.out.2.1 v0 a ca (bcall H11.out.1 F0 H11.out.1.size) (H11.out.2.2.1.below F0)).mono ?_
            rintro e v1 ⟨rfl, hb⟩
            have F1 := F0.trans (hb.mono F0.size)
            have E1 : (v1.heap[gx]? = some (.cells #[.slice a n1 ca] 25 (0, 0)) ∧ v1.heap[gp]? = some (.cells #[.int .i64 n1, .slice ap np cp] 34 (0, 0))) := ⟨(hb.block _ (lt_of_heap E0.1)).trans E0.1, (hb.block _ (lt_of_heap E0.2)).trans E0.2⟩
            refine hK.out _ _ E1 (fun _ => ?_)
            clear hK K hb
            refine wpAnyH_ready (rs := [4, 9]) (by kernel_rfl) (by simp) ?_
            refine AllReadyH.cons (i := 4) rfl (fun K hK => ?_) (AllReadyH.cons (i := 9) rfl (fun K hK => ?_) AllReadyH.nil)
            · go_simp
              refine (HT.out.2.2.2.2.2.1 v1 ap cp (bcall H11.out.1 F1 H11.out.1.size) (H11.out.2.2.2.2.2.2.below F1)).mono ?_
              rintro e v2 ⟨rfl, hb⟩
              have F2 := F1.trans (hb.mono F1.size)
              have E2 : (v2.heap[gx]? = some (.cells #[.slice a n1 ca] 25 (0, 0)) ∧ v2.heap[gp]? = some (.cells #[.int .i64 n1, .slice ap np cp] 34 (0, 0))) := ⟨(hb.block _ (lt_of_heap E1.1)).trans E1.1, (hb.block _ (lt_of_heap E1.2)).trans E1.2⟩
              refine hK.out _ _ E2 (fun _ => ?_)
              clear hK K hb
              refine wpAnyH_take (i := 5) (v := ?_) rfl (by kernel_rfl) (by kernel_rfl) (by kernel_rfl) (fun _ _ _ h => h) (Or.inl ⟨by kernel_rfl, ?_⟩) E2 ?_
              rotate_left
              · (intro W hS; have k0 : W.cell? ⟨gx, 0, none⟩ = some (.slice a n1 ca) := (by rw [cell_of_row _ _ _ _ _ _ hS.1]; rfl); have k1 : W.cell? ⟨gp, 0, none⟩ = some (.int .i64 n1) := (by rw [cell_of_row _ _ _ _ _ _ hS.2]; rfl); have k2 : W.cell? ⟨gp, 1, none⟩ = some (.slice ap np cp) := (by rw [cell_of_row _ _ _ _ _ _ hS.2]; rfl); go_simp; try (with_reducible rfl))
              refine wpAnyH_take (i := 6) (v := ?_) rfl (by kernel_rfl) (by kernel_rfl) (by kernel_rfl) (fun _ _ _ h => h) (Or.inl ⟨by kernel_rfl, ?_⟩) E2 ?_
              rotate_left
              · (intro W hS; have k0 : W.cell? ⟨gx, 0, none⟩ = some (.slice a n1 ca) := (by rw [cell_of_row _ _ _ _ _ _ hS.1]; rfl); have k1 : W.cell? ⟨gp, 0, none⟩ = some (.int .i64 n1) := (by rw [cell_of_row _ _ _ _ _ _ hS.2]; rfl); have k2 : W.cell? ⟨gp, 1, none⟩ = some (.slice ap np cp) := (by rw [cell_of_row _ _ _ _ _ _ hS.2]; rfl); go_simp; try (with_reducible rfl))
              refine wpAnyH_take (i := 7) (v := ?_) rfl (by kernel_rfl) (by kernel_rfl) (by kernel_rfl) (fun _ _ _ h => h) (Or.inl ⟨by kernel_rfl, ?_⟩) E2 ?_
              rotate_left
              · (intro W hS; have k0 : W.cell? ⟨gx, 0, none⟩ = some (.slice a n1 ca) := (by rw [cell_of_row _ _ _ _ _ _ hS.1]; rfl); have k1 : W.cell? ⟨gp, 0, none⟩ = some (.int .i64 n1) := (by rw [cell_of_row _ _ _ _ _ _ hS.2]; rfl); have k2 : W.cell? ⟨gp, 1, none⟩ = some (.slice ap np cp) := (by rw [cell_of_row _ _ _ _ _ _ hS.2]; rfl); go_simp; try (with_reducible rfl))
              refine wpAnyH_take (i := 8) (v := ?_) rfl (by kernel_rfl) (by kernel_rfl) (by kernel_rfl) (fun _ _ _ h => h) (Or.inl ⟨by kernel_rfl, ?_⟩) E2 ?_
              rotate_left
              · (intro W hS; have k0 : W.cell? ⟨gx, 0, none⟩ = some (.slice a n1 ca) := (by rw [cell_of_row _ _ _ _ _ _ hS.1]; rfl); have k1 : W.cell? ⟨gp, 0, none⟩ = some (.int .i64 n1) := (by rw [cell_of_row _ _ _ _ _ _ hS.2]; rfl); have k2 : W.cell? ⟨gp, 1, none⟩ = some (.slice ap np cp) := (by rw [cell_of_row _ _ _ _ _ _ hS.2]; rfl); go_simp; try (with_reducible rfl))
              refine wpAnyH_ready (rs := [9]) (by kernel_rfl) (by simp) ?_
              refine AllReadyH.cons (i := 9) rfl (fun K hK => ?_) AllReadyH.nil
              obtain ⟨v3, hv⟩ : ∃ v, v = v2.alloc (.cells (rwCs Ix.Rw.zero) 41) := ⟨_, rfl⟩
              have hb : Below v2.heap.size v2 v3 := by rw [hv]; exact (Below.refl _ _).alloc (Nat.le_refl _) _
              have gB : v3.heap[v2.heap.size]? = some (.cells (rwCs Ix.Rw.zero) 41 (0, 0)) := by rw [hv]; exact heap_alloc_new _ _
              have F3 := F2.trans (hb.mono F2.size)
              have E3 : (v3.heap[gx]? = some (.cells #[.slice a n1 ca] 25 (0, 0)) ∧ v3.heap[gp]? = some (.cells #[.int .i64 n1, .slice ap np cp] 34 (0, 0))) := ⟨(hb.block _ (lt_of_heap E2.1)).trans E2.1, (hb.block _ (lt_of_heap E2.2)).trans E2.2⟩
              simp only [rwCs, Ix.Rw.zero] at hv
              go_simp
              rw [← hv]
              clear hv
              have hgz := lt_of_heap gB
              have hgl : w11.heap.size ≤ v2.heap.size := F2.size
              refine hK.out _ _ E3 (fun _ => ?_)
              clear hK K hb
              obtain ⟨d0, d1, d2⟩ := row3 gB
              simp only [Ix.Rw.zero] at d0 d1 d2
              have f9 : ∀ j, v3.frozen? ⟨v2.heap.size, j, none⟩ = false := fun j => frozen_of_row _ _ _ _ _ gB
              have hne : gx ≠ v2.heap.size := by have := lt_of_heap H11.out.2.1; omega
              have hne2 : gp ≠ v2.heap.size := by have := lt_of_heap H11.out.2.2.2.2.2.1; omega
              have hN : (((v3.setCell ⟨v2.heap.size, 0, none⟩ (.string f1)).setCell ⟨v2.heap.size, 1, none⟩ (.int .i64 f2)).setCell ⟨v2.heap.size, 2, none⟩ (.int .i64 f3)).heap[v2.heap.size]? = some (.cells #[.string f1, .int .i64 f2, .int .i64 f3] 41 (0, 0)) := by rw [heap_setCell_same _ _ _ _ _ _ (heap_setCell_same _ _ _ _ _ _ (heap_setCell_same _ _ _ _ _ _ gB))]; rfl
              have hN4 : Below w11.heap.size w11 (((v3.setCell ⟨v2.heap.size, 0, none⟩ (.string f1)).setCell ⟨v2.heap.size, 1, none⟩ (.int .i64 f2)).setCell ⟨v2.heap.size, 2, none⟩ (.int .i64 f3)) := rput3 F3 hgl _ _ _
              have EZ : ((((v3.setCell ⟨v2.heap.size, 0, none⟩ (.string f1)).setCell ⟨v2.heap.size, 1, none⟩ (.int .i64 f2)).setCell ⟨v2.heap.size, 2, none⟩ (.int .i64 f3)).heap[gx]? = some (.cells #[.slice a n1 ca] 25 (0, 0)) ∧ (((v3.setCell ⟨v2.heap.size, 0, none⟩ (.string f1)).setCell ⟨v2.heap.size, 1, none⟩ (.int .i64 f2)).setCell ⟨v2.heap.size, 2, none⟩ (.int .i64 f3)).heap[gp]? = some (.cells #[.int .i64 n1, .slice ap np cp] 34 (0, 0))) := ⟨(heap_setCell_other _ ⟨v2.heap.size, 2, none⟩ _ (.int .i64 f3) hne).trans ((heap_setCell_other _ ⟨v2.heap.size, 1, none⟩ _ (.int .i64 f2) hne).trans ((heap_setCell_other v3 ⟨v2.heap.size, 0, none⟩ _ (.string f1) hne).trans E3.1)), (heap_setCell_other _ ⟨v2.heap.size, 2, none⟩ _ (.int .i64 f3) hne2).trans ((heap_setCell_other _ ⟨v2.heap.size, 1, none⟩ _ (.int .i64 f2) hne2).trans ((heap_setCell_other v3 ⟨v2.heap.size, 0, none⟩ _ (.string f1) hne2).trans E3.2))⟩
              have HN := Lib.hid (And.intro hN hN4)
              clear hN hN4 gB
              refine wpAnyH_ready (rs := [10]) (by kernel_rfl) (by simp) ?_
              refine AllReadyH.cons (i := 10) rfl (fun K hK => ?_) AllReadyH.nil
              go_simp
              refine hK.out _ _ EZ (fun _ => ?_)
              clear hK K d0 d1 d2 f9
              refine wpAnyH_take (i := 11) (v := ?_) rfl (by kernel_rfl) (by kernel_rfl) (by kernel_rfl) (fun _ _ _ h => h) (Or.inl ⟨by kernel_rfl, ?_⟩) EZ ?_
              rotate_left
              · (intro W hS; have k0 : W.cell? ⟨gx, 0, none⟩ = some (.slice a n1 ca) := (by rw [cell_of_row _ _ _ _ _ _ hS.1]; rfl); have k1 : W.cell? ⟨gp, 0, none⟩ = some (.int .i64 n1) := (by rw [cell_of_row _ _ _ _ _ _ hS.2]; rfl); have k2 : W.cell? ⟨gp, 1, none⟩ = some (.slice ap np cp) := (by rw [cell_of_row _ _ _ _ _ _ hS.2]; rfl); go_simp; try (with_reducible rfl))
              refine wpAnyH_take (i := 12) (v := ?_) rfl (by kernel_rfl) (by kernel_rfl) (by kernel_rfl) (fun _ _ _ h => h) (Or.inl ⟨by kernel_rfl, ?_⟩) EZ ?_
              rotate_left
              · (intro W hS; have k0 : W.cell? ⟨gx, 0, none⟩ = some (.slice a n1 ca) := (by rw [cell_of_row _ _ _ _ _ _ hS.1]; rfl); have k1 : W.cell? ⟨gp, 0, none⟩ = some (.int .i64 n1) := (by rw [cell_of_row _ _ _ _ _ _ hS.2]; rfl); have k2 : W.cell? ⟨gp, 1, none⟩ = some (.slice ap np cp) := (by rw [cell_of_row _ _ _ _ _ _ hS.2]; rfl); go_simp; try (with_reducible rfl))
              refine wpAnyH_done (by kernel_rfl) ?_ _
              go_simp
              clear EZ
              generalize World.setCell _ _ _ = wz at *
              go_wp2_with fail
              go_meet
              exact ⟨_, rfl, rfl, rfl, HN.out.1, HN.out.2⟩
            · obtain ⟨v2, hv⟩ : ∃ v, v = v1.alloc (.cells (rwCs Ix.Rw.zero) 41) := ⟨_, rfl⟩
              have hb : Below v1.heap.size v1 v2 := by rw [hv]; exact (Below.refl _ _).alloc (Nat.le_refl _) _
              have gB : v2.heap[v1.heap.size]? = some (.cells (rwCs Ix.Rw.zero) 41 (0, 0)) := by rw [hv]; exact heap_alloc_new _ _
              have F2 := F1.trans (hb.mono F1.size)
              have E2 : (v2.heap[gx]? = some (.cells #[.slice a n1 ca] 25 (0, 0)) ∧ v2.heap[gp]? = some (.cells #[.int .i64 n1, .slice ap np cp] 34 (0, 0))) := ⟨(hb.block _ (lt_of_heap E1.1)).trans E1.1, (hb.block _ (lt_of_heap E1.2)).trans E1.2⟩
              simp only [rwCs, Ix.Rw.zero] at hv
              go_simp
              rw [← hv]
              clear hv
              have hgz := lt_of_heap gB
              have hgl : w11.heap.size ≤ v1.heap.size := F1.size
              refine hK.out _ _ E2 (fun _ => ?_)
              clear hK K hb
              refine wpAnyH_ready (rs := [4]) (by kernel_rfl) (by simp) ?_
              refine AllReadyH.cons (i := 4) rfl (fun K hK => ?_) AllReadyH.nil
              go_simp
              refine (HT.out.2.2.2.2.2.1 v2 ap cp (bcall H11.out.1 F2 H11.out.1.size) (H11.out.2.2.2.2.2.2.below F2)).mono ?_
              rintro e v3 ⟨rfl, hb⟩
              have F3 := F2.trans (hb.mono F2.size)
              have E3 : (v3.heap[gx]? = some (.cells #[.slice a n1 ca] 25 (0, 0)) ∧ v3.heap[gp]? = some (.cells #[.int .i64 n1, .slice ap np cp] 34 (0, 0))) := ⟨(hb.block _ (lt_of_heap E2.1)).trans E2.1, (hb.block _ (lt_of_heap E2.2)).trans E2.2⟩
              have gB := (hb.block _ (lt_of_heap gB)).trans gB
              have hgz := Nat.lt_of_lt_of_le hgz hb.size
              refine hK.out _ _ E3 (fun _ => ?_)
              clear hK K hb
              refine wpAnyH_take (i := 5) (v := ?_) rfl (by kernel_rfl) (by kernel_rfl) (by kernel_rfl) (fun _ _ _ h => h) (Or.inl ⟨by kernel_rfl, ?_⟩) E3 ?_
              rotate_left
              · (intro W hS; have k0 : W.cell? ⟨gx, 0, none⟩ = some (.slice a n1 ca) := (by rw [cell_of_row _ _ _ _ _ _ hS.1]; rfl); have k1 : W.cell? ⟨gp, 0, none⟩ = some (.int .i64 n1) := (by rw [cell_of_row _ _ _ _ _ _ hS.2]; rfl); have k2 : W.cell? ⟨gp, 1, none⟩ = some (.slice ap np cp) := (by rw [cell_of_row _ _ _ _ _ _ hS.2]; rfl); go_simp; try (with_reducible rfl))
              refine wpAnyH_take (i := 6) (v := ?_) rfl (by kernel_rfl) (by kernel_rfl) (by kernel_rfl) (fun _ _ _ h => h) (Or.inl ⟨by kernel_rfl, ?_⟩) E3 ?_
              rotate_left
              · (intro W hS; have k0 : W.cell? ⟨gx, 0, none⟩ = some (.slice a n1 ca) := (by rw [cell_of_row _ _ _ _ _ _ hS.1]; rfl); have k1 : W.cell? ⟨gp, 0, none⟩ = some (.int .i64 n1) := (by rw [cell_of_row _ _ _ _ _ _ hS.2]; rfl); have k2 : W.cell? ⟨gp, 1, none⟩ = some (.slice ap np cp) := (by rw [cell_of_row _ _ _ _ _ _ hS.2]; rfl); go_simp; try (with_reducible rfl))
              refine wpAnyH_take (i := 7) (v := ?_) rfl (by kernel_rfl) (by kernel_rfl) (by kernel_rfl) (fun _ _ _ h => h) (Or.inl ⟨by kernel_rfl, ?_⟩) E3 ?_
              rotate_left
              · (intro W hS; have k0 : W.cell? ⟨gx, 0, none⟩ = some (.slice a n1 ca) := (by rw [cell_of_row _ _ _ _ _ _ hS.1]; rfl); have k1 : W.cell? ⟨gp, 0, none⟩ = some (.int .i64 n1) := (by rw [cell_of_row _ _ _ _ _ _ hS.2]; rfl); have k2 : W.cell? ⟨gp, 1, none⟩ = some (.slice ap np cp) := (by rw [cell_of_row _ _ _ _ _ _ hS.2]; rfl); go_simp; try (with_reducible rfl))
              refine wpAnyH_take (i := 8) (v := ?_) rfl (by kernel_rfl) (by kernel_rfl) (by kernel_rfl) (fun _ _ _ h => h) (Or.inl ⟨by kernel_rfl, ?_⟩) E3 ?_
              rotate_left
              · (intro W hS; have k0 : W.cell? ⟨gx, 0, none⟩ = some (.slice a n1 ca) := (by rw [cell_of_row _ _ _ _ _ _ hS.1]; rfl); have k1 : W.cell? ⟨gp, 0, none⟩ = some (.int .i64 n1) := (by rw [cell_of_row _ _ _ _ _ _ hS.2]; rfl); have k2 : W.cell? ⟨gp, 1, none⟩ = some (.slice ap np cp) := (by rw [cell_of_row _ _ _ _ _ _ hS.2]; rfl); go_simp; try (with_reducible rfl))
              obtain ⟨d0, d1, d2⟩ := row3 gB
              simp only [Ix.Rw.zero] at d0 d1 d2
              have f9 : ∀ j, v3.frozen? ⟨v1.heap.size, j, none⟩ = false := fun j => frozen_of_row _ _ _ _ _ gB
              have hne : gx ≠ v1.heap.size := by have := lt_of_heap H11.out.2.1; omega
              have hne2 : gp ≠ v1.heap.size := by have := lt_of_heap H11.out.2.2.2.2.2.1; omega
              have hN : (((v3.setCell ⟨v1.heap.size, 0, none⟩ (.string f1)).setCell ⟨v1.heap.size, 1, none⟩ (.int .i64 f2)).setCell ⟨v1.heap.size, 2, none⟩ (.int .i64 f3)).heap[v1.heap.size]? = some (.cells #[.string f1, .int .i64 f2, .int .i64 f3] 41 (0, 0)) := by rw [heap_setCell_same _ _ _ _ _ _ (heap_setCell_same _ _ _ _ _ _ (heap_setCell_same _ _ _ _ _ _ gB))]; rfl
              have hN4 : Below w11.heap.size w11 (((v3.setCell ⟨v1.heap.size, 0, none⟩ (.string f1)).setCell ⟨v1.heap.size, 1, none⟩ (.int .i64 f2)).setCell ⟨v1.heap.size, 2, none⟩ (.int .i64 f3)) := rput3 F3 hgl _ _ _
              have EZ : ((((v3.setCell ⟨v1.heap.size, 0, none⟩ (.string f1)).setCell ⟨v1.heap.size, 1, none⟩ (.int .i64 f2)).setCell ⟨v1.heap.size, 2, none⟩ (.int .i64 f3)).heap[gx]? = some (.cells #[.slice a n1 ca] 25 (0, 0)) ∧ (((v3.setCell ⟨v1.heap.size, 0, none⟩ (.string f1)).setCell ⟨v1.heap.size, 1, none⟩ (.int .i64 f2)).setCell ⟨v1.heap.size, 2, none⟩ (.int .i64 f3)).heap[gp]? = some (.cells #[.int .i64 n1, .slice ap np cp] 34 (0, 0))) := ⟨(heap_setCell_other _ ⟨v1.heap.size, 2, none⟩ _ (.int .i64 f3) hne).trans ((heap_setCell_other _ ⟨v1.heap.size, 1, none⟩ _ (.int .i64 f2) hne).trans ((heap_setCell_other v3 ⟨v1.heap.size, 0, none⟩ _ (.string f1) hne).trans E3.1)), (heap_setCell_other _ ⟨v1.heap.size, 2, none⟩ _ (.int .i64 f3) hne2).trans ((heap_setCell_other _ ⟨v1.heap.size, 1, none⟩ _ (.int .i64 f2) hne2).trans ((heap_setCell_other v3 ⟨v1.heap.size, 0, none⟩ _ (.string f1) hne2).trans E3.2))⟩
              have HN := Lib.hid (And.intro hN hN4)
              clear hN hN4 gB
              refine wpAnyH_ready (rs := [10]) (by kernel_rfl) (by simp) ?_
              refine AllReadyH.cons (i := 10) rfl (fun K hK => ?_) AllReadyH.nil
              go_simp
              refine hK.out _ _ EZ (fun _ => ?_)
              clear hK K d0 d1 d2 f9
              refine wpAnyH_take (i := 11) (v := ?_) rfl (by kernel_rfl) (by kernel_rfl) (by kernel_rfl) (fun _ _ _ h => h) (Or.inl ⟨by kernel_rfl, ?_⟩) EZ ?_
              rotate_left
              · (intro W hS; have k0 : W.cell? ⟨gx, 0, none⟩ = some (.slice a n1 ca) := (by rw [cell_of_row _ _ _ _ _ _ hS.1]; rfl); have k1 : W.cell? ⟨gp, 0, none⟩ = some (.int .i64 n1) := (by rw [cell_of_row _ _ _ _ _ _ hS.2]; rfl); have k2 : W.cell? ⟨gp, 1, none⟩ = some (.slice ap np cp) := (by rw [cell_of_row _ _ _ _ _ _ hS.2]; rfl); go_simp; try (with_reducible rfl))
              refine wpAnyH_take (i := 12) (v := ?_) rfl (by kernel_rfl) (by kernel_rfl) (by kernel_rfl) (fun _ _ _ h => h) (Or.inl ⟨by kernel_rfl, ?_⟩) EZ ?_
              rotate_left
              · (intro W hS; have k0 : W.cell? ⟨gx, 0, none⟩ = some (.slice a n1 ca) := (by rw [cell_of_row _ _ _ _ _ _ hS.1]; rfl); have k1 : W.cell? ⟨gp, 0, none⟩ = some (.int .i64 n1) := (by rw [cell_of_row _ _ _ _ _ _ hS.2]; rfl); have k2 : W.cell? ⟨gp, 1, none⟩ = some (.slice ap np cp) := (by rw [cell_of_row _ _ _ _ _ _ hS.2]; rfl); go_simp; try (with_reducible rfl))
              refine wpAnyH_done (by kernel_rfl) ?_ _
              go_simp
              clear EZ
              generalize World.setCell _ _ _ = wz at *
              go_wp2_with fail
              go_meet
              exact ⟨_, rfl, rfl, rfl, HN.out.1, HN.out.2⟩
          · obtain ⟨v1, hv⟩ : ∃ v, v = v0.alloc (.cells (rwCs Ix.Rw.zero) 41) := ⟨_, rfl⟩
            have hb : Below v0.heap.size v0 v1 := by rw [hv]; exact (Below.refl _ _).alloc (Nat.le_refl _) _
            have gB : v1.heap[v0.heap.size]? = some (.cells (rwCs Ix.Rw.zero) 41 (0, 0)) := by rw [hv]; exact heap_alloc_new _ _
            have F1 := F0.trans (hb.mono F0.size)
            have E1 : (v1.heap[gx]? = some (.cells #[.slice a n1 ca] 25 (0, 0)) ∧ v1.heap[gp]? = some (.cells #[.int .i64 n1, .slice ap np cp] 34 (0, 0))) := ⟨(hb.block _ (lt_of_heap E0.1)).trans E0.1, (hb.block _ (lt_of_heap E0.2)).trans E0.2⟩
            simp only [rwCs, Ix.Rw.zero] at hv
            go_simp
            rw [← hv]
            clear hv
            have hgz := lt_of_heap gB
            have hgl : w11.heap.size ≤ v0.heap.size := F0.size
            refine hK.out _ _ E1 (fun _ => ?_)
            clear hK K hb
            refine wpAnyH_ready (rs := [1]) (by kernel_rfl) (by simp) ?_
            refine AllReadyH.cons (i := 1) rfl (fun K hK => ?_) AllReadyH.nil
            go_simp
            refine (H.out.2.1 v1 a ca (bcall H11.out.1 F1 H11.out.1.size) (H11.out.2.2.1.below F1)).mono ?_
            rintro e v2 ⟨rfl, hb⟩
            have F2 := F1.trans (hb.mono F1.size)
            have E2 : (v2.heap[gx]? = some (.cells #[.slice a n1 ca] 25 (0, 0)) ∧ v2.heap[gp]? = some (.cells #[.int .i64 n1, .slice ap np cp] 34 (0, 0))) := ⟨(hb.block _ (lt_of_heap E1.1)).trans E1.1, (hb.block _ (lt_of_heap E1.2)).trans E1.2⟩
            have gB := (hb.block _ (lt_of_heap gB)).trans gB
            have hgz := Nat.lt_of_lt_of_le hgz hb.size
            refine hK.out _ _ E2 (fun _ => ?_)
            clear hK K hb
            refine wpAnyH_ready (rs := [4]) (by kernel_rfl) (by simp) ?_
            refine AllReadyH.cons (i := 4) rfl (fun K hK => ?_) AllReadyH.nil
            go_simp
            refine (HT.out.2.2.2.2.2.1 v2 ap cp (bcall H11.out.1 F2 H11.out.1.size) (H11.out.2.2.2.2.2.2.below F2)).mono ?_
            rintro e v3 ⟨rfl, hb⟩
            have F3 := F2.trans (hb.mono F2.size)
            have E3 : (v3.heap[gx]? = some (.cells #[.slice a n1 ca] 25 (0, 0)) ∧ v3.heap[gp]? = some (.cells #[.int .i64 n1, .slice ap np cp] 34 (0, 0))) := ⟨(hb.block _ (lt_of_heap E2.1)).trans E2.1, (hb.block _ (lt_of_heap E2.2)).trans E2.2⟩
            have gB := (hb.block _ (lt_of_heap gB)).trans gB
            have hgz := Nat.lt_of_lt_of_le hgz hb.size
            refine hK.out _ _ E3 (fun _ => ?_)
            clear hK K hb
            refine wpAnyH_take (i := 5) (v := ?_) rfl (by kernel_rfl) (by kernel_rfl) (by kernel_rfl) (fun _ _ _ h => h) (Or.inl ⟨by kernel_rfl, ?_⟩) E3 ?_
            rotate_left
            · (intro W hS; have k0 : W.cell? ⟨gx, 0, none⟩ = some (.slice a n1 ca) := (by rw [cell_of_row _ _ _ _ _ _ hS.1]; rfl); have k1 : W.cell? ⟨gp, 0, none⟩ = some (.int .i64 n1) := (by rw [cell_of_row _ _ _ _ _ _ hS.2]; rfl); have k2 : W.cell? ⟨gp, 1, none⟩ = some (.slice ap np cp) := (by rw [cell_of_row _ _ _ _ _ _ hS.2]; rfl); go_simp; try (with_reducible rfl))
            refine wpAnyH_take (i := 6) (v := ?_) rfl (by kernel_rfl) (by kernel_rfl) (by kernel_rfl) (fun _ _ _ h => h) (Or.inl ⟨by kernel_rfl, ?_⟩) E3 ?_
            rotate_left
            · (intro W hS; have k0 : W.cell? ⟨gx, 0, none⟩ = some (.slice a n1 ca) := (by rw [cell_of_row _ _ _ _ _ _ hS.1]; rfl); have k1 : W.cell? ⟨gp, 0, none⟩ = some (.int .i64 n1) := (by rw [cell_of_row _ _ _ _ _ _ hS.2]; rfl); have k2 : W.cell? ⟨gp, 1, none⟩ = some (.slice ap np cp) := (by rw [cell_of_row _ _ _ _ _ _ hS.2]; rfl); go_simp; try (with_reducible rfl))
            refine wpAnyH_take (i := 7) (v := ?_) rfl (by kernel_rfl) (by kernel_rfl) (by kernel_rfl) (fun _ _ _ h => h) (Or.inl ⟨by kernel_rfl, ?_⟩) E3 ?_
            rotate_left
            · (intro W hS; have k0 : W.cell? ⟨gx, 0, none⟩ = some (.slice a n1 ca) := (by rw [cell_of_row _ _ _ _ _ _ hS.1]; rfl); have k1 : W.cell? ⟨gp, 0, none⟩ = some (.int .i64 n1) := (by rw [cell_of_row _ _ _ _ _ _ hS.2]; rfl); have k2 : W.cell? ⟨gp, 1, none⟩ = some (.slice ap np cp) := (by rw [cell_of_row _ _ _ _ _ _ hS.2]; rfl); go_simp; try (with_reducible rfl))
            refine wpAnyH_take (i := 8) (v := ?_) rfl (by kernel_rfl) (by kernel_rfl) (by kernel_rfl) (fun _ _ _ h => h) (Or.inl ⟨by kernel_rfl, ?_⟩) E3 ?_
            rotate_left
            · (intro W hS; have k0 : W.cell? ⟨gx, 0, none⟩ = some (.slice a n1 ca) := (by rw [cell_of_row _ _ _ _ _ _ hS.1]; rfl); have k1 : W.cell? ⟨gp, 0, none⟩ = some (.int .i64 n1) := (by rw [cell_of_row _ _ _ _ _ _ hS.2]; rfl); have k2 : W.cell? ⟨gp, 1, none⟩ = some (.slice ap np cp) := (by rw [cell_of_row _ _ _ _ _ _ hS.2]; rfl); go_simp; try (with_reducible rfl))
            obtain ⟨d0, d1, d2⟩ := row3 gB
            simp only [Ix.Rw.zero] at d0 d1 d2
            have f9 : ∀ j, v3.frozen? ⟨v0.heap.size, j, none⟩ = false := fun j => frozen_of_row _ _ _ _ _ gB
            have hne : gx ≠ v0.heap.size := by have := lt_of_heap H11.out.2.1; omega
            have hne2 : gp ≠ v0.heap.size := by have := lt_of_heap H11.out.2.2.2.2.2.1; omega
            have hN : (((v3.setCell ⟨v0.heap.size, 0, none⟩ (.string f1)).setCell ⟨v0.heap.size, 1, none⟩ (.int .i64 f2)).setCell ⟨v0.heap.size, 2, none⟩ (.int .i64 f3)).heap[v0.heap.size]? = some (.cells #[.string f1, .int .i64 f2, .int .i64 f3] 41 (0, 0)) := by rw [heap_setCell_same _ _ _ _ _ _ (heap_setCell_same _ _ _ _ _ _ (heap_setCell_same _ _ _ _ _ _ gB))]; rfl
            have hN4 : Below w11.heap.size w11 (((v3.setCell ⟨v0.heap.size, 0, none⟩ (.string f1)).setCell ⟨v0.heap.size, 1, none⟩ (.int .i64 f2)).setCell ⟨v0.heap.size, 2, none⟩ (.int .i64 f3)) := rput3 F3 hgl _ _ _
            have EZ : ((((v3.setCell ⟨v0.heap.size, 0, none⟩ (.string f1)).setCell ⟨v0.heap.size, 1, none⟩ (.int .i64 f2)).setCell ⟨v0.heap.size, 2, none⟩ (.int .i64 f3)).heap[gx]? = some (.cells #[.slice a n1 ca] 25 (0, 0)) ∧ (((v3.setCell ⟨v0.heap.size, 0, none⟩ (.string f1)).setCell ⟨v0.heap.size, 1, none⟩ (.int .i64 f2)).setCell ⟨v0.heap.size, 2, none⟩ (.int .i64 f3)).heap[gp]? = some (.cells #[.int .i64 n1, .slice ap np cp] 34 (0, 0))) := ⟨(heap_setCell_other _ ⟨v0.heap.size, 2, none⟩ _ (.int .i64 f3) hne).trans ((heap_setCell_other _ ⟨v0.heap.size, 1, none⟩ _ (.int .i64 f2) hne).trans ((heap_setCell_other v3 ⟨v0.heap.size, 0, none⟩ _ (.string f1) hne).trans E3.1)), (heap_setCell_other _ ⟨v0.heap.size, 2, none⟩ _ (.int .i64 f3) hne2).trans ((heap_setCell_other _ ⟨v0.heap.size, 1, none⟩ _ (.int .i64 f2) hne2).trans ((heap_setCell_other v3 ⟨v0.heap.size, 0, none⟩ _ (.string f1) hne2).trans E3.2))⟩
            have HN := Lib.hid (And.intro hN hN4)
            clear hN hN4 gB
            refine wpAnyH_ready (rs := [10]) (by kernel_rfl) (by simp) ?_
            refine AllReadyH.cons (i := 10) rfl (fun K hK => ?_) AllReadyH.nil
            go_simp
            refine hK.out _ _ EZ (fun _ => ?_)
            clear hK K d0 d1 d2 f9
            refine wpAnyH_take (i := 11) (v := ?_) rfl (by kernel_rfl) (by kernel_rfl) (by kernel_rfl) (fun _ _ _ h => h) (Or.inl ⟨by kernel_rfl, ?_⟩) EZ ?_
            rotate_left
            · (intro W hS; have k0 : W.cell? ⟨gx, 0, none⟩ = some (.slice a n1 ca) := (by rw [cell_of_row _ _ _ _ _ _ hS.1]; rfl); have k1 : W.cell? ⟨gp, 0, none⟩ = some (.int .i64 n1) := (by rw [cell_of_row _ _ _ _ _ _ hS.2]; rfl); have k2 : W.cell? ⟨gp, 1, none⟩ = some (.slice ap np cp) := (by rw [cell_of_row _ _ _ _ _ _ hS.2]; rfl); go_simp; try (with_reducible rfl))
            refine wpAnyH_take (i := 12) (v := ?_) rfl (by kernel_rfl) (by kernel_rfl) (by kernel_rfl) (fun _ _ _ h => h) (Or.inl ⟨by kernel_rfl, ?_⟩) EZ ?_
            rotate_left
            · (intro W hS; have k0 : W.cell? ⟨gx, 0, none⟩ = some (.slice a n1 ca) := (by rw [cell_of_row _ _ _ _ _ _ hS.1]; rfl); have k1 : W.cell? ⟨gp, 0, none⟩ = some (.int .i64 n1) := (by rw [cell_of_row _ _ _ _ _ _ hS.2]; rfl); have k2 : W.cell? ⟨gp, 1, none⟩ = some (.slice ap np cp) := (by rw [cell_of_row _ _ _ _ _ _ hS.2]; rfl); go_simp; try (with_reducible rfl))
            refine wpAnyH_done (by kernel_rfl) ?_ _
            go_simp
            clear EZ
            generalize World.setCell _ _ _ = wz at *
            go_wp2_with fail
            go_meet
            exact ⟨_, rfl, rfl, rfl, HN.out.1, HN.out.2⟩
        case rest =>
          obtain ⟨gr, rfl, rfl, rfl, hgr, hbd⟩ := hcut
          obtain ⟨wD, hwD⟩ : ∃ wD, wD = wc := ⟨_, rfl⟩
          subst hwD
          have HD := Lib.hid (And.intro (bcall H11.out.2.2.2.2.1 hbd H11.out.2.2.2.2.1.size) (And.intro hgr (H11.out.2.2.2.1.below hbd)))
          clear hgr hbd
          go_wp2_with fail
          refine (HT.out.2.2.1 _ HD.out.2.2).mono ?_
          rintro e w12 ⟨rfl, rfl⟩
          obtain ⟨d0, d1, d2⟩ : w12.cell? ⟨gr, 0, none⟩ = some (.string f1) ∧ w12.cell? ⟨gr, 1, none⟩ = some (.int .i64 f2) ∧ w12.cell? ⟨gr, 2, none⟩ = some (.int .i64 f3) := ⟨by rw [cell_of_row _ _ _ _ _ _ HD.out.2.1]; rfl, by rw [cell_of_row _ _ _ _ _ _ HD.out.2.1]; rfl, by rw [cell_of_row _ _ _ _ _ _ HD.out.2.1]; rfl⟩
          rcases HT.out.2.2.2.2.2.2 with ⟨j, rfl, rfl, hj⟩ | ⟨rfl, rfl⟩
          · obtain ⟨b, off, rfl, -, q0, q1, q2⟩ := HD.out.2.2 j _ hj
            have hjn : j < n1 := by rw [H.out.2.2.2.2.2.1]; exact (List.getElem?_eq_some_iff.1 hj).1
            have he := fun W => equalRw ⟨f1, f2, f3⟩ ⟨f1, f2, f3⟩ W
            rw [eqRw_iff.2 rfl] at he
            simp only at q0 q1 q2 he
            have hj0 : (0 : Int) ≤ (j : Int) := by omega
            clear hj
            go_wp2_with fail
            go_quiet (fail)
            have HB := Lib.hid (below_drewN HD.out.1 nq)
            generalize w12.drewN nq = w13 at *
            go_wp2_with fail
            go_roundw
            case rel => exact ⟨i + 1, by have := HI.out.2; omega, by go_num, HB.out⟩
            case measure => have := HI.out.2; simp [intOf]; omega
          · go_wp2_with fail
            go_quiet (fail)
            have HB := Lib.hid (below_drewN HD.out.1 nq)
            generalize w12.drewN nq = w13 at *
            go_wp2_with fail
            go_roundw
            case rel => exact ⟨i + 1, by have := HI.out.2; omega, by go_num, HB.out⟩
            case measure => have := HI.out.2; simp [intOf]; omega
    · obtain rfl : i = 2 := by omega
      have HB := Lib.hid (bcall H4.out.1 hbr H4.out.1.size)
      clear hbr
      go_wp2_with fail
      go_ret
      exact ⟨rfl, HB.out⟩
end Go.Proofs.YtdfkpjmljaanpaaGreatDoor
namespace Go.Proofs.YtdfkpjmljaanpaaGreatDoor.indexProvesLaw
open Go.ChangeShapes Go.WideShapes Go.ChangeAt Go.RowKit
open Go.ChangeMaps (open_string shut_string)
set_option maxRecDepth 100000 in
theorem contract (H : Type) (enc : TypeId × Value → H) (W : World) (base : Nat) (args : Array Value) (ds gs : List (DataW H)) (before : List MemPlace)
    (hval : ∀ (j : Nat) t v, Tryz.f3.params[j]? = some t → args[j]? = some v → Value.okWide Tryz.prog W .any base t v)
    (hW : DataW.Whole enc Tryz.prog Tryz.f3.params.toList Rows.indexProvesSpec.vars false W args.toList ds gs before) (hL : laidMetH Tryz.prog Rows.indexProvesRow.laid W) :
    Calls Tryz.prog 3 args W fun e W' => ∃ v, e = .returned v ∧ Rows.indexProvesSpec.post enc Tryz.prog Tryz.f3 false true false false W args v W' := by
  have hW' := hW
  obtain ⟨p, q, hA0, hV, rfl, hfz, hnd⟩ := hW
  have hA : DataW.TrodAll enc Tryz.prog W 0 (fun _ => true) true Tryz.f3.params.toList args.toList ds p := hA0
  rw [Tryz.params3] at hA hval
  obtain ⟨v0, vs0, d0, ds0, p0, q0, hargs, rfl, rfl, h0, r0⟩ := trodAll_cons hA
  obtain ⟨v1, vs1, d1, ds1, p1, q1, rfl, rfl, rfl, h1, r1⟩ := trodAll_cons r0
  obtain ⟨v2, vs2, d2, ds2, p2, q2, rfl, rfl, rfl, h2, r2⟩ := trodAll_cons r1
  obtain ⟨rfl, rfl, rfl⟩ := trodAll_nil r2
  obtain rfl : args = #[v0, v1, v2] := by cases args; simp_all
  obtain ⟨rfl, rfl⟩ := trodVars_none hV
  obtain ⟨a0, len0, cap0, rfl⟩ := okWide_slice Tryz.underlying22 (hval 0 22 v0 rfl rfl)
  have hk0 := h0
  obtain ⟨fuel0, hf0⟩ := h0
  obtain ⟨n1, rfl, rfl, rfl, ws1⟩ := open_int Tryz.underlying3 (hval 1 3 v1 rfl rfl) h1
  have hbd1 := ws1
  simp only [Lit.wf, Bool.and_eq_true, decide_eq_true_eq] at hbd1
  obtain ⟨s2, rfl, rfl, rfl, ws2⟩ := open_string Tryz.underlying9 (hval 2 9 v2 rfl rfl) h2
  clear hA0
  simp only [List.append_nil] at hW'
  have hlt0 : ∀ x ∈ p0, x.block < W.heap.size := fun x hx => by simpa using hW'.lt x (by simp [hx])
  obtain ⟨ss0, hlen0, hmax0, hT0⟩ := lads_of hf0 hlt0
  subst hlen0
  refine (ixproves_law ss0 a0 cap0 hT0 hmax0 n1 hbd1.1 hbd1.2 s2 (by simpa using ws2) (w := W) (hG := glob_of_laid hL)).mono fun e W' ⟨he, hb⟩ => ?_
  subst he
  exact ⟨_, rfl, _, _, _, [], _, [], hW', trodAll_cons_mk (shut_bool Tryz.underlying4 _) trodAll_mk0, (trodAll_cons_mk (Below.trod laidOut (by kernel_rfl) (of_decide_eq_true (by kernel_rfl)) hk0 hb hlt0) (trodAll_cons_mk (shut_int Tryz.underlying3 ws1) (trodAll_cons_mk (shut_string Tryz.underlying9 ws2) trodAll_mk0))), rfl, hb.frame _, fun h => by cases h⟩
theorem laid_met (os : Os) : laidMet Tryz.prog Rows.indexProvesRow.laid ((laidWorld os).forCall (fun _ _ => 0) ⟨#[], #[.slice none 0 0, .int .i64 0, .string ⟨#[]⟩], []⟩).memory :=
  laidMet_of_run' 8 (by kernel_rfl) (by kernel_rfl)
theorem reads (os : Os) {H : Type} (enc : TypeId × Value → H) : ∃ places, DataW.whole enc Tryz.prog ((laidWorld os).forCall (fun _ _ => 0) ⟨#[], #[.slice none 0 0, .int .i64 0, .string ⟨#[]⟩], []⟩).memory Tryz.f3.params.toList Rows.indexProvesSpec.vars false #[Value.slice none 0 0, .int .i64 0, .string ⟨#[]⟩].toList 8 = some ([.nil, .lit (.int .i64 0), .lit (.string [])], [], places) :=
  ⟨[], by kernel_rfl⟩
set_option maxRecDepth 100000 in
theorem lifted (os : Os) (started : os.Started) (H : Type) (enc : TypeId × Value → H) (F : Stop.Interp) :
    ReturnsInHanded {} Tryz.checked os 3 .any ((OpenSpec.ofChange Rows.indexProvesSpec).preRow enc Tryz.prog Tryz.f3 Rows.indexProvesRow.domain false Rows.indexProvesRow.laid) (((OpenSpec.ofChange Rows.indexProvesSpec).at F).post enc Tryz.prog Tryz.f3 false true false false) := by
  obtain ⟨places, hx⟩ := reads os enc
  refine returnsInHanded_of_row (C := Tryz.checked) (s := OpenSpec.ofChange Rows.indexProvesSpec) own started (by kernel_rfl) Tryz.func3
    (witness_row_at (enc := enc) (C := Tryz.checked) false (laidWorld os) #[.slice none 0 0, .int .i64 0, .string ⟨#[]⟩] rfl (by kernel_rfl) (by kernel_rfl) (by kernel_rfl)
      (OpenSpec.preRow_of_cond 8 hx (by kernel_rfl) (fun k hk => by cases hk) (by kernel_rfl) (laid_met os))) ?_
  intro W base args ds gs before hval hW _ _ _ hL _ _
  exact contract H enc W base args ds gs before hval hW hL
theorem said : Rows.IndexProvesSaid :=
  OpenClaim.holds_of_cond 3 Tryz.f3 rfl rfl rfl rfl rfl rfl rfl ⟨rfl, rfl, rfl, rfl, rfl⟩ rfl rfl rfl rfl rfl (by kernel_rfl) Tryz.func3 (by kernel_rfl)
    (of_decide_eq_true (by kernel_rfl)) (by unfold Func.isWrapper; first | (rw [if_pos (by decide +kernel)]; kernel_rfl) | (rw [if_neg (by decide +kernel)]; exact ⟨rfl, rfl⟩))
    (fun os started H enc _ F => by rw [OpenClaim.pre_eq_preRow]; exact lifted os started H enc F)
theorem plain (f : FuncId) (fn : Func) (hf : Tryz.pinned.checked.prog.funcNamed "lockbox/lockboxlaw18.IndexProves" = some f) (hfn : Tryz.pinned.checked.prog.funcs[f]? = some fn) :
    false = Tryz.pinned.checked.prog.looks [] ∧ ∀ (j : Nat) t, fn.params[j]? = some t → Tryz.pinned.checked.prog.wantsStandIn t = false := by
  obtain rfl : f = 3 := Option.some.inj ((show Tryz.prog.funcNamed "lockbox/lockboxlaw18.IndexProves" = some 3 by kernel_rfl).symm.trans hf) |>.symm
  obtain rfl : fn = Tryz.f3 := (Option.some.inj (Tryz.func3.symm.trans hfn)).symm
  refine ⟨by kernel_rfl, fun j t ht => ?_⟩
  rw [Tryz.params3] at ht
  have hm : t ∈ [22, 3, 9] := by simpa using Array.mem_of_getElem? ht
  have hall : ([22, 3, 9].all fun u => !Tryz.prog.wantsStandIn u) = true := by kernel_rfl
  exact (show Tryz.prog.wantsStandIn t = false by simpa using List.all_eq_true.1 hall t hm)
end Go.Proofs.YtdfkpjmljaanpaaGreatDoor.indexProvesLaw
namespace Go.Proofs.YtdfkpjmljaanpaaGreatDoor
/-- THE CARD. -/
theorem indexProves_card : Rows.IndexProvesCardSaid :=
  Claim7.holds_tied_plain_at .later [] _ _ _ _ indexProvesLaw.said (fun _ h => by cases h) (by kernel_rfl) (fun _ h => by cases h) indexProves_row_tie rfl ⟨rfl, rfl⟩ (by kernel_rfl) rfl indexProvesLaw.plain (by kernel_rfl)
end Go.Proofs.YtdfkpjmljaanpaaGreatDoor
