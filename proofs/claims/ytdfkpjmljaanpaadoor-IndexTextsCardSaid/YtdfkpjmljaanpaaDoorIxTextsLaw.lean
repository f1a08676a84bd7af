/- PROVED HERE: for every list of leaves with tags and every number the law IndexTexts returns true (the texts of the root of the index of the first 40 leaves are those of the tree of its rows and the root's; those of a proof lead to it), and all read afterwards as it did. Its conditions: the package-level tables of digest hold what their initialisers give (the tied card). -/
import Derived.Test.YtdfkpjmljaanpaaDoorIxMd
import Derived.Test.YtdfkpjmljaanpaaDoorMX9
import Derived.Test.YtdfkpjmljaanpaaDoorIxAwk
import Derived.Test.YtdfkpjmljaanpaaDoorBT2
import Derived.Test.YtdfkpjmljaanpaaDoorLaid
namespace Go.Proofs.YtdfkpjmljaanpaaDoor
open Go.RowKit
open Cn

/-- What a law has of an index that was made. -/
structure IxF (R : List Rw) : Prop where
  rise : Ix.Rise R
  ok : ∀ r ∈ R, Ix.rwOk r
  few : R.length ≤ 400
theorem ixF_of (l : List Lad) (mo : Nat) (_ : mo ≤ 50) : IxF (Ix.mdI ((ladP l).take mo)).1 := by
  have hk := Ix.mdI_ok ((ladP l).take mo)
  have hl : ((ladP l).take mo).length ≤ mo := by rw [List.length_take]; omega
  have h2 := hk.hi
  have h3 := hk.few
  exact ⟨hk.good.rise, hk.good.ok (by omega), by omega⟩
theorem tgo_any (i : Nat) (_ : i < 256) (w : World) : Calls Tryd.prog 10 #[.int .i64 (i : Int)] w fun e w' => e = .returned (.string (tgP (UInt8.ofNat i))) ∧ Below w.heap.size w w' :=
  ltag18_any (i : Int) (UInt8.ofNat i) (by rw [UInt8.toNat_ofNat']; omega) w
theorem rem40 (n : Int) : ∃ c : Nat, c < 40 ∧ (IntKind.i64.wrap (IntKind.i64.wrap (n.tmod 40) + 40)).tmod 40 = (c : Int) ∧ IntKind.i64.wrap (n.tmod 40) = n.tmod 40 ∧ IntKind.i64.wrap (n.tmod 40 + 40) = n.tmod 40 + 40 ∧ (n.tmod 40 + 40).tmod 40 = (c : Int) := by
  have h3 : -40 < n.tmod 40 ∧ n.tmod 40 < 40 := by
    constructor
    · have := Int.lt_tmod_of_pos n (show (0 : Int) < 40 by decide); omega
    · exact Int.tmod_lt_of_pos n (by decide)
  have e1 : IntKind.i64.wrap (n.tmod 40) = n.tmod 40 := Ix.wrap_in (by omega) (by omega)
  have e2 : IntKind.i64.wrap (n.tmod 40 + 40) = n.tmod 40 + 40 := Ix.wrap_in (by omega) (by omega)
  have h4 : 0 ≤ (n.tmod 40 + 40).tmod 40 := Int.tmod_nonneg _ (by omega)
  have h5 : (n.tmod 40 + 40).tmod 40 < 40 := Int.tmod_lt_of_pos _ (by decide)
  refine ⟨((n.tmod 40 + 40).tmod 40).toNat, by omega, by rw [e1, e2]; omega, e1, e2, by omega⟩
/-- Two cells of another block are set: the rows that are shown stay. -/
theorem shAt_put {W : World} {g : Nat} {x : Int} {T : TypeId} {a : Option Addr} {l : List Ix.Sh} (hg : W.heap[g]? = some (.cells #[.int .i64 x, .slice none 0 0] T (0, 0))) (h : ShAt W a l) (u v : Value) :
    ShAt ((W.setCell ⟨g, 0, none⟩ u).setCell ⟨g, 1, none⟩ v) a l := by
  have hz : ((W.setCell ⟨g, 0, none⟩ u).setCell ⟨g, 1, none⟩ v).heap.size = W.heap.size := by simp [World.setCell]
  have hs : ∀ (o : Nat) (s : ByteArray), W.cell? ⟨g, o, none⟩ = some (.string s) → False := fun o s e => by
    rw [cell_of_row _ _ _ _ _ _ hg] at e
    match o, e with
    | 0, e => cases e
    | 1, e => cases e
    | o + 2, e => simp at e
  have hc : ∀ (b o : Nat), b ≠ g → ((W.setCell ⟨g, 0, none⟩ u).setCell ⟨g, 1, none⟩ v).cell? ⟨b, o, none⟩ = W.cell? ⟨b, o, none⟩ := fun b o hne => by
    rw [World.cell?_setCell_other (h := by intro e; injection e with e1; first | exact hne e1 | exact hne e1.symm), World.cell?_setCell_other (h := by intro e; injection e with e1; first | exact hne e1 | exact hne e1.symm)]
  intro j s hj
  obtain ⟨b, off, wa, wc, rfl, hbl, h1, h2, h3, h4, h5, h6, h7, h8⟩ := h j s hj
  have hne : b ≠ g := fun e => by subst e; exact hs _ _ h2
  refine ⟨b, off, wa, wc, rfl, by rw [hz]; exact hbl, by rw [hc _ _ hne]; exact h1, by rw [hc _ _ hne]; exact h2, by rw [hc _ _ hne]; exact h3, by rw [hc _ _ hne]; exact h4, by rw [hc _ _ hne]; exact h5, h6, h7, fun k hk => ?_⟩
  obtain ⟨b2, off2, e, hb2, hc2⟩ := h8 k hk
  have hne2 : b2 ≠ g := fun e => by subst e; exact hs _ _ hc2
  exact ⟨b2, off2, e, by rw [hz]; exact hb2, by rw [hc _ _ hne2]; exact hc2⟩
theorem cnt_take {l : List Ix.Sh} {i : Nat} {s : Ix.Sh} (h : l[i]? = some s) : Ix.cntT (l.take (i + 1)) = Ix.cntT (l.take i) + 2 + s.way.length := by
  induction l generalizing i with
  | nil => simp at h
  | cons x l ih =>
    cases i with
    | zero =>
      obtain rfl : x = s := by simpa using h
      simp [Ix.cntT]
    | succ i =>
      have := ih (i := i) (by simpa using h)
      rw [List.take_succ_cons, List.take_succ_cons, Ix.cntT, Ix.cntT, this]; omega
theorem cnt_mono : ∀ (l : List Ix.Sh) (i : Nat), Ix.cntT (l.take i) ≤ Ix.cntT l
  | [], i => by rw [List.take_nil]; exact Nat.le_refl _
  | s :: l, 0 => Nat.zero_le _
  | s :: l, i + 1 => by
    have := cnt_mono l i
    rw [List.take_succ_cons, Ix.cntT, Ix.cntT]; omega
theorem cnt_le : ∀ l : List Ix.Sh, (∀ s ∈ l, s.way.length ≤ 400) → Ix.cntT l ≤ l.length * 402
  | [], _ => Nat.zero_le _
  | s :: l, h => by
    have h1 := h s (List.mem_cons_self ..)
    have h2 := cnt_le l fun x hx => h x (List.mem_cons_of_mem _ hx)
    rw [Ix.cntT, List.length_cons, Nat.succ_mul]; omega
set_option maxRecDepth 100000 in
set_option maxHeartbeats 40000000 in
theorem ixtexts_law {w : World} (l : List Lad) (a0 : Option Addr) (cap : Nat) (hT : LadsAt w a0 l) (hm : l.length ≤ maxLen) (n : Int) (_ : -9223372036854775808 ≤ n) (_ : n ≤ 9223372036854775807) (hG : Glob w) :
    Calls Tryd.prog 5 #[.slice a0 l.length cap, .int .i64 n] w fun e w' => e = .returned (.bool true) ∧ Below w.heap.size w w' := by
  have hmd := made18_any l a0 cap 40 (by decide) w hT hm
  have hX := ixF_of l 40 (by decide)
  obtain ⟨R, hR⟩ : ∃ R, R = (Ix.mdI ((ladP l).take 40)).1 := ⟨_, rfl⟩
  rw [← hR] at hmd hX
  have hR4 := hX.few
  obtain ⟨c, hc, -, hc1, hc2, hc3⟩ := rem40 n
  have htg := fun W => tgo_any c (by omega) W
  obtain ⟨t, ht⟩ : ∃ t, t = tgP (UInt8.ofNat c) := ⟨_, rfl⟩
  rw [← ht] at htg
  have hrt := fun (W : World) (a : Option Addr) (c : Nat) (hb : Below w.heap.size w W) (h : RwAt W a R) => root18_any R a c W (hG.below hb) h (by omega) hX.ok
  have htx := fun (W : World) (a : Option Addr) (c : Nat) (hb : Below w.heap.size w W) (h : RwAt W a R) => textsX_any R a c W (hG.below hb) h (by omega) hX.ok
  have hlv := fun (W : World) (a : Option Addr) (c : Nat) (h : RwAt W a R) => rleaves18_any R a c W h (by omega) hX.ok
  have hpv := fun (W : World) (a : Option Addr) (c : Nat) (hb : Below w.heap.size w W) (h : RwAt W a R) => prove18_any R hX.rise t a c W (hG.below hb) h (by omega) hX.ok
  have hway : ∀ s ∈ Ix.prvI R t, Ix.rwOk s.row ∧ s.way.length ≤ 400 := fun s hs => by
    refine ⟨prv_ok hX.ok hs, ?_⟩
    obtain ⟨i, r, -, rfl⟩ := Ix.prv_mem hs
    have h1 := Tr.way_length _ (Ix.lvs R) i rfl
    rw [Ix.lvs_length] at h1
    exact Nat.le_trans h1 hR4
  have hpn : (Ix.prvI R t).length ≤ 400 := by
    unfold Ix.prvI Ix.prvN
    refine Nat.le_trans (List.length_filterMap_le _ _) ?_
    rw [List.length_range]; exact hR4
  have hpt := fun (W : World) (a : Option Addr) (c : Nat) (hb : Below w.heap.size w W) (h : ShAt W a (Ix.prvI R t)) => ptexts_any R.length (Ix.prvI R t) a c W (hG.below hb) h (by omega) (fun s hs => ⟨(hway s hs).1, by have := (hway s hs).2; omega⟩)
  rw [ptR_prv (by omega) t] at hpt
  obtain ⟨hp1, hp2⟩ := Ix.ptI_prv hX.rise (by omega) t
  have htl := Ix.txI_last R
  have htn := Ix.txI_len R
  have hsm := fun W => rsumref_any (Ix.rtT R) (by have := topS_small (n := R.length) (by omega) (Ix.root_32 (Ix.lvs_digs R)); exact Nat.lt_of_le_of_lt this (by decide)) W
  have hat : ∀ i r, R[i]? = some r → (Ix.txI R).getD i ByteArray.empty = ⟨#[0]⟩ ++ Ix.rwS r ∧ (Ix.rwS r).size ≤ 100 := fun i r h => by
    refine ⟨?_, rwS_small (hX.ok r (List.mem_of_getElem? h))⟩
    rw [List.getD_eq_getElem?_getD, Ix.txI_at h]; rfl
  obtain ⟨P, hP⟩ : ∃ P, P = Ix.prvI R t := ⟨_, rfl⟩
  have hpv2 : ∀ (W : World) (a : Option Addr) (c : Nat), Below w.heap.size w W → RwAt W a R → Calls Tryd.prog 24 #[.agg #[.slice a R.length c], .string t] W (fun e w' => ∃ a ca, e = .returned (.agg #[.int .i64 R.length, .slice a P.length ca]) ∧ ShAt w' a P ∧ P.length ≤ ca ∧ ca ≤ maxLen ∧ Below W.heap.size W w') := fun W a c hb h => by rw [hP]; exact hpv W a c hb h
  rw [← hP] at hway hpn hpt hp1 hp2
  unfold MdPost at hmd
  obtain ⟨n1, hn1⟩ : ∃ n1, n1 = R.length := ⟨_, rfl⟩
  obtain ⟨np, hnp⟩ : ∃ np, np = P.length := ⟨_, rfl⟩
  obtain ⟨X, hXX⟩ : ∃ X, X = Ix.txI R := ⟨_, rfl⟩
  obtain ⟨U, hU⟩ : ∃ U, U = Ix.ptI R.length P := ⟨_, rfl⟩
  obtain ⟨LT, hLT⟩ : ∃ LT, LT = Ix.rtT R := ⟨_, rfl⟩
  obtain ⟨RT, hRT⟩ : ∃ RT, RT = Ix.rtI R := ⟨_, rfl⟩
  rw [show str (sha (Ix.rtT R).data.toList) = Ix.rtI R from rfl, ← hRT] at hsm
  obtain ⟨lvR, hlvR⟩ : ∃ lvR, lvR = R.map Ix.rwS := ⟨_, rfl⟩
  rw [← hlvR] at hlv
  rw [← hRT] at hrt
  rw [← hXX] at htx htl htn hat
  rw [← hLT] at htl hsm hp2
  rw [← hU] at hpt hp1 hp2
  rw [← hn1] at hrt htx hlv hpv2 hpt htn hp1 hmd hR4
  have hxl : X.getD (X.length - 1) ByteArray.empty = LT := by rw [List.getD_eq_getElem?_getD, htl]; rfl
  have hul : U.getD (U.length - 1) ByteArray.empty = LT ∧ 1 ≤ U.length := by
    obtain ⟨T, e⟩ := hp2
    rw [e, List.length_append, List.length_singleton, Nat.add_sub_cancel, List.getD_eq_getElem?_getD, List.getElem?_append_right (Nat.le_refl _), Nat.sub_self]
    exact ⟨rfl, by omega⟩
  obtain ⟨nx, hnx⟩ : ∃ nx, nx = X.length := ⟨_, rfl⟩
  obtain ⟨nu, hnu⟩ : ∃ nu, nu = U.length := ⟨_, rfl⟩
  obtain ⟨m1, hm1⟩ : ∃ m1, m1 = 2 * n1 - 1 := ⟨_, rfl⟩
  rw [← hnx] at htx htn hxl
  rw [← hnu] at hpt hp1 hul
  rw [← hnp] at hpt hpv2
  rw [show nx - 1 = m1 by omega] at hxl
  have hcl := cnt_le P (fun s hs => (hway s hs).2)
  obtain ⟨N, hN⟩ : ∃ N, N = l.length := ⟨_, rfl⟩
  rw [← hN] at hmd ⊢
  have H := Lib.hid (And.intro hmd (And.intro hrt (And.intro htx (And.intro hlv (And.intro hpv2 (And.intro hpt (And.intro hsm htg)))))))
  have HF := Lib.hid (And.intro hn1 (And.intro hnp (And.intro hnx (And.intro hnu (And.intro hxl (And.intro hul (And.intro hat (And.intro hlvR (And.intro htn (And.intro hp1 (And.intro hcl (And.intro hpn hm1))))))))))))
  have HC := Lib.hid (And.intro hc1 (And.intro hc2 (And.intro hc3 hR4)))
  clear hmd hrt htx hlv hpv hpv2 hpt hsm htg hn1 hnp hnx hnu hxl hul hat hlvR htn hp1 hcl hpn hm1 hc1 hc2 hc3 hR4 hX hway hp2 htl ht hc hR hP hXX hU hLT hRT hN hT hm hG
  go_enter Tryd.func5, Tryd.ntmps5
  go_wp2_with fail
  refine H.out.1.mono ?_
  rintro e w2 ⟨a, ca, r, rc, rfl, hoa, hna, hor, hb2⟩
  obtain ⟨w3, hw3⟩ : ∃ w3, w3 = w2.alloc (.cells #[.slice a n1 ca] 25) := ⟨_, rfl⟩
  have hb3 : Below w2.heap.size w2 w3 := by rw [hw3]; exact (Below.refl _ _).alloc (Nat.le_refl _) _
  have hg3 : w3.heap[w2.heap.size]? = some (.cells #[.slice a n1 ca] 25 (0, 0)) := by rw [hw3]; exact heap_alloc_new _ _
  have H3 := Lib.hid (And.intro (bcall hb2 hb3 hb2.size) (And.intro hg3 (And.intro ((rwAt_own hoa).below hb3) ((rwAt_own hor).below hb3))))
  obtain ⟨gx, hgx⟩ : ∃ gx, gx = w2.heap.size := ⟨_, rfl⟩
  rw [← hgx] at H3
  clear hoa hna hor hb2 hb3 hg3
  go_upto_region 2 with fail
  rw [← hw3, ← hgx]
  clear hw3 hgx
  go_wp2_with fail
  refine (awake18_any _).mono ?_
  rintro e w4 ⟨rfl, hb4⟩
  have H4 := Lib.hid (And.intro (bcall H3.out.1 hb4 H3.out.1.size) (And.intro ((hb4.block _ (lt_of_heap H3.out.2.1)).trans H3.out.2.1) (And.intro (H3.out.2.2.1.below hb4) (H3.out.2.2.2.below hb4))))
  clear hb4
  have c4 : w4.cell? ⟨gx, 0, none⟩ = some (.slice a n1 ca) := by rw [cell_of_row _ _ _ _ _ _ H4.out.2.1]; rfl
  go_wp2_with fail
  refine (H.out.2.2.1 _ _ _ H4.out.1 H4.out.2.2.1).mono ?_
  rintro e w5 ⟨ta, tc, rfl, hoT, hb5⟩
  have hT5 := OwnT.texts hoT
  obtain ⟨tb, tq, rfl, -, -⟩ := hT5 0 (by have := HF.out.2.2.1; have := HF.out.2.2.2.2.2.2.2.2.1; omega)
  have H5 := Lib.hid (And.intro (bcall H4.out.1 hb5 H4.out.1.size) (And.intro ((hb5.block _ (lt_of_heap H4.out.2.1)).trans H4.out.2.1) (And.intro (H4.out.2.2.1.below hb5) (And.intro (H4.out.2.2.2.below hb5) hT5))))
  have hlt : w5.cell? ⟨tb, tq + m1, none⟩ = some (.string LT) ∧ tb < w5.heap.size := by
    obtain ⟨b', o', e, h1, h2⟩ := hT5 m1 (by have := HF.out.2.2.1; have := HF.out.2.2.2.2.2.2.2.2.1; have := HF.out.2.2.2.2.2.2.2.2.2.2.2.2; omega)
    injection e with e
    injection e with e1 e2
    subst e1 e2
    rw [HF.out.2.2.2.2.1] at h2
    exact ⟨h2, h1⟩
  have HL := Lib.hid hlt
  clear hoT hb5 hT5 c4 hlt
  have hz : n1 ≤ 400 ∧ (nx : Int) = (m1 : Int) + 1 ∧ m1 = 2 * n1 - 1 := by have := HC.out.2.2.2; have := HF.out.2.2.2.2.2.2.2.2.1; have := HF.out.2.2.2.2.2.2.2.2.2.2.2.2; omega
  have HZ := Lib.hid hz
  clear hz
  go_upto_region 5 with fail
  have hx1 : IntKind.i64.wrap (2 * (n1 : Int)) = 2 * (n1 : Int) := Ix.wrap_in (by omega) (by have := HZ.out; omega)
  have hx2 : IntKind.i64.wrap (2 * (n1 : Int) - 1) = 2 * (n1 : Int) - 1 := Ix.wrap_in (by omega) (by have := HZ.out; omega)
  have hx3 : max (2 * (n1 : Int) - 1) 0 = (m1 : Int) := by have := HZ.out; omega
  have hx4 : IntKind.i64.wrap ((m1 : Int) + 1) = (nx : Int) := by rw [Ix.wrap_in (by omega) (by have := HZ.out; omega)]; have := HZ.out; omega
  have hx5 : IntKind.i64.wrap ((nx : Int) - 1) = (m1 : Int) := by rw [Ix.wrap_in (by omega) (by have := HZ.out; omega)]; have := HZ.out; omega
  have hx6 : m1 < nx := by have := HZ.out; omega
  go_wp2_with fail
  refine wp_region_held (S := fun W : World => (W.heap[gx]? = some (.cells #[.slice a n1 ca] 25 (0, 0)) ∧ W.cell? ⟨tb, tq + m1, none⟩ = some (.string LT) ∧ tb < W.heap.size)) (by kernel_rfl) ?_
  change wpAnyH _ _ _ _ _ _ _ _ (World.drew _)
  generalize hv0 : World.drew _ = v0
  have E0 : (v0.heap[gx]? = some (.cells #[.slice a n1 ca] 25 (0, 0)) ∧ v0.cell? ⟨tb, tq + m1, none⟩ = some (.string LT) ∧ tb < v0.heap.size) := by rw [← hv0]; exact (show _ ∧ _ ∧ _ from ⟨H5.out.2.1, HL.out.1, HL.out.2⟩)
  have F0 : Below w5.heap.size w5 v0 := by rw [← hv0]; exact ((Below.refl _ _).drew)
  clear hv0
  refine wpAnyH_take (i := 0) (v := ?_) rfl (by kernel_rfl) (by kernel_rfl) (by kernel_rfl) (fun _ _ _ h => h) (Or.inl ⟨by kernel_rfl, ?_⟩) E0 ?_
  rotate_left
  · (intro W hS; have k0 : W.cell? ⟨gx, 0, none⟩ = some (.slice a n1 ca) := (by rw [cell_of_row _ _ _ _ _ _ hS.1]; rfl); have k1 := hS.2.1; go_simp; try (with_reducible rfl))
  refine wpAnyH_take (i := 1) (v := ?_) rfl (by kernel_rfl) (by kernel_rfl) (by kernel_rfl) (fun _ _ _ h => h) (Or.inl ⟨by kernel_rfl, ?_⟩) E0 ?_
  rotate_left
  · (intro W hS; have k0 : W.cell? ⟨gx, 0, none⟩ = some (.slice a n1 ca) := (by rw [cell_of_row _ _ _ _ _ _ hS.1]; rfl); have k1 := hS.2.1; go_simp; try (with_reducible rfl))
  refine wpAnyH_take (i := 2) (v := ?_) rfl (by kernel_rfl) (by kernel_rfl) (by kernel_rfl) (fun _ _ _ h => h) (Or.inl ⟨by kernel_rfl, ?_⟩) E0 ?_
  rotate_left
  · (intro W hS; have k0 : W.cell? ⟨gx, 0, none⟩ = some (.slice a n1 ca) := (by rw [cell_of_row _ _ _ _ _ _ hS.1]; rfl); have k1 := hS.2.1; go_simp; try (with_reducible rfl))
  refine wpAnyH_take (i := 3) (v := ?_) rfl (by kernel_rfl) (by kernel_rfl) (by kernel_rfl) (fun _ _ _ h => h) (Or.inl ⟨by kernel_rfl, ?_⟩) E0 ?_
  rotate_left
  · (intro W hS; have k0 : W.cell? ⟨gx, 0, none⟩ = some (.slice a n1 ca) := (by rw [cell_of_row _ _ _ _ _ _ hS.1]; rfl); have k1 := hS.2.1; go_simp; try (with_reducible rfl))
  refine wpAnyH_take (i := 4) (v := ?_) rfl (by kernel_rfl) (by kernel_rfl) (by kernel_rfl) (fun _ _ _ h => h) (Or.inl ⟨by kernel_rfl, ?_⟩) E0 ?_
  rotate_left
  · (intro W hS; have k0 : W.cell? ⟨gx, 0, none⟩ = some (.slice a n1 ca) := (by rw [cell_of_row _ _ _ _ _ _ hS.1]; rfl); have k1 := hS.2.1; go_simp; try (with_reducible rfl))
  refine wpAnyH_take (i := 5) (v := ?_) rfl (by kernel_rfl) (by kernel_rfl) (by kernel_rfl) (fun _ _ _ h => h) (Or.inl ⟨by kernel_rfl, ?_⟩) E0 ?_
  rotate_left
  · (intro W hS; have k0 : W.cell? ⟨gx, 0, none⟩ = some (.slice a n1 ca) := (by rw [cell_of_row _ _ _ _ _ _ hS.1]; rfl); have k1 := hS.2.1; go_simp; try (with_reducible rfl))
  refine wpAnyH_take (i := 6) (v := ?_) rfl (by kernel_rfl) (by kernel_rfl) (by kernel_rfl) (fun _ _ _ h => h) (Or.inl ⟨by kernel_rfl, ?_⟩) E0 ?_
  rotate_left
  · (intro W hS; have k0 : W.cell? ⟨gx, 0, none⟩ = some (.slice a n1 ca) := (by rw [cell_of_row _ _ _ _ _ _ hS.1]; rfl); have k1 := hS.2.1; go_simp; try (with_reducible rfl))
  refine wpAnyH_take (i := 7) (v := ?_) rfl (by kernel_rfl) (by kernel_rfl) (by kernel_rfl) (fun _ _ _ h => h) (Or.inl ⟨by kernel_rfl, ?_⟩) E0 ?_
  rotate_left
  · (intro W hS; have k0 : W.cell? ⟨gx, 0, none⟩ = some (.slice a n1 ca) := (by rw [cell_of_row _ _ _ _ _ _ hS.1]; rfl); have k1 := hS.2.1; go_simp; try (with_reducible rfl))
  refine wpAnyH_take (i := 8) (v := ?_) rfl (by kernel_rfl) (by kernel_rfl) (by kernel_rfl) (fun _ _ _ h => h) (Or.inl ⟨by kernel_rfl, ?_⟩) E0 ?_
  rotate_left
  · (intro W hS; have k0 : W.cell? ⟨gx, 0, none⟩ = some (.slice a n1 ca) := (by rw [cell_of_row _ _ _ _ _ _ hS.1]; rfl); have k1 := hS.2.1; go_simp; try (with_reducible rfl))
  refine wpAnyH_take (i := 9) (v := ?_) rfl (by kernel_rfl) (by kernel_rfl) (by kernel_rfl) (fun _ _ _ h => h) (Or.inl ⟨by kernel_rfl, ?_⟩) E0 ?_
  rotate_left
  · (intro W hS; have k0 : W.cell? ⟨gx, 0, none⟩ = some (.slice a n1 ca) := (by rw [cell_of_row _ _ _ _ _ _ hS.1]; rfl); have k1 := hS.2.1; go_simp; try (with_reducible rfl))
  refine wpAnyH_take (i := 10) (v := ?_) rfl (by kernel_rfl) (by kernel_rfl) (by kernel_rfl) (fun _ _ _ h => h) (Or.inl ⟨by kernel_rfl, ?_⟩) E0 ?_
  rotate_left
  · (intro W hS; have k0 : W.cell? ⟨gx, 0, none⟩ = some (.slice a n1 ca) := (by rw [cell_of_row _ _ _ _ _ _ hS.1]; rfl); have k1 := hS.2.1; go_simp; try (with_reducible rfl))
  refine wpAnyH_take (i := 11) (v := ?_) rfl (by kernel_rfl) (by kernel_rfl) (by kernel_rfl) (fun _ _ _ h => h) (Or.inl ⟨by kernel_rfl, ?_⟩) E0 ?_
  rotate_left
  · (intro W hS; have k0 : W.cell? ⟨gx, 0, none⟩ = some (.slice a n1 ca) := (by rw [cell_of_row _ _ _ _ _ _ hS.1]; rfl); have k1 := hS.2.1; go_simp; try (with_reducible rfl))
  refine wpAnyH_take (i := 12) (v := ?_) rfl (by kernel_rfl) (by kernel_rfl) (by kernel_rfl) (fun _ _ _ h => h) (Or.inl ⟨by kernel_rfl, ?_⟩) E0 ?_
  rotate_left
  · (intro W hS; have k0 : W.cell? ⟨gx, 0, none⟩ = some (.slice a n1 ca) := (by rw [cell_of_row _ _ _ _ _ _ hS.1]; rfl); have k1 := hS.2.1; go_simp; try (with_reducible rfl))
  refine wpAnyH_take (i := 13) (v := ?_) rfl (by kernel_rfl) (by kernel_rfl) (by kernel_rfl) (fun _ _ _ h => h) (Or.inl ⟨by kernel_rfl, ?_⟩) E0 ?_
  rotate_left
  · (intro W hS; have k0 : W.cell? ⟨gx, 0, none⟩ = some (.slice a n1 ca) := (by rw [cell_of_row _ _ _ _ _ _ hS.1]; rfl); have k1 := hS.2.1; go_simp; try (with_reducible rfl))
  refine wpAnyH_take (i := 14) (v := ?_) rfl (by kernel_rfl) (by kernel_rfl) (by kernel_rfl) (fun _ _ _ h => h) (Or.inl ⟨by kernel_rfl, ?_⟩) E0 ?_
  rotate_left
  · (intro W hS; have k0 : W.cell? ⟨gx, 0, none⟩ = some (.slice a n1 ca) := (by rw [cell_of_row _ _ _ _ _ _ hS.1]; rfl); have k1 := hS.2.1; go_simp; try (with_reducible rfl))
  refine wpAnyH_take (i := 15) (v := ?_) rfl (by kernel_rfl) (by kernel_rfl) (by kernel_rfl) (fun _ _ _ h => h) (Or.inl ⟨by kernel_rfl, ?_⟩) E0 ?_
  rotate_left
  · (intro W hS; have k0 : W.cell? ⟨gx, 0, none⟩ = some (.slice a n1 ca) := (by rw [cell_of_row _ _ _ _ _ _ hS.1]; rfl); have k1 := hS.2.1; go_simp; try (with_reducible rfl))
  refine wpAnyH_take (i := 17) (v := ?_) rfl (by kernel_rfl) (by kernel_rfl) (by kernel_rfl) (fun _ _ _ h => h) (Or.inl ⟨by kernel_rfl, ?_⟩) E0 ?_
  rotate_left
  · (intro W hS; have k0 : W.cell? ⟨gx, 0, none⟩ = some (.slice a n1 ca) := (by rw [cell_of_row _ _ _ _ _ _ hS.1]; rfl); have k1 := hS.2.1; go_simp; try (with_reducible rfl))
  refine wpAnyH_ready (rs := [16]) (by kernel_rfl) (by simp) ?_
  refine AllReadyH.cons (i := 16) rfl (fun K hK => ?_) AllReadyH.nil
  go_simp
  refine (H.out.2.2.2.2.2.2.1 v0).mono ?_
  rintro e v1 ⟨rfl, hb⟩
  have F1 := F0.trans (hb.mono F0.size)
  have E1 : (v1.heap[gx]? = some (.cells #[.slice a n1 ca] 25 (0, 0)) ∧ v1.cell? ⟨tb, tq + m1, none⟩ = some (.string LT) ∧ tb < v1.heap.size) := ⟨(hb.block _ (lt_of_heap E0.1)).trans E0.1, (hb.cell (p := ⟨tb, _, none⟩) E0.2.2).trans E0.2.1, Nat.lt_of_lt_of_le E0.2.2 hb.size⟩
  refine hK.out _ _ E1 (fun _ => ?_)
  clear hK K hb
  refine wpAnyH_ready (rs := [18]) (by kernel_rfl) (by simp) ?_
  refine AllReadyH.cons (i := 18) rfl (fun K hK => ?_) AllReadyH.nil
  go_simp
  refine (H.out.2.1 v1 a ca (bcall H5.out.1 F1 H5.out.1.size) (H5.out.2.2.1.below F1)).mono ?_
  rintro e v2 ⟨rfl, hb⟩
  have F2 := F1.trans (hb.mono F1.size)
  have E2 : (v2.heap[gx]? = some (.cells #[.slice a n1 ca] 25 (0, 0)) ∧ v2.cell? ⟨tb, tq + m1, none⟩ = some (.string LT) ∧ tb < v2.heap.size) := ⟨(hb.block _ (lt_of_heap E1.1)).trans E1.1, (hb.cell (p := ⟨tb, _, none⟩) E1.2.2).trans E1.2.1, Nat.lt_of_lt_of_le E1.2.2 hb.size⟩
  refine hK.out _ _ E2 (fun _ => ?_)
  clear hK K hb
  refine wpAnyH_take (i := 19) (v := ?_) rfl (by kernel_rfl) (by kernel_rfl) (by kernel_rfl) (fun _ _ _ h => h) (Or.inl ⟨by kernel_rfl, ?_⟩) E2 ?_
  rotate_left
  · (intro W hS; have k0 : W.cell? ⟨gx, 0, none⟩ = some (.slice a n1 ca) := (by rw [cell_of_row _ _ _ _ _ _ hS.1]; rfl); have k1 := hS.2.1; go_simp; try (with_reducible rfl))
  refine wpAnyH_take (i := 20) (v := ?_) rfl (by kernel_rfl) (by kernel_rfl) (by kernel_rfl) (fun _ _ _ h => h) (Or.inl ⟨by kernel_rfl, ?_⟩) E2 ?_
  rotate_left
  · (intro W hS; have k0 : W.cell? ⟨gx, 0, none⟩ = some (.slice a n1 ca) := (by rw [cell_of_row _ _ _ _ _ _ hS.1]; rfl); have k1 := hS.2.1; go_simp; try (with_reducible rfl))
  refine wpAnyH_done (by kernel_rfl) ?_ _
  go_simp
  have HN := Lib.hid (And.intro (bcall H5.out.1 F2 H5.out.1.size) (And.intro E2.1 F2))
  clear E0 F0 E1 F1 E2 F2 hx1 hx2 hx3 hx4 hx5 hx6
  obtain ⟨w6, hw6⟩ : ∃ w6, w6 = v2 := ⟨_, rfl⟩
  subst hw6
  go_wp2_with fail
  refine (H.out.2.2.2.1 _ _ _ (H5.out.2.2.2.1.below HN.out.2.2)).mono ?_
  rintro e w7 ⟨la, lc, rfl, hoL, hb7⟩
  have H7 := Lib.hid (And.intro (bcall HN.out.1 hb7 HN.out.1.size) (And.intro ((hb7.block _ (lt_of_heap HN.out.2.1)).trans HN.out.2.1) (And.intro ((H5.out.2.2.1.below HN.out.2.2).below hb7) (And.intro ((H5.out.2.2.2.2.below HN.out.2.2).below hb7) (OwnT.texts hoL)))))
  clear hoL hb7
  go_wp2_with fail
  have hn4 : n1 ≤ 400 := HC.out.2.2.2
  go_loopw [10] (fun v wr => ∃ i : Nat, i ≤ n1 ∧ v = .int .i64 i ∧ Below w7.heap.size w7 wr) (fun v _ => n1 - (intOf v).toNat)
  case atStart => exact ⟨0, by omega, rfl, Below.refl _ _⟩
  case round =>
    obtain ⟨i, hi, rfl, hbr⟩ := hrel
    by_cases hlt : i < n1
    · obtain ⟨q, hq⟩ : ∃ q, R[i]? = some q := ⟨R[i]'(by have := HF.out.1; omega), List.getElem?_eq_getElem (by have := HF.out.1; omega)⟩
      obtain ⟨b1, o1, e1, k1, q1⟩ := (H7.out.2.2.2.1.below hbr) i (by have := HF.out.2.2.1; have := HZ.out; omega)
      obtain ⟨b2, o2, e2, -, q2⟩ := (H7.out.2.2.2.2.below hbr) i (by rw [HF.out.2.2.2.2.2.2.2.1, List.length_map]; have := HF.out.1; omega)
      have hs2 := (HF.out.2.2.2.2.2.2.1 i q hq).2
      rw [(HF.out.2.2.2.2.2.2.1 i q hq).1] at q1
      rw [HF.out.2.2.2.2.2.2.2.1, List.getD_eq_getElem?_getD, List.getElem?_map, hq] at q2
      simp only [Option.map_some, Option.getD_some] at q2
      obtain ⟨S, hS⟩ : ∃ S, S = Ix.rwS q := ⟨_, rfl⟩
      rw [← hS] at q1 q2 hs2
      have hs1 : (ByteArray.mk #[0]).size = 1 := rfl
      have hs3 : (S.size : Int) ≤ 100000 := by omega
      injection e1 with e1
      injection e1 with e1 e1'
      subst e1 e1' e2
      have hin : i < nx := by have := HZ.out; omega
      have HB := Lib.hid hbr
      have HI := Lib.hid hlt
      clear hS hq hbr k1 hs2
      go_upto_region 11 with fail
      go_quiet (fail)
      have HB2 := Lib.hid (below_drewN HB.out nq)
      generalize wr.drewN nq = w9 at *
      go_wp2_with fail
      go_roundw
      case rel => exact ⟨i + 1, by have := HI.out; omega, by go_num, HB2.out⟩
      case measure => have := HI.out; simp [intOf]; omega
    · obtain rfl : n1 = i := by omega
      obtain ⟨w8, hw8⟩ : ∃ w8, w8 = wr := ⟨_, rfl⟩
      subst hw8
      have H8 := Lib.hid (And.intro (bcall H7.out.1 hbr H7.out.1.size) (And.intro ((hbr.block _ (lt_of_heap H7.out.2.1)).trans H7.out.2.1) (And.intro (H7.out.2.2.1.below hbr) (H7.out.2.2.2.1.below hbr))))
      clear hbr
      go_upto_region 13 with fail
      have hc1 := HC.out.1
      have hc2 := HC.out.2.1
      have hc3 := HC.out.2.2.1
      go_cut [11] (fun y wc => ∃ (gp : Nat) (ap : Option Addr) (cp : Nat), y = .pointer (some ⟨gp, 0, none⟩) ∧ wc.heap[gp]? = some (.cells #[.int .i64 n1, .slice ap np cp] 50 (0, 0)) ∧ ShAt wc ap P ∧ Below w8.heap.size w8 wc)
      case first =>
        go_wp2_with fail
        refine wp_region_held (S := fun W : World => W.heap[gx]? = some (.cells #[.slice a n1 ca] 25 (0, 0))) (by kernel_rfl) ?_
        change wpAnyH _ _ _ _ _ _ _ _ (World.drew _)
        generalize hv0 : World.drew _ = v0
        have E0 : v0.heap[gx]? = some (.cells #[.slice a n1 ca] 25 (0, 0)) := by rw [← hv0]; exact (show w8.drew.heap[gx]? = _ from H8.out.2.1)
        have F0 : Below w8.heap.size w8 v0 := by rw [← hv0]; exact ((Below.refl _ _).drew)
        clear hv0
        refine wpAnyH_take (i := 0) (v := ?_) rfl (by kernel_rfl) (by kernel_rfl) (by kernel_rfl) (fun _ _ _ h => h) (Or.inl ⟨by kernel_rfl, ?_⟩) E0 ?_
        rotate_left
        · (intro W hS; have k0 : W.cell? ⟨gx, 0, none⟩ = some (.slice a n1 ca) := (by rw [cell_of_row _ _ _ _ _ _ hS]; rfl); go_simp; try (with_reducible rfl))
        refine wpAnyH_take (i := 1) (v := ?_) rfl (by kernel_rfl) (by kernel_rfl) (by kernel_rfl) (fun _ _ _ h => h) (Or.inl ⟨by kernel_rfl, ?_⟩) E0 ?_
        rotate_left
        · (intro W hS; have k0 : W.cell? ⟨gx, 0, none⟩ = some (.slice a n1 ca) := (by rw [cell_of_row _ _ _ _ _ _ hS]; rfl); go_simp; try (with_reducible rfl))
        refine wpAnyH_take (i := 2) (v := ?_) rfl (by kernel_rfl) (by kernel_rfl) (by kernel_rfl) (fun _ _ _ h => h) (Or.inl ⟨by kernel_rfl, ?_⟩) E0 ?_
        rotate_left
        · (intro W hS; have k0 : W.cell? ⟨gx, 0, none⟩ = some (.slice a n1 ca) := (by rw [cell_of_row _ _ _ _ _ _ hS]; rfl); go_simp; try (with_reducible rfl))
        refine wpAnyH_take (i := 3) (v := ?_) rfl (by kernel_rfl) (by kernel_rfl) (by kernel_rfl) (fun _ _ _ h => h) (Or.inl ⟨by kernel_rfl, ?_⟩) E0 ?_
        rotate_left
        · (intro W hS; have k0 : W.cell? ⟨gx, 0, none⟩ = some (.slice a n1 ca) := (by rw [cell_of_row _ _ _ _ _ _ hS]; rfl); go_simp; try (with_reducible rfl))
        refine wpAnyH_take (i := 4) (v := ?_) rfl (by kernel_rfl) (by kernel_rfl) (by kernel_rfl) (fun _ _ _ h => h) (Or.inl ⟨by kernel_rfl, ?_⟩) E0 ?_
        rotate_left
        · (intro W hS; have k0 : W.cell? ⟨gx, 0, none⟩ = some (.slice a n1 ca) := (by rw [cell_of_row _ _ _ _ _ _ hS]; rfl); go_simp; try (with_reducible rfl))
        refine wpAnyH_ready (rs := [5, 7]) (by kernel_rfl) (by simp) ?_
        refine AllReadyH.cons (i := 5) rfl (fun K hK => ?_) (AllReadyH.cons (i := 7) rfl (fun K hK => ?_) AllReadyH.nil)
        · go_simp
          refine (H.out.2.2.2.2.2.2.2 v0).mono ?_
          rintro e v1 ⟨rfl, hb⟩
          have F1 := F0.trans (hb.mono F0.size)
          have E1 : v1.heap[gx]? = some (.cells #[.slice a n1 ca] 25 (0, 0)) := (hb.block _ (lt_of_heap E0)).trans E0
          refine hK.out _ _ E1 (fun _ => ?_)
          clear hK K hb
          refine wpAnyH_ready (rs := [6, 7]) (by kernel_rfl) (by simp) ?_
          refine AllReadyH.cons (i := 6) rfl (fun K hK => ?_) (AllReadyH.cons (i := 7) rfl (fun K hK => ?_) AllReadyH.nil)
          · go_simp
            refine (H.out.2.2.2.2.1 v1 a ca (bcall H8.out.1 F1 H8.out.1.size) (H8.out.2.2.1.below F1)).mono ?_
            rintro e v2 ⟨ap, cp, rfl, hSh, -, -, hb⟩
            have F2 := F1.trans (hb.mono F1.size)
            have E2 : v2.heap[gx]? = some (.cells #[.slice a n1 ca] 25 (0, 0)) := (hb.block _ (lt_of_heap E1)).trans E1
            refine hK.out _ _ E2 (fun _ => ?_)
            clear hK K hb
            refine wpAnyH_ready (rs := [7]) (by kernel_rfl) (by simp) ?_
            refine AllReadyH.cons (i := 7) rfl (fun K hK => ?_) AllReadyH.nil
            obtain ⟨v3, hv⟩ : ∃ v, v = v2.alloc (.cells #[.int .i64 0, .slice none 0 0] 50) := ⟨_, rfl⟩
            have hb : Below v2.heap.size v2 v3 := by rw [hv]; exact (Below.refl _ _).alloc (Nat.le_refl _) _
            have gB : v3.heap[v2.heap.size]? = some (.cells #[.int .i64 0, .slice none 0 0] 50 (0, 0)) := by rw [hv]; exact heap_alloc_new _ _
            have F3 := F2.trans (hb.mono F2.size)
            have E3 : v3.heap[gx]? = some (.cells #[.slice a n1 ca] 25 (0, 0)) := (hb.block _ (lt_of_heap E2)).trans E2
            go_simp
            rw [← hv]
            clear hv
            have hgz := lt_of_heap gB
            have hgl : w8.heap.size ≤ v2.heap.size := F2.size
            have hSh := hSh.below hb
            refine hK.out _ _ E3 (fun _ => ?_)
            clear hK K hb
            obtain ⟨d0, d1⟩ : v3.cell? ⟨v2.heap.size, 0, none⟩ = some (.int .i64 0) ∧ v3.cell? ⟨v2.heap.size, 1, none⟩ = some (.slice none 0 0) := ⟨by rw [cell_of_row _ _ _ _ _ _ gB]; rfl, by rw [cell_of_row _ _ _ _ _ _ gB]; rfl⟩
            have f9 : ∀ j, v3.frozen? ⟨v2.heap.size, j, none⟩ = false := fun j => frozen_of_row _ _ _ _ _ gB
            have hne : gx ≠ v2.heap.size := by have := lt_of_heap H8.out.2.1; omega
            have hN : ((v3.setCell ⟨v2.heap.size, 0, none⟩ (.int .i64 n1)).setCell ⟨v2.heap.size, 1, none⟩ (.slice ap np cp)).heap[v2.heap.size]? = some (.cells #[.int .i64 n1, .slice ap np cp] 50 (0, 0)) := by rw [heap_setCell_same _ _ _ _ _ _ (heap_setCell_same _ _ _ _ _ _ gB)]; rfl
            have hN2 : ShAt ((v3.setCell ⟨v2.heap.size, 0, none⟩ (.int .i64 n1)).setCell ⟨v2.heap.size, 1, none⟩ (.slice ap np cp)) ap P := shAt_put gB hSh _ _
            have hN4 : Below w8.heap.size w8 ((v3.setCell ⟨v2.heap.size, 0, none⟩ (.int .i64 n1)).setCell ⟨v2.heap.size, 1, none⟩ (.slice ap np cp)) := (F3.setCell (p := ⟨v2.heap.size, 0, none⟩) hgl _).setCell (p := ⟨v2.heap.size, 1, none⟩) hgl _
            have EZ : ((v3.setCell ⟨v2.heap.size, 0, none⟩ (.int .i64 n1)).setCell ⟨v2.heap.size, 1, none⟩ (.slice ap np cp)).heap[gx]? = some (.cells #[.slice a n1 ca] 25 (0, 0)) := (heap_setCell_other _ ⟨v2.heap.size, 1, none⟩ _ (.slice ap np cp) hne).trans ((heap_setCell_other v3 ⟨v2.heap.size, 0, none⟩ _ (.int .i64 n1) hne).trans E3)
            have HN := Lib.hid (And.intro hN (And.intro hN2 hN4))
            clear hN hN2 hN4 gB hSh
            refine wpAnyH_ready (rs := [8]) (by kernel_rfl) (by simp) ?_
            refine AllReadyH.cons (i := 8) rfl (fun K hK => ?_) AllReadyH.nil
            go_simp
            refine hK.out _ _ EZ (fun _ => ?_)
            clear hK K d0 d1 f9
            refine wpAnyH_done (by kernel_rfl) ?_ _
            go_simp
            clear EZ
            generalize World.setCell _ _ _ = wz at *
            go_wp2_with fail
            go_meet
            exact ⟨_, ap, cp, rfl, HN.out.1, HN.out.2.1, HN.out.2.2⟩
          · obtain ⟨v2, hv⟩ : ∃ v, v = v1.alloc (.cells #[.int .i64 0, .slice none 0 0] 50) := ⟨_, rfl⟩
            have hb : Below v1.heap.size v1 v2 := by rw [hv]; exact (Below.refl _ _).alloc (Nat.le_refl _) _
            have gB : v2.heap[v1.heap.size]? = some (.cells #[.int .i64 0, .slice none 0 0] 50 (0, 0)) := by rw [hv]; exact heap_alloc_new _ _
            have F2 := F1.trans (hb.mono F1.size)
            have E2 : v2.heap[gx]? = some (.cells #[.slice a n1 ca] 25 (0, 0)) := (hb.block _ (lt_of_heap E1)).trans E1
            go_simp
            rw [← hv]
            clear hv
            have hgz := lt_of_heap gB
            have hgl : w8.heap.size ≤ v1.heap.size := F1.size
            refine hK.out _ _ E2 (fun _ => ?_)
            clear hK K hb
            refine wpAnyH_ready (rs := [6]) (by kernel_rfl) (by simp) ?_
            refine AllReadyH.cons (i := 6) rfl (fun K hK => ?_) AllReadyH.nil
            go_simp
            refine (H.out.2.2.2.2.1 v2 a ca (bcall H8.out.1 F2 H8.out.1.size) (H8.out.2.2.1.below F2)).mono ?_
            rintro e v3 ⟨ap, cp, rfl, hSh, -, -, hb⟩
            have F3 := F2.trans (hb.mono F2.size)
            have E3 : v3.heap[gx]? = some (.cells #[.slice a n1 ca] 25 (0, 0)) := (hb.block _ (lt_of_heap E2)).trans E2
            have gB := (hb.block _ (lt_of_heap gB)).trans gB
            have hgz := Nat.lt_of_lt_of_le hgz hb.size
            refine hK.out _ _ E3 (fun _ => ?_)
            clear hK K hb
            obtain ⟨d0, d1⟩ : v3.cell? ⟨v1.heap.size, 0, none⟩ = some (.int .i64 0) ∧ v3.cell? ⟨v1.heap.size, 1, none⟩ = some (.slice none 0 0) := ⟨by rw [cell_of_row _ _ _ _ _ _ gB]; rfl, by rw [cell_of_row _ _ _ _ _ _ gB]; rfl⟩
            have f9 : ∀ j, v3.frozen? ⟨v1.heap.size, j, none⟩ = false := fun j => frozen_of_row _ _ _ _ _ gB
            have hne : gx ≠ v1.heap.size := by have := lt_of_heap H8.out.2.1; omega
            have hN : ((v3.setCell ⟨v1.heap.size, 0, none⟩ (.int .i64 n1)).setCell ⟨v1.heap.size, 1, none⟩ (.slice ap np cp)).heap[v1.heap.size]? = some (.cells #[.int .i64 n1, .slice ap np cp] 50 (0, 0)) := by rw [heap_setCell_same _ _ _ _ _ _ (heap_setCell_same _ _ _ _ _ _ gB)]; rfl
            have hN2 : ShAt ((v3.setCell ⟨v1.heap.size, 0, none⟩ (.int .i64 n1)).setCell ⟨v1.heap.size, 1, none⟩ (.slice ap np cp)) ap P := shAt_put gB hSh _ _
            have hN4 : Below w8.heap.size w8 ((v3.setCell ⟨v1.heap.size, 0, none⟩ (.int .i64 n1)).setCell ⟨v1.heap.size, 1, none⟩ (.slice ap np cp)) := (F3.setCell (p := ⟨v1.heap.size, 0, none⟩) hgl _).setCell (p := ⟨v1.heap.size, 1, none⟩) hgl _
            have EZ : ((v3.setCell ⟨v1.heap.size, 0, none⟩ (.int .i64 n1)).setCell ⟨v1.heap.size, 1, none⟩ (.slice ap np cp)).heap[gx]? = some (.cells #[.slice a n1 ca] 25 (0, 0)) := (heap_setCell_other _ ⟨v1.heap.size, 1, none⟩ _ (.slice ap np cp) hne).trans ((heap_setCell_other v3 ⟨v1.heap.size, 0, none⟩ _ (.int .i64 n1) hne).trans E3)
            have HN := Lib.hid (And.intro hN (And.intro hN2 hN4))
            clear hN hN2 hN4 gB hSh
            refine wpAnyH_ready (rs := [8]) (by kernel_rfl) (by simp) ?_
            refine AllReadyH.cons (i := 8) rfl (fun K hK => ?_) AllReadyH.nil
            go_simp
            refine hK.out _ _ EZ (fun _ => ?_)
            clear hK K d0 d1 f9
            refine wpAnyH_done (by kernel_rfl) ?_ _
            go_simp
            clear EZ
            generalize World.setCell _ _ _ = wz at *
            go_wp2_with fail
            go_meet
            exact ⟨_, ap, cp, rfl, HN.out.1, HN.out.2.1, HN.out.2.2⟩
        · obtain ⟨v1, hv⟩ : ∃ v, v = v0.alloc (.cells #[.int .i64 0, .slice none 0 0] 50) := ⟨_, rfl⟩
          have hb : Below v0.heap.size v0 v1 := by rw [hv]; exact (Below.refl _ _).alloc (Nat.le_refl _) _
          have gB : v1.heap[v0.heap.size]? = some (.cells #[.int .i64 0, .slice none 0 0] 50 (0, 0)) := by rw [hv]; exact heap_alloc_new _ _
          have F1 := F0.trans (hb.mono F0.size)
          have E1 : v1.heap[gx]? = some (.cells #[.slice a n1 ca] 25 (0, 0)) := (hb.block _ (lt_of_heap E0)).trans E0
          go_simp
          rw [← hv]
          clear hv
          have hgz := lt_of_heap gB
          have hgl : w8.heap.size ≤ v0.heap.size := F0.size
          refine hK.out _ _ E1 (fun _ => ?_)
          clear hK K hb
          refine wpAnyH_ready (rs := [5]) (by kernel_rfl) (by simp) ?_
          refine AllReadyH.cons (i := 5) rfl (fun K hK => ?_) AllReadyH.nil
          go_simp
          refine (H.out.2.2.2.2.2.2.2 v1).mono ?_
          rintro e v2 ⟨rfl, hb⟩
          have F2 := F1.trans (hb.mono F1.size)
          have E2 : v2.heap[gx]? = some (.cells #[.slice a n1 ca] 25 (0, 0)) := (hb.block _ (lt_of_heap E1)).trans E1
          have gB := (hb.block _ (lt_of_heap gB)).trans gB
          have hgz := Nat.lt_of_lt_of_le hgz hb.size
          refine hK.out _ _ E2 (fun _ => ?_)
          clear hK K hb
          refine wpAnyH_ready (rs := [6]) (by kernel_rfl) (by simp) ?_
          refine AllReadyH.cons (i := 6) rfl (fun K hK => ?_) AllReadyH.nil
          go_simp
          refine (H.out.2.2.2.2.1 v2 a ca (bcall H8.out.1 F2 H8.out.1.size) (H8.out.2.2.1.below F2)).mono ?_
          rintro e v3 ⟨ap, cp, rfl, hSh, -, -, hb⟩
          have F3 := F2.trans (hb.mono F2.size)
          have E3 : v3.heap[gx]? = some (.cells #[.slice a n1 ca] 25 (0, 0)) := (hb.block _ (lt_of_heap E2)).trans E2
          have gB := (hb.block _ (lt_of_heap gB)).trans gB
          have hgz := Nat.lt_of_lt_of_le hgz hb.size
          refine hK.out _ _ E3 (fun _ => ?_)
          clear hK K hb
          obtain ⟨d0, d1⟩ : v3.cell? ⟨v0.heap.size, 0, none⟩ = some (.int .i64 0) ∧ v3.cell? ⟨v0.heap.size, 1, none⟩ = some (.slice none 0 0) := ⟨by rw [cell_of_row _ _ _ _ _ _ gB]; rfl, by rw [cell_of_row _ _ _ _ _ _ gB]; rfl⟩
          have f9 : ∀ j, v3.frozen? ⟨v0.heap.size, j, none⟩ = false := fun j => frozen_of_row _ _ _ _ _ gB
          have hne : gx ≠ v0.heap.size := by have := lt_of_heap H8.out.2.1; omega
          have hN : ((v3.setCell ⟨v0.heap.size, 0, none⟩ (.int .i64 n1)).setCell ⟨v0.heap.size, 1, none⟩ (.slice ap np cp)).heap[v0.heap.size]? = some (.cells #[.int .i64 n1, .slice ap np cp] 50 (0, 0)) := by rw [heap_setCell_same _ _ _ _ _ _ (heap_setCell_same _ _ _ _ _ _ gB)]; rfl
          have hN2 : ShAt ((v3.setCell ⟨v0.heap.size, 0, none⟩ (.int .i64 n1)).setCell ⟨v0.heap.size, 1, none⟩ (.slice ap np cp)) ap P := shAt_put gB hSh _ _
          have hN4 : Below w8.heap.size w8 ((v3.setCell ⟨v0.heap.size, 0, none⟩ (.int .i64 n1)).setCell ⟨v0.heap.size, 1, none⟩ (.slice ap np cp)) := (F3.setCell (p := ⟨v0.heap.size, 0, none⟩) hgl _).setCell (p := ⟨v0.heap.size, 1, none⟩) hgl _
          have EZ : ((v3.setCell ⟨v0.heap.size, 0, none⟩ (.int .i64 n1)).setCell ⟨v0.heap.size, 1, none⟩ (.slice ap np cp)).heap[gx]? = some (.cells #[.slice a n1 ca] 25 (0, 0)) := (heap_setCell_other _ ⟨v0.heap.size, 1, none⟩ _ (.slice ap np cp) hne).trans ((heap_setCell_other v3 ⟨v0.heap.size, 0, none⟩ _ (.int .i64 n1) hne).trans E3)
          have HN := Lib.hid (And.intro hN (And.intro hN2 hN4))
          clear hN hN2 hN4 gB hSh
          refine wpAnyH_ready (rs := [8]) (by kernel_rfl) (by simp) ?_
          refine AllReadyH.cons (i := 8) rfl (fun K hK => ?_) AllReadyH.nil
          go_simp
          refine hK.out _ _ EZ (fun _ => ?_)
          clear hK K d0 d1 f9
          refine wpAnyH_done (by kernel_rfl) ?_ _
          go_simp
          clear EZ
          generalize World.setCell _ _ _ = wz at *
          go_wp2_with fail
          go_meet
          exact ⟨_, ap, cp, rfl, HN.out.1, HN.out.2.1, HN.out.2.2⟩
      case rest =>
        obtain ⟨gp, ap, cp, rfl, hgp, hSP, hbc⟩ := hcut
        obtain ⟨wC, hwC⟩ : ∃ wC, wC = wc := ⟨_, rfl⟩
        subst hwC
        clear hc1 hc2 hc3
        have H9 := Lib.hid (And.intro (bcall H8.out.1 hbc H8.out.1.size) (And.intro hgp (And.intro hSP (H8.out.2.2.2.below hbc))))
        obtain ⟨p0, p1⟩ : wC.cell? ⟨gp, 0, none⟩ = some (.int .i64 n1) ∧ wC.cell? ⟨gp, 1, none⟩ = some (.slice ap np cp) := ⟨by rw [cell_of_row _ _ _ _ _ _ hgp]; rfl, by rw [cell_of_row _ _ _ _ _ _ hgp]; rfl⟩
        clear hgp hSP hbc
        go_wp2_with fail
        refine (H.out.2.2.2.2.2.1 _ _ _ H9.out.1 H9.out.2.2.1).mono ?_
        rintro e w10 ⟨ua, uc, rfl, htU, hb10⟩
        have H10 := Lib.hid (And.intro (bcall H9.out.1 hb10 H9.out.1.size) (And.intro ((hb10.block _ (lt_of_heap H9.out.2.1)).trans H9.out.2.1) (And.intro (H9.out.2.2.1.below hb10) (And.intro (H9.out.2.2.2.below hb10) htU))))
        clear hb10 htU p0 p1
        obtain ⟨p0, p1⟩ : w10.cell? ⟨gp, 0, none⟩ = some (.int .i64 n1) ∧ w10.cell? ⟨gp, 1, none⟩ = some (.slice ap np cp) := ⟨by rw [cell_of_row _ _ _ _ _ _ H10.out.2.1]; rfl, by rw [cell_of_row _ _ _ _ _ _ H10.out.2.1]; rfl⟩
        by_cases h0 : n1 = 0
        · have hW0 : nu = 1 + Ix.cntT P := by have := HF.out.2.2.2.2.2.2.2.2.2.1; rw [if_pos h0] at this; exact this
          have k0 : ((n1 : Int) == 0) = true := by rw [h0]; rfl
          have HW0 := Lib.hid hW0
          clear h0 hW0
          go_wp2_with fail
          clear k0 p0
          have hp4 : np ≤ 400 := by have h1 := HF.out.2.1; have h2 := HF.out.2.2.2.2.2.2.2.2.2.2.2.1; omega
          go_loopw [13, 14] (fun v c wr => ∃ i : Nat, i ≤ np ∧ v = .int .i64 ((1 + Ix.cntT (P.take i) : Nat) : Int) ∧ c = .int .i64 i ∧ wr = w10) (fun _ c _ => np - (intOf c).toNat)
          case atStart => exact ⟨0, by omega, by rw [List.take_zero]; rfl, rfl, rfl⟩
          case round =>
            obtain ⟨i, hi, rfl, rfl, rfl⟩ := hrel
            by_cases hlt : i < np
            · obtain ⟨s, hs⟩ : ∃ s, P[i]? = some s := ⟨P[i]'(by have := HF.out.2.1; omega), List.getElem?_eq_getElem (by have := HF.out.2.1; omega)⟩
              obtain ⟨b, off, wa, wc, rfl, -, -, -, -, -, d4, -⟩ := H10.out.2.2.1 i s hs
              have hct := cnt_take hs
              have hcl : Ix.cntT (P.take (i + 1)) ≤ 400 * 402 := by
                have h1 := HF.out.2.2.2.2.2.2.2.2.2.2.1
                have h2 := HF.out.2.2.2.2.2.2.2.2.2.2.2.1
                have h3 := cnt_mono P (i + 1)
                have h4 := Nat.mul_le_mul_right 402 h2
                omega
              obtain ⟨q, hq⟩ : ∃ q, q = s.way.length := ⟨_, rfl⟩
              rw [← hq] at d4 hct
              obtain ⟨z, hz⟩ : ∃ z, z = 1 + Ix.cntT (P.take i) := ⟨_, rfl⟩
              rw [← hz]
              have hz2 : 1 + Ix.cntT (P.take (i + 1)) = z + 2 + q := by rw [hct, hz]; omega
              have hzb : z + 2 + q ≤ 200000 := by omega
              have HI := Lib.hid (And.intro hlt (And.intro hz2 hzb))
              have hw1 : IntKind.i64.wrap ((z : Int) + 2) = (z : Int) + 2 := Ix.wrap_in (by omega) (by omega)
              have hw2 : IntKind.i64.wrap ((z : Int) + 2 + (q : Int)) = (z : Int) + 2 + (q : Int) := Ix.wrap_in (by omega) (by omega)
              clear hct hcl hz hz2 hzb hq hs
              go_wp2_with fail
              go_roundw
              case rel => exact ⟨i + 1, by have := HI.out; omega, by rw [HI.out.2.1]; go_num, by go_num, trivial⟩
              case measure => have := HI.out; simp [intOf]; omega
            · obtain rfl : np = i := by omega
              have hPt : P.take np = P := by rw [HF.out.2.1]; exact List.take_length
              rw [hPt, ← HW0.out]
              obtain ⟨bu, ou, eu, -, qu⟩ := H10.out.2.2.2.2 (nu - 1) (by have := HF.out.2.2.2.1; have := HF.out.2.2.2.2.2.1.2; omega)
              obtain ⟨bt, ot, et, -, qt⟩ := H10.out.2.2.2.1 m1 (by have := HF.out.2.2.1; have := HZ.out; omega)
              rw [HF.out.2.2.2.2.2.1.1] at qu
              rw [HF.out.2.2.2.2.1] at qt
              injection et with et
              injection et with e1 e1'
              subst e1 e1' eu
              have hu1 := HF.out.2.2.2.2.2.1.2
              have hx5 : IntKind.i64.wrap ((nx : Int) - 1) = (m1 : Int) := by rw [Ix.wrap_in (by omega) (by have := HZ.out; omega)]; have := HZ.out; omega
              have hx6 : m1 < nx := by have := HZ.out; omega
              have hnu : nu ≤ 200000 := by
                have h1 := HF.out.2.2.2.2.2.2.2.2.2.2.1
                have h2 := HF.out.2.2.2.2.2.2.2.2.2.2.2.1
                have h4 := Nat.mul_le_mul_right 402 h2
                have := HW0.out
                omega
              have hu5 : IntKind.i64.wrap ((nu : Int) - 1) = ((nu - 1 : Nat) : Int) := by rw [Ix.wrap_in (by omega) (by omega)]; omega
              obtain ⟨m2, hm2⟩ : ∃ m2, m2 = nu - 1 := ⟨_, rfl⟩
              rw [← hm2] at hu5 qu
              have hu6 : m2 < nu := by omega
              have hu7 : (0 : Int) < (nu : Int) := by omega
              have hu8 : 0 < nu := by omega
              clear hPt hlt hnu hm2 hu1 hi
              go_wp2_with fail
              go_quiet (fail)
              have HB := Lib.hid (below_drewN H10.out.1 nq)
              generalize wr.drewN nq = w11 at *
              go_wp2_with fail
              go_ret
              exact ⟨rfl, HB.out⟩
        · have hW0 : nu = 0 + Ix.cntT P := by have := HF.out.2.2.2.2.2.2.2.2.2.1; rw [if_neg h0] at this; exact this
          have k0 : ((n1 : Int) == 0) = false := by
            cases e : ((n1 : Int) == 0) with
            | false => rfl
            | true => exact absurd (by have := eq_of_beq e; omega) h0
          have HW0 := Lib.hid hW0
          clear h0 hW0
          go_wp2_with fail
          clear k0 p0
          have hp4 : np ≤ 400 := by have h1 := HF.out.2.1; have h2 := HF.out.2.2.2.2.2.2.2.2.2.2.2.1; omega
          go_loopw [13, 14] (fun v c wr => ∃ i : Nat, i ≤ np ∧ v = .int .i64 ((0 + Ix.cntT (P.take i) : Nat) : Int) ∧ c = .int .i64 i ∧ wr = w10) (fun _ c _ => np - (intOf c).toNat)
          case atStart => exact ⟨0, by omega, by rw [List.take_zero]; rfl, rfl, rfl⟩
          case round =>
            obtain ⟨i, hi, rfl, rfl, rfl⟩ := hrel
            by_cases hlt : i < np
            · obtain ⟨s, hs⟩ : ∃ s, P[i]? = some s := ⟨P[i]'(by have := HF.out.2.1; omega), List.getElem?_eq_getElem (by have := HF.out.2.1; omega)⟩
              obtain ⟨b, off, wa, wc, rfl, -, -, -, -, -, d4, -⟩ := H10.out.2.2.1 i s hs
              have hct := cnt_take hs
              have hcl : Ix.cntT (P.take (i + 1)) ≤ 400 * 402 := by
                have h1 := HF.out.2.2.2.2.2.2.2.2.2.2.1
                have h2 := HF.out.2.2.2.2.2.2.2.2.2.2.2.1
                have h3 := cnt_mono P (i + 1)
                have h4 := Nat.mul_le_mul_right 402 h2
                omega
              obtain ⟨q, hq⟩ : ∃ q, q = s.way.length := ⟨_, rfl⟩
              rw [← hq] at d4 hct
              obtain ⟨z, hz⟩ : ∃ z, z = 0 + Ix.cntT (P.take i) := ⟨_, rfl⟩
              rw [← hz]
              have hz2 : 0 + Ix.cntT (P.take (i + 1)) = z + 2 + q := by rw [hct, hz]; omega
              have hzb : z + 2 + q ≤ 200000 := by omega
              have HI := Lib.hid (And.intro hlt (And.intro hz2 hzb))
              have hw1 : IntKind.i64.wrap ((z : Int) + 2) = (z : Int) + 2 := Ix.wrap_in (by omega) (by omega)
              have hw2 : IntKind.i64.wrap ((z : Int) + 2 + (q : Int)) = (z : Int) + 2 + (q : Int) := Ix.wrap_in (by omega) (by omega)
              clear hct hcl hz hz2 hzb hq hs
              go_wp2_with fail
              go_roundw
              case rel => exact ⟨i + 1, by have := HI.out; omega, by rw [HI.out.2.1]; go_num, by go_num, trivial⟩
              case measure => have := HI.out; simp [intOf]; omega
            · obtain rfl : np = i := by omega
              have hPt : P.take np = P := by rw [HF.out.2.1]; exact List.take_length
              rw [hPt, ← HW0.out]
              obtain ⟨bu, ou, eu, -, qu⟩ := H10.out.2.2.2.2 (nu - 1) (by have := HF.out.2.2.2.1; have := HF.out.2.2.2.2.2.1.2; omega)
              obtain ⟨bt, ot, et, -, qt⟩ := H10.out.2.2.2.1 m1 (by have := HF.out.2.2.1; have := HZ.out; omega)
              rw [HF.out.2.2.2.2.2.1.1] at qu
              rw [HF.out.2.2.2.2.1] at qt
              injection et with et
              injection et with e1 e1'
              subst e1 e1' eu
              have hu1 := HF.out.2.2.2.2.2.1.2
              have hx5 : IntKind.i64.wrap ((nx : Int) - 1) = (m1 : Int) := by rw [Ix.wrap_in (by omega) (by have := HZ.out; omega)]; have := HZ.out; omega
              have hx6 : m1 < nx := by have := HZ.out; omega
              have hnu : nu ≤ 200000 := by
                have h1 := HF.out.2.2.2.2.2.2.2.2.2.2.1
                have h2 := HF.out.2.2.2.2.2.2.2.2.2.2.2.1
                have h4 := Nat.mul_le_mul_right 402 h2
                have := HW0.out
                omega
              have hu5 : IntKind.i64.wrap ((nu : Int) - 1) = ((nu - 1 : Nat) : Int) := by rw [Ix.wrap_in (by omega) (by omega)]; omega
              obtain ⟨m2, hm2⟩ : ∃ m2, m2 = nu - 1 := ⟨_, rfl⟩
              rw [← hm2] at hu5 qu
              have hu6 : m2 < nu := by omega
              have hu7 : (0 : Int) < (nu : Int) := by omega
              have hu8 : 0 < nu := by omega
              clear hPt hlt hnu hm2 hu1 hi
              go_wp2_with fail
              go_quiet (fail)
              have HB := Lib.hid (below_drewN H10.out.1 nq)
              generalize wr.drewN nq = w11 at *
              go_wp2_with fail
              go_ret
              exact ⟨rfl, HB.out⟩
end Go.Proofs.YtdfkpjmljaanpaaDoor

namespace Go.Proofs.YtdfkpjmljaanpaaDoor.indexTextsLaw
open Go.ChangeShapes Go.WideShapes Go.ChangeAt Go.RowKit
open Go.ChangeMaps (open_string shut_string)

set_option maxRecDepth 100000 in
theorem contract (H : Type) (enc : TypeId × Value → H) (W : World) (base : Nat) (args : Array Value) (ds gs : List (DataW H)) (before : List MemPlace)
    (hval : ∀ (j : Nat) t v, Tryd.f5.params[j]? = some t → args[j]? = some v → Value.okWide Tryd.prog W .any base t v)
    (hW : DataW.Whole enc Tryd.prog Tryd.f5.params.toList Rows.indexTextsSpec.vars false W args.toList ds gs before) (hL : laidMetH Tryd.prog Rows.indexTextsRow.laid W) :
    Calls Tryd.prog 5 args W fun e W' => ∃ v, e = .returned v ∧ Rows.indexTextsSpec.post enc Tryd.prog Tryd.f5 false true false false W args v W' := by
  have hW' := hW
  obtain ⟨p, q, hA0, hV, rfl, hfz, hnd⟩ := hW
  have hA : DataW.TrodAll enc Tryd.prog W 0 (fun _ => true) true Tryd.f5.params.toList args.toList ds p := hA0
  rw [Tryd.params5] at hA hval
  obtain ⟨v0, vs0, d0, ds0, p0, q0, hargs, rfl, rfl, h0, r0⟩ := trodAll_cons hA
  obtain ⟨v1, vs1, d1, ds1, p1, q1, rfl, rfl, rfl, h1, r1⟩ := trodAll_cons r0
  obtain ⟨rfl, rfl, rfl⟩ := trodAll_nil r1
  obtain rfl : args = #[v0, v1] := by cases args; simp_all
  obtain ⟨rfl, rfl⟩ := trodVars_none hV
  obtain ⟨a0, len0, cap0, rfl⟩ := okWide_slice Tryd.underlying22 (hval 0 22 v0 rfl rfl)
  have hk0 := h0
  obtain ⟨fuel0, hf0⟩ := h0
  obtain ⟨n1, rfl, rfl, rfl, ws1⟩ := open_int Tryd.underlying3 (hval 1 3 v1 rfl rfl) h1
  have hbd1 := ws1
  simp only [Lit.wf, Bool.and_eq_true, decide_eq_true_eq] at hbd1
  clear hA0
  simp only [List.append_nil] at hW'
  have hlt0 : ∀ x ∈ p0, x.block < W.heap.size := fun x hx => by simpa using hW'.lt x (by simp [hx])
  obtain ⟨ss0, hlen0, hmax0, hT0⟩ := lads_of hf0 hlt0
  subst hlen0
  refine (ixtexts_law ss0 a0 cap0 hT0 hmax0 n1 hbd1.1 hbd1.2 (w := W) (hG := glob_of_laid hL)).mono fun e W' ⟨he, hb⟩ => ?_
  subst he
  exact ⟨_, rfl, _, _, _, [], _, [], hW', trodAll_cons_mk (shut_bool Tryd.underlying4 _) trodAll_mk0, (trodAll_cons_mk (Below.trod laidOut (by kernel_rfl) (of_decide_eq_true (by kernel_rfl)) hk0 hb hlt0) (trodAll_cons_mk (shut_int Tryd.underlying3 ws1) trodAll_mk0)), rfl, hb.frame _, fun h => by cases h⟩
theorem laid_met (os : Os) : laidMet Tryd.prog Rows.indexTextsRow.laid ((laidWorld os).forCall (fun _ _ => 0) ⟨#[], #[.slice none 0 0, .int .i64 0], []⟩).memory :=
  laidMet_of_run' 8 (by kernel_rfl) (by kernel_rfl)
theorem reads (os : Os) {H : Type} (enc : TypeId × Value → H) : ∃ places, DataW.whole enc Tryd.prog ((laidWorld os).forCall (fun _ _ => 0) ⟨#[], #[.slice none 0 0, .int .i64 0], []⟩).memory Tryd.f5.params.toList Rows.indexTextsSpec.vars false #[Value.slice none 0 0, .int .i64 0].toList 8 = some ([.nil, .lit (.int .i64 0)], [], places) :=
  ⟨[], by kernel_rfl⟩
set_option maxRecDepth 100000 in
theorem lifted (os : Os) (started : os.Started) (H : Type) (enc : TypeId × Value → H) (F : Stop.Interp) :
    ReturnsInHanded {} Tryd.checked os 5 .any ((OpenSpec.ofChange Rows.indexTextsSpec).preRow enc Tryd.prog Tryd.f5 Rows.indexTextsRow.domain false Rows.indexTextsRow.laid) (((OpenSpec.ofChange Rows.indexTextsSpec).at F).post enc Tryd.prog Tryd.f5 false true false false) := by
  obtain ⟨places, hx⟩ := reads os enc
  refine returnsInHanded_of_row (C := Tryd.checked) (s := OpenSpec.ofChange Rows.indexTextsSpec) own started (by kernel_rfl) Tryd.func5
    (witness_row_at (enc := enc) (C := Tryd.checked) false (laidWorld os) #[.slice none 0 0, .int .i64 0] rfl (by kernel_rfl) (by kernel_rfl) (by kernel_rfl)
      (OpenSpec.preRow_of_cond 8 hx (by kernel_rfl) (fun k hk => by cases hk) (by kernel_rfl) (laid_met os))) ?_
  intro W base args ds gs before hval hW _ _ _ hL _ _
  exact contract H enc W base args ds gs before hval hW hL
theorem said : Rows.IndexTextsSaid :=
  OpenClaim.holds_of_cond 5 Tryd.f5 rfl rfl rfl rfl rfl rfl rfl ⟨rfl, rfl, rfl, rfl, rfl⟩ rfl rfl rfl rfl rfl (by kernel_rfl) Tryd.func5 (by kernel_rfl)
    (of_decide_eq_true (by kernel_rfl)) (by unfold Func.isWrapper; first | (rw [if_pos (by decide +kernel)]; kernel_rfl) | (rw [if_neg (by decide +kernel)]; exact ⟨rfl, rfl⟩))
    (fun os started H enc _ F => by rw [OpenClaim.pre_eq_preRow]; exact lifted os started H enc F)
theorem plain (f : FuncId) (fn : Func) (hf : Tryd.pinned.checked.prog.funcNamed "lockbox/lockboxlaw18.IndexTexts" = some f) (hfn : Tryd.pinned.checked.prog.funcs[f]? = some fn) :
    false = Tryd.pinned.checked.prog.looks [] ∧ ∀ (j : Nat) t, fn.params[j]? = some t → Tryd.pinned.checked.prog.wantsStandIn t = false := by
  obtain rfl : f = 5 := Option.some.inj ((show Tryd.prog.funcNamed "lockbox/lockboxlaw18.IndexTexts" = some 5 by kernel_rfl).symm.trans hf) |>.symm
  obtain rfl : fn = Tryd.f5 := (Option.some.inj (Tryd.func5.symm.trans hfn)).symm
  refine ⟨by kernel_rfl, fun j t ht => ?_⟩
  rw [Tryd.params5] at ht
  have hm : t ∈ [22, 3] := by simpa using Array.mem_of_getElem? ht
  have hall : ([22, 3].all fun u => !Tryd.prog.wantsStandIn u) = true := by kernel_rfl
  exact (show Tryd.prog.wantsStandIn t = false by simpa using List.all_eq_true.1 hall t hm)
end Go.Proofs.YtdfkpjmljaanpaaDoor.indexTextsLaw

namespace Go.Proofs.YtdfkpjmljaanpaaDoor
/-- THE CARD. -/
theorem indexTexts_card : Rows.IndexTextsCardSaid :=
  Claim7.holds_tied_plain_at .later [] _ _ _ _ indexTextsLaw.said (fun _ h => by cases h) (by kernel_rfl) (fun _ h => by cases h) indexTexts_row_tie rfl ⟨rfl, rfl⟩ (by kernel_rfl) rfl indexTextsLaw.plain (by kernel_rfl)
end Go.Proofs.YtdfkpjmljaanpaaDoor
