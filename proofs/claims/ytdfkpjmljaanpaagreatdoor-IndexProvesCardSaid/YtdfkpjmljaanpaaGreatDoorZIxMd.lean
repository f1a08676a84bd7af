/- IxMd, what is wanted of it. -/
import Derived.Test.YtdfkpjmljaanpaaGreatDoorZIxAwk
import Derived.Test.YtdfkpjmljaanpaaGreatDoorZIxAdd
import Derived.Test.YtdfkpjmljaanpaaGreatDoorZMX6
import Derived.Test.YtdfkpjmljaanpaaGreatDoorZMX4
namespace Go.Proofs.YtdfkpjmljaanpaaGreatDoor
open Go.RowKit
open Cn
def ladP (l : List Lad) : List (UInt8 × List UInt8) := l.map fun x => (x.skip, x.l)
theorem ladP_at {l : List Lad} {i : Nat} {x : Lad} (h : l[i]? = some x) : (ladP l)[i]? = some (x.skip, x.l) := by
  unfold ladP
  rw [List.getElem?_map, h]; rfl
theorem equalPo (x : Po) (w : World) : (Op.equalIn 10000 119 (.agg #[.string x.tag, .int .i64 x.prev]) (.agg #[.string x.tag, .int .i64 x.prev])).run Tryz.prog w = .ok true w := by
  have us0 := Tryz.underlying9
  have as0 := Tryz.isAgg9
  have zs0 := Tryz.sizeOf9
  have u3 := Tryz.underlying3
  have a3 := Tryz.isAgg3
  have z3 := Tryz.sizeOf3
  have hS : Tryz.prog.underlying 119 = some (.struct (Tryz.prog.fieldsOf 119)) := by kernel_rfl
  have hp : Tryz.prog.stoodInHeld 119 = false := by kernel_rfl
  rw [show (10000 : Nat) = 9999 + 1 from rfl, run_equalIn_agg w 9999 119 _ _ hS hp]
  simp only [Program.fieldsOf, Tryz.underlying119]
  go_simp
/-- The state: the index under its box, the document's rows. -/
structure MdS (w : World) (R : List Rw) (a : Option Addr) (ca : Nat) (r : Option Addr) (rc : Nat) (W : World) : Prop where
  res : W.heap[w.heap.size]? = some (.cells #[.slice none 0 0] 25 (0, 0))
  row : W.heap[w.heap.size + 1]? = some (.cells #[.slice a R.length ca] 25 (0, 0))
  own : OwnR 41 3 rwCs (w.heap.size + 2) W a ca R
  nil : R = [] → a = none
  ref : OwnR 47 3 rwCs (w.heap.size + 2) W r rc R
  below : Below w.heap.size w W
section
variable {w : World} {R : List Rw} {a : Option Addr} {ca : Nat} {r : Option Addr} {rc : Nat} {W : World}
theorem MdS.size (h : MdS w R a ca r rc W) : w.heap.size + 2 ≤ W.heap.size := lt_of_heap h.row
theorem MdS.call {W' : World} (h : MdS w R a ca r rc W) (hb : Below W.heap.size W W') : MdS w R a ca r rc W' :=
  ⟨(hb.block _ (lt_of_heap h.res)).trans h.res, (hb.block _ (lt_of_heap h.row)).trans h.row, h.own.call hb, h.nil, h.ref.call hb, h.below.trans (hb.mono h.below.size)⟩
theorem MdS.cell (h : MdS w R a ca r rc W) : W.cell? ⟨w.heap.size + 1, 0, none⟩ = some (.slice a R.length ca) ∧ W.frozen? ⟨w.heap.size + 1, 0, none⟩ = false := ⟨by rw [cell_of_row _ _ _ _ _ _ h.row]; rfl, frozen_of_row _ _ _ _ _ h.row⟩
theorem MdS.rcell (h : MdS w R a ca r rc W) : W.cell? ⟨w.heap.size, 0, none⟩ = some (.slice none 0 0) ∧ W.frozen? ⟨w.heap.size, 0, none⟩ = false := ⟨by rw [cell_of_row _ _ _ _ _ _ h.res]; rfl, frozen_of_row _ _ _ _ _ h.res⟩
theorem MdS.otherAt (h : MdS w R a ca r rc W) {g : Nat} (hg : w.heap.size + 2 ≤ g) (hA : ∀ q, (Value.slice a R.length ca).ownBlock = some q → q ≠ g) (hR : ∀ q, (Value.slice r R.length rc).ownBlock = some q → q ≠ g) (v : Value) : MdS w R a ca r rc (W.setCell ⟨g, 0, none⟩ v) :=
  ⟨(heap_setCell_other _ _ _ _ (show w.heap.size ≠ g by omega)).trans h.res, (heap_setCell_other _ _ _ _ (show w.heap.size + 1 ≠ g by omega)).trans h.row, h.own.otherNe hA _, h.nil, h.ref.otherNe hR _, h.below.setCell (p := ⟨g, 0, none⟩) (show w.heap.size ≤ g by omega) _⟩
theorem MdS.next (h : MdS w R a ca r rc W) {R' : List Rw} {b : Option Addr} {cb : Nat} {q : Option Addr} {cq n : Nat} (ho : OwnR 41 3 rwCs (w.heap.size + 2) W b cb R') (hn : R' = [] → b = none) (hr : OwnR 47 3 rwCs (w.heap.size + 2) W q cq R') (hl : R'.length = n) :
    MdS w R' b cb q cq (W.setCell ⟨w.heap.size + 1, 0, none⟩ (.slice b n cb)) := by
  subst hl
  refine ⟨(heap_setCell_other _ _ _ _ (show w.heap.size ≠ w.heap.size + 1 by omega)).trans h.res, ?_, ho.other (Nat.lt_succ_self _) _, hn, hr.other (Nat.lt_succ_self _) _, h.below.setCell (p := ⟨w.heap.size + 1, 0, none⟩) (show w.heap.size ≤ w.heap.size + 1 by omega) _⟩
  rw [heap_setCell_same _ _ _ _ _ _ h.row]; rfl
end
/-- What Made makes. -/
def MdPost (R : List Rw) (w : World) (e : Ending) (w' : World) : Prop :=
  ∃ a ca r rc, e = .returned (.tuple #[.agg #[.slice a R.length ca], .slice r R.length rc, .bool true]) ∧ OwnR 41 3 rwCs w.heap.size w' a ca R ∧ (R = [] → a = none) ∧ OwnR 47 3 rwCs w.heap.size w' r rc R ∧ Below w.heap.size w w'
set_option maxRecDepth 100000 in
set_option maxHeartbeats 40000000 in
theorem made18_any (l : List Lad) (a0 : Option Addr) (cap mo : Nat) (hmo : mo ≤ 100) (w : World) (hT : LadsAt w a0 l) (hm : l.length ≤ maxLen) :
    Calls Tryz.prog 12 #[.slice a0 l.length cap, .int .i64 (mo : Int)] w (MdPost (Ix.mdI ((ladP l).take mo)).1 w) := by
  unfold maxLen at hm
  obtain ⟨w1, hw1⟩ : ∃ w1, w1 = (w.alloc (.cells #[.slice none 0 0] 25)).alloc (.cells #[.slice none 0 0] 25) := ⟨_, rfl⟩
  have hz : (w.alloc (.cells #[.slice none 0 0] 25)).heap.size = w.heap.size + 1 := World.size_alloc _ _
  have hb1 : Below w.heap.size w w1 := by rw [hw1]; exact ((Below.refl _ _).alloc (Nat.le_refl _) _).alloc (by rw [hz]; omega) _
  have hM1 : MdS w [] none 0 none 0 w1 := by
    refine ⟨?_, ?_, OwnR.nil _ _ _ _ _, fun _ => rfl, OwnR.nil _ _ _ _ _, hb1⟩
    · rw [hw1, heap_alloc_old _ _ (by rw [hz]; omega)]; exact heap_alloc_new _ _
    · rw [hw1, ← hz]; exact heap_alloc_new _ _
  obtain ⟨N, hN⟩ : ∃ N, N = l.length := ⟨_, rfl⟩
  rw [← hN] at hm ⊢
  obtain ⟨RF, hRF⟩ : ∃ RF, RF = (Ix.mdI ((ladP l).take mo)).1 := ⟨_, rfl⟩
  rw [← hRF]
  have H := Lib.hid (And.intro hT (And.intro hN (And.intro hRF hM1)))
  clear hT hN hRF hb1 hM1 hz
  go_enter Tryz.func12, Tryz.ntmps12
  go_upto_region 3 with fail
  rw [← hw1]
  clear hw1
  go_wp2_with fail
  go_loopw [8, 9, 10, 11, 12, 13, 14, 15] (fun v8 v9 v10 _ _ _ _ _ wr => ∃ (i : Nat) (n : Int) (R : List Rw) (a : Option Addr) (ca : Nat) (r : Option Addr) (rc : Nat), i ≤ N ∧ i ≤ mo ∧ v10 = .int .i64 i ∧ v9 = .int .i64 n ∧ v8 = .slice r R.length rc ∧ Ix.mdI ((ladP l).take i) = (R, n) ∧ MdS w R a ca r rc wr) (fun _ _ v10 _ _ _ _ _ _ => N - (intOf v10).toNat)
  case atStart => exact ⟨0, 0, [], none, 0, none, 0, by omega, by omega, rfl, rfl, rfl, by rw [List.take_zero]; rfl, H.out.2.2.2⟩
  case round =>
    obtain ⟨i, n, R, a, ca, r, rc, hi, him, rfl, rfl, rfl, hmd, hMd⟩ := hrel
    by_cases hlt : i < N
    · by_cases hlm : i < mo
      · have hil : i < l.length := by have := H.out.2.1; omega
        obtain ⟨x, hx⟩ : ∃ x, l[i]? = some x := ⟨_, List.getElem?_eq_getElem hil⟩
        obtain ⟨hxo, b, off, rfl, hbw, k0, k1⟩ := H.out.1 i x hx
        have HQ := Lib.hid k1
        have q0 := (hMd.below.cell (p := ⟨b, off + i * 2, none⟩) hbw).trans k0
        have q1 := (hMd.below.cell (p := ⟨b, off + i * 2 + 1, none⟩) hbw).trans k1
        obtain ⟨k3, hk3⟩ : ∃ k3 : Nat, k3 = x.skip.toNat % 3 := ⟨_, rfl⟩
        have hk33 : k3 < 3 := by omega
        have dt : ((x.skip.toNat : Int)).tmod 3 = (k3 : Int) := by rw [Int.tmod_eq_emod_of_nonneg (by omega)]; omega
        have hc256 : (x.skip.toNat : Int) < 256 := by have := x.skip.toNat_lt; omega
        have hok := Ix.mdI_ok ((ladP l).take i)
        have htl : ((ladP l).take i).length = i := by unfold ladP; rw [List.length_take, List.length_map]; omega
        rw [htl, hmd] at hok
        have hnx := Ix.mdI_succ (ladP_at hx)
        rw [hmd] at hnx
        have had := hok.add (by omega) (x.skip, x.l)
        obtain ⟨T, hTT⟩ : ∃ T, T = tgsI x.l := ⟨_, rfl⟩
        obtain ⟨P, hP⟩ : ∃ P, P = (Ix.mrg (n + (k3 : Nat)) R T).2 := ⟨_, rfl⟩
        obtain ⟨S', hS'⟩ : ∃ S', S' = Ix.mdS (R, n) (x.skip, x.l) := ⟨_, rfl⟩
        obtain ⟨R', n2⟩ := S'
        have hn2 : n2 = n + (k3 : Nat) + 1 := by
          have := congrArg Prod.snd hS'
          simp only [Ix.mdS] at this
          rw [this, hk3]
        simp only at had
        rw [← hS', ← hTT, ← hk3, ← hP] at had
        simp only at had
        rw [← hS', hn2] at hnx
        have hT8 : T.length ≤ 12 := by rw [hTT]; have := tgsI_len x.l; omega
        have hn0 : 0 ≤ n := hok.lo
        have hnh : n ≤ 300 := by have := hok.hi; simp only at this; omega
        have hRl : R.length ≤ 1000 := by have := hok.few; simp only at this; omega
        have hgo := hok.good
        have hrw := hok.good.ok (by simp only; omega)
        simp only at hgo hrw
        have hokn := hok.next (x.skip, x.l)
        rw [← hS'] at hokn
        have hR'l : R'.length ≤ 1000 := by have := hokn.few; simp only at this; omega
        have hrw' := hokn.good.ok (by have := hokn.hi; simp only at this ⊢; omega)
        simp only at hrw'
        obtain ⟨nx, hnx2⟩ : ∃ nx, nx = x.l.length := ⟨_, rfl⟩
        obtain ⟨nT, hnT⟩ : ∃ nT, nT = T.length := ⟨_, rfl⟩
        obtain ⟨n1, hn1⟩ : ∃ n1, n1 = R.length := ⟨_, rfl⟩
        obtain ⟨m1, hm1⟩ : ∃ m1, m1 = R'.length := ⟨_, rfl⟩
        obtain ⟨p1, hp1⟩ : ∃ p1, p1 = P.length := ⟨_, rfl⟩
        have htg := fun (W : World) (hb : Below w.heap.size w W) => ltags18_any x.l x.a x.cap W (hxo.below hb).bytes (by have h1 := hxo.len; have h2 := hxo.cap; unfold maxLen at h2; omega)
        rw [← hTT] at htg
        have hwi := fun (W : World) (b : Option Addr) (d : Nat) (h : RwAt W a R) (h2 : TextsAt W b T) (h0 : R = [] → a = none) => with18_ok R T a b ca d n1 nT (n + (k3 : Nat)) W h h2 h0 hgo.rise hrw (by omega) (by omega) hn1.symm hnT.symm R' P had m1 p1 hm1.symm hp1.symm
        have hra := fun (W : World) (b : Option Addr) (d : Nat) (h : RwAt W r R) (h2 : TextsAt W b T) => radd18_any R T r b rc d (n + (k3 : Nat)) (by omega) (by omega) W h h2 (by omega) (by omega) hrw
        rw [had] at hra
        unfold AdPost at hra
        simp only at hra
        rw [← hn1, ← hnT, ← hm1, ← hp1] at hra
        have hros := fun (W : World) (a : Option Addr) (c : Nat) (h : RwAt W a R') => rows18_any R' a c W h (by omega) (fun r hr => by have := (hrw' r hr).1; omega)
        have hlro := fun (W : World) (a : Option Addr) (c : Nat) (h : RwAt W a R') => lrows18_any R' a c W h (by omega)
        have hsam := fun (W : World) (a b : Option Addr) (c d : Nat) (h : RwAt W a R') (h2 : RwAt W b R') => rsame18_any R' R' a b c d W h h2 (by omega)
        rw [eqB_iff.2 rfl] at hsam
        rw [← hm1] at hros hlro hsam
        rw [← hnx2] at q1 htg HQ
        rw [← hnT] at htg
        have hpl : p1 ≤ 1000 := by rw [hp1, hP, (Ix.mrg_len _ _ _).2]; omega
        have HC := Lib.hid (And.intro htg (And.intro hwi (And.intro hra (And.intro hros (And.intro hlro (And.intro hsam (And.intro hnx (And.intro hMd (And.intro hn1 (And.intro hm1 (And.intro hp1 hbw)))))))))))
        clear htg hwi hra hros hlro hsam hnx hMd hgo hrw hrw' hok hokn had hS' hP hTT hxo hmd htl hx hil k0 k1 hk3 hnx2 hnT hm1 hp1 hRl hR'l hT8 hn2
        have HN1 := Lib.hid hn1
        rw [← hn1]
        clear hn1
        obtain ⟨wo, hwo⟩ : ∃ wo, wo = wr := ⟨_, rfl⟩
        subst hwo
        have hl2 : (i : Int) < (N : Int) := by omega
        go_upto_region 8 with fail
        go_cut [11, 12, 13] (fun y p e wc => ∃ (gy : Nat) (ay ap : Option Addr) (cy cp : Nat), y = .pointer (some ⟨gy, 0, none⟩) ∧ p = .slice ap p1 cp ∧ e = .int .i64 0 ∧ wc.heap[gy]? = some (.cells #[.slice ay m1 cy] 25 (0, 0)) ∧ OwnR 41 3 rwCs (w.heap.size + 2) wc ay cy R' ∧ (R' = [] → ay = none) ∧ OwnR 120 2 poCs (w.heap.size + 2) wc ap cp P ∧ MdS w R a ca r rc wc ∧ w.heap.size + 2 ≤ gy)
        case first =>
          go_wp2_with fail
          refine wp_region_held (S := fun W : World => (MdS w R a ca r rc W ∧ W.cell? ⟨b, off + i * 2 + 1, none⟩ = some (.slice x.a nx x.cap))) (by kernel_rfl) ?_
          change wpAnyH _ _ _ _ _ _ _ _ (World.drew _)
          generalize hv0 : World.drew _ = v0
          have E0 : (MdS w R a ca r rc v0 ∧ v0.cell? ⟨b, off + i * 2 + 1, none⟩ = some (.slice x.a nx x.cap)) := by rw [← hv0]; exact ⟨(HC.out.2.2.2.2.2.2.2.1.call ((Below.refl _ _).drew)), q1⟩
          have F0 : Below wo.heap.size wo v0 := by rw [← hv0]; exact ((Below.refl _ _).drew)
          clear hv0
          refine wpAnyH_take (i := 0) (v := ?_) rfl (by kernel_rfl) (by kernel_rfl) (by kernel_rfl) (fun _ _ _ h => h) (Or.inl ⟨by kernel_rfl, ?_⟩) E0 ?_
          rotate_left
          · (intro W hS; obtain ⟨hS1, k1⟩ := hS; obtain ⟨k2, -⟩ := hS1.cell; rw [← HN1.out] at k2; go_simp; try (with_reducible rfl))
          refine wpAnyH_take (i := 1) (v := ?_) rfl (by kernel_rfl) (by kernel_rfl) (by kernel_rfl) (fun _ _ _ h => h) (Or.inl ⟨by kernel_rfl, ?_⟩) E0 ?_
          rotate_left
          · (intro W hS; obtain ⟨hS1, k1⟩ := hS; obtain ⟨k2, -⟩ := hS1.cell; rw [← HN1.out] at k2; go_simp; try (with_reducible rfl))
          refine wpAnyH_take (i := 2) (v := ?_) rfl (by kernel_rfl) (by kernel_rfl) (by kernel_rfl) (fun _ _ _ h => h) (Or.inl ⟨by kernel_rfl, ?_⟩) E0 ?_
          rotate_left
          · (intro W hS; obtain ⟨hS1, k1⟩ := hS; obtain ⟨k2, -⟩ := hS1.cell; rw [← HN1.out] at k2; go_simp; try (with_reducible rfl))
          refine wpAnyH_take (i := 3) (v := ?_) rfl (by kernel_rfl) (by kernel_rfl) (by kernel_rfl) (fun _ _ _ h => h) (Or.inl ⟨by kernel_rfl, ?_⟩) E0 ?_
          rotate_left
          · (intro W hS; obtain ⟨hS1, k1⟩ := hS; obtain ⟨k2, -⟩ := hS1.cell; rw [← HN1.out] at k2; go_simp; try (with_reducible rfl))
          refine wpAnyH_take (i := 4) (v := ?_) rfl (by kernel_rfl) (by kernel_rfl) (by kernel_rfl) (fun _ _ _ h => h) (Or.inl ⟨by kernel_rfl, ?_⟩) E0 ?_
          rotate_left
          · (intro W hS; obtain ⟨hS1, k1⟩ := hS; obtain ⟨k2, -⟩ := hS1.cell; rw [← HN1.out] at k2; go_simp; try (with_reducible rfl))
          refine wpAnyH_take (i := 5) (v := ?_) rfl (by kernel_rfl) (by kernel_rfl) (by kernel_rfl) (fun _ _ _ h => h) (Or.inl ⟨by kernel_rfl, ?_⟩) E0 ?_
          rotate_left
          · (intro W hS; obtain ⟨hS1, k1⟩ := hS; obtain ⟨k2, -⟩ := hS1.cell; rw [← HN1.out] at k2; go_simp; try (with_reducible rfl))
          refine wpAnyH_take (i := 6) (v := ?_) rfl (by kernel_rfl) (by kernel_rfl) (by kernel_rfl) (fun _ _ _ h => h) (Or.inl ⟨by kernel_rfl, ?_⟩) E0 ?_
          rotate_left
          · (intro W hS; obtain ⟨hS1, k1⟩ := hS; obtain ⟨k2, -⟩ := hS1.cell; rw [← HN1.out] at k2; go_simp; try (with_reducible rfl))
          refine wpAnyH_ready (rs := [7, 13]) (by kernel_rfl) (by simp) ?_
          refine AllReadyH.cons (i := 7) rfl (fun K hK => ?_) (AllReadyH.cons (i := 13) rfl (fun K hK => ?_) AllReadyH.nil)
          · go_simp
            refine (HC.out.1 v0 E0.1.below).mono ?_
            rintro e v1 ⟨aT, cT, rfl, hoT, hb⟩
            have F1 := F0.trans (hb.mono F0.size)
            have E1 : (MdS w R a ca r rc v1 ∧ v1.cell? ⟨b, off + i * 2 + 1, none⟩ = some (.slice x.a nx x.cap)) := ⟨E0.1.call hb, (hb.cell (p := ⟨b, off + i * 2 + 1, none⟩) (Nat.lt_of_lt_of_le HC.out.2.2.2.2.2.2.2.2.2.2.2 E0.1.below.size)).trans E0.2⟩
            have ht1 := OwnT.texts hoT
            clear hoT
            refine hK.out _ _ E1 (fun _ => ?_)
            clear hK K hb
            refine wpAnyH_ready (rs := [8, 13]) (by kernel_rfl) (by simp) ?_
            refine AllReadyH.cons (i := 8) rfl (fun K hK => ?_) (AllReadyH.cons (i := 13) rfl (fun K hK => ?_) AllReadyH.nil)
            · go_simp
              refine (HC.out.2.1 v1 aT cT (rwAt_own E1.1.own) ht1 E1.1.nil).mono ?_
              rintro e v2 ⟨ay, cy, ap, cp, rfl, hoB0, hny, hoQ0, hb⟩
              have F2 := F1.trans (hb.mono F1.size)
              have E2 : (MdS w R a ca r rc v2 ∧ v2.cell? ⟨b, off + i * 2 + 1, none⟩ = some (.slice x.a nx x.cap)) := ⟨E1.1.call hb, (hb.cell (p := ⟨b, off + i * 2 + 1, none⟩) (Nat.lt_of_lt_of_le HC.out.2.2.2.2.2.2.2.2.2.2.2 E1.1.below.size)).trans E1.2⟩
              have hoB := hoB0.mono (show w.heap.size + 2 ≤ v1.heap.size from E1.1.size)
              have hoQ := hoQ0.mono (show w.heap.size + 2 ≤ v1.heap.size from E1.1.size)
              clear hoB0 hoQ0
              refine hK.out _ _ E2 (fun _ => ?_)
              clear hK K hb
              refine wpAnyH_take (i := 9) (v := ?_) rfl (by kernel_rfl) (by kernel_rfl) (by kernel_rfl) (fun _ _ _ h => h) (Or.inl ⟨by kernel_rfl, ?_⟩) E2 ?_
              rotate_left
              · (intro W hS; obtain ⟨hS1, k1⟩ := hS; obtain ⟨k2, -⟩ := hS1.cell; rw [← HN1.out] at k2; go_simp; try (with_reducible rfl))
              refine wpAnyH_take (i := 10) (v := ?_) rfl (by kernel_rfl) (by kernel_rfl) (by kernel_rfl) (fun _ _ _ h => h) (Or.inl ⟨by kernel_rfl, ?_⟩) E2 ?_
              rotate_left
              · (intro W hS; obtain ⟨hS1, k1⟩ := hS; obtain ⟨k2, -⟩ := hS1.cell; rw [← HN1.out] at k2; go_simp; try (with_reducible rfl))
              refine wpAnyH_take (i := 11) (v := ?_) rfl (by kernel_rfl) (by kernel_rfl) (by kernel_rfl) (fun _ _ _ h => h) (Or.inl ⟨by kernel_rfl, ?_⟩) E2 ?_
              rotate_left
              · (intro W hS; obtain ⟨hS1, k1⟩ := hS; obtain ⟨k2, -⟩ := hS1.cell; rw [← HN1.out] at k2; go_simp; try (with_reducible rfl))
              refine wpAnyH_take (i := 12) (v := ?_) rfl (by kernel_rfl) (by kernel_rfl) (by kernel_rfl) (fun _ _ _ h => h) (Or.inl ⟨by kernel_rfl, ?_⟩) E2 ?_
              rotate_left
              · (intro W hS; obtain ⟨hS1, k1⟩ := hS; obtain ⟨k2, -⟩ := hS1.cell; rw [← HN1.out] at k2; go_simp; try (with_reducible rfl))
              refine wpAnyH_ready (rs := [13]) (by kernel_rfl) (by simp) ?_
              refine AllReadyH.cons (i := 13) rfl (fun K hK => ?_) AllReadyH.nil
              obtain ⟨v3, hv⟩ : ∃ v, v = v2.alloc (.cells #[.slice none 0 0] 25) := ⟨_, rfl⟩
              have hb : Below v2.heap.size v2 v3 := by rw [hv]; exact (Below.refl _ _).alloc (Nat.le_refl _) _
              have gB : v3.heap[v2.heap.size]? = some (.cells #[.slice none 0 0] 25 (0, 0)) := by rw [hv]; exact heap_alloc_new _ _
              have F3 := F2.trans (hb.mono F2.size)
              have E3 : (MdS w R a ca r rc v3 ∧ v3.cell? ⟨b, off + i * 2 + 1, none⟩ = some (.slice x.a nx x.cap)) := ⟨E2.1.call hb, (hb.cell (p := ⟨b, off + i * 2 + 1, none⟩) (Nat.lt_of_lt_of_le HC.out.2.2.2.2.2.2.2.2.2.2.2 E2.1.below.size)).trans E2.2⟩
              go_simp
              rw [← hv]
              clear hv
              have hgz := lt_of_heap gB
              have hgA : ∀ g, (Value.slice a R.length ca).ownBlock = some g → g ≠ v2.heap.size := fun g hg => by have := (E2.1.own.lt g hg).2; omega
              have hgR : ∀ g, (Value.slice r R.length rc).ownBlock = some g → g ≠ v2.heap.size := fun g hg => by have := (E2.1.ref.lt g hg).2; omega
              have hgl : w.heap.size + 2 ≤ v2.heap.size := E2.1.size
              have hdist : ∀ g, (Value.slice ay R'.length cy).ownBlock = some g → g ≠ v2.heap.size := fun g hg => by have := (hoB.lt g hg).2; omega
              have hdistq : ∀ g, (Value.slice ap P.length cp).ownBlock = some g → g ≠ v2.heap.size := fun g hg => by have := (hoQ.lt g hg).2; omega
              have hoB := hoB.call hb
              have hoQ := hoQ.call hb
              refine hK.out _ _ E3 (fun _ => ?_)
              clear hK K hb
              have c9 : v3.cell? ⟨v2.heap.size, 0, none⟩ = some (.slice none 0 0) := by rw [cell_of_row _ _ _ _ _ _ gB]; rfl
              have f9 : v3.frozen? ⟨v2.heap.size, 0, none⟩ = false := frozen_of_row _ _ _ _ _ gB
              have hN : (v3.setCell ⟨v2.heap.size, 0, none⟩ (.slice ay m1 cy)).heap[v2.heap.size]? = some (.cells #[.slice ay m1 cy] 25 (0, 0)) := by rw [heap_setCell_same _ _ _ _ _ _ gB]; rfl
              have hN2 := hoB.otherNe (g := v2.heap.size) (o := 0) (fun g hg => by have := hdist g hg; omega) (.slice ay m1 cy)
              have hN3 := hoQ.otherNe (g := v2.heap.size) (o := 0) (fun g hg => by have := hdistq g hg; omega) (.slice ay m1 cy)
              have hN4 : MdS w R a ca r rc (v3.setCell ⟨v2.heap.size, 0, none⟩ (.slice ay m1 cy)) := E3.1.otherAt hgl hgA hgR _
              have EZ : (MdS w R a ca r rc (v3.setCell ⟨v2.heap.size, 0, none⟩ (.slice ay m1 cy)) ∧ (v3.setCell ⟨v2.heap.size, 0, none⟩ (.slice ay m1 cy)).cell? ⟨b, off + i * 2 + 1, none⟩ = some (.slice x.a nx x.cap)) := ⟨hN4, (World.cell?_of_block (a := ⟨b, off + i * 2 + 1, none⟩) (heap_setCell_other _ _ _ _ (show b ≠ v2.heap.size by have := HC.out.2.2.2.2.2.2.2.2.2.2.2; omega))).trans E3.2⟩
              have HN := Lib.hid (And.intro hN (And.intro hN2 (And.intro hny (And.intro hN3 (And.intro hN4 hgl)))))
              clear hN hN2 hN3 hN4 hoB hoQ gB hdist hdistq hny hgA hgR
              refine wpAnyH_ready (rs := [14]) (by kernel_rfl) (by simp) ?_
              refine AllReadyH.cons (i := 14) rfl (fun K hK => ?_) AllReadyH.nil
              go_simp
              refine hK.out _ _ EZ (fun _ => ?_)
              clear hK K c9 f9
              refine wpAnyH_take (i := 15) (v := ?_) rfl (by kernel_rfl) (by kernel_rfl) (by kernel_rfl) (fun _ _ _ h => h) (Or.inl ⟨by kernel_rfl, ?_⟩) EZ ?_
              rotate_left
              · (intro W hS; obtain ⟨hS1, k1⟩ := hS; obtain ⟨k2, -⟩ := hS1.cell; rw [← HN1.out] at k2; go_simp; try (with_reducible rfl))
              refine wpAnyH_take (i := 16) (v := ?_) rfl (by kernel_rfl) (by kernel_rfl) (by kernel_rfl) (fun _ _ _ h => h) (Or.inl ⟨by kernel_rfl, ?_⟩) EZ ?_
              rotate_left
              · (intro W hS; obtain ⟨hS1, k1⟩ := hS; obtain ⟨k2, -⟩ := hS1.cell; rw [← HN1.out] at k2; go_simp; try (with_reducible rfl))
              refine wpAnyH_done (by kernel_rfl) ?_ _
              go_simp
              clear EZ
              generalize World.setCell _ _ _ = wz at *
              go_wp2_with fail
              go_meet
              exact ⟨_, ay, ap, cy, cp, rfl, rfl, rfl, HN.out.1, HN.out.2.1, HN.out.2.2.1, HN.out.2.2.2.1, HN.out.2.2.2.2.1, HN.out.2.2.2.2.2⟩
            · obtain ⟨v2, hv⟩ : ∃ v, v = v1.alloc (.cells #[.slice none 0 0] 25) := ⟨_, rfl⟩
              have hb : Below v1.heap.size v1 v2 := by rw [hv]; exact (Below.refl _ _).alloc (Nat.le_refl _) _
              have gB : v2.heap[v1.heap.size]? = some (.cells #[.slice none 0 0] 25 (0, 0)) := by rw [hv]; exact heap_alloc_new _ _
              have F2 := F1.trans (hb.mono F1.size)
              have E2 : (MdS w R a ca r rc v2 ∧ v2.cell? ⟨b, off + i * 2 + 1, none⟩ = some (.slice x.a nx x.cap)) := ⟨E1.1.call hb, (hb.cell (p := ⟨b, off + i * 2 + 1, none⟩) (Nat.lt_of_lt_of_le HC.out.2.2.2.2.2.2.2.2.2.2.2 E1.1.below.size)).trans E1.2⟩
              go_simp
              rw [← hv]
              clear hv
              have hgz := lt_of_heap gB
              have hgA : ∀ g, (Value.slice a R.length ca).ownBlock = some g → g ≠ v1.heap.size := fun g hg => by have := (E1.1.own.lt g hg).2; omega
              have hgR : ∀ g, (Value.slice r R.length rc).ownBlock = some g → g ≠ v1.heap.size := fun g hg => by have := (E1.1.ref.lt g hg).2; omega
              have hgl : w.heap.size + 2 ≤ v1.heap.size := E1.1.size
              have ht1 := ht1.below hb
              refine hK.out _ _ E2 (fun _ => ?_)
              clear hK K hb
              refine wpAnyH_ready (rs := [8]) (by kernel_rfl) (by simp) ?_
              refine AllReadyH.cons (i := 8) rfl (fun K hK => ?_) AllReadyH.nil
              go_simp
              refine (HC.out.2.1 v2 aT cT (rwAt_own E2.1.own) ht1 E2.1.nil).mono ?_
              rintro e v3 ⟨ay, cy, ap, cp, rfl, hoB0, hny, hoQ0, hb⟩
              have F3 := F2.trans (hb.mono F2.size)
              have E3 : (MdS w R a ca r rc v3 ∧ v3.cell? ⟨b, off + i * 2 + 1, none⟩ = some (.slice x.a nx x.cap)) := ⟨E2.1.call hb, (hb.cell (p := ⟨b, off + i * 2 + 1, none⟩) (Nat.lt_of_lt_of_le HC.out.2.2.2.2.2.2.2.2.2.2.2 E2.1.below.size)).trans E2.2⟩
              have gB := (hb.block _ (lt_of_heap gB)).trans gB
              have hoB := hoB0.mono (show w.heap.size + 2 ≤ v2.heap.size from E2.1.size)
              have hoQ := hoQ0.mono (show w.heap.size + 2 ≤ v2.heap.size from E2.1.size)
              have hdist : ∀ g, (Value.slice ay R'.length cy).ownBlock = some g → g ≠ v1.heap.size := fun g hg => by have := (hoB0.lt g hg).1; omega
              have hdistq : ∀ g, (Value.slice ap P.length cp).ownBlock = some g → g ≠ v1.heap.size := fun g hg => by have := (hoQ0.lt g hg).1; omega
              clear hoB0 hoQ0
              have hgz := Nat.lt_of_lt_of_le hgz hb.size
              refine hK.out _ _ E3 (fun _ => ?_)
              clear hK K hb
              refine wpAnyH_take (i := 9) (v := ?_) rfl (by kernel_rfl) (by kernel_rfl) (by kernel_rfl) (fun _ _ _ h => h) (Or.inl ⟨by kernel_rfl, ?_⟩) E3 ?_
              rotate_left
              · (intro W hS; obtain ⟨hS1, k1⟩ := hS; obtain ⟨k2, -⟩ := hS1.cell; rw [← HN1.out] at k2; go_simp; try (with_reducible rfl))
              refine wpAnyH_take (i := 10) (v := ?_) rfl (by kernel_rfl) (by kernel_rfl) (by kernel_rfl) (fun _ _ _ h => h) (Or.inl ⟨by kernel_rfl, ?_⟩) E3 ?_
              rotate_left
              · (intro W hS; obtain ⟨hS1, k1⟩ := hS; obtain ⟨k2, -⟩ := hS1.cell; rw [← HN1.out] at k2; go_simp; try (with_reducible rfl))
              refine wpAnyH_take (i := 11) (v := ?_) rfl (by kernel_rfl) (by kernel_rfl) (by kernel_rfl) (fun _ _ _ h => h) (Or.inl ⟨by kernel_rfl, ?_⟩) E3 ?_
              rotate_left
              · (intro W hS; obtain ⟨hS1, k1⟩ := hS; obtain ⟨k2, -⟩ := hS1.cell; rw [← HN1.out] at k2; go_simp; try (with_reducible rfl))
              refine wpAnyH_take (i := 12) (v := ?_) rfl (by kernel_rfl) (by kernel_rfl) (by kernel_rfl) (fun _ _ _ h => h) (Or.inl ⟨by kernel_rfl, ?_⟩) E3 ?_
              rotate_left
              · (intro W hS; obtain ⟨hS1, k1⟩ := hS; obtain ⟨k2, -⟩ := hS1.cell; rw [← HN1.out] at k2; go_simp; try (with_reducible rfl))
              have c9 : v3.cell? ⟨v1.heap.size, 0, none⟩ = some (.slice none 0 0) := by rw [cell_of_row _ _ _ _ _ _ gB]; rfl
              have f9 : v3.frozen? ⟨v1.heap.size, 0, none⟩ = false := frozen_of_row _ _ _ _ _ gB
              have hN : (v3.setCell ⟨v1.heap.size, 0, none⟩ (.slice ay m1 cy)).heap[v1.heap.size]? = some (.cells #[.slice ay m1 cy] 25 (0, 0)) := by rw [heap_setCell_same _ _ _ _ _ _ gB]; rfl
              have hN2 := hoB.otherNe (g := v1.heap.size) (o := 0) (fun g hg => by have := hdist g hg; omega) (.slice ay m1 cy)
              have hN3 := hoQ.otherNe (g := v1.heap.size) (o := 0) (fun g hg => by have := hdistq g hg; omega) (.slice ay m1 cy)
              have hN4 : MdS w R a ca r rc (v3.setCell ⟨v1.heap.size, 0, none⟩ (.slice ay m1 cy)) := E3.1.otherAt hgl hgA hgR _
              have EZ : (MdS w R a ca r rc (v3.setCell ⟨v1.heap.size, 0, none⟩ (.slice ay m1 cy)) ∧ (v3.setCell ⟨v1.heap.size, 0, none⟩ (.slice ay m1 cy)).cell? ⟨b, off + i * 2 + 1, none⟩ = some (.slice x.a nx x.cap)) := ⟨hN4, (World.cell?_of_block (a := ⟨b, off + i * 2 + 1, none⟩) (heap_setCell_other _ _ _ _ (show b ≠ v1.heap.size by have := HC.out.2.2.2.2.2.2.2.2.2.2.2; omega))).trans E3.2⟩
              have HN := Lib.hid (And.intro hN (And.intro hN2 (And.intro hny (And.intro hN3 (And.intro hN4 hgl)))))
              clear hN hN2 hN3 hN4 hoB hoQ gB hdist hdistq hny hgA hgR
              refine wpAnyH_ready (rs := [14]) (by kernel_rfl) (by simp) ?_
              refine AllReadyH.cons (i := 14) rfl (fun K hK => ?_) AllReadyH.nil
              go_simp
              refine hK.out _ _ EZ (fun _ => ?_)
              clear hK K c9 f9
              refine wpAnyH_take (i := 15) (v := ?_) rfl (by kernel_rfl) (by kernel_rfl) (by kernel_rfl) (fun _ _ _ h => h) (Or.inl ⟨by kernel_rfl, ?_⟩) EZ ?_
              rotate_left
              · (intro W hS; obtain ⟨hS1, k1⟩ := hS; obtain ⟨k2, -⟩ := hS1.cell; rw [← HN1.out] at k2; go_simp; try (with_reducible rfl))
              refine wpAnyH_take (i := 16) (v := ?_) rfl (by kernel_rfl) (by kernel_rfl) (by kernel_rfl) (fun _ _ _ h => h) (Or.inl ⟨by kernel_rfl, ?_⟩) EZ ?_
              rotate_left
              · (intro W hS; obtain ⟨hS1, k1⟩ := hS; obtain ⟨k2, -⟩ := hS1.cell; rw [← HN1.out] at k2; go_simp; try (with_reducible rfl))
              refine wpAnyH_done (by kernel_rfl) ?_ _
              go_simp
              clear EZ
              generalize World.setCell _ _ _ = wz at *
              go_wp2_with fail
              go_meet
              exact ⟨_, ay, ap, cy, cp, rfl, rfl, rfl, HN.out.1, HN.out.2.1, HN.out.2.2.1, HN.out.2.2.2.1, HN.out.2.2.2.2.1, HN.out.2.2.2.2.2⟩
          · obtain ⟨v1, hv⟩ : ∃ v, v = v0.alloc (.cells #[.slice none 0 0] 25) := ⟨_, rfl⟩
            have hb : Below v0.heap.size v0 v1 := by rw [hv]; exact (Below.refl _ _).alloc (Nat.le_refl _) _
            have gB : v1.heap[v0.heap.size]? = some (.cells #[.slice none 0 0] 25 (0, 0)) := by rw [hv]; exact heap_alloc_new _ _
            have F1 := F0.trans (hb.mono F0.size)
            have E1 : (MdS w R a ca r rc v1 ∧ v1.cell? ⟨b, off + i * 2 + 1, none⟩ = some (.slice x.a nx x.cap)) := ⟨E0.1.call hb, (hb.cell (p := ⟨b, off + i * 2 + 1, none⟩) (Nat.lt_of_lt_of_le HC.out.2.2.2.2.2.2.2.2.2.2.2 E0.1.below.size)).trans E0.2⟩
            go_simp
            rw [← hv]
            clear hv
            have hgz := lt_of_heap gB
            have hgA : ∀ g, (Value.slice a R.length ca).ownBlock = some g → g ≠ v0.heap.size := fun g hg => by have := (E0.1.own.lt g hg).2; omega
            have hgR : ∀ g, (Value.slice r R.length rc).ownBlock = some g → g ≠ v0.heap.size := fun g hg => by have := (E0.1.ref.lt g hg).2; omega
            have hgl : w.heap.size + 2 ≤ v0.heap.size := E0.1.size
            refine hK.out _ _ E1 (fun _ => ?_)
            clear hK K hb
            refine wpAnyH_ready (rs := [7]) (by kernel_rfl) (by simp) ?_
            refine AllReadyH.cons (i := 7) rfl (fun K hK => ?_) AllReadyH.nil
            go_simp
            refine (HC.out.1 v1 E1.1.below).mono ?_
            rintro e v2 ⟨aT, cT, rfl, hoT, hb⟩
            have F2 := F1.trans (hb.mono F1.size)
            have E2 : (MdS w R a ca r rc v2 ∧ v2.cell? ⟨b, off + i * 2 + 1, none⟩ = some (.slice x.a nx x.cap)) := ⟨E1.1.call hb, (hb.cell (p := ⟨b, off + i * 2 + 1, none⟩) (Nat.lt_of_lt_of_le HC.out.2.2.2.2.2.2.2.2.2.2.2 E1.1.below.size)).trans E1.2⟩
            have gB := (hb.block _ (lt_of_heap gB)).trans gB
            have ht1 := OwnT.texts hoT
            clear hoT
            have hgz := Nat.lt_of_lt_of_le hgz hb.size
            refine hK.out _ _ E2 (fun _ => ?_)
            clear hK K hb
            refine wpAnyH_ready (rs := [8]) (by kernel_rfl) (by simp) ?_
            refine AllReadyH.cons (i := 8) rfl (fun K hK => ?_) AllReadyH.nil
            go_simp
            refine (HC.out.2.1 v2 aT cT (rwAt_own E2.1.own) ht1 E2.1.nil).mono ?_
            rintro e v3 ⟨ay, cy, ap, cp, rfl, hoB0, hny, hoQ0, hb⟩
            have F3 := F2.trans (hb.mono F2.size)
            have E3 : (MdS w R a ca r rc v3 ∧ v3.cell? ⟨b, off + i * 2 + 1, none⟩ = some (.slice x.a nx x.cap)) := ⟨E2.1.call hb, (hb.cell (p := ⟨b, off + i * 2 + 1, none⟩) (Nat.lt_of_lt_of_le HC.out.2.2.2.2.2.2.2.2.2.2.2 E2.1.below.size)).trans E2.2⟩
            have gB := (hb.block _ (lt_of_heap gB)).trans gB
            have hoB := hoB0.mono (show w.heap.size + 2 ≤ v2.heap.size from E2.1.size)
            have hoQ := hoQ0.mono (show w.heap.size + 2 ≤ v2.heap.size from E2.1.size)
            have hdist : ∀ g, (Value.slice ay R'.length cy).ownBlock = some g → g ≠ v0.heap.size := fun g hg => by have := (hoB0.lt g hg).1; omega
            have hdistq : ∀ g, (Value.slice ap P.length cp).ownBlock = some g → g ≠ v0.heap.size := fun g hg => by have := (hoQ0.lt g hg).1; omega
            clear hoB0 hoQ0
            have hgz := Nat.lt_of_lt_of_le hgz hb.size
            refine hK.out _ _ E3 (fun _ => ?_)
            clear hK K hb
            refine wpAnyH_take (i := 9) (v := ?_) rfl (by kernel_rfl) (by kernel_rfl) (by kernel_rfl) (fun _ _ _ h => h) (Or.inl ⟨by kernel_rfl, ?_⟩) E3 ?_
            rotate_left
            · (intro W hS; obtain ⟨hS1, k1⟩ := hS; obtain ⟨k2, -⟩ := hS1.cell; rw [← HN1.out] at k2; go_simp; try (with_reducible rfl))
            refine wpAnyH_take (i := 10) (v := ?_) rfl (by kernel_rfl) (by kernel_rfl) (by kernel_rfl) (fun _ _ _ h => h) (Or.inl ⟨by kernel_rfl, ?_⟩) E3 ?_
            rotate_left
            · (intro W hS; obtain ⟨hS1, k1⟩ := hS; obtain ⟨k2, -⟩ := hS1.cell; rw [← HN1.out] at k2; go_simp; try (with_reducible rfl))
            refine wpAnyH_take (i := 11) (v := ?_) rfl (by kernel_rfl) (by kernel_rfl) (by kernel_rfl) (fun _ _ _ h => h) (Or.inl ⟨by kernel_rfl, ?_⟩) E3 ?_
            rotate_left
            · (intro W hS; obtain ⟨hS1, k1⟩ := hS; obtain ⟨k2, -⟩ := hS1.cell; rw [← HN1.out] at k2; go_simp; try (with_reducible rfl))
            refine wpAnyH_take (i := 12) (v := ?_) rfl (by kernel_rfl) (by kernel_rfl) (by kernel_rfl) (fun _ _ _ h => h) (Or.inl ⟨by kernel_rfl, ?_⟩) E3 ?_
            rotate_left
            · (intro W hS; obtain ⟨hS1, k1⟩ := hS; obtain ⟨k2, -⟩ := hS1.cell; rw [← HN1.out] at k2; go_simp; try (with_reducible rfl))
            have c9 : v3.cell? ⟨v0.heap.size, 0, none⟩ = some (.slice none 0 0) := by rw [cell_of_row _ _ _ _ _ _ gB]; rfl
            have f9 : v3.frozen? ⟨v0.heap.size, 0, none⟩ = false := frozen_of_row _ _ _ _ _ gB
            have hN : (v3.setCell ⟨v0.heap.size, 0, none⟩ (.slice ay m1 cy)).heap[v0.heap.size]? = some (.cells #[.slice ay m1 cy] 25 (0, 0)) := by rw [heap_setCell_same _ _ _ _ _ _ gB]; rfl
            have hN2 := hoB.otherNe (g := v0.heap.size) (o := 0) (fun g hg => by have := hdist g hg; omega) (.slice ay m1 cy)
            have hN3 := hoQ.otherNe (g := v0.heap.size) (o := 0) (fun g hg => by have := hdistq g hg; omega) (.slice ay m1 cy)
            have hN4 : MdS w R a ca r rc (v3.setCell ⟨v0.heap.size, 0, none⟩ (.slice ay m1 cy)) := E3.1.otherAt hgl hgA hgR _
            have EZ : (MdS w R a ca r rc (v3.setCell ⟨v0.heap.size, 0, none⟩ (.slice ay m1 cy)) ∧ (v3.setCell ⟨v0.heap.size, 0, none⟩ (.slice ay m1 cy)).cell? ⟨b, off + i * 2 + 1, none⟩ = some (.slice x.a nx x.cap)) := ⟨hN4, (World.cell?_of_block (a := ⟨b, off + i * 2 + 1, none⟩) (heap_setCell_other _ _ _ _ (show b ≠ v0.heap.size by have := HC.out.2.2.2.2.2.2.2.2.2.2.2; omega))).trans E3.2⟩
            have HN := Lib.hid (And.intro hN (And.intro hN2 (And.intro hny (And.intro hN3 (And.intro hN4 hgl)))))
            clear hN hN2 hN3 hN4 hoB hoQ gB hdist hdistq hny hgA hgR
            refine wpAnyH_ready (rs := [14]) (by kernel_rfl) (by simp) ?_
            refine AllReadyH.cons (i := 14) rfl (fun K hK => ?_) AllReadyH.nil
            go_simp
            refine hK.out _ _ EZ (fun _ => ?_)
            clear hK K c9 f9
            refine wpAnyH_take (i := 15) (v := ?_) rfl (by kernel_rfl) (by kernel_rfl) (by kernel_rfl) (fun _ _ _ h => h) (Or.inl ⟨by kernel_rfl, ?_⟩) EZ ?_
            rotate_left
            · (intro W hS; obtain ⟨hS1, k1⟩ := hS; obtain ⟨k2, -⟩ := hS1.cell; rw [← HN1.out] at k2; go_simp; try (with_reducible rfl))
            refine wpAnyH_take (i := 16) (v := ?_) rfl (by kernel_rfl) (by kernel_rfl) (by kernel_rfl) (fun _ _ _ h => h) (Or.inl ⟨by kernel_rfl, ?_⟩) EZ ?_
            rotate_left
            · (intro W hS; obtain ⟨hS1, k1⟩ := hS; obtain ⟨k2, -⟩ := hS1.cell; rw [← HN1.out] at k2; go_simp; try (with_reducible rfl))
            refine wpAnyH_done (by kernel_rfl) ?_ _
            go_simp
            clear EZ
            generalize World.setCell _ _ _ = wz at *
            go_wp2_with fail
            go_meet
            exact ⟨_, ay, ap, cy, cp, rfl, rfl, rfl, HN.out.1, HN.out.2.1, HN.out.2.2.1, HN.out.2.2.2.1, HN.out.2.2.2.2.1, HN.out.2.2.2.2.2⟩
        case rest =>
          obtain ⟨gy, ay, ap, cy, cp, rfl, rfl, rfl, hgy, hoy, hny, hop, hMc, hgl⟩ := hcut
          obtain ⟨wC, hwC⟩ : ∃ wC, wC = wc := ⟨_, rfl⟩
          subst hwC
          have q1 := (hMc.below.cell (p := ⟨b, off + i * 2 + 1, none⟩) HC.out.2.2.2.2.2.2.2.2.2.2.2).trans HQ.out
          have H3 := Lib.hid (And.intro hgy (And.intro hoy (And.intro hny (And.intro hop (And.intro hMc hgl)))))
          clear hgy hoy hny hop hMc hgl
          go_wp2_with fail
          refine (HC.out.1 _ H3.out.2.2.2.2.1.below).mono ?_
          rintro e w3 ⟨aT, cT, rfl, hoT, hb3⟩
          have H4 := Lib.hid (And.intro hb3 (And.intro (OwnT.texts hoT) (H3.out.2.2.2.2.1.call hb3)))
          clear hb3 hoT q1
          go_wp2_with fail
          refine (HC.out.2.2.1 _ _ _ (rwAt_own H4.out.2.2.ref) H4.out.2.1).mono ?_
          rintro e w4 ⟨aR, cR, aP, cP, rfl, hoR, hoP, hb4⟩
          obtain ⟨w5, hw5⟩ : ∃ w5, w5 = w4.alloc (.cells (wiCs aR m1 cR aP p1 cP 0) 116) := ⟨_, rfl⟩
          have hb5 : Below w4.heap.size w4 w5 := by rw [hw5]; exact (Below.refl _ _).alloc (Nat.le_refl _) _
          have hg5 : w5.heap[w4.heap.size]? = some (.cells (wiCs aR m1 cR aP p1 cP 0) 116 (0, 0)) := by rw [hw5]; exact heap_alloc_new _ _
          have hM5 := (H4.out.2.2.call hb4).call hb5
          have b45 := rbelow_call hb4 hb5 hb4.size
          have b35 := rbelow_call H4.out.1 b45 H4.out.1.size
          have s3 : w.heap.size + 2 ≤ w3.heap.size := H4.out.2.2.size
          have hoR5 := (hoR.call hb5).mono s3
          have hoP5 := (hoP.call hb5).mono s3
          have H5 := Lib.hid (And.intro hg5 (And.intro hM5 (And.intro hoR5 (And.intro hoP5 (And.intro (H3.out.2.1.call b35) (And.intro (H3.out.2.2.2.1.call b35) ((b35.block _ (lt_of_heap H3.out.1)).trans H3.out.1)))))))
          obtain ⟨gw, hgw⟩ : ∃ gw, gw = w4.heap.size := ⟨_, rfl⟩
          have hgw2 : w.heap.size + 2 ≤ gw := by rw [hgw]; have := hb4.size; omega
          clear hb4 hb5 hg5 hM5 b45 b35 s3 hoR5 hoP5 hoR hoP
          unfold wiCs at hw5
          go_upto_region 10 with fail
          rw [← hw5, ← hgw]
          rw [← hgw] at H5
          clear hw5 hgw
          go_wp2_with fail
          refine wp_region_held (S := fun W : World => (W.heap[gy]? = some (.cells #[.slice ay m1 cy] 25 (0, 0)) ∧ W.heap[gw]? = some (.cells (wiCs aR m1 cR aP p1 cP 0) 116 (0, 0)))) (by kernel_rfl) ?_
          change wpAnyH _ _ _ _ _ _ _ _ (World.drew _)
          generalize hv0 : World.drew _ = v0
          have E0 : (v0.heap[gy]? = some (.cells #[.slice ay m1 cy] 25 (0, 0)) ∧ v0.heap[gw]? = some (.cells (wiCs aR m1 cR aP p1 cP 0) 116 (0, 0))) := by rw [← hv0]; exact (show w5.drew.heap[gy]? = _ ∧ w5.drew.heap[gw]? = _ from ⟨H5.out.2.2.2.2.2.2, H5.out.1⟩)
          have F0 : Below w5.heap.size w5 v0 := by rw [← hv0]; exact ((Below.refl _ _).drew)
          clear hv0
          refine wpAnyH_take (i := 0) (v := ?_) rfl (by kernel_rfl) (by kernel_rfl) (by kernel_rfl) (fun _ _ _ h => h) (Or.inl ⟨by kernel_rfl, ?_⟩) E0 ?_
          rotate_left
          · (intro W hS; have k0 : W.cell? ⟨gy, 0, none⟩ = some (.slice ay m1 cy) := (by rw [cell_of_row _ _ _ _ _ _ hS.1]; rfl); have k1 : W.cell? ⟨gw, 0, none⟩ = some (.slice aR m1 cR) := (by rw [cell_of_row _ _ _ _ _ _ hS.2]; rfl); have k2 : W.cell? ⟨gw, 1, none⟩ = some (.slice aP p1 cP) := (by rw [cell_of_row _ _ _ _ _ _ hS.2]; rfl); have k3 : W.cell? ⟨gw, 2, none⟩ = some (.int .i64 0) := (by rw [cell_of_row _ _ _ _ _ _ hS.2]; rfl); go_simp; try (with_reducible rfl))
          refine wpAnyH_take (i := 1) (v := .bool false) rfl (by kernel_rfl) (by kernel_rfl) (by kernel_rfl) (fun _ _ _ h => h) (Or.inl ⟨by kernel_rfl, ?_⟩) E0 ?_
          · (intro W hS; have k0 : W.cell? ⟨gy, 0, none⟩ = some (.slice ay m1 cy) := (by rw [cell_of_row _ _ _ _ _ _ hS.1]; rfl); have k1 : W.cell? ⟨gw, 0, none⟩ = some (.slice aR m1 cR) := (by rw [cell_of_row _ _ _ _ _ _ hS.2]; rfl); have k2 : W.cell? ⟨gw, 1, none⟩ = some (.slice aP p1 cP) := (by rw [cell_of_row _ _ _ _ _ _ hS.2]; rfl); have k3 : W.cell? ⟨gw, 2, none⟩ = some (.int .i64 0) := (by rw [cell_of_row _ _ _ _ _ _ hS.2]; rfl); go_simp; try (with_reducible rfl))
          refine wpAnyH_take (i := 2) (v := ?_) rfl (by kernel_rfl) (by kernel_rfl) (by kernel_rfl) (fun _ _ _ h => h) (Or.inl ⟨by kernel_rfl, ?_⟩) E0 ?_
          rotate_left
          · (intro W hS; have k0 : W.cell? ⟨gy, 0, none⟩ = some (.slice ay m1 cy) := (by rw [cell_of_row _ _ _ _ _ _ hS.1]; rfl); have k1 : W.cell? ⟨gw, 0, none⟩ = some (.slice aR m1 cR) := (by rw [cell_of_row _ _ _ _ _ _ hS.2]; rfl); have k2 : W.cell? ⟨gw, 1, none⟩ = some (.slice aP p1 cP) := (by rw [cell_of_row _ _ _ _ _ _ hS.2]; rfl); have k3 : W.cell? ⟨gw, 2, none⟩ = some (.int .i64 0) := (by rw [cell_of_row _ _ _ _ _ _ hS.2]; rfl); go_simp; try (with_reducible rfl))
          refine wpAnyH_take (i := 3) (v := ?_) rfl (by kernel_rfl) (by kernel_rfl) (by kernel_rfl) (fun _ _ _ h => h) (Or.inl ⟨by kernel_rfl, ?_⟩) E0 ?_
          rotate_left
          · (intro W hS; have k0 : W.cell? ⟨gy, 0, none⟩ = some (.slice ay m1 cy) := (by rw [cell_of_row _ _ _ _ _ _ hS.1]; rfl); have k1 : W.cell? ⟨gw, 0, none⟩ = some (.slice aR m1 cR) := (by rw [cell_of_row _ _ _ _ _ _ hS.2]; rfl); have k2 : W.cell? ⟨gw, 1, none⟩ = some (.slice aP p1 cP) := (by rw [cell_of_row _ _ _ _ _ _ hS.2]; rfl); have k3 : W.cell? ⟨gw, 2, none⟩ = some (.int .i64 0) := (by rw [cell_of_row _ _ _ _ _ _ hS.2]; rfl); go_simp; try (with_reducible rfl))
          refine wpAnyH_take (i := 4) (v := ?_) rfl (by kernel_rfl) (by kernel_rfl) (by kernel_rfl) (fun _ _ _ h => h) (Or.inl ⟨by kernel_rfl, ?_⟩) E0 ?_
          rotate_left
          · (intro W hS; have k0 : W.cell? ⟨gy, 0, none⟩ = some (.slice ay m1 cy) := (by rw [cell_of_row _ _ _ _ _ _ hS.1]; rfl); have k1 : W.cell? ⟨gw, 0, none⟩ = some (.slice aR m1 cR) := (by rw [cell_of_row _ _ _ _ _ _ hS.2]; rfl); have k2 : W.cell? ⟨gw, 1, none⟩ = some (.slice aP p1 cP) := (by rw [cell_of_row _ _ _ _ _ _ hS.2]; rfl); have k3 : W.cell? ⟨gw, 2, none⟩ = some (.int .i64 0) := (by rw [cell_of_row _ _ _ _ _ _ hS.2]; rfl); go_simp; try (with_reducible rfl))
          refine wpAnyH_take (i := 5) (v := .bool false) rfl (by kernel_rfl) (by kernel_rfl) (by kernel_rfl) (fun _ _ _ h => h) (Or.inl ⟨by kernel_rfl, ?_⟩) E0 ?_
          · (intro W hS; have k0 : W.cell? ⟨gy, 0, none⟩ = some (.slice ay m1 cy) := (by rw [cell_of_row _ _ _ _ _ _ hS.1]; rfl); have k1 : W.cell? ⟨gw, 0, none⟩ = some (.slice aR m1 cR) := (by rw [cell_of_row _ _ _ _ _ _ hS.2]; rfl); have k2 : W.cell? ⟨gw, 1, none⟩ = some (.slice aP p1 cP) := (by rw [cell_of_row _ _ _ _ _ _ hS.2]; rfl); have k3 : W.cell? ⟨gw, 2, none⟩ = some (.int .i64 0) := (by rw [cell_of_row _ _ _ _ _ _ hS.2]; rfl); go_simp; try (with_reducible rfl))
          refine wpAnyH_take (i := 6) (v := ?_) rfl (by kernel_rfl) (by kernel_rfl) (by kernel_rfl) (fun _ _ _ h => h) (Or.inl ⟨by kernel_rfl, ?_⟩) E0 ?_
          rotate_left
          · (intro W hS; have k0 : W.cell? ⟨gy, 0, none⟩ = some (.slice ay m1 cy) := (by rw [cell_of_row _ _ _ _ _ _ hS.1]; rfl); have k1 : W.cell? ⟨gw, 0, none⟩ = some (.slice aR m1 cR) := (by rw [cell_of_row _ _ _ _ _ _ hS.2]; rfl); have k2 : W.cell? ⟨gw, 1, none⟩ = some (.slice aP p1 cP) := (by rw [cell_of_row _ _ _ _ _ _ hS.2]; rfl); have k3 : W.cell? ⟨gw, 2, none⟩ = some (.int .i64 0) := (by rw [cell_of_row _ _ _ _ _ _ hS.2]; rfl); go_simp; try (with_reducible rfl))
          refine wpAnyH_take (i := 7) (v := ?_) rfl (by kernel_rfl) (by kernel_rfl) (by kernel_rfl) (fun _ _ _ h => h) (Or.inl ⟨by kernel_rfl, ?_⟩) E0 ?_
          rotate_left
          · (intro W hS; have k0 : W.cell? ⟨gy, 0, none⟩ = some (.slice ay m1 cy) := (by rw [cell_of_row _ _ _ _ _ _ hS.1]; rfl); have k1 : W.cell? ⟨gw, 0, none⟩ = some (.slice aR m1 cR) := (by rw [cell_of_row _ _ _ _ _ _ hS.2]; rfl); have k2 : W.cell? ⟨gw, 1, none⟩ = some (.slice aP p1 cP) := (by rw [cell_of_row _ _ _ _ _ _ hS.2]; rfl); have k3 : W.cell? ⟨gw, 2, none⟩ = some (.int .i64 0) := (by rw [cell_of_row _ _ _ _ _ _ hS.2]; rfl); go_simp; try (with_reducible rfl))
          refine wpAnyH_take (i := 8) (v := ?_) rfl (by kernel_rfl) (by kernel_rfl) (by kernel_rfl) (fun _ _ _ h => h) (Or.inl ⟨by kernel_rfl, ?_⟩) E0 ?_
          rotate_left
          · (intro W hS; have k0 : W.cell? ⟨gy, 0, none⟩ = some (.slice ay m1 cy) := (by rw [cell_of_row _ _ _ _ _ _ hS.1]; rfl); have k1 : W.cell? ⟨gw, 0, none⟩ = some (.slice aR m1 cR) := (by rw [cell_of_row _ _ _ _ _ _ hS.2]; rfl); have k2 : W.cell? ⟨gw, 1, none⟩ = some (.slice aP p1 cP) := (by rw [cell_of_row _ _ _ _ _ _ hS.2]; rfl); have k3 : W.cell? ⟨gw, 2, none⟩ = some (.int .i64 0) := (by rw [cell_of_row _ _ _ _ _ _ hS.2]; rfl); go_simp; try (with_reducible rfl))
          refine wpAnyH_take (i := 9) (v := ?_) rfl (by kernel_rfl) (by kernel_rfl) (by kernel_rfl) (fun _ _ _ h => h) (Or.inl ⟨by kernel_rfl, ?_⟩) E0 ?_
          rotate_left
          · (intro W hS; have k0 : W.cell? ⟨gy, 0, none⟩ = some (.slice ay m1 cy) := (by rw [cell_of_row _ _ _ _ _ _ hS.1]; rfl); have k1 : W.cell? ⟨gw, 0, none⟩ = some (.slice aR m1 cR) := (by rw [cell_of_row _ _ _ _ _ _ hS.2]; rfl); have k2 : W.cell? ⟨gw, 1, none⟩ = some (.slice aP p1 cP) := (by rw [cell_of_row _ _ _ _ _ _ hS.2]; rfl); have k3 : W.cell? ⟨gw, 2, none⟩ = some (.int .i64 0) := (by rw [cell_of_row _ _ _ _ _ _ hS.2]; rfl); go_simp; try (with_reducible rfl))
          refine wpAnyH_take (i := 10) (v := ?_) rfl (by kernel_rfl) (by kernel_rfl) (by kernel_rfl) (fun _ _ _ h => h) (Or.inl ⟨by kernel_rfl, ?_⟩) E0 ?_
          rotate_left
          · (intro W hS; have k0 : W.cell? ⟨gy, 0, none⟩ = some (.slice ay m1 cy) := (by rw [cell_of_row _ _ _ _ _ _ hS.1]; rfl); have k1 : W.cell? ⟨gw, 0, none⟩ = some (.slice aR m1 cR) := (by rw [cell_of_row _ _ _ _ _ _ hS.2]; rfl); have k2 : W.cell? ⟨gw, 1, none⟩ = some (.slice aP p1 cP) := (by rw [cell_of_row _ _ _ _ _ _ hS.2]; rfl); have k3 : W.cell? ⟨gw, 2, none⟩ = some (.int .i64 0) := (by rw [cell_of_row _ _ _ _ _ _ hS.2]; rfl); go_simp; try (with_reducible rfl))
          refine wpAnyH_take (i := 11) (v := ?_) rfl (by kernel_rfl) (by kernel_rfl) (by kernel_rfl) (fun _ _ _ h => h) (Or.inl ⟨by kernel_rfl, ?_⟩) E0 ?_
          rotate_left
          · (intro W hS; have k0 : W.cell? ⟨gy, 0, none⟩ = some (.slice ay m1 cy) := (by rw [cell_of_row _ _ _ _ _ _ hS.1]; rfl); have k1 : W.cell? ⟨gw, 0, none⟩ = some (.slice aR m1 cR) := (by rw [cell_of_row _ _ _ _ _ _ hS.2]; rfl); have k2 : W.cell? ⟨gw, 1, none⟩ = some (.slice aP p1 cP) := (by rw [cell_of_row _ _ _ _ _ _ hS.2]; rfl); have k3 : W.cell? ⟨gw, 2, none⟩ = some (.int .i64 0) := (by rw [cell_of_row _ _ _ _ _ _ hS.2]; rfl); go_simp; try (with_reducible rfl))
          refine wpAnyH_take (i := 12) (v := ?_) rfl (by kernel_rfl) (by kernel_rfl) (by kernel_rfl) (fun _ _ _ h => h) (Or.inl ⟨by kernel_rfl, ?_⟩) E0 ?_
          rotate_left
          · (intro W hS; have k0 : W.cell? ⟨gy, 0, none⟩ = some (.slice ay m1 cy) := (by rw [cell_of_row _ _ _ _ _ _ hS.1]; rfl); have k1 : W.cell? ⟨gw, 0, none⟩ = some (.slice aR m1 cR) := (by rw [cell_of_row _ _ _ _ _ _ hS.2]; rfl); have k2 : W.cell? ⟨gw, 1, none⟩ = some (.slice aP p1 cP) := (by rw [cell_of_row _ _ _ _ _ _ hS.2]; rfl); have k3 : W.cell? ⟨gw, 2, none⟩ = some (.int .i64 0) := (by rw [cell_of_row _ _ _ _ _ _ hS.2]; rfl); go_simp; try (with_reducible rfl))
          refine wpAnyH_take (i := 13) (v := .bool false) rfl (by kernel_rfl) (by kernel_rfl) (by kernel_rfl) (fun _ _ _ h => h) (Or.inl ⟨by kernel_rfl, ?_⟩) E0 ?_
          · (intro W hS; have k0 : W.cell? ⟨gy, 0, none⟩ = some (.slice ay m1 cy) := (by rw [cell_of_row _ _ _ _ _ _ hS.1]; rfl); have k1 : W.cell? ⟨gw, 0, none⟩ = some (.slice aR m1 cR) := (by rw [cell_of_row _ _ _ _ _ _ hS.2]; rfl); have k2 : W.cell? ⟨gw, 1, none⟩ = some (.slice aP p1 cP) := (by rw [cell_of_row _ _ _ _ _ _ hS.2]; rfl); have k3 : W.cell? ⟨gw, 2, none⟩ = some (.int .i64 0) := (by rw [cell_of_row _ _ _ _ _ _ hS.2]; rfl); go_simp; try (with_reducible rfl))
          refine wpAnyH_take (i := 14) (v := ?_) rfl (by kernel_rfl) (by kernel_rfl) (by kernel_rfl) (fun _ _ _ h => h) (Or.inl ⟨by kernel_rfl, ?_⟩) E0 ?_
          rotate_left
          · (intro W hS; have k0 : W.cell? ⟨gy, 0, none⟩ = some (.slice ay m1 cy) := (by rw [cell_of_row _ _ _ _ _ _ hS.1]; rfl); have k1 : W.cell? ⟨gw, 0, none⟩ = some (.slice aR m1 cR) := (by rw [cell_of_row _ _ _ _ _ _ hS.2]; rfl); have k2 : W.cell? ⟨gw, 1, none⟩ = some (.slice aP p1 cP) := (by rw [cell_of_row _ _ _ _ _ _ hS.2]; rfl); have k3 : W.cell? ⟨gw, 2, none⟩ = some (.int .i64 0) := (by rw [cell_of_row _ _ _ _ _ _ hS.2]; rfl); go_simp; try (with_reducible rfl))
          refine wpAnyH_take (i := 15) (v := ?_) rfl (by kernel_rfl) (by kernel_rfl) (by kernel_rfl) (fun _ _ _ h => h) (Or.inl ⟨by kernel_rfl, ?_⟩) E0 ?_
          rotate_left
          · (intro W hS; have k0 : W.cell? ⟨gy, 0, none⟩ = some (.slice ay m1 cy) := (by rw [cell_of_row _ _ _ _ _ _ hS.1]; rfl); have k1 : W.cell? ⟨gw, 0, none⟩ = some (.slice aR m1 cR) := (by rw [cell_of_row _ _ _ _ _ _ hS.2]; rfl); have k2 : W.cell? ⟨gw, 1, none⟩ = some (.slice aP p1 cP) := (by rw [cell_of_row _ _ _ _ _ _ hS.2]; rfl); have k3 : W.cell? ⟨gw, 2, none⟩ = some (.int .i64 0) := (by rw [cell_of_row _ _ _ _ _ _ hS.2]; rfl); go_simp; try (with_reducible rfl))
          refine wpAnyH_take (i := 16) (v := ?_) rfl (by kernel_rfl) (by kernel_rfl) (by kernel_rfl) (fun _ _ _ h => h) (Or.inl ⟨by kernel_rfl, ?_⟩) E0 ?_
          rotate_left
          · (intro W hS; have k0 : W.cell? ⟨gy, 0, none⟩ = some (.slice ay m1 cy) := (by rw [cell_of_row _ _ _ _ _ _ hS.1]; rfl); have k1 : W.cell? ⟨gw, 0, none⟩ = some (.slice aR m1 cR) := (by rw [cell_of_row _ _ _ _ _ _ hS.2]; rfl); have k2 : W.cell? ⟨gw, 1, none⟩ = some (.slice aP p1 cP) := (by rw [cell_of_row _ _ _ _ _ _ hS.2]; rfl); have k3 : W.cell? ⟨gw, 2, none⟩ = some (.int .i64 0) := (by rw [cell_of_row _ _ _ _ _ _ hS.2]; rfl); go_simp; try (with_reducible rfl))
          refine wpAnyH_take (i := 19) (v := ?_) rfl (by kernel_rfl) (by kernel_rfl) (by kernel_rfl) (fun _ _ _ h => h) (Or.inl ⟨by kernel_rfl, ?_⟩) E0 ?_
          rotate_left
          · (intro W hS; have k0 : W.cell? ⟨gy, 0, none⟩ = some (.slice ay m1 cy) := (by rw [cell_of_row _ _ _ _ _ _ hS.1]; rfl); have k1 : W.cell? ⟨gw, 0, none⟩ = some (.slice aR m1 cR) := (by rw [cell_of_row _ _ _ _ _ _ hS.2]; rfl); have k2 : W.cell? ⟨gw, 1, none⟩ = some (.slice aP p1 cP) := (by rw [cell_of_row _ _ _ _ _ _ hS.2]; rfl); have k3 : W.cell? ⟨gw, 2, none⟩ = some (.int .i64 0) := (by rw [cell_of_row _ _ _ _ _ _ hS.2]; rfl); go_simp; try (with_reducible rfl))
          refine wpAnyH_take (i := 20) (v := ?_) rfl (by kernel_rfl) (by kernel_rfl) (by kernel_rfl) (fun _ _ _ h => h) (Or.inl ⟨by kernel_rfl, ?_⟩) E0 ?_
          rotate_left
          · (intro W hS; have k0 : W.cell? ⟨gy, 0, none⟩ = some (.slice ay m1 cy) := (by rw [cell_of_row _ _ _ _ _ _ hS.1]; rfl); have k1 : W.cell? ⟨gw, 0, none⟩ = some (.slice aR m1 cR) := (by rw [cell_of_row _ _ _ _ _ _ hS.2]; rfl); have k2 : W.cell? ⟨gw, 1, none⟩ = some (.slice aP p1 cP) := (by rw [cell_of_row _ _ _ _ _ _ hS.2]; rfl); have k3 : W.cell? ⟨gw, 2, none⟩ = some (.int .i64 0) := (by rw [cell_of_row _ _ _ _ _ _ hS.2]; rfl); go_simp; try (with_reducible rfl))
          refine wpAnyH_ready (rs := [17]) (by kernel_rfl) (by simp) ?_
          refine AllReadyH.cons (i := 17) rfl (fun K hK => ?_) AllReadyH.nil
          go_simp
          refine (HC.out.2.2.2.1 v0 ay cy (rwAt_own (H5.out.2.2.2.2.1.call F0))).mono ?_
          rintro e v1 ⟨a6, c6, rfl, ho6, hb⟩
          have F1 := F0.trans (hb.mono F0.size)
          have E1 : (v1.heap[gy]? = some (.cells #[.slice ay m1 cy] 25 (0, 0)) ∧ v1.heap[gw]? = some (.cells (wiCs aR m1 cR aP p1 cP 0) 116 (0, 0))) := ⟨(hb.block _ (lt_of_heap E0.1)).trans E0.1, (hb.block _ (lt_of_heap E0.2)).trans E0.2⟩
          have hr6 := rwAt_own ho6
          clear ho6
          refine hK.out _ _ E1 (fun _ => ?_)
          clear hK K hb
          refine wpAnyH_ready (rs := [18]) (by kernel_rfl) (by simp) ?_
          refine AllReadyH.cons (i := 18) rfl (fun K hK => ?_) AllReadyH.nil
          go_simp
          refine (HC.out.2.2.2.2.1 v1 a6 c6 hr6).mono ?_
          rintro e v2 ⟨a7, c7, rfl, ho7, hb⟩
          have F2 := F1.trans (hb.mono F1.size)
          have E2 : (v2.heap[gy]? = some (.cells #[.slice ay m1 cy] 25 (0, 0)) ∧ v2.heap[gw]? = some (.cells (wiCs aR m1 cR aP p1 cP 0) 116 (0, 0))) := ⟨(hb.block _ (lt_of_heap E1.1)).trans E1.1, (hb.block _ (lt_of_heap E1.2)).trans E1.2⟩
          have hr7 := rwAt_own ho7
          clear ho7 hr6
          refine hK.out _ _ E2 (fun _ => ?_)
          clear hK K hb
          refine wpAnyH_ready (rs := [21]) (by kernel_rfl) (by simp) ?_
          refine AllReadyH.cons (i := 21) rfl (fun K hK => ?_) AllReadyH.nil
          go_simp
          refine (HC.out.2.2.2.2.2.1 v2 a7 aR c7 cR hr7 (rwAt_own (H5.out.2.2.1.call F2))).mono ?_
          rintro e v3 ⟨rfl, hb⟩
          have F3 := F2.trans (hb.mono F2.size)
          have E3 : (v3.heap[gy]? = some (.cells #[.slice ay m1 cy] 25 (0, 0)) ∧ v3.heap[gw]? = some (.cells (wiCs aR m1 cR aP p1 cP 0) 116 (0, 0))) := ⟨(hb.block _ (lt_of_heap E2.1)).trans E2.1, (hb.block _ (lt_of_heap E2.2)).trans E2.2⟩
          clear hr7
          refine hK.out _ _ E3 (fun _ => ?_)
          clear hK K hb
          refine wpAnyH_take (i := 22) (v := ?_) rfl (by kernel_rfl) (by kernel_rfl) (by kernel_rfl) (fun _ _ _ h => h) (Or.inl ⟨by kernel_rfl, ?_⟩) E3 ?_
          rotate_left
          · (intro W hS; have k0 : W.cell? ⟨gy, 0, none⟩ = some (.slice ay m1 cy) := (by rw [cell_of_row _ _ _ _ _ _ hS.1]; rfl); have k1 : W.cell? ⟨gw, 0, none⟩ = some (.slice aR m1 cR) := (by rw [cell_of_row _ _ _ _ _ _ hS.2]; rfl); have k2 : W.cell? ⟨gw, 1, none⟩ = some (.slice aP p1 cP) := (by rw [cell_of_row _ _ _ _ _ _ hS.2]; rfl); have k3 : W.cell? ⟨gw, 2, none⟩ = some (.int .i64 0) := (by rw [cell_of_row _ _ _ _ _ _ hS.2]; rfl); go_simp; try (with_reducible rfl))
          refine wpAnyH_take (i := 23) (v := ?_) rfl (by kernel_rfl) (by kernel_rfl) (by kernel_rfl) (fun _ _ _ h => h) (Or.inl ⟨by kernel_rfl, ?_⟩) E3 ?_
          rotate_left
          · (intro W hS; have k0 : W.cell? ⟨gy, 0, none⟩ = some (.slice ay m1 cy) := (by rw [cell_of_row _ _ _ _ _ _ hS.1]; rfl); have k1 : W.cell? ⟨gw, 0, none⟩ = some (.slice aR m1 cR) := (by rw [cell_of_row _ _ _ _ _ _ hS.2]; rfl); have k2 : W.cell? ⟨gw, 1, none⟩ = some (.slice aP p1 cP) := (by rw [cell_of_row _ _ _ _ _ _ hS.2]; rfl); have k3 : W.cell? ⟨gw, 2, none⟩ = some (.int .i64 0) := (by rw [cell_of_row _ _ _ _ _ _ hS.2]; rfl); go_simp; try (with_reducible rfl))
          refine wpAnyH_done (by kernel_rfl) ?_ _
          go_simp
          obtain ⟨v7, hv7⟩ : ∃ v7, v7 = v3 := ⟨_, rfl⟩
          subst hv7
          have HV := Lib.hid (And.intro F3 E3)
          clear E0 E1 E2 E3 F0 F1 F2 F3
          go_wp2_with fail
          go_loopw [15] (fun k wr => ∃ j : Nat, j ≤ p1 ∧ k = .int .i64 j ∧ Below v7.heap.size v7 wr) (fun k _ => p1 - (intOf k).toNat)
          case atStart => exact ⟨0, by omega, rfl, Below.refl _ _⟩
          case round =>
            obtain ⟨j, hj, rfl, hbv⟩ := hrel
            have b5v := rbelow_call HV.out.1 hbv HV.out.1.size
            by_cases hjl : j < p1
            · obtain ⟨p, hp⟩ : ∃ p, P[j]? = some p := ⟨_, List.getElem?_eq_getElem (by have := HC.out.2.2.2.2.2.2.2.2.2.2.1; omega)⟩
              obtain ⟨b1, o1, rfl, -, u0, u1⟩ := (poAt_own (H5.out.2.2.2.2.2.1.call b5v)) j p hp
              obtain ⟨b2, o2, rfl, -, x0, x1⟩ := (poAt_own (H5.out.2.2.2.1.call b5v)) j p hp
              have gwv := (b5v.block _ (lt_of_heap H5.out.1)).trans H5.out.1
              have cw : wr.cell? ⟨gw, 1, none⟩ = some (.slice (some ⟨b2, o2, none⟩) p1 cP) := by rw [cell_of_row _ _ _ _ _ _ gwv]; rfl
              have he := fun W => equalPo p W
              have HB := Lib.hid hbv
              clear hbv b5v gwv hp
              obtain ⟨t0, t1⟩ := p
              simp only at u0 u1 x0 x1 he
              go_wp2_with fail
              go_quiet (fail)
              have HB2 := Lib.hid (below_drewN HB.out nq)
              generalize wr.drewN nq = w9 at *
              go_wp2_with fail
              go_roundw
              case rel => exact ⟨j + 1, by omega, by go_num, HB2.out⟩
              case measure => simp [intOf]; omega
            · have hyv := (b5v.block _ (lt_of_heap H5.out.2.2.2.2.2.2)).trans H5.out.2.2.2.2.2.2
              have gwv := (b5v.block _ (lt_of_heap H5.out.1)).trans H5.out.1
              have hMv := H5.out.2.1.call b5v
              have cy0 : wr.cell? ⟨gy, 0, none⟩ = some (.slice ay m1 cy) := by rw [cell_of_row _ _ _ _ _ _ hyv]; rfl
              have cw : wr.cell? ⟨gw, 0, none⟩ = some (.slice aR m1 cR) := by rw [cell_of_row _ _ _ _ _ _ gwv]; rfl
              obtain ⟨cx, fx⟩ := hMv.cell
              rw [← HN1.out] at cx
              have hgwl : w.heap.size + 2 ≤ gw := hgw2
              have hwn : ¬ gw = w.heap.size + 1 := by omega
              have hMn := hMv.next (H5.out.2.2.2.2.1.call b5v) H3.out.2.2.1 (H5.out.2.2.1.call b5v) HC.out.2.2.2.2.2.2.2.2.2.1.symm
              have HMn := Lib.hid hMn
              clear hMn hMv hyv gwv hbv b5v
              have hwn2 : IntKind.i64.wrap (n + (k3 : Int) + 1) = n + (k3 : Int) + 1 := Ix.wrap_in (by omega) (by omega)
              go_wp2_with fail
              go_roundw
              case rel => exact ⟨i + 1, n + (k3 : Nat) + 1, R', ay, cy, aR, cR, by omega, by omega, by go_num, by go_num, by rw [HC.out.2.2.2.2.2.2.2.2.2.1], HC.out.2.2.2.2.2.2.1, HMn.out⟩
              case measure => simp [intOf]; omega
      · obtain rfl : i = mo := by omega
        have hfin : R = RF := by rw [H.out.2.2.1, hmd]
        subst hfin
        obtain ⟨k0, k1⟩ := hMd.rcell
        obtain ⟨k2, k3⟩ := hMd.cell
        obtain ⟨n1, hn1⟩ : ∃ n1, n1 = R.length := ⟨_, rfl⟩
        rw [← hn1] at k2
        have HE := Lib.hid (And.intro hMd hn1)
        clear hMd hmd hn1
        go_wp2_with fail
        refine bodyPost_ret (v := .tuple #[.agg #[.slice a n1 ca], .slice r R.length rc, .bool true]) (by simp [results, Tryz.results12, go_sem, k0]) rfl ?_
        exact ⟨a, ca, r, rc, by rw [HE.out.2], (HE.out.1.own.other (g := w.heap.size) (by omega) _).mono (by omega), HE.out.1.nil, (HE.out.1.ref.other (g := w.heap.size) (by omega) _).mono (by omega), HE.out.1.below.setCell (p := ⟨w.heap.size, 0, none⟩) (Nat.le_refl _) _⟩
    · obtain rfl : N = i := by omega
      have hfin : R = RF := by
        rw [H.out.2.2.1, List.take_of_length_le (show (ladP l).length ≤ mo by unfold ladP; rw [List.length_map]; have := H.out.2.1; omega)]
        rw [List.take_of_length_le (show (ladP l).length ≤ N by unfold ladP; rw [List.length_map]; have := H.out.2.1; omega)] at hmd
        rw [hmd]
      subst hfin
      obtain ⟨k0, k1⟩ := hMd.rcell
      obtain ⟨k2, k3⟩ := hMd.cell
      obtain ⟨n1, hn1⟩ : ∃ n1, n1 = R.length := ⟨_, rfl⟩
      rw [← hn1] at k2
      have HE := Lib.hid (And.intro hMd hn1)
      clear hMd hmd hn1
      go_wp2_with fail
      refine bodyPost_ret (v := .tuple #[.agg #[.slice a n1 ca], .slice r R.length rc, .bool true]) (by simp [results, Tryz.results12, go_sem, k0]) rfl ?_
      exact ⟨a, ca, r, rc, by rw [HE.out.2], (HE.out.1.own.other (g := w.heap.size) (by omega) _).mono (by omega), HE.out.1.nil, (HE.out.1.ref.other (g := w.heap.size) (by omega) _).mono (by omega), HE.out.1.below.setCell (p := ⟨w.heap.size, 0, none⟩) (Nat.le_refl _) _⟩
end Go.Proofs.YtdfkpjmljaanpaaGreatDoor
