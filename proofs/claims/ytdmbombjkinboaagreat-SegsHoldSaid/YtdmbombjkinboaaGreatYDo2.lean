/- The law's own do: Sync, a loss of power, a cut; all of it. -/
import Derived.Test.YtdmbombjkinboaaGreatYDo
namespace Go.Proofs.YtdmbombjkinboaaGreat
open Go.RowKit
open Dk Sg Fr

/-- The box of an act. -/
theorem boxed {B : Nat} {w0 w : World} {ρ : Nat → Nat} {U : Nat → Prop} {s b xb : Nat} {D : Disk} {S : Stor} {a : Option Addr} {cap : Nat} (h : Sh B w0 w ρ U s b xb D S a cap) (c : Array Value) :
    Sh B w0 (w.alloc (.cells c 37)) ρ U s b xb D S a cap ∧ (w.alloc (.cells c 37)).heap[w.heap.size]? = some (.cells c 37 (0, 0)) :=
  ⟨h.below ((Below.refl _ _).alloc (Nat.le_refl _) _), heap_alloc_new _ _⟩
set_option maxRecDepth 100000 in
set_option maxHeartbeats 2000000 in
theorem do_sync {B : Nat} {w0 w : World} {ρ : Nat → Nat} {U : Nat → Prop} {s b xb n N M : Nat} {D : Disk} {S : Stor} {a : Option Addr} {cap : Nat} (h : Sh B w0 w ρ U s b xb D S a cap) (hl : Live n N D S) (hb : Bud M D) (hM : M ≤ 99990000) (hr : S.recs.length ≤ 900000) (dx dn : Int) (ds : ByteArray) (da dkp dt : Int) :
    Calls Tryz.prog 11 #[.pointer (some ⟨xb, 0, none⟩), .agg #[.int .i64 1, .int .i64 dx, .int .i64 dn, .string ds, .int .i64 da, .int .i64 dkp, .int .i64 dt]] w (Done B w0 b xb n N M D S.recs.length) := by
  obtain ⟨hx1, hbx⟩ := boxed h #[.int .i64 1, .int .i64 dx, .int .i64 dn, .string ds, .int .i64 da, .int .i64 dkp, .int .i64 dt]
  obtain ⟨y1, y2⟩ := hl.sync
  go_enter Tryz.func11, Tryz.ntmps11
  go_upto_region 1 with fail
  have hw1 : w.heap.size < (w.alloc (.cells #[.int .i64 1, .int .i64 dx, .int .i64 dn, .string ds, .int .i64 da, .int .i64 dkp, .int .i64 dt] 37)).heap.size := by simp
  generalize World.alloc w _ = w1 at *
  have hsy := ssyncp_any hx1.at_ hb (by omega)
  rw [y1] at hsy
  obtain ⟨g0, g1, g2, g3⟩ := shelf_cells hx1.head
  have c0 : w1.cell? ⟨w.heap.size, 0, none⟩ = some (.int .i64 1) := by rw [cell_of_row _ _ _ _ _ _ hbx]; rfl
  have H := Lib.hid (And.intro hsy (And.intro hx1 (And.intro hl (And.intro hb (And.intro hr y2)))))
  clear hsy hx1 hl hb hr h hbx y1 y2 hM hw1
  go_wp2_with fail
  refine H.out.1.mono ?_
  rintro e w2 ⟨rfl, ρ2, hs2, hm2⟩
  have hx2 := H.out.2.1.move hs2 hm2
  obtain ⟨-, -, g2, g3⟩ := shelf_cells hx2.head
  have f3 := shelf_free hx2.head 3
  have H2 := Lib.hid hx2
  clear hs2 hm2 hx2 g0 g1 c0
  obtain ⟨L, hL⟩ : ∃ L, L = S.recs.length := ⟨_, rfl⟩
  rw [← hL] at g2
  have HL := Lib.hid hL
  clear hL
  go_wp2_with fail
  go_ret
  have hk := H2.out.setk L
  have hbs := H.out.2.2.2.1.sync
  rw [sync_err D H.out.2.2.1.up] at hbs
  exact ⟨rfl, s, ρ2, U, _, { S with sure := S.recs.length }, a, cap, by rw [HL.out] at hk ⊢; exact hk, H.out.2.2.2.2.2.mono (by omega), hbs.mono (by omega), rfl, Nat.le_succ _⟩
set_option maxRecDepth 100000 in
set_option maxHeartbeats 2000000 in
theorem do_fail {B : Nat} {w0 w : World} {ρ : Nat → Nat} {U : Nat → Prop} {s b xb n N M : Nat} {D : Disk} {S : Stor} {a : Option Addr} {cap : Nat} (h : Sh B w0 w ρ U s b xb D S a cap) (hl : Live n N D S) (hb : Bud M D) (hN : N < 1099511620000) (hM : M ≤ 99990000) (hr : S.recs.length ≤ 900000) (dx dn : Int) (ds : ByteArray) (da dkp dt : Int) :
    Calls Tryz.prog 11 #[.pointer (some ⟨xb, 0, none⟩), .agg #[.int .i64 2, .int .i64 dx, .int .i64 dn, .string ds, .int .i64 da, .int .i64 dkp, .int .i64 dt]] w (Done B w0 b xb n N M D S.recs.length) := by
  obtain ⟨hx1, hbx⟩ := boxed h #[.int .i64 2, .int .i64 dx, .int .i64 dn, .string ds, .int .i64 da, .int .i64 dkp, .int .i64 dt]
  obtain ⟨y1, y2, y3, y4⟩ := hl.fail dx dn
  go_enter Tryz.func11, Tryz.ntmps11
  go_upto_region 1 with fail
  generalize World.alloc w _ = w1 at *
  have hfd := fun W (hbW : Below w1.heap.size w1 W) => failD_any (hx1.below hbW).at_.disk (hb.small (by omega)) dx dn
  obtain ⟨g0, -, -, -⟩ := shelf_cells hx1.head
  obtain ⟨c0, c1, c2⟩ : w1.cell? ⟨w.heap.size, 0, none⟩ = some (.int .i64 2) ∧ w1.cell? ⟨w.heap.size, 1, none⟩ = some (.int .i64 dx) ∧ w1.cell? ⟨w.heap.size, 2, none⟩ = some (.int .i64 dn) := by
    refine ⟨?_, ?_, ?_⟩ <;> (rw [cell_of_row _ _ _ _ _ _ hbx]; rfl)
  have H := Lib.hid (And.intro hfd (And.intro hx1 (And.intro hl (And.intro hb (And.intro hr (And.intro y2 (And.intro y3 (And.intro y4 (And.intro hN hM)))))))))
  clear hfd hx1 hl hb hr h hbx y1 y2 y3 y4 hM hN
  go_upto_region 18 with fail
  go_still_tail 8, (by kernel_rfl)
  change wpList _ _ _ _ _ w1.drew
  have hbd : Below w1.heap.size w1 w1.drew := (Below.refl _ _).drew
  have hx2 := H.out.2.1.below hbd
  have hfd := H.out.1 w1.drew hbd
  replace g0 : w1.drew.cell? ⟨xb, 0, none⟩ = some (.pointer (some ⟨b, 0, none⟩)) := g0
  replace c1 : w1.drew.cell? ⟨w.heap.size, 1, none⟩ = some (.int .i64 dx) := c1
  replace c2 : w1.drew.cell? ⟨w.heap.size, 2, none⟩ = some (.int .i64 dn) := c2
  have H2 := Lib.hid (And.intro hfd hx2)
  clear hfd hx2 hbd c0
  generalize w1.drew = w2 at *
  go_wp2_with fail
  refine H2.out.1.mono ?_
  rintro e w3 ⟨rfl, ρ3, hD3, ht3⟩
  have hx3 := H2.out.2.touch hD3 (TouchX.of ht3)
  have hst := stands_any hx3.left H.out.2.2.2.2.2.1 H.out.2.2.2.2.2.2.1 (by rw [H.out.2.2.2.2.2.2.2.1]; exact H.out.2.2.1.room) (by have := H.out.2.2.2.2.2.2.2.2.1; omega) (H.out.2.2.2.1.fail dx dn) (by have := H.out.2.2.2.2.2.2.2.2.2; omega) (by have := H.out.2.2.2.2.1; omega)
  have H3 := Lib.hid hst
  clear hst hx3 hD3 ht3 g0 c1 c2
  go_wp2_with fail
  refine H3.out.mono ?_
  rintro e w4 ⟨rfl, s', ρ', U', D', S', a', cap', z1, z2, z3, z4, z5⟩
  have H4 := Lib.hid (And.intro z1 (And.intro z2 (And.intro z3 (And.intro z4 z5))))
  clear z1 z2 z3 z4 z5
  go_wp2_with fail
  go_ret
  exact ⟨rfl, s', ρ', U', D', S', a', cap', H4.out.1, H4.out.2.1.mono (by omega), H4.out.2.2.1.mono (by omega), H4.out.2.2.2.1.trans H.out.2.2.2.2.2.2.2.1, Nat.le_succ_of_le H4.out.2.2.2.2⟩
set_option maxRecDepth 100000 in
set_option maxHeartbeats 2000000 in
theorem do_lay {B : Nat} {w0 w : World} {ρ : Nat → Nat} {U : Nat → Prop} {s b xb n N M : Nat} {D : Disk} {S : Stor} {a : Option Addr} {cap : Nat} (h : Sh B w0 w ρ U s b xb D S a cap) (hl : Live n N D S) (hb : Bud M D) (dx dn : Int) (ds : ByteArray) (da dkp dt : Int) (hda : da ≤ 9223372036854775807) :
    Calls Tryz.prog 11 #[.pointer (some ⟨xb, 0, none⟩), .agg #[.int .i64 3, .int .i64 dx, .int .i64 dn, .string ds, .int .i64 da, .int .i64 dkp, .int .i64 dt]] w (Done B w0 b xb n N M D S.recs.length) := by
  obtain ⟨hx1, hbx⟩ := boxed h #[.int .i64 3, .int .i64 dx, .int .i64 dn, .string ds, .int .i64 da, .int .i64 dkp, .int .i64 dt]
  go_enter Tryz.func11, Tryz.ntmps11
  go_upto_region 1 with fail
  generalize World.alloc w _ = w1 at *
  have hla := fun W (hbW : Below w1.heap.size w1 W) => lay_any (hx1.below hbW).at_.disk da dkp dt
  obtain ⟨g0, -, -, -⟩ := shelf_cells hx1.head
  obtain ⟨c0, c4, c5, c6⟩ : w1.cell? ⟨w.heap.size, 0, none⟩ = some (.int .i64 3) ∧ w1.cell? ⟨w.heap.size, 4, none⟩ = some (.int .i64 da) ∧ w1.cell? ⟨w.heap.size, 5, none⟩ = some (.int .i64 dkp) ∧ w1.cell? ⟨w.heap.size, 6, none⟩ = some (.int .i64 dt) := by
    refine ⟨?_, ?_, ?_, ?_⟩ <;> (rw [cell_of_row _ _ _ _ _ _ hbx]; rfl)
  have H := Lib.hid (And.intro hla (And.intro hx1 (And.intro hl (And.intro hb hda))))
  clear hla hx1 hl hb hda h hbx
  go_upto_region 21 with fail
  go_still_tail 6, (by kernel_rfl)
  change wpList _ _ _ _ _ w1.drew
  have hbd : Below w1.heap.size w1 w1.drew := (Below.refl _ _).drew
  have hx2 := H.out.2.1.below hbd
  have hla := H.out.1 w1.drew hbd
  replace g0 : w1.drew.cell? ⟨xb, 0, none⟩ = some (.pointer (some ⟨b, 0, none⟩)) := g0
  replace c4 : w1.drew.cell? ⟨w.heap.size, 4, none⟩ = some (.int .i64 da) := c4
  replace c5 : w1.drew.cell? ⟨w.heap.size, 5, none⟩ = some (.int .i64 dkp) := c5
  replace c6 : w1.drew.cell? ⟨w.heap.size, 6, none⟩ = some (.int .i64 dt) := c6
  have H2 := Lib.hid (And.intro hla hx2)
  clear hla hx2 hbd c0
  generalize w1.drew = w2 at *
  go_wp2_with fail
  refine H2.out.1.mono ?_
  rintro e w3 ⟨rfl, hD3, ht3⟩
  have H3 := Lib.hid (H2.out.2.touch hD3 (TouchX.of ht3))
  clear hD3 ht3 g0 c4 c5 c6
  go_wp2_with fail
  go_ret
  exact ⟨rfl, s, ρ, U, _, S, a, cap, H3.out, (H.out.2.2.1.lay da dkp dt).mono (by omega), (H.out.2.2.2.1.lay da dkp dt H.out.2.2.2.2).mono (by omega), rfl, Nat.le_succ _⟩
set_option maxRecDepth 100000 in
theorem do_none {B : Nat} {w0 w : World} {ρ : Nat → Nat} {U : Nat → Prop} {s b xb n N M : Nat} {D : Disk} {S : Stor} {a : Option Addr} {cap : Nat} (h : Sh B w0 w ρ U s b xb D S a cap) (hl : Live n N D S) (hb : Bud M D) (k : Int) (dx dn : Int) (ds : ByteArray) (da dkp dt : Int) (hk0 : ¬ k = 0) (hk1 : ¬ k = 1) (hk2 : ¬ k = 2) (hk3 : ¬ k = 3) :
    Calls Tryz.prog 11 #[.pointer (some ⟨xb, 0, none⟩), .agg #[.int .i64 k, .int .i64 dx, .int .i64 dn, .string ds, .int .i64 da, .int .i64 dkp, .int .i64 dt]] w (Done B w0 b xb n N M D S.recs.length) := by
  obtain ⟨hx1, hbx⟩ := boxed h #[.int .i64 k, .int .i64 dx, .int .i64 dn, .string ds, .int .i64 da, .int .i64 dkp, .int .i64 dt]
  have e0 : (k == 0) = false := by simpa using hk0
  have e1 : (k == 1) = false := by simpa using hk1
  have e2 : (k == 2) = false := by simpa using hk2
  have e3 : (k == 3) = false := by simpa using hk3
  clear hk0 hk1 hk2 hk3
  go_enter Tryz.func11, Tryz.ntmps11
  go_upto_region 1 with fail
  generalize World.alloc w _ = w1 at *
  have c0 : w1.cell? ⟨w.heap.size, 0, none⟩ = some (.int .i64 k) := by rw [cell_of_row _ _ _ _ _ _ hbx]; rfl
  have H := Lib.hid (And.intro hx1 (And.intro hl hb))
  clear hx1 hl hb h hbx
  go_wp2_with fail
  go_ret
  exact ⟨rfl, s, ρ, U, _, S, a, cap, H.out.1, H.out.2.1.mono (by omega), H.out.2.2.mono (by omega), rfl, Nat.le_succ _⟩
theorem sdo_any {B : Nat} {w0 w : World} {ρ : Nat → Nat} {U : Nat → Prop} {s b xb n N M : Nat} {D : Disk} {S : Stor} {a : Option Addr} {cap : Nat} (h : Sh B w0 w ρ U s b xb D S a cap) (hl : Live n N D S) (hb : Bud M D) (hN : N < 1099511620000) (hM : M ≤ 99990000) (hr : S.recs.length ≤ 900000) (d : Deed) (hd : d.Ok) :
    Calls Tryz.prog 11 #[.pointer (some ⟨xb, 0, none⟩), .agg d.cells] w (Done B w0 b xb n N M D S.recs.length) := by
  by_cases h0 : d.kind = 0
  · exact do_append h hl hb hN hM hr d hd h0
  obtain ⟨dk, dx, dn, ds, da, dkp, dt⟩ := d
  by_cases h1 : dk = 1
  · subst h1; exact do_sync h hl hb hM hr dx dn ds da dkp dt
  by_cases h2 : dk = 2
  · subst h2; exact do_fail h hl hb hN hM hr dx dn ds da dkp dt
  by_cases h3 : dk = 3
  · subst h3; exact do_lay h hl hb dx dn ds da dkp dt hd.after.2
  · exact do_none h hl hb dk dx dn ds da dkp dt h0 h1 h2 h3
end Go.Proofs.YtdmbombjkinboaaGreat
