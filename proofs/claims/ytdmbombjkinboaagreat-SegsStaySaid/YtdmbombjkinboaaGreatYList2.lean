/- segs: readList of a list that a store wrote. -/
import Derived.Test.YtdmbombjkinboaaGreatYList
namespace Go.Proofs.YtdmbombjkinboaaGreat
open Go.RowKit
open Dk Sg Fr

/-- Which lists may be on a disk of so many extents. -/
structure EntOk (n : Nat) (e : Ent) : Prop where
  one : 1 ≤ e.epoch
  epoch : e.epoch ≤ 1099511627776
  exts : ∀ x ∈ e.exts, 2 ≤ x ∧ x < n
  dup : e.exts.Nodup
  num : n ≤ 64
theorem EntOk.len {n : Nat} {e : Ent} (h : EntOk n e) (hl : e.exts.length ≤ 62) : 1 ≤ (entB e).length ∧ (entB e).length ≤ 160 :=
  ent_len e (by have := h.epoch; omega) (fun x hx => by have := h.exts x hx; have := h.num; omega) (by omega)
theorem dec_ent {n : Nat} {e : Ent} (h : EntOk n e) (hl : e.exts.length ≤ 62) : Cn.item 6 0 0 (entB e) = .ok (entP e, (entB e).length, []) := by
  have hm := may_ent e (by have := h.epoch; omega) (fun x hx => by have := h.exts x hx; have := h.num; omega) (by omega)
  have hn := h.len hl
  have := Cn.item_bytes 6 (entP e) 0 0 [] hm (by unfold entB at hn; omega)
  rw [List.append_nil] at this
  rw [show entB e = Cn.bytes (entP e) from rfl, this]
  simp
theorem decR_ent {n : Nat} {e : Ent} (h : EntOk n e) (hl : e.exts.length ≤ 62) : decR (entB e) = .ok (entP e) := by
  unfold decR
  rw [dec_ent h hl]; rfl
theorem fit_nums : ∀ l : List Nat, fitAll (l.map numP) (List.replicate l.length 110) = true
  | [] => rfl
  | x :: l => by rw [List.map_cons, List.length_cons, List.replicate_succ, fitAll, fit_nums l]; rfl
theorem shape_ent (e : Ent) : shapeP (entP e) (116 :: List.replicate (e.exts.length + 1) 110) = true := by
  show (decide ((3 : Int) = 3) && fitAll (txtP seqT :: numP e.epoch :: e.exts.map numP) (116 :: List.replicate (e.exts.length + 1) 110)) = true
  rw [List.replicate_succ, fitAll, fitAll, fit_nums]; rfl
theorem t_rep (m : Nat) : ((⟨#[116]⟩ : ByteArray) ++ ⟨(List.replicate m (110 : UInt8)).toArray⟩).data.toList = 116 :: List.replicate m 110 := by simp
/-- What a list of items that says a list is. -/
theorem ent_items {x : It} {e : Ent} (h : x.pure = entP e) : x.k = 3 ∧ x.n = 0 ∧ x.l.length = e.exts.length + 2 ∧
    (∃ z, x.l[0]? = some z ∧ z.s = seqT) ∧ (∃ z, x.l[1]? = some z ∧ z.n = (e.epoch : Int)) ∧ ∀ (j y : Nat), e.exts[j]? = some y → ∃ z, x.l[j + 2]? = some z ∧ z.n = (y : Int) := by
  rw [It.pure_eq, It.pureAll_eq] at h
  unfold entP lstP at h
  injection h with h1 h2 h3 h4
  have hl : x.l.length = e.exts.length + 2 := by have := congrArg List.length h4; simpa using this
  have key : ∀ (j : Nat) (p : Cn.Pt), (txtP seqT :: numP e.epoch :: e.exts.map numP)[j]? = some p → ∃ z : It, x.l[j]? = some z ∧ z.pure = p := fun j p hp => by
    rw [← h4, List.getElem?_map] at hp
    cases hz : x.l[j]? with
    | none => rw [hz] at hp; cases hp
    | some z => rw [hz] at hp; injection hp with hp; exact ⟨z, rfl, hp⟩
  refine ⟨h1, h2, hl, ?_, ?_, ?_⟩
  · obtain ⟨z, hz, hp⟩ := key 0 _ rfl
    rw [It.pure_eq] at hp
    unfold txtP at hp
    injection hp with _ _ hs _
    exact ⟨z, hz, hs⟩
  · obtain ⟨z, hz, hp⟩ := key 1 _ rfl
    rw [It.pure_eq] at hp
    unfold numP at hp
    injection hp with _ hs _ _
    exact ⟨z, hz, hs⟩
  · intro j y hy
    obtain ⟨z, hz, hp⟩ := key (j + 2) (numP y) (by rw [List.getElem?_cons_succ, List.getElem?_cons_succ, List.getElem?_map, hy]; rfl)
    rw [It.pure_eq] at hp
    unfold numP at hp
    injection hp with _ hs _ _
    exact ⟨z, hz, hs⟩
set_option maxRecDepth 100000 in
theorem run_two (xb xo N cap : Nat) (h : 2 ≤ N) (h2 : N ≤ 1000000) : ∃ a2 c2, (∀ W : World, (Instr.slice 113 (.slice (some ⟨xb, xo, none⟩) N cap) (some (.int .i64 2)) none none).run Tryz.prog W = .ok (.slice a2 (N - 2) c2) W) ∧ (cap ≠ 2 → a2 = some ⟨xb, xo + 8, none⟩) := by
  refine ⟨if cap = 2 then some ⟨xb, xo, none⟩ else some ⟨xb, xo + 8, none⟩, cap - 2, fun W => ?_, fun hc => if_neg hc⟩
  have e := run_slice_l (P := Tryz.prog) W 113 (some ⟨xb, xo, none⟩) N cap Tryz.underlying113 .i64 2 (by omega) (by omega)
  rw [e]
  have hs : (sizeOf (Tryz.prog.elem 113)).run Tryz.prog W = .ok 4 W := Tryz.sizeOf115 W
  rw [hs]
  have e2 : (2 : Int).toNat = 2 := rfl
  simp only [Result.andThen_ok, sliced, e2, Option.map_some, Addr.add]
  rw [if_neg (show ¬ 2 * 4 = 0 by decide)]
set_option maxRecDepth 100000 in
set_option maxHeartbeats 2000000 in
theorem readList_any (e : Ent) (n : Nat) (h : EntOk n e) (hl : e.exts.length ≤ 62) (w : World) :
    Calls Tryz.prog 75 #[.string (str (entB e)), .int .i64 (n : Int)] w fun r w' => ∃ a cap, r = .returned (.tuple #[.int .i64 (e.epoch : Int), .slice a e.exts.length cap, .bool true]) ∧
      OwnG w' a cap (e.exts.map fun x => (x, 0)) ∧ (∀ g, (Value.slice a e.exts.length cap).ownBlock = some g → w.heap.size ≤ g) ∧ Below w.heap.size w w' := by
  have hln := h.len hl
  have hdec := decode_cap (str (entB e)) (by rw [str_size]; unfold maxLen; omega) w
  rw [str_data, decR_ent h hl] at hdec
  obtain ⟨M, hM⟩ : ∃ M, M = e.exts.length := ⟨_, rfl⟩
  obtain ⟨ep, hep⟩ : ∃ ep, ep = e.epoch := ⟨_, rfl⟩
  obtain ⟨body, hbody⟩ : ∃ body, body = str (entB e) := ⟨_, rfl⟩
  rw [← hbody] at hdec ⊢
  rw [← hM, ← hep]
  have hM62 : M ≤ 62 := by omega
  have hep1 : ep ≤ 1099511627776 := by rw [hep]; exact h.epoch
  have hn64 : n ≤ 64 := h.num
  have H := Lib.hid (And.intro h (And.intro hdec (And.intro hM hep)))
  clear h hdec hM hep hln hl hbody
  go_enter Tryz.func75, Tryz.ntmps75
  go_wp2_with fail
  refine H.out.2.1.mono ?_
  rintro r w2 ⟨hb2, it, hp, rfl, hin, hcp⟩
  obtain ⟨i1, i2, i3, i4, i5, i6⟩ := ent_items hp
  rw [← H.out.2.2.1] at i3
  have hsh := fun W (hb : Below w2.heap.size w2 W) => shape_any (w.heap.size ≤ ·) it (⟨#[116]⟩ ++ ⟨(List.replicate (M + 1) (110 : UInt8)).toArray⟩) W (It.In.kept (keptS_any hb) it hin)
  rw [hp, t_rep, H.out.2.2.1, shape_ent] at hsh
  rw [← H.out.2.2.1] at hsh
  have hrp := fun W => repeat_any 110 (M + 1) (by omega) W
  obtain ⟨rS, hrS⟩ : ∃ rS : ByteArray, rS = ⟨(List.replicate (M + 1) (110 : UInt8)).toArray⟩ := ⟨_, rfl⟩
  have hrz : rS.size ≤ 100 := by rw [hrS]; show (List.replicate (M + 1) (110 : UInt8)).toArray.size ≤ 100; simp; omega
  rw [← hrS] at hsh hrp
  clear hrS
  rw [It.in_eq] at hin
  obtain ⟨xk, xn, xs, xa, xc, xl⟩ := it
  simp only [It.k, It.n, It.l, It.s, It.a, It.cap] at i1 i2 i3 i4 i5 i6 hin hcp
  subst i1 i2
  obtain ⟨N, hN⟩ : ∃ N, N = xl.length := ⟨_, rfl⟩
  simp only [It.val, It.cells, It.k, It.n, It.s, It.a, It.cap, It.l] at hsh ⊢
  rw [← hN] at hsh i3 ⊢
  have hin2 := hin.2.1
  have H2 := Lib.hid (And.intro hb2 (And.intro hin2 (And.intro i4 (And.intro i5 (And.intro i6 (And.intro hN hcp))))))
  clear hb2 hin hin2 i4 i5 i6 hN hp hcp
  subst i3
  go_upto_region 2 with fail
  have hbx : Below w2.heap.size w2 (w2.alloc (.cells #[.int .i64 3, .int .i64 0, .string xs, .slice xa (M + 2) xc] 115)) := (Below.refl _ _).alloc (Nat.le_refl _) _
  have hxx := heap_alloc_new w2 (.cells #[.int .i64 3, .int .i64 0, .string xs, .slice xa (M + 2) xc] 115)
  generalize World.alloc w2 _ = w3 at *
  obtain ⟨gx, hgxe⟩ : ∃ gx, gx = w2.heap.size := ⟨_, rfl⟩
  rw [← hgxe] at hxx ⊢
  have hgx : gx < w3.heap.size := (Array.getElem?_eq_some_iff.1 hxx).1
  obtain ⟨x0, x1, x2, x3⟩ : w3.cell? ⟨gx, 0, none⟩ = some (.int .i64 3) ∧ w3.cell? ⟨gx, 1, none⟩ = some (.int .i64 0) ∧ w3.cell? ⟨gx, 2, none⟩ = some (.string xs) ∧ w3.cell? ⟨gx, 3, none⟩ = some (.slice xa (M + 2) xc) := by
    refine ⟨?_, ?_, ?_, ?_⟩ <;> (rw [cell_of_row _ _ _ _ _ _ hxx]; rfl)
  obtain ⟨N, hN⟩ : ∃ N, N = M + 2 := ⟨_, rfl⟩
  rw [← hN] at x3 hxx hsh ⊢
  have hN1 : IntKind.i64.wrap ((N : Int) - 1) = ((M + 1 : Nat) : Int) := by rw [hN]; exact (IntWalk.i64_in _ (by omega)).trans (by omega)
  have hN2 : (2 : Int) ≤ (N : Int) := by omega
  have H3 := Lib.hid (And.intro (And.intro hbx hxx) (And.intro hrp (fun W (hb : Below w3.heap.size w3 W) => hsh W (hbx.trans (hb.mono hbx.size)))))
  have HN := Lib.hid (And.intro hN hgxe)
  have hN3 : N ≤ 64 := by omega
  have hN2d : decide ((N : Int) < 2) = false := decide_eq_false (by omega)
  obtain ⟨M1, hM1⟩ : ∃ M1, M1 = M + 1 := ⟨_, rfl⟩
  rw [← hM1] at hN1 H3
  have HM1 := Lib.hid hM1
  clear hbx hxx hrp hsh hgxe hN hM1
  have C : Below w3.heap.size w3 w3.drew := (Below.refl _ _).drew
  refine wp_region_held (S := fun W => Below w3.heap.size w3 W) (by kernel_rfl) ?_
  change wpAnyH _ _ _ _ _ _ _ _ (World.drew _)
  generalize World.drew _ = wh at *
  refine wpAnyH_take (i := 0) (v := ?_) rfl (by kernel_rfl) (by kernel_rfl) (by kernel_rfl) (fun _ _ _ h => h) (Or.inl ⟨by kernel_rfl, ?_⟩) C ?_
  rotate_left
  · (intro W hS; clear hS; go_simp; try (with_reducible rfl))
  refine wpAnyH_take (i := 1) (v := ?_) rfl (by kernel_rfl) (by kernel_rfl) (by kernel_rfl) (fun _ _ _ h => h) (Or.inl ⟨by kernel_rfl, ?_⟩) C ?_
  rotate_left
  · (intro W hS; clear hS; go_simp; try (with_reducible rfl))
  refine wpAnyH_take (i := 2) (v := ?_) rfl (by kernel_rfl) (by kernel_rfl) (by kernel_rfl) (fun _ _ _ h => h) (Or.inl ⟨by kernel_rfl, ?_⟩) C ?_
  rotate_left
  · (intro W hS; clear hS; go_simp; try (with_reducible rfl))
  refine wpAnyH_take (i := 3) (v := ?_) rfl (by kernel_rfl) (by kernel_rfl) (by kernel_rfl) (fun _ _ _ h => h) (Or.inl ⟨by kernel_rfl, ?_⟩) C ?_
  rotate_left
  · (intro W hS; clear hS; go_simp; try (with_reducible rfl))
  refine wpAnyH_take (i := 4) (v := .slice xa N xc) rfl (by kernel_rfl) (by kernel_rfl) (by kernel_rfl) (fun _ _ _ h => h) (Or.inl ⟨by kernel_rfl, ?_⟩) C ?_
  · (intro W hS; have hx3 : W.cell? ⟨gx, 3, none⟩ = some (.slice xa N xc) := (hS.cell (p := ⟨gx, 3, none⟩) hgx).trans x3; clear hS; go_simp; first | done | (with_reducible rfl) | simp)
  refine wpAnyH_take (i := 5) (v := ?_) rfl (by kernel_rfl) (by kernel_rfl) (by kernel_rfl) (fun _ _ _ h => h) (Or.inl ⟨by kernel_rfl, ?_⟩) C ?_
  rotate_left
  · (intro W hS; clear hS; go_simp; try (with_reducible rfl))
  refine wpAnyH_take (i := 6) (v := ?_) rfl (by kernel_rfl) (by kernel_rfl) (by kernel_rfl) (fun _ _ _ h => h) (Or.inl ⟨by kernel_rfl, ?_⟩) C ?_
  rotate_left
  · (intro W hS; clear hS; go_simp; try (with_reducible rfl))
  refine wpAnyH_take (i := 7) (v := ?_) rfl (by kernel_rfl) (by kernel_rfl) (by kernel_rfl) (fun _ _ _ h => h) (Or.inl ⟨by kernel_rfl, ?_⟩) C ?_
  rotate_left
  · (intro W hS; clear hS; go_simp; try (with_reducible rfl))
  refine wpAnyH_take (i := 8) (v := ?_) rfl (by kernel_rfl) (by kernel_rfl) (by kernel_rfl) (fun _ _ _ h => h) (Or.inl ⟨by kernel_rfl, ?_⟩) C ?_
  rotate_left
  · (intro W hS; clear hS; go_simp; try (with_reducible rfl))
  refine wpAnyH_take (i := 9) (v := .agg #[.int .i64 3, .int .i64 0, .string xs, .slice xa N xc]) rfl (by kernel_rfl) (by kernel_rfl) (by kernel_rfl) (fun _ _ _ h => h) (Or.inl ⟨by kernel_rfl, ?_⟩) C ?_
  · (intro W hS; have hx0 : W.cell? ⟨gx, 0, none⟩ = some (.int .i64 3) := (hS.cell (p := ⟨gx, 0, none⟩) hgx).trans x0; have hx1 : W.cell? ⟨gx, 1, none⟩ = some (.int .i64 0) := (hS.cell (p := ⟨gx, 1, none⟩) hgx).trans x1; have hx2 : W.cell? ⟨gx, 2, none⟩ = some (.string xs) := (hS.cell (p := ⟨gx, 2, none⟩) hgx).trans x2; have hx3 : W.cell? ⟨gx, 3, none⟩ = some (.slice xa N xc) := (hS.cell (p := ⟨gx, 3, none⟩) hgx).trans x3; clear hS; go_simp; first | done | (with_reducible rfl) | simp)
  refine wpAnyH_take (i := 10) (v := ?_) rfl (by kernel_rfl) (by kernel_rfl) (by kernel_rfl) (fun _ _ _ h => h) (Or.inl ⟨by kernel_rfl, ?_⟩) C ?_
  rotate_left
  · (intro W hS; clear hS; go_simp; try (with_reducible rfl))
  refine wpAnyH_take (i := 11) (v := .slice xa N xc) rfl (by kernel_rfl) (by kernel_rfl) (by kernel_rfl) (fun _ _ _ h => h) (Or.inl ⟨by kernel_rfl, ?_⟩) C ?_
  · (intro W hS; have hx3 : W.cell? ⟨gx, 3, none⟩ = some (.slice xa N xc) := (hS.cell (p := ⟨gx, 3, none⟩) hgx).trans x3; clear hS; go_simp; first | done | (with_reducible rfl) | simp)
  refine wpAnyH_take (i := 12) (v := ?_) rfl (by kernel_rfl) (by kernel_rfl) (by kernel_rfl) (fun _ _ _ h => h) (Or.inl ⟨by kernel_rfl, ?_⟩) C ?_
  rotate_left
  · (intro W hS; clear hS; go_simp; try (with_reducible rfl))
  refine wpAnyH_take (i := 13) (v := ?_) rfl (by kernel_rfl) (by kernel_rfl) (by kernel_rfl) (fun _ _ _ h => h) (Or.inl ⟨by kernel_rfl, ?_⟩) C ?_
  rotate_left
  · (intro W hS; clear hS; go_simp; try (with_reducible rfl))
  refine wpAnyH_ready (rs := [14]) (by kernel_rfl) (by simp) ?_
  refine AllReadyH.cons rfl (fun K hK => ?_) AllReadyH.nil
  go_simp
  refine (H3.out.2.1 _).mono ?_
  rintro e w4 ⟨rfl, hb⟩
  have C := C.trans (hb.mono C.size)
  refine hK.out _ _ C (fun _ => ?_)
  clear hK K hb
  refine wpAnyH_take (i := 15) (v := .string (⟨#[116]⟩ ++ rS)) rfl (by kernel_rfl) (by kernel_rfl) (by kernel_rfl) (fun _ _ _ h => h) (Or.inl ⟨by kernel_rfl, ?_⟩) C ?_
  · (intro W hS; clear hS; go_simp; omega)
  refine wpAnyH_ready (rs := [16]) (by kernel_rfl) (by simp) ?_
  refine AllReadyH.cons rfl (fun K hK => ?_) AllReadyH.nil
  go_simp
  refine (H3.out.2.2 _ C).mono ?_
  rintro e w5 ⟨rfl, hb⟩
  have C := C.trans (hb.mono C.size)
  refine hK.out _ _ C (fun _ => ?_)
  clear hK K hb
  refine wpAnyH_take (i := 17) (v := ?_) rfl (by kernel_rfl) (by kernel_rfl) (by kernel_rfl) (fun _ _ _ h => h) (Or.inl ⟨by kernel_rfl, ?_⟩) C ?_
  rotate_left
  · (intro W hS; clear hS; go_simp; try (with_reducible rfl))
  refine wpAnyH_take (i := 18) (v := ?_) rfl (by kernel_rfl) (by kernel_rfl) (by kernel_rfl) (fun _ _ _ h => h) (Or.inl ⟨by kernel_rfl, ?_⟩) C ?_
  rotate_left
  · (intro W hS; clear hS; go_simp; try (with_reducible rfl))
  refine wpAnyH_done (by kernel_rfl) ?_ _
  go_simp
  obtain ⟨z0, hz0, hz0s⟩ := H2.out.2.2.1
  obtain ⟨z1, hz1, hz1n⟩ := H2.out.2.2.2.1
  have hx5 : Below w2.heap.size w2 w5 := H3.out.1.1.trans (C.mono H3.out.1.1.size)
  have hls5 := H2.out.2.1.kept (keptS_any hx5)
  have hxl : xl.length = M + 2 := H2.out.2.2.2.2.2.1.symm
  obtain ⟨xb, xo, hxa, hxb, hxS, hrow⟩ := hls5.2 (fun e => by rw [e] at hxl; simp at hxl)
  subst hxa
  have d0 : w5.cell? ⟨xb, xo + 2, none⟩ = some (.string ⟨#[115, 101, 113]⟩) := by
    have := (hrow 0 z0 hz0).2.2.1
    rw [show z0.s = seqT from hz0s] at this
    simpa [seqT] using this
  have d1 : w5.cell? ⟨xb, xo + 4 + 1, none⟩ = some (.int .i64 (ep : Int)) := by
    have := (hrow 1 z1 hz1).2.1
    rw [show z1.n = (e.epoch : Int) from hz1n, ← H.out.2.2.2] at this
    simpa using this
  have hx5b := C.block _ hgx
  obtain ⟨x0', x1', x2', x3'⟩ : w5.cell? ⟨gx, 0, none⟩ = some (.int .i64 3) ∧ w5.cell? ⟨gx, 1, none⟩ = some (.int .i64 0) ∧ w5.cell? ⟨gx, 2, none⟩ = some (.string xs) ∧ w5.cell? ⟨gx, 3, none⟩ = some (.slice (some ⟨xb, xo, none⟩) N xc) := by
    refine ⟨?_, ?_, ?_, ?_⟩ <;> (rw [World.cell?, hx5b]; first | exact x0 | exact x1 | exact x2 | exact x3)
  have hxc : N ≤ xc := by have := H2.out.2.2.2.2.2.2; have := HN.out.1; omega
  have H5 := Lib.hid (And.intro hx5 (And.intro hls5 (And.intro hxl (And.intro hrow (And.intro hxb (And.intro hxS (And.intro C hxc)))))))
  clear hz0 hz0s hz1 hz1n hx5 hls5 hxl hrow C x0 x1 x2 x3 hx5b hxb hxS hrz
  obtain ⟨a2, c2, htl, ha2⟩ := run_two xb xo N xc (by have := HN.out.1; omega) (by omega)
  have hNM : N - 2 = M := by have := HN.out.1; omega
  have hep2 : (ep : Int) ≤ 1099511627776 := by omega
  have hep3 : decide ((1099511627776 : Int) < (ep : Int)) = false := decide_eq_false (by omega)
  rw [hNM] at htl
  have HA2 := Lib.hid ha2
  clear ha2 hNM
  go_wp2_with fail
  clear d0 d1 x0' x1' x2' x3' htl
  go_loopw [54, 5, 10, 11] (fun iv sv _ _ wr => ∃ i : Nat, i ≤ M ∧ iv = .int .i64 i ∧ ∃ ga gc, sv = .slice ga i gc ∧ OwnG wr ga gc ((e.exts.take i).map fun x => (x, 0)) ∧ (∀ g, (Value.slice ga i gc).ownBlock = some g → w5.heap.size ≤ g) ∧ Below w5.heap.size w5 wr) (fun iv _ _ _ _ => M - (intOf iv).toNat)
  case atStart => exact ⟨0, by omega, rfl, none, 0, rfl, World.ownsRow_nil _ _ _ _, fun g hg => by simp [Value.ownBlock] at hg, Below.refl _ _⟩
  case round =>
    obtain ⟨i, hi, rfl, ga, gc, rfl, hog, hgb, hb⟩ := hrel
    have HR := Lib.hid (And.intro hog (And.intro hgb hb))
    clear hog hgb hb
    by_cases hlt : i < M
    · obtain ⟨y, hy⟩ : ∃ y, e.exts[i]? = some y := ⟨_, List.getElem?_eq_getElem (by have := H.out.2.2.1; omega)⟩
      obtain ⟨z, hz, hzn⟩ := H2.out.2.2.2.2.1 i y hy
      have hrz := (H5.out.2.2.2.1.same (HR.out.2.2.block _ H5.out.2.2.2.2.1)) (i + 2) z hz
      have ha2 := HA2.out (by have := H5.out.2.2.2.2.2.2.2; have := HN.out.1; omega)
      subst ha2
      obtain ⟨c0, c1, c2', c3⟩ := hrz
      rw [show z.n = (y : Int) from hzn] at c1
      obtain ⟨zk, zn, zs, za, zc, zl⟩ := z
      simp only [It.k, It.s, It.a, It.cap, It.l] at c0 c1 c2' c3
      rw [show xo + (i + 2) * 4 = xo + 8 + i * 4 by omega] at c0 c1 c2' c3
      obtain ⟨yy, hyy⟩ : ∃ yy, yy = y := ⟨_, rfl⟩
      have hye := H.out.1.exts y (List.mem_of_getElem? hy)
      have hin : ((y, 0) : Nat × Nat) ∉ (e.exts.take i).map (fun x => (x, 0)) := fun hm => by
        obtain ⟨x, hx, hxy⟩ := List.mem_map.1 hm
        injection hxy with hxy _
        subst hxy
        obtain ⟨j, hj⟩ := List.mem_iff_getElem?.1 hx
        have hji : j < i := by have := (List.getElem?_eq_some_iff.1 hj).1; rw [List.length_take] at this; omega
        rw [List.getElem?_take_of_lt hji] at hj
        have h1 := (List.getElem?_eq_some_iff.1 hj)
        have h2 := (List.getElem?_eq_some_iff.1 hy)
        exact (List.pairwise_iff_getElem.1 H.out.1.dup) j i h1.1 h2.1 hji (by rw [h1.2, h2.2])
      have hin' := decide_eq_false hin
      have hlm : ((e.exts.take i).map fun x => ((x, 0) : Nat × Nat)).length = i := by rw [List.length_map, List.length_take]; have := H.out.2.2.1; omega
      have hcs := fun W (hb : Below wr.heap.size wr W) => containsSeg_any _ ga gc y 0 W (HR.out.1.call hb)
      rw [hlm, hin'] at hcs
      have y3 : y < n := hye.2
      have y4 : 2 ≤ y := hye.1
      have y1 : decide ((y : Int) < 2) = false := decide_eq_false (by omega)
      have y2 : decide ((n : Int) ≤ (y : Int)) = false := decide_eq_false (by omega)
      have HX := Lib.hid (And.intro hy (And.intro hcs (And.intro hlm hye)))
      clear hy hcs hlm hin hin' hyy yy hz hzn hye
      have hba : Below wr.heap.size wr ((wr.alloc (.cells #[.int .i64 zk, .int .i64 (y : Int), .string zs, .slice za zl.length zc] 115)).alloc (.cells #[.int .i64 (y : Int), .int .i64 0] 86)) := ((Below.refl _ _).alloc (Nat.le_refl _) _).alloc (by simp) _
      have hgx2 := heap_alloc_new (wr.alloc (.cells #[.int .i64 zk, .int .i64 (y : Int), .string zs, .slice za zl.length zc] 115)) (.cells #[.int .i64 (y : Int), .int .i64 0] 86)
      obtain ⟨gb, hgb⟩ : ∃ gb, gb = (wr.alloc (.cells #[.int .i64 zk, .int .i64 (y : Int), .string zs, .slice za zl.length zc] 115)).heap.size := ⟨_, rfl⟩
      rw [← hgb] at hgx2
      have hgbe : gb = wr.heap.size + 1 := by rw [hgb]; simp
      subst hgbe
      have HBA := Lib.hid (And.intro hba hgx2)
      clear hba hgx2 hgb
      go_wp2_with fail
      refine (HX.out.2.1 _ HBA.out.1).mono ?_
      rintro r w7 ⟨rfl, hb7⟩
      have hb77 := HBA.out.1.trans (hb7.mono HBA.out.1.size)
      have hg7 := (hb7.block _ (Array.getElem?_eq_some_iff.1 HBA.out.2).1).trans HBA.out.2
      obtain ⟨k0, k1⟩ : w7.cell? ⟨wr.heap.size + 1, 0, none⟩ = some (.int .i64 (y : Int)) ∧ w7.cell? ⟨wr.heap.size + 1, 1, none⟩ = some (.int .i64 0) := by constructor <;> (rw [cell_of_row _ _ _ _ _ _ hg7]; rfl)
      have HB7 := Lib.hid (And.intro hb77 (HR.out.1.call hb77))
      clear hb7 hb77 hg7 c0 c1 c2' c3
      go_wp2_with (at_builtin; (refine wpList_append_seg rfl (.tmp 75) (.tmp 77) rfl (HB7.out.2.call ((Below.refl _ _).alloc (Nat.le_refl _) _)) i HX.out.2.2.1 rfl w7.heap.size 1 (y, 0) rfl (heap_alloc_new w7 _) (by omega) ?_; intro g8 cap8 w8 ho8 hg8 hb8; have HA := Lib.hid (And.intro ho8 (And.intro hg8 hb8)); clear ho8 hg8 hb8))
      go_roundw
      case rel =>
        refine ⟨i + 1, by omega, by go_num, _, _, rfl, ?_, ?_, ?_⟩
        · rw [List.take_add_one, HX.out.1, List.map_append]
          exact HA.out.1
        · intro g hg
          have hg' : g8 = g := by simpa [Value.ownBlock] using hg
          subst hg'
          rcases HA.out.2.2 with e | e
          · exact HR.out.2.1 g8 (by rw [← HX.out.2.2.1]; exact e)
          · have h1 := H5.out.1.size
            have h2 := HR.out.2.2.size
            have h3 := HB7.out.1.size
            have h4 := H2.out.1.size
            have : (w7.alloc (.cells #[.int .i64 (y : Int), .int .i64 0] 86)).heap.size = w7.heap.size + 1 := by simp
            omega
        · refine (HR.out.2.2.trans (HB7.out.1.mono HR.out.2.2.size)).alloc (Nat.le_trans HR.out.2.2.size HB7.out.1.size) _ |>.grown HA.out.2.1 ?_ ?_
          · have h2 := HR.out.2.2.size
            have h3 := HB7.out.1.size
            simp; omega
          · intro k hk
            exact HR.out.2.1 k (by rw [← HX.out.2.2.1]; exact hk)
      case measure => simp [intOf]; omega
    · obtain rfl : i = M := by omega
      have hgxr := ((HR.out.2.2.block gx (Nat.lt_of_lt_of_le hgx H5.out.2.2.2.2.2.2.1.size)).trans (H5.out.2.2.2.2.2.2.1.block gx hgx)).trans H3.out.1.2
      have x3 : wr.cell? ⟨gx, 3, none⟩ = some (.slice (some ⟨xb, xo, none⟩) N xc) := by rw [cell_of_row _ _ _ _ _ _ hgxr]; rfl
      obtain ⟨z1, hz1, hz1n⟩ := H2.out.2.2.2.1
      have d1 : wr.cell? ⟨xb, xo + 4 + 1, none⟩ = some (.int .i64 (ep : Int)) := by
        have := ((H5.out.2.2.2.1.same (HR.out.2.2.block _ H5.out.2.2.2.2.1)) 1 z1 hz1).2.1
        rw [show z1.n = (e.epoch : Int) from hz1n, ← H.out.2.2.2] at this
        simpa using this
      clear hz1 hz1n hgxr
      go_wp2_with fail
      refine bodyPost_ret (v := .tuple #[.int .i64 (ep : Int), .slice ga i gc, .bool true]) (by simp [results, Tryz.results75, go_sem]) rfl ?_
      have h1 := HR.out.1
      rw [H.out.2.2.1, List.take_length] at h1
      exact ⟨ga, gc, rfl, h1, fun g hg => Nat.le_trans (Nat.le_trans H2.out.1.size H5.out.1.size) (HR.out.2.1 g hg), (H2.out.1.trans (H5.out.1.mono H2.out.1.size)).trans (HR.out.2.2.mono (Nat.le_trans H2.out.1.size H5.out.1.size))⟩
end Go.Proofs.YtdmbombjkinboaaGreat
