/- IxSu, what is wanted of it. -/
import Derived.Test.YtdfkpjmljaanpaaGreatDoorZIxCl
import Derived.Test.YtdfkpjmljaanpaaGreatDoorZMX9
import Derived.Test.YtdfkpjmljaanpaaGreatDoorZIxShow
namespace Go.Proofs.YtdfkpjmljaanpaaGreatDoor
open Go.RowKit
open Cn
/-- The texts; none, if the row leads nowhere. -/
def suI (n : Int) (s : Ix.Sh) : List ByteArray := match Ix.clI n s.pl (Tr.leaf (Ix.rwS s.row)) s.way with
  | none => []
  | some x => Tr.leafT (Ix.rwS s.row) :: (x.2.1 ++ [Ix.topS n x.1])
theorem clI_in {n i : Int} {d : ByteArray} {ws : List ByteArray} {x : ByteArray × List ByteArray × List ByteArray} (h : Ix.clI n i d ws = some x) (hd : d.size = 32) : 1 ≤ n ∧ n ≤ 4096 ∧ x.1.size = 32 ∧ x.2.1.length = ws.length := by
  unfold Ix.clI at h
  by_cases hb : 1 ≤ n ∧ n ≤ 4096 ∧ 0 ≤ i ∧ i < n ∧ Ix.digB ws = true
  · rw [if_pos hb] at h
    exact ⟨hb.1, hb.2.1, Ix.climb_32 _ _ _ _ _ hd h, (Tr.climb_len _ _ _ _ _ h).1⟩
  · rw [if_neg hb] at h; cases h
set_option maxRecDepth 100000 in
set_option maxHeartbeats 20000000 in
theorem isummed_any (n : Int) (s : Ix.Sh) (wa : Option Addr) (wc : Nat) (hok : Ix.rwOk s.row) (hws : s.way.length ≤ 100000) (hcap : s.way.length ≤ wc) (hmax : wc ≤ maxLen) (w : World) (hG : Glob w) (hT : TextsAt w wa s.way) :
    Calls Tryz.prog 137 #[.int .i64 n, .agg (shCs (s, wa, wc))] w fun e w' => ∃ a c, e = .returned (.slice a (suI n s).length c) ∧ OwnT w.heap.size w' a c (suI n s) ∧ Below w.heap.size w w' := by
  obtain ⟨w1, hw1⟩ : ∃ w1, w1 = w.alloc (.cells (shCs (s, wa, wc)) 131) := ⟨_, rfl⟩
  have hb1 : Below w.heap.size w w1 := by rw [hw1]; exact (Below.refl _ _).alloc (Nat.le_refl _) _
  have hg1 : w1.heap[w.heap.size]? = some (.cells (shCs (s, wa, wc)) 131 (0, 0)) := by rw [hw1]; exact heap_alloc_new _ _
  have hl32 : (Tr.leaf (Ix.rwS s.row)).size = 32 := Tr.sumE_size _
  have hrt := fun W => rowText_any s.row hok W
  have hlf := fun (W : World) (hb : Below w.heap.size w W) => leaf_any (Ix.rwS s.row) (Nat.le_trans (rwS_small hok) (by decide)) W (hG.below hb)
  have hcl := fun (W : World) (hb : Below w.heap.size w W) => climbX_any n s.pl (Tr.leaf (Ix.rwS s.row)) (by rw [hl32]; decide) s.way (by omega) wa wc hcap hmax W (hG.below hb) (hT.below hb)
  have htx := fun (W : World) (a : Option Addr) (c : Nat) (hb : Below w.heap.size w W) (h : TextsAt W a [Ix.rwS s.row]) => texts_any [Ix.rwS s.row] a c W (hG.below hb) h (by simp) (fun j hj => by
    obtain rfl : j = 0 := by simpa using hj
    exact Nat.le_trans (rwS_small hok) (by decide))
  rw [show [Ix.rwS s.row].map Tr.leafT ++ Tr.sumT ([Ix.rwS s.row].map Tr.leaf) = [Tr.leafT (Ix.rwS s.row)] from by rw [Tr.sumT_one (by simp)]; rfl] at htx
  have hcx := clX_of n s.pl (Tr.leaf (Ix.rwS s.row)) hl32 s.way
  have hcin := fun x (h : Ix.clI n s.pl (Tr.leaf (Ix.rwS s.row)) s.way = some x) => clI_in h hl32
  have htop := fun (t : ByteArray) (h0 : 1 ≤ n) (h1 : n ≤ 4096) (ht : t.size = 32) W => rootText_any n t (by omega) (by omega) (by omega) W
  obtain ⟨Z, hZ⟩ : ∃ Z, Z = suI n s := ⟨_, rfl⟩
  rw [← hZ]
  unfold suI at hZ
  obtain ⟨D, hD⟩ : ∃ D, D = Tr.leaf (Ix.rwS s.row) := ⟨_, rfl⟩
  obtain ⟨LT, hLT⟩ : ∃ LT, LT = Tr.leafT (Ix.rwS s.row) := ⟨_, rfl⟩
  obtain ⟨RS, hRS⟩ : ∃ RS, RS = Ix.rwS s.row := ⟨_, rfl⟩
  obtain ⟨CX, hCX⟩ : ∃ CX, CX = clX n s.pl (Tr.leaf (Ix.rwS s.row)) s.way := ⟨_, rfl⟩
  rw [← hCX] at hcl hcx
  rw [← hD] at hlf hcl hcx hZ hcin
  rw [← hLT] at htx hZ
  rw [← hRS] at hrt hlf htx
  obtain ⟨CL, hCL⟩ : ∃ CL, CL = Ix.clI n s.pl D s.way := ⟨_, rfl⟩
  rw [← hCL] at hcx hZ hcin
  obtain ⟨nw, hnw⟩ : ∃ nw, nw = s.way.length := ⟨_, rfl⟩
  have hcs : shCs (s, wa, wc) = #[.int .i64 s.pl, .string s.row.tag, .int .i64 s.row.cnt, .int .i64 s.row.last, .slice wa nw wc] := by rw [hnw]; rfl
  rw [← hnw] at hcl hcin hws
  obtain ⟨⟨c0, c1, c2⟩, hlen⟩ : ∃ c : ByteArray × List ByteArray × Int, c = CX := ⟨_, rfl⟩
  subst hlen
  simp only at hcl
  obtain ⟨x0, hx0⟩ : ∃ x, x = s.pl := ⟨_, rfl⟩
  obtain ⟨x1, hx1⟩ : ∃ x, x = s.row.tag := ⟨_, rfl⟩
  obtain ⟨x2, hx2⟩ : ∃ x, x = s.row.cnt := ⟨_, rfl⟩
  obtain ⟨x3, hx3⟩ : ∃ x, x = s.row.last := ⟨_, rfl⟩
  have hrc : rwCs s.row = #[.string x1, .int .i64 x2, .int .i64 x3] := by rw [hx1, hx2, hx3]; rfl
  rw [hrc] at hrt
  rw [← hx0, ← hx1, ← hx2, ← hx3] at hcs
  rw [← hx0] at hcl
  rw [hcs] at hw1 hg1 ⊢
  have H := Lib.hid (And.intro hb1 (And.intro hg1 (And.intro hrt (And.intro hlf (And.intro hcl (And.intro htx (And.intro hcx (And.intro hcin (And.intro htop (And.intro hZ hws))))))))))
  have k1 : w1.cell? ⟨w.heap.size, 1, none⟩ = some (.string x1) := by rw [cell_of_row _ _ _ _ _ _ hg1]; rfl
  have k2 : w1.cell? ⟨w.heap.size, 2, none⟩ = some (.int .i64 x2) := by rw [cell_of_row _ _ _ _ _ _ hg1]; rfl
  have k3 : w1.cell? ⟨w.heap.size, 3, none⟩ = some (.int .i64 x3) := by rw [cell_of_row _ _ _ _ _ _ hg1]; rfl
  clear hb1 hg1 hrt hlf hcl htx hcx hcin htop hZ hws hG hT hok hcap hmax hl32 hD hLT hRS hCX hCL hnw hcs hx0 hx1 hx2 hx3 hrc
  go_enter Tryz.func137, Tryz.ntmps137
  go_upto_region 1 with fail
  rw [← hw1]
  clear hw1
  go_wp2_with fail
  refine (H.out.2.2.1 _).mono ?_
  rintro e w2 ⟨rfl, hb2⟩
  have H2 := Lib.hid (And.intro (bcall H.out.1 hb2 H.out.1.size) ((hb2.block _ (lt_of_heap H.out.2.1)).trans H.out.2.1))
  clear hb2 k1 k2 k3
  go_upto_region 4 with fail
  go_wp2_with fail
  refine wp_region_held (S := fun W : World => W.heap[w.heap.size]? = some (.cells #[.int .i64 x0, .string x1, .int .i64 x2, .int .i64 x3, .slice wa nw wc] 131 (0, 0))) (by kernel_rfl) ?_
  change wpAnyH _ _ _ _ _ _ _ _ (World.drew _)
  generalize hv0 : World.drew _ = v0
  have E0 : v0.heap[w.heap.size]? = some (.cells #[.int .i64 x0, .string x1, .int .i64 x2, .int .i64 x3, .slice wa nw wc] 131 (0, 0)) := by rw [← hv0]; exact (show w2.drew.heap[w.heap.size]? = _ from H2.out.2)
  have F0 : Below w.heap.size w v0 := by rw [← hv0]; exact H2.out.1.drew
  clear hv0
  refine wpAnyH_take (i := 0) (v := ?_) rfl (by kernel_rfl) (by kernel_rfl) (by kernel_rfl) (fun _ _ _ h => h) (Or.inl ⟨by kernel_rfl, ?_⟩) E0 ?_
  rotate_left
  · (intro W hS; have q0 : W.cell? ⟨w.heap.size, 0, none⟩ = some (.int .i64 x0) := (by rw [cell_of_row _ _ _ _ _ _ hS]; rfl); have q4 : W.cell? ⟨w.heap.size, 4, none⟩ = some (.slice wa nw wc) := (by rw [cell_of_row _ _ _ _ _ _ hS]; rfl); go_simp; try (with_reducible rfl))
  refine wpAnyH_take (i := 1) (v := ?_) rfl (by kernel_rfl) (by kernel_rfl) (by kernel_rfl) (fun _ _ _ h => h) (Or.inl ⟨by kernel_rfl, ?_⟩) E0 ?_
  rotate_left
  · (intro W hS; have q0 : W.cell? ⟨w.heap.size, 0, none⟩ = some (.int .i64 x0) := (by rw [cell_of_row _ _ _ _ _ _ hS]; rfl); have q4 : W.cell? ⟨w.heap.size, 4, none⟩ = some (.slice wa nw wc) := (by rw [cell_of_row _ _ _ _ _ _ hS]; rfl); go_simp; try (with_reducible rfl))
  refine wpAnyH_take (i := 2) (v := ?_) rfl (by kernel_rfl) (by kernel_rfl) (by kernel_rfl) (fun _ _ _ h => h) (Or.inl ⟨by kernel_rfl, ?_⟩) E0 ?_
  rotate_left
  · (intro W hS; have q0 : W.cell? ⟨w.heap.size, 0, none⟩ = some (.int .i64 x0) := (by rw [cell_of_row _ _ _ _ _ _ hS]; rfl); have q4 : W.cell? ⟨w.heap.size, 4, none⟩ = some (.slice wa nw wc) := (by rw [cell_of_row _ _ _ _ _ _ hS]; rfl); go_simp; try (with_reducible rfl))
  refine wpAnyH_take (i := 3) (v := ?_) rfl (by kernel_rfl) (by kernel_rfl) (by kernel_rfl) (fun _ _ _ h => h) (Or.inl ⟨by kernel_rfl, ?_⟩) E0 ?_
  rotate_left
  · (intro W hS; have q0 : W.cell? ⟨w.heap.size, 0, none⟩ = some (.int .i64 x0) := (by rw [cell_of_row _ _ _ _ _ _ hS]; rfl); have q4 : W.cell? ⟨w.heap.size, 4, none⟩ = some (.slice wa nw wc) := (by rw [cell_of_row _ _ _ _ _ _ hS]; rfl); go_simp; try (with_reducible rfl))
  refine wpAnyH_take (i := 5) (v := ?_) rfl (by kernel_rfl) (by kernel_rfl) (by kernel_rfl) (fun _ _ _ h => h) (Or.inl ⟨by kernel_rfl, ?_⟩) E0 ?_
  rotate_left
  · (intro W hS; have q0 : W.cell? ⟨w.heap.size, 0, none⟩ = some (.int .i64 x0) := (by rw [cell_of_row _ _ _ _ _ _ hS]; rfl); have q4 : W.cell? ⟨w.heap.size, 4, none⟩ = some (.slice wa nw wc) := (by rw [cell_of_row _ _ _ _ _ _ hS]; rfl); go_simp; try (with_reducible rfl))
  refine wpAnyH_take (i := 6) (v := ?_) rfl (by kernel_rfl) (by kernel_rfl) (by kernel_rfl) (fun _ _ _ h => h) (Or.inl ⟨by kernel_rfl, ?_⟩) E0 ?_
  rotate_left
  · (intro W hS; have q0 : W.cell? ⟨w.heap.size, 0, none⟩ = some (.int .i64 x0) := (by rw [cell_of_row _ _ _ _ _ _ hS]; rfl); have q4 : W.cell? ⟨w.heap.size, 4, none⟩ = some (.slice wa nw wc) := (by rw [cell_of_row _ _ _ _ _ _ hS]; rfl); go_simp; try (with_reducible rfl))
  refine wpAnyH_ready (rs := [4]) (by kernel_rfl) (by simp) ?_
  refine AllReadyH.cons (i := 4) rfl (fun K hK => ?_) AllReadyH.nil
  go_simp
  refine (H.out.2.2.2.1 v0 F0).mono ?_
  rintro e v1 ⟨rfl, hb⟩
  have F1 := F0.trans (hb.mono F0.size)
  have E1 : v1.heap[w.heap.size]? = some (.cells #[.int .i64 x0, .string x1, .int .i64 x2, .int .i64 x3, .slice wa nw wc] 131 (0, 0)) := (hb.block _ (lt_of_heap E0)).trans E0
  refine hK.out _ _ E1 (fun _ => ?_)
  clear hK K hb
  refine wpAnyH_ready (rs := [7]) (by kernel_rfl) (by simp) ?_
  refine AllReadyH.cons (i := 7) rfl (fun K hK => ?_) AllReadyH.nil
  go_simp
  refine (H.out.2.2.2.2.1 v1 F1).mono ?_
  rintro e v2 ⟨aN, cN, rfl, hoN0, hb⟩
  have F2 := F1.trans (hb.mono F1.size)
  have E2 : v2.heap[w.heap.size]? = some (.cells #[.int .i64 x0, .string x1, .int .i64 x2, .int .i64 x3, .slice wa nw wc] 131 (0, 0)) := (hb.block _ (lt_of_heap E1)).trans E1
  have hoN := OwnT.mono hoN0 F1.size
  clear hoN0
  refine hK.out _ _ E2 (fun _ => ?_)
  clear hK K hb
  refine wpAnyH_take (i := 8) (v := ?_) rfl (by kernel_rfl) (by kernel_rfl) (by kernel_rfl) (fun _ _ _ h => h) (Or.inl ⟨by kernel_rfl, ?_⟩) E2 ?_
  rotate_left
  · (intro W hS; have q0 : W.cell? ⟨w.heap.size, 0, none⟩ = some (.int .i64 x0) := (by rw [cell_of_row _ _ _ _ _ _ hS]; rfl); have q4 : W.cell? ⟨w.heap.size, 4, none⟩ = some (.slice wa nw wc) := (by rw [cell_of_row _ _ _ _ _ _ hS]; rfl); go_simp; try (with_reducible rfl))
  refine wpAnyH_take (i := 9) (v := ?_) rfl (by kernel_rfl) (by kernel_rfl) (by kernel_rfl) (fun _ _ _ h => h) (Or.inl ⟨by kernel_rfl, ?_⟩) E2 ?_
  rotate_left
  · (intro W hS; have q0 : W.cell? ⟨w.heap.size, 0, none⟩ = some (.int .i64 x0) := (by rw [cell_of_row _ _ _ _ _ _ hS]; rfl); have q4 : W.cell? ⟨w.heap.size, 4, none⟩ = some (.slice wa nw wc) := (by rw [cell_of_row _ _ _ _ _ _ hS]; rfl); go_simp; try (with_reducible rfl))
  refine wpAnyH_take (i := 10) (v := ?_) rfl (by kernel_rfl) (by kernel_rfl) (by kernel_rfl) (fun _ _ _ h => h) (Or.inl ⟨by kernel_rfl, ?_⟩) E2 ?_
  rotate_left
  · (intro W hS; have q0 : W.cell? ⟨w.heap.size, 0, none⟩ = some (.int .i64 x0) := (by rw [cell_of_row _ _ _ _ _ _ hS]; rfl); have q4 : W.cell? ⟨w.heap.size, 4, none⟩ = some (.slice wa nw wc) := (by rw [cell_of_row _ _ _ _ _ _ hS]; rfl); go_simp; try (with_reducible rfl))
  refine wpAnyH_take (i := 11) (v := ?_) rfl (by kernel_rfl) (by kernel_rfl) (by kernel_rfl) (fun _ _ _ h => h) (Or.inl ⟨by kernel_rfl, ?_⟩) E2 ?_
  rotate_left
  · (intro W hS; have q0 : W.cell? ⟨w.heap.size, 0, none⟩ = some (.int .i64 x0) := (by rw [cell_of_row _ _ _ _ _ _ hS]; rfl); have q4 : W.cell? ⟨w.heap.size, 4, none⟩ = some (.slice wa nw wc) := (by rw [cell_of_row _ _ _ _ _ _ hS]; rfl); go_simp; try (with_reducible rfl))
  refine wpAnyH_take (i := 12) (v := ?_) rfl (by kernel_rfl) (by kernel_rfl) (by kernel_rfl) (fun _ _ _ h => h) (Or.inl ⟨by kernel_rfl, ?_⟩) E2 ?_
  rotate_left
  · (intro W hS; have q0 : W.cell? ⟨w.heap.size, 0, none⟩ = some (.int .i64 x0) := (by rw [cell_of_row _ _ _ _ _ _ hS]; rfl); have q4 : W.cell? ⟨w.heap.size, 4, none⟩ = some (.slice wa nw wc) := (by rw [cell_of_row _ _ _ _ _ _ hS]; rfl); go_simp; try (with_reducible rfl))
  refine wpAnyH_take (i := 13) (v := ?_) rfl (by kernel_rfl) (by kernel_rfl) (by kernel_rfl) (fun _ _ _ h => h) (Or.inl ⟨by kernel_rfl, ?_⟩) E2 ?_
  rotate_left
  · (intro W hS; have q0 : W.cell? ⟨w.heap.size, 0, none⟩ = some (.int .i64 x0) := (by rw [cell_of_row _ _ _ _ _ _ hS]; rfl); have q4 : W.cell? ⟨w.heap.size, 4, none⟩ = some (.slice wa nw wc) := (by rw [cell_of_row _ _ _ _ _ _ hS]; rfl); go_simp; try (with_reducible rfl))
  refine wpAnyH_take (i := 14) (v := ?_) rfl (by kernel_rfl) (by kernel_rfl) (by kernel_rfl) (fun _ _ _ h => h) (Or.inl ⟨by kernel_rfl, ?_⟩) E2 ?_
  rotate_left
  · (intro W hS; have q0 : W.cell? ⟨w.heap.size, 0, none⟩ = some (.int .i64 x0) := (by rw [cell_of_row _ _ _ _ _ _ hS]; rfl); have q4 : W.cell? ⟨w.heap.size, 4, none⟩ = some (.slice wa nw wc) := (by rw [cell_of_row _ _ _ _ _ _ hS]; rfl); go_simp; try (with_reducible rfl))
  refine wpAnyH_done (by kernel_rfl) ?_ _
  go_simp
  have H4 := Lib.hid (And.intro F2 hoN)
  clear E0 E1 E2 F0 F1 F2 hoN
  rcases H.out.2.2.2.2.2.2.1 with ⟨x, hcl, hx⟩ | ⟨hcl, e0, hx, he0⟩
  · injection hx with hx1 hx
    injection hx with hx2 hx3
    subst hx1 hx2 hx3
    have hin := H.out.2.2.2.2.2.2.2.1 x hcl
    have hZ := H.out.2.2.2.2.2.2.2.2.2.1
    rw [hcl] at hZ
    simp only at hZ
    have htp := H.out.2.2.2.2.2.2.2.2.1 x.1 hin.1 hin.2.1 hin.2.2.1
    obtain ⟨T, hT⟩ : ∃ T, T = Ix.topS n x.1 := ⟨_, rfl⟩
    rw [← hT] at hZ htp
    obtain ⟨xr, xn, xl⟩ := x
    simp only at hin hZ htp
    have HX := Lib.hid (And.intro hZ (And.intro htp hin))
    obtain ⟨mn, hmn⟩ : ∃ mn, mn = xn.length := ⟨_, rfl⟩
    have HMN := Lib.hid hmn
    simp only
    rw [← hmn]
    clear hcl hZ htp hin hT hmn
    obtain ⟨w5, hw5⟩ : ∃ w5, w5 = v2.alloc (.cells #[.string RS] 9) := ⟨_, rfl⟩
    have hb5 : Below v2.heap.size v2 w5 := by rw [hw5]; exact (Below.refl _ _).alloc (Nat.le_refl _) _
    have ht5 : TextsAt w5 (some ⟨v2.heap.size, 0, none⟩) [RS] := by rw [hw5]; exact texts_one v2 RS
    have H5 := Lib.hid (And.intro (bcall H4.out.1 hb5 H4.out.1.size) (And.intro ht5 (OwnT.call H4.out.2 hb5)))
    clear hb5 ht5
    go_wp2_with fail
    rw [← hw5]
    clear hw5
    refine (H.out.2.2.2.2.2.1 _ _ _ H5.out.1 H5.out.2.1).mono ?_
    rintro e w6 ⟨a6, c6, rfl, ho6, hb6⟩
    have H6 := Lib.hid (And.intro (bcall H5.out.1 hb6 H5.out.1.size) (And.intro (OwnT.mono ho6 H5.out.1.size) (OwnT.texts (OwnT.call H5.out.2.2 hb6))))
    clear ho6 hb6
    have hl1 : nw ≤ 100000 := H.out.2.2.2.2.2.2.2.2.2.2
    have hl2 : mn ≤ 100000 := by rw [HMN.out, HX.out.2.2.2.2.2]; exact hl1
    go_wp2_with (at_builtin; (refine wpList_append_texts rfl (.tmp 34) (.tmp 35) rfl H6.out.2.1 1 rfl rfl _ _ mn xn HMN.out.symm rfl H6.out.2.2 (by omega) H6.out.1.size H6.out.1 ?_; intro ad7 cp7 w7 ho hb; have H7 := Lib.hid (And.intro ho hb); clear ho hb))
    refine (HX.out.2.1 _).mono ?_
    rintro e w8 ⟨rfl, hb8⟩
    obtain ⟨w9, hw9⟩ : ∃ w9, w9 = w8.alloc (.cells #[.string T] 9) := ⟨_, rfl⟩
    have hb9 : Below w8.heap.size w8 w9 := by rw [hw9]; exact (Below.refl _ _).alloc (Nat.le_refl _) _
    have ht9 : TextsAt w9 (some ⟨w8.heap.size, 0, none⟩) [T] := by rw [hw9]; exact texts_one w8 T
    have b89 := bcall hb8 hb9 hb8.size
    have H9 := Lib.hid (And.intro (bcall H7.out.2 b89 H7.out.2.size) (And.intro ht9 (OwnT.call H7.out.1 b89)))
    clear hb8 hb9 ht9 b89
    go_wp2_with (at_builtin; (rw [← hw9]; refine wpList_append_texts rfl (.tmp 37) (.tmp 41) rfl H9.out.2.2 (1 + mn) (by rw [List.length_append, ← HMN.out]; rfl) rfl _ _ 1 [T] rfl rfl H9.out.2.1 (by omega) H9.out.1.size H9.out.1 ?_; intro ad10 cp10 w10 ho hb; have H10 := Lib.hid (And.intro ho hb); clear ho hb hw9))
    go_ret
    have hfin : ([LT] ++ xn) ++ [T] = Z := by rw [HX.out.1]; rfl
    have hlen : Z.length = 1 + mn + 1 := by rw [← hfin, List.length_append, List.length_append, ← HMN.out]; rfl
    exact ⟨ad10, cp10, by rw [hlen]; rfl, by rw [← hfin]; exact H10.out.1, H10.out.2⟩
  · injection hx with hx1 hx
    injection hx with hx2 hx3
    subst hx1 hx2 hx3
    have hZ := H.out.2.2.2.2.2.2.2.2.2.1
    rw [hcl] at hZ
    have HZ := Lib.hid (show Z = [] from hZ)
    clear hcl hZ
    go_wp2_with fail
    go_ret
    exact ⟨none, 0, by rw [HZ.out]; rfl, by rw [HZ.out]; exact OwnT.nil _ _, H4.out.1⟩
end Go.Proofs.YtdfkpjmljaanpaaGreatDoor
