/- The law CanonWrites. -/
import Derived.Test.YtlfefgfpachehaaCSized
import Derived.Test.YtlfefgfpachehaaCAwake
import Derived.Test.YtlfefgfpachehaaCRef
import Derived.Test.YtlfefgfpachehaaCRefEnc
import Derived.Test.YtlfefgfpachehaaCRefSame
import Derived.Deep.RegionWith
import Derived.Deep.QuietTactic
import Derived.BigQuiet
import Derived.Deep.RegionHeld3
namespace Go.Proofs.Ytlfefgfpachehaa
open Go.RowKit
open Cn

/-- Both items stand in their blocks. -/
structure WS (w : World) (X Y : Obj) (W : World) : Prop where
  below : Below w.heap.size w W
  rx : W.heap[w.heap.size]? = some X
  ry : W.heap[w.heap.size + 1]? = some Y
theorem WS.call {w W W' : World} {X Y : Obj} (h : WS w X Y W) (hb : Below W.heap.size W W') : WS w X Y W' :=
  ⟨h.below.trans (hb.mono h.below.size), (hb.block _ (lt_of_heap' h.rx)).trans h.rx, (hb.block _ (lt_of_heap' h.ry)).trans h.ry⟩
theorem WS.x {w W : World} {cs : Array Value} {t : TypeId} {Y : Obj} (h : WS w (.cells cs t (0, 0)) Y W) (i : Nat) : W.cell? ⟨w.heap.size, i, none⟩ = cs[i]? := by rw [Lib.cell_of_heap h.rx]
theorem WS.y {w W : World} {cs : Array Value} {t : TypeId} {X : Obj} (h : WS w X (.cells cs t (0, 0)) W) (i : Nat) : W.cell? ⟨w.heap.size + 1, i, none⟩ = cs[i]? := by rw [Lib.cell_of_heap h.ry]
set_option maxRecDepth 100000 in
set_option maxHeartbeats 4000000 in
theorem writes_law (x y : It) (w : World) (hin : x.In w (fun _ => True)) (hsm : x.Small) (hin' : y.In w (fun _ => True)) (hsm' : y.Small) :
    Calls Try.prog 3 #[x.val, y.val] w fun e w' => e = .returned (.bool true) ∧ Below w.heap.size w w' := by
  have hfew := fun w' (hb : Below w.heap.size w w') => few_any _ 2000 (by decide) x w' (It.In.kept (keptS_any hb) x hin) hsm
  have hfew' := fun w' (hb : Below w.heap.size w w') => few_any _ 2000 (by decide) y w' (It.In.kept (keptS_any hb) y hin') hsm'
  have henc := fun w' (hb : Below w.heap.size w w') => encode_any _ x w' (It.In.kept (keptS_any hb) x hin)
  have hchk := fun w' (hb : Below w.heap.size w w') => check_any _ x w' (It.In.kept (keptS_any hb) x hin)
  have hsame := fun w' (hb : Below w.heap.size w w') => same_any x.sz x (Nat.le_refl _) (fun _ => True) y w' (It.In.kept (keptS_any hb) x hin) (It.In.kept (keptS_any hb) y hin')
  have href := fun (h : x.sz ≤ 2000) w' (hb : Below w.heap.size w w') => ref_any x.sz x (Nat.le_refl _) (lists_sized h) _ w' (It.In.kept (keptS_any hb) x hin) (lists_sized h x (Nat.le_refl _))
  have href' := fun (h : y.sz ≤ 2000) w' (hb : Below w.heap.size w w') => ref_any y.sz y (Nat.le_refl _) (lists_sized h) _ w' (It.In.kept (keptS_any hb) y hin') (lists_sized h y (Nat.le_refl _))
  have hsx := fun h => Nat.le_trans (sz_sized 2000 x 0 h) h
  have hsy := fun h => Nat.le_trans (sz_sized 2000 y 0 h) h
  obtain ⟨P, hP⟩ : ∃ P, P = x.pure := ⟨_, rfl⟩
  obtain ⟨Q, hQ⟩ : ∃ Q, Q = y.pure := ⟨_, rfl⟩
  have hlen : sizeP 2000 P 0 ≤ 2000 → may P 6 = true → (Cn.bytes P).length ≤ 1000000 := fun h hm => by
    have := len_sized 2000 (by decide) P 0 6 hm h
    omega
  rw [← hP] at hfew henc hchk hsame href hsx
  rw [← hQ] at hfew' hsame href' hsy
  obtain ⟨z, hz⟩ : ∃ z, z = decide (sizeP 2000 P 0 ≤ 2000) := ⟨_, rfl⟩
  obtain ⟨z', hz'⟩ : ∃ z, z = decide (sizeP 2000 Q 0 ≤ 2000) := ⟨_, rfl⟩
  rw [← hz] at hfew
  rw [← hz'] at hfew'
  have HF := Lib.hid (And.intro hfew hfew')
  have HE := Lib.hid (And.intro henc (And.intro hchk hsame))
  have HR := Lib.hid (And.intro (show z = true → x.sz ≤ 2000 from fun h => hsx (by simpa [hz] using h)) (And.intro (show z' = true → y.sz ≤ 2000 from fun h => hsy (by simpa [hz'] using h)) (And.intro (show z = true → may P 6 = true → (Cn.bytes P).length ≤ 1000000 from fun h => hlen (by simpa [hz] using h)) (And.intro href href'))))
  clear hfew hfew' henc hchk hsame href href' hsx hsy hlen hz hz' hP hQ hin hin' hsm hsm'
  obtain ⟨xk, xn, xs, xa, xc, xl⟩ := x
  obtain ⟨yk, yn, ys, ya, yc, yl⟩ := y
  simp only [It.val, It.cells, It.k, It.n, It.s, It.a, It.cap, It.l] at HF HE HR ⊢
  go_enter Try.func3, Try.ntmps3
  go_wp2_with fail
  have hb1 : Below w.heap.size w ((w.alloc (.cells #[.int .i64 xk, .int .i64 xn, .string xs, .slice xa xl.length xc] 24)).alloc (.cells #[.int .i64 yk, .int .i64 yn, .string ys, .slice ya yl.length yc] 24)) := ((Below.refl _ _).alloc (Nat.le_refl _) _).alloc (by simp) _
  have z1 : (w.alloc (.cells #[.int .i64 xk, .int .i64 xn, .string xs, .slice xa xl.length xc] 24)).heap.size = w.heap.size + 1 := by simp
  have hrx : ((w.alloc (.cells #[.int .i64 xk, .int .i64 xn, .string xs, .slice xa xl.length xc] 24)).alloc (.cells #[.int .i64 yk, .int .i64 yn, .string ys, .slice ya yl.length yc] 24)).heap[w.heap.size]? = some (.cells #[.int .i64 xk, .int .i64 xn, .string xs, .slice xa xl.length xc] 24 (0, 0)) := by
    rw [Lib.alloc_old _ _ _ (by omega)]; exact heap_alloc_new _ _
  have hry : ((w.alloc (.cells #[.int .i64 xk, .int .i64 xn, .string xs, .slice xa xl.length xc] 24)).alloc (.cells #[.int .i64 yk, .int .i64 yn, .string ys, .slice ya yl.length yc] 24)).heap[w.heap.size + 1]? = some (.cells #[.int .i64 yk, .int .i64 yn, .string ys, .slice ya yl.length yc] 24 (0, 0)) := by
    have := heap_alloc_new (w.alloc (.cells #[.int .i64 xk, .int .i64 xn, .string xs, .slice xa xl.length xc] 24)) (.cells #[.int .i64 yk, .int .i64 yn, .string ys, .slice ya yl.length yc] 24)
    rwa [z1] at this
  have H1 := Lib.hid (And.intro hb1 (And.intro hrx hry))
  clear hb1 hrx hry z1
  generalize World.alloc _ _ = w1 at *
  refine (HF.out.1 _ H1.out.1).mono ?_
  rintro e w2 ⟨rfl, hb2⟩
  have hrx : w2.heap[w.heap.size]? = some (.cells #[.int .i64 xk, .int .i64 xn, .string xs, .slice xa xl.length xc] 24 (0, 0)) := (hb2.block _ (lt_of_heap' H1.out.2.1)).trans H1.out.2.1
  have hry : w2.heap[w.heap.size + 1]? = some (.cells #[.int .i64 yk, .int .i64 yn, .string ys, .slice ya yl.length yc] 24 (0, 0)) := (hb2.block _ (lt_of_heap' H1.out.2.2)).trans H1.out.2.2
  have H2 := Lib.hid (And.intro (H1.out.1.trans (hb2.mono H1.out.1.size)) (And.intro hrx hry))
  have q0 : w2.cell? ⟨w.heap.size + 1, 0, none⟩ = some (.int .i64 yk) := by rw [Lib.cell_of_heap hry]; rfl
  have q1 : w2.cell? ⟨w.heap.size + 1, 1, none⟩ = some (.int .i64 yn) := by rw [Lib.cell_of_heap hry]; rfl
  have q2 : w2.cell? ⟨w.heap.size + 1, 2, none⟩ = some (.string ys) := by rw [Lib.cell_of_heap hry]; rfl
  have q3 : w2.cell? ⟨w.heap.size + 1, 3, none⟩ = some (.slice ya yl.length yc) := by rw [Lib.cell_of_heap hry]; rfl
  clear hb2 hrx hry H1
  cases z with
  | false =>
    go_wp2_with fail
    refine (awake_any _).mono ?_
    rintro e w3 ⟨rfl, hb3⟩
    have H3 := Lib.hid (H2.out.1.trans (hb3.mono H2.out.1.size))
    clear hb3
    go_wp2_with fail
    go_ret
    exact ⟨rfl, H3.out⟩
  | true =>
    have hszx := HR.out.1 rfl
    have hln := HR.out.2.2.1 rfl
    have hrf := HR.out.2.2.2.1 hszx
    have HX := Lib.hid (And.intro hln hrf)
    clear hszx hln hrf
    go_wp2_with fail
    refine (HF.out.2 _ H2.out.1).mono ?_
    rintro e w3 ⟨rfl, hb3⟩
    have hrx : w3.heap[w.heap.size]? = some (.cells #[.int .i64 xk, .int .i64 xn, .string xs, .slice xa xl.length xc] 24 (0, 0)) := (hb3.block _ (lt_of_heap' H2.out.2.1)).trans H2.out.2.1
    have hry : w3.heap[w.heap.size + 1]? = some (.cells #[.int .i64 yk, .int .i64 yn, .string ys, .slice ya yl.length yc] 24 (0, 0)) := (hb3.block _ (lt_of_heap' H2.out.2.2)).trans H2.out.2.2
    have H3 := Lib.hid (And.intro (H2.out.1.trans (hb3.mono H2.out.1.size)) (And.intro hrx hry))
    have p0 : w3.cell? ⟨w.heap.size, 0, none⟩ = some (.int .i64 xk) := by rw [Lib.cell_of_heap hrx]; rfl
    have p1 : w3.cell? ⟨w.heap.size, 1, none⟩ = some (.int .i64 xn) := by rw [Lib.cell_of_heap hrx]; rfl
    have p2 : w3.cell? ⟨w.heap.size, 2, none⟩ = some (.string xs) := by rw [Lib.cell_of_heap hrx]; rfl
    have p3 : w3.cell? ⟨w.heap.size, 3, none⟩ = some (.slice xa xl.length xc) := by rw [Lib.cell_of_heap hrx]; rfl
    clear q0 q1 q2 q3 hb3 hrx hry H2
    cases z' with
    | false =>
      go_wp2_with fail
      refine (awake_any _).mono ?_
      rintro e w4 ⟨rfl, hb4⟩
      have H4 := Lib.hid (H3.out.1.trans (hb4.mono H3.out.1.size))
      clear hb4
      go_wp2_with fail
      go_ret
      exact ⟨rfl, H4.out⟩
    | true =>
      have hrf := HR.out.2.2.2.2 (HR.out.2.1 rfl)
      have HY := Lib.hid hrf
      clear hrf HR HF
      go_wp2_with fail
      refine (HE.out.1 _ H3.out.1).mono ?_
      rintro e w4 ⟨rfl, hb4⟩
      have hrx : w4.heap[w.heap.size]? = some (.cells #[.int .i64 xk, .int .i64 xn, .string xs, .slice xa xl.length xc] 24 (0, 0)) := (hb4.block _ (lt_of_heap' H3.out.2.1)).trans H3.out.2.1
      have hry : w4.heap[w.heap.size + 1]? = some (.cells #[.int .i64 yk, .int .i64 yn, .string ys, .slice ya yl.length yc] 24 (0, 0)) := (hb4.block _ (lt_of_heap' H3.out.2.2)).trans H3.out.2.2
      have H4 := Lib.hid (And.intro (H3.out.1.trans (hb4.mono H3.out.1.size)) (And.intro hrx hry))
      clear p0 p1 p2 p3 hb4 hry H3
      have p0 : w4.cell? ⟨w.heap.size, 0, none⟩ = some (.int .i64 xk) := by rw [Lib.cell_of_heap hrx]; rfl
      have p1 : w4.cell? ⟨w.heap.size, 1, none⟩ = some (.int .i64 xn) := by rw [Lib.cell_of_heap hrx]; rfl
      have p2 : w4.cell? ⟨w.heap.size, 2, none⟩ = some (.string xs) := by rw [Lib.cell_of_heap hrx]; rfl
      have p3 : w4.cell? ⟨w.heap.size, 3, none⟩ = some (.slice xa xl.length xc) := by rw [Lib.cell_of_heap hrx]; rfl
      clear hrx
      go_wp2_with fail
      refine (HX.out.2 _ H4.out.1).mono ?_
      rintro e w5 ⟨it, hpi, rfl, hit, hb5⟩
      have henc := rencode_any _ it w5 hit (by rw [hpi]; exact HX.out.1)
      rw [hpi] at henc
      have hrx : w5.heap[w.heap.size]? = some (.cells #[.int .i64 xk, .int .i64 xn, .string xs, .slice xa xl.length xc] 24 (0, 0)) := (hb5.block _ (lt_of_heap' H4.out.2.1)).trans H4.out.2.1
      have hry : w5.heap[w.heap.size + 1]? = some (.cells #[.int .i64 yk, .int .i64 yn, .string ys, .slice ya yl.length yc] 24 (0, 0)) := (hb5.block _ (lt_of_heap' H4.out.2.2)).trans H4.out.2.2
      have H5 := Lib.hid (And.intro (And.intro (H4.out.1.trans (hb5.mono H4.out.1.size)) (And.intro hrx hry)) henc)
      clear p0 p1 p2 p3 hb5 hry H4 hrx henc hit hpi
      obtain ⟨ik, im, is, ia, ic, il⟩ := it
      simp only [It.val, It.cells, It.k, It.n, It.s, It.a, It.cap, It.l] at H5 ⊢
      go_wp2_with fail
      refine H5.out.2.mono ?_
      rintro e w6 ⟨rfl, hb6⟩
      have hrx : w6.heap[w.heap.size]? = some (.cells #[.int .i64 xk, .int .i64 xn, .string xs, .slice xa xl.length xc] 24 (0, 0)) := (hb6.block _ (lt_of_heap' H5.out.1.2.1)).trans H5.out.1.2.1
      have hry : w6.heap[w.heap.size + 1]? = some (.cells #[.int .i64 yk, .int .i64 yn, .string ys, .slice ya yl.length yc] 24 (0, 0)) := (hb6.block _ (lt_of_heap' H5.out.1.2.2)).trans H5.out.1.2.2
      have H6 := Lib.hid (And.intro (H5.out.1.1.trans (hb6.mono H5.out.1.1.size)) (And.intro hrx hry))
      clear hb6 hry H5 hrx
      obtain ⟨ES, hES⟩ : ∃ ES, ES = encS P := ⟨_, rfl⟩
      obtain ⟨EE, hEE⟩ : ∃ EE, EE = encE P := ⟨_, rfl⟩
      rw [← hES, ← hEE]
      clear hES hEE
      go_wp2_with fail
      have C : WS w (.cells #[.int .i64 xk, .int .i64 xn, .string xs, .slice xa xl.length xc] 24 (0, 0)) (.cells #[.int .i64 yk, .int .i64 yn, .string ys, .slice ya yl.length yc] 24 (0, 0)) w6.drew := ⟨H6.out.1.drew, H6.out.2.1, H6.out.2.2⟩
      refine wp_region_held (S := WS w (.cells #[.int .i64 xk, .int .i64 xn, .string xs, .slice xa xl.length xc] 24 (0, 0)) (.cells #[.int .i64 yk, .int .i64 yn, .string ys, .slice ya yl.length yc] 24 (0, 0))) (by kernel_rfl) ?_
      change wpAnyH _ _ _ _ _ _ _ _ (World.drew _)
      generalize World.drew _ = w7 at *
      refine wpAnyH_ready (rs := [0]) (by kernel_rfl) (by simp) ?_
      refine AllReadyH.cons rfl (fun K hK => ?_) AllReadyH.nil
      go_simp
      refine (awake_any _).mono ?_
      rintro e W8 ⟨rfl, hb⟩
      have C := C.call hb
      refine hK.out _ _ C (fun _ => ?_)
      clear hK K hb
      refine wpAnyH_take (i := 1) (v := ?_) rfl (by kernel_rfl) (by kernel_rfl) (by kernel_rfl) (fun _ _ _ h => h) (Or.inl ⟨by kernel_rfl, ?_⟩) C ?_
      rotate_left
      · (intro W hS; clear hS; go_simp; try (with_reducible rfl))
      refine wpAnyH_take (i := 2) (v := ?_) rfl (by kernel_rfl) (by kernel_rfl) (by kernel_rfl) (fun _ _ _ h => h) (Or.inl ⟨by kernel_rfl, ?_⟩) C ?_
      rotate_left
      · (intro W hS; clear hS; go_simp; try (with_reducible rfl))
      refine wpAnyH_take (i := 3) (v := ?_) rfl (by kernel_rfl) (by kernel_rfl) (by kernel_rfl) (fun _ _ _ h => h) (Or.inl ⟨by kernel_rfl, ?_⟩) C ?_
      rotate_left
      · (intro W hS; clear hS; go_simp; try (with_reducible rfl))
      refine wpAnyH_take (i := 4) (v := .bool true) rfl (by kernel_rfl) (by kernel_rfl) (by kernel_rfl) (fun _ _ _ h => h) (Or.inl ⟨by kernel_rfl, ?_⟩) C ?_
      · (intro W hS; clear hS; go_simp; first | done | (with_reducible rfl) | simp)
      refine wpAnyH_take (i := 5) (v := .bool true) rfl (by kernel_rfl) (by kernel_rfl) (by kernel_rfl) (fun _ _ _ h => h) (Or.inl ⟨by kernel_rfl, ?_⟩) C ?_
      · (intro W hS; clear hS; go_simp; first | done | (with_reducible rfl) | simp)
      refine wpAnyH_take (i := 6) (v := .bool true) rfl (by kernel_rfl) (by kernel_rfl) (by kernel_rfl) (fun _ _ _ h => h) (Or.inl ⟨by kernel_rfl, ?_⟩) C ?_
      · (intro W hS; clear hS; go_simp; first | done | (with_reducible rfl) | simp)
      refine wpAnyH_take (i := 7) (v := ?_) rfl (by kernel_rfl) (by kernel_rfl) (by kernel_rfl) (fun _ _ _ h => h) (Or.inl ⟨by kernel_rfl, ?_⟩) C ?_
      rotate_left
      · (intro W hS; clear hS; go_simp; try (with_reducible rfl))
      refine wpAnyH_take (i := 8) (v := ?_) rfl (by kernel_rfl) (by kernel_rfl) (by kernel_rfl) (fun _ _ _ h => h) (Or.inl ⟨by kernel_rfl, ?_⟩) C ?_
      rotate_left
      · (intro W hS; clear hS; go_simp; try (with_reducible rfl))
      refine wpAnyH_take (i := 9) (v := .bool true) rfl (by kernel_rfl) (by kernel_rfl) (by kernel_rfl) (fun _ _ _ h => h) (Or.inl ⟨by kernel_rfl, ?_⟩) C ?_
      · (intro W hS; clear hS; go_simp; first | done | (with_reducible rfl) | simp)
      refine wpAnyH_take (i := 10) (v := .bool true) rfl (by kernel_rfl) (by kernel_rfl) (by kernel_rfl) (fun _ _ _ h => h) (Or.inl ⟨by kernel_rfl, ?_⟩) C ?_
      · (intro W hS; clear hS; go_simp; first | done | (with_reducible rfl) | simp)
      refine wpAnyH_take (i := 11) (v := .bool true) rfl (by kernel_rfl) (by kernel_rfl) (by kernel_rfl) (fun _ _ _ h => h) (Or.inl ⟨by kernel_rfl, ?_⟩) C ?_
      · (intro W hS; clear hS; go_simp; first | done | (with_reducible rfl) | simp)
      refine wpAnyH_take (i := 12) (v := ?_) rfl (by kernel_rfl) (by kernel_rfl) (by kernel_rfl) (fun _ _ _ h => h) (Or.inl ⟨by kernel_rfl, ?_⟩) C ?_
      rotate_left
      · (intro W hS; have s0 := hS.x 0; have s1 := hS.x 1; have s2 := hS.x 2; have s3 := hS.x 3; simp at s0 s1 s2 s3; clear hS; go_simp; try (with_reducible rfl))
      refine wpAnyH_take (i := 14) (v := ?_) rfl (by kernel_rfl) (by kernel_rfl) (by kernel_rfl) (fun _ _ _ h => h) (Or.inl ⟨by kernel_rfl, ?_⟩) C ?_
      rotate_left
      · (intro W hS; have s0 := hS.x 0; have s1 := hS.x 1; have s2 := hS.x 2; have s3 := hS.x 3; simp at s0 s1 s2 s3; clear hS; go_simp; try (with_reducible rfl))
      refine wpAnyH_ready (rs := [13]) (by kernel_rfl) (by simp) ?_
      refine AllReadyH.cons rfl (fun K hK => ?_) AllReadyH.nil
      go_simp
      refine (HE.out.2.1 _ C.below).mono ?_
      rintro e W9 ⟨rfl, hb⟩
      have C := C.call hb
      refine hK.out _ _ C (fun _ => ?_)
      clear hK K hb
      have hrf := HX.out.2 _ C.below
      refine wpAnyH_ready (rs := [15]) (by kernel_rfl) (by simp) ?_
      refine AllReadyH.cons rfl (fun K hK => ?_) AllReadyH.nil
      go_simp
      refine (hrf).mono ?_
      rintro e W10 ⟨it, hpi, rfl, hit, hb⟩
      have hrc := rcheck_any _ it.sz it (Nat.le_refl _) 6 W10 (by decide) hit
      rw [hpi] at hrc
      clear hrf hpi hit
      obtain ⟨jk, jm, js, ja, jc, jl⟩ := it
      simp only [It.val, It.cells, It.k, It.n, It.s, It.a, It.cap, It.l] at hrc ⊢
      have C := C.call hb
      refine hK.out _ _ C (fun _ => ?_)
      clear hK K hb
      refine wpAnyH_ready (rs := [16]) (by kernel_rfl) (by simp) ?_
      refine AllReadyH.cons rfl (fun K hK => ?_) AllReadyH.nil
      go_simp
      refine (hrc).mono ?_
      rintro e W11 ⟨rfl, hb⟩
      have C := C.call hb
      refine hK.out _ _ C (fun _ => ?_)
      clear hK K hb
      clear hrc
      refine wpAnyH_take (i := 17) (v := .bool true) rfl (by kernel_rfl) (by kernel_rfl) (by kernel_rfl) (fun _ _ _ h => h) (Or.inl ⟨by kernel_rfl, ?_⟩) C ?_
      · (intro W hS; clear hS; go_simp; first | done | (with_reducible rfl) | simp)
      refine wpAnyH_take (i := 18) (v := .bool true) rfl (by kernel_rfl) (by kernel_rfl) (by kernel_rfl) (fun _ _ _ h => h) (Or.inl ⟨by kernel_rfl, ?_⟩) C ?_
      · (intro W hS; clear hS; go_simp; first | done | (with_reducible rfl) | simp)
      refine wpAnyH_take (i := 19) (v := .bool true) rfl (by kernel_rfl) (by kernel_rfl) (by kernel_rfl) (fun _ _ _ h => h) (Or.inl ⟨by kernel_rfl, ?_⟩) C ?_
      · (intro W hS; clear hS; go_simp; first | done | (with_reducible rfl) | simp)
      refine wpAnyH_take (i := 20) (v := ?_) rfl (by kernel_rfl) (by kernel_rfl) (by kernel_rfl) (fun _ _ _ h => h) (Or.inl ⟨by kernel_rfl, ?_⟩) C ?_
      rotate_left
      · (intro W hS; have s0 := hS.x 0; have s1 := hS.x 1; have s2 := hS.x 2; have s3 := hS.x 3; simp at s0 s1 s2 s3; clear hS; go_simp; try (with_reducible rfl))
      refine wpAnyH_take (i := 21) (v := ?_) rfl (by kernel_rfl) (by kernel_rfl) (by kernel_rfl) (fun _ _ _ h => h) (Or.inl ⟨by kernel_rfl, ?_⟩) C ?_
      rotate_left
      · (intro W hS; have u0 := hS.y 0; have u1 := hS.y 1; have u2 := hS.y 2; have u3 := hS.y 3; simp at u0 u1 u2 u3; clear hS; go_simp; try (with_reducible rfl))
      refine wpAnyH_take (i := 23) (v := ?_) rfl (by kernel_rfl) (by kernel_rfl) (by kernel_rfl) (fun _ _ _ h => h) (Or.inl ⟨by kernel_rfl, ?_⟩) C ?_
      rotate_left
      · (intro W hS; have s0 := hS.x 0; have s1 := hS.x 1; have s2 := hS.x 2; have s3 := hS.x 3; simp at s0 s1 s2 s3; clear hS; go_simp; try (with_reducible rfl))
      refine wpAnyH_take (i := 25) (v := ?_) rfl (by kernel_rfl) (by kernel_rfl) (by kernel_rfl) (fun _ _ _ h => h) (Or.inl ⟨by kernel_rfl, ?_⟩) C ?_
      rotate_left
      · (intro W hS; have u0 := hS.y 0; have u1 := hS.y 1; have u2 := hS.y 2; have u3 := hS.y 3; simp at u0 u1 u2 u3; clear hS; go_simp; try (with_reducible rfl))
      refine wpAnyH_ready (rs := [22]) (by kernel_rfl) (by simp) ?_
      refine AllReadyH.cons rfl (fun K hK => ?_) AllReadyH.nil
      go_simp
      refine (HE.out.2.2 _ C.below).mono ?_
      rintro e W12 ⟨rfl, hb⟩
      have C := C.call hb
      refine hK.out _ _ C (fun _ => ?_)
      clear hK K hb
      have hrf := HX.out.2 _ C.below
      refine wpAnyH_ready (rs := [24]) (by kernel_rfl) (by simp) ?_
      refine AllReadyH.cons rfl (fun K hK => ?_) AllReadyH.nil
      go_simp
      refine (hrf).mono ?_
      rintro e W13 ⟨it, hpi, rfl, hit, hb⟩
      clear hrf
      have hI := Lib.hid (And.intro hpi hit)
      have hsm := fun W (hb : Below W13.heap.size W13 W) (jt : It) S' (h : jt.In W S') => refsame_any it.sz it (Nat.le_refl _) _ S' jt W (It.In.kept (keptS_any hb) it hit) h
      rw [hpi] at hsm
      clear hpi hit hI
      obtain ⟨ak, am, az, aa, ac, al⟩ := it
      simp only [It.val, It.cells, It.k, It.n, It.s, It.a, It.cap, It.l] at hsm ⊢
      have C := C.call hb
      refine hK.out _ _ C (fun _ => ?_)
      clear hK K hb
      have hrf := HY.out _ C.below
      refine wpAnyH_ready (rs := [26]) (by kernel_rfl) (by simp) ?_
      refine AllReadyH.cons rfl (fun K hK => ?_) AllReadyH.nil
      go_simp
      refine (hrf).mono ?_
      rintro e W14 ⟨it, hpi, rfl, hit, hb⟩
      have hs2 := hsm _ hb it _ hit
      rw [hpi] at hs2
      clear hrf hpi hit hsm
      obtain ⟨bk, bm, bs, ba, bc, bl⟩ := it
      simp only [It.val, It.cells, It.k, It.n, It.s, It.a, It.cap, It.l] at hs2 ⊢
      have C := C.call hb
      refine hK.out _ _ C (fun _ => ?_)
      clear hK K hb
      refine wpAnyH_ready (rs := [27]) (by kernel_rfl) (by simp) ?_
      refine AllReadyH.cons rfl (fun K hK => ?_) AllReadyH.nil
      go_simp
      refine (hs2).mono ?_
      rintro e W15 ⟨rfl, hb⟩
      have C := C.call hb
      refine hK.out _ _ C (fun _ => ?_)
      clear hK K hb
      refine wpAnyH_take (i := 28) (v := .bool true) rfl (by kernel_rfl) (by kernel_rfl) (by kernel_rfl) (fun _ _ _ h => h) (Or.inl ⟨by kernel_rfl, ?_⟩) C ?_
      · (intro W hS; clear hS; go_simp; first | done | (with_reducible rfl) | simp)
      refine wpAnyH_take (i := 29) (v := .bool true) rfl (by kernel_rfl) (by kernel_rfl) (by kernel_rfl) (fun _ _ _ h => h) (Or.inl ⟨by kernel_rfl, ?_⟩) C ?_
      · (intro W hS; clear hS; go_simp; first | done | (with_reducible rfl) | simp)
      refine wpAnyH_take (i := 30) (v := ?_) rfl (by kernel_rfl) (by kernel_rfl) (by kernel_rfl) (fun _ _ _ h => h) (Or.inl ⟨by kernel_rfl, ?_⟩) C ?_
      rotate_left
      · (intro W hS; clear hS; go_simp; try (with_reducible rfl))
      refine wpAnyH_done (by kernel_rfl) ?_ _
      go_wp2_with fail
      go_ret
      exact ⟨rfl, C.below⟩
end Go.Proofs.Ytlfefgfpachehaa
