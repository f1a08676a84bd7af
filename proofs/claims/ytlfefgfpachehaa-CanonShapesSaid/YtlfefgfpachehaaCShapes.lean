/- PROVED HERE: for every item and text the law CanonShapes returns true (which items have any shape is as the reference defines it; a list that is made of items has just these), and both read afterwards as they did. No condition. -/
import Derived.Test.YtlfefgfpachehaaCSized
import Derived.Test.YtlfefgfpachehaaCAwake
import Derived.Test.YtlfefgfpachehaaCRef
import Derived.Test.YtlfefgfpachehaaCRefSame
import Derived.Test.YtlfefgfpachehaaCRefShape
import Derived.Test.YtlfefgfpachehaaCShape
import Derived.Test.YtlfefgfpachehaaCSame
import Derived.Test.YtlfefgfpachehaaCMake
import Derived.Test.YtlfefgfpachehaaCCutLaw
import Derived.Deep.RegionWith
import Derived.Deep.QuietTactic
import Derived.BigQuiet
import Derived.Deep.RegionHeld3
namespace Go.Proofs.Ytlfefgfpachehaa
open Go.RowKit
open Cn

/-- The item and the list stand in their blocks. -/
structure SS (w : World) (X : Obj) (g : Nat) (Y : Obj) (w3 W : World) : Prop where
  below : Below w.heap.size w W
  below3 : Below w3.heap.size w3 W
  rx : W.heap[w.heap.size]? = some X
  ry : W.heap[g]? = some Y
theorem SS.call {w w3 W W' : World} {X Y : Obj} {g : Nat} (h : SS w X g Y w3 W) (hb : Below W.heap.size W W') : SS w X g Y w3 W' :=
  ⟨h.below.trans (hb.mono h.below.size), h.below3.trans (hb.mono h.below3.size), (hb.block _ (lt_of_heap' h.rx)).trans h.rx, (hb.block _ (lt_of_heap' h.ry)).trans h.ry⟩
theorem SS.x {w w3 W : World} {cs : Array Value} {t : TypeId} {Y : Obj} {g : Nat} (h : SS w (.cells cs t (0, 0)) g Y w3 W) (i : Nat) : W.cell? ⟨w.heap.size, i, none⟩ = cs[i]? := by rw [Lib.cell_of_heap h.rx]
theorem SS.y {w w3 W : World} {cs : Array Value} {t : TypeId} {X : Obj} {g : Nat} (h : SS w X g (.cells cs t (0, 0)) w3 W) (i : Nat) : W.cell? ⟨g, i, none⟩ = cs[i]? := by rw [Lib.cell_of_heap h.ry]
mutual
theorem sz_pure : ∀ x y : It, x.pure = y.pure → x.sz = y.sz
  | .mk k n s a c l, .mk k' n' s' a' c' l', h => by
    rw [It.pure, It.pure] at h
    injection h with _ _ _ h
    rw [It.sz, It.sz, szAll_pure l l' h]
theorem szAll_pure : ∀ l m : List It, It.pureAll l = It.pureAll m → It.szAll l = It.szAll m
  | [], [], _ => rfl
  | [], y :: m, h => by rw [It.pureAll, It.pureAll] at h; cases h
  | x :: l, [], h => by rw [It.pureAll, It.pureAll] at h; cases h
  | x :: l, y :: m, h => by
    rw [It.pureAll, It.pureAll] at h
    injection h with h1 h2
    rw [It.szAll, It.szAll, sz_pure x y h1, szAll_pure l m h2]
end
theorem field3 (j m : Int) (s : ByteArray) (a : Option Addr) (l c : Nat) (W : World) : (Instr.field 34 (.agg #[.int .i64 j, .int .i64 m, .string s, .slice a l c]) 3).run Try.prog W = .ok (.slice a l c) W := by kernel_rfl
attribute [local go_sem] field3
theorem num_in (n : Int) (W : World) : (It.mk 1 n ⟨#[]⟩ none 0 []).In W (fun _ => True) := ⟨by decide, ⟨Nat.zero_le _, fun h => absurd rfl h⟩, trivial⟩
theorem text_in (s : ByteArray) (hs : s.size ≤ maxLen) (W : World) : (It.mk 2 0 s none 0 []).In W (fun _ => True) := ⟨hs, ⟨Nat.zero_le _, fun h => absurd rfl h⟩, trivial⟩
theorem same_num (n : Int) (W : World) :
    Calls Try.prog 16 #[.agg #[.int .i64 1, .int .i64 n, .string ⟨#[]⟩, .slice none 0 0], .agg #[.int .i64 1, .int .i64 n, .string ⟨#[]⟩, .slice none 0 0]] W fun e w' => e = .returned (.bool true) ∧ Below W.heap.size W w' := by
  have h := same_any _ (It.mk 1 n ⟨#[]⟩ none 0 []) (Nat.le_refl _) (fun _ => True) (It.mk 1 n ⟨#[]⟩ none 0 []) W (num_in n W) (num_in n W)
  rwa [sameP_refl] at h
theorem same_text (s : ByteArray) (hs : s.size ≤ maxLen) (W : World) :
    Calls Try.prog 16 #[.agg #[.int .i64 2, .int .i64 0, .string s, .slice none 0 0], .agg #[.int .i64 2, .int .i64 0, .string s, .slice none 0 0]] W fun e w' => e = .returned (.bool true) ∧ Below W.heap.size W w' := by
  have h := same_any _ (It.mk 2 0 s none 0 []) (Nat.le_refl _) (fun _ => True) (It.mk 2 0 s none 0 []) W (text_in s hs W) (text_in s hs W)
  rwa [sameP_refl] at h

set_option maxRecDepth 100000 in
set_option maxHeartbeats 4000000 in
theorem shapes_law (x : It) (w : World) (hin : x.In w (fun _ => True)) (hsm : x.Small) (t : ByteArray) (ht : t.size ≤ maxLen) :
    Calls Try.prog 7 #[x.val, .string t] w fun e w' => e = .returned (.bool true) ∧ Below w.heap.size w w' := by
  unfold maxLen at ht
  have hfew := fun w' (hb : Below w.heap.size w w') => few_any _ 1000 (by decide) x w' (It.In.kept (keptS_any hb) x hin) hsm
  have hshape := fun w' (hb : Below w.heap.size w w') => shape_any _ x t w' (It.In.kept (keptS_any hb) x hin)
  have href := fun (h : x.sz ≤ 2000) w' (hb : Below w.heap.size w w') => ref_any x.sz x (Nat.le_refl _) (lists_sized h) _ w' (It.In.kept (keptS_any hb) x hin) (lists_sized h x (Nat.le_refl _))
  have hlist := fun (h : x.sz ≤ 2000) w' (hb : Below w.heap.size w w') => list_any (fun _ => True) x.l x.a x.cap w' (by have := It.In.kept (keptS_any hb) x hin; cases x; exact this.2.1) (by have := It.In.kept (keptS_any hb) x hin; cases x; exact this.2.2) (by have := It.sz_eq x; omega)
  obtain ⟨P, hP⟩ : ∃ P, P = x.pure := ⟨_, rfl⟩
  obtain ⟨PL, hPL⟩ : ∃ PL, PL = It.pureAll x.l := ⟨_, rfl⟩
  have hsx := fun h => Nat.le_trans (sz_sized 1000 x 0 h) h
  have hss : x.s.size ≤ maxLen := by cases x; exact hin.1
  rw [← hP] at hfew hshape href hsx
  obtain ⟨z, hz⟩ : ∃ z, z = decide (sizeP 1000 P 0 ≤ 1000) := ⟨_, rfl⟩
  rw [← hz] at hfew
  obtain ⟨SP, hSP⟩ : ∃ SP, SP = shapeP P t.data.toList := ⟨_, rfl⟩
  rw [← hSP] at hshape
  have hPx := It.pure_eq x
  rw [← hP, ← hPL] at hPx
  have hsz := It.sz_eq x
  have HF := Lib.hid (And.intro hfew (show z = true → x.sz ≤ 1000 from fun h => hsx (by simpa [hz] using h)))
  have HE := Lib.hid (And.intro hshape (And.intro href (And.intro hlist (And.intro hSP (And.intro hPx (And.intro hPL (And.intro hsz hss)))))))
  clear hfew hshape href hlist hsx hz hP hin hsm hSP hPx hPL hsz hss
  obtain ⟨xk, xn, xs, xa, xc, xl⟩ := x
  simp only [It.val, It.cells, It.k, It.n, It.s, It.a, It.cap, It.l] at HF HE ⊢
  go_enter Try.func7, Try.ntmps7
  go_wp2_with fail
  have hb1 : Below w.heap.size w (w.alloc (.cells #[.int .i64 xk, .int .i64 xn, .string xs, .slice xa xl.length xc] 24)) := (Below.refl _ _).alloc (Nat.le_refl _) _
  have hrx : (w.alloc (.cells #[.int .i64 xk, .int .i64 xn, .string xs, .slice xa xl.length xc] 24)).heap[w.heap.size]? = some (.cells #[.int .i64 xk, .int .i64 xn, .string xs, .slice xa xl.length xc] 24 (0, 0)) := heap_alloc_new _ _
  have H1 := Lib.hid (And.intro hb1 hrx)
  clear hb1 hrx
  generalize World.alloc _ _ = w1 at *
  refine (HF.out.1 _ H1.out.1).mono ?_
  rintro e w2 ⟨rfl, hb2⟩
  have hrx : w2.heap[w.heap.size]? = some (.cells #[.int .i64 xk, .int .i64 xn, .string xs, .slice xa xl.length xc] 24 (0, 0)) := (hb2.block _ (lt_of_heap' H1.out.2)).trans H1.out.2
  have H2 := Lib.hid (And.intro (H1.out.1.trans (hb2.mono H1.out.1.size)) hrx)
  clear hb2 H1
  cases z with
  | false =>
    clear hrx
    go_wp2_with fail
    refine (awake_any _).mono ?_
    rintro e w3 ⟨rfl, hb3⟩
    have H3 := Lib.hid (H2.out.1.trans (hb3.mono H2.out.1.size))
    clear hb3
    go_wp2_with fail
    go_ret
    exact ⟨rfl, H3.out⟩
  | true =>
    have hx1 := HF.out.2 rfl
    clear HF
    by_cases hlong : (50 : Int) < t.size
    · clear hrx
      go_wp2_with fail
      refine (awake_any _).mono ?_
      rintro e w3 ⟨rfl, hb3⟩
      have H3 := Lib.hid (H2.out.1.trans (hb3.mono H2.out.1.size))
      clear hb3
      go_wp2_with fail
      go_ret
      exact ⟨rfl, H3.out⟩
    · have hx2 : (It.mk xk xn xs xa xc xl).sz ≤ 2000 := by omega
      have hls := HE.out.2.2.1 hx2
      have HX := Lib.hid (And.intro (HE.out.2.1 hx2) (And.intro hls hx1))
      clear hx2 hls hx1
      have p0 : w2.cell? ⟨w.heap.size, 0, none⟩ = some (.int .i64 xk) := by rw [Lib.cell_of_heap hrx]; rfl
      have p1 : w2.cell? ⟨w.heap.size, 1, none⟩ = some (.int .i64 xn) := by rw [Lib.cell_of_heap hrx]; rfl
      have p2 : w2.cell? ⟨w.heap.size, 2, none⟩ = some (.string xs) := by rw [Lib.cell_of_heap hrx]; rfl
      have p3 : w2.cell? ⟨w.heap.size, 3, none⟩ = some (.slice xa xl.length xc) := by rw [Lib.cell_of_heap hrx]; rfl
      clear hrx
      go_wp2_with fail
      refine (HX.out.2.1 _ H2.out.1).mono ?_
      rintro e w3 ⟨y, rfl, hpy, hyin, hb3⟩
      have hrx : w3.heap[w.heap.size]? = some (.cells #[.int .i64 xk, .int .i64 xn, .string xs, .slice xa xl.length xc] 24 (0, 0)) := (hb3.block _ (lt_of_heap' H2.out.2)).trans H2.out.2
      have hysz : y.sz ≤ 2000 := by
        have h1 := sz_pure y (.mk 3 0 ⟨#[]⟩ none 0 xl) (by rw [hpy]; rfl)
        have h2 := HE.out.2.2.2.2.2.2.1
        have h3 := HX.out.2.2
        rw [It.sz] at h1
        omega
      have hry := fun w' (hb : Below w3.heap.size w3 w') => ref_any y.sz y (Nat.le_refl _) (lists_sized hysz) _ w' (It.In.kept (keptS_any hb) y hyin) (lists_sized hysz y (Nat.le_refl _))
      rw [hpy, ← HE.out.2.2.2.2.2.1] at hry
      have H3 := Lib.hid (And.intro (H2.out.1.trans (hb3.mono H2.out.1.size)) (And.intro hrx hry))
      clear p0 p1 p2 p3 hb3 H2 hpy hyin hysz hry hrx
      obtain ⟨yk, yn, ys, ya, yc, yl⟩ := y
      simp only [It.val, It.cells, It.k, It.n, It.s, It.a, It.cap, It.l] at H3 ⊢
      go_wp2_with fail
      have hrx3 : (w3.alloc (.cells #[.int .i64 yk, .int .i64 yn, .string ys, .slice ya yl.length yc] 24)).heap[w.heap.size]? = some (.cells #[.int .i64 xk, .int .i64 xn, .string xs, .slice xa xl.length xc] 24 (0, 0)) := by
        rw [Lib.alloc_old _ _ _ (lt_of_heap' H3.out.2.1)]; exact H3.out.2.1
      have C : SS w (.cells #[.int .i64 xk, .int .i64 xn, .string xs, .slice xa xl.length xc] 24 (0, 0)) w3.heap.size (.cells #[.int .i64 yk, .int .i64 yn, .string ys, .slice ya yl.length yc] 24 (0, 0)) w3 (w3.alloc (.cells #[.int .i64 yk, .int .i64 yn, .string ys, .slice ya yl.length yc] 24)).drew := ⟨(H3.out.1.alloc H3.out.1.size _).drew, ((Below.refl _ _).alloc (Nat.le_refl _) _).drew, hrx3, heap_alloc_new _ _⟩
      clear hrx3
      refine wp_region_held (S := SS w (.cells #[.int .i64 xk, .int .i64 xn, .string xs, .slice xa xl.length xc] 24 (0, 0)) w3.heap.size (.cells #[.int .i64 yk, .int .i64 yn, .string ys, .slice ya yl.length yc] 24 (0, 0)) w3) (by kernel_rfl) ?_
      change wpAnyH _ _ _ _ _ _ _ _ (World.drew _)
      generalize World.drew _ = wh at *
      refine wpAnyH_ready (rs := [0]) (by kernel_rfl) (by simp) ?_
      refine AllReadyH.cons rfl (fun K hK => ?_) AllReadyH.nil
      go_simp
      refine (awake_any _).mono ?_
      rintro e W1 ⟨rfl, hb⟩
      have C := C.call hb
      refine hK.out _ _ C (fun _ => ?_)
      clear hK K hb
      refine wpAnyH_take (i := 1) (v := ?_) rfl (by kernel_rfl) (by kernel_rfl) (by kernel_rfl) (fun _ _ _ h => h) (Or.inl ⟨by kernel_rfl, ?_⟩) C ?_
      rotate_left
      · (intro W hS; clear hS; go_simp; try (with_reducible rfl))
      refine wpAnyH_take (i := 2) (v := ?_) rfl (by kernel_rfl) (by kernel_rfl) (by kernel_rfl) (fun _ _ _ h => h) (Or.inl ⟨by kernel_rfl, ?_⟩) C ?_
      rotate_left
      · (intro W hS; have s0 := hS.x 0; have s1 := hS.x 1; have s2 := hS.x 2; have s3 := hS.x 3; simp at s0 s1 s2 s3; clear hS; go_simp; try (with_reducible rfl))
      refine wpAnyH_take (i := 3) (v := ?_) rfl (by kernel_rfl) (by kernel_rfl) (by kernel_rfl) (fun _ _ _ h => h) (Or.inl ⟨by kernel_rfl, ?_⟩) C ?_
      rotate_left
      · (intro W hS; clear hS; go_simp; try (with_reducible rfl))
      refine wpAnyH_take (i := 5) (v := ?_) rfl (by kernel_rfl) (by kernel_rfl) (by kernel_rfl) (fun _ _ _ h => h) (Or.inl ⟨by kernel_rfl, ?_⟩) C ?_
      rotate_left
      · (intro W hS; have s0 := hS.x 0; have s1 := hS.x 1; have s2 := hS.x 2; have s3 := hS.x 3; simp at s0 s1 s2 s3; clear hS; go_simp; try (with_reducible rfl))
      refine wpAnyH_take (i := 7) (v := ?_) rfl (by kernel_rfl) (by kernel_rfl) (by kernel_rfl) (fun _ _ _ h => h) (Or.inl ⟨by kernel_rfl, ?_⟩) C ?_
      rotate_left
      · (intro W hS; clear hS; go_simp; try (with_reducible rfl))
      refine wpAnyH_ready (rs := [4]) (by kernel_rfl) (by simp) ?_
      refine AllReadyH.cons rfl (fun K hK => ?_) AllReadyH.nil
      go_simp
      refine (HE.out.1 _ C.below).mono ?_
      rintro e W2 ⟨rfl, hb⟩
      have C := C.call hb
      refine hK.out _ _ C (fun _ => ?_)
      clear hK K hb
      have hrf := HX.out.1 _ C.below
      refine wpAnyH_ready (rs := [6]) (by kernel_rfl) (by simp) ?_
      refine AllReadyH.cons rfl (fun K hK => ?_) AllReadyH.nil
      go_simp
      refine (hrf).mono ?_
      rintro e W3 ⟨it, hpi, rfl, hit, hb⟩
      have hrs := refshape_any _ it t W3 hit
      rw [hpi, ← HE.out.2.2.2.1] at hrs
      clear hrf hpi hit
      obtain ⟨jk, jm, js, ja, jc, jl⟩ := it
      simp only [It.val, It.cells, It.k, It.n, It.s, It.a, It.cap, It.l] at hrs ⊢
      have C := C.call hb
      refine hK.out _ _ C (fun _ => ?_)
      clear hK K hb
      refine wpAnyH_ready (rs := [8]) (by kernel_rfl) (by simp) ?_
      refine AllReadyH.cons rfl (fun K hK => ?_) AllReadyH.nil
      go_simp
      refine (hrs).mono ?_
      rintro e W4 ⟨rfl, hb⟩
      have C := C.call hb
      refine hK.out _ _ C (fun _ => ?_)
      clear hK K hb
      clear hrs
      refine wpAnyH_take (i := 9) (v := .bool true) rfl (by kernel_rfl) (by kernel_rfl) (by kernel_rfl) (fun _ _ _ h => h) (Or.inl ⟨by kernel_rfl, ?_⟩) C ?_
      · (intro W hS; clear hS; go_simp; first | done | (with_reducible rfl) | simp)
      refine wpAnyH_take (i := 10) (v := .bool true) rfl (by kernel_rfl) (by kernel_rfl) (by kernel_rfl) (fun _ _ _ h => h) (Or.inl ⟨by kernel_rfl, ?_⟩) C ?_
      · (intro W hS; clear hS; go_simp; first | done | (with_reducible rfl) | simp)
      refine wpAnyH_take (i := 11) (v := .bool true) rfl (by kernel_rfl) (by kernel_rfl) (by kernel_rfl) (fun _ _ _ h => h) (Or.inl ⟨by kernel_rfl, ?_⟩) C ?_
      · (intro W hS; clear hS; go_simp; first | done | (with_reducible rfl) | simp)
      refine wpAnyH_take (i := 12) (v := ?_) rfl (by kernel_rfl) (by kernel_rfl) (by kernel_rfl) (fun _ _ _ h => h) (Or.inl ⟨by kernel_rfl, ?_⟩) C ?_
      rotate_left
      · (intro W hS; have u0 := hS.y 0; have u1 := hS.y 1; have u2 := hS.y 2; have u3 := hS.y 3; simp at u0 u1 u2 u3; clear hS; go_simp; try (with_reducible rfl))
      refine wpAnyH_take (i := 14) (v := ?_) rfl (by kernel_rfl) (by kernel_rfl) (by kernel_rfl) (fun _ _ _ h => h) (Or.inl ⟨by kernel_rfl, ?_⟩) C ?_
      rotate_left
      · (intro W hS; have s0 := hS.x 0; have s1 := hS.x 1; have s2 := hS.x 2; have s3 := hS.x 3; simp at s0 s1 s2 s3; clear hS; go_simp; try (with_reducible rfl))
      have hry := H3.out.2.2 _ C.below3
      refine wpAnyH_ready (rs := [13]) (by kernel_rfl) (by simp) ?_
      refine AllReadyH.cons rfl (fun K hK => ?_) AllReadyH.nil
      go_simp
      refine (hry).mono ?_
      rintro e W5 ⟨it, hpi, rfl, hit, hb⟩
      have hsm := fun W (hb : Below W5.heap.size W5 W) (jt : It) S' (h : jt.In W S') => refsame_any it.sz it (Nat.le_refl _) _ S' jt W (It.In.kept (keptS_any hb) it hit) h
      rw [hpi] at hsm
      clear hry hpi hit
      obtain ⟨jk, jm, js, ja, jc, jl⟩ := it
      simp only [It.val, It.cells, It.k, It.n, It.s, It.a, It.cap, It.l] at hsm ⊢
      have C := C.call hb
      refine hK.out _ _ C (fun _ => ?_)
      clear hK K hb
      have hrf := HX.out.1 _ C.below
      refine wpAnyH_ready (rs := [15]) (by kernel_rfl) (by simp) ?_
      refine AllReadyH.cons rfl (fun K hK => ?_) AllReadyH.nil
      go_simp
      refine (hrf).mono ?_
      rintro e W6 ⟨it, hpi, rfl, hit, hb⟩
      obtain ⟨jk, jm, js, ja, jc, jl⟩ := it
      have hs2 := hsm _ hb (It.mk 3 0 ⟨#[]⟩ ja jc jl) _ ⟨by decide, hit.2.1, hit.2.2⟩
      have hpl : It.pureAll jl = PL := by have h5 := HE.out.2.2.2.2.1; rw [← hpi, It.pure] at h5; injection h5
      rw [show (It.mk 3 0 ⟨#[]⟩ ja jc jl).pure = .mk 3 0 ⟨#[]⟩ PL from by rw [It.pure, hpl], sameP_refl] at hs2
      clear hrf hpi hit hsm hpl
      simp only [It.val, It.cells, It.k, It.n, It.s, It.a, It.cap, It.l] at hs2 ⊢
      have C := C.call hb
      refine hK.out _ _ C (fun _ => ?_)
      clear hK K hb
      refine wpAnyH_take (i := 16) (v := ?_) rfl (by kernel_rfl) (by kernel_rfl) (by kernel_rfl) (fun _ _ _ h => h) (Or.inl ⟨by kernel_rfl, ?_⟩) C ?_
      rotate_left
      · (intro W hS; clear hS; go_simp; try (with_reducible rfl))
      refine wpAnyH_take (i := 17) (v := ?_) rfl (by kernel_rfl) (by kernel_rfl) (by kernel_rfl) (fun _ _ _ h => h) (Or.inl ⟨by kernel_rfl, ?_⟩) C ?_
      rotate_left
      · (intro W hS; clear hS; go_simp; try (with_reducible rfl))
      refine wpAnyH_ready (rs := [18]) (by kernel_rfl) (by simp) ?_
      refine AllReadyH.cons rfl (fun K hK => ?_) AllReadyH.nil
      go_simp
      refine (hs2).mono ?_
      rintro e W7 ⟨rfl, hb⟩
      have C := C.call hb
      refine hK.out _ _ C (fun _ => ?_)
      clear hK K hb
      clear hs2
      refine wpAnyH_take (i := 19) (v := .bool true) rfl (by kernel_rfl) (by kernel_rfl) (by kernel_rfl) (fun _ _ _ h => h) (Or.inl ⟨by kernel_rfl, ?_⟩) C ?_
      · (intro W hS; clear hS; go_simp; first | done | (with_reducible rfl) | simp)
      refine wpAnyH_take (i := 20) (v := .bool true) rfl (by kernel_rfl) (by kernel_rfl) (by kernel_rfl) (fun _ _ _ h => h) (Or.inl ⟨by kernel_rfl, ?_⟩) C ?_
      · (intro W hS; clear hS; go_simp; first | done | (with_reducible rfl) | simp)
      refine wpAnyH_take (i := 21) (v := ?_) rfl (by kernel_rfl) (by kernel_rfl) (by kernel_rfl) (fun _ _ _ h => h) (Or.inl ⟨by kernel_rfl, ?_⟩) C ?_
      rotate_left
      · (intro W hS; clear hS; go_simp; try (with_reducible rfl))
      refine wpAnyH_take (i := 22) (v := ?_) rfl (by kernel_rfl) (by kernel_rfl) (by kernel_rfl) (fun _ _ _ h => h) (Or.inl ⟨by kernel_rfl, ?_⟩) C ?_
      rotate_left
      · (intro W hS; have s0 := hS.x 0; have s1 := hS.x 1; have s2 := hS.x 2; have s3 := hS.x 3; simp at s0 s1 s2 s3; clear hS; go_simp; try (with_reducible rfl))
      refine wpAnyH_take (i := 24) (v := ?_) rfl (by kernel_rfl) (by kernel_rfl) (by kernel_rfl) (fun _ _ _ h => h) (Or.inl ⟨by kernel_rfl, ?_⟩) C ?_
      rotate_left
      · (intro W hS; clear hS; go_simp; try (with_reducible rfl))
      refine wpAnyH_take (i := 25) (v := ?_) rfl (by kernel_rfl) (by kernel_rfl) (by kernel_rfl) (fun _ _ _ h => h) (Or.inl ⟨by kernel_rfl, ?_⟩) C ?_
      rotate_left
      · (intro W hS; have s0 := hS.x 0; have s1 := hS.x 1; have s2 := hS.x 2; have s3 := hS.x 3; simp at s0 s1 s2 s3; clear hS; go_simp; try (with_reducible rfl))
      refine wpAnyH_take (i := 26) (v := ?_) rfl (by kernel_rfl) (by kernel_rfl) (by kernel_rfl) (fun _ _ _ h => h) (Or.inl ⟨by kernel_rfl, ?_⟩) C ?_
      rotate_left
      · (intro W hS; clear hS; go_simp; try (with_reducible rfl))
      refine wpAnyH_ready (rs := [23]) (by kernel_rfl) (by simp) ?_
      refine AllReadyH.cons rfl (fun K hK => ?_) AllReadyH.nil
      go_simp
      refine (num_any xn _).mono ?_
      rintro e W8 ⟨rfl, hb⟩
      have C := C.call hb
      refine hK.out _ _ C (fun _ => ?_)
      clear hK K hb
      refine wpAnyH_ready (rs := [27]) (by kernel_rfl) (by simp) ?_
      refine AllReadyH.cons rfl (fun K hK => ?_) AllReadyH.nil
      go_simp
      refine (same_num xn _).mono ?_
      rintro e W9 ⟨rfl, hb⟩
      have C := C.call hb
      refine hK.out _ _ C (fun _ => ?_)
      clear hK K hb
      refine wpAnyH_take (i := 28) (v := .bool true) rfl (by kernel_rfl) (by kernel_rfl) (by kernel_rfl) (fun _ _ _ h => h) (Or.inl ⟨by kernel_rfl, ?_⟩) C ?_
      · (intro W hS; clear hS; go_simp; first | done | (with_reducible rfl) | simp)
      refine wpAnyH_take (i := 29) (v := .bool true) rfl (by kernel_rfl) (by kernel_rfl) (by kernel_rfl) (fun _ _ _ h => h) (Or.inl ⟨by kernel_rfl, ?_⟩) C ?_
      · (intro W hS; clear hS; go_simp; first | done | (with_reducible rfl) | simp)
      refine wpAnyH_take (i := 30) (v := ?_) rfl (by kernel_rfl) (by kernel_rfl) (by kernel_rfl) (fun _ _ _ h => h) (Or.inl ⟨by kernel_rfl, ?_⟩) C ?_
      rotate_left
      · (intro W hS; clear hS; go_simp; try (with_reducible rfl))
      refine wpAnyH_take (i := 31) (v := ?_) rfl (by kernel_rfl) (by kernel_rfl) (by kernel_rfl) (fun _ _ _ h => h) (Or.inl ⟨by kernel_rfl, ?_⟩) C ?_
      rotate_left
      · (intro W hS; have s0 := hS.x 0; have s1 := hS.x 1; have s2 := hS.x 2; have s3 := hS.x 3; simp at s0 s1 s2 s3; clear hS; go_simp; try (with_reducible rfl))
      refine wpAnyH_take (i := 33) (v := ?_) rfl (by kernel_rfl) (by kernel_rfl) (by kernel_rfl) (fun _ _ _ h => h) (Or.inl ⟨by kernel_rfl, ?_⟩) C ?_
      rotate_left
      · (intro W hS; clear hS; go_simp; try (with_reducible rfl))
      refine wpAnyH_take (i := 34) (v := ?_) rfl (by kernel_rfl) (by kernel_rfl) (by kernel_rfl) (fun _ _ _ h => h) (Or.inl ⟨by kernel_rfl, ?_⟩) C ?_
      rotate_left
      · (intro W hS; have s0 := hS.x 0; have s1 := hS.x 1; have s2 := hS.x 2; have s3 := hS.x 3; simp at s0 s1 s2 s3; clear hS; go_simp; try (with_reducible rfl))
      refine wpAnyH_take (i := 35) (v := ?_) rfl (by kernel_rfl) (by kernel_rfl) (by kernel_rfl) (fun _ _ _ h => h) (Or.inl ⟨by kernel_rfl, ?_⟩) C ?_
      rotate_left
      · (intro W hS; clear hS; go_simp; try (with_reducible rfl))
      refine wpAnyH_ready (rs := [32]) (by kernel_rfl) (by simp) ?_
      refine AllReadyH.cons rfl (fun K hK => ?_) AllReadyH.nil
      go_simp
      refine (text_any xs _).mono ?_
      rintro e W10 ⟨rfl, hb⟩
      have C := C.call hb
      refine hK.out _ _ C (fun _ => ?_)
      clear hK K hb
      refine wpAnyH_ready (rs := [36]) (by kernel_rfl) (by simp) ?_
      refine AllReadyH.cons rfl (fun K hK => ?_) AllReadyH.nil
      go_simp
      refine (same_text xs HE.out.2.2.2.2.2.2.2 _).mono ?_
      rintro e W11 ⟨rfl, hb⟩
      have C := C.call hb
      refine hK.out _ _ C (fun _ => ?_)
      clear hK K hb
      refine wpAnyH_take (i := 37) (v := .bool true) rfl (by kernel_rfl) (by kernel_rfl) (by kernel_rfl) (fun _ _ _ h => h) (Or.inl ⟨by kernel_rfl, ?_⟩) C ?_
      · (intro W hS; clear hS; go_simp; first | done | (with_reducible rfl) | simp)
      refine wpAnyH_take (i := 38) (v := ?_) rfl (by kernel_rfl) (by kernel_rfl) (by kernel_rfl) (fun _ _ _ h => h) (Or.inl ⟨by kernel_rfl, ?_⟩) C ?_
      rotate_left
      · (intro W hS; clear hS; go_simp; try (with_reducible rfl))
      refine wpAnyH_done (by kernel_rfl) ?_ _
      go_wp2_with fail
      go_ret
      exact ⟨rfl, C.below⟩
end Go.Proofs.Ytlfefgfpachehaa

namespace Go.Proofs.Ytlfefgfpachehaa.canonShapesLaw
open Go.ChangeShapes Go.WideShapes Go.ChangeAt Go.RowKit
open Go.ChangeMaps (open_string shut_string)

theorem own : ownKnob Try.prog.godebug = none := by kernel_rfl
set_option maxRecDepth 100000 in
theorem lifted (os : Os) (started : os.Started) (H : Type) (enc : TypeId × Value → H) :
    ReturnsInHanded {} Try.checked os 7 .any (Rows.canonShapesSpec.pre6 enc Try.prog Try.f7 Rows.canonShapesRow.domain false) (Rows.canonShapesSpec.post enc Try.prog Try.f7 false true false false) := by
  refine returnsInHanded_of_change_sized (C := Try.checked) own started (by kernel_rfl) Try.func7
    (ChangeSpec.witness6 (enc := enc) (C := Try.checked) false ⟨#[], #[.agg #[.int .i64 0, .int .i64 0, .string ⟨#[]⟩, .slice none 0 0], .string ⟨#[]⟩], []⟩ 8 (by kernel_rfl) (by kernel_rfl) (by kernel_rfl) (by kernel_rfl)) ?_
  intro W base args ds gs before hval0 hW hcnd hsz _
  have hval : ∀ (j : Nat) t v, Try.f7.params[j]? = some t → args[j]? = some v → Value.okWide Try.prog W .any base t v := hval0
  have hW' := hW
  obtain ⟨p, q, hA0, hV, rfl, hfz, hnd⟩ := hW
  have hA : DataW.TrodAll enc Try.prog W 0 (fun _ => true) true Try.f7.params.toList args.toList ds p := hA0
  rw [Try.params7] at hA hval
  obtain ⟨v0, vs0, d0, ds0, p0, q0, hargs, rfl, rfl, h0, r0⟩ := trodAll_cons hA
  obtain ⟨v1, vs1, d1, ds1, p1, q1, rfl, rfl, rfl, h1, r1⟩ := trodAll_cons r0
  obtain ⟨rfl, rfl, rfl⟩ := trodAll_nil r1
  obtain rfl : args = #[v0, v1] := by cases args; simp_all
  obtain ⟨rfl, rfl⟩ := trodVars_none hV
  obtain ⟨cs0, rfl, hcs0⟩ := okWide_struct Try.underlying24 (hval 0 24 v0 rfl rfl)
  have hk0 := h0
  obtain ⟨fuel0, hf0⟩ := h0
  obtain ⟨s1, rfl, rfl, rfl, ws1⟩ := open_string Try.underlying9 (hval 1 9 v1 rfl rfl) h1
  clear hA0 hval0
  simp only [List.append_nil] at hW'
  have hlt0 : ∀ x ∈ p0, x.block < W.heap.size := fun x hx => by simpa using hW'.lt x (by simp [hx])
  have hw0 : (d0.weights Try.prog 24).all (· ≤ reachBytes) = true := weights_head (ts := [9]) hsz
  obtain ⟨it0, hit0, hin0, hsm0⟩ := open_item fuel0 _ d0 p0 hf0 hlt0 hw0
  obtain rfl : cs0 = it0.cells := Array.toList_inj.1 hit0
  refine (shapes_law it0 (hin := hin0) (hsm := hsm0) s1 (by simpa using ws1) (w := W)).mono fun e W' ⟨he, hb⟩ => ?_
  subst he
  exact ⟨_, rfl, _, _, _, [], _, [], hW', trodAll_cons_mk (shut_bool Try.underlying4 _) trodAll_mk0, (trodAll_cons_mk (Below.trod laidOut (by kernel_rfl) (of_decide_eq_true (by kernel_rfl)) hk0 hb hlt0) (trodAll_cons_mk (shut_string Try.underlying9 ws1) trodAll_mk0)), rfl, hb.frame _, fun h => by cases h⟩
theorem over : Rows.canonShapesRow.holds Try.pinned (OpenSpec.ofChange Rows.canonShapesSpec) :=
  OpenClaim.holds_of_wide 7 Try.f7 rfl rfl rfl rfl rfl rfl rfl ⟨rfl, rfl, rfl, rfl, rfl⟩ rfl rfl rfl rfl rfl (by kernel_rfl) Try.func7 (by kernel_rfl)
    (of_decide_eq_true (by kernel_rfl)) (by unfold Func.isWrapper; first | (rw [if_pos (by decide +kernel)]; kernel_rfl) | (rw [if_neg (by decide +kernel)]; exact ⟨rfl, rfl⟩))
    (fun os started H enc _ => lifted os started H enc)
end Go.Proofs.Ytlfefgfpachehaa.canonShapesLaw

namespace Go.Proofs.Ytlfefgfpachehaa
theorem canonShapes_said : Rows.CanonShapesSaid := canonShapesLaw.over
end Go.Proofs.Ytlfefgfpachehaa
