/- segs: isHead at what a store wrote. -/
import Derived.Test.YtdmbombjkinboaaGreatYScan
namespace Go.Proofs.YtdmbombjkinboaaGreat
open Go.RowKit
open Dk Sg Fr

theorem decR_head (n k : Nat) (hn : n < 256) (hk : k < 256 ^ 4) : decR (headB n k) = .ok (headP n k) := by
  have hm := may_head n k hn hk
  have hl := head_len n k hn hk
  have := Cn.item_bytes 6 (headP n k) 0 0 [] hm (by unfold headB at hl; omega)
  rw [List.append_nil] at this
  unfold decR headB
  rw [this]; rfl
theorem list_head (w : World) (n k : Nat) :
    Calls Tryz.prog 86 #[.slice (some ⟨w.heap.size, 0, none⟩) 3 3] (w.alloc (.cells #[.int .i64 2, .int .i64 0, .string ⟨#[115, 101, 103]⟩, .slice none 0 0, .int .i64 1, .int .i64 (n : Int), .string ⟨#[]⟩, .slice none 0 0, .int .i64 1, .int .i64 (k : Int), .string ⟨#[]⟩, .slice none 0 0] 115)) fun e w' =>
      ∃ x : It, e = .returned x.val ∧ x.pure = headP n k ∧ x.In w' ((w.alloc (.cells #[.int .i64 2, .int .i64 0, .string ⟨#[115, 101, 103]⟩, .slice none 0 0, .int .i64 1, .int .i64 (n : Int), .string ⟨#[]⟩, .slice none 0 0, .int .i64 1, .int .i64 (k : Int), .string ⟨#[]⟩, .slice none 0 0] 115)).heap.size ≤ ·) ∧
        Below (w.alloc (.cells #[.int .i64 2, .int .i64 0, .string ⟨#[115, 101, 103]⟩, .slice none 0 0, .int .i64 1, .int .i64 (n : Int), .string ⟨#[]⟩, .slice none 0 0, .int .i64 1, .int .i64 (k : Int), .string ⟨#[]⟩, .slice none 0 0] 115)).heap.size (w.alloc (.cells #[.int .i64 2, .int .i64 0, .string ⟨#[115, 101, 103]⟩, .slice none 0 0, .int .i64 1, .int .i64 (n : Int), .string ⟨#[]⟩, .slice none 0 0, .int .i64 1, .int .i64 (k : Int), .string ⟨#[]⟩, .slice none 0 0] 115)) w' := by
  have hlf : ∀ x ∈ [txtIt segT, numIt n, numIt k], Leaf x := fun x hx => by
    rcases List.mem_cons.1 hx with rfl | hx
    · exact txtIt_leaf (by decide)
    rcases List.mem_cons.1 hx with rfl | hx
    · exact numIt_leaf _
    rcases List.mem_singleton.1 hx with rfl
    exact numIt_leaf _
  exact list_any (w.heap.size ≤ ·) [txtIt segT, numIt n, numIt k] _ 3 _ ((own_three w n k w.heap.size (Nat.le_refl _)).lies (by simp)) (leaf_all hlf _ _) (by rw [leaf_sz hlf]; simp)
set_option maxRecDepth 100000 in
set_option maxHeartbeats 1000000 in
theorem isHead_any (n k : Nat) (hn : n < 256) (hk : k < 256 ^ 4) (w : World) :
    Calls Tryz.prog 76 #[.string (str (headB n k)), .int .i64 (n : Int), .int .i64 (k : Int)] w fun e w' => e = .returned (.bool true) ∧ Below w.heap.size w w' := by
  have hln := head_len n k hn hk
  have hdec := decode_any (str (headB n k)) (by rw [str_size]; unfold maxLen; omega) w
  rw [str_data, decR_head n k hn hk] at hdec
  obtain ⟨body, hbody⟩ : ∃ body, body = str (headB n k) := ⟨_, rfl⟩
  rw [← hbody] at hdec ⊢
  have H := Lib.hid hdec
  clear hdec hln hbody
  go_enter Tryz.func76, Tryz.ntmps76
  go_wp2_with fail
  refine H.out.mono ?_
  rintro r w2 ⟨hb2, it, hp, rfl, hin⟩
  have hsm := fun W (hb : Below w2.heap.size w2 W) (y : It) (hy : y.In W (w.heap.size ≤ ·)) (hyp : y.pure = headP n k) => same_any_leaf it y (w.heap.size ≤ ·) W (It.In.kept (keptS_any hb) it hin) hy
  have hsr : ∀ y : It, y.pure = headP n k → sameP it.pure y.pure = true := fun y hy => by rw [hp, hy]; exact sameP_refl _
  have hsm2 := fun W (hb : Below w2.heap.size w2 W) (y : It) (hy : y.In W (w.heap.size ≤ ·)) (hyp : y.pure = headP n k) => (hsr y hyp) ▸ hsm W hb y hy hyp
  clear hsm hsr hp hin
  obtain ⟨xk, xn, xs, xa, xc, xl⟩ := it
  obtain ⟨L, hL⟩ : ∃ L, L = xl.length := ⟨_, rfl⟩
  simp only [It.val, It.cells, It.k, It.n, It.s, It.a, It.cap, It.l] at hsm2 ⊢
  rw [← hL] at hsm2 ⊢
  clear hL
  go_upto_region 2 with fail
  have hbx : Below w2.heap.size w2 (w2.alloc (.cells #[.int .i64 xk, .int .i64 xn, .string xs, .slice xa L xc] 115)) := (Below.refl _ _).alloc (Nat.le_refl _) _
  have hxx := heap_alloc_new w2 (.cells #[.int .i64 xk, .int .i64 xn, .string xs, .slice xa L xc] 115)
  generalize World.alloc w2 _ = w3 at *
  obtain ⟨gx, hgxe⟩ : ∃ gx, gx = w2.heap.size := ⟨_, rfl⟩
  rw [← hgxe] at hxx ⊢
  have hgx : gx < w3.heap.size := (Array.getElem?_eq_some_iff.1 hxx).1
  obtain ⟨x0, x1, x2, x3⟩ : w3.cell? ⟨gx, 0, none⟩ = some (.int .i64 xk) ∧ w3.cell? ⟨gx, 1, none⟩ = some (.int .i64 xn) ∧ w3.cell? ⟨gx, 2, none⟩ = some (.string xs) ∧ w3.cell? ⟨gx, 3, none⟩ = some (.slice xa L xc) := by
    refine ⟨?_, ?_, ?_, ?_⟩ <;> (rw [cell_of_row _ _ _ _ _ _ hxx]; rfl)
  have H3 := Lib.hid (And.intro (hb2.trans (hbx.mono hb2.size)) (And.intro hxx (fun W (hb : Below w3.heap.size w3 W) => hsm2 W (hbx.trans (hb.mono hbx.size)))))
  clear hbx hxx hsm2 hgxe hb2
  have C : Below w3.heap.size w3 w3.drew := (Below.refl _ _).drew
  refine wp_region_held (S := fun W => Below w3.heap.size w3 W) (by kernel_rfl) ?_
  change wpAnyH _ _ _ _ _ _ _ _ (World.drew _)
  generalize World.drew _ = wh at *
  refine wpAnyH_take (i := 0) (v := ?_) rfl (by kernel_rfl) (by kernel_rfl) (by kernel_rfl) (fun _ _ _ h => h) (Or.inl ⟨by kernel_rfl, ?_⟩) C ?_
  rotate_left
  · (intro W hS; clear hS; go_simp; try (with_reducible rfl))
  refine wpAnyH_take (i := 1) (v := ?_) rfl (by kernel_rfl) (by kernel_rfl) (by kernel_rfl) (fun _ _ _ h => h) (Or.inl ⟨by kernel_rfl, ?_⟩) C ?_
  rotate_left
  · (intro W hS; clear hS; go_simp; try (with_reducible rfl))
  refine wpAnyH_take (i := 2) (v := ?_) rfl (by kernel_rfl) (by kernel_rfl) (by kernel_rfl) (fun _ _ _ h => h) (Or.inl ⟨by kernel_rfl, ?_⟩) C ?_
  rotate_left
  · (intro W hS; clear hS; go_simp; try (with_reducible rfl))
  refine wpAnyH_take (i := 3) (v := .agg #[.int .i64 xk, .int .i64 xn, .string xs, .slice xa L xc]) rfl (by kernel_rfl) (by kernel_rfl) (by kernel_rfl) (fun _ _ _ h => h) (Or.inl ⟨by kernel_rfl, ?_⟩) C ?_
  · (intro W hS; have hx0 : W.cell? ⟨gx, 0, none⟩ = some (.int .i64 xk) := (hS.cell (p := ⟨gx, 0, none⟩) hgx).trans x0; have hx1 : W.cell? ⟨gx, 1, none⟩ = some (.int .i64 xn) := (hS.cell (p := ⟨gx, 1, none⟩) hgx).trans x1; have hx2 : W.cell? ⟨gx, 2, none⟩ = some (.string xs) := (hS.cell (p := ⟨gx, 2, none⟩) hgx).trans x2; have hx3 : W.cell? ⟨gx, 3, none⟩ = some (.slice xa L xc) := (hS.cell (p := ⟨gx, 3, none⟩) hgx).trans x3; clear hS; go_simp; first | done | (with_reducible rfl) | simp)
  refine wpAnyH_take (i := 5) (v := ?_) rfl (by kernel_rfl) (by kernel_rfl) (by kernel_rfl) (fun _ _ _ h => h) (Or.inl ⟨by kernel_rfl, ?_⟩) C ?_
  rotate_left
  · (intro W hS; clear hS; go_simp; try (with_reducible rfl))
  refine wpAnyH_take (i := 7) (v := ?_) rfl (by kernel_rfl) (by kernel_rfl) (by kernel_rfl) (fun _ _ _ h => h) (Or.inl ⟨by kernel_rfl, ?_⟩) C ?_
  rotate_left
  · (intro W hS; clear hS; go_simp; try (with_reducible rfl))
  refine wpAnyH_ready (rs := [4]) (by kernel_rfl) (by simp) ?_
  refine AllReadyH.cons rfl (fun K hK => ?_) AllReadyH.nil
  go_simp
  refine (text_any _ _).mono ?_
  rintro e w4 ⟨rfl, hb⟩
  have C := C.trans (hb.mono C.size)
  refine hK.out _ _ C (fun _ => ?_)
  clear hK K hb
  refine wpAnyH_ready (rs := [6]) (by kernel_rfl) (by simp) ?_
  refine AllReadyH.cons rfl (fun K hK => ?_) AllReadyH.nil
  go_simp
  refine (num_any _ _).mono ?_
  rintro e w5 ⟨rfl, hb⟩
  have C := C.trans (hb.mono C.size)
  refine hK.out _ _ C (fun _ => ?_)
  clear hK K hb
  refine wpAnyH_ready (rs := [8]) (by kernel_rfl) (by simp) ?_
  refine AllReadyH.cons rfl (fun K hK => ?_) AllReadyH.nil
  go_simp
  refine (num_any _ _).mono ?_
  rintro e w6 ⟨rfl, hb⟩
  have C := C.trans (hb.mono C.size)
  refine hK.out _ _ C (fun _ => ?_)
  clear hK K hb
  refine wpAnyH_ready (rs := [9]) (by kernel_rfl) (by simp) ?_
  refine AllReadyH.cons rfl (fun K hK => ?_) AllReadyH.nil
  go_simp
  have C7 := C.alloc C.size (.cells #[.int .i64 2, .int .i64 0, .string ⟨#[115, 101, 103]⟩, .slice none 0 0, .int .i64 1, .int .i64 (n : Int), .string ⟨#[]⟩, .slice none 0 0, .int .i64 1, .int .i64 (k : Int), .string ⟨#[]⟩, .slice none 0 0] 115)
  refine hK.out _ _ C7 (fun _ => ?_)
  clear hK K
  refine wpAnyH_ready (rs := [10]) (by kernel_rfl) (by simp) ?_
  refine AllReadyH.cons rfl (fun K hK => ?_) AllReadyH.nil
  go_simp
  refine (list_head w6 n k).mono ?_
  rintro r w8 ⟨y, rfl, hyp, hyin, hb⟩
  have C8 := C7.trans (hb.mono C7.size)
  have hyin8 : y.In w8 (w.heap.size ≤ ·) := It.In.kept ⟨fun b hb _ => ⟨Nat.le_trans (Nat.le_trans H3.out.1.size C7.size) hb, rfl⟩, Nat.le_refl _⟩ y hyin
  have hY := Lib.hid (And.intro hyp hyin8)
  obtain ⟨yk, yn, ys, ya, yc, yl⟩ := y
  simp only [It.val, It.cells, It.k, It.n, It.s, It.a, It.cap, It.l] at hY ⊢
  refine hK.out _ _ C8 (fun _ => ?_)
  clear hK K hb hyp hyin hyin8 C C7
  refine wpAnyH_ready (rs := [11]) (by kernel_rfl) (by simp) ?_
  refine AllReadyH.cons rfl (fun K hK => ?_) AllReadyH.nil
  go_simp
  refine (H3.out.2.2 w8 C8 _ hY.out.2 hY.out.1).mono ?_
  rintro r w9 ⟨rfl, hb⟩
  have C9 := C8.trans (hb.mono C8.size)
  refine hK.out _ _ C9 (fun _ => ?_)
  clear hK K hb C8
  refine wpAnyH_take (i := 12) (v := ?_) rfl (by kernel_rfl) (by kernel_rfl) (by kernel_rfl) (fun _ _ _ h => h) (Or.inl ⟨by kernel_rfl, ?_⟩) C9 ?_
  rotate_left
  · (intro W hS; clear hS; go_simp; try (with_reducible rfl))
  refine wpAnyH_take (i := 13) (v := ?_) rfl (by kernel_rfl) (by kernel_rfl) (by kernel_rfl) (fun _ _ _ h => h) (Or.inl ⟨by kernel_rfl, ?_⟩) C9 ?_
  rotate_left
  · (intro W hS; clear hS; go_simp; try (with_reducible rfl))
  refine wpAnyH_done (by kernel_rfl) ?_ _
  go_simp
  go_wp2_with fail
  go_ret
  exact ⟨rfl, H3.out.1.trans (C9.mono H3.out.1.size)⟩
end Go.Proofs.YtdmbombjkinboaaGreat
