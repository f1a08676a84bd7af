/- (tree.Peaks).Root: the root of peaks. -/
import Derived.Test.YtdjhlgodecnidaaDoorTrBk
namespace Go.Proofs.YtdjhlgodecnidaaDoor
open Go.RowKit Go.Shelf
open Tr
attribute [local go_sem] Oper.semAt_some

set_option maxRecDepth 100000 in
theorem run_tailT (a : Option Addr) (n K cap : Nat) (h : n + K ≤ cap) : ∃ a2, (∀ W : World, (Instr.slice 22 (.slice a (n + K) cap) (some (.int .i64 (n : Int))) none none).run Tryd.prog W = .ok (.slice a2 K (cap - n)) W) ∧
    ∀ (W : World) (ss ks : List ByteArray), ss.length = n → ks.length = K → TextsAt W a (ss ++ ks) → TextsAt W a2 ks := by
  refine ⟨if cap = n then a else a.map (·.add (n * 1)), fun W => ?_, fun W ss ks hs hk hT j hj => ?_⟩
  · have e := run_slice_l (P := Tryd.prog) W 22 a (n + K) cap Tryd.underlying22 .i64 (n : Int) (by omega) (by omega)
    rw [e]
    have hs : (sizeOf (Tryd.prog.elem 22)).run Tryd.prog W = .ok 1 W := Tryd.sizeOf9 W
    rw [hs]
    simp only [Result.andThen_ok, sliced, Int.toNat_natCast, Nat.add_sub_cancel_left]
  · obtain ⟨b, off, rfl, hb, hc⟩ := hT (n + j) (by rw [List.length_append]; omega)
    rw [if_neg (by omega)]
    refine ⟨b, off + n, by simp [Addr.add], hb, ?_⟩
    rw [show off + n + j = off + (n + j) by omega, hc, List.getD_eq_getElem?_getD, List.getElem?_append_right (by omega), hs, Nat.add_sub_cancel_left, List.getD_eq_getElem?_getD]
theorem rf_size : ∀ (l : List ByteArray), Digs l → (rf l).size = 32
  | [], _ => sumE_size _
  | [x], h => h x (by simp)
  | a :: b :: r, h => sumE_size _
theorem rf_down {P : List ByteArray} {j : Nat} (h : j + 1 < P.length) : rf (P.drop j) = node (P.getD j ByteArray.empty) (rf (P.drop (j + 1))) := by
  rw [List.drop_eq_getElem_cons (by omega), rf_cons _ (fun e => by have := congrArg List.length e; rw [List.length_drop] at this; simp at this; omega), List.getD_eq_getElem?_getD, List.getElem?_eq_getElem (by omega)]; rfl
theorem rf_last {P : List ByteArray} {M : Nat} (h : M = P.length - 1) : rf (P.drop M) = root (P.drop M) := by
  rcases len_cases (P.drop M) with e | ⟨x, e⟩ | e
  · rw [e]; rfl
  · rw [e]; rfl
  · rw [List.length_drop] at e; omega
theorem keeps_below {W W' : World} (h : Below W.heap.size W W') : KeepsOthers W W' := ⟨h.size, fun k _ hk _ => (h.block k (Array.getElem?_eq_some_iff.1 hk).1).trans hk⟩
/-- What holds behind so many rounds. -/
structure PkI (P : List ByteArray) (M : Nat) (a : Option Addr) (cap Rb : Nat) (w : World) (pre : List (Fin M)) (W : World) : Prop where
  body : ∃ r : ByteArray, Boxed W Rb 9 (.string r) ∧ r.size = 32 ∧ (pre <+: bk M → r = rf (P.drop (M - pre.length)))
  box : Boxed W (Rb + 1) 22 (.slice a M cap)
  low : Below w.heap.size w W
theorem PkI.own {P : List ByteArray} {M : Nat} {a : Option Addr} {cap Rb B : Nat} {w : World} (hB : w.heap.size ≤ B) : OwnFrom B (PkI P M a cap Rb w) := by
  rintro s W W' row ⟨⟨r, h1, h2, h3⟩, h7, h9⟩ hg hrow
  have k : ∀ (j : Nat) (o : Obj), W.heap[j]? = some o → o.isCells = true → W'.heap[j]? = some o := fun j o hj ho => (grownBy_keeps_cells hg (fun r e => (hrow r e).2) hj ho).trans hj
  exact ⟨⟨r, k _ _ h1 rfl, h2, h3⟩, k _ _ h7 rfl, h9.grown hg h9.size (fun r e => Nat.le_trans hB (hrow r e).1)⟩
set_option maxRecDepth 100000 in
set_option maxHeartbeats 4000000 in
theorem pkRoot_any (N : Int) (P : List ByteArray) (hP : P.length ≤ 1000) (hD : Digs P) (a : Option Addr) (cap : Nat) (hcap : P.length ≤ cap) (hmax : cap ≤ maxLen) (w : World) (hG : Glob w) (hT : TextsAt w a P) :
    Calls Tryd.prog 25 #[.agg #[.int .i64 N, .slice a P.length cap]] w fun e w' => e = .returned (.string (rf P)) ∧ Below w.heap.size w w' := by
  obtain ⟨M, hM⟩ : ∃ M, M = P.length - 1 := ⟨_, rfl⟩
  obtain ⟨K, hK⟩ : ∃ K, K = P.length - M := ⟨_, rfl⟩
  have hMK : P.length = M + K := by omega
  obtain ⟨a2, htl, hTl⟩ := run_tailT a M K cap (by omega)
  have hdl : (P.drop M).length = K := by rw [List.length_drop]; exact hK.symm
  have hsp : P = P.take M ++ P.drop M := (List.take_append_drop M P).symm
  have hDd : Digs (P.drop M) := fun x hx => hD x (List.mem_of_mem_drop hx)
  have cr := fun W (h : Below w.heap.size w W) => root_any K (P.drop M) hdl (by omega) hDd a2 (cap - M) W (hG.below h) (hTl W (P.take M) (P.drop M) (by rw [List.length_take]; omega) hdl (by rw [← hsp]; exact hT.below h)) (by rw [hdl]; omega) (by omega)
  rw [hdl, ← rf_last hM] at cr
  rw [← hMK] at htl
  have hrs := rf_size _ hDd
  have HD := Lib.hid hD
  obtain ⟨R0, hR0⟩ : ∃ R, R = rf (P.drop M) := ⟨_, rfl⟩
  rw [← hR0] at cr hrs
  obtain ⟨p, hp⟩ : ∃ p, p = P.length := ⟨_, rfl⟩
  rw [← hp] at hP hcap hMK htl ⊢
  have hmx : max ((p : Int) - 1) 0 = (M : Int) := by omega
  have hMc : M ≤ cap := by omega
  have hMp : M ≤ p := by omega
  obtain ⟨cm, hcm⟩ : ∃ c, c = cap - M := ⟨_, rfl⟩
  rw [← hcm] at cr htl
  obtain ⟨w1, hw1⟩ : ∃ w1, w1 = w.alloc (.cells #[.int .i64 N, .slice a p cap] 32) := ⟨_, rfl⟩
  have hb1 : Below w.heap.size w w1 := by rw [hw1]; exact (Below.refl _ _).alloc (Nat.le_refl _) _
  have hg1 : w1.heap[w.heap.size]? = some (.cells #[.int .i64 N, .slice a p cap] 32 (0, 0)) := by rw [hw1]; exact heap_alloc_new _ _
  have H := Lib.hid (And.intro cr (And.intro hb1 (And.intro hg1 (And.intro hR0 (And.intro hrs (And.intro hp hM))))))
  have HT := Lib.hid hT
  have HG := Lib.hid hG
  obtain ⟨q0, q1, qf⟩ := row2 hg1
  clear cr hb1 hg1 hR0 hrs hp hM hK hMK hT hG hTl hdl hsp hDd hcm hD
  refine (callsIn_wide (n := 3)).1 ?_
  refine callsIn_of_wp_marks Tryd.func25 rfl trivial ?_ rfl
  simp only [Tryd.ntmps25, List.size_toArray, List.length_cons, List.length_nil, Nat.reduceAdd, Nat.reduceSub, Array.replicate_succ, Array.replicate_zero, List.push_toArray, List.append_toArray, List.nil_append, List.cons_append]
  gi_wp2
  refine ⟨trivial, ?_⟩
  rw [← hw1]
  refine (callsIn_wide.2 (H.out.1 _ H.out.2.1)).mono ?_
  rintro e w2 ⟨rfl, hb⟩
  have B2 := H.out.2.1.trans (hb.mono H.out.2.1.size)
  have hg2 := (hb.block _ (lt_obj' H.out.2.2.1)).trans H.out.2.2.1
  have q11 : ∀ o, (w2.alloc o).cell? ⟨w.heap.size, 1, none⟩ = some (.slice a p cap) := fun o => by
    have hbb : Below w2.heap.size w2 (w2.alloc o) := (Below.refl _ _).alloc (Nat.le_refl _) _
    exact (row2 ((hbb.block _ (lt_obj' hg2)).trans hg2)).2.1
  have HB := Lib.hid (And.intro B2 hg2)
  clear hb B2 hg2 q0 q1 qf hw1
  gi_wp2
  refine ⟨trivial, ?_⟩
  refine (callsIn_wide.2 (tback_any _ _ _ _)).mono ?_
  rintro e w' ⟨rfl, rfl⟩
  gi_wp2
  obtain ⟨W0, hW0⟩ : ∃ W0, W0 = (w2.alloc (.cells #[.string R0] 9)).alloc (.cells #[.slice a M cap] 22) := ⟨_, rfl⟩
  have hsz0 : W0.heap.size = w2.heap.size + 2 := by rw [hW0]; simp
  have bR : Boxed W0 w2.heap.size 9 (.string R0) := by rw [hW0]; exact (Boxed.new w2 _ _).alloc _
  have bS : Boxed W0 (w2.heap.size + 1) 22 (.slice a M cap) := by
    have := Boxed.new (w2.alloc (.cells #[.string R0] 9)) 22 (.slice a M cap)
    rw [World.size_alloc] at this
    rw [hW0]; exact this
  have hB0 : Below w.heap.size w W0 := by rw [hW0]; exact (HB.out.1.alloc HB.out.1.size _).alloc (by have := HB.out.1.size; simp; omega) _
  have hw2 := HB.out.1.size
  rw [← hW0]
  have hI0 : PkI P M a cap w2.heap.size w ([] : List (Fin M)) W0 :=
    ⟨⟨R0, bR, H.out.2.2.2.2.1, fun _ => by rw [List.length_nil]; exact H.out.2.2.2.1⟩, bS, hB0⟩
  clear hW0 bR
  have hst : SeqStopsK Fence.wide (3 - 1) Tryd.prog 96 #[.pointer (some ⟨w2.heap.size + 1, 0, none⟩)] (encT P) (KL (w2.heap.size + 1) w.heap.size) (fun ys => ys = bk M) (fun pre => pre <+: bk M) M W0 :=
    fun l J Jx W hW hJ hJx hY h0 => tback1_in _ (by decide) l (w2.heap.size + 1) w.heap.size M cap a P (by omega) J Jx W hJ hY ((hW.cell (p := ⟨w2.heap.size + 1, 0, none⟩) (by show w2.heap.size + 1 < _; omega)).trans bS.cell)
      (fun i hi => by
        obtain ⟨b, off, e, hbl, hc⟩ := HT.out i (by have := H.out.2.2.2.2.2.1; omega)
        have hb := hB0.trans (hW.mono (by omega))
        exact ⟨b, off, e, hbl, (hb.cell (p := ⟨b, off + i, none⟩) hbl).trans hc⟩) h0
  refine wpIn_rangeFunc_ownH rfl (by decide) (gf := 96) (lb := #[.pointer (some ⟨w2.heap.size + 1, 0, none⟩)]) rfl trivial (enters_of Tryd.func96 (by kernel_rfl) rfl)
    hst (fun h k => h.trans k) (fun W l o o' hl h1 h2 h3 => ⟨by simp, World.putObj_heap_other (by omega), fun j hj => World.putObj_heap_other (by omega)⟩) (Below.refl _ _) (fun _ => rfl)
    (fun pre W => PkI P M a cap w2.heap.size w pre W) (fun _ _ _ => False)
    (PkI.own (by omega)) (fun _ _ _ _ _ hs _ _ => hs) hI0
    (fun x a' _ => a' = { tmps := #[.agg #[.int .i64 N, .slice a p cap], .pointer (some ⟨w.heap.size, 0, none⟩), .string ⟨#[]⟩, .int .i64 (M : Int), .pointer (some ⟨w2.heap.size, 0, none⟩), undef, (.string (P.getD x.1 ByteArray.empty)), .pointer (some ⟨w.heap.size, 1, none⟩), .slice a p cap, .int .i64 (p : Int), .int .i64 ((p : Int) - 1), .int .i64 (M : Int), .pointer (some ⟨w.heap.size, 1, none⟩), .slice a p cap, .int .i64 (M : Int), .slice a2 K cm, .string R0, .pointer (some ⟨w.heap.size, 1, none⟩), .slice a p cap, .int .i64 (M : Int), .slice a M cap, .func (.func 96) #[] #[.pointer (some ⟨w2.heap.size + 1, 0, none⟩)], .int .i64 (x.1 : Int), (.string (P.getD x.1 ByteArray.empty)), undef, undef, undef, undef], defers := [] })
    (fun x a' _ X Y row hs hg hr => hs)
    ?assign ?body ?done ?stop
  case assign =>
    rintro l' pre x W Q hI hQ
    simp only [encT]
    gi_wp2
    exact hQ _ _ (KeepsFrom.refl _ _) (KL.refl _ _ _) hI rfl
  case body =>
    rintro l' pre x a' W hl' - hI rfl hlt
    obtain ⟨⟨r, h1, h2, h3⟩, h7, h9⟩ := hI
    obtain ⟨k, hk⟩ : ∃ k, k = x.1 := ⟨_, rfl⟩
    have hkM : k < M := by rw [hk]; exact x.2
    rw [← hk]
    obtain ⟨y, hy⟩ : ∃ y, y = P.getD k ByteArray.empty := ⟨_, rfl⟩
    have hy32 : y.size = 32 := by rw [hy]; exact HD.out.getD (by have := H.out.2.2.2.2.2.1; omega)
    rw [← hy]
    have nd := fun W hG => node_any y r (by omega) (by omega) W hG
    obtain ⟨r2, hr2⟩ : ∃ x, x = node y r := ⟨_, rfl⟩
    have hr32 : r2.size = 32 := by rw [hr2]; exact sumE_size _
    rw [← hr2] at nd
    have cR := h1.cell
    have HN := Lib.hid nd
    have HH := Lib.hid (And.intro h1 (And.intro h3 (And.intro h7 (And.intro h9 (And.intro hk (And.intro hy (And.intro hr2 hr32)))))))
    clear nd h1 h3 h7 h9 hk hy hr2 hr32
    gi_wp2
    refine ⟨trivial, ?_⟩
    refine (callsIn_wide.2 (HN.out W (HG.out.below HH.out.2.2.2.1))).mono ?_
    rintro e W5 ⟨rfl, hb⟩
    obtain ⟨h1, h3, h7, h9, hk, hy, hr2, hr32⟩ := HH.out
    have h15 : Boxed W5 w2.heap.size 9 (.string r) := (hb.block _ h1.lt).trans h1
    have h75 : Boxed W5 (w2.heap.size + 1) 22 (.slice a M cap) := (hb.block _ h7.lt).trans h7
    have h95 := h9.trans (hb.mono h9.size)
    have cR5 := h15.cell
    have fR5 := h15.frozen
    have HK := Lib.hid (And.intro h15 (And.intro h75 (And.intro h95 (And.intro hb (And.intro h3 (And.intro hk (And.intro hy (And.intro hr2 hr32))))))))
    clear h1 h3 h7 h9 hk hy hr2 hr32 h15 h75 h95 hb
    gi_wp2
    obtain ⟨h15, h75, h95, hb, h3, hk, hy, hr2, hr32⟩ := HK.out
    have hoth : ∀ j, j ≠ w2.heap.size → (W5.setCell ⟨w2.heap.size, 0, none⟩ (.string r2)).heap[j]? = W5.heap[j]? := fun j hj => Below.heap_setCell _ _ _ _ hj
    refine ⟨((keeps_below hb).from _).trans ((KeepsOthers.setCell _ _ _).from _), ⟨by simpa [World.setCell] using hb.size, (hoth _ (by omega)).trans (h75.trans (HH.out.2.2.1.symm)), fun j hj => ?_⟩, ⟨⟨r2, h15.set _, hr32, fun hp => ?_⟩, (hoth _ (by omega)).trans h75, h95.setCell (by show w.heap.size ≤ w2.heap.size; omega) _⟩⟩
    · have hl1 := HH.out.1.lt
      exact (hoth j (by omega)).trans (hb.block j (by omega))
    · obtain ⟨hp1, hp2, hp3⟩ := bk_prefix hp
      have he := h3 hp1
      rw [← hk] at hp3
      have hlen : (pre ++ [x]).length = pre.length + 1 := List.length_append
      rw [hlen, show M - (pre.length + 1) = k by omega, hr2, hy, he, show M - pre.length = k + 1 by omega]
      exact (rf_down (by have := H.out.2.2.2.2.2.1; have := H.out.2.2.2.2.2.2; omega)).symm
  case done =>
    rintro D ys W hD rfl hI hK
    obtain ⟨⟨r, h1, h2, h3⟩, h7, h9⟩ := hI
    have hr := h3 List.prefix_rfl
    rw [bk_length, Nat.sub_self, List.drop_zero] at hr
    have cR := h1.cell
    have HD2 := Lib.hid (And.intro hr h9)
    clear hr h1 h7 h9 h3
    gi_wp2
    refine ⟨by simp, .inl ⟨_, _, rfl, run_takeDeferred hK, ?_⟩⟩
    refine ⟨_, results_tmp rfl _ _ _, by rw [HD2.out.1]; rfl, HD2.out.2.trans (belowK_b (w := w) (Nat.le_refl _) W D _ _ (by omega) hK rfl rfl)⟩
  case stop =>
    rintro D c pre W _ _ h _
    exact h.elim
end Go.Proofs.YtdjhlgodecnidaaDoor
