/- IxVf, what is wanted of it. -/
import Derived.Test.YtdfkpjmljaanpaaGreatDoorZIxLd
import Derived.Test.YtdfkpjmljaanpaaGreatDoorZIxShw
import Derived.Test.YtdfkpjmljaanpaaGreatDoorZMX5
namespace Go.Proofs.YtdfkpjmljaanpaaGreatDoor
open Go.RowKit
open Cn
def vfV (V : Rw × Bool × Bool) : Value := .tuple #[.agg (rwCs V.1), .bool V.2.1, .int .i64 (if V.2.2 then 0 else 12)]
set_option maxRecDepth 100000 in
set_option maxHeartbeats 40000000 in
theorem verify18_any (rt t : ByteArray) (n : Int) (l : List Ix.Sh) (a0 : Option Addr) (cap : Nat) (w : World) (hG : Glob w) (hT : ShAt w a0 l) (hm : l.length ≤ 1000) (hok : ∀ s ∈ l, s.way.length ≤ 100000) :
    Calls Tryz.prog 19 #[.string rt, .string t, .agg #[.int .i64 n, .slice a0 l.length cap]] w fun e w' => e = .returned (vfV (Ix.verI rt t n l)) ∧ Below w.heap.size w w' := by
  obtain ⟨N, hN⟩ : ∃ N, N = l.length := ⟨_, rfl⟩
  have hsw := fun (W : World) (hb : Below w.heap.size w W) => shows_any t n l a0 cap W (hT.below hb)
  rw [← hN] at hsw hm
  rw [← hN]
  obtain ⟨w1, hw1⟩ : ∃ w1, w1 = (w.alloc (.cells #[.int .i64 n, .slice a0 N cap] 34)).alloc (.cells (rwCs Ix.Rw.zero) 41) := ⟨_, rfl⟩
  have hz : (w.alloc (.cells #[.int .i64 n, .slice a0 N cap] 34)).heap.size = w.heap.size + 1 := World.size_alloc _ _
  have hb1 : Below w.heap.size w w1 := by rw [hw1]; exact ((Below.refl _ _).alloc (Nat.le_refl _) _).alloc (by rw [hz]; omega) _
  have hg1 : w1.heap[w.heap.size]? = some (.cells #[.int .i64 n, .slice a0 N cap] 34 (0, 0)) := by rw [hw1, heap_alloc_old _ _ (by rw [hz]; omega)]; exact heap_alloc_new _ _
  have hg2 : w1.heap[w.heap.size + 1]? = some (.cells (rwCs Ix.Rw.zero) 41 (0, 0)) := by rw [hw1, ← hz]; exact heap_alloc_new _ _
  have hrt := fun (W : World) (hb : Below w.heap.size w W) => root18_any [] none 0 W (hG.below hb) (fun j r h => by simp at h) (by simp) (fun r h => by simp at h)
  simp only [List.length_nil] at hrt
  have hld := fun (s : Ix.Sh) (wa : Option Addr) (wc : Nat) (h0 : Ix.rwOk s.row) (h1 : s.way.length ≤ 100000) (h2 : s.way.length ≤ wc) (h3 : wc ≤ maxLen) (W : World) (hb : Below w.heap.size w W) (h4 : TextsAt W wa s.way) => leads_any rt n s wa wc h0 h1 h2 h3 W (hG.below hb) h4
  have hvs := Ix.ver_shw rt t n l
  obtain ⟨V, hV⟩ : ∃ V, V = Ix.verI rt t n l := ⟨_, rfl⟩
  obtain ⟨B, hB⟩ : ∃ B, B = Ix.shwB t n l := ⟨_, rfl⟩
  obtain ⟨R0, hR0⟩ : ∃ R0, R0 = Ix.rtI [] := ⟨_, rfl⟩
  rw [← hV, ← hB, ← hR0] at hvs
  rw [← hB] at hsw
  rw [← hR0] at hrt
  rw [← hV]
  have H := Lib.hid (And.intro hvs (And.intro hsw (And.intro hrt (And.intro hld (And.intro hN (And.intro hT hok))))))
  have H1 := Lib.hid (And.intro hb1 (And.intro hg1 hg2))
  clear hvs hsw hrt hld hN hT hok hb1 hg1 hg2 hV hB hR0 hG hz
  unfold rwCs Ix.Rw.zero at hw1
  obtain ⟨c0, c1⟩ : w1.cell? ⟨w.heap.size, 0, none⟩ = some (.int .i64 n) ∧ w1.cell? ⟨w.heap.size, 1, none⟩ = some (.slice a0 N cap) := ⟨by rw [cell_of_row _ _ _ _ _ _ H1.out.2.1]; rfl, by rw [cell_of_row _ _ _ _ _ _ H1.out.2.1]; rfl⟩
  go_enter Tryz.func19, Tryz.ntmps19
  go_upto_region 1 with fail
  rw [← hw1]
  clear hw1
  go_wp2_with fail
  refine (H.out.2.1 _ H1.out.1).mono ?_
  rintro e w2 ⟨rfl, hb2⟩
  clear c0 c1
  have H2 := Lib.hid (And.intro (bcall H1.out.1 hb2 H1.out.1.size) (And.intro ((hb2.block _ (lt_of_heap H1.out.2.1)).trans H1.out.2.1) ((hb2.block _ (lt_of_heap H1.out.2.2)).trans H1.out.2.2)))
  clear hb2
  by_cases hBt : B = false
  · have HV := Lib.hid (show V = (Ix.Rw.zero, false, false) from H.out.1.trans (if_neg (fun h => by rw [hBt] at h; cases h.1)))
    subst hBt
    have f2 : ∀ j, w2.frozen? ⟨w.heap.size + 1, j, none⟩ = false := fun j => frozen_of_row _ _ _ _ _ H2.out.2.2
    obtain ⟨d0, d1, d2⟩ := row3 H2.out.2.2
    simp only [Ix.Rw.zero] at d0 d1 d2
    go_wp2_with fail
    refine bodyPost_ret (v := .tuple #[.agg #[.string ⟨#[]⟩, .int .i64 0, .int .i64 0], .bool false, .int .i64 12]) (by simp [results, Tryz.results19, go_sem, d0, d1, d2]) rfl ?_
    exact ⟨by rw [HV.out]; rfl, rput3 H2.out.1 (Nat.le_succ _) _ _ _⟩
  obtain rfl : B = true := by cases B; exact absurd rfl hBt; rfl
  clear hBt
  by_cases hn : n = 0
  · have k0 : (n == 0) = true := by rw [hn]; rfl
    have HN0 := Lib.hid hn
    clear hn
    obtain ⟨c0, c1⟩ : w2.cell? ⟨w.heap.size, 0, none⟩ = some (.int .i64 n) ∧ w2.cell? ⟨w.heap.size, 1, none⟩ = some (.slice a0 N cap) := ⟨by rw [cell_of_row _ _ _ _ _ _ H2.out.2.1]; rfl, by rw [cell_of_row _ _ _ _ _ _ H2.out.2.1]; rfl⟩
    go_wp2_with fail
    refine (H.out.2.2.1 _ H2.out.1).mono ?_
    rintro e w3 ⟨rfl, hb3⟩
    clear c0 c1
    have H3 := Lib.hid (And.intro (bcall H2.out.1 hb3 H2.out.1.size) (And.intro ((hb3.block _ (lt_of_heap H2.out.2.1)).trans H2.out.2.1) ((hb3.block _ (lt_of_heap H2.out.2.2)).trans H2.out.2.2)))
    clear hb3
    by_cases hr : rt = R0
    · have hempt : n = 0 → rt = R0 := fun _ => hr
      have j0 : (rt.toList == R0.toList) = true := by rw [hr]; exact beq_self_eq_true _
      clear hr
      obtain ⟨c0, c1⟩ : w3.cell? ⟨w.heap.size, 0, none⟩ = some (.int .i64 n) ∧ w3.cell? ⟨w.heap.size, 1, none⟩ = some (.slice a0 N cap) := ⟨by rw [cell_of_row _ _ _ _ _ _ H3.out.2.1]; rfl, by rw [cell_of_row _ _ _ _ _ _ H3.out.2.1]; rfl⟩
      have HE := Lib.hid hempt
      clear hempt
      go_wp2_with fail
      clear c0 c1
      go_loopw [10, 30] (fun _ c wr => ∃ i : Nat, i ≤ N ∧ c = .int .i64 i ∧ (l.take i).all (Ix.leadsB rt n) = true ∧ Below w3.heap.size w3 wr) (fun _ c _ => N - (intOf c).toNat)
      case atStart => exact ⟨0, by omega, rfl, rfl, Below.refl _ _⟩
      case round =>
        obtain ⟨i, hi, rfl, hall, hbr⟩ := hrel
        have HR := Lib.hid (And.intro (bcall H3.out.1 hbr H3.out.1.size) (And.intro ((hbr.block _ (lt_of_heap H3.out.2.1)).trans H3.out.2.1) ((hbr.block _ (lt_of_heap H3.out.2.2)).trans H3.out.2.2)))
        by_cases hlt : i < N
        · obtain ⟨s, hs⟩ : ∃ s, l[i]? = some s := ⟨l[i]'(by have := H.out.2.2.2.2.1; omega), List.getElem?_eq_getElem (by have := H.out.2.2.2.2.1; omega)⟩
          obtain ⟨b, off, wa, wc, rfl, hbl, d0, d1, d2, d3, d4, h5, h6, h7⟩ := (H.out.2.2.2.2.2.1.below HR.out.1) i s hs
          have hnx : (l.take (i + 1)).all (Ix.leadsB rt n) = ((l.take i).all (Ix.leadsB rt n) && Ix.leadsB rt n s) := by
            rw [List.take_add_one, hs, List.all_append]; simp
          have hbd : Ix.leadsB rt n s = false → V = (Ix.Rw.zero, false, false) := fun e => H.out.1.trans (if_neg (fun h => by
            have := List.all_eq_true.1 h.2.2 s (List.mem_of_getElem? hs)
            rw [e] at this; cases this))
          have hno : ¬ Ix.rwOk s.row → Ix.leadsB rt n s = false := fun e => by unfold Ix.leadsB; rw [decide_eq_false e, Bool.false_and]
          have hwl := H.out.2.2.2.2.2.2 s (List.mem_of_getElem? hs)
          obtain ⟨w3, hw3⟩ : ∃ w3, w3 = wr.alloc (.cells (shCs (s, wa, wc)) 131) := ⟨_, rfl⟩
          have hb3 : Below wr.heap.size wr w3 := by rw [hw3]; exact (Below.refl _ _).alloc (Nat.le_refl _) _
          have hg3 : w3.heap[wr.heap.size]? = some (.cells (shCs (s, wa, wc)) 131 (0, 0)) := by rw [hw3]; exact heap_alloc_new _ _
          have hmp := mayProve_any s.row
          have hld := fun (h0 : Ix.rwOk s.row) (W : World) (hb : Below w.heap.size w W) (hb2 : Below wr.heap.size wr W) => H.out.2.2.2.1 s wa wc h0 hwl h5 h6 W hb (h7.below hb2)
          have hsc : shCs (s, wa, wc) = #[.int .i64 s.pl, .string s.row.tag, .int .i64 s.row.cnt, .int .i64 s.row.last, .slice wa s.way.length wc] := rfl
          have hrc : rwCs s.row = #[.string s.row.tag, .int .i64 s.row.cnt, .int .i64 s.row.last] := rfl
          rw [hsc] at hw3 hg3 hld
          rw [hrc] at hmp
          obtain ⟨lb, hlb⟩ : ∃ lb, lb = Ix.leadsB rt n s := ⟨_, rfl⟩
          rw [← hlb] at hnx hbd hno hld
          obtain ⟨ob, hob⟩ : ∃ ob, ob = decide (Ix.rwOk s.row) := ⟨_, rfl⟩
          rw [← hob] at hmp
          have hot : ob = true → Ix.rwOk s.row := fun e => of_decide_eq_true (hob.symm.trans e)
          have hof : ob = false → lb = false := fun e => hno (of_decide_eq_false (hob.symm.trans e))
          have hld2 := fun (e : ob = true) => hld (hot e)
          obtain ⟨x0, hx0⟩ : ∃ x, x = s.pl := ⟨_, rfl⟩
          obtain ⟨x1, hx1⟩ : ∃ x, x = s.row.tag := ⟨_, rfl⟩
          obtain ⟨x2, hx2⟩ : ∃ x, x = s.row.cnt := ⟨_, rfl⟩
          obtain ⟨x3, hx3⟩ : ∃ x, x = s.row.last := ⟨_, rfl⟩
          obtain ⟨x4, hx4⟩ : ∃ x, x = s.way.length := ⟨_, rfl⟩
          rw [← hx0, ← hx1, ← hx2, ← hx3, ← hx4] at hw3 hg3 hld2
          rw [← hx1, ← hx2, ← hx3] at hmp
          rw [← hx0] at d0
          rw [← hx1] at d1
          rw [← hx2] at d2
          rw [← hx3] at d3
          rw [← hx4] at d4
          obtain ⟨e0, e1, e2, e3, e4⟩ := cell5 hg3
          have HC := Lib.hid (And.intro hnx (And.intro hbd (And.intro hof (And.intro hmp (And.intro hld2 (And.intro hall (And.intro hg3 (And.intro hbr hb3))))))))
          have H3 := Lib.hid (And.intro (bcall HR.out.1 hb3 HR.out.1.size) (And.intro ((hb3.block _ (lt_of_heap HR.out.2.1)).trans HR.out.2.1) ((hb3.block _ (lt_of_heap HR.out.2.2)).trans HR.out.2.2)))
          clear hall hbr hs hnx hbd hno hwl hb3 hg3 hmp hld hsc hrc hlb hob hot hof hld2 hx0 hx1 hx2 hx3 hx4 hbl h5 h6 h7
          go_upto_region 6 with fail
          rw [← hw3]
          clear hw3 d0 d1 d2 d3 d4
          go_wp2_with fail
          refine (HC.out.2.2.2.1 _).mono ?_
          rintro e w4 ⟨rfl, hb4⟩
          have hg4 := (hb4.block _ (lt_of_heap HC.out.2.2.2.2.2.2.1)).trans HC.out.2.2.2.2.2.2.1
          have hb34 := HC.out.2.2.2.2.2.2.2.2.trans (hb4.mono HC.out.2.2.2.2.2.2.2.2.size)
          clear e0 e1 e2 e3 e4
          have H4 := Lib.hid (And.intro (bcall H3.out.1 hb4 H3.out.1.size) (And.intro ((hb4.block _ (lt_of_heap H3.out.2.1)).trans H3.out.2.1) ((hb4.block _ (lt_of_heap H3.out.2.2)).trans H3.out.2.2)))
          clear hb4
          by_cases hob : ob = false
          · have HV := Lib.hid (HC.out.2.1 (HC.out.2.2.1 hob))
            subst hob
            clear hg4 hb34
            have f2 : ∀ j, w4.frozen? ⟨w.heap.size + 1, j, none⟩ = false := fun j => frozen_of_row _ _ _ _ _ H4.out.2.2
            obtain ⟨d0, d1, d2⟩ := row3 H4.out.2.2
            simp only [Ix.Rw.zero] at d0 d1 d2
            go_wp2_with fail
            refine bodyPost_ret (v := .tuple #[.agg #[.string ⟨#[]⟩, .int .i64 0, .int .i64 0], .bool false, .int .i64 12]) (by simp [results, Tryz.results19, go_sem, d0, d1, d2]) rfl ?_
            exact ⟨by rw [HV.out]; rfl, rput3 H4.out.1 (Nat.le_succ _) _ _ _⟩
          obtain rfl : ob = true := by cases ob; exact absurd rfl hob; rfl
          clear hob
          obtain ⟨e0, e1, e2, e3, e4⟩ := cell5 hg4
          have HB4 := Lib.hid hb34
          clear hg4 hb34
          obtain ⟨c0, c1⟩ : w4.cell? ⟨w.heap.size, 0, none⟩ = some (.int .i64 n) ∧ w4.cell? ⟨w.heap.size, 1, none⟩ = some (.slice (some ⟨b, off, none⟩) N cap) := ⟨by rw [cell_of_row _ _ _ _ _ _ H4.out.2.1]; rfl, by rw [cell_of_row _ _ _ _ _ _ H4.out.2.1]; rfl⟩
          go_wp2_with fail
          refine (HC.out.2.2.2.2.1 (by trivial) _ H4.out.1 HB4.out).mono ?_
          rintro e w5 ⟨rfl, hb5⟩
          have HB5 := Lib.hid (HB4.out.trans (hb5.mono HB4.out.size))
          clear e0 e1 e2 e3 e4 c0 c1
          have H5 := Lib.hid (And.intro (bcall H4.out.1 hb5 H4.out.1.size) (And.intro ((hb5.block _ (lt_of_heap H4.out.2.1)).trans H4.out.2.1) ((hb5.block _ (lt_of_heap H4.out.2.2)).trans H4.out.2.2)))
          clear hb5
          by_cases hlb : lb = false
          · have HV := Lib.hid (HC.out.2.1 hlb)
            subst hlb
            have f2 : ∀ j, w5.frozen? ⟨w.heap.size + 1, j, none⟩ = false := fun j => frozen_of_row _ _ _ _ _ H5.out.2.2
            obtain ⟨d0, d1, d2⟩ := row3 H5.out.2.2
            simp only [Ix.Rw.zero] at d0 d1 d2
            go_wp2_with fail
            refine bodyPost_ret (v := .tuple #[.agg #[.string ⟨#[]⟩, .int .i64 0, .int .i64 0], .bool false, .int .i64 12]) (by simp [results, Tryz.results19, go_sem, d0, d1, d2]) rfl ?_
            exact ⟨by rw [HV.out]; rfl, rput3 H5.out.1 (Nat.le_succ _) _ _ _⟩
          obtain rfl : lb = true := by cases lb; exact absurd rfl hlb; rfl
          clear hlb
          go_wp2_with fail
          go_roundw
          case rel => exact ⟨i + 1, by omega, by go_num, by rw [HC.out.1, HC.out.2.2.2.2.2.1]; rfl, HC.out.2.2.2.2.2.2.2.1.trans (HB5.out.mono HC.out.2.2.2.2.2.2.2.1.size)⟩
          case measure => simp [intOf]; omega
        · obtain rfl : i = N := by omega
          have hVg : V = Ix.gotI t l := by
            rw [List.take_of_length_le (by have := H.out.2.2.2.2.1; omega)] at hall
            exact H.out.1.trans (if_pos ⟨by trivial, HE.out, hall⟩)
          have HV := Lib.hid hVg
          have HK : Hid (∀ s ∈ l, s.row.tag.size = 32) := Lib.hid (fun s hs => by
            rw [List.take_of_length_le (by have := H.out.2.2.2.2.1; omega)] at hall
            exact (Ix.leads_bound (List.all_eq_true.1 hall s hs)).2.2.2.2.2.1)
          clear hall hbr hVg
          obtain ⟨c0, c1⟩ : wr.cell? ⟨w.heap.size, 0, none⟩ = some (.int .i64 n) ∧ wr.cell? ⟨w.heap.size, 1, none⟩ = some (.slice a0 i cap) := ⟨by rw [cell_of_row _ _ _ _ _ _ HR.out.2.1]; rfl, by rw [cell_of_row _ _ _ _ _ _ HR.out.2.1]; rfl⟩
          by_cases h1 : i = 1
          · obtain ⟨s, hl⟩ : ∃ s, l = [s] := by
              have := H.out.2.2.2.2.1
              match l, this with
              | [s], _ => exact ⟨s, rfl⟩
              | [], h => simp at h; omega
              | _ :: _ :: _, h => simp at h; omega
            obtain ⟨b, off, wa, wc, rfl, hbl, d0, m0, m1, m2, d4, -⟩ := (H.out.2.2.2.2.2.1.below HR.out.1) 0 s (by rw [hl]; rfl)
            rw [hl] at HV
            simp only [Nat.zero_mul, Nat.add_zero] at d0 m0 m1 m2 d4
            have HV2 : Hid (V = if s.row.tag = t then (s.row, true, true) else (Ix.Rw.zero, false, true)) := HV
            have HSZ := Lib.hid (show s.row.tag.size ≤ 281474976710656 by rw [HK.out s (by rw [hl]; exact List.mem_singleton.2 rfl)]; decide)
            clear HV hl hbl d0 d4
            obtain ⟨pl, ⟨x, u, z⟩, wy⟩ := s
            simp only at m0 m1 m2 HV2 HSZ
            subst h1
            by_cases hx : x = t
            · have HV3 := Lib.hid (HV2.out.trans (if_pos hx))
              have k0 : (x.toList == t.toList) = true := by rw [hx]; exact beq_self_eq_true _
              clear hx
              go_wp2_with fail
              refine (own18_any x u z HSZ.out _).mono ?_
              rintro e w6 ⟨rfl, hb6⟩
              clear m0 m1 m2 c0 c1
              have H6 := Lib.hid (And.intro (bcall HR.out.1 hb6 HR.out.1.size) (And.intro ((hb6.block _ (lt_of_heap HR.out.2.1)).trans HR.out.2.1) ((hb6.block _ (lt_of_heap HR.out.2.2)).trans HR.out.2.2)))
              clear hb6
              have f2 : ∀ j, w6.frozen? ⟨w.heap.size + 1, j, none⟩ = false := fun j => frozen_of_row _ _ _ _ _ H6.out.2.2
              obtain ⟨d0, d1, d2⟩ := row3 H6.out.2.2
              simp only [Ix.Rw.zero] at d0 d1 d2
              go_wp2_with fail
              refine bodyPost_ret (v := .tuple #[.agg #[.string x, .int .i64 u, .int .i64 z], .bool true, .int .i64 0]) (by simp [results, Tryz.results19, go_sem, d0, d1, d2]) rfl ?_
              exact ⟨by rw [HV3.out]; rfl, rput3 H6.out.1 (Nat.le_succ _) _ _ _⟩
            have HV3 := Lib.hid (HV2.out.trans (if_neg hx))
            have k0 : (x.toList == t.toList) = false := sh_eq0 hx
            clear hx
            have f2 : ∀ j, wr.frozen? ⟨w.heap.size + 1, j, none⟩ = false := fun j => frozen_of_row _ _ _ _ _ HR.out.2.2
            obtain ⟨d0, d1, d2⟩ := row3 HR.out.2.2
            simp only [Ix.Rw.zero] at d0 d1 d2
            go_wp2_with fail
            refine bodyPost_ret (v := .tuple #[.agg #[.string ⟨#[]⟩, .int .i64 0, .int .i64 0], .bool false, .int .i64 0]) (by simp [results, Tryz.results19, go_sem, d0, d1, d2]) rfl ?_
            exact ⟨by rw [HV3.out]; rfl, rput3 HR.out.1 (Nat.le_succ _) _ _ _⟩
          have HV3 := Lib.hid (show V = (Ix.Rw.zero, false, true) by
            rw [HV.out]
            have := H.out.2.2.2.2.1
            match l, this with
            | [s], h => exact absurd h h1
            | [], _ => rfl
            | _ :: _ :: _, _ => rfl)
          have k1 : ((i : Int) == 1) = false := by
            cases e : ((i : Int) == 1) with
            | false => rfl
            | true => have := eq_of_beq e; omega
          clear h1
          have f2 : ∀ j, wr.frozen? ⟨w.heap.size + 1, j, none⟩ = false := fun j => frozen_of_row _ _ _ _ _ HR.out.2.2
          obtain ⟨d0, d1, d2⟩ := row3 HR.out.2.2
          simp only [Ix.Rw.zero] at d0 d1 d2
          go_wp2_with fail
          refine bodyPost_ret (v := .tuple #[.agg #[.string ⟨#[]⟩, .int .i64 0, .int .i64 0], .bool false, .int .i64 0]) (by simp [results, Tryz.results19, go_sem, d0, d1, d2]) rfl ?_
          exact ⟨by rw [HV3.out]; rfl, rput3 HR.out.1 (Nat.le_succ _) _ _ _⟩
    · have HV := Lib.hid (show V = (Ix.Rw.zero, false, false) from H.out.1.trans (if_neg (fun h => hr (h.2.1 HN0.out))))
      have j0 : (rt.toList == R0.toList) = false := sh_eq0 hr
      clear hr
      have f2 : ∀ j, w3.frozen? ⟨w.heap.size + 1, j, none⟩ = false := fun j => frozen_of_row _ _ _ _ _ H3.out.2.2
      obtain ⟨d0, d1, d2⟩ := row3 H3.out.2.2
      simp only [Ix.Rw.zero] at d0 d1 d2
      go_wp2_with fail
      refine bodyPost_ret (v := .tuple #[.agg #[.string ⟨#[]⟩, .int .i64 0, .int .i64 0], .bool false, .int .i64 12]) (by simp [results, Tryz.results19, go_sem, d0, d1, d2]) rfl ?_
      exact ⟨by rw [HV.out]; rfl, rput3 H3.out.1 (Nat.le_succ _) _ _ _⟩
  · have hempt : n = 0 → rt = R0 := fun h => absurd h hn
    have k0 : (n == 0) = false := by
      cases e : (n == 0) with
      | false => rfl
      | true => exact absurd (eq_of_beq e) hn
    clear hn
    obtain ⟨c0, c1⟩ : w2.cell? ⟨w.heap.size, 0, none⟩ = some (.int .i64 n) ∧ w2.cell? ⟨w.heap.size, 1, none⟩ = some (.slice a0 N cap) := ⟨by rw [cell_of_row _ _ _ _ _ _ H2.out.2.1]; rfl, by rw [cell_of_row _ _ _ _ _ _ H2.out.2.1]; rfl⟩
    have HE := Lib.hid hempt
    clear hempt
    go_wp2_with fail
    clear c0 c1
    go_loopw [10, 30] (fun _ c wr => ∃ i : Nat, i ≤ N ∧ c = .int .i64 i ∧ (l.take i).all (Ix.leadsB rt n) = true ∧ Below w2.heap.size w2 wr) (fun _ c _ => N - (intOf c).toNat)
    case atStart => exact ⟨0, by omega, rfl, rfl, Below.refl _ _⟩
    case round =>
      obtain ⟨i, hi, rfl, hall, hbr⟩ := hrel
      have HR := Lib.hid (And.intro (bcall H2.out.1 hbr H2.out.1.size) (And.intro ((hbr.block _ (lt_of_heap H2.out.2.1)).trans H2.out.2.1) ((hbr.block _ (lt_of_heap H2.out.2.2)).trans H2.out.2.2)))
      by_cases hlt : i < N
      · obtain ⟨s, hs⟩ : ∃ s, l[i]? = some s := ⟨l[i]'(by have := H.out.2.2.2.2.1; omega), List.getElem?_eq_getElem (by have := H.out.2.2.2.2.1; omega)⟩
        obtain ⟨b, off, wa, wc, rfl, hbl, d0, d1, d2, d3, d4, h5, h6, h7⟩ := (H.out.2.2.2.2.2.1.below HR.out.1) i s hs
        have hnx : (l.take (i + 1)).all (Ix.leadsB rt n) = ((l.take i).all (Ix.leadsB rt n) && Ix.leadsB rt n s) := by
          rw [List.take_add_one, hs, List.all_append]; simp
        have hbd : Ix.leadsB rt n s = false → V = (Ix.Rw.zero, false, false) := fun e => H.out.1.trans (if_neg (fun h => by
          have := List.all_eq_true.1 h.2.2 s (List.mem_of_getElem? hs)
          rw [e] at this; cases this))
        have hno : ¬ Ix.rwOk s.row → Ix.leadsB rt n s = false := fun e => by unfold Ix.leadsB; rw [decide_eq_false e, Bool.false_and]
        have hwl := H.out.2.2.2.2.2.2 s (List.mem_of_getElem? hs)
        obtain ⟨w3, hw3⟩ : ∃ w3, w3 = wr.alloc (.cells (shCs (s, wa, wc)) 131) := ⟨_, rfl⟩
        have hb3 : Below wr.heap.size wr w3 := by rw [hw3]; exact (Below.refl _ _).alloc (Nat.le_refl _) _
        have hg3 : w3.heap[wr.heap.size]? = some (.cells (shCs (s, wa, wc)) 131 (0, 0)) := by rw [hw3]; exact heap_alloc_new _ _
        have hmp := mayProve_any s.row
        have hld := fun (h0 : Ix.rwOk s.row) (W : World) (hb : Below w.heap.size w W) (hb2 : Below wr.heap.size wr W) => H.out.2.2.2.1 s wa wc h0 hwl h5 h6 W hb (h7.below hb2)
        have hsc : shCs (s, wa, wc) = #[.int .i64 s.pl, .string s.row.tag, .int .i64 s.row.cnt, .int .i64 s.row.last, .slice wa s.way.length wc] := rfl
        have hrc : rwCs s.row = #[.string s.row.tag, .int .i64 s.row.cnt, .int .i64 s.row.last] := rfl
        rw [hsc] at hw3 hg3 hld
        rw [hrc] at hmp
        obtain ⟨lb, hlb⟩ : ∃ lb, lb = Ix.leadsB rt n s := ⟨_, rfl⟩
        rw [← hlb] at hnx hbd hno hld
        obtain ⟨ob, hob⟩ : ∃ ob, ob = decide (Ix.rwOk s.row) := ⟨_, rfl⟩
        rw [← hob] at hmp
        have hot : ob = true → Ix.rwOk s.row := fun e => of_decide_eq_true (hob.symm.trans e)
        have hof : ob = false → lb = false := fun e => hno (of_decide_eq_false (hob.symm.trans e))
        have hld2 := fun (e : ob = true) => hld (hot e)
        obtain ⟨x0, hx0⟩ : ∃ x, x = s.pl := ⟨_, rfl⟩
        obtain ⟨x1, hx1⟩ : ∃ x, x = s.row.tag := ⟨_, rfl⟩
        obtain ⟨x2, hx2⟩ : ∃ x, x = s.row.cnt := ⟨_, rfl⟩
        obtain ⟨x3, hx3⟩ : ∃ x, x = s.row.last := ⟨_, rfl⟩
        obtain ⟨x4, hx4⟩ : ∃ x, x = s.way.length := ⟨_, rfl⟩
        rw [← hx0, ← hx1, ← hx2, ← hx3, ← hx4] at hw3 hg3 hld2
        rw [← hx1, ← hx2, ← hx3] at hmp
        rw [← hx0] at d0
        rw [← hx1] at d1
        rw [← hx2] at d2
        rw [← hx3] at d3
        rw [← hx4] at d4
        obtain ⟨e0, e1, e2, e3, e4⟩ := cell5 hg3
        have HC := Lib.hid (And.intro hnx (And.intro hbd (And.intro hof (And.intro hmp (And.intro hld2 (And.intro hall (And.intro hg3 (And.intro hbr hb3))))))))
        have H3 := Lib.hid (And.intro (bcall HR.out.1 hb3 HR.out.1.size) (And.intro ((hb3.block _ (lt_of_heap HR.out.2.1)).trans HR.out.2.1) ((hb3.block _ (lt_of_heap HR.out.2.2)).trans HR.out.2.2)))
        clear hall hbr hs hnx hbd hno hwl hb3 hg3 hmp hld hsc hrc hlb hob hot hof hld2 hx0 hx1 hx2 hx3 hx4 hbl h5 h6 h7
        go_upto_region 6 with fail
        rw [← hw3]
        clear hw3 d0 d1 d2 d3 d4
        go_wp2_with fail
        refine (HC.out.2.2.2.1 _).mono ?_
        rintro e w4 ⟨rfl, hb4⟩
        have hg4 := (hb4.block _ (lt_of_heap HC.out.2.2.2.2.2.2.1)).trans HC.out.2.2.2.2.2.2.1
        have hb34 := HC.out.2.2.2.2.2.2.2.2.trans (hb4.mono HC.out.2.2.2.2.2.2.2.2.size)
        clear e0 e1 e2 e3 e4
        have H4 := Lib.hid (And.intro (bcall H3.out.1 hb4 H3.out.1.size) (And.intro ((hb4.block _ (lt_of_heap H3.out.2.1)).trans H3.out.2.1) ((hb4.block _ (lt_of_heap H3.out.2.2)).trans H3.out.2.2)))
        clear hb4
        by_cases hob : ob = false
        · have HV := Lib.hid (HC.out.2.1 (HC.out.2.2.1 hob))
          subst hob
          clear hg4 hb34
          have f2 : ∀ j, w4.frozen? ⟨w.heap.size + 1, j, none⟩ = false := fun j => frozen_of_row _ _ _ _ _ H4.out.2.2
          obtain ⟨d0, d1, d2⟩ := row3 H4.out.2.2
          simp only [Ix.Rw.zero] at d0 d1 d2
          go_wp2_with fail
          refine bodyPost_ret (v := .tuple #[.agg #[.string ⟨#[]⟩, .int .i64 0, .int .i64 0], .bool false, .int .i64 12]) (by simp [results, Tryz.results19, go_sem, d0, d1, d2]) rfl ?_
          exact ⟨by rw [HV.out]; rfl, rput3 H4.out.1 (Nat.le_succ _) _ _ _⟩
        obtain rfl : ob = true := by cases ob; exact absurd rfl hob; rfl
        clear hob
        obtain ⟨e0, e1, e2, e3, e4⟩ := cell5 hg4
        have HB4 := Lib.hid hb34
        clear hg4 hb34
        obtain ⟨c0, c1⟩ : w4.cell? ⟨w.heap.size, 0, none⟩ = some (.int .i64 n) ∧ w4.cell? ⟨w.heap.size, 1, none⟩ = some (.slice (some ⟨b, off, none⟩) N cap) := ⟨by rw [cell_of_row _ _ _ _ _ _ H4.out.2.1]; rfl, by rw [cell_of_row _ _ _ _ _ _ H4.out.2.1]; rfl⟩
        go_wp2_with fail
        refine (HC.out.2.2.2.2.1 (by trivial) _ H4.out.1 HB4.out).mono ?_
        rintro e w5 ⟨rfl, hb5⟩
        have HB5 := Lib.hid (HB4.out.trans (hb5.mono HB4.out.size))
        clear e0 e1 e2 e3 e4 c0 c1
        have H5 := Lib.hid (And.intro (bcall H4.out.1 hb5 H4.out.1.size) (And.intro ((hb5.block _ (lt_of_heap H4.out.2.1)).trans H4.out.2.1) ((hb5.block _ (lt_of_heap H4.out.2.2)).trans H4.out.2.2)))
        clear hb5
        by_cases hlb : lb = false
        · have HV := Lib.hid (HC.out.2.1 hlb)
          subst hlb
          have f2 : ∀ j, w5.frozen? ⟨w.heap.size + 1, j, none⟩ = false := fun j => frozen_of_row _ _ _ _ _ H5.out.2.2
          obtain ⟨d0, d1, d2⟩ := row3 H5.out.2.2
          simp only [Ix.Rw.zero] at d0 d1 d2
          go_wp2_with fail
          refine bodyPost_ret (v := .tuple #[.agg #[.string ⟨#[]⟩, .int .i64 0, .int .i64 0], .bool false, .int .i64 12]) (by simp [results, Tryz.results19, go_sem, d0, d1, d2]) rfl ?_
          exact ⟨by rw [HV.out]; rfl, rput3 H5.out.1 (Nat.le_succ _) _ _ _⟩
        obtain rfl : lb = true := by cases lb; exact absurd rfl hlb; rfl
        clear hlb
        go_wp2_with fail
        go_roundw
        case rel => exact ⟨i + 1, by omega, by go_num, by rw [HC.out.1, HC.out.2.2.2.2.2.1]; rfl, HC.out.2.2.2.2.2.2.2.1.trans (HB5.out.mono HC.out.2.2.2.2.2.2.2.1.size)⟩
        case measure => simp [intOf]; omega
      · obtain rfl : i = N := by omega
        have hVg : V = Ix.gotI t l := by
          rw [List.take_of_length_le (by have := H.out.2.2.2.2.1; omega)] at hall
          exact H.out.1.trans (if_pos ⟨by trivial, HE.out, hall⟩)
        have HV := Lib.hid hVg
        have HK : Hid (∀ s ∈ l, s.row.tag.size = 32) := Lib.hid (fun s hs => by
          rw [List.take_of_length_le (by have := H.out.2.2.2.2.1; omega)] at hall
          exact (Ix.leads_bound (List.all_eq_true.1 hall s hs)).2.2.2.2.2.1)
        clear hall hbr hVg
        obtain ⟨c0, c1⟩ : wr.cell? ⟨w.heap.size, 0, none⟩ = some (.int .i64 n) ∧ wr.cell? ⟨w.heap.size, 1, none⟩ = some (.slice a0 i cap) := ⟨by rw [cell_of_row _ _ _ _ _ _ HR.out.2.1]; rfl, by rw [cell_of_row _ _ _ _ _ _ HR.out.2.1]; rfl⟩
        by_cases h1 : i = 1
        · obtain ⟨s, hl⟩ : ∃ s, l = [s] := by
            have := H.out.2.2.2.2.1
            match l, this with
            | [s], _ => exact ⟨s, rfl⟩
            | [], h => simp at h; omega
            | _ :: _ :: _, h => simp at h; omega
          obtain ⟨b, off, wa, wc, rfl, hbl, d0, m0, m1, m2, d4, -⟩ := (H.out.2.2.2.2.2.1.below HR.out.1) 0 s (by rw [hl]; rfl)
          rw [hl] at HV
          simp only [Nat.zero_mul, Nat.add_zero] at d0 m0 m1 m2 d4
          have HV2 : Hid (V = if s.row.tag = t then (s.row, true, true) else (Ix.Rw.zero, false, true)) := HV
          have HSZ := Lib.hid (show s.row.tag.size ≤ 281474976710656 by rw [HK.out s (by rw [hl]; exact List.mem_singleton.2 rfl)]; decide)
          clear HV hl hbl d0 d4
          obtain ⟨pl, ⟨x, u, z⟩, wy⟩ := s
          simp only at m0 m1 m2 HV2 HSZ
          subst h1
          by_cases hx : x = t
          · have HV3 := Lib.hid (HV2.out.trans (if_pos hx))
            have k0 : (x.toList == t.toList) = true := by rw [hx]; exact beq_self_eq_true _
            clear hx
            go_wp2_with fail
            refine (own18_any x u z HSZ.out _).mono ?_
            rintro e w6 ⟨rfl, hb6⟩
            clear m0 m1 m2 c0 c1
            have H6 := Lib.hid (And.intro (bcall HR.out.1 hb6 HR.out.1.size) (And.intro ((hb6.block _ (lt_of_heap HR.out.2.1)).trans HR.out.2.1) ((hb6.block _ (lt_of_heap HR.out.2.2)).trans HR.out.2.2)))
            clear hb6
            have f2 : ∀ j, w6.frozen? ⟨w.heap.size + 1, j, none⟩ = false := fun j => frozen_of_row _ _ _ _ _ H6.out.2.2
            obtain ⟨d0, d1, d2⟩ := row3 H6.out.2.2
            simp only [Ix.Rw.zero] at d0 d1 d2
            go_wp2_with fail
            refine bodyPost_ret (v := .tuple #[.agg #[.string x, .int .i64 u, .int .i64 z], .bool true, .int .i64 0]) (by simp [results, Tryz.results19, go_sem, d0, d1, d2]) rfl ?_
            exact ⟨by rw [HV3.out]; rfl, rput3 H6.out.1 (Nat.le_succ _) _ _ _⟩
          have HV3 := Lib.hid (HV2.out.trans (if_neg hx))
          have k0 : (x.toList == t.toList) = false := sh_eq0 hx
          clear hx
          have f2 : ∀ j, wr.frozen? ⟨w.heap.size + 1, j, none⟩ = false := fun j => frozen_of_row _ _ _ _ _ HR.out.2.2
          obtain ⟨d0, d1, d2⟩ := row3 HR.out.2.2
          simp only [Ix.Rw.zero] at d0 d1 d2
          go_wp2_with fail
          refine bodyPost_ret (v := .tuple #[.agg #[.string ⟨#[]⟩, .int .i64 0, .int .i64 0], .bool false, .int .i64 0]) (by simp [results, Tryz.results19, go_sem, d0, d1, d2]) rfl ?_
          exact ⟨by rw [HV3.out]; rfl, rput3 HR.out.1 (Nat.le_succ _) _ _ _⟩
        have HV3 := Lib.hid (show V = (Ix.Rw.zero, false, true) by
          rw [HV.out]
          have := H.out.2.2.2.2.1
          match l, this with
          | [s], h => exact absurd h h1
          | [], _ => rfl
          | _ :: _ :: _, _ => rfl)
        have k1 : ((i : Int) == 1) = false := by
          cases e : ((i : Int) == 1) with
          | false => rfl
          | true => have := eq_of_beq e; omega
        clear h1
        have f2 : ∀ j, wr.frozen? ⟨w.heap.size + 1, j, none⟩ = false := fun j => frozen_of_row _ _ _ _ _ HR.out.2.2
        obtain ⟨d0, d1, d2⟩ := row3 HR.out.2.2
        simp only [Ix.Rw.zero] at d0 d1 d2
        go_wp2_with fail
        refine bodyPost_ret (v := .tuple #[.agg #[.string ⟨#[]⟩, .int .i64 0, .int .i64 0], .bool false, .int .i64 0]) (by simp [results, Tryz.results19, go_sem, d0, d1, d2]) rfl ?_
        exact ⟨by rw [HV3.out]; rfl, rput3 HR.out.1 (Nat.le_succ _) _ _ _⟩
end Go.Proofs.YtdfkpjmljaanpaaGreatDoor
