/- Merged by program: index.Verify. | index.ProofTexts. | What index.ProofTexts makes is what the document asks, where every row leads. | The texts of an index's root and of a proof are short, and few. | Opening an argument that is a proof of an index (api.IndexProof): rows that are shown, with their ways. | tree.twin, Twin: two unlike texts of one digest. | tree.Twin under digest.Sum, and the laws' Witnessed. -/
import Derived.Test.YtdfkpjmljaanpaaDoorBX1
import Derived.Test.YtdfkpjmljaanpaaDoorMX5
import Derived.Test.YtdfkpjmljaanpaaDoorMX1
import Derived.Test.YtdfkpjmljaanpaaDoorMB
import Derived.Lib.Hide
import Derived.ProofKit
import Derived.OpenShut
import Derived.Deep.Slices
import Derived.Test.YtdfkpjmljaanpaaDoorMT2
import Derived.Test.YtdfkpjmljaanpaaDoorClone
import Derived.Maps.OwnSet
import Derived.Maps.OwnOps
import Derived.Deep.DeepCutAuto
namespace Go.Proofs.YtdfkpjmljaanpaaDoor
open Go.RowKit
open Cn
def vfV (V : Rw × Bool × Bool) : Value := .tuple #[.agg (rwCs V.1), .bool V.2.1, .int .i64 (if V.2.2 then 0 else 12)]
set_option maxRecDepth 100000 in
set_option maxHeartbeats 40000000 in
theorem verify18_any (rt t : ByteArray) (n : Int) (l : List Ix.Sh) (a0 : Option Addr) (cap : Nat) (w : World) (hG : Glob w) (hT : ShAt w a0 l) (hm : l.length ≤ 1000) (hok : ∀ s ∈ l, s.way.length ≤ 100000) :
    Calls Tryd.prog 18 #[.string rt, .string t, .agg #[.int .i64 n, .slice a0 l.length cap]] w fun e w' => e = .returned (vfV (Ix.verI rt t n l)) ∧ Below w.heap.size w w' := by
  obtain ⟨N, hN⟩ : ∃ N, N = l.length := ⟨_, rfl⟩
  have hsw := fun (W : World) (hb : Below w.heap.size w W) => shows_any t n l a0 cap W (hT.below hb)
  rw [← hN] at hsw hm
  rw [← hN]
  obtain ⟨w1, hw1⟩ : ∃ w1, w1 = (w.alloc (.cells #[.int .i64 n, .slice a0 N cap] 50)).alloc (.cells (rwCs Ix.Rw.zero) 38) := ⟨_, rfl⟩
  have hz : (w.alloc (.cells #[.int .i64 n, .slice a0 N cap] 50)).heap.size = w.heap.size + 1 := World.size_alloc _ _
  have hb1 : Below w.heap.size w w1 := by rw [hw1]; exact ((Below.refl _ _).alloc (Nat.le_refl _) _).alloc (by rw [hz]; omega) _
  have hg1 : w1.heap[w.heap.size]? = some (.cells #[.int .i64 n, .slice a0 N cap] 50 (0, 0)) := by rw [hw1, heap_alloc_old _ _ (by rw [hz]; omega)]; exact heap_alloc_new _ _
  have hg2 : w1.heap[w.heap.size + 1]? = some (.cells (rwCs Ix.Rw.zero) 38 (0, 0)) := by rw [hw1, ← hz]; exact heap_alloc_new _ _
  have hrt := fun (W : World) (hb : Below w.heap.size w W) => root18_any [] none 0 W (hG.below hb) (fun j r h => by simp at h) (by simp) (fun r h => by simp at h)
  simp only [List.length_nil] at hrt
  have hld := fun (s : Ix.Sh) (wa : Option Addr) (wc : Nat) (h0 : Ix.rwOk s.row) (h1 : s.way.length ≤ 100000) (h2 : s.way.length ≤ wc) (h3 : wc ≤ maxLen) (W : World) (hb : Below w.heap.size w W) (h4 : TextsAt W wa s.way) => leads_any rt n s wa wc h0 h1 h2 h3 W (hG.below hb) h4
  have hvs := Ix.ver_shw rt t n l
  obtain ⟨V, hV⟩ : ∃ V, V = Ix.verI rt t n l := ⟨_, rfl⟩
  obtain ⟨B, hB⟩ : ∃ B, B = Ix.shwB t n l := ⟨_, rfl⟩
  obtain ⟨R0, hR0⟩ : ∃ R0, R0 = Ix.rtI [] := ⟨_, rfl⟩
  rw [← hV, ← hB, ← hR0] at hvs
  rw [← hB] at hsw
  rw [← hR0] at hrt
  rw [← hV]
  have H := Lib.hid (And.intro hvs (And.intro hsw (And.intro hrt (And.intro hld (And.intro hN (And.intro hT hok))))))
  have H1 := Lib.hid (And.intro hb1 (And.intro hg1 hg2))
  clear hvs hsw hrt hld hN hT hok hb1 hg1 hg2 hV hB hR0 hG hz
  unfold rwCs Ix.Rw.zero at hw1
  obtain ⟨c0, c1⟩ : w1.cell? ⟨w.heap.size, 0, none⟩ = some (.int .i64 n) ∧ w1.cell? ⟨w.heap.size, 1, none⟩ = some (.slice a0 N cap) := ⟨by rw [cell_of_row _ _ _ _ _ _ H1.out.2.1]; rfl, by rw [cell_of_row _ _ _ _ _ _ H1.out.2.1]; rfl⟩
  go_enter Tryd.func18, Tryd.ntmps18
  go_upto_region 1 with fail
  rw [← hw1]
  clear hw1
  go_wp2_with fail
  refine (H.out.2.1 _ H1.out.1).mono ?_
  rintro e w2 ⟨rfl, hb2⟩
  clear c0 c1
  have H2 := Lib.hid (And.intro (bcall H1.out.1 hb2 H1.out.1.size) (And.intro ((hb2.block _ (lt_of_heap H1.out.2.1)).trans H1.out.2.1) ((hb2.block _ (lt_of_heap H1.out.2.2)).trans H1.out.2.2)))
  clear hb2
  by_cases hBt : B = false
  · have HV := Lib.hid (show V = (Ix.Rw.zero, false, false) from H.out.1.trans (if_neg (fun h => by rw [hBt] at h; cases h.1)))
    subst hBt
    have f2 : ∀ j, w2.frozen? ⟨w.heap.size + 1, j, none⟩ = false := fun j => frozen_of_row _ _ _ _ _ H2.out.2.2
    obtain ⟨d0, d1, d2⟩ := row3 H2.out.2.2
    simp only [Ix.Rw.zero] at d0 d1 d2
    go_wp2_with fail
    refine bodyPost_ret (v := .tuple #[.agg #[.string ⟨#[]⟩, .int .i64 0, .int .i64 0], .bool false, .int .i64 12]) (by simp [results, Tryd.results18, go_sem, d0, d1, d2]) rfl ?_
    exact ⟨by rw [HV.out]; rfl, rput3 H2.out.1 (Nat.le_succ _) _ _ _⟩
  obtain rfl : B = true := by cases B; exact absurd rfl hBt; rfl
  clear hBt
  by_cases hn : n = 0
  · have k0 : (n == 0) = true := by rw [hn]; rfl
    have HN0 := Lib.hid hn
    clear hn
    obtain ⟨c0, c1⟩ : w2.cell? ⟨w.heap.size, 0, none⟩ = some (.int .i64 n) ∧ w2.cell? ⟨w.heap.size, 1, none⟩ = some (.slice a0 N cap) := ⟨by rw [cell_of_row _ _ _ _ _ _ H2.out.2.1]; rfl, by rw [cell_of_row _ _ _ _ _ _ H2.out.2.1]; rfl⟩
    go_wp2_with fail
    refine (H.out.2.2.1 _ H2.out.1).mono ?_
    rintro e w3 ⟨rfl, hb3⟩
    clear c0 c1
    have H3 := Lib.hid (And.intro (bcall H2.out.1 hb3 H2.out.1.size) (And.intro ((hb3.block _ (lt_of_heap H2.out.2.1)).trans H2.out.2.1) ((hb3.block _ (lt_of_heap H2.out.2.2)).trans H2.out.2.2)))
    clear hb3
    by_cases hr : rt = R0
    · have hempt : n = 0 → rt = R0 := fun _ => hr
      have j0 : (rt.toList == R0.toList) = true := by rw [hr]; exact beq_self_eq_true _
      clear hr
      obtain ⟨c0, c1⟩ : w3.cell? ⟨w.heap.size, 0, none⟩ = some (.int .i64 n) ∧ w3.cell? ⟨w.heap.size, 1, none⟩ = some (.slice a0 N cap) := ⟨by rw [cell_of_row _ _ _ _ _ _ H3.out.2.1]; rfl, by rw [cell_of_row _ _ _ _ _ _ H3.out.2.1]; rfl⟩
      have HE := Lib.hid hempt
      clear hempt
      go_wp2_with fail
      clear c0 c1
      go_loopw [10, 30] (fun _ c wr => ∃ i : Nat, i ≤ N ∧ c = .int .i64 i ∧ (l.take i).all (Ix.leadsB rt n) = true ∧ Below w3.heap.size w3 wr) (fun _ c _ => N - (intOf c).toNat)
      case atStart => exact ⟨0, by omega, rfl, rfl, Below.refl _ _⟩
      case round =>
        obtain ⟨i, hi, rfl, hall, hbr⟩ := hrel
        have HR := Lib.hid (And.intro (bcall H3.out.1 hbr H3.out.1.size) (And.intro ((hbr.block _ (lt_of_heap H3.out.2.1)).trans H3.out.2.1) ((hbr.block _ (lt_of_heap H3.out.2.2)).trans H3.out.2.2)))
        by_cases hlt : i < N
        · obtain ⟨s, hs⟩ : ∃ s, l[i]? = some s := ⟨l[i]'(by have := H.out.2.2.2.2.1; omega), List.getElem?_eq_getElem (by have := H.out.2.2.2.2.1; omega)⟩
          obtain ⟨b, off, wa, wc, rfl, hbl, d0, d1, d2, d3, d4, h5, h6, h7⟩ := (H.out.2.2.2.2.2.1.below HR.out.1) i s hs
          have hnx : (l.take (i + 1)).all (Ix.leadsB rt n) = ((l.take i).all (Ix.leadsB rt n) && Ix.leadsB rt n s) := by
            rw [List.take_add_one, hs, List.all_append]; simp
          have hbd : Ix.leadsB rt n s = false → V = (Ix.Rw.zero, false, false) := fun e => H.out.1.trans (if_neg (fun h => by
            have := List.all_eq_true.1 h.2.2 s (List.mem_of_getElem? hs)
            rw [e] at this; cases this))
          have hno : ¬ Ix.rwOk s.row → Ix.leadsB rt n s = false := fun e => by unfold Ix.leadsB; rw [decide_eq_false e, Bool.false_and]
          have hwl := H.out.2.2.2.2.2.2 s (List.mem_of_getElem? hs)
          obtain ⟨w3, hw3⟩ : ∃ w3, w3 = wr.alloc (.cells (shCs (s, wa, wc)) 62) := ⟨_, rfl⟩
          have hb3 : Below wr.heap.size wr w3 := by rw [hw3]; exact (Below.refl _ _).alloc (Nat.le_refl _) _
          have hg3 : w3.heap[wr.heap.size]? = some (.cells (shCs (s, wa, wc)) 62 (0, 0)) := by rw [hw3]; exact heap_alloc_new _ _
          have hmp := mayProve_any s.row
          have hld := fun (h0 : Ix.rwOk s.row) (W : World) (hb : Below w.heap.size w W) (hb2 : Below wr.heap.size wr W) => H.out.2.2.2.1 s wa wc h0 hwl h5 h6 W hb (h7.below hb2)
          have hsc : shCs (s, wa, wc) = #[.int .i64 s.pl, .string s.row.tag, .int .i64 s.row.cnt, .int .i64 s.row.last, .slice wa s.way.length wc] := rfl
          have hrc : rwCs s.row = #[.string s.row.tag, .int .i64 s.row.cnt, .int .i64 s.row.last] := rfl
          rw [hsc] at hw3 hg3 hld
          rw [hrc] at hmp
          obtain ⟨lb, hlb⟩ : ∃ lb, lb = Ix.leadsB rt n s := ⟨_, rfl⟩
          rw [← hlb] at hnx hbd hno hld
          obtain ⟨ob, hob⟩ : ∃ ob, ob = decide (Ix.rwOk s.row) := ⟨_, rfl⟩
          rw [← hob] at hmp
          have hot : ob = true → Ix.rwOk s.row := fun e => of_decide_eq_true (hob.symm.trans e)
          have hof : ob = false → lb = false := fun e => hno (of_decide_eq_false (hob.symm.trans e))
          have hld2 := fun (e : ob = true) => hld (hot e)
          obtain ⟨x0, hx0⟩ : ∃ x, x = s.pl := ⟨_, rfl⟩
          obtain ⟨x1, hx1⟩ : ∃ x, x = s.row.tag := ⟨_, rfl⟩
          obtain ⟨x2, hx2⟩ : ∃ x, x = s.row.cnt := ⟨_, rfl⟩
          obtain ⟨x3, hx3⟩ : ∃ x, x = s.row.last := ⟨_, rfl⟩
          obtain ⟨x4, hx4⟩ : ∃ x, x = s.way.length := ⟨_, rfl⟩
          rw [← hx0, ← hx1, ← hx2, ← hx3, ← hx4] at hw3 hg3 hld2
          rw [← hx1, ← hx2, ← hx3] at hmp
          rw [← hx0] at d0
          rw [← hx1] at d1
          rw [← hx2] at d2
          rw [← hx3] at d3
          rw [← hx4] at d4
          obtain ⟨e0, e1, e2, e3, e4⟩ := cell5 hg3
          have HC := Lib.hid (And.intro hnx (And.intro hbd (And.intro hof (And.intro hmp (And.intro hld2 (And.intro hall (And.intro hg3 (And.intro hbr hb3))))))))
          have H3 := Lib.hid (And.intro (bcall HR.out.1 hb3 HR.out.1.size) (And.intro ((hb3.block _ (lt_of_heap HR.out.2.1)).trans HR.out.2.1) ((hb3.block _ (lt_of_heap HR.out.2.2)).trans HR.out.2.2)))
          clear hall hbr hs hnx hbd hno hwl hb3 hg3 hmp hld hsc hrc hlb hob hot hof hld2 hx0 hx1 hx2 hx3 hx4 hbl h5 h6 h7
          go_upto_region 6 with fail
          rw [← hw3]
          clear hw3 d0 d1 d2 d3 d4
          go_wp2_with fail
          refine (HC.out.2.2.2.1 _).mono ?_
          rintro e w4 ⟨rfl, hb4⟩
          have hg4 := (hb4.block _ (lt_of_heap HC.out.2.2.2.2.2.2.1)).trans HC.out.2.2.2.2.2.2.1
          have hb34 := HC.out.2.2.2.2.2.2.2.2.trans (hb4.mono HC.out.2.2.2.2.2.2.2.2.size)
          clear e0 e1 e2 e3 e4
          have H4 := Lib.hid (And.intro (bcall H3.out.1 hb4 H3.out.1.size) (And.intro ((hb4.block _ (lt_of_heap H3.out.2.1)).trans H3.out.2.1) ((hb4.block _ (lt_of_heap H3.out.2.2)).trans H3.out.2.2)))
          clear hb4
          by_cases hob : ob = false
          · have HV := Lib.hid (HC.out.2.1 (HC.out.2.2.1 hob))
            subst hob
            clear hg4 hb34
            have f2 : ∀ j, w4.frozen? ⟨w.heap.size + 1, j, none⟩ = false := fun j => frozen_of_row _ _ _ _ _ H4.out.2.2
            obtain ⟨d0, d1, d2⟩ := row3 H4.out.2.2
            simp only [Ix.Rw.zero] at d0 d1 d2
            go_wp2_with fail
            refine bodyPost_ret (v := .tuple #[.agg #[.string ⟨#[]⟩, .int .i64 0, .int .i64 0], .bool false, .int .i64 12]) (by simp [results, Tryd.results18, go_sem, d0, d1, d2]) rfl ?_
            exact ⟨by rw [HV.out]; rfl, rput3 H4.out.1 (Nat.le_succ _) _ _ _⟩
          obtain rfl : ob = true := by cases ob; exact absurd rfl hob; rfl
          clear hob
          obtain ⟨e0, e1, e2, e3, e4⟩ := cell5 hg4
          have HB4 := Lib.hid hb34
          clear hg4 hb34
          obtain ⟨c0, c1⟩ : w4.cell? ⟨w.heap.size, 0, none⟩ = some (.int .i64 n) ∧ w4.cell? ⟨w.heap.size, 1, none⟩ = some (.slice (some ⟨b, off, none⟩) N cap) := ⟨by rw [cell_of_row _ _ _ _ _ _ H4.out.2.1]; rfl, by rw [cell_of_row _ _ _ _ _ _ H4.out.2.1]; rfl⟩
          go_wp2_with fail
          refine (HC.out.2.2.2.2.1 (by trivial) _ H4.out.1 HB4.out).mono ?_
          rintro e w5 ⟨rfl, hb5⟩
          have HB5 := Lib.hid (HB4.out.trans (hb5.mono HB4.out.size))
          clear e0 e1 e2 e3 e4 c0 c1
          have H5 := Lib.hid (And.intro (bcall H4.out.1 hb5 H4.out.1.size) (And.intro ((hb5.block _ (lt_of_heap H4.out.2.1)).trans H4.out.2.1) ((hb5.block _ (lt_of_heap H4.out.2.2)).trans H4.out.2.2)))
          clear hb5
          by_cases hlb : lb = false
          · have HV := Lib.hid (HC.out.2.1 hlb)
            subst hlb
            have f2 : ∀ j, w5.frozen? ⟨w.heap.size + 1, j, none⟩ = false := fun j => frozen_of_row _ _ _ _ _ H5.out.2.2
            obtain ⟨d0, d1, d2⟩ := row3 H5.out.2.2
            simp only [Ix.Rw.zero] at d0 d1 d2
            go_wp2_with fail
            refine bodyPost_ret (v := .tuple #[.agg #[.string ⟨#[]⟩, .int .i64 0, .int .i64 0], .bool false, .int .i64 12]) (by simp [results, Tryd.results18, go_sem, d0, d1, d2]) rfl ?_
            exact ⟨by rw [HV.out]; rfl, rput3 H5.out.1 (Nat.le_succ _) _ _ _⟩
          obtain rfl : lb = true := by cases lb; exact absurd rfl hlb; rfl
          clear hlb
          go_wp2_with fail
          go_roundw
          case rel => exact ⟨i + 1, by omega, by go_num, by rw [HC.out.1, HC.out.2.2.2.2.2.1]; rfl, HC.out.2.2.2.2.2.2.2.1.trans (HB5.out.mono HC.out.2.2.2.2.2.2.2.1.size)⟩
          case measure => simp [intOf]; omega
        · obtain rfl : i = N := by omega
          have hVg : V = Ix.gotI t l := by
            rw [List.take_of_length_le (by have := H.out.2.2.2.2.1; omega)] at hall
            exact H.out.1.trans (if_pos ⟨by trivial, HE.out, hall⟩)
          have HV := Lib.hid hVg
          have HK : Hid (∀ s ∈ l, s.row.tag.size = 32) := Lib.hid (fun s hs => by
            rw [List.take_of_length_le (by have := H.out.2.2.2.2.1; omega)] at hall
            exact (Ix.leads_bound (List.all_eq_true.1 hall s hs)).2.2.2.2.2.1)
          clear hall hbr hVg
          obtain ⟨c0, c1⟩ : wr.cell? ⟨w.heap.size, 0, none⟩ = some (.int .i64 n) ∧ wr.cell? ⟨w.heap.size, 1, none⟩ = some (.slice a0 i cap) := ⟨by rw [cell_of_row _ _ _ _ _ _ HR.out.2.1]; rfl, by rw [cell_of_row _ _ _ _ _ _ HR.out.2.1]; rfl⟩
          by_cases h1 : i = 1
          · obtain ⟨s, hl⟩ : ∃ s, l = [s] := by
              have := H.out.2.2.2.2.1
              match l, this with
              | [s], _ => exact ⟨s, rfl⟩
              | [], h => simp at h; omega
              | _ :: _ :: _, h => simp at h; omega
            obtain ⟨b, off, wa, wc, rfl, hbl, d0, m0, m1, m2, d4, -⟩ := (H.out.2.2.2.2.2.1.below HR.out.1) 0 s (by rw [hl]; rfl)
            rw [hl] at HV
            simp only [Nat.zero_mul, Nat.add_zero] at d0 m0 m1 m2 d4
            have HV2 : Hid (V = if s.row.tag = t then (s.row, true, true) else (Ix.Rw.zero, false, true)) := HV
            have HSZ := Lib.hid (show s.row.tag.size ≤ 281474976710656 by rw [HK.out s (by rw [hl]; exact List.mem_singleton.2 rfl)]; decide)
            clear HV hl hbl d0 d4
            obtain ⟨pl, ⟨x, u, z⟩, wy⟩ := s
            simp only at m0 m1 m2 HV2 HSZ
            subst h1
            by_cases hx : x = t
            · have HV3 := Lib.hid (HV2.out.trans (if_pos hx))
              have k0 : (x.toList == t.toList) = true := by rw [hx]; exact beq_self_eq_true _
              clear hx
              go_wp2_with fail
              refine (own18_any x u z HSZ.out _).mono ?_
              rintro e w6 ⟨rfl, hb6⟩
              clear m0 m1 m2 c0 c1
              have H6 := Lib.hid (And.intro (bcall HR.out.1 hb6 HR.out.1.size) (And.intro ((hb6.block _ (lt_of_heap HR.out.2.1)).trans HR.out.2.1) ((hb6.block _ (lt_of_heap HR.out.2.2)).trans HR.out.2.2)))
              clear hb6
              have f2 : ∀ j, w6.frozen? ⟨w.heap.size + 1, j, none⟩ = false := fun j => frozen_of_row _ _ _ _ _ H6.out.2.2
              obtain ⟨d0, d1, d2⟩ := row3 H6.out.2.2
              simp only [Ix.Rw.zero] at d0 d1 d2
              go_wp2_with fail
              refine bodyPost_ret (v := .tuple #[.agg #[.string x, .int .i64 u, .int .i64 z], .bool true, .int .i64 0]) (by simp [results, Tryd.results18, go_sem, d0, d1, d2]) rfl ?_
              exact ⟨by rw [HV3.out]; rfl, rput3 H6.out.1 (Nat.le_succ _) _ _ _⟩
            have HV3 := Lib.hid (HV2.out.trans (if_neg hx))
            have k0 : (x.toList == t.toList) = false := sh_eq0 hx
            clear hx
            have f2 : ∀ j, wr.frozen? ⟨w.heap.size + 1, j, none⟩ = false := fun j => frozen_of_row _ _ _ _ _ HR.out.2.2
            obtain ⟨d0, d1, d2⟩ := row3 HR.out.2.2
            simp only [Ix.Rw.zero] at d0 d1 d2
            go_wp2_with fail
            refine bodyPost_ret (v := .tuple #[.agg #[.string ⟨#[]⟩, .int .i64 0, .int .i64 0], .bool false, .int .i64 0]) (by simp [results, Tryd.results18, go_sem, d0, d1, d2]) rfl ?_
            exact ⟨by rw [HV3.out]; rfl, rput3 HR.out.1 (Nat.le_succ _) _ _ _⟩
          have HV3 := Lib.hid (show V = (Ix.Rw.zero, false, true) by
            rw [HV.out]
            have := H.out.2.2.2.2.1
            match l, this with
            | [s], h => exact absurd h h1
            | [], _ => rfl
            | _ :: _ :: _, _ => rfl)
          have k1 : ((i : Int) == 1) = false := by
            cases e : ((i : Int) == 1) with
            | false => rfl
            | true => have := eq_of_beq e; omega
          clear h1
          have f2 : ∀ j, wr.frozen? ⟨w.heap.size + 1, j, none⟩ = false := fun j => frozen_of_row _ _ _ _ _ HR.out.2.2
          obtain ⟨d0, d1, d2⟩ := row3 HR.out.2.2
          simp only [Ix.Rw.zero] at d0 d1 d2
          go_wp2_with fail
          refine bodyPost_ret (v := .tuple #[.agg #[.string ⟨#[]⟩, .int .i64 0, .int .i64 0], .bool false, .int .i64 0]) (by simp [results, Tryd.results18, go_sem, d0, d1, d2]) rfl ?_
          exact ⟨by rw [HV3.out]; rfl, rput3 HR.out.1 (Nat.le_succ _) _ _ _⟩
    · have HV := Lib.hid (show V = (Ix.Rw.zero, false, false) from H.out.1.trans (if_neg (fun h => hr (h.2.1 HN0.out))))
      have j0 : (rt.toList == R0.toList) = false := sh_eq0 hr
      clear hr
      have f2 : ∀ j, w3.frozen? ⟨w.heap.size + 1, j, none⟩ = false := fun j => frozen_of_row _ _ _ _ _ H3.out.2.2
      obtain ⟨d0, d1, d2⟩ := row3 H3.out.2.2
      simp only [Ix.Rw.zero] at d0 d1 d2
      go_wp2_with fail
      refine bodyPost_ret (v := .tuple #[.agg #[.string ⟨#[]⟩, .int .i64 0, .int .i64 0], .bool false, .int .i64 12]) (by simp [results, Tryd.results18, go_sem, d0, d1, d2]) rfl ?_
      exact ⟨by rw [HV.out]; rfl, rput3 H3.out.1 (Nat.le_succ _) _ _ _⟩
  · have hempt : n = 0 → rt = R0 := fun h => absurd h hn
    have k0 : (n == 0) = false := by
      cases e : (n == 0) with
      | false => rfl
      | true => exact absurd (eq_of_beq e) hn
    clear hn
    obtain ⟨c0, c1⟩ : w2.cell? ⟨w.heap.size, 0, none⟩ = some (.int .i64 n) ∧ w2.cell? ⟨w.heap.size, 1, none⟩ = some (.slice a0 N cap) := ⟨by rw [cell_of_row _ _ _ _ _ _ H2.out.2.1]; rfl, by rw [cell_of_row _ _ _ _ _ _ H2.out.2.1]; rfl⟩
    have HE := Lib.hid hempt
    clear hempt
    go_wp2_with fail
    clear c0 c1
    go_loopw [10, 30] (fun _ c wr => ∃ i : Nat, i ≤ N ∧ c = .int .i64 i ∧ (l.take i).all (Ix.leadsB rt n) = true ∧ Below w2.heap.size w2 wr) (fun _ c _ => N - (intOf c).toNat)
    case atStart => exact ⟨0, by omega, rfl, rfl, Below.refl _ _⟩
    case round =>
      obtain ⟨i, hi, rfl, hall, hbr⟩ := hrel
      have HR := Lib.hid (And.intro (bcall H2.out.1 hbr H2.out.1.size) (And.intro ((hbr.block _ (lt_of_heap H2.out.2.1)).trans H2.out.2.1) ((hbr.block _ (lt_of_heap H2.out.2.2)).trans H2.out.2.2)))
      by_cases hlt : i < N
      · obtain ⟨s, hs⟩ : ∃ s, l[i]? = some s := ⟨l[i]'(by have := H.out.2.2.2.2.1; omega), List.getElem?_eq_getElem (by have := H.out.2.2.2.2.1; omega)⟩
        obtain ⟨b, off, wa, wc, rfl, hbl, d0, d1, d2, d3, d4, h5, h6, h7⟩ := (H.out.2.2.2.2.2.1.below HR.out.1) i s hs
        have hnx : (l.take (i + 1)).all (Ix.leadsB rt n) = ((l.take i).all (Ix.leadsB rt n) && Ix.leadsB rt n s) := by
          rw [List.take_add_one, hs, List.all_append]; simp
        have hbd : Ix.leadsB rt n s = false → V = (Ix.Rw.zero, false, false) := fun e => H.out.1.trans (if_neg (fun h => by
          have := List.all_eq_true.1 h.2.2 s (List.mem_of_getElem? hs)
          rw [e] at this; cases this))
        have hno : ¬ Ix.rwOk s.row → Ix.leadsB rt n s = false := fun e => by unfold Ix.leadsB; rw [decide_eq_false e, Bool.false_and]
        have hwl := H.out.2.2.2.2.2.2 s (List.mem_of_getElem? hs)
        obtain ⟨w3, hw3⟩ : ∃ w3, w3 = wr.alloc (.cells (shCs (s, wa, wc)) 62) := ⟨_, rfl⟩
        have hb3 : Below wr.heap.size wr w3 := by rw [hw3]; exact (Below.refl _ _).alloc (Nat.le_refl _) _
        have hg3 : w3.heap[wr.heap.size]? = some (.cells (shCs (s, wa, wc)) 62 (0, 0)) := by rw [hw3]; exact heap_alloc_new _ _
        have hmp := mayProve_any s.row
        have hld := fun (h0 : Ix.rwOk s.row) (W : World) (hb : Below w.heap.size w W) (hb2 : Below wr.heap.size wr W) => H.out.2.2.2.1 s wa wc h0 hwl h5 h6 W hb (h7.below hb2)
        have hsc : shCs (s, wa, wc) = #[.int .i64 s.pl, .string s.row.tag, .int .i64 s.row.cnt, .int .i64 s.row.last, .slice wa s.way.length wc] := rfl
        have hrc : rwCs s.row = #[.string s.row.tag, .int .i64 s.row.cnt, .int .i64 s.row.last] := rfl
        rw [hsc] at hw3 hg3 hld
        rw [hrc] at hmp
        obtain ⟨lb, hlb⟩ : ∃ lb, lb = Ix.leadsB rt n s := ⟨_, rfl⟩
        rw [← hlb] at hnx hbd hno hld
        obtain ⟨ob, hob⟩ : ∃ ob, ob = decide (Ix.rwOk s.row) := ⟨_, rfl⟩
        rw [← hob] at hmp
        have hot : ob = true → Ix.rwOk s.row := fun e => of_decide_eq_true (hob.symm.trans e)
        have hof : ob = false → lb = false := fun e => hno (of_decide_eq_false (hob.symm.trans e))
        have hld2 := fun (e : ob = true) => hld (hot e)
        obtain ⟨x0, hx0⟩ : ∃ x, x = s.pl := ⟨_, rfl⟩
        obtain ⟨x1, hx1⟩ : ∃ x, x = s.row.tag := ⟨_, rfl⟩
        obtain ⟨x2, hx2⟩ : ∃ x, x = s.row.cnt := ⟨_, rfl⟩
        obtain ⟨x3, hx3⟩ : ∃ x, x = s.row.last := ⟨_, rfl⟩
        obtain ⟨x4, hx4⟩ : ∃ x, x = s.way.length := ⟨_, rfl⟩
        rw [← hx0, ← hx1, ← hx2, ← hx3, ← hx4] at hw3 hg3 hld2
        rw [← hx1, ← hx2, ← hx3] at hmp
        rw [← hx0] at d0
        rw [← hx1] at d1
        rw [← hx2] at d2
        rw [← hx3] at d3
        rw [← hx4] at d4
        obtain ⟨e0, e1, e2, e3, e4⟩ := cell5 hg3
        have HC := Lib.hid (And.intro hnx (And.intro hbd (And.intro hof (And.intro hmp (And.intro hld2 (And.intro hall (And.intro hg3 (And.intro hbr hb3))))))))
        have H3 := Lib.hid (And.intro (bcall HR.out.1 hb3 HR.out.1.size) (And.intro ((hb3.block _ (lt_of_heap HR.out.2.1)).trans HR.out.2.1) ((hb3.block _ (lt_of_heap HR.out.2.2)).trans HR.out.2.2)))
        clear hall hbr hs hnx hbd hno hwl hb3 hg3 hmp hld hsc hrc hlb hob hot hof hld2 hx0 hx1 hx2 hx3 hx4 hbl h5 h6 h7
        go_upto_region 6 with fail
        rw [← hw3]
        clear hw3 d0 d1 d2 d3 d4
        go_wp2_with fail
        refine (HC.out.2.2.2.1 _).mono ?_
        rintro e w4 ⟨rfl, hb4⟩
        have hg4 := (hb4.block _ (lt_of_heap HC.out.2.2.2.2.2.2.1)).trans HC.out.2.2.2.2.2.2.1
        have hb34 := HC.out.2.2.2.2.2.2.2.2.trans (hb4.mono HC.out.2.2.2.2.2.2.2.2.size)
        clear e0 e1 e2 e3 e4
        have H4 := Lib.hid (And.intro (bcall H3.out.1 hb4 H3.out.1.size) (And.intro ((hb4.block _ (lt_of_heap H3.out.2.1)).trans H3.out.2.1) ((hb4.block _ (lt_of_heap H3.out.2.2)).trans H3.out.2.2)))
        clear hb4
        by_cases hob : ob = false
        · have HV := Lib.hid (HC.out.2.1 (HC.out.2.2.1 hob))
          subst hob
          clear hg4 hb34
          have f2 : ∀ j, w4.frozen? ⟨w.heap.size + 1, j, none⟩ = false := fun j => frozen_of_row _ _ _ _ _ H4.out.2.2
          obtain ⟨d0, d1, d2⟩ := row3 H4.out.2.2
          simp only [Ix.Rw.zero] at d0 d1 d2
          go_wp2_with fail
          refine bodyPost_ret (v := .tuple #[.agg #[.string ⟨#[]⟩, .int .i64 0, .int .i64 0], .bool false, .int .i64 12]) (by simp [results, Tryd.results18, go_sem, d0, d1, d2]) rfl ?_
          exact ⟨by rw [HV.out]; rfl, rput3 H4.out.1 (Nat.le_succ _) _ _ _⟩
        obtain rfl : ob = true := by cases ob; exact absurd rfl hob; rfl
        clear hob
        obtain ⟨e0, e1, e2, e3, e4⟩ := cell5 hg4
        have HB4 := Lib.hid hb34
        clear hg4 hb34
        obtain ⟨c0, c1⟩ : w4.cell? ⟨w.heap.size, 0, none⟩ = some (.int .i64 n) ∧ w4.cell? ⟨w.heap.size, 1, none⟩ = some (.slice (some ⟨b, off, none⟩) N cap) := ⟨by rw [cell_of_row _ _ _ _ _ _ H4.out.2.1]; rfl, by rw [cell_of_row _ _ _ _ _ _ H4.out.2.1]; rfl⟩
        go_wp2_with fail
        refine (HC.out.2.2.2.2.1 (by trivial) _ H4.out.1 HB4.out).mono ?_
        rintro e w5 ⟨rfl, hb5⟩
        have HB5 := Lib.hid (HB4.out.trans (hb5.mono HB4.out.size))
        clear e0 e1 e2 e3 e4 c0 c1
        have H5 := Lib.hid (And.intro (bcall H4.out.1 hb5 H4.out.1.size) (And.intro ((hb5.block _ (lt_of_heap H4.out.2.1)).trans H4.out.2.1) ((hb5.block _ (lt_of_heap H4.out.2.2)).trans H4.out.2.2)))
        clear hb5
        by_cases hlb : lb = false
        · have HV := Lib.hid (HC.out.2.1 hlb)
          subst hlb
          have f2 : ∀ j, w5.frozen? ⟨w.heap.size + 1, j, none⟩ = false := fun j => frozen_of_row _ _ _ _ _ H5.out.2.2
          obtain ⟨d0, d1, d2⟩ := row3 H5.out.2.2
          simp only [Ix.Rw.zero] at d0 d1 d2
          go_wp2_with fail
          refine bodyPost_ret (v := .tuple #[.agg #[.string ⟨#[]⟩, .int .i64 0, .int .i64 0], .bool false, .int .i64 12]) (by simp [results, Tryd.results18, go_sem, d0, d1, d2]) rfl ?_
          exact ⟨by rw [HV.out]; rfl, rput3 H5.out.1 (Nat.le_succ _) _ _ _⟩
        obtain rfl : lb = true := by cases lb; exact absurd rfl hlb; rfl
        clear hlb
        go_wp2_with fail
        go_roundw
        case rel => exact ⟨i + 1, by omega, by go_num, by rw [HC.out.1, HC.out.2.2.2.2.2.1]; rfl, HC.out.2.2.2.2.2.2.2.1.trans (HB5.out.mono HC.out.2.2.2.2.2.2.2.1.size)⟩
        case measure => simp [intOf]; omega
      · obtain rfl : i = N := by omega
        have hVg : V = Ix.gotI t l := by
          rw [List.take_of_length_le (by have := H.out.2.2.2.2.1; omega)] at hall
          exact H.out.1.trans (if_pos ⟨by trivial, HE.out, hall⟩)
        have HV := Lib.hid hVg
        have HK : Hid (∀ s ∈ l, s.row.tag.size = 32) := Lib.hid (fun s hs => by
          rw [List.take_of_length_le (by have := H.out.2.2.2.2.1; omega)] at hall
          exact (Ix.leads_bound (List.all_eq_true.1 hall s hs)).2.2.2.2.2.1)
        clear hall hbr hVg
        obtain ⟨c0, c1⟩ : wr.cell? ⟨w.heap.size, 0, none⟩ = some (.int .i64 n) ∧ wr.cell? ⟨w.heap.size, 1, none⟩ = some (.slice a0 i cap) := ⟨by rw [cell_of_row _ _ _ _ _ _ HR.out.2.1]; rfl, by rw [cell_of_row _ _ _ _ _ _ HR.out.2.1]; rfl⟩
        by_cases h1 : i = 1
        · obtain ⟨s, hl⟩ : ∃ s, l = [s] := by
            have := H.out.2.2.2.2.1
            match l, this with
            | [s], _ => exact ⟨s, rfl⟩
            | [], h => simp at h; omega
            | _ :: _ :: _, h => simp at h; omega
          obtain ⟨b, off, wa, wc, rfl, hbl, d0, m0, m1, m2, d4, -⟩ := (H.out.2.2.2.2.2.1.below HR.out.1) 0 s (by rw [hl]; rfl)
          rw [hl] at HV
          simp only [Nat.zero_mul, Nat.add_zero] at d0 m0 m1 m2 d4
          have HV2 : Hid (V = if s.row.tag = t then (s.row, true, true) else (Ix.Rw.zero, false, true)) := HV
          have HSZ := Lib.hid (show s.row.tag.size ≤ 281474976710656 by rw [HK.out s (by rw [hl]; exact List.mem_singleton.2 rfl)]; decide)
          clear HV hl hbl d0 d4
          obtain ⟨pl, ⟨x, u, z⟩, wy⟩ := s
          simp only at m0 m1 m2 HV2 HSZ
          subst h1
          by_cases hx : x = t
          · have HV3 := Lib.hid (HV2.out.trans (if_pos hx))
            have k0 : (x.toList == t.toList) = true := by rw [hx]; exact beq_self_eq_true _
            clear hx
            go_wp2_with fail
            refine (own18_any x u z HSZ.out _).mono ?_
            rintro e w6 ⟨rfl, hb6⟩
            clear m0 m1 m2 c0 c1
            have H6 := Lib.hid (And.intro (bcall HR.out.1 hb6 HR.out.1.size) (And.intro ((hb6.block _ (lt_of_heap HR.out.2.1)).trans HR.out.2.1) ((hb6.block _ (lt_of_heap HR.out.2.2)).trans HR.out.2.2)))
            clear hb6
            have f2 : ∀ j, w6.frozen? ⟨w.heap.size + 1, j, none⟩ = false := fun j => frozen_of_row _ _ _ _ _ H6.out.2.2
            obtain ⟨d0, d1, d2⟩ := row3 H6.out.2.2
            simp only [Ix.Rw.zero] at d0 d1 d2
            go_wp2_with fail
            refine bodyPost_ret (v := .tuple #[.agg #[.string x, .int .i64 u, .int .i64 z], .bool true, .int .i64 0]) (by simp [results, Tryd.results18, go_sem, d0, d1, d2]) rfl ?_
            exact ⟨by rw [HV3.out]; rfl, rput3 H6.out.1 (Nat.le_succ _) _ _ _⟩
          have HV3 := Lib.hid (HV2.out.trans (if_neg hx))
          have k0 : (x.toList == t.toList) = false := sh_eq0 hx
          clear hx
          have f2 : ∀ j, wr.frozen? ⟨w.heap.size + 1, j, none⟩ = false := fun j => frozen_of_row _ _ _ _ _ HR.out.2.2
          obtain ⟨d0, d1, d2⟩ := row3 HR.out.2.2
          simp only [Ix.Rw.zero] at d0 d1 d2
          go_wp2_with fail
          refine bodyPost_ret (v := .tuple #[.agg #[.string ⟨#[]⟩, .int .i64 0, .int .i64 0], .bool false, .int .i64 0]) (by simp [results, Tryd.results18, go_sem, d0, d1, d2]) rfl ?_
          exact ⟨by rw [HV3.out]; rfl, rput3 HR.out.1 (Nat.le_succ _) _ _ _⟩
        have HV3 := Lib.hid (show V = (Ix.Rw.zero, false, true) by
          rw [HV.out]
          have := H.out.2.2.2.2.1
          match l, this with
          | [s], h => exact absurd h h1
          | [], _ => rfl
          | _ :: _ :: _, _ => rfl)
        have k1 : ((i : Int) == 1) = false := by
          cases e : ((i : Int) == 1) with
          | false => rfl
          | true => have := eq_of_beq e; omega
        clear h1
        have f2 : ∀ j, wr.frozen? ⟨w.heap.size + 1, j, none⟩ = false := fun j => frozen_of_row _ _ _ _ _ HR.out.2.2
        obtain ⟨d0, d1, d2⟩ := row3 HR.out.2.2
        simp only [Ix.Rw.zero] at d0 d1 d2
        go_wp2_with fail
        refine bodyPost_ret (v := .tuple #[.agg #[.string ⟨#[]⟩, .int .i64 0, .int .i64 0], .bool false, .int .i64 0]) (by simp [results, Tryd.results18, go_sem, d0, d1, d2]) rfl ?_
        exact ⟨by rw [HV3.out]; rfl, rput3 HR.out.1 (Nat.le_succ _) _ _ _⟩
end Go.Proofs.YtdfkpjmljaanpaaDoor
namespace Go.Proofs.YtdfkpjmljaanpaaDoor
open Go.RowKit
open Cn
def ptR (n : Int) (l : List Ix.Sh) : List ByteArray := if n = 0 ∧ l = [] then [Ix.rtT []] else l.flatMap (suI n)
theorem suI_len (n : Int) (s : Ix.Sh) : (suI n s).length ≤ s.way.length + 2 := by
  unfold suI
  cases hc : Ix.clI n s.pl (Tr.leaf (Ix.rwS s.row)) s.way with
  | none => exact Nat.zero_le _
  | some x =>
    obtain ⟨-, -, -, h4⟩ := clI_in hc (Tr.sumE_size _)
    simp only [List.length_cons, List.length_append, List.length_nil, h4]
    omega
theorem flat_len (n : Int) : ∀ l : List Ix.Sh, (∀ s ∈ l, s.way.length ≤ 100000) → (l.flatMap (suI n)).length ≤ l.length * 100002
  | [], _ => Nat.zero_le _
  | s :: l, h => by
    have h1 := suI_len n s
    have h2 := h s (List.mem_cons_self ..)
    have h3 := flat_len n l (fun x hx => h x (List.mem_cons_of_mem _ hx))
    rw [List.flatMap_cons, List.length_append, List.length_cons, Nat.succ_mul]
    omega
theorem cell5p {W : World} {g : Nat} {a b c d e : Value} {T : TypeId} (h : W.heap[g]? = some (.cells #[a, b, c, d, e] T (0, 0))) :
    W.cell? ⟨g, 0, none⟩ = some a ∧ W.cell? ⟨g, 1, none⟩ = some b ∧ W.cell? ⟨g, 2, none⟩ = some c ∧ W.cell? ⟨g, 3, none⟩ = some d ∧ W.cell? ⟨g, 4, none⟩ = some e := by
  refine ⟨?_, ?_, ?_, ?_, ?_⟩ <;> rw [cell_of_row _ _ _ _ _ _ h] <;> rfl
set_option maxRecDepth 100000 in
set_option maxHeartbeats 8000000 in
theorem ptexts_any (n : Int) (l : List Ix.Sh) (a0 : Option Addr) (cap : Nat) (w : World) (hG : Glob w) (hT : ShAt w a0 l) (hm : l.length ≤ 1000) (hok : ∀ s ∈ l, Ix.rwOk s.row ∧ s.way.length ≤ 100000) :
    Calls Tryd.prog 21 #[.agg #[.int .i64 n, .slice a0 l.length cap]] w fun e w' => ∃ a c, e = .returned (.slice a (ptR n l).length c) ∧ TextsAt w' a (ptR n l) ∧ Below w.heap.size w w' := by
  obtain ⟨w1, hw1⟩ : ∃ w1, w1 = w.alloc (.cells #[.int .i64 n, .slice a0 l.length cap] 50) := ⟨_, rfl⟩
  have hb1 : Below w.heap.size w w1 := by rw [hw1]; exact (Below.refl _ _).alloc (Nat.le_refl _) _
  have hz1 : w.heap.size < w1.heap.size := by rw [hw1, World.size_alloc]; exact Nat.lt_succ_self _
  have c0 : w1.cell? ⟨w.heap.size, 0, none⟩ = some (.int .i64 n) := by rw [hw1, cell_of_row _ _ _ _ _ _ (heap_alloc_new _ _)]; rfl
  have c1 : w1.cell? ⟨w.heap.size, 1, none⟩ = some (.slice a0 l.length cap) := by rw [hw1, cell_of_row _ _ _ _ _ _ (heap_alloc_new _ _)]; rfl
  have hrt := fun (W : World) (hb : Below w.heap.size w W) => rootTextX_any [] none 0 W (hG.below hb) (fun j r h => by simp at h) (by simp) (fun r h => by simp at h)
  simp only [List.length_nil] at hrt
  by_cases hA : n = 0 ∧ l = []
  · obtain ⟨rfl, rfl⟩ := hA
    unfold ptR
    rw [if_pos ⟨rfl, rfl⟩]
    obtain ⟨T, hTT⟩ : ∃ T, T = Ix.rtT [] := ⟨_, rfl⟩
    rw [← hTT] at hrt ⊢
    simp only [List.length_nil] at hw1 c1 ⊢
    have H := Lib.hid (And.intro hb1 hrt)
    clear hb1 hrt hz1 hG hT hm hok hTT
    go_enter Tryd.func21, Tryd.ntmps21
    go_upto_region 1 with fail
    rw [← hw1]
    clear hw1
    go_wp2_with fail
    refine (H.out.2 _ H.out.1).mono ?_
    rintro e w2 ⟨rfl, hb2⟩
    have hb2' := bcall H.out.1 hb2 H.out.1.size
    have H2 := Lib.hid (And.intro hb2' (hb2'.alloc hb2'.size (.cells #[.string T] 9)))
    clear hb2 hb2' c0 c1
    go_wp2_with fail
    go_ret
    exact ⟨_, _, rfl, texts_one w2 T, H2.out.2⟩
  · have hpt : ptR n l = l.flatMap (suI n) := if_neg hA
    rw [hpt]
    have hT1 := hT.below hb1
    have hsu := fun (s : Ix.Sh) (wa : Option Addr) (wc : Nat) (h1 : Ix.rwOk s.row ∧ s.way.length ≤ 100000) (h2 : s.way.length ≤ wc) (h3 : wc ≤ maxLen) (W : World) (hb : Below w.heap.size w W) (h4 : TextsAt W wa s.way) => isummed_any n s wa wc h1.1 h1.2 h2 h3 W (hG.below hb) h4
    obtain ⟨N, hN⟩ : ∃ N, N = l.length := ⟨_, rfl⟩
    rw [← hN] at hw1 c1 hm
    rw [← hN]
    have HA := Lib.hid hA
    have H := Lib.hid (And.intro hb1 (And.intro hT1 (And.intro hok (And.intro hsu (And.intro hN hz1)))))
    clear hb1 hT hT1 hok hsu hG hN hz1 hA hpt hrt
    have main : ∀ Z : Bool, Z = false → (if n = 0 then decide (N = 0) else false) = Z → True := fun _ _ _ => trivial
    clear main
    by_cases h0 : n = 0
    · have k0 : (n == 0) = true := by rw [h0]; rfl
      have k1 : ((N : Int) == 0) = false := by
        cases e : ((N : Int) == 0) with
        | false => rfl
        | true =>
          have h2 := eq_of_beq e
          exact absurd ⟨h0, List.eq_nil_of_length_eq_zero (by have := H.out.2.2.2.2.1; omega)⟩ HA.out
      clear h0
      go_enter Tryd.func21, Tryd.ntmps21
      go_upto_region 1 with fail
      rw [← hw1]
      clear hw1
      go_wp2_with fail
      clear k0 k1
      have HC0 := Lib.hid c0
      clear c0 c1
      go_loopw [3, 5, 21] (fun v _ c wr => ∃ (i : Nat) (a : Option Addr) (cp : Nat), i ≤ N ∧ v = .slice a ((l.take i).flatMap (suI n)).length cp ∧ c = .int .i64 i ∧ OwnT w1.heap.size wr a cp ((l.take i).flatMap (suI n)) ∧ Below w1.heap.size w1 wr) (fun _ _ c _ => N - (intOf c).toNat)
      case atStart => exact ⟨0, none, 0, by omega, rfl, rfl, OwnT.nil _ _, Below.refl _ _⟩
      case round =>
        obtain ⟨i, a, cp, hi, rfl, rfl, hO, hb⟩ := hrel
        obtain ⟨M, hM⟩ : ∃ M, M = ((l.take i).flatMap (suI n)).length := ⟨_, rfl⟩
        rw [← hM]
        by_cases hlt : i < N
        · obtain ⟨s, hs⟩ : ∃ s, l[i]? = some s := ⟨l[i]'(by have := H.out.2.2.2.2.1; omega), List.getElem?_eq_getElem (by have := H.out.2.2.2.2.1; omega)⟩
          obtain ⟨b, off, wa, wc, rfl, hbl, d0, d1, d2, d3, d4, h5, h6, h7⟩ := (H.out.2.1.below hb) i s hs
          have hnx : (l.take (i + 1)).flatMap (suI n) = (l.take i).flatMap (suI n) ++ suI n s := by
            rw [List.take_add_one, hs, List.flatMap_append]
            simp
          have hk := H.out.2.2.1 s (List.mem_of_getElem? hs)
          have hM1 : M ≤ i * 100002 := by
            have h1 := flat_len n (l.take i) (fun x hx => (H.out.2.2.1 x (List.mem_of_mem_take hx)).2)
            rw [List.length_take, ← hM] at h1
            exact Nat.le_trans h1 (Nat.mul_le_mul_right _ (Nat.min_le_left _ _))
          have hM2 := suI_len n s
          have hbw : Below w.heap.size w wr := H.out.1.trans (hb.mono H.out.1.size)
          obtain ⟨w3, hw3⟩ : ∃ w3, w3 = wr.alloc (.cells (shCs (s, wa, wc)) 62) := ⟨_, rfl⟩
          have hb3 : Below wr.heap.size wr w3 := by rw [hw3]; exact (Below.refl _ _).alloc (Nat.le_refl _) _
          have hg3 : w3.heap[wr.heap.size]? = some (.cells (shCs (s, wa, wc)) 62 (0, 0)) := by rw [hw3]; exact heap_alloc_new _ _
          have hsm := H.out.2.2.2.1 s wa wc hk h5 h6 w3 (bcall hbw hb3 hbw.size) (h7.below hb3)
          obtain ⟨S, hS⟩ : ∃ S, S = suI n s := ⟨_, rfl⟩
          rw [← hS] at hnx hM2 hsm
          have hSl : S.length ≤ 100002 := by have := hk.2; omega
          have hsc : shCs (s, wa, wc) = #[.int .i64 s.pl, .string s.row.tag, .int .i64 s.row.cnt, .int .i64 s.row.last, .slice wa s.way.length wc] := rfl
          rw [hsc] at hw3 hg3 hsm
          obtain ⟨x0, hx0⟩ : ∃ x, x = s.pl := ⟨_, rfl⟩
          obtain ⟨x1, hx1⟩ : ∃ x, x = s.row.tag := ⟨_, rfl⟩
          obtain ⟨x2, hx2⟩ : ∃ x, x = s.row.cnt := ⟨_, rfl⟩
          obtain ⟨x3, hx3⟩ : ∃ x, x = s.row.last := ⟨_, rfl⟩
          obtain ⟨x4, hx4⟩ : ∃ x, x = s.way.length := ⟨_, rfl⟩
          rw [← hx0, ← hx1, ← hx2, ← hx3, ← hx4] at hw3 hg3 hsm
          rw [← hx0] at d0
          rw [← hx1] at d1
          rw [← hx2] at d2
          rw [← hx3] at d3
          rw [← hx4] at d4
          obtain ⟨e0, e1, e2, e3, e4⟩ := cell5p hg3
          have q0 : w3.cell? ⟨w.heap.size, 0, none⟩ = some (.int .i64 n) := by
            rw [hb3.cell (p := ⟨w.heap.size, 0, none⟩) (Nat.lt_of_lt_of_le H.out.2.2.2.2.2 hb.size), hb.cell (p := ⟨w.heap.size, 0, none⟩) H.out.2.2.2.2.2]
            exact HC0.out
          have HC := Lib.hid (And.intro (hO.call hb3) (And.intro hnx (And.intro hM.symm (And.intro (hb.trans (hb3.mono hb.size)) (And.intro hsm hSl)))))
          have hMb : M ≤ 100002000 := by omega
          clear hO hb hnx hM hbw hb3 hg3 hsm hS hSl hM1 hM2 hsc hx0 hx1 hx2 hx3 hx4 hs hk hbl h5 h6 h7
          go_upto_region 7 with fail
          rw [← hw3]
          clear hw3 d0 d1 d2 d3 d4
          go_wp2_with fail
          refine HC.out.2.2.2.2.1.mono ?_
          rintro e w4 ⟨a4, c4, rfl, ho4, hb4⟩
          have H4 := Lib.hid (And.intro (OwnT.call HC.out.1 hb4) (And.intro ho4.texts (HC.out.2.2.2.1.trans (hb4.mono HC.out.2.2.2.1.size))))
          obtain ⟨sl, hsl⟩ : ∃ sl, sl = S.length := ⟨_, rfl⟩
          have hsb : sl ≤ 100002 := by rw [hsl]; exact HC.out.2.2.2.2.2
          have HS := Lib.hid hsl
          rw [← hsl]
          clear hb4 ho4 e0 e1 e2 e3 e4 q0 hsl
          go_wp2_with (at_builtin; (refine wpList_append_texts rfl (.tmp 25) (.tmp 29) rfl H4.out.1 _ HC.out.2.2.1 rfl _ _ sl S HS.out.symm rfl H4.out.2.1 (by omega) H4.out.2.2.size H4.out.2.2 ?_; intro ad cp w5 ho hb; have HD := Lib.hid (And.intro ho hb); clear ho hb))
          go_roundw
          case rel => exact ⟨i + 1, ad, cp, by omega, by rw [HC.out.2.1, List.length_append, HC.out.2.2.1, ← HS.out], by go_num, by rw [HC.out.2.1]; exact HD.out.1, HD.out.2⟩
          case measure => simp [intOf]; omega
        · obtain rfl : i = N := by omega
          have HF := Lib.hid (And.intro hO (And.intro hb hM))
          have hfull : (l.take i).flatMap (suI n) = l.flatMap (suI n) := by rw [List.take_of_length_le (by have := H.out.2.2.2.2.1; omega)]
          have HG := Lib.hid hfull
          clear hO hb hM hfull
          go_wp2_with fail
          go_ret
          refine ⟨a, cp, ?_, ?_, H.out.1.trans (HF.out.2.1.mono H.out.1.size)⟩
          · rw [← HG.out, ← HF.out.2.2]; rfl
          · have := HF.out.1.texts
            rwa [HG.out] at this
    · have k0 : (n == 0) = false := by
        cases e : (n == 0) with
        | false => rfl
        | true => exact absurd (eq_of_beq e) h0
      clear h0
      go_enter Tryd.func21, Tryd.ntmps21
      go_upto_region 1 with fail
      rw [← hw1]
      clear hw1
      go_wp2_with fail
      clear k0
      have HC0 := Lib.hid c0
      clear c0 c1
      go_loopw [3, 5, 21] (fun v _ c wr => ∃ (i : Nat) (a : Option Addr) (cp : Nat), i ≤ N ∧ v = .slice a ((l.take i).flatMap (suI n)).length cp ∧ c = .int .i64 i ∧ OwnT w1.heap.size wr a cp ((l.take i).flatMap (suI n)) ∧ Below w1.heap.size w1 wr) (fun _ _ c _ => N - (intOf c).toNat)
      case atStart => exact ⟨0, none, 0, by omega, rfl, rfl, OwnT.nil _ _, Below.refl _ _⟩
      case round =>
        obtain ⟨i, a, cp, hi, rfl, rfl, hO, hb⟩ := hrel
        obtain ⟨M, hM⟩ : ∃ M, M = ((l.take i).flatMap (suI n)).length := ⟨_, rfl⟩
        rw [← hM]
        by_cases hlt : i < N
        · obtain ⟨s, hs⟩ : ∃ s, l[i]? = some s := ⟨l[i]'(by have := H.out.2.2.2.2.1; omega), List.getElem?_eq_getElem (by have := H.out.2.2.2.2.1; omega)⟩
          obtain ⟨b, off, wa, wc, rfl, hbl, d0, d1, d2, d3, d4, h5, h6, h7⟩ := (H.out.2.1.below hb) i s hs
          have hnx : (l.take (i + 1)).flatMap (suI n) = (l.take i).flatMap (suI n) ++ suI n s := by
            rw [List.take_add_one, hs, List.flatMap_append]
            simp
          have hk := H.out.2.2.1 s (List.mem_of_getElem? hs)
          have hM1 : M ≤ i * 100002 := by
            have h1 := flat_len n (l.take i) (fun x hx => (H.out.2.2.1 x (List.mem_of_mem_take hx)).2)
            rw [List.length_take, ← hM] at h1
            exact Nat.le_trans h1 (Nat.mul_le_mul_right _ (Nat.min_le_left _ _))
          have hM2 := suI_len n s
          have hbw : Below w.heap.size w wr := H.out.1.trans (hb.mono H.out.1.size)
          obtain ⟨w3, hw3⟩ : ∃ w3, w3 = wr.alloc (.cells (shCs (s, wa, wc)) 62) := ⟨_, rfl⟩
          have hb3 : Below wr.heap.size wr w3 := by rw [hw3]; exact (Below.refl _ _).alloc (Nat.le_refl _) _
          have hg3 : w3.heap[wr.heap.size]? = some (.cells (shCs (s, wa, wc)) 62 (0, 0)) := by rw [hw3]; exact heap_alloc_new _ _
          have hsm := H.out.2.2.2.1 s wa wc hk h5 h6 w3 (bcall hbw hb3 hbw.size) (h7.below hb3)
          obtain ⟨S, hS⟩ : ∃ S, S = suI n s := ⟨_, rfl⟩
          rw [← hS] at hnx hM2 hsm
          have hSl : S.length ≤ 100002 := by have := hk.2; omega
          have hsc : shCs (s, wa, wc) = #[.int .i64 s.pl, .string s.row.tag, .int .i64 s.row.cnt, .int .i64 s.row.last, .slice wa s.way.length wc] := rfl
          rw [hsc] at hw3 hg3 hsm
          obtain ⟨x0, hx0⟩ : ∃ x, x = s.pl := ⟨_, rfl⟩
          obtain ⟨x1, hx1⟩ : ∃ x, x = s.row.tag := ⟨_, rfl⟩
          obtain ⟨x2, hx2⟩ : ∃ x, x = s.row.cnt := ⟨_, rfl⟩
          obtain ⟨x3, hx3⟩ : ∃ x, x = s.row.last := ⟨_, rfl⟩
          obtain ⟨x4, hx4⟩ : ∃ x, x = s.way.length := ⟨_, rfl⟩
          rw [← hx0, ← hx1, ← hx2, ← hx3, ← hx4] at hw3 hg3 hsm
          rw [← hx0] at d0
          rw [← hx1] at d1
          rw [← hx2] at d2
          rw [← hx3] at d3
          rw [← hx4] at d4
          obtain ⟨e0, e1, e2, e3, e4⟩ := cell5p hg3
          have q0 : w3.cell? ⟨w.heap.size, 0, none⟩ = some (.int .i64 n) := by
            rw [hb3.cell (p := ⟨w.heap.size, 0, none⟩) (Nat.lt_of_lt_of_le H.out.2.2.2.2.2 hb.size), hb.cell (p := ⟨w.heap.size, 0, none⟩) H.out.2.2.2.2.2]
            exact HC0.out
          have HC := Lib.hid (And.intro (hO.call hb3) (And.intro hnx (And.intro hM.symm (And.intro (hb.trans (hb3.mono hb.size)) (And.intro hsm hSl)))))
          have hMb : M ≤ 100002000 := by omega
          clear hO hb hnx hM hbw hb3 hg3 hsm hS hSl hM1 hM2 hsc hx0 hx1 hx2 hx3 hx4 hs hk hbl h5 h6 h7
          go_upto_region 7 with fail
          rw [← hw3]
          clear hw3 d0 d1 d2 d3 d4
          go_wp2_with fail
          refine HC.out.2.2.2.2.1.mono ?_
          rintro e w4 ⟨a4, c4, rfl, ho4, hb4⟩
          have H4 := Lib.hid (And.intro (OwnT.call HC.out.1 hb4) (And.intro ho4.texts (HC.out.2.2.2.1.trans (hb4.mono HC.out.2.2.2.1.size))))
          obtain ⟨sl, hsl⟩ : ∃ sl, sl = S.length := ⟨_, rfl⟩
          have hsb : sl ≤ 100002 := by rw [hsl]; exact HC.out.2.2.2.2.2
          have HS := Lib.hid hsl
          rw [← hsl]
          clear hb4 ho4 e0 e1 e2 e3 e4 q0 hsl
          go_wp2_with (at_builtin; (refine wpList_append_texts rfl (.tmp 25) (.tmp 29) rfl H4.out.1 _ HC.out.2.2.1 rfl _ _ sl S HS.out.symm rfl H4.out.2.1 (by omega) H4.out.2.2.size H4.out.2.2 ?_; intro ad cp w5 ho hb; have HD := Lib.hid (And.intro ho hb); clear ho hb))
          go_roundw
          case rel => exact ⟨i + 1, ad, cp, by omega, by rw [HC.out.2.1, List.length_append, HC.out.2.2.1, ← HS.out], by go_num, by rw [HC.out.2.1]; exact HD.out.1, HD.out.2⟩
          case measure => simp [intOf]; omega
        · obtain rfl : i = N := by omega
          have HF := Lib.hid (And.intro hO (And.intro hb hM))
          have hfull : (l.take i).flatMap (suI n) = l.flatMap (suI n) := by rw [List.take_of_length_le (by have := H.out.2.2.2.2.1; omega)]
          have HG := Lib.hid hfull
          clear hO hb hM hfull
          go_wp2_with fail
          go_ret
          refine ⟨a, cp, ?_, ?_, H.out.1.trans (HF.out.2.1.mono H.out.1.size)⟩
          · rw [← HG.out, ← HF.out.2.2]; rfl
          · have := HF.out.1.texts
            rwa [HG.out] at this
end Go.Proofs.YtdfkpjmljaanpaaDoor
namespace Go.Proofs.YtdfkpjmljaanpaaDoor
open Go.RowKit
open Cn
theorem suI_ptS {n : Int} {s : Ix.Sh} (h : Ix.clI n s.pl (Tr.leaf (Ix.rwS s.row)) s.way ≠ none) : suI n s = Ix.ptS n s := by
  unfold suI Ix.ptS
  cases hc : Ix.clI n s.pl (Tr.leaf (Ix.rwS s.row)) s.way with
  | none => exact absurd hc h
  | some x => rfl
theorem flat_su (n : Int) : ∀ l : List Ix.Sh, (∀ s ∈ l, Ix.clI n s.pl (Tr.leaf (Ix.rwS s.row)) s.way ≠ none) → l.flatMap (suI n) = l.flatMap (Ix.ptS n)
  | [], _ => rfl
  | s :: l, h => by
    rw [List.flatMap_cons, List.flatMap_cons, suI_ptS (h s (List.mem_cons_self ..)), flat_su n l (fun x hx => h x (List.mem_cons_of_mem _ hx))]
theorem ptR_ptI (n : Int) (l : List Ix.Sh) (h : ∀ s ∈ l, Ix.clI n s.pl (Tr.leaf (Ix.rwS s.row)) s.way ≠ none) : ptR n l = Ix.ptI n l := by
  have hm : l.flatMap (suI n) = l.flatMap (Ix.ptS n) := by
    exact flat_su n l h
  unfold ptR Ix.ptI
  by_cases hl : l = []
  · subst hl
    by_cases hn : n = 0
    · subst hn; rfl
    · rw [if_neg (fun h => hn h.1), if_pos rfl, if_neg hn]; rfl
  · rw [if_neg (fun h => hl h.2), if_neg hl, hm]
theorem leads_cl {rt : ByteArray} {n : Int} {s : Ix.Sh} (h : Ix.leadsB rt n s = true) : Ix.clI n s.pl (Tr.leaf (Ix.rwS s.row)) s.way ≠ none := fun e => by
  unfold Ix.leadsB at h
  rw [e, Bool.and_false] at h
  cases h
theorem ptR_leads {rt : ByteArray} {n : Int} {l : List Ix.Sh} (h : l.all (Ix.leadsB rt n) = true) : ptR n l = Ix.ptI n l :=
  ptR_ptI n l fun s hs => leads_cl (List.all_eq_true.1 h s hs)
end Go.Proofs.YtdfkpjmljaanpaaDoor
namespace Go.Proofs.YtdfkpjmljaanpaaDoor
open Go.RowKit
open Cn
open Tr in
/-- The texts of a way have 65 bytes. -/
theorem ixclimb_texts : ∀ (last at' : Nat) (d : ByteArray) (w : List ByteArray) (x : ByteArray × List ByteArray × List ByteArray), d.size = 32 → Digs w → climb at' last d w = some x → ∀ t ∈ x.2.1, t.size = 65 := by
  intro last
  induction last using Nat.strongRecOn with
  | ind last ih =>
    intro a d w x hd hw hc
    by_cases h0 : last = 0
    · subst h0
      rw [climb_zero] at hc
      by_cases hwn : w = []
      · rw [if_pos hwn] at hc
        injection hc with hc
        subst hc
        intro t ht; cases ht
      · rw [if_neg hwn] at hc; cases hc
    · rw [climb_step _ _ h0] at hc
      by_cases hal : a = last ∧ a % 2 = 0
      · rw [if_pos hal] at hc; exact ih _ (by omega) _ _ _ _ hd hw hc
      · rw [if_neg hal] at hc
        cases w with
        | nil => cases hc
        | cons y r =>
          simp only at hc
          have hy : y.size = 32 := hw y (by simp)
          have hr : Digs r := fun z hz => hw z (List.mem_cons_of_mem _ hz)
          by_cases hev : a % 2 = 0
          · rw [if_pos hev] at hc
            cases hcc : climb (a / 2) (last / 2) (node d y) r with
            | none => rw [hcc] at hc; cases hc
            | some z =>
              rw [hcc] at hc
              simp only [Option.map_some, Option.some.injEq] at hc
              subst hc
              have := ih _ (by omega) _ _ _ _ (sumE_size _) hr hcc
              intro t ht
              rcases List.mem_cons.1 ht with rfl | ht
              · rw [nodeT_size, hd, hy]
              · exact this t ht
          · rw [if_neg hev] at hc
            cases hcc : climb (a / 2) (last / 2) (node y d) r with
            | none => rw [hcc] at hc; cases hc
            | some z =>
              rw [hcc] at hc
              simp only [Option.map_some, Option.some.injEq] at hc
              subst hc
              have := ih _ (by omega) _ _ _ _ (sumE_size _) hr hcc
              intro t ht
              rcases List.mem_cons.1 ht with rfl | ht
              · rw [nodeT_size, hd, hy]
              · exact this t ht
open Tr in
theorem sumT_65 : ∀ (n : Nat) (l : List ByteArray), l.length = n → Digs l → ∀ t ∈ sumT l, t.size = 65 := by
  intro n
  induction n using Nat.strongRecOn with
  | ind n ih =>
    intro l hn hd t ht
    by_cases h : 2 ≤ l.length
    · have p1 := hf_pos l.length
      have p2 := hf_lt h
      have d1 : Digs (l.take (hf l.length)) := fun x hx => hd x (List.mem_of_mem_take hx)
      have d2 : Digs (l.drop (hf l.length)) := fun x hx => hd x (List.mem_of_mem_drop hx)
      rw [sumT_two h] at ht
      rcases List.mem_append.1 ht with ht | ht
      · rcases List.mem_append.1 ht with ht | ht
        · exact ih (hf l.length) (by omega) _ (by rw [List.length_take]; omega) d1 t ht
        · exact ih (l.length - hf l.length) (by omega) _ (by rw [List.length_drop]) d2 t ht
      · obtain rfl := List.mem_singleton.1 ht
        rw [nodeT_size, Ix.root_32 d1, Ix.root_32 d2]
    · rw [sumT_one (by omega)] at ht; cases ht
theorem topS_small {n : Int} {t : ByteArray} (h1 : n ≤ 4096) (ht : t.size = 32) : (Ix.topS n t).size ≤ 300 := by
  unfold Ix.topS
  rw [str_size]
  exact Ix.topT_len (by omega) (by omega)
theorem txI_small {R : List Rw} (hok : ∀ r ∈ R, Ix.rwOk r) (hl : R.length ≤ 4096) : ∀ y ∈ Ix.txI R, y.size ≤ 300 := fun y hy => by
  unfold Ix.txI at hy
  rcases List.mem_append.1 hy with hy | hy
  · rcases List.mem_append.1 hy with hy | hy
    · obtain ⟨r, hr, rfl⟩ := List.mem_map.1 hy
      rw [leafT_size]
      have := rwS_small (hok r hr)
      omega
    · rw [sumT_65 _ _ rfl (Ix.lvs_digs R) y hy]; decide
  · obtain rfl := List.mem_singleton.1 hy
    exact topS_small (by omega) (Ix.root_32 (Ix.lvs_digs R))
theorem ptI_small {rt : ByteArray} {n : Int} {l : List Ix.Sh} (h : l.all (Ix.leadsB rt n) = true) : ∀ y ∈ Ix.ptI n l, y.size ≤ 300 := fun y hy => by
  unfold Ix.ptI at hy
  by_cases hl : l = []
  · rw [if_pos hl] at hy
    by_cases hn : n = 0
    · rw [if_pos hn] at hy
      obtain rfl := List.mem_singleton.1 hy
      exact topS_small (by decide) (Ix.root_32 (fun x hx => by cases hx))
    · rw [if_neg hn] at hy; cases hy
  · rw [if_neg hl] at hy
    obtain ⟨s, hs, hy⟩ := List.mem_flatMap.1 hy
    have h1 := List.all_eq_true.1 h s hs
    have hro : Ix.rwOk s.row := by
      unfold Ix.leadsB at h1
      exact of_decide_eq_true (Bool.and_eq_true_iff.1 h1).1
    unfold Ix.ptS at hy
    rcases List.mem_cons.1 hy with rfl | hy
    · rw [leafT_size]
      have := rwS_small hro
      omega
    · cases hc : Ix.clI n s.pl (Tr.leaf (Ix.rwS s.row)) s.way with
      | none => rw [hc] at hy; cases hy
      | some x =>
        rw [hc] at hy
        obtain ⟨-, k2, k3, -⟩ := clI_in hc (Tr.sumE_size _)
        rcases List.mem_append.1 hy with hy | hy
        · unfold Ix.clI at hc
          by_cases hb : 1 ≤ n ∧ n ≤ 4096 ∧ 0 ≤ s.pl ∧ s.pl < n ∧ Ix.digB s.way = true
          · rw [if_pos hb] at hc
            rw [ixclimb_texts _ _ _ _ _ (Tr.sumE_size _) (Ix.digB_iff.1 hb.2.2.2.2) hc y hy]; decide
          · rw [if_neg hb] at hc; cases hc
        · obtain rfl := List.mem_singleton.1 hy
          exact topS_small k2 k3
theorem ver_all {rt t : ByteArray} {n : Int} {l : List Ix.Sh} {x : Rw} {is : Bool} (h : Ix.verI rt t n l = (x, is, true)) : l.all (Ix.leadsB rt n) = true := by
  unfold Ix.verI at h
  by_cases ha : l.all (Ix.leadsB rt n) = true
  · exact ha
  · rw [if_neg ha] at h
    injection h with _ h
    injection h with _ h
    cases h
theorem leads_ok {rt : ByteArray} {n : Int} {l : List Ix.Sh} (h : l.all (Ix.leadsB rt n) = true) : ∀ s ∈ l, Ix.rwOk s.row := fun s hs => by
  have h1 := List.all_eq_true.1 h s hs
  unfold Ix.leadsB at h1
  exact of_decide_eq_true (Bool.and_eq_true_iff.1 h1).1
theorem few_of {l : List Ix.Sh} (h : fewP l = true) : l.length ≤ 4 ∧ ∀ s ∈ l, s.way.length ≤ 30 := by
  unfold fewP at h
  obtain ⟨h1, h2⟩ := Bool.and_eq_true_iff.1 h
  refine ⟨of_decide_eq_true h1, fun s hs => ?_⟩
  have h3 := List.all_eq_true.1 h2 s hs
  unfold fewS at h3
  have h4 := (Bool.and_eq_true_iff.1 h3).2
  by_cases hF : FewOf s.way 30 100
  · have := hF.1; omega
  · rw [fewB_false hF] at h4; cases h4
end Go.Proofs.YtdfkpjmljaanpaaDoor
namespace Go.Proofs.YtdfkpjmljaanpaaDoor
open Go.RowKit Go.ChangeShapes Go.WideShapes Go.ChangeAt
/-- A number that a word of 64 bits holds. -/
def J64 (n : Int) : Prop := -9223372036854775808 ≤ n ∧ n ≤ 9223372036854775807
/-- What a row that comes in may hold. -/
structure ShOk (s : Ix.Sh) : Prop where
  pl : J64 s.pl
  cnt : J64 s.row.cnt
  last : J64 s.row.last
  tag : s.row.tag.size ≤ maxLen
section
variable {H : Type} {enc : TypeId × Value → H} {W : World}
theorem cellsRowP : Tryd.prog.cellsOf 38 = 3 := by kernel_rfl
theorem cellsRwPf : Tryd.prog.cellsOf 62 = 5 := by kernel_rfl
theorem cellsIxPf : Tryd.prog.cellsOf 50 = 2 := by kernel_rfl
theorem cellsIntP : Tryd.prog.cellsOf 3 = 1 := by kernel_rfl
theorem cellsStrP : Tryd.prog.cellsOf 9 = 1 := by kernel_rfl
theorem cellsStrsP : Tryd.prog.cellsOf 36 = 1 := by kernel_rfl
theorem cellsRwsP : Tryd.prog.cellsOf 48 = 1 := by kernel_rfl
/-- The texts of a slice that came in, with its capacity. -/
theorem texts_ofp {a0 : Option Addr} {len cap : Nat} {d : DataW H} {p : List MemPlace} {fuel : Nat}
    (hf : DataW.trod enc Tryd.prog W 0 (fun _ => true) true fuel 36 [.slice a0 len cap] = some (d, p)) (hlt : ∀ x ∈ p, x.block < W.heap.size) :
    ∃ ss : List ByteArray, ss.length = len ∧ len ≤ cap ∧ cap ≤ maxLen ∧ TextsAt W a0 ss := by
  obtain ⟨ss, h1, h2, h3⟩ := texts_of hf hlt
  rcases Go.ChangeShapes.open_strings Tryd.underlying36 Tryd.underlying9 cellsStrP hf with ⟨hcs, hx⟩ | ⟨a, len', cap', ss', hcs, _, hl, hm, hz, hx, hcell, hws⟩
  · simp at hcs
    obtain ⟨rfl, rfl, rfl⟩ := hcs
    exact ⟨ss, h1, by decide, by decide, h3⟩
  · simp at hcs
    obtain ⟨rfl, rfl, rfl⟩ := hcs
    exact ⟨ss, h1, hl, hm, h3⟩
set_option maxRecDepth 100000 in
theorem open_rowp {fuel : Nat} {cs : List Value} {x : DataW H × List MemPlace}
    (h : DataW.trod enc Tryd.prog W 0 (fun _ => true) true fuel 38 cs = some x) : ∃ r : Rw, cs = [.string r.tag, .int .i64 r.cnt, .int .i64 r.last] ∧ J64 r.cnt ∧ J64 r.last ∧ r.tag.size ≤ maxLen := by
  obtain ⟨xs, m, hm, hx, hl, hlen, hf⟩ := DataW.trod_struct Tryd.underlying38 h
  rw [cellsRowP] at hl
  match cs, hl, xs, hlen with
  | [c0, c1, c2], _, [y0, y1, y2], _ =>
    have f0 : DataW.trod enc Tryd.prog W 0 (fun _ => true) true m 9 (([c0, c1, c2].drop 0).take (Tryd.prog.cellsOf 9)) = some y0 := hf 0 _ rfl
    have f1 : DataW.trod enc Tryd.prog W 0 (fun _ => true) true m 3 (([c0, c1, c2].drop 1).take (Tryd.prog.cellsOf 3)) = some y1 := hf 1 _ rfl
    have f2 : DataW.trod enc Tryd.prog W 0 (fun _ => true) true m 3 (([c0, c1, c2].drop 2).take (Tryd.prog.cellsOf 3)) = some y2 := hf 2 _ rfl
    rw [cellsStrP] at f0
    rw [cellsIntP] at f1 f2
    obtain ⟨s, e0, -, w0⟩ := DataW.trod_string Tryd.underlying9 f0
    obtain ⟨n1, e1, -, w1⟩ := DataW.trod_int Tryd.underlying3 f1
    obtain ⟨n2, e2, -, w2⟩ := DataW.trod_int Tryd.underlying3 f2
    simp at e0 e1 e2
    subst e0 e1 e2
    exact ⟨⟨s, n1, n2⟩, rfl, bounds_i64 w1, bounds_i64 w2, w0⟩
set_option maxRecDepth 100000 in
theorem open_rwpf {fuel : Nat} {cs : List Value} {d : DataW H} {p : List MemPlace}
    (h : DataW.trod enc Tryd.prog W 0 (fun _ => true) true fuel 62 cs = some (d, p)) (hlt : ∀ x ∈ p, x.block < W.heap.size) :
    ∃ (s : Ix.Sh) (wa : Option Addr) (wc : Nat), cs = [.int .i64 s.pl, .string s.row.tag, .int .i64 s.row.cnt, .int .i64 s.row.last, .slice wa s.way.length wc] ∧ ShOk s ∧ s.way.length ≤ wc ∧ wc ≤ maxLen ∧ TextsAt W wa s.way := by
  obtain ⟨xs, m, hm, hx, hl, hlen, hf⟩ := DataW.trod_struct Tryd.underlying62 h
  rw [cellsRwPf] at hl
  match cs, hl, xs, hlen with
  | [c0, c1, c2, c3, c4], _, [y0, y1, y2], _ =>
    have f0 : DataW.trod enc Tryd.prog W 0 (fun _ => true) true m 3 (([c0, c1, c2, c3, c4].drop 0).take (Tryd.prog.cellsOf 3)) = some y0 := hf 0 _ rfl
    have f1 : DataW.trod enc Tryd.prog W 0 (fun _ => true) true m 38 (([c0, c1, c2, c3, c4].drop 1).take (Tryd.prog.cellsOf 38)) = some y1 := hf 1 _ rfl
    have f2 : DataW.trod enc Tryd.prog W 0 (fun _ => true) true m 36 (([c0, c1, c2, c3, c4].drop 4).take (Tryd.prog.cellsOf 36)) = some y2 := hf 2 _ rfl
    rw [cellsIntP] at f0
    rw [cellsRowP] at f1
    rw [cellsStrsP] at f2
    obtain ⟨n0, e0, -, w0⟩ := DataW.trod_int Tryd.underlying3 (x := y0) f0
    obtain ⟨r, e1, w1, w2, w3⟩ := open_rowp f1
    obtain ⟨d2, p2⟩ := y2
    simp only [List.map_cons, List.map_nil, List.flatMap_cons, List.flatMap_nil, List.append_nil, Prod.mk.injEq] at hx
    have hp2 : ∀ x ∈ p2, x.block < W.heap.size := fun x hx2 => hlt x (by rw [hx.2]; simp [hx2])
    have f2' : DataW.trod enc Tryd.prog W 0 (fun _ => true) true m 36 [c4] = some (d2, p2) := f2
    have hc4 : ∃ a4 len4 cap4, c4 = .slice a4 len4 cap4 := by
      rcases DataW.trod_slice Tryd.underlying36 f2' with ⟨h0, -⟩ | ⟨a, len, cap, elems, rest, n, _, h0, -⟩
      · simp at h0; exact ⟨none, 0, 0, h0⟩
      · simp at h0; exact ⟨_, _, _, h0⟩
    obtain ⟨a4, len4, cap4, rfl⟩ := hc4
    obtain ⟨ss, k1, k2, k3, k4⟩ := texts_ofp f2' hp2
    subst k1
    simp at e0 e1
    obtain ⟨e1, e2, e3⟩ := e1
    subst e0 e1 e2 e3
    exact ⟨⟨n0, r, ss⟩, a4, cap4, rfl, ⟨bounds_i64 w0, w1, w2, w3⟩, k2, k3, k4⟩
theorem shs_of_all {n : Nat} {Q : Nat → Ix.Sh → Prop} (h : ∀ i, i < n → ∃ x, Q i x) : ∃ l : List Ix.Sh, l.length = n ∧ ∀ i x, l[i]? = some x → Q i x := by
  induction n with
  | zero => exact ⟨[], rfl, fun i x hx => by simp at hx⟩
  | succ n ih =>
    obtain ⟨l, hl, hq⟩ := ih fun i hi => h i (by omega)
    obtain ⟨x, hx⟩ := h n (by omega)
    refine ⟨l ++ [x], by simp [hl], fun i y hy => ?_⟩
    rcases Nat.lt_or_ge i n with hi | hi
    · rw [List.getElem?_append_left (by omega)] at hy
      exact hq i y hy
    · rw [List.getElem?_append_right (by omega)] at hy
      have : i = n := by
        rcases Nat.lt_or_ge (i - l.length) 1 with hh | hh
        · omega
        · rw [List.getElem?_eq_none (by simpa using hh)] at hy; simp at hy
      subst this
      rw [hl, Nat.sub_self] at hy
      simp at hy
      subst hy
      exact hx
set_option maxRecDepth 100000 in
/-- The rows of a proof that came in. -/
theorem shs_of {a0 : Option Addr} {len cap : Nat} {d : DataW H} {p : List MemPlace} {fuel : Nat}
    (hf : DataW.trod enc Tryd.prog W 0 (fun _ => true) true fuel 48 [.slice a0 len cap] = some (d, p)) (hlt : ∀ x ∈ p, x.block < W.heap.size) :
    ∃ l : List Ix.Sh, l.length = len ∧ len ≤ cap ∧ cap ≤ maxLen ∧ ShAt W a0 l ∧ ∀ s ∈ l, ShOk s := by
  rcases DataW.trod_slice Tryd.underlying48 hf with ⟨hc, hx3⟩ | ⟨a, len', cap', elems, rest, n', hn', hc, hx3, hb, hlc, hcm, hel, helem, -, -⟩
  · simp at hc
    obtain ⟨rfl, rfl, rfl⟩ := hc
    exact ⟨[], rfl, Nat.zero_le _, Nat.zero_le _, ShAt.nil _ _, fun s hs => by simp at hs⟩
  · simp at hc
    obtain ⟨rfl, rfl, rfl⟩ := hc
    simp only [Prod.mk.injEq] at hx3
    obtain ⟨rfl, rfl⟩ := hx3
    have hq : ∀ i, i < len → ∃ s : Ix.Sh, ∃ wa wc, W.cells? 0 (a.add (i * 5)) 5 = some [.int .i64 s.pl, .string s.row.tag, .int .i64 s.row.cnt, .int .i64 s.row.last, .slice wa s.way.length wc] ∧ ShOk s ∧ s.way.length ≤ wc ∧ wc ≤ maxLen ∧ TextsAt W wa s.way := fun i hi => by
      have h1 := helem i hi
      have hi2 : i < elems.length := by omega
      rw [cellsRwPf, List.getElem?_eq_getElem hi2, Option.bind_eq_some_iff] at h1
      obtain ⟨cs', h2, h3⟩ := h1
      obtain ⟨s, wa, wc, i1, i2⟩ := open_rwpf (d := elems[i].1) (p := elems[i].2) h3 (fun z hz => hlt z (by
        refine List.mem_append_right _ (List.mem_flatMap.2 ⟨elems[i], List.mem_append_left _ (List.getElem_mem hi2), hz⟩)))
      exact ⟨s, wa, wc, by rw [h2, i1], i2⟩
    obtain ⟨l, hl1, hl2⟩ := shs_of_all hq
    refine ⟨l, hl1, hlc, hcm, fun j s hs => ?_, fun s hs => ?_⟩
    · have hj : j < len := by rw [← hl1]; exact (List.getElem?_eq_some_iff.1 hs).1
      obtain ⟨wa, wc, h1, h2, h3, h4, h5⟩ := hl2 j s hs
      obtain ⟨b, off, spot⟩ := a
      obtain ⟨-, -, h6⟩ := World.cells?_some h1
      have hspot : spot = none := by
        obtain ⟨wa0, wc0, g1, -⟩ := hl2 0 (l[0]'(by omega)) (List.getElem?_eq_getElem (by omega))
        obtain ⟨-, -, g6⟩ := World.cells?_some g1
        have := g6 0 (by decide)
        simpa [Addr.add] using World.cell?_spot (this.trans (show _ = some (.int .i64 (l[0]'(by omega)).pl) from rfl))
      subst hspot
      have hadd : ∀ (o x : Nat), (⟨b, o, none⟩ : Addr).add x = ⟨b, o + x, none⟩ := fun o x => by unfold Addr.add; split <;> simp_all
      refine ⟨b, off, wa, wc, rfl, hlt (.cell b (off + 0)) ?_, ?_, ?_, ?_, ?_, ?_, h3, h4, h5⟩
      · rw [cellsRwPf]
        simp only [List.mem_append]
        exact .inl (MemPlace.mem_row.2 ⟨0, by omega, rfl⟩)
      · have hc := h6 0 (by decide); simp only [hadd, Nat.add_zero] at hc; rw [hc]; rfl
      · have hc := h6 1 (by decide); simp only [hadd] at hc; rw [hc]; rfl
      · have hc := h6 2 (by decide); simp only [hadd] at hc; rw [hc]; rfl
      · have hc := h6 3 (by decide); simp only [hadd] at hc; rw [hc]; rfl
      · have hc := h6 4 (by decide); simp only [hadd] at hc; rw [hc]; rfl
    · obtain ⟨j, hj⟩ := List.mem_iff_getElem?.1 hs
      obtain ⟨-, -, -, h2, -⟩ := hl2 j s hj
      exact h2
set_option maxRecDepth 100000 in
/-- A proof that came in. -/
theorem open_ixpf {fuel : Nat} {cs : List Value} {d : DataW H} {p : List MemPlace}
    (h : DataW.trod enc Tryd.prog W 0 (fun _ => true) true fuel 50 cs = some (d, p)) (hlt : ∀ x ∈ p, x.block < W.heap.size) :
    ∃ (n : Int) (a : Option Addr) (l : List Ix.Sh) (cap : Nat), cs = [.int .i64 n, .slice a l.length cap] ∧ J64 n ∧ l.length ≤ cap ∧ cap ≤ maxLen ∧ ShAt W a l ∧ ∀ s ∈ l, ShOk s := by
  obtain ⟨xs, m, hm, hx, hl, hlen, hf⟩ := DataW.trod_struct Tryd.underlying50 h
  rw [cellsIxPf] at hl
  match cs, hl, xs, hlen with
  | [c0, c1], _, [y0, y1], _ =>
    have f0 : DataW.trod enc Tryd.prog W 0 (fun _ => true) true m 3 (([c0, c1].drop 0).take (Tryd.prog.cellsOf 3)) = some y0 := hf 0 _ rfl
    have f1 : DataW.trod enc Tryd.prog W 0 (fun _ => true) true m 48 (([c0, c1].drop 1).take (Tryd.prog.cellsOf 48)) = some y1 := hf 1 _ rfl
    rw [cellsIntP] at f0
    rw [cellsRwsP] at f1
    obtain ⟨n0, e0, -, w0⟩ := DataW.trod_int Tryd.underlying3 (x := y0) f0
    obtain ⟨d1, p1⟩ := y1
    simp only [List.map_cons, List.map_nil, List.flatMap_cons, List.flatMap_nil, List.append_nil, Prod.mk.injEq] at hx
    have hp1 : ∀ x ∈ p1, x.block < W.heap.size := fun x hx1 => hlt x (by rw [hx.2]; exact List.mem_append_right _ hx1)
    have f1' : DataW.trod enc Tryd.prog W 0 (fun _ => true) true m 48 [c1] = some (d1, p1) := f1
    have hc1 : ∃ a1 len1 cap1, c1 = .slice a1 len1 cap1 := by
      rcases DataW.trod_slice Tryd.underlying48 f1' with ⟨h0, -⟩ | ⟨a, len, cap, elems, rest, n, _, h0, -⟩
      · simp at h0; exact ⟨none, 0, 0, h0⟩
      · simp at h0; exact ⟨_, _, _, h0⟩
    obtain ⟨a1, len1, cap1, rfl⟩ := hc1
    obtain ⟨l, k1, k2, k3, k4, k5⟩ := shs_of f1' hp1
    subst k1
    simp at e0
    subst e0
    exact ⟨n0, a1, l, cap1, rfl, bounds_i64 w0, k2, k3, k4, k5⟩
/-- A proof as an argument. -/
structure IxA where
  n : Int
  a : Option Addr
  l : List Ix.Sh
  cap : Nat
def IxA.cs (x : IxA) : Array Value := #[.int .i64 x.n, .slice x.a x.l.length x.cap]
structure IxA.Ok (x : IxA) (w : World) : Prop where
  n : J64 x.n
  len : x.l.length ≤ x.cap
  cap : x.cap ≤ maxLen
  rows : ShAt w x.a x.l
  ok : ∀ s ∈ x.l, ShOk s
theorem IxA.Ok.below {x : IxA} {w w' : World} (h : x.Ok w) (hb : Below w.heap.size w w') : x.Ok w' := ⟨h.n, h.len, h.cap, h.rows.below hb, h.ok⟩
theorem open_ixa {fuel : Nat} {cs : List Value} {d : DataW H} {p : List MemPlace}
    (h : DataW.trod enc Tryd.prog W 0 (fun _ => true) true fuel 50 cs = some (d, p)) (hlt : ∀ x ∈ p, x.block < W.heap.size) : ∃ x : IxA, cs = x.cs.toList ∧ x.Ok W := by
  obtain ⟨n, a, l, cap, e, h1, h2, h3, h4, h5⟩ := open_ixpf h hlt
  exact ⟨⟨n, a, l, cap⟩, e, h1, h2, h3, h4, h5⟩
end
end Go.Proofs.YtdfkpjmljaanpaaDoor
namespace Go.Proofs.YtdfkpjmljaanpaaDoor
open Go.RowKit Go.Maps
open Tr
theorem lawStr : Keyed Tryd.prog 9 := string_keyed Tryd.underlying9
theorem zeroInt (w : World) : (zeroValue 3).run Tryd.prog w = .ok (.int .i64 0) w := by kernel_rfl
def gt (ss : List ByteArray) (j : Nat) : ByteArray := ss.getD j ByteArray.empty
/-- A digest as a key. -/
def ky (s : ByteArray) : Lit := .string (sumE s).data.toList
theorem ky_inj {a b : ByteArray} : ky a = ky b ↔ sumE a = sumE b := by
  unfold ky
  constructor
  · intro h
    injection h with h
    exact Go.WideShapes.bytes_inj h
  · intro h; rw [h]
/-- The map tells of the first so many texts. -/
structure MInv (ss : List ByteArray) (t : Nat) (D : DataW Unit) : Prop where
  isMap : IsMap D
  hit : ∀ x, has D (ky x) = true → ∃ j, j < t ∧ sumE (gt ss j) = sumE x ∧ D.atKey (ky x) (.lit (.int .i64 0)) = .lit (.int .i64 j)
  all : ∀ j, j < t → has D (ky (gt ss j)) = true
theorem MInv.zero (ss : List ByteArray) : MInv ss 0 (.map []) := ⟨isMap_empty, (fun x h => by cases h), (fun j hj => by omega)⟩
theorem MInv.put {ss : List ByteArray} {t : Nat} {D : DataW Unit} (h : MInv ss t D) : MInv ss (t + 1) (D.put (ky (gt ss t)) (.lit (.int .i64 t))) := by
  have hk : WideAt.IsKeyLit (ky (gt ss t)) := trivial
  refine ⟨h.isMap.put _ _, fun x hx => ?_, fun j hj => ?_⟩
  · by_cases e : ky x = ky (gt ss t)
    · refine ⟨t, by omega, (ky_inj.1 e).symm, ?_⟩
      rw [e, atKey_put_same h.isMap hk]
    · rw [has_put_other e] at hx
      obtain ⟨j, hj, h1, h2⟩ := h.hit x hx
      exact ⟨j, by omega, h1, by rw [atKey_put_other e]; exact h2⟩
  · by_cases e : ky (gt ss j) = ky (gt ss t)
    · rw [e]; exact has_put_same h.isMap hk _
    · rw [has_put_other e]
      refine h.all j ?_
      by_cases e2 : j = t
      · exact absurd (by rw [e2]) e
      · omega
theorem MInv.skip {ss : List ByteArray} {t : Nat} {D : DataW Unit} (h : MInv ss t D) (hh : has D (ky (gt ss t)) = true) : MInv ss (t + 1) D := by
  refine ⟨h.isMap, fun x hx => ?_, fun j hj => ?_⟩
  · obtain ⟨j, hj, h1, h2⟩ := h.hit x hx
    exact ⟨j, by omega, h1, h2⟩
  · by_cases e : j = t
    · rw [e]; exact hh
    · exact h.all j (by omega)
/-- What was found among the first so many. -/
def Found (ss : List ByteArray) (t : Nat) (f : Nat) (a b : ByteArray) (is : Bool) : Prop :=
  (is = true ∧ ∃ i j, i < ss.length ∧ j < ss.length ∧ a = gt ss i ∧ b = gt ss j ∧ a ≠ b ∧ sumE a = sumE b) ∨
  (is = false ∧ f = ss.length ∧ a = ⟨#[]⟩ ∧ b = ⟨#[]⟩ ∧ ∀ i j, i < t → j < t → sumE (gt ss i) = sumE (gt ss j) → gt ss i = gt ss j)
theorem Found.new {ss : List ByteArray} {t f : Nat} {a b : ByteArray} {is : Bool} {D : DataW Unit} (h : Found ss t f a b is) (hI : MInv ss t D) (hn : has D (ky (gt ss t)) = false) : Found ss (t + 1) f a b is := by
  rcases h with h | ⟨h1, h2, h3, h4, h5⟩
  · exact Or.inl h
  · refine Or.inr ⟨h1, h2, h3, h4, fun i j hi hj he => ?_⟩
    have key : ∀ k, k < t → sumE (gt ss k) = sumE (gt ss t) → False := fun k hk e => by
      have := hI.all k hk
      rw [ky_inj.2 e, hn] at this
      cases this
    by_cases e1 : i = t
    · by_cases e2 : j = t
      · rw [e1, e2]
      · rw [e1] at he; exact (key j (by omega) he.symm).elim
    · by_cases e2 : j = t
      · rw [e2] at he; exact (key i (by omega) he).elim
      · exact h5 i j (by omega) (by omega) he
theorem Found.old {ss : List ByteArray} {t f c : Nat} {a b : ByteArray} {is : Bool} (h : Found ss t f a b is) (hc : c < t) (ht : t < ss.length) (he : sumE (gt ss c) = sumE (gt ss t)) (hn : ¬ (c < f ∧ gt ss c ≠ gt ss t)) : Found ss (t + 1) f a b is := by
  rcases h with h | ⟨h1, h2, h3, h4, h5⟩
  · exact Or.inl h
  · have hce : gt ss c = gt ss t := Classical.byContradiction fun e => hn ⟨by omega, e⟩
    refine Or.inr ⟨h1, h2, h3, h4, fun i j hi hj hij => ?_⟩
    by_cases e1 : i = t
    · by_cases e2 : j = t
      · rw [e1, e2]
      · rw [e1] at hij ⊢
        rw [← hce]
        exact h5 c j hc (by omega) (he.trans hij)
    · by_cases e2 : j = t
      · rw [e2] at hij ⊢
        rw [← hce]
        exact h5 i c (by omega) hc (hij.trans he.symm)
      · exact h5 i j (by omega) (by omega) hij
/-- What Twin answers. -/
def TwinE (ss : List ByteArray) (e : Ending) : Prop :=
  ∃ a b is, e = .returned (.tuple #[.string a, .string b, .bool is]) ∧ (is = true → a ∈ ss ∧ b ∈ ss ∧ a ≠ b ∧ sumE a = sumE b) ∧ (is = false → a = ⟨#[]⟩ ∧ b = ⟨#[]⟩ ∧ ¬ TwinIn ss)
theorem gt_mem {ss : List ByteArray} {i : Nat} (h : i < ss.length) : gt ss i ∈ ss := by
  unfold gt
  rw [List.getD_eq_getElem?_getD, List.getElem?_eq_getElem h]
  exact List.getElem_mem h
theorem Found.done {ss : List ByteArray} {f : Nat} {a b : ByteArray} {is : Bool} (h : Found ss ss.length f a b is) : (is = true → a ∈ ss ∧ b ∈ ss ∧ a ≠ b ∧ sumE a = sumE b) ∧ (is = false → a = ⟨#[]⟩ ∧ b = ⟨#[]⟩ ∧ ¬ TwinIn ss) := by
  rcases h with ⟨h1, i, j, hi, hj, ha, hb, hne, he⟩ | ⟨h1, h2, h3, h4, h5⟩
  · exact ⟨fun _ => ⟨by rw [ha]; exact gt_mem hi, by rw [hb]; exact gt_mem hj, hne, he⟩, (fun e => by rw [h1] at e; cases e)⟩
  · refine ⟨(fun e => by rw [h1] at e; cases e), fun _ => ⟨h3, h4, ?_⟩⟩
    rintro ⟨x, y, hx, hy, hne, he⟩
    obtain ⟨i, hi, rfl⟩ := List.mem_iff_getElem.1 hx
    obtain ⟨j, hj, rfl⟩ := List.mem_iff_getElem.1 hy
    have e1 : gt ss i = ss[i] := by unfold gt; rw [List.getD_eq_getElem?_getD, List.getElem?_eq_getElem hi]; rfl
    have e2 : gt ss j = ss[j] := by unfold gt; rw [List.getD_eq_getElem?_getD, List.getElem?_eq_getElem hj]; rfl
    rw [← e1, ← e2] at hne he
    exact hne (h5 i j hi hj he)
theorem twgrown_of {B : Nat} {w w' : World} (h : Below B w w') (hB : B = w.heap.size) : w.grownBy w' none := by
  obtain ⟨a, b, c, d, e⟩ := h
  exact ⟨a, b, c, d, fun k hk _ => e k (by omega)⟩
theorem twin_beq (a b : ByteArray) : (a.toList == b.toList) = decide (a = b) := by
  by_cases h : a = b
  · subst h; simp
  · rw [decide_eq_false h]
    cases hb : (a.toList == b.toList) with
    | false => rfl
    | true =>
      have := beq_iff_eq.1 hb
      rw [toList_data, toList_data] at this
      exact absurd (Go.WideShapes.bytes_inj this) h
theorem below_up {B : Nat} {w w' : World} (h : w.grownBy w' (some B)) (hB : B ≤ w.heap.size) : Below B w w' := by
  obtain ⟨a, b, c, d, e⟩ := h
  exact ⟨a, b, c, d, fun k hk => e k (by omega) (by intro e; injection e with e; omega)⟩
set_option maxRecDepth 100000 in
set_option maxHeartbeats 2000000 in
theorem twin_any (ss : List ByteArray) (a0 : Option Addr) (cap : Nat) (w : World) (hG : Glob w) (hT : TextsAt w a0 ss) (hm : ss.length ≤ 1000000) (hs : ∀ j, j < ss.length → (gt ss j).size ≤ 100000) :
    Calls Tryd.prog 69 #[.slice a0 ss.length cap, .func (Fn.func 28) #[] #[]] w fun e w' => TwinE ss e ∧ Below w.heap.size w w' := by
  have hmm := @run_makeMap Tryd.prog
  obtain ⟨n, hn⟩ : ∃ n, n = ss.length := ⟨_, rfl⟩
  have HT := Lib.hid (And.intro hT (And.intro hn hs))
  have HG := Lib.hid hG
  rw [← hn] at hm ⊢
  clear hT hn hs hG
  go_enter Tryd.func69, Tryd.ntmps69
  go_wp2_with fail
  go_loopw [4, 5, 6, 8, 9, 10, 11, 12, 13, 19] (fun va vb vi vf _ _ _ _ _ vc wr => ∃ (t f : Nat) (a b : ByteArray) (is : Bool) (D : DataW Unit), t ≤ n ∧ f ≤ n ∧ va = .string a ∧ vb = .string b ∧ vi = .bool is ∧ vf = .int .i64 f ∧ vc = .int .i64 t ∧
    MInv ss t D ∧ Found ss t f a b is ∧ wr.ownsMap Tryd.prog 9 (plainElem Tryd.prog 3) w.heap.size t D ∧ Below w.heap.size w wr ∧ a.size ≤ 100000 ∧ b.size ≤ 100000) (fun _ _ _ _ _ _ _ _ _ vc _ => n - (intOf vc).toNat)
  case atStart => exact ⟨0, n, ⟨#[]⟩, ⟨#[]⟩, false, .map [], by omega, by omega, rfl, rfl, rfl, rfl, rfl, MInv.zero ss, Or.inr ⟨rfl, HT.out.2.1, rfl, rfl, fun i j hi => by omega⟩, World.ownsMap_made _ _ _ _, (Below.refl _ _).alloc (Nat.le_refl _) _, by decide, by decide⟩
  case round =>
    obtain ⟨t, f, a, b2, is, D, ht, hf, rfl, rfl, rfl, rfl, rfl, hI, hF, hown, hb, has1, has2⟩ := hrel
    by_cases hlt : t < n
    · obtain ⟨b, off, hab, _, hc⟩ := (HT.out.1.below hb) t (by have := HT.out.2.1; omega)
      subst hab
      obtain ⟨x, hx⟩ : ∃ x, x = gt ss t := ⟨_, rfl⟩
      have hx2 := HT.out.2.2 t (by have := HT.out.2.1; omega)
      rw [← hx] at hx2
      rw [show ss.getD t ByteArray.empty = x from hx.symm] at hc
      have ds := fun W hG => dsum_any x (by omega) W hG
      obtain ⟨dd, hdd⟩ : ∃ d, d = sumE x := ⟨_, rfl⟩
      rw [show str (sha x.data.toList) = dd from hdd.symm] at ds
      have hds : dd.size = 32 := by rw [hdd]; exact sumE_size _
      have hkey : keyOf Tryd.prog 9 (.string dd) = some (ky x) := by rw [Go.WideMaps.keyOf_string_mk Tryd.underlying9 (by unfold maxLen; omega), hdd]; rfl
      have H := Lib.hid (And.intro hI (And.intro hF (And.intro hown (And.intro hb (And.intro hx (And.intro ds (And.intro has1 has2)))))))
      have HX := Lib.hid (show x.size ≤ 100000 from hx2)
      have hwt : (Lit.int .i64 (t : Int)).wf = true := Go.WalkArith.wf_i64 (by omega)
      cases hh : has D (ky x) with
      | false =>
        clear hI hF hown hb hx hdd hds hx2 has1 has2
        go_upto_region 7 with (first | (refine (ds _ (HG.out.below H.out.2.2.2.1)).mono ?_; rintro e w1 ⟨rfl, hb1⟩) | fail)
        have hown1 := H.out.2.2.1.kept (row := none) (twgrown_of hb1 rfl) (by simp)
        have hbb := H.out.2.2.2.1.trans (hb1.mono H.out.2.2.2.1.size)
        clear hb1 ds
        go_wp2_with (first
          | (at_lookup; refine wpList_lookup_own_ok_int _ rfl _ _ 139 rfl 9 3 .i64 lawStr Tryd.underlying139 Tryd.underlying3 (zeroInt _) w.heap.size t D rfl hown1 _ _ rfl hkey ?_; intro cc hat hwc; rw [hh])
          | (at_mapUpdate; refine wpList_mapUpdate_own _ rfl _ _ _ 139 rfl 9 3 lawStr Tryd.underlying139 _ w.heap.size t D rfl hown1 (by unfold maxLen; omega) _ _ _ rfl rfl hkey (.lit (.int .i64 t)) [] (plainElem_int Tryd.underlying3 hwt) ?_; intro w2 hown2 hgr2)
          | fail)
        have hx' : x = gt ss t := H.out.2.2.2.2.1
        have hput : MInv ss (t + 1) (D.put (ky x) (.lit (.int .i64 t))) := by rw [hx']; exact H.out.1.put
        have hF2 : Found ss (t + 1) f a b2 is := H.out.2.1.new H.out.1 (by rw [← hx']; exact hh)
        refine ⟨⟨t + 1, f, a, b2, is, _, by omega, hf, rfl, rfl, rfl, rfl, congrArg _ (by omega), hput, hF2, hown2, hbb.trans (below_up hgr2 hbb.size), H.out.2.2.2.2.2.2.1, H.out.2.2.2.2.2.2.2⟩, ?_⟩
        show n - ((t : Int) + 1).toNat < n - ((t : Int)).toNat
        omega
      | true =>
        obtain ⟨c, hct, hce, hcat⟩ := hI.hit x hh
        clear hI hF hown hb hx hdd hds hx2 has1 has2
        go_upto_region 7 with (first | (refine (ds _ (HG.out.below H.out.2.2.2.1)).mono ?_; rintro e w1 ⟨rfl, hb1⟩) | fail)
        have hown1 := H.out.2.2.1.kept (row := none) (twgrown_of hb1 rfl) (by simp)
        have hbb := H.out.2.2.2.1.trans (hb1.mono H.out.2.2.2.1.size)
        obtain ⟨b3, off3, hab, _, hc1⟩ := (HT.out.1.below hbb) c (by have := HT.out.2.1; omega)
        cases hab
        obtain ⟨y, hy⟩ : ∃ y, y = gt ss c := ⟨_, rfl⟩
        have hy2 := HT.out.2.2 c (by have := HT.out.2.1; omega)
        rw [← hy] at hy2
        rw [show ss.getD c ByteArray.empty = y from hy.symm] at hc1
        clear hb1 ds
        have hne : (y.toList == x.toList) = decide (y = x) := twin_beq y x
        have HY := Lib.hid (And.intro hy2 (And.intro hy (And.intro hce hcat)))
        clear hy2 hy hce
        have HX' := Lib.hid (show x = gt ss t from H.out.2.2.2.2.1)
        have hskip : MInv ss (t + 1) D := H.out.1.skip (by rw [← HX'.out]; exact hh)
        by_cases h1 : c < f
        · by_cases h2 : y = x
          · rw [decide_eq_true h2] at hne
            have HF2 := Lib.hid (show Found ss (t + 1) f a b2 is from H.out.2.1.old hct (by have := HT.out.2.1; omega) (by rw [← HX'.out]; exact HY.out.2.2.1) (fun e => e.2 (by rw [← HY.out.2.1, ← HX'.out, h2])))
            go_wp2_with (first
              | (at_lookup; refine wpList_lookup_own_ok_int _ rfl _ _ 139 rfl 9 3 .i64 lawStr Tryd.underlying139 Tryd.underlying3 (zeroInt _) w.heap.size t D rfl hown1 _ _ rfl hkey ?_; intro cc hat hwc; rw [hh]; rw [hcat] at hat; injection hat with hat; injection hat with _ hat; subst hat)
              | fail)
            refine ⟨⟨t + 1, f, a, b2, is, D, by omega, hf, rfl, rfl, rfl, rfl, congrArg _ (by omega), hskip, HF2.out, hown1.mono (by omega), hbb, H.out.2.2.2.2.2.2.1, H.out.2.2.2.2.2.2.2⟩, ?_⟩
            show n - ((t : Int) + 1).toNat < n - ((t : Int)).toNat
            omega
          · rw [decide_eq_false h2] at hne
            have HF2 := Lib.hid (show Found ss (t + 1) c y x true from Or.inl ⟨rfl, c, t, by have := HT.out.2.1; omega, by have := HT.out.2.1; omega, HY.out.2.1, HX'.out, h2, (congrArg sumE HY.out.2.1).trans HY.out.2.2.1⟩)
            go_wp2_with (first
              | (at_lookup; refine wpList_lookup_own_ok_int _ rfl _ _ 139 rfl 9 3 .i64 lawStr Tryd.underlying139 Tryd.underlying3 (zeroInt _) w.heap.size t D rfl hown1 _ _ rfl hkey ?_; intro cc hat hwc; rw [hh]; rw [hcat] at hat; injection hat with hat; injection hat with _ hat; subst hat)
              | fail)
            go_region
            go_wp2_with fail
            refine ⟨⟨t + 1, c, y, x, true, D, by omega, by omega, rfl, rfl, rfl, rfl, congrArg _ (by omega), hskip, HF2.out, (hown1.drew).mono (by omega), hbb.drew, HY.out.1, HX.out⟩, ?_⟩
            show n - ((t : Int) + 1).toNat < n - ((t : Int)).toNat
            omega
        · have HF2 := Lib.hid (show Found ss (t + 1) f a b2 is from H.out.2.1.old hct (by have := HT.out.2.1; omega) (by rw [← HX'.out]; exact HY.out.2.2.1) (fun e => h1 e.1))
          go_wp2_with (first
            | (at_lookup; refine wpList_lookup_own_ok_int _ rfl _ _ 139 rfl 9 3 .i64 lawStr Tryd.underlying139 Tryd.underlying3 (zeroInt _) w.heap.size t D rfl hown1 _ _ rfl hkey ?_; intro cc hat hwc; rw [hh]; rw [hcat] at hat; injection hat with hat; injection hat with _ hat; subst hat)
            | fail)
          refine ⟨⟨t + 1, f, a, b2, is, D, by omega, hf, rfl, rfl, rfl, rfl, congrArg _ (by omega), hskip, HF2.out, hown1.mono (by omega), hbb, H.out.2.2.2.2.2.2.1, H.out.2.2.2.2.2.2.2⟩, ?_⟩
          show n - ((t : Int) + 1).toNat < n - ((t : Int)).toNat
          omega
    · have hd := Lib.hid (Found.done (show Found ss ss.length f a b2 is by rw [← HT.out.2.1, ← (show t = n by omega)]; exact hF))
      clear hI hF hown
      go_wp2_with (first
        | (refine (clone_any _ _ (by omega)).mono ?_; rintro e v ⟨rfl, hv⟩; replace hb := hb.trans (hv.mono hb.size); clear hv)
        | fail)
      go_ret3
      exact ⟨⟨a, b2, is, rfl, hd.out⟩, hb⟩
end Go.Proofs.YtdfkpjmljaanpaaDoor
namespace Go.Proofs.YtdfkpjmljaanpaaDoor
open Go.RowKit
open Tr
set_option maxRecDepth 100000 in
set_option maxHeartbeats 2000000 in
theorem bigTwin_any (ss : List ByteArray) (a0 : Option Addr) (cap : Nat) (w : World) (hG : Glob w) (hT : TextsAt w a0 ss) (hm : ss.length ≤ 1000000) (hs : ∀ j, j < ss.length → (gt ss j).size ≤ 100000) :
    Calls Tryd.prog 43 #[.slice a0 ss.length cap] w fun e w' => TwinE ss e ∧ Below w.heap.size w w' := by
  have H := Lib.hid (twin_any ss a0 cap w hG hT hm hs)
  obtain ⟨n, hn⟩ : ∃ n, n = ss.length := ⟨_, rfl⟩
  rw [← hn] at H ⊢
  clear hT hn hs hG hm
  go_enter Tryd.func43, Tryd.ntmps43
  go_wp2_with fail
  refine H.out.mono ?_
  rintro e w1 ⟨⟨a, b, is, rfl, h1, h2⟩, hb⟩
  have HH := Lib.hid (And.intro h1 (And.intro h2 hb))
  clear h1 h2 hb
  go_wp2_with fail
  go_ret3
  exact ⟨⟨a, b, is, rfl, HH.out.1, HH.out.2.1⟩, HH.out.2.2⟩
theorem mem_size {ss : List ByteArray} {a : ByteArray} (h : a ∈ ss) (hs : ∀ j, j < ss.length → (gt ss j).size ≤ 100000) : a.size ≤ 100000 := by
  obtain ⟨i, hi, rfl⟩ := List.mem_iff_getElem.1 h
  have := hs i hi
  unfold gt at this
  rw [List.getD_eq_getElem?_getD, List.getElem?_eq_getElem hi] at this
  exact this
set_option maxRecDepth 100000 in
set_option maxHeartbeats 2000000 in
theorem witnessed_any (ss : List ByteArray) (a0 : Option Addr) (cap : Nat) (w : World) (hG : Glob w) (hT : TextsAt w a0 ss) (hm : ss.length ≤ 1000000) (hs : ∀ j, j < ss.length → (gt ss j).size ≤ 100000) (hw : TwinIn ss) :
    Calls Tryd.prog 19 #[.slice a0 ss.length cap] w fun e w' => e = .returned (.bool true) ∧ Below w.heap.size w w' := by
  have H := Lib.hid (bigTwin_any ss a0 cap w hG hT hm hs)
  have HS := Lib.hid hs
  have HW := Lib.hid hw
  obtain ⟨n, hn⟩ : ∃ n, n = ss.length := ⟨_, rfl⟩
  rw [← hn] at H ⊢
  clear hT hn hs hG hm hw
  go_enter Tryd.func19, Tryd.ntmps19
  go_wp2_with fail
  refine H.out.mono ?_
  rintro e w1 ⟨⟨a, b, is, rfl, h1, h2⟩, hb⟩
  cases is with
  | false => exact ((h2 rfl).2.2 HW.out).elim
  | true =>
    obtain ⟨ha, hb2, hne, he⟩ := h1 rfl
    have za := mem_size ha HS.out
    have zb := mem_size hb2 HS.out
    have hbe : (a.toList == b.toList) = false := by rw [twin_beq]; exact decide_eq_false hne
    have ra := fun W => rsumref_any a (by omega) W
    have rb := fun W => rsumref_any b (by omega) W
    obtain ⟨d, hd⟩ : ∃ d, d = sumE a := ⟨_, rfl⟩
    rw [show str (sha a.data.toList) = d from hd.symm] at ra
    rw [show str (sha b.data.toList) = d from (hd.trans he).symm] at rb
    clear h1 h2 ha hb2 hne he za zb hd
    go_wp2_with (first
      | (refine (ra _).mono ?_; rintro e v ⟨rfl, hv⟩; replace hb := hb.trans (hv.mono hb.size); clear hv ra)
      | (refine (rb _).mono ?_; rintro e v ⟨rfl, hv⟩; replace hb := hb.trans (hv.mono hb.size); clear hv rb)
      | fail)
    go_ret
    exact ⟨rfl, hb⟩
end Go.Proofs.YtdfkpjmljaanpaaDoor
