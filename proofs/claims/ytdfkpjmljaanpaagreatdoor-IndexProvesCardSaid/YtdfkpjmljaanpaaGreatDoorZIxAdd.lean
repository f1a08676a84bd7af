/- IxAdd, what is wanted of it. -/
import Derived.Test.YtdfkpjmljaanpaaGreatDoorZMX5
import Derived.Test.YtdfkpjmljaanpaaGreatDoorZMX4
import Derived.Laws.Cover1
import Derived.BigQuiet
import Derived.Deep.QuietTactic
import Derived.Deep.RegionHeld
namespace Go.Proofs.YtdfkpjmljaanpaaGreatDoor
open Go.RowKit
open Cn
theorem adE {rs : List Rw} {n : Int} {ts : List ByteArray} (h : Ix.adB rs n ts = false) : Ix.addI rs n ts = ([], [], 1) := by unfold Ix.addI; rw [if_neg (by rw [h]; decide)]
theorem adB_false {rs : List Rw} {n : Int} {ts : List ByteArray} (h : ¬ ((0 ≤ n ∧ n ≤ 4095 ∧ ts.length ≤ 12) ∧ (∀ r ∈ rs, r.last < n) ∧ (∀ t ∈ ts, t.size = 32) ∧ Wd.Rises ts)) : Ix.adB rs n ts = false := by
  cases e : Ix.adB rs n ts with
  | false => rfl
  | true => exact absurd (Ix.adB_iff.1 e) h
theorem adPost_err {Z : List Rw × List Po × Int} {k : Int} (h : Z = ([], [], k)) {w w' : World} (hb : Below w.heap.size w w') (e : Ending) (he : e = .returned (.agg #[.slice none 0 0, .slice none 0 0, .int .i64 k])) : AdPost Z w e w' := by
  subst h
  exact ⟨none, 0, none, 0, he, OwnR.nil _ _ _ _ _, OwnR.nil _ _ _ _ _, hb⟩
theorem getD_at {ts : List ByteArray} {i : Nat} (h : i < ts.length) : ts[i]? = some (ts.getD i ByteArray.empty) := by
  rw [List.getD_eq_getElem?_getD, List.getElem?_eq_getElem h]; rfl
theorem text_bl {s t : ByteArray} (h : Wd.less s t = true) : Op.bytesLess s.toList t.toList = true := h
theorem text_bl0 {s t : ByteArray} (h : Wd.less s t = false) : Op.bytesLess s.toList t.toList = false := h
theorem text_eq0 {s t : ByteArray} (h : s ≠ t) : (s.toList == t.toList) = false := by
  cases e : s.toList == t.toList with
  | false => rfl
  | true => exact absurd (Wd.toList_eq (by simpa using e)) h
theorem tdrop_at {ts : List ByteArray} {i : Nat} {t : ByteArray} (h : ts[i]? = some t) : ts.drop i = t :: ts.drop (i + 1) := by
  obtain ⟨h1, rfl⟩ := List.getElem?_eq_some_iff.1 h
  exact List.drop_eq_getElem_cons h1
theorem rdrop_at {rs : List Rw} {i : Nat} {r : Rw} (h : rs[i]? = some r) : rs.drop i = r :: rs.drop (i + 1) := by
  obtain ⟨h1, rfl⟩ := List.getElem?_eq_some_iff.1 h
  exact List.drop_eq_getElem_cons h1
set_option maxRecDepth 100000 in
set_option maxHeartbeats 40000000 in
theorem radd18_any (rs : List Rw) (ts : List ByteArray) (a0 b0 : Option Addr) (c d : Nat) (n : Int) (hn1 : -9223372036854775808 ≤ n) (hn2 : n ≤ 9223372036854775807) (w : World) (hT : RwAt w a0 rs) (hU : TextsAt w b0 ts) (hm : rs.length ≤ 5000) (hm2 : ts.length ≤ 1000000) (hok : ∀ r ∈ rs, Ix.rwOk r) :
    Calls Tryz.prog 58 #[.slice a0 rs.length c, .int .i64 n, .slice b0 ts.length d] w (AdPost (Ix.addI rs n ts) w) := by
  obtain ⟨w1, hw1⟩ : ∃ w1, w1 = w.alloc (.cells (wiCs none 0 0 none 0 0 0) 116) := ⟨_, rfl⟩
  have hb1 : Below w.heap.size w w1 := by rw [hw1]; exact (Below.refl _ _).alloc (Nat.le_refl _) _
  have hg1 : w1.heap[w.heap.size]? = some (.cells (wiCs none 0 0 none 0 0 0) 116 (0, 0)) := by rw [hw1]; exact heap_alloc_new _ _
  obtain ⟨N, hN⟩ : ∃ N, N = rs.length := ⟨_, rfl⟩
  obtain ⟨M, hM⟩ : ∃ M, M = ts.length := ⟨_, rfl⟩
  obtain ⟨Z, hZ⟩ : ∃ Z, Z = Ix.addI rs n ts := ⟨_, rfl⟩
  rw [← hN] at hm
  rw [← hM] at hm2
  rw [← hN, ← hM, ← hZ]
  obtain ⟨c0, c1, c2, f⟩ := wi0_cells hg1
  have H := Lib.hid (And.intro hT (And.intro hU (And.intro hok (And.intro hN (And.intro hM (And.intro hZ (And.intro hb1 hg1)))))))
  clear hT hU hok hN hM hZ hb1 hg1
  unfold wiCs at hw1
  by_cases h0 : n < 0
  · have HE := Lib.hid (H.out.2.2.2.2.2.1.trans (adE (adB_false (fun h => by have := h.1.1; omega))))
    go_enter Tryz.func58, Tryz.ntmps58
    go_upto_region 1 with fail
    rw [← hw1]
    clear hw1
    go_wp2_with fail
    refine bodyPost_ret (v := .agg #[.slice none 0 0, .slice none 0 0, .int .i64 1]) (by simp [results, Tryz.results58, go_sem, c0, c1, c2]) rfl ?_
    exact adPost_err HE.out (put3 H.out.2.2.2.2.2.2.1 (Nat.le_refl _) _ _ _) _ rfl
  by_cases h1 : 4095 < n
  · have HE := Lib.hid (H.out.2.2.2.2.2.1.trans (adE (adB_false (fun h => by have := h.1.2.1; omega))))
    go_enter Tryz.func58, Tryz.ntmps58
    go_upto_region 1 with fail
    rw [← hw1]
    clear hw1
    go_wp2_with fail
    refine bodyPost_ret (v := .agg #[.slice none 0 0, .slice none 0 0, .int .i64 1]) (by simp [results, Tryz.results58, go_sem, c0, c1, c2]) rfl ?_
    exact adPost_err HE.out (put3 H.out.2.2.2.2.2.2.1 (Nat.le_refl _) _ _ _) _ rfl
  by_cases h2 : 12 < M
  · have HE := Lib.hid (H.out.2.2.2.2.2.1.trans (adE (adB_false (fun h => by have := h.1.2.2; have := H.out.2.2.2.2.1; omega))))
    go_enter Tryz.func58, Tryz.ntmps58
    go_upto_region 1 with fail
    rw [← hw1]
    clear hw1
    go_wp2_with fail
    refine bodyPost_ret (v := .agg #[.slice none 0 0, .slice none 0 0, .int .i64 1]) (by simp [results, Tryz.results58, go_sem, c0, c1, c2]) rfl ?_
    exact adPost_err HE.out (put3 H.out.2.2.2.2.2.2.1 (Nat.le_refl _) _ _ _) _ rfl
  go_enter Tryz.func58, Tryz.ntmps58
  go_upto_region 1 with fail
  rw [← hw1]
  clear hw1
  go_wp2_with fail
  go_loopw [7] (fun k wr => ∃ i : Nat, i ≤ N ∧ k = .int .i64 i ∧ (∀ (j : Nat) (r : Rw), rs[j]? = some r → j < i → r.last < n) ∧ w1 = wr) (fun k _ => N - (intOf k).toNat)
  case atStart => exact ⟨0, by omega, rfl, fun j r _ h => by omega, rfl⟩
  case round =>
    obtain ⟨i, hi, rfl, hL, hwr⟩ := hrel
    subst hwr
    by_cases hlt : i < N
    · obtain ⟨r, hr⟩ : ∃ r, rs[i]? = some r := ⟨rs[i]'(by have := H.out.2.2.2.1; omega), List.getElem?_eq_getElem (by have := H.out.2.2.2.1; omega)⟩
      obtain ⟨b, off, ha, hbl, d0, d1, d2⟩ := (H.out.1.below H.out.2.2.2.2.2.2.1) i r hr
      subst ha
      clear d0 d1 hbl
      obtain ⟨x, hx⟩ : ∃ x, x = r.last := ⟨_, rfl⟩
      rw [← hx] at d2
      by_cases hle : n ≤ x
      · have HE := Lib.hid (H.out.2.2.2.2.2.1.trans (adE (adB_false (fun h => by have := h.2.1 r (List.mem_of_getElem? hr); omega))))
        clear hL hr hx
        go_wp2_with fail
        refine bodyPost_ret (v := .agg #[.slice none 0 0, .slice none 0 0, .int .i64 1]) (by simp [results, Tryz.results58, go_sem, c0, c1, c2]) rfl ?_
        exact adPost_err HE.out (put3 H.out.2.2.2.2.2.2.1 (Nat.le_refl _) _ _ _) _ rfl
      · have HL := Lib.hid (show ∀ (j : Nat) (r : Rw), rs[j]? = some r → j < i + 1 → r.last < n from fun j r' hj hji => by
            by_cases e : j = i
            · subst e; rw [hr] at hj; obtain rfl := Option.some.inj hj; omega
            · exact hL j r' hj (by omega))
        clear hL hr hx
        go_wp2_with fail
        go_roundw
        case rel => exact ⟨i + 1, by omega, by go_num, HL.out, trivial⟩
        case measure => simp [intOf]; omega
    · obtain rfl : N = i := by omega
      have HL := Lib.hid (show ∀ r ∈ rs, r.last < n from fun r hr => by obtain ⟨j, hj, hjr⟩ := Ix.mem_at hr; exact hL j r hjr (by have := H.out.2.2.2.1; omega))
      clear hL c0 c1 c2 f
      go_wp2_with fail
      go_loopw [8] (fun k wr => ∃ i : Nat, i ≤ M ∧ k = .int .i64 i ∧ (∀ (j : Nat) (t : ByteArray), ts[j]? = some t → j < i → t.size = 32) ∧ (∀ (j : Nat) (s t : ByteArray), j + 1 < i → ts[j]? = some s → ts[j + 1]? = some t → Wd.less s t = true) ∧ Below w.heap.size w wr ∧ wr.heap[w.heap.size]? = some (.cells (wiCs none 0 0 none 0 0 0) 116 (0, 0))) (fun k _ => M - (intOf k).toNat)
      case atStart => exact ⟨0, by omega, rfl, fun j t _ h => by omega, fun j s t h _ _ => by omega, H.out.2.2.2.2.2.2.1, H.out.2.2.2.2.2.2.2⟩
      case round =>
        obtain ⟨i, hi, rfl, h32, hrs, hb, hg⟩ := hrel
        by_cases hlt : i < M
        · obtain ⟨tb, off, hb0, hbl, d0⟩ := (H.out.2.1.below hb) i (by have := H.out.2.2.2.2.1; omega)
          subst hb0
          obtain ⟨t, hte⟩ : ∃ t, t = ts.getD i ByteArray.empty := ⟨_, rfl⟩
          have ht : ts[i]? = some t := by rw [hte]; exact getD_at (by have := H.out.2.2.2.2.1; omega)
          rw [← hte] at d0
          clear hte hbl
          obtain ⟨c0, c1, c2, f⟩ := wi0_cells hg
          by_cases hsz : t.size = 32
          · have hsi : (t.size : Int) = 32 := by omega
            cases i with
            | zero =>
              have HN := Lib.hid (And.intro (show ∀ (j : Nat) (t : ByteArray), ts[j]? = some t → j < 0 + 1 → t.size = 32 from fun j t' hj hji => by
                  obtain rfl : j = 0 := by omega
                  rw [ht] at hj; obtain rfl := Option.some.inj hj; exact hsz)
                (And.intro hb hg))
              have d1 : wr.cell? ⟨tb, off, none⟩ = some (.string t) := d0
              clear h32 hrs hb hg ht c0 c1 c2 f hsz d0
              go_wp2_with fail
              go_quiet (fail)
              have HB := Lib.hid (And.intro (below_drewN HN.out.2.1 nq) (show (wr.drewN nq).heap[w.heap.size]? = _ from HN.out.2.2))
              generalize wr.drewN nq = w2 at *
              go_wp2_with fail
              go_roundw
              case rel => exact ⟨1, by omega, by go_num, HN.out.1, fun j s t h _ _ => by omega, HB.out.1, HB.out.2⟩
              case measure => simp [intOf]; omega
            | succ j =>
              obtain ⟨tb2, off2, hb2, hbl2, e0⟩ := (H.out.2.1.below hb) j (by have := H.out.2.2.2.2.1; omega)
              injection hb2 with hb2
              injection hb2 with q1 q2
              subst q1 q2
              obtain ⟨s, hse⟩ : ∃ s, s = ts.getD j ByteArray.empty := ⟨_, rfl⟩
              have hs : ts[j]? = some s := by rw [hse]; exact getD_at (by have := H.out.2.2.2.2.1; omega)
              rw [← hse] at e0
              clear hse hbl2
              by_cases hls : Wd.less s t = true
              · have HN := Lib.hid (And.intro (show ∀ (j' : Nat) (t : ByteArray), ts[j']? = some t → j' < j + 1 + 1 → t.size = 32 from fun j' t' hj hji => by
                      by_cases e : j' = j + 1
                      · subst e; rw [ht] at hj; obtain rfl := Option.some.inj hj; exact hsz
                      · exact h32 j' t' hj (by omega))
                    (And.intro (show ∀ (j' : Nat) (s t : ByteArray), j' + 1 < j + 1 + 1 → ts[j']? = some s → ts[j' + 1]? = some t → Wd.less s t = true from fun j' s' t' hji hs' hj => by
                      by_cases e : j' = j
                      · subst e; rw [hs] at hs'; rw [ht] at hj; obtain rfl := Option.some.inj hs'; obtain rfl := Option.some.inj hj; exact hls
                      · exact hrs j' s' t' (by omega) hs' hj)
                    (And.intro hb hg)))
                have l1 : Op.bytesLess t.toList s.toList = false := text_bl0 (Wd.less_asymm hls)
                have l2 : (t.toList == s.toList) = false := text_eq0 (fun e => Wd.less_ne hls e.symm)
                clear h32 hrs hb hg ht hs c0 c1 c2 f hls hsz
                go_wp2_with fail
                go_quiet (fail)
                have HB := Lib.hid (And.intro (below_drewN HN.out.2.2.1 nq) (show (wr.drewN nq).heap[w.heap.size]? = _ from HN.out.2.2.2))
                generalize wr.drewN nq = w2 at *
                go_wp2_with fail
                go_roundw
                case rel => exact ⟨j + 1 + 1, by omega, by go_num, HN.out.1, HN.out.2.1, HB.out.1, HB.out.2⟩
                case measure => simp [intOf]; omega
              · have HE := Lib.hid (H.out.2.2.2.2.2.1.trans (adE (adB_false (fun h => hls (rises_at h.2.2.2 hs ht)))))
                by_cases hte : t = s
                · subst hte
                  have l2 : (t.toList == t.toList) = true := by simp
                  have l1 : Op.bytesLess t.toList t.toList = false := text_bl0 (Wd.less_irrefl t)
                  clear hls hs
                  clear h32 hrs ht hsz
                  go_wp2_with fail
                  go_quiet (fail)
                  have HB := Lib.hid (below_drewN hb nq)
                  have c0 : (wr.drewN nq).cell? ⟨w.heap.size, 0, none⟩ = some (.slice none 0 0) := c0
                  have c1 : (wr.drewN nq).cell? ⟨w.heap.size, 1, none⟩ = some (.slice none 0 0) := c1
                  have c2 : (wr.drewN nq).cell? ⟨w.heap.size, 2, none⟩ = some (.int .i64 0) := c2
                  have f : ∀ j, (wr.drewN nq).frozen? ⟨w.heap.size, j, none⟩ = false := f
                  clear hb hg
                  generalize wr.drewN nq = w2 at *
                  go_wp2_with fail
                  refine bodyPost_ret (v := .agg #[.slice none 0 0, .slice none 0 0, .int .i64 1]) (by simp [results, Tryz.results58, go_sem, c0, c1, c2]) rfl ?_
                  exact adPost_err HE.out (put3 HB.out (Nat.le_refl _) _ _ _) _ rfl
                · have hlt2 : Wd.less t s = true := by rcases Wd.less_total hte with h | h; exact h; exact absurd h hls
                  have l1 : Op.bytesLess t.toList s.toList = true := text_bl hlt2
                  have l2 : (t.toList == s.toList) = false := text_eq0 hte
                  clear hls hs hlt2 hte
                  clear h32 hrs ht hsz
                  go_wp2_with fail
                  go_quiet (fail)
                  have HB := Lib.hid (below_drewN hb nq)
                  have c0 : (wr.drewN nq).cell? ⟨w.heap.size, 0, none⟩ = some (.slice none 0 0) := c0
                  have c1 : (wr.drewN nq).cell? ⟨w.heap.size, 1, none⟩ = some (.slice none 0 0) := c1
                  have c2 : (wr.drewN nq).cell? ⟨w.heap.size, 2, none⟩ = some (.int .i64 0) := c2
                  have f : ∀ j, (wr.drewN nq).frozen? ⟨w.heap.size, j, none⟩ = false := f
                  clear hb hg
                  generalize wr.drewN nq = w2 at *
                  go_wp2_with fail
                  refine bodyPost_ret (v := .agg #[.slice none 0 0, .slice none 0 0, .int .i64 1]) (by simp [results, Tryz.results58, go_sem, c0, c1, c2]) rfl ?_
                  exact adPost_err HE.out (put3 HB.out (Nat.le_refl _) _ _ _) _ rfl
          · have hsi : ((t.size : Int) != 32) = true := by simp; omega
            have HE := Lib.hid (H.out.2.2.2.2.2.1.trans (adE (adB_false (fun h => hsz (h.2.2.1 t (List.mem_of_getElem? ht))))))
            clear h32 hrs ht hsz
            go_wp2_with fail
            go_quiet (fail)
            have HB := Lib.hid (below_drewN hb nq)
            have c0 : (wr.drewN nq).cell? ⟨w.heap.size, 0, none⟩ = some (.slice none 0 0) := c0
            have c1 : (wr.drewN nq).cell? ⟨w.heap.size, 1, none⟩ = some (.slice none 0 0) := c1
            have c2 : (wr.drewN nq).cell? ⟨w.heap.size, 2, none⟩ = some (.int .i64 0) := c2
            have f : ∀ j, (wr.drewN nq).frozen? ⟨w.heap.size, j, none⟩ = false := f
            clear hb hg
            generalize wr.drewN nq = w2 at *
            go_wp2_with fail
            refine bodyPost_ret (v := .agg #[.slice none 0 0, .slice none 0 0, .int .i64 1]) (by simp [results, Tryz.results58, go_sem, c0, c1, c2]) rfl ?_
            exact adPost_err HE.out (put3 HB.out (Nat.le_refl _) _ _ _) _ rfl
        · obtain rfl : M = i := by omega
          have hrise : Wd.Rises ts := (Ix.risesB_iff ts).1 (rises_adj (fun j s t hs ht => hrs j s t (by have := (List.getElem?_eq_some_iff.1 ht).1; have := H.out.2.2.2.2.1; omega) hs ht))
          have hall : ∀ t ∈ ts, t.size = 32 := fun t ht => by obtain ⟨j, hj, rfl⟩ := List.mem_iff_getElem.1 ht; exact h32 j _ (List.getElem?_eq_getElem hj) (by have := H.out.2.2.2.2.1; omega)
          have hAD : Ix.adB rs n ts = true := Ix.adB_iff.2 ⟨⟨by omega, by omega, by have := H.out.2.2.2.2.1; omega⟩, HL.out, hall, hrise⟩
          have hZ2 : Z = if 4096 < (Ix.mrg n rs ts).1.length then ([], [], 6) else ((Ix.mrg n rs ts).1, (Ix.mrg n rs ts).2, 0) := by rw [H.out.2.2.2.2.2.1]; unfold Ix.addI; rw [if_pos hAD]
          obtain ⟨ml1, ml2⟩ := Ix.mrg_len n rs ts
          have hGl : (Ix.mrg n rs ts).1.length ≤ 6000 ∧ (Ix.mrg n rs ts).2.length ≤ 6000 := by have := H.out.2.2.2.1; have := H.out.2.2.2.2.1; omega
          have hM0 : (Ix.mrg n rs ts).1 = [] ++ (Ix.mrg n (rs.drop 0) (ts.drop 0)).1 ∧ (Ix.mrg n rs ts).2 = [] ++ (Ix.mrg n (rs.drop 0) (ts.drop 0)).2 := ⟨rfl, rfl⟩
          obtain ⟨G1, hG1⟩ : ∃ G, G = (Ix.mrg n rs ts).1 := ⟨_, rfl⟩
          obtain ⟨G2, hG2⟩ : ∃ G, G = (Ix.mrg n rs ts).2 := ⟨_, rfl⟩
          rw [← hG1, ← hG2] at hZ2 hGl hM0
          obtain ⟨vA, hvA⟩ : ∃ v, v = wr := ⟨_, rfl⟩
          subst hvA
          obtain ⟨w2, hw2⟩ : ∃ w2, w2 = vA.alloc (.cells (wiCs none 0 0 none 0 0 0) 116) := ⟨_, rfl⟩
          have hb2 : Below vA.heap.size vA w2 := by rw [hw2]; exact (Below.refl _ _).alloc (Nat.le_refl _) _
          have hW : WiS w vA.heap.size [] [] none 0 none 0 w2 := ⟨lt_of_heap hg, (hb2.block _ (lt_of_heap hg)).trans hg, by rw [hw2]; exact heap_alloc_new _ _, OwnR.nil _ _ _ _ _, OwnR.nil _ _ _ _ _, fun g h => by simp [Value.ownBlock] at h, hb.trans (hb2.mono hb.size)⟩
          obtain ⟨ob, hob⟩ : ∃ ob, ob = vA.heap.size := ⟨_, rfl⟩
          rw [← hob] at hW
          unfold wiCs at hw2
          have HA := Lib.hid (And.intro hZ2 (And.intro hGl (And.intro hM0 hW)))
          clear hZ2 hGl hM0 hW hb2 hb hg h32 hrs hrise hall hAD ml1 ml2 hG1 hG2
          go_upto_region 14 with fail
          rw [← hw2, ← hob]
          clear hw2 hob
          go_wp2_with fail
          go_loopw [10, 11] (fun k i wr => ∃ (K I : Nat) (R : List Rw) (P : List Po) (a : Option Addr) (ca : Nat) (p : Option Addr) (cp : Nat), K ≤ M ∧ I ≤ N + 1 ∧ (I = N + 1 → K = M) ∧ k = .int .i64 K ∧ i = .int .i64 I ∧ G1 = R ++ (Ix.mrg n (rs.drop I) (ts.drop K)).1 ∧ G2 = P ++ (Ix.mrg n (rs.drop I) (ts.drop K)).2 ∧ WiS w ob R P a ca p cp wr) (fun _ i _ => N + 1 - (intOf i).toNat)
          case atStart => exact ⟨0, 0, [], [], none, 0, none, 0, by omega, by omega, by omega, rfl, rfl, HA.out.2.2.1.1, HA.out.2.2.1.2, HA.out.2.2.2⟩
          case round =>
            obtain ⟨K0, I, R0, P0, a0r, ca0, p0, cp0, hK0, hI, hKI, rfl, rfl, hR0, hP0, hW0⟩ := hrel
            obtain ⟨vB, hvB⟩ : ∃ v, v = wr := ⟨_, rfl⟩
            subst hvB
            by_cases hIN : I ≤ N
            · have HB := Lib.hid (And.intro hR0 (And.intro hP0 hW0))
              clear hR0 hP0 hW0
              go_wp2_with fail
              go_loopw [10] (fun k wr => ∃ (K : Nat) (R : List Rw) (P : List Po) (a : Option Addr) (ca : Nat) (p : Option Addr) (cp : Nat), K ≤ M ∧ k = .int .i64 K ∧ G1 = R ++ (Ix.mrg n (rs.drop I) (ts.drop K)).1 ∧ G2 = P ++ (Ix.mrg n (rs.drop I) (ts.drop K)).2 ∧ WiS w ob R P a ca p cp wr) (fun k _ => M - (intOf k).toNat)
              case atStart => exact ⟨K0, R0, P0, a0r, ca0, p0, cp0, hK0, rfl, HB.out.1, HB.out.2.1, HB.out.2.2⟩
              case round =>
                obtain ⟨k, R, P, a, ca, p, cp, hK, rfl, hR, hP, hW⟩ := hrel
                clear HB hK0 hKI
                have hRl : R.length ≤ 6000 := by have h1 := HA.out.2.1.1; rw [hR, List.length_append] at h1; omega
                have hPl : P.length ≤ 6000 := by have h1 := HA.out.2.1.2; rw [hP, List.length_append] at h1; omega
                have hlo := hW.lo
                by_cases hKM : k < M
                · obtain ⟨tb, tof, hb0, htb, d00⟩ := H.out.2.1 k (by have := H.out.2.2.2.2.1; omega)
                  obtain ⟨t, hte⟩ : ∃ t, t = ts.getD k ByteArray.empty := ⟨_, rfl⟩
                  have ht : ts[k]? = some t := by rw [hte]; exact getD_at (by have := H.out.2.2.2.2.1; omega)
                  rw [← hte] at d00
                  have d0 : wr.cell? ⟨tb, tof + k, none⟩ = some (.string t) := (hW.below.cell (p := ⟨tb, tof + k, none⟩) htb).trans d00
                  subst hb0
                  clear hte d00
                  by_cases hIe : I = N
                  · subst hIe
                    have hIq : ((I : Int) == (I : Int)) = true := by simp
                    have hdr : rs.drop I = [] := List.drop_eq_nil_of_le (by have := H.out.2.2.2.1; omega)
                    have hR3 : G1 = (R ++ [⟨t, 1, n⟩]) ++ (Ix.mrg n (rs.drop I) (ts.drop (k + 1))).1 := by rw [hR, tdrop_at ht]; rw [hdr, Ix.mrg_new]; simp
                    have hP3 : G2 = (P ++ [⟨t, 0⟩]) ++ (Ix.mrg n (rs.drop I) (ts.drop (k + 1))).2 := by rw [hP, tdrop_at ht]; rw [hdr, Ix.mrg_new]; simp
                    have HN := Lib.hid (And.intro hR3 (And.intro hP3 hW))
                    clear hR3 hP3 hR hP hW ht
                    go_wp2_with fail
                    go_quiet (fail)
                    have D0 : (wr.drewN nq).cell? ⟨tb, tof + k, none⟩ = some (.string t) := d0
                    have L9 := HN.out.2.2.call (below_drewN (Below.refl _ _) nq)
                    have N8 := Lib.hid (And.intro L9 D0)
                    clear L9 D0 d0
                    generalize wr.drewN nq = wz9 at *
                    go_wp2_with fail
                    refine wp_region_held (S := fun W : World => W.cell? ⟨tb, tof + k, none⟩ = some (.string t)) (by kernel_rfl) ?_
                    have E0 : wz9.drew.cell? ⟨tb, tof + k, none⟩ = some (.string t) := N8.out.2
                    have L0 := (N8.out.1).drew
                    change wpAnyH _ _ _ _ _ _ _ _ (World.drew _)
                    generalize World.drew _ = v0 at *
                    refine wpAnyH_take (i := 0) (v := ?_) rfl (by kernel_rfl) (by kernel_rfl) (by kernel_rfl) (fun _ _ _ h => h) (Or.inl ⟨by kernel_rfl, ?_⟩) E0 ?_
                    rotate_left
                    · (intro W hS; have g0 := hS; go_simp; try (with_reducible rfl))
                    refine wpAnyH_take (i := 2) (v := ?_) rfl (by kernel_rfl) (by kernel_rfl) (by kernel_rfl) (fun _ _ _ h => h) (Or.inl ⟨by kernel_rfl, ?_⟩) E0 ?_
                    rotate_left
                    · (intro W hS; have g0 := hS; go_simp; try (with_reducible rfl))
                    refine wpAnyH_take (i := 3) (v := ?_) rfl (by kernel_rfl) (by kernel_rfl) (by kernel_rfl) (fun _ _ _ h => h) (Or.inl ⟨by kernel_rfl, ?_⟩) E0 ?_
                    rotate_left
                    · (intro W hS; have g0 := hS; go_simp; try (with_reducible rfl))
                    refine wpAnyH_take (i := 4) (v := ?_) rfl (by kernel_rfl) (by kernel_rfl) (by kernel_rfl) (fun _ _ _ h => h) (Or.inl ⟨by kernel_rfl, ?_⟩) E0 ?_
                    rotate_left
                    · (intro W hS; have g0 := hS; go_simp; try (with_reducible rfl))
                    refine wpAnyH_take (i := 5) (v := ?_) rfl (by kernel_rfl) (by kernel_rfl) (by kernel_rfl) (fun _ _ _ h => h) (Or.inl ⟨by kernel_rfl, ?_⟩) E0 ?_
                    rotate_left
                    · (intro W hS; have g0 := hS; go_simp; try (with_reducible rfl))
                    refine wpAnyH_take (i := 6) (v := ?_) rfl (by kernel_rfl) (by kernel_rfl) (by kernel_rfl) (fun _ _ _ h => h) (Or.inl ⟨by kernel_rfl, ?_⟩) E0 ?_
                    rotate_left
                    · (intro W hS; have g0 := hS; go_simp; try (with_reducible rfl))
                    refine wpAnyH_take (i := 7) (v := ?_) rfl (by kernel_rfl) (by kernel_rfl) (by kernel_rfl) (fun _ _ _ h => h) (Or.inl ⟨by kernel_rfl, ?_⟩) E0 ?_
                    rotate_left
                    · (intro W hS; have g0 := hS; go_simp; try (with_reducible rfl))
                    obtain ⟨v1, hv⟩ : ∃ v, v = v0.alloc (.cells (rwCs (⟨t, 1, n⟩ : Rw)) 47) := ⟨_, rfl⟩
                    have hb : Below v0.heap.size v0 v1 := by rw [hv]; exact (Below.refl _ _).alloc (Nat.le_refl _) _
                    have gp : v1.heap[v0.heap.size]? = some (.cells (rwCs (⟨t, 1, n⟩ : Rw)) 47 (0, 0)) := by rw [hv]; exact heap_alloc_new _ _
                    have hz0 := L0.size
                    have L1 := L0.call hb
                    have E1 : v1.cell? ⟨tb, tof + k, none⟩ = some (.string t) := (hb.cell (p := ⟨tb, tof + k, none⟩) (show tb < v0.heap.size by omega)).trans E0
                    have hz1 := L1.size
                    unfold rwCs at hv
                    clear hb
                    refine wpAnyH_ready (rs := [1, 8]) (by kernel_rfl) (by simp) ?_
                    refine AllReadyH.cons (i := 1) rfl (fun K hK => ?_) ?_
                    · have qs := L0.cells.1
                      go_simp
                      refine hK.out _ _ E0 (fun _ => ?_)
                      clear hK K qs
                      refine wpAnyH_ready (rs := [8]) (by kernel_rfl) (by simp) ?_
                      refine AllReadyH.cons (i := 8) rfl (fun K hK => ?_) AllReadyH.nil
                      go_simp
                      rw [← hv]
                      clear hv
                      refine hK.out _ _ E1 (fun _ => ?_)
                      clear hK K
                      refine wpAnyH_ready (rs := [9]) (by kernel_rfl) (by simp) ?_
                      refine AllReadyH.cons (i := 9) rfl (fun K hK => ?_) AllReadyH.nil
                      refine step_append_r rfl (.tmp 96) (.tmp 103) 26 rfl rrow_rec rwCs_one rwCs_size L1.own _ rfl (by kernel_rfl) _ 1 (⟨t, 1, n⟩ : Rw) (by kernel_rfl) gp (by omega) hz1 (Below.refl _ _) ?_
                      intro q cq vz ho hB hgr hat
                      have hN := L1.rows ho hB hgr hat
                      have E2 : vz.cell? ⟨tb, tof + k, none⟩ = some (.string t) := (hB.cell (p := ⟨tb, tof + k, none⟩) (show tb < ob + 1 by omega)).trans E1
                      have zr := (hB.block ob (Nat.lt_succ_self _)).trans L1.row
                      have zc : vz.cell? ⟨ob, 0, none⟩ = some (.slice a R.length ca) := by rw [cell_of_row _ _ _ _ _ _ zr]; rfl
                      have zf : vz.frozen? ⟨ob, 0, none⟩ = false := Lib.frozen_of_heap zr 0
                      refine hK.out _ _ E2 (fun _ => ?_)
                      clear hK K
                      refine wpAnyH_take (i := 10) (v := ?_) rfl (by kernel_rfl) (by kernel_rfl) (by kernel_rfl) (fun _ _ _ h => h) (Or.inl ⟨by kernel_rfl, ?_⟩) E2 ?_
                      rotate_left
                      · (intro W hS; have g0 := hS; go_simp; try (with_reducible rfl))
                      refine wpAnyH_ready (rs := [11]) (by kernel_rfl) (by simp) ?_
                      refine AllReadyH.cons (i := 11) rfl (fun K hK => ?_) AllReadyH.nil
                      go_simp
                      have E3 : (vz.setCell ⟨ob, 0, none⟩ (.slice (some ⟨q, 0, none⟩) (R.length + 1) cq)).cell? ⟨tb, tof + k, none⟩ = some (.string t) := (World.cell?_of_block (a := ⟨tb, tof + k, none⟩) (heap_setCell_other _ _ _ _ (show tb ≠ ob by omega))).trans E2
                      refine hK.out _ _ E3 (fun _ => ?_)
                      clear hK K
                      refine wpAnyH_done (by kernel_rfl) ?_ _
                      go_simp
                      have N9 := Lib.hid (And.intro hN E3)
                      clear hN E3 E2 E1 E0 L0 L1 zr zc zf ho hB hgr hat gp hz0 hz1
                      generalize vz.setCell _ _ = wz10 at *
                      go_wp2_with fail
                      refine wp_region_held (S := fun W : World => W.cell? ⟨tb, tof + k, none⟩ = some (.string t)) (by kernel_rfl) ?_
                      have E0 : wz10.drew.cell? ⟨tb, tof + k, none⟩ = some (.string t) := N9.out.2
                      have L0 := (N9.out.1).drew
                      change wpAnyH _ _ _ _ _ _ _ _ (World.drew _)
                      generalize World.drew _ = v0 at *
                      refine wpAnyH_take (i := 0) (v := ?_) rfl (by kernel_rfl) (by kernel_rfl) (by kernel_rfl) (fun _ _ _ h => h) (Or.inl ⟨by kernel_rfl, ?_⟩) E0 ?_
                      rotate_left
                      · (intro W hS; have g0 := hS; go_simp; try (with_reducible rfl))
                      refine wpAnyH_take (i := 2) (v := ?_) rfl (by kernel_rfl) (by kernel_rfl) (by kernel_rfl) (fun _ _ _ h => h) (Or.inl ⟨by kernel_rfl, ?_⟩) E0 ?_
                      rotate_left
                      · (intro W hS; have g0 := hS; go_simp; try (with_reducible rfl))
                      refine wpAnyH_take (i := 3) (v := ?_) rfl (by kernel_rfl) (by kernel_rfl) (by kernel_rfl) (fun _ _ _ h => h) (Or.inl ⟨by kernel_rfl, ?_⟩) E0 ?_
                      rotate_left
                      · (intro W hS; have g0 := hS; go_simp; try (with_reducible rfl))
                      refine wpAnyH_take (i := 4) (v := ?_) rfl (by kernel_rfl) (by kernel_rfl) (by kernel_rfl) (fun _ _ _ h => h) (Or.inl ⟨by kernel_rfl, ?_⟩) E0 ?_
                      rotate_left
                      · (intro W hS; have g0 := hS; go_simp; try (with_reducible rfl))
                      refine wpAnyH_take (i := 5) (v := ?_) rfl (by kernel_rfl) (by kernel_rfl) (by kernel_rfl) (fun _ _ _ h => h) (Or.inl ⟨by kernel_rfl, ?_⟩) E0 ?_
                      rotate_left
                      · (intro W hS; have g0 := hS; go_simp; try (with_reducible rfl))
                      refine wpAnyH_take (i := 6) (v := ?_) rfl (by kernel_rfl) (by kernel_rfl) (by kernel_rfl) (fun _ _ _ h => h) (Or.inl ⟨by kernel_rfl, ?_⟩) E0 ?_
                      rotate_left
                      · (intro W hS; have g0 := hS; go_simp; try (with_reducible rfl))
                      obtain ⟨v1, hv⟩ : ∃ v, v = v0.alloc (.cells (poCs (⟨t, 0⟩ : Po)) 119) := ⟨_, rfl⟩
                      have hb : Below v0.heap.size v0 v1 := by rw [hv]; exact (Below.refl _ _).alloc (Nat.le_refl _) _
                      have gp : v1.heap[v0.heap.size]? = some (.cells (poCs (⟨t, 0⟩ : Po)) 119 (0, 0)) := by rw [hv]; exact heap_alloc_new _ _
                      have hz0 := L0.size
                      have L1 := L0.call hb
                      have E1 : v1.cell? ⟨tb, tof + k, none⟩ = some (.string t) := (hb.cell (p := ⟨tb, tof + k, none⟩) (show tb < v0.heap.size by omega)).trans E0
                      have hz1 := L1.size
                      unfold poCs at hv
                      clear hb
                      refine wpAnyH_ready (rs := [1, 7]) (by kernel_rfl) (by simp) ?_
                      refine AllReadyH.cons (i := 1) rfl (fun K hK => ?_) ?_
                      · have qs := L0.cells.2.1
                        go_simp
                        refine hK.out _ _ E0 (fun _ => ?_)
                        clear hK K qs
                        refine wpAnyH_ready (rs := [7]) (by kernel_rfl) (by simp) ?_
                        refine AllReadyH.cons (i := 7) rfl (fun K hK => ?_) AllReadyH.nil
                        go_simp
                        rw [← hv]
                        clear hv
                        refine hK.out _ _ E1 (fun _ => ?_)
                        clear hK K
                        refine wpAnyH_ready (rs := [8]) (by kernel_rfl) (by simp) ?_
                        refine AllReadyH.cons (i := 8) rfl (fun K hK => ?_) AllReadyH.nil
                        refine step_append_r rfl (.tmp 107) (.tmp 113) 114 rfl rposting_rec poCs_one poCs_size L1.owp _ rfl (by kernel_rfl) _ 1 (⟨t, 0⟩ : Po) (by kernel_rfl) gp (by omega) hz1 (Below.refl _ _) ?_
                        intro q cq vz ho hB hgr hat
                        have hN := L1.posts ho hB hgr hat
                        have E2 : vz.cell? ⟨tb, tof + k, none⟩ = some (.string t) := (hB.cell (p := ⟨tb, tof + k, none⟩) (show tb < ob + 1 by omega)).trans E1
                        have zr := (hB.block ob (Nat.lt_succ_self _)).trans L1.row
                        have zc : vz.cell? ⟨ob, 1, none⟩ = some (.slice p P.length cp) := by rw [cell_of_row _ _ _ _ _ _ zr]; rfl
                        have zf : vz.frozen? ⟨ob, 1, none⟩ = false := Lib.frozen_of_heap zr 1
                        refine hK.out _ _ E2 (fun _ => ?_)
                        clear hK K
                        refine wpAnyH_take (i := 9) (v := ?_) rfl (by kernel_rfl) (by kernel_rfl) (by kernel_rfl) (fun _ _ _ h => h) (Or.inl ⟨by kernel_rfl, ?_⟩) E2 ?_
                        rotate_left
                        · (intro W hS; have g0 := hS; go_simp; try (with_reducible rfl))
                        refine wpAnyH_ready (rs := [10]) (by kernel_rfl) (by simp) ?_
                        refine AllReadyH.cons (i := 10) rfl (fun K hK => ?_) AllReadyH.nil
                        go_simp
                        have E3 : (vz.setCell ⟨ob, 1, none⟩ (.slice (some ⟨q, 0, none⟩) (P.length + 1) cq)).cell? ⟨tb, tof + k, none⟩ = some (.string t) := (World.cell?_of_block (a := ⟨tb, tof + k, none⟩) (heap_setCell_other _ _ _ _ (show tb ≠ ob by omega))).trans E2
                        refine hK.out _ _ E3 (fun _ => ?_)
                        clear hK K
                        refine wpAnyH_done (by kernel_rfl) ?_ _
                        go_simp
                        have N10 := Lib.hid (And.intro hN E3)
                        clear hN E3 E2 E1 E0 L0 L1 zr zc zf ho hB hgr hat gp hz0 hz1
                        generalize vz.setCell _ _ = wz11 at *
                        go_wp2_with fail
                        go_roundw
                        case rel => exact ⟨k + 1, _, _, _, _, _, _, by omega, by go_num, HN.out.1, HN.out.2.1, N10.out.1⟩
                        case measure => (simp [intOf]; try omega)
                      refine AllReadyH.cons (i := 7) rfl (fun K hK => ?_) AllReadyH.nil
                      go_simp
                      rw [← hv]
                      clear hv
                      refine hK.out _ _ E1 (fun _ => ?_)
                      clear hK K
                      refine wpAnyH_ready (rs := [1]) (by kernel_rfl) (by simp) ?_
                      refine AllReadyH.cons (i := 1) rfl (fun K hK => ?_) AllReadyH.nil
                      have qs := L1.cells.2.1
                      go_simp
                      refine hK.out _ _ E1 (fun _ => ?_)
                      clear hK K qs
                      refine wpAnyH_ready (rs := [8]) (by kernel_rfl) (by simp) ?_
                      refine AllReadyH.cons (i := 8) rfl (fun K hK => ?_) AllReadyH.nil
                      refine step_append_r rfl (.tmp 107) (.tmp 113) 114 rfl rposting_rec poCs_one poCs_size L1.owp _ rfl (by kernel_rfl) _ 1 (⟨t, 0⟩ : Po) (by kernel_rfl) gp (by omega) hz1 (Below.refl _ _) ?_
                      intro q cq vz ho hB hgr hat
                      have hN := L1.posts ho hB hgr hat
                      have E2 : vz.cell? ⟨tb, tof + k, none⟩ = some (.string t) := (hB.cell (p := ⟨tb, tof + k, none⟩) (show tb < ob + 1 by omega)).trans E1
                      have zr := (hB.block ob (Nat.lt_succ_self _)).trans L1.row
                      have zc : vz.cell? ⟨ob, 1, none⟩ = some (.slice p P.length cp) := by rw [cell_of_row _ _ _ _ _ _ zr]; rfl
                      have zf : vz.frozen? ⟨ob, 1, none⟩ = false := Lib.frozen_of_heap zr 1
                      refine hK.out _ _ E2 (fun _ => ?_)
                      clear hK K
                      refine wpAnyH_take (i := 9) (v := ?_) rfl (by kernel_rfl) (by kernel_rfl) (by kernel_rfl) (fun _ _ _ h => h) (Or.inl ⟨by kernel_rfl, ?_⟩) E2 ?_
                      rotate_left
                      · (intro W hS; have g0 := hS; go_simp; try (with_reducible rfl))
                      refine wpAnyH_ready (rs := [10]) (by kernel_rfl) (by simp) ?_
                      refine AllReadyH.cons (i := 10) rfl (fun K hK => ?_) AllReadyH.nil
                      go_simp
                      have E3 : (vz.setCell ⟨ob, 1, none⟩ (.slice (some ⟨q, 0, none⟩) (P.length + 1) cq)).cell? ⟨tb, tof + k, none⟩ = some (.string t) := (World.cell?_of_block (a := ⟨tb, tof + k, none⟩) (heap_setCell_other _ _ _ _ (show tb ≠ ob by omega))).trans E2
                      refine hK.out _ _ E3 (fun _ => ?_)
                      clear hK K
                      refine wpAnyH_done (by kernel_rfl) ?_ _
                      go_simp
                      have N10 := Lib.hid (And.intro hN E3)
                      clear hN E3 E2 E1 E0 L0 L1 zr zc zf ho hB hgr hat gp hz0 hz1
                      generalize vz.setCell _ _ = wz11 at *
                      go_wp2_with fail
                      go_roundw
                      case rel => exact ⟨k + 1, _, _, _, _, _, _, by omega, by go_num, HN.out.1, HN.out.2.1, N10.out.1⟩
                      case measure => (simp [intOf]; try omega)
                    refine AllReadyH.cons (i := 8) rfl (fun K hK => ?_) AllReadyH.nil
                    go_simp
                    rw [← hv]
                    clear hv
                    refine hK.out _ _ E1 (fun _ => ?_)
                    clear hK K
                    refine wpAnyH_ready (rs := [1]) (by kernel_rfl) (by simp) ?_
                    refine AllReadyH.cons (i := 1) rfl (fun K hK => ?_) AllReadyH.nil
                    have qs := L1.cells.1
                    go_simp
                    refine hK.out _ _ E1 (fun _ => ?_)
                    clear hK K qs
                    refine wpAnyH_ready (rs := [9]) (by kernel_rfl) (by simp) ?_
                    refine AllReadyH.cons (i := 9) rfl (fun K hK => ?_) AllReadyH.nil
                    refine step_append_r rfl (.tmp 96) (.tmp 103) 26 rfl rrow_rec rwCs_one rwCs_size L1.own _ rfl (by kernel_rfl) _ 1 (⟨t, 1, n⟩ : Rw) (by kernel_rfl) gp (by omega) hz1 (Below.refl _ _) ?_
                    intro q cq vz ho hB hgr hat
                    have hN := L1.rows ho hB hgr hat
                    have E2 : vz.cell? ⟨tb, tof + k, none⟩ = some (.string t) := (hB.cell (p := ⟨tb, tof + k, none⟩) (show tb < ob + 1 by omega)).trans E1
                    have zr := (hB.block ob (Nat.lt_succ_self _)).trans L1.row
                    have zc : vz.cell? ⟨ob, 0, none⟩ = some (.slice a R.length ca) := by rw [cell_of_row _ _ _ _ _ _ zr]; rfl
                    have zf : vz.frozen? ⟨ob, 0, none⟩ = false := Lib.frozen_of_heap zr 0
                    refine hK.out _ _ E2 (fun _ => ?_)
                    clear hK K
                    refine wpAnyH_take (i := 10) (v := ?_) rfl (by kernel_rfl) (by kernel_rfl) (by kernel_rfl) (fun _ _ _ h => h) (Or.inl ⟨by kernel_rfl, ?_⟩) E2 ?_
                    rotate_left
                    · (intro W hS; have g0 := hS; go_simp; try (with_reducible rfl))
                    refine wpAnyH_ready (rs := [11]) (by kernel_rfl) (by simp) ?_
                    refine AllReadyH.cons (i := 11) rfl (fun K hK => ?_) AllReadyH.nil
                    go_simp
                    have E3 : (vz.setCell ⟨ob, 0, none⟩ (.slice (some ⟨q, 0, none⟩) (R.length + 1) cq)).cell? ⟨tb, tof + k, none⟩ = some (.string t) := (World.cell?_of_block (a := ⟨tb, tof + k, none⟩) (heap_setCell_other _ _ _ _ (show tb ≠ ob by omega))).trans E2
                    refine hK.out _ _ E3 (fun _ => ?_)
                    clear hK K
                    refine wpAnyH_done (by kernel_rfl) ?_ _
                    go_simp
                    have N9 := Lib.hid (And.intro hN E3)
                    clear hN E3 E2 E1 E0 L0 L1 zr zc zf ho hB hgr hat gp hz0 hz1
                    generalize vz.setCell _ _ = wz10 at *
                    go_wp2_with fail
                    refine wp_region_held (S := fun W : World => W.cell? ⟨tb, tof + k, none⟩ = some (.string t)) (by kernel_rfl) ?_
                    have E0 : wz10.drew.cell? ⟨tb, tof + k, none⟩ = some (.string t) := N9.out.2
                    have L0 := (N9.out.1).drew
                    change wpAnyH _ _ _ _ _ _ _ _ (World.drew _)
                    generalize World.drew _ = v0 at *
                    refine wpAnyH_take (i := 0) (v := ?_) rfl (by kernel_rfl) (by kernel_rfl) (by kernel_rfl) (fun _ _ _ h => h) (Or.inl ⟨by kernel_rfl, ?_⟩) E0 ?_
                    rotate_left
                    · (intro W hS; have g0 := hS; go_simp; try (with_reducible rfl))
                    refine wpAnyH_take (i := 2) (v := ?_) rfl (by kernel_rfl) (by kernel_rfl) (by kernel_rfl) (fun _ _ _ h => h) (Or.inl ⟨by kernel_rfl, ?_⟩) E0 ?_
                    rotate_left
                    · (intro W hS; have g0 := hS; go_simp; try (with_reducible rfl))
                    refine wpAnyH_take (i := 3) (v := ?_) rfl (by kernel_rfl) (by kernel_rfl) (by kernel_rfl) (fun _ _ _ h => h) (Or.inl ⟨by kernel_rfl, ?_⟩) E0 ?_
                    rotate_left
                    · (intro W hS; have g0 := hS; go_simp; try (with_reducible rfl))
                    refine wpAnyH_take (i := 4) (v := ?_) rfl (by kernel_rfl) (by kernel_rfl) (by kernel_rfl) (fun _ _ _ h => h) (Or.inl ⟨by kernel_rfl, ?_⟩) E0 ?_
                    rotate_left
                    · (intro W hS; have g0 := hS; go_simp; try (with_reducible rfl))
                    refine wpAnyH_take (i := 5) (v := ?_) rfl (by kernel_rfl) (by kernel_rfl) (by kernel_rfl) (fun _ _ _ h => h) (Or.inl ⟨by kernel_rfl, ?_⟩) E0 ?_
                    rotate_left
                    · (intro W hS; have g0 := hS; go_simp; try (with_reducible rfl))
                    refine wpAnyH_take (i := 6) (v := ?_) rfl (by kernel_rfl) (by kernel_rfl) (by kernel_rfl) (fun _ _ _ h => h) (Or.inl ⟨by kernel_rfl, ?_⟩) E0 ?_
                    rotate_left
                    · (intro W hS; have g0 := hS; go_simp; try (with_reducible rfl))
                    obtain ⟨v1, hv⟩ : ∃ v, v = v0.alloc (.cells (poCs (⟨t, 0⟩ : Po)) 119) := ⟨_, rfl⟩
                    have hb : Below v0.heap.size v0 v1 := by rw [hv]; exact (Below.refl _ _).alloc (Nat.le_refl _) _
                    have gp : v1.heap[v0.heap.size]? = some (.cells (poCs (⟨t, 0⟩ : Po)) 119 (0, 0)) := by rw [hv]; exact heap_alloc_new _ _
                    have hz0 := L0.size
                    have L1 := L0.call hb
                    have E1 : v1.cell? ⟨tb, tof + k, none⟩ = some (.string t) := (hb.cell (p := ⟨tb, tof + k, none⟩) (show tb < v0.heap.size by omega)).trans E0
                    have hz1 := L1.size
                    unfold poCs at hv
                    clear hb
                    refine wpAnyH_ready (rs := [1, 7]) (by kernel_rfl) (by simp) ?_
                    refine AllReadyH.cons (i := 1) rfl (fun K hK => ?_) ?_
                    · have qs := L0.cells.2.1
                      go_simp
                      refine hK.out _ _ E0 (fun _ => ?_)
                      clear hK K qs
                      refine wpAnyH_ready (rs := [7]) (by kernel_rfl) (by simp) ?_
                      refine AllReadyH.cons (i := 7) rfl (fun K hK => ?_) AllReadyH.nil
                      go_simp
                      rw [← hv]
                      clear hv
                      refine hK.out _ _ E1 (fun _ => ?_)
                      clear hK K
                      refine wpAnyH_ready (rs := [8]) (by kernel_rfl) (by simp) ?_
                      refine AllReadyH.cons (i := 8) rfl (fun K hK => ?_) AllReadyH.nil
                      refine step_append_r rfl (.tmp 107) (.tmp 113) 114 rfl rposting_rec poCs_one poCs_size L1.owp _ rfl (by kernel_rfl) _ 1 (⟨t, 0⟩ : Po) (by kernel_rfl) gp (by omega) hz1 (Below.refl _ _) ?_
                      intro q cq vz ho hB hgr hat
                      have hN := L1.posts ho hB hgr hat
                      have E2 : vz.cell? ⟨tb, tof + k, none⟩ = some (.string t) := (hB.cell (p := ⟨tb, tof + k, none⟩) (show tb < ob + 1 by omega)).trans E1
                      have zr := (hB.block ob (Nat.lt_succ_self _)).trans L1.row
                      have zc : vz.cell? ⟨ob, 1, none⟩ = some (.slice p P.length cp) := by rw [cell_of_row _ _ _ _ _ _ zr]; rfl
                      have zf : vz.frozen? ⟨ob, 1, none⟩ = false := Lib.frozen_of_heap zr 1
                      refine hK.out _ _ E2 (fun _ => ?_)
                      clear hK K
                      refine wpAnyH_take (i := 9) (v := ?_) rfl (by kernel_rfl) (by kernel_rfl) (by kernel_rfl) (fun _ _ _ h => h) (Or.inl ⟨by kernel_rfl, ?_⟩) E2 ?_
                      rotate_left
                      · (intro W hS; have g0 := hS; go_simp; try (with_reducible rfl))
                      refine wpAnyH_ready (rs := [10]) (by kernel_rfl) (by simp) ?_
                      refine AllReadyH.cons (i := 10) rfl (fun K hK => ?_) AllReadyH.nil
                      go_simp
                      have E3 : (vz.setCell ⟨ob, 1, none⟩ (.slice (some ⟨q, 0, none⟩) (P.length + 1) cq)).cell? ⟨tb, tof + k, none⟩ = some (.string t) := (World.cell?_of_block (a := ⟨tb, tof + k, none⟩) (heap_setCell_other _ _ _ _ (show tb ≠ ob by omega))).trans E2
                      refine hK.out _ _ E3 (fun _ => ?_)
                      clear hK K
                      refine wpAnyH_done (by kernel_rfl) ?_ _
                      go_simp
                      have N10 := Lib.hid (And.intro hN E3)
                      clear hN E3 E2 E1 E0 L0 L1 zr zc zf ho hB hgr hat gp hz0 hz1
                      generalize vz.setCell _ _ = wz11 at *
                      go_wp2_with fail
                      go_roundw
                      case rel => exact ⟨k + 1, _, _, _, _, _, _, by omega, by go_num, HN.out.1, HN.out.2.1, N10.out.1⟩
                      case measure => (simp [intOf]; try omega)
                    refine AllReadyH.cons (i := 7) rfl (fun K hK => ?_) AllReadyH.nil
                    go_simp
                    rw [← hv]
                    clear hv
                    refine hK.out _ _ E1 (fun _ => ?_)
                    clear hK K
                    refine wpAnyH_ready (rs := [1]) (by kernel_rfl) (by simp) ?_
                    refine AllReadyH.cons (i := 1) rfl (fun K hK => ?_) AllReadyH.nil
                    have qs := L1.cells.2.1
                    go_simp
                    refine hK.out _ _ E1 (fun _ => ?_)
                    clear hK K qs
                    refine wpAnyH_ready (rs := [8]) (by kernel_rfl) (by simp) ?_
                    refine AllReadyH.cons (i := 8) rfl (fun K hK => ?_) AllReadyH.nil
                    refine step_append_r rfl (.tmp 107) (.tmp 113) 114 rfl rposting_rec poCs_one poCs_size L1.owp _ rfl (by kernel_rfl) _ 1 (⟨t, 0⟩ : Po) (by kernel_rfl) gp (by omega) hz1 (Below.refl _ _) ?_
                    intro q cq vz ho hB hgr hat
                    have hN := L1.posts ho hB hgr hat
                    have E2 : vz.cell? ⟨tb, tof + k, none⟩ = some (.string t) := (hB.cell (p := ⟨tb, tof + k, none⟩) (show tb < ob + 1 by omega)).trans E1
                    have zr := (hB.block ob (Nat.lt_succ_self _)).trans L1.row
                    have zc : vz.cell? ⟨ob, 1, none⟩ = some (.slice p P.length cp) := by rw [cell_of_row _ _ _ _ _ _ zr]; rfl
                    have zf : vz.frozen? ⟨ob, 1, none⟩ = false := Lib.frozen_of_heap zr 1
                    refine hK.out _ _ E2 (fun _ => ?_)
                    clear hK K
                    refine wpAnyH_take (i := 9) (v := ?_) rfl (by kernel_rfl) (by kernel_rfl) (by kernel_rfl) (fun _ _ _ h => h) (Or.inl ⟨by kernel_rfl, ?_⟩) E2 ?_
                    rotate_left
                    · (intro W hS; have g0 := hS; go_simp; try (with_reducible rfl))
                    refine wpAnyH_ready (rs := [10]) (by kernel_rfl) (by simp) ?_
                    refine AllReadyH.cons (i := 10) rfl (fun K hK => ?_) AllReadyH.nil
                    go_simp
                    have E3 : (vz.setCell ⟨ob, 1, none⟩ (.slice (some ⟨q, 0, none⟩) (P.length + 1) cq)).cell? ⟨tb, tof + k, none⟩ = some (.string t) := (World.cell?_of_block (a := ⟨tb, tof + k, none⟩) (heap_setCell_other _ _ _ _ (show tb ≠ ob by omega))).trans E2
                    refine hK.out _ _ E3 (fun _ => ?_)
                    clear hK K
                    refine wpAnyH_done (by kernel_rfl) ?_ _
                    go_simp
                    have N10 := Lib.hid (And.intro hN E3)
                    clear hN E3 E2 E1 E0 L0 L1 zr zc zf ho hB hgr hat gp hz0 hz1
                    generalize vz.setCell _ _ = wz11 at *
                    go_wp2_with fail
                    go_roundw
                    case rel => exact ⟨k + 1, _, _, _, _, _, _, by omega, by go_num, HN.out.1, HN.out.2.1, N10.out.1⟩
                    case measure => (simp [intOf]; try omega)
                  · obtain ⟨r, hr⟩ : ∃ r, rs[I]? = some r := ⟨rs[I]'(by have := H.out.2.2.2.1; omega), List.getElem?_eq_getElem (by have := H.out.2.2.2.1; omega)⟩
                    obtain ⟨rb, rof, ha, hrb, x0, x1, x2⟩ := H.out.1 I r hr
                    obtain ⟨k1, k2, k3, k4, k5⟩ := H.out.2.2.1 r (List.mem_of_getElem? hr)
                    obtain ⟨x, u, lv⟩ := r
                    simp only at x0 x1 x2 k2 k3 k4 k5
                    clear k1
                    have e0 : wr.cell? ⟨rb, rof + I * 3, none⟩ = some (.string x) := (hW.below.cell (p := ⟨rb, rof + I * 3, none⟩) hrb).trans x0
                    have e1 : wr.cell? ⟨rb, rof + I * 3 + 1, none⟩ = some (.int .i64 u) := (hW.below.cell (p := ⟨rb, rof + I * 3 + 1, none⟩) hrb).trans x1
                    have e2 : wr.cell? ⟨rb, rof + I * 3 + 2, none⟩ = some (.int .i64 lv) := (hW.below.cell (p := ⟨rb, rof + I * 3 + 2, none⟩) hrb).trans x2
                    subst ha
                    clear x0 x1 x2
                    have hIq : ((I : Int) == (N : Int)) = false := by simp; omega
                    have hIlt : I < N := by omega
                    by_cases hl : Wd.less t x = true
                    · have l1 : Op.bytesLess t.toList x.toList = true := text_bl hl
                      clear e1 e2 k2 k3 k4 k5
                      have hR3 : G1 = (R ++ [⟨t, 1, n⟩]) ++ (Ix.mrg n (rs.drop I) (ts.drop (k + 1))).1 := by rw [hR, tdrop_at ht]; rw [rdrop_at hr, Ix.mrg_less hl]; simp
                      have hP3 : G2 = (P ++ [⟨t, 0⟩]) ++ (Ix.mrg n (rs.drop I) (ts.drop (k + 1))).2 := by rw [hP, tdrop_at ht]; rw [rdrop_at hr, Ix.mrg_less hl]; simp
                      have HN := Lib.hid (And.intro hR3 (And.intro hP3 hW))
                      clear hR3 hP3 hR hP hW ht hr hl
                      go_wp2_with fail
                      go_quiet (fail)
                      have D0 : (wr.drewN nq).cell? ⟨tb, tof + k, none⟩ = some (.string t) := d0
                      have L9 := HN.out.2.2.call (below_drewN (Below.refl _ _) nq)
                      have N8 := Lib.hid (And.intro L9 D0)
                      clear L9 D0 d0 e0
                      generalize wr.drewN nq = wz9 at *
                      go_wp2_with fail
                      refine wp_region_held (S := fun W : World => W.cell? ⟨tb, tof + k, none⟩ = some (.string t)) (by kernel_rfl) ?_
                      have E0 : wz9.drew.cell? ⟨tb, tof + k, none⟩ = some (.string t) := N8.out.2
                      have L0 := (N8.out.1).drew
                      change wpAnyH _ _ _ _ _ _ _ _ (World.drew _)
                      generalize World.drew _ = v0 at *
                      refine wpAnyH_take (i := 0) (v := ?_) rfl (by kernel_rfl) (by kernel_rfl) (by kernel_rfl) (fun _ _ _ h => h) (Or.inl ⟨by kernel_rfl, ?_⟩) E0 ?_
                      rotate_left
                      · (intro W hS; have g0 := hS; go_simp; try (with_reducible rfl))
                      refine wpAnyH_take (i := 2) (v := ?_) rfl (by kernel_rfl) (by kernel_rfl) (by kernel_rfl) (fun _ _ _ h => h) (Or.inl ⟨by kernel_rfl, ?_⟩) E0 ?_
                      rotate_left
                      · (intro W hS; have g0 := hS; go_simp; try (with_reducible rfl))
                      refine wpAnyH_take (i := 3) (v := ?_) rfl (by kernel_rfl) (by kernel_rfl) (by kernel_rfl) (fun _ _ _ h => h) (Or.inl ⟨by kernel_rfl, ?_⟩) E0 ?_
                      rotate_left
                      · (intro W hS; have g0 := hS; go_simp; try (with_reducible rfl))
                      refine wpAnyH_take (i := 4) (v := ?_) rfl (by kernel_rfl) (by kernel_rfl) (by kernel_rfl) (fun _ _ _ h => h) (Or.inl ⟨by kernel_rfl, ?_⟩) E0 ?_
                      rotate_left
                      · (intro W hS; have g0 := hS; go_simp; try (with_reducible rfl))
                      refine wpAnyH_take (i := 5) (v := ?_) rfl (by kernel_rfl) (by kernel_rfl) (by kernel_rfl) (fun _ _ _ h => h) (Or.inl ⟨by kernel_rfl, ?_⟩) E0 ?_
                      rotate_left
                      · (intro W hS; have g0 := hS; go_simp; try (with_reducible rfl))
                      refine wpAnyH_take (i := 6) (v := ?_) rfl (by kernel_rfl) (by kernel_rfl) (by kernel_rfl) (fun _ _ _ h => h) (Or.inl ⟨by kernel_rfl, ?_⟩) E0 ?_
                      rotate_left
                      · (intro W hS; have g0 := hS; go_simp; try (with_reducible rfl))
                      refine wpAnyH_take (i := 7) (v := ?_) rfl (by kernel_rfl) (by kernel_rfl) (by kernel_rfl) (fun _ _ _ h => h) (Or.inl ⟨by kernel_rfl, ?_⟩) E0 ?_
                      rotate_left
                      · (intro W hS; have g0 := hS; go_simp; try (with_reducible rfl))
                      obtain ⟨v1, hv⟩ : ∃ v, v = v0.alloc (.cells (rwCs (⟨t, 1, n⟩ : Rw)) 47) := ⟨_, rfl⟩
                      have hb : Below v0.heap.size v0 v1 := by rw [hv]; exact (Below.refl _ _).alloc (Nat.le_refl _) _
                      have gp : v1.heap[v0.heap.size]? = some (.cells (rwCs (⟨t, 1, n⟩ : Rw)) 47 (0, 0)) := by rw [hv]; exact heap_alloc_new _ _
                      have hz0 := L0.size
                      have L1 := L0.call hb
                      have E1 : v1.cell? ⟨tb, tof + k, none⟩ = some (.string t) := (hb.cell (p := ⟨tb, tof + k, none⟩) (show tb < v0.heap.size by omega)).trans E0
                      have hz1 := L1.size
                      unfold rwCs at hv
                      clear hb
                      refine wpAnyH_ready (rs := [1, 8]) (by kernel_rfl) (by simp) ?_
                      refine AllReadyH.cons (i := 1) rfl (fun K hK => ?_) ?_
                      · have qs := L0.cells.1
                        go_simp
                        refine hK.out _ _ E0 (fun _ => ?_)
                        clear hK K qs
                        refine wpAnyH_ready (rs := [8]) (by kernel_rfl) (by simp) ?_
                        refine AllReadyH.cons (i := 8) rfl (fun K hK => ?_) AllReadyH.nil
                        go_simp
                        rw [← hv]
                        clear hv
                        refine hK.out _ _ E1 (fun _ => ?_)
                        clear hK K
                        refine wpAnyH_ready (rs := [9]) (by kernel_rfl) (by simp) ?_
                        refine AllReadyH.cons (i := 9) rfl (fun K hK => ?_) AllReadyH.nil
                        refine step_append_r rfl (.tmp 96) (.tmp 103) 26 rfl rrow_rec rwCs_one rwCs_size L1.own _ rfl (by kernel_rfl) _ 1 (⟨t, 1, n⟩ : Rw) (by kernel_rfl) gp (by omega) hz1 (Below.refl _ _) ?_
                        intro q cq vz ho hB hgr hat
                        have hN := L1.rows ho hB hgr hat
                        have E2 : vz.cell? ⟨tb, tof + k, none⟩ = some (.string t) := (hB.cell (p := ⟨tb, tof + k, none⟩) (show tb < ob + 1 by omega)).trans E1
                        have zr := (hB.block ob (Nat.lt_succ_self _)).trans L1.row
                        have zc : vz.cell? ⟨ob, 0, none⟩ = some (.slice a R.length ca) := by rw [cell_of_row _ _ _ _ _ _ zr]; rfl
                        have zf : vz.frozen? ⟨ob, 0, none⟩ = false := Lib.frozen_of_heap zr 0
                        refine hK.out _ _ E2 (fun _ => ?_)
                        clear hK K
                        refine wpAnyH_take (i := 10) (v := ?_) rfl (by kernel_rfl) (by kernel_rfl) (by kernel_rfl) (fun _ _ _ h => h) (Or.inl ⟨by kernel_rfl, ?_⟩) E2 ?_
                        rotate_left
                        · (intro W hS; have g0 := hS; go_simp; try (with_reducible rfl))
                        refine wpAnyH_ready (rs := [11]) (by kernel_rfl) (by simp) ?_
                        refine AllReadyH.cons (i := 11) rfl (fun K hK => ?_) AllReadyH.nil
                        go_simp
                        have E3 : (vz.setCell ⟨ob, 0, none⟩ (.slice (some ⟨q, 0, none⟩) (R.length + 1) cq)).cell? ⟨tb, tof + k, none⟩ = some (.string t) := (World.cell?_of_block (a := ⟨tb, tof + k, none⟩) (heap_setCell_other _ _ _ _ (show tb ≠ ob by omega))).trans E2
                        refine hK.out _ _ E3 (fun _ => ?_)
                        clear hK K
                        refine wpAnyH_done (by kernel_rfl) ?_ _
                        go_simp
                        have N9 := Lib.hid (And.intro hN E3)
                        clear hN E3 E2 E1 E0 L0 L1 zr zc zf ho hB hgr hat gp hz0 hz1
                        generalize vz.setCell _ _ = wz10 at *
                        go_wp2_with fail
                        refine wp_region_held (S := fun W : World => W.cell? ⟨tb, tof + k, none⟩ = some (.string t)) (by kernel_rfl) ?_
                        have E0 : wz10.drew.cell? ⟨tb, tof + k, none⟩ = some (.string t) := N9.out.2
                        have L0 := (N9.out.1).drew
                        change wpAnyH _ _ _ _ _ _ _ _ (World.drew _)
                        generalize World.drew _ = v0 at *
                        refine wpAnyH_take (i := 0) (v := ?_) rfl (by kernel_rfl) (by kernel_rfl) (by kernel_rfl) (fun _ _ _ h => h) (Or.inl ⟨by kernel_rfl, ?_⟩) E0 ?_
                        rotate_left
                        · (intro W hS; have g0 := hS; go_simp; try (with_reducible rfl))
                        refine wpAnyH_take (i := 2) (v := ?_) rfl (by kernel_rfl) (by kernel_rfl) (by kernel_rfl) (fun _ _ _ h => h) (Or.inl ⟨by kernel_rfl, ?_⟩) E0 ?_
                        rotate_left
                        · (intro W hS; have g0 := hS; go_simp; try (with_reducible rfl))
                        refine wpAnyH_take (i := 3) (v := ?_) rfl (by kernel_rfl) (by kernel_rfl) (by kernel_rfl) (fun _ _ _ h => h) (Or.inl ⟨by kernel_rfl, ?_⟩) E0 ?_
                        rotate_left
                        · (intro W hS; have g0 := hS; go_simp; try (with_reducible rfl))
                        refine wpAnyH_take (i := 4) (v := ?_) rfl (by kernel_rfl) (by kernel_rfl) (by kernel_rfl) (fun _ _ _ h => h) (Or.inl ⟨by kernel_rfl, ?_⟩) E0 ?_
                        rotate_left
                        · (intro W hS; have g0 := hS; go_simp; try (with_reducible rfl))
                        refine wpAnyH_take (i := 5) (v := ?_) rfl (by kernel_rfl) (by kernel_rfl) (by kernel_rfl) (fun _ _ _ h => h) (Or.inl ⟨by kernel_rfl, ?_⟩) E0 ?_
                        rotate_left
                        · (intro W hS; have g0 := hS; go_simp; try (with_reducible rfl))
                        refine wpAnyH_take (i := 6) (v := ?_) rfl (by kernel_rfl) (by kernel_rfl) (by kernel_rfl) (fun _ _ _ h => h) (Or.inl ⟨by kernel_rfl, ?_⟩) E0 ?_
                        rotate_left
                        · (intro W hS; have g0 := hS; go_simp; try (with_reducible rfl))
                        obtain ⟨v1, hv⟩ : ∃ v, v = v0.alloc (.cells (poCs (⟨t, 0⟩ : Po)) 119) := ⟨_, rfl⟩
                        have hb : Below v0.heap.size v0 v1 := by rw [hv]; exact (Below.refl _ _).alloc (Nat.le_refl _) _
                        have gp : v1.heap[v0.heap.size]? = some (.cells (poCs (⟨t, 0⟩ : Po)) 119 (0, 0)) := by rw [hv]; exact heap_alloc_new _ _
                        have hz0 := L0.size
                        have L1 := L0.call hb
                        have E1 : v1.cell? ⟨tb, tof + k, none⟩ = some (.string t) := (hb.cell (p := ⟨tb, tof + k, none⟩) (show tb < v0.heap.size by omega)).trans E0
                        have hz1 := L1.size
                        unfold poCs at hv
                        clear hb
                        refine wpAnyH_ready (rs := [1, 7]) (by kernel_rfl) (by simp) ?_
                        refine AllReadyH.cons (i := 1) rfl (fun K hK => ?_) ?_
                        · have qs := L0.cells.2.1
                          go_simp
                          refine hK.out _ _ E0 (fun _ => ?_)
                          clear hK K qs
                          refine wpAnyH_ready (rs := [7]) (by kernel_rfl) (by simp) ?_
                          refine AllReadyH.cons (i := 7) rfl (fun K hK => ?_) AllReadyH.nil
                          go_simp
                          rw [← hv]
                          clear hv
                          refine hK.out _ _ E1 (fun _ => ?_)
                          clear hK K
                          refine wpAnyH_ready (rs := [8]) (by kernel_rfl) (by simp) ?_
                          refine AllReadyH.cons (i := 8) rfl (fun K hK => ?_) AllReadyH.nil
                          refine step_append_r rfl (.tmp 107) (.tmp 113) 114 rfl rposting_rec poCs_one poCs_size L1.owp _ rfl (by kernel_rfl) _ 1 (⟨t, 0⟩ : Po) (by kernel_rfl) gp (by omega) hz1 (Below.refl _ _) ?_
                          intro q cq vz ho hB hgr hat
                          have hN := L1.posts ho hB hgr hat
                          have E2 : vz.cell? ⟨tb, tof + k, none⟩ = some (.string t) := (hB.cell (p := ⟨tb, tof + k, none⟩) (show tb < ob + 1 by omega)).trans E1
                          have zr := (hB.block ob (Nat.lt_succ_self _)).trans L1.row
                          have zc : vz.cell? ⟨ob, 1, none⟩ = some (.slice p P.length cp) := by rw [cell_of_row _ _ _ _ _ _ zr]; rfl
                          have zf : vz.frozen? ⟨ob, 1, none⟩ = false := Lib.frozen_of_heap zr 1
                          refine hK.out _ _ E2 (fun _ => ?_)
                          clear hK K
                          refine wpAnyH_take (i := 9) (v := ?_) rfl (by kernel_rfl) (by kernel_rfl) (by kernel_rfl) (fun _ _ _ h => h) (Or.inl ⟨by kernel_rfl, ?_⟩) E2 ?_
                          rotate_left
                          · (intro W hS; have g0 := hS; go_simp; try (with_reducible rfl))
                          refine wpAnyH_ready (rs := [10]) (by kernel_rfl) (by simp) ?_
                          refine AllReadyH.cons (i := 10) rfl (fun K hK => ?_) AllReadyH.nil
                          go_simp
                          have E3 : (vz.setCell ⟨ob, 1, none⟩ (.slice (some ⟨q, 0, none⟩) (P.length + 1) cq)).cell? ⟨tb, tof + k, none⟩ = some (.string t) := (World.cell?_of_block (a := ⟨tb, tof + k, none⟩) (heap_setCell_other _ _ _ _ (show tb ≠ ob by omega))).trans E2
                          refine hK.out _ _ E3 (fun _ => ?_)
                          clear hK K
                          refine wpAnyH_done (by kernel_rfl) ?_ _
                          go_simp
                          have N10 := Lib.hid (And.intro hN E3)
                          clear hN E3 E2 E1 E0 L0 L1 zr zc zf ho hB hgr hat gp hz0 hz1
                          generalize vz.setCell _ _ = wz11 at *
                          go_wp2_with fail
                          go_roundw
                          case rel => exact ⟨k + 1, _, _, _, _, _, _, by omega, by go_num, HN.out.1, HN.out.2.1, N10.out.1⟩
                          case measure => (simp [intOf]; try omega)
                        refine AllReadyH.cons (i := 7) rfl (fun K hK => ?_) AllReadyH.nil
                        go_simp
                        rw [← hv]
                        clear hv
                        refine hK.out _ _ E1 (fun _ => ?_)
                        clear hK K
                        refine wpAnyH_ready (rs := [1]) (by kernel_rfl) (by simp) ?_
                        refine AllReadyH.cons (i := 1) rfl (fun K hK => ?_) AllReadyH.nil
                        have qs := L1.cells.2.1
                        go_simp
                        refine hK.out _ _ E1 (fun _ => ?_)
                        clear hK K qs
                        refine wpAnyH_ready (rs := [8]) (by kernel_rfl) (by simp) ?_
                        refine AllReadyH.cons (i := 8) rfl (fun K hK => ?_) AllReadyH.nil
                        refine step_append_r rfl (.tmp 107) (.tmp 113) 114 rfl rposting_rec poCs_one poCs_size L1.owp _ rfl (by kernel_rfl) _ 1 (⟨t, 0⟩ : Po) (by kernel_rfl) gp (by omega) hz1 (Below.refl _ _) ?_
                        intro q cq vz ho hB hgr hat
                        have hN := L1.posts ho hB hgr hat
                        have E2 : vz.cell? ⟨tb, tof + k, none⟩ = some (.string t) := (hB.cell (p := ⟨tb, tof + k, none⟩) (show tb < ob + 1 by omega)).trans E1
                        have zr := (hB.block ob (Nat.lt_succ_self _)).trans L1.row
                        have zc : vz.cell? ⟨ob, 1, none⟩ = some (.slice p P.length cp) := by rw [cell_of_row _ _ _ _ _ _ zr]; rfl
                        have zf : vz.frozen? ⟨ob, 1, none⟩ = false := Lib.frozen_of_heap zr 1
                        refine hK.out _ _ E2 (fun _ => ?_)
                        clear hK K
                        refine wpAnyH_take (i := 9) (v := ?_) rfl (by kernel_rfl) (by kernel_rfl) (by kernel_rfl) (fun _ _ _ h => h) (Or.inl ⟨by kernel_rfl, ?_⟩) E2 ?_
                        rotate_left
                        · (intro W hS; have g0 := hS; go_simp; try (with_reducible rfl))
                        refine wpAnyH_ready (rs := [10]) (by kernel_rfl) (by simp) ?_
                        refine AllReadyH.cons (i := 10) rfl (fun K hK => ?_) AllReadyH.nil
                        go_simp
                        have E3 : (vz.setCell ⟨ob, 1, none⟩ (.slice (some ⟨q, 0, none⟩) (P.length + 1) cq)).cell? ⟨tb, tof + k, none⟩ = some (.string t) := (World.cell?_of_block (a := ⟨tb, tof + k, none⟩) (heap_setCell_other _ _ _ _ (show tb ≠ ob by omega))).trans E2
                        refine hK.out _ _ E3 (fun _ => ?_)
                        clear hK K
                        refine wpAnyH_done (by kernel_rfl) ?_ _
                        go_simp
                        have N10 := Lib.hid (And.intro hN E3)
                        clear hN E3 E2 E1 E0 L0 L1 zr zc zf ho hB hgr hat gp hz0 hz1
                        generalize vz.setCell _ _ = wz11 at *
                        go_wp2_with fail
                        go_roundw
                        case rel => exact ⟨k + 1, _, _, _, _, _, _, by omega, by go_num, HN.out.1, HN.out.2.1, N10.out.1⟩
                        case measure => (simp [intOf]; try omega)
                      refine AllReadyH.cons (i := 8) rfl (fun K hK => ?_) AllReadyH.nil
                      go_simp
                      rw [← hv]
                      clear hv
                      refine hK.out _ _ E1 (fun _ => ?_)
                      clear hK K
                      refine wpAnyH_ready (rs := [1]) (by kernel_rfl) (by simp) ?_
                      refine AllReadyH.cons (i := 1) rfl (fun K hK => ?_) AllReadyH.nil
                      have qs := L1.cells.1
                      go_simp
                      refine hK.out _ _ E1 (fun _ => ?_)
                      clear hK K qs
                      refine wpAnyH_ready (rs := [9]) (by kernel_rfl) (by simp) ?_
                      refine AllReadyH.cons (i := 9) rfl (fun K hK => ?_) AllReadyH.nil
                      refine step_append_r rfl (.tmp 96) (.tmp 103) 26 rfl rrow_rec rwCs_one rwCs_size L1.own _ rfl (by kernel_rfl) _ 1 (⟨t, 1, n⟩ : Rw) (by kernel_rfl) gp (by omega) hz1 (Below.refl _ _) ?_
                      intro q cq vz ho hB hgr hat
                      have hN := L1.rows ho hB hgr hat
                      have E2 : vz.cell? ⟨tb, tof + k, none⟩ = some (.string t) := (hB.cell (p := ⟨tb, tof + k, none⟩) (show tb < ob + 1 by omega)).trans E1
                      have zr := (hB.block ob (Nat.lt_succ_self _)).trans L1.row
                      have zc : vz.cell? ⟨ob, 0, none⟩ = some (.slice a R.length ca) := by rw [cell_of_row _ _ _ _ _ _ zr]; rfl
                      have zf : vz.frozen? ⟨ob, 0, none⟩ = false := Lib.frozen_of_heap zr 0
                      refine hK.out _ _ E2 (fun _ => ?_)
                      clear hK K
                      refine wpAnyH_take (i := 10) (v := ?_) rfl (by kernel_rfl) (by kernel_rfl) (by kernel_rfl) (fun _ _ _ h => h) (Or.inl ⟨by kernel_rfl, ?_⟩) E2 ?_
                      rotate_left
                      · (intro W hS; have g0 := hS; go_simp; try (with_reducible rfl))
                      refine wpAnyH_ready (rs := [11]) (by kernel_rfl) (by simp) ?_
                      refine AllReadyH.cons (i := 11) rfl (fun K hK => ?_) AllReadyH.nil
                      go_simp
                      have E3 : (vz.setCell ⟨ob, 0, none⟩ (.slice (some ⟨q, 0, none⟩) (R.length + 1) cq)).cell? ⟨tb, tof + k, none⟩ = some (.string t) := (World.cell?_of_block (a := ⟨tb, tof + k, none⟩) (heap_setCell_other _ _ _ _ (show tb ≠ ob by omega))).trans E2
                      refine hK.out _ _ E3 (fun _ => ?_)
                      clear hK K
                      refine wpAnyH_done (by kernel_rfl) ?_ _
                      go_simp
                      have N9 := Lib.hid (And.intro hN E3)
                      clear hN E3 E2 E1 E0 L0 L1 zr zc zf ho hB hgr hat gp hz0 hz1
                      generalize vz.setCell _ _ = wz10 at *
                      go_wp2_with fail
                      refine wp_region_held (S := fun W : World => W.cell? ⟨tb, tof + k, none⟩ = some (.string t)) (by kernel_rfl) ?_
                      have E0 : wz10.drew.cell? ⟨tb, tof + k, none⟩ = some (.string t) := N9.out.2
                      have L0 := (N9.out.1).drew
                      change wpAnyH _ _ _ _ _ _ _ _ (World.drew _)
                      generalize World.drew _ = v0 at *
                      refine wpAnyH_take (i := 0) (v := ?_) rfl (by kernel_rfl) (by kernel_rfl) (by kernel_rfl) (fun _ _ _ h => h) (Or.inl ⟨by kernel_rfl, ?_⟩) E0 ?_
                      rotate_left
                      · (intro W hS; have g0 := hS; go_simp; try (with_reducible rfl))
                      refine wpAnyH_take (i := 2) (v := ?_) rfl (by kernel_rfl) (by kernel_rfl) (by kernel_rfl) (fun _ _ _ h => h) (Or.inl ⟨by kernel_rfl, ?_⟩) E0 ?_
                      rotate_left
                      · (intro W hS; have g0 := hS; go_simp; try (with_reducible rfl))
                      refine wpAnyH_take (i := 3) (v := ?_) rfl (by kernel_rfl) (by kernel_rfl) (by kernel_rfl) (fun _ _ _ h => h) (Or.inl ⟨by kernel_rfl, ?_⟩) E0 ?_
                      rotate_left
                      · (intro W hS; have g0 := hS; go_simp; try (with_reducible rfl))
                      refine wpAnyH_take (i := 4) (v := ?_) rfl (by kernel_rfl) (by kernel_rfl) (by kernel_rfl) (fun _ _ _ h => h) (Or.inl ⟨by kernel_rfl, ?_⟩) E0 ?_
                      rotate_left
                      · (intro W hS; have g0 := hS; go_simp; try (with_reducible rfl))
                      refine wpAnyH_take (i := 5) (v := ?_) rfl (by kernel_rfl) (by kernel_rfl) (by kernel_rfl) (fun _ _ _ h => h) (Or.inl ⟨by kernel_rfl, ?_⟩) E0 ?_
                      rotate_left
                      · (intro W hS; have g0 := hS; go_simp; try (with_reducible rfl))
                      refine wpAnyH_take (i := 6) (v := ?_) rfl (by kernel_rfl) (by kernel_rfl) (by kernel_rfl) (fun _ _ _ h => h) (Or.inl ⟨by kernel_rfl, ?_⟩) E0 ?_
                      rotate_left
                      · (intro W hS; have g0 := hS; go_simp; try (with_reducible rfl))
                      obtain ⟨v1, hv⟩ : ∃ v, v = v0.alloc (.cells (poCs (⟨t, 0⟩ : Po)) 119) := ⟨_, rfl⟩
                      have hb : Below v0.heap.size v0 v1 := by rw [hv]; exact (Below.refl _ _).alloc (Nat.le_refl _) _
                      have gp : v1.heap[v0.heap.size]? = some (.cells (poCs (⟨t, 0⟩ : Po)) 119 (0, 0)) := by rw [hv]; exact heap_alloc_new _ _
                      have hz0 := L0.size
                      have L1 := L0.call hb
                      have E1 : v1.cell? ⟨tb, tof + k, none⟩ = some (.string t) := (hb.cell (p := ⟨tb, tof + k, none⟩) (show tb < v0.heap.size by omega)).trans E0
                      have hz1 := L1.size
                      unfold poCs at hv
                      clear hb
                      refine wpAnyH_ready (rs := [1, 7]) (by kernel_rfl) (by simp) ?_
                      refine AllReadyH.cons (i := 1) rfl (fun K hK => ?_) ?_
                      · have qs := L0.cells.2.1
                        go_simp
                        refine hK.out _ _ E0 (fun _ => ?_)
                        clear hK K qs
                        refine wpAnyH_ready (rs := [7]) (by kernel_rfl) (by simp) ?_
                        refine AllReadyH.cons (i := 7) rfl (fun K hK => ?_) AllReadyH.nil
                        go_simp
                        rw [← hv]
                        clear hv
                        refine hK.out _ _ E1 (fun _ => ?_)
                        clear hK K
                        refine wpAnyH_ready (rs := [8]) (by kernel_rfl) (by simp) ?_
                        refine AllReadyH.cons (i := 8) rfl (fun K hK => ?_) AllReadyH.nil
                        refine step_append_r rfl (.tmp 107) (.tmp 113) 114 rfl rposting_rec poCs_one poCs_size L1.owp _ rfl (by kernel_rfl) _ 1 (⟨t, 0⟩ : Po) (by kernel_rfl) gp (by omega) hz1 (Below.refl _ _) ?_
                        intro q cq vz ho hB hgr hat
                        have hN := L1.posts ho hB hgr hat
                        have E2 : vz.cell? ⟨tb, tof + k, none⟩ = some (.string t) := (hB.cell (p := ⟨tb, tof + k, none⟩) (show tb < ob + 1 by omega)).trans E1
                        have zr := (hB.block ob (Nat.lt_succ_self _)).trans L1.row
                        have zc : vz.cell? ⟨ob, 1, none⟩ = some (.slice p P.length cp) := by rw [cell_of_row _ _ _ _ _ _ zr]; rfl
                        have zf : vz.frozen? ⟨ob, 1, none⟩ = false := Lib.frozen_of_heap zr 1
                        refine hK.out _ _ E2 (fun _ => ?_)
                        clear hK K
                        refine wpAnyH_take (i := 9) (v := ?_) rfl (by kernel_rfl) (by kernel_rfl) (by kernel_rfl) (fun _ _ _ h => h) (Or.inl ⟨by kernel_rfl, ?_⟩) E2 ?_
                        rotate_left
                        · (intro W hS; have g0 := hS; go_simp; try (with_reducible rfl))
                        refine wpAnyH_ready (rs := [10]) (by kernel_rfl) (by simp) ?_
                        refine AllReadyH.cons (i := 10) rfl (fun K hK => ?_) AllReadyH.nil
                        go_simp
                        have E3 : (vz.setCell ⟨ob, 1, none⟩ (.slice (some ⟨q, 0, none⟩) (P.length + 1) cq)).cell? ⟨tb, tof + k, none⟩ = some (.string t) := (World.cell?_of_block (a := ⟨tb, tof + k, none⟩) (heap_setCell_other _ _ _ _ (show tb ≠ ob by omega))).trans E2
                        refine hK.out _ _ E3 (fun _ => ?_)
                        clear hK K
                        refine wpAnyH_done (by kernel_rfl) ?_ _
                        go_simp
                        have N10 := Lib.hid (And.intro hN E3)
                        clear hN E3 E2 E1 E0 L0 L1 zr zc zf ho hB hgr hat gp hz0 hz1
                        generalize vz.setCell _ _ = wz11 at *
                        go_wp2_with fail
                        go_roundw
                        case rel => exact ⟨k + 1, _, _, _, _, _, _, by omega, by go_num, HN.out.1, HN.out.2.1, N10.out.1⟩
                        case measure => (simp [intOf]; try omega)
                      refine AllReadyH.cons (i := 7) rfl (fun K hK => ?_) AllReadyH.nil
                      go_simp
                      rw [← hv]
                      clear hv
                      refine hK.out _ _ E1 (fun _ => ?_)
                      clear hK K
                      refine wpAnyH_ready (rs := [1]) (by kernel_rfl) (by simp) ?_
                      refine AllReadyH.cons (i := 1) rfl (fun K hK => ?_) AllReadyH.nil
                      have qs := L1.cells.2.1
                      go_simp
                      refine hK.out _ _ E1 (fun _ => ?_)
                      clear hK K qs
                      refine wpAnyH_ready (rs := [8]) (by kernel_rfl) (by simp) ?_
                      refine AllReadyH.cons (i := 8) rfl (fun K hK => ?_) AllReadyH.nil
                      refine step_append_r rfl (.tmp 107) (.tmp 113) 114 rfl rposting_rec poCs_one poCs_size L1.owp _ rfl (by kernel_rfl) _ 1 (⟨t, 0⟩ : Po) (by kernel_rfl) gp (by omega) hz1 (Below.refl _ _) ?_
                      intro q cq vz ho hB hgr hat
                      have hN := L1.posts ho hB hgr hat
                      have E2 : vz.cell? ⟨tb, tof + k, none⟩ = some (.string t) := (hB.cell (p := ⟨tb, tof + k, none⟩) (show tb < ob + 1 by omega)).trans E1
                      have zr := (hB.block ob (Nat.lt_succ_self _)).trans L1.row
                      have zc : vz.cell? ⟨ob, 1, none⟩ = some (.slice p P.length cp) := by rw [cell_of_row _ _ _ _ _ _ zr]; rfl
                      have zf : vz.frozen? ⟨ob, 1, none⟩ = false := Lib.frozen_of_heap zr 1
                      refine hK.out _ _ E2 (fun _ => ?_)
                      clear hK K
                      refine wpAnyH_take (i := 9) (v := ?_) rfl (by kernel_rfl) (by kernel_rfl) (by kernel_rfl) (fun _ _ _ h => h) (Or.inl ⟨by kernel_rfl, ?_⟩) E2 ?_
                      rotate_left
                      · (intro W hS; have g0 := hS; go_simp; try (with_reducible rfl))
                      refine wpAnyH_ready (rs := [10]) (by kernel_rfl) (by simp) ?_
                      refine AllReadyH.cons (i := 10) rfl (fun K hK => ?_) AllReadyH.nil
                      go_simp
                      have E3 : (vz.setCell ⟨ob, 1, none⟩ (.slice (some ⟨q, 0, none⟩) (P.length + 1) cq)).cell? ⟨tb, tof + k, none⟩ = some (.string t) := (World.cell?_of_block (a := ⟨tb, tof + k, none⟩) (heap_setCell_other _ _ _ _ (show tb ≠ ob by omega))).trans E2
                      refine hK.out _ _ E3 (fun _ => ?_)
                      clear hK K
                      refine wpAnyH_done (by kernel_rfl) ?_ _
                      go_simp
                      have N10 := Lib.hid (And.intro hN E3)
                      clear hN E3 E2 E1 E0 L0 L1 zr zc zf ho hB hgr hat gp hz0 hz1
                      generalize vz.setCell _ _ = wz11 at *
                      go_wp2_with fail
                      go_roundw
                      case rel => exact ⟨k + 1, _, _, _, _, _, _, by omega, by go_num, HN.out.1, HN.out.2.1, N10.out.1⟩
                      case measure => (simp [intOf]; try omega)
                    · by_cases hte : t = x
                      · have hR3 : G1 = (R ++ [⟨t, u + 1, n⟩]) ++ (Ix.mrg n (rs.drop (I + 1)) (ts.drop (k + 1))).1 := by rw [hR, tdrop_at ht, rdrop_at hr, hte, Ix.mrg_same]; simp
                        have hP3 : G2 = (P ++ [⟨t, lv + 1⟩]) ++ (Ix.mrg n (rs.drop (I + 1)) (ts.drop (k + 1))).2 := by rw [hP, tdrop_at ht, rdrop_at hr, hte, Ix.mrg_same]; simp
                        have HN := Lib.hid (And.intro hR3 (And.intro hP3 hW))
                        have l1 : Op.bytesLess t.toList x.toList = false := text_bl0 (by rw [hte]; exact Wd.less_irrefl _)
                        have l2 : (t.toList == x.toList) = true := by rw [hte]; simp
                        have wu : IntKind.i64.wrap (u + 1) = u + 1 := IntWalk.i64_in _ (by omega)
                        have wv : IntKind.i64.wrap (lv + 1) = lv + 1 := IntWalk.i64_in _ (by omega)
                        clear hR3 hP3 hR hP hW ht hr hl hte
                        go_wp2_with fail
                        go_quiet (fail)
                        have LA := (HN.out.2.2).call (below_drewN (Below.refl _ _) nq)
                        have d0 : (wr.drewN nq).cell? ⟨tb, tof + k, none⟩ = some (.string t) := d0
                        have e0 : (wr.drewN nq).cell? ⟨rb, rof + I * 3, none⟩ = some (.string x) := e0
                        have e1 : (wr.drewN nq).cell? ⟨rb, rof + I * 3 + 1, none⟩ = some (.int .i64 u) := e1
                        have e2 : (wr.drewN nq).cell? ⟨rb, rof + I * 3 + 2, none⟩ = some (.int .i64 lv) := e2
                        have NA := Lib.hid LA
                        clear LA
                        generalize wr.drewN nq = wzA at *
                        go_wp2_with fail
                        go_quiet (fail)
                        have LA := NA.out.call (below_drewN (Below.refl _ _) nq)
                        have d0 : (wzA.drewN nq).cell? ⟨tb, tof + k, none⟩ = some (.string t) := d0
                        have e0 : (wzA.drewN nq).cell? ⟨rb, rof + I * 3, none⟩ = some (.string x) := e0
                        have e1 : (wzA.drewN nq).cell? ⟨rb, rof + I * 3 + 1, none⟩ = some (.int .i64 u) := e1
                        have e2 : (wzA.drewN nq).cell? ⟨rb, rof + I * 3 + 2, none⟩ = some (.int .i64 lv) := e2
                        have N8 := Lib.hid (And.intro LA (And.intro d0 (And.intro e0 (And.intro e1 e2))))
                        clear LA d0 e0 e1 e2
                        generalize wzA.drewN nq = wz9 at *
                        go_wp2_with fail
                        refine wp_region_held (S := fun W : World => W.cell? ⟨tb, tof + k, none⟩ = some (.string t) ∧ W.cell? ⟨rb, rof + I * 3 + 1, none⟩ = some (.int .i64 u) ∧ W.cell? ⟨rb, rof + I * 3 + 2, none⟩ = some (.int .i64 lv)) (by kernel_rfl) ?_
                        have E0 : wz9.drew.cell? ⟨tb, tof + k, none⟩ = some (.string t) ∧ wz9.drew.cell? ⟨rb, rof + I * 3 + 1, none⟩ = some (.int .i64 u) ∧ wz9.drew.cell? ⟨rb, rof + I * 3 + 2, none⟩ = some (.int .i64 lv) := ⟨N8.out.2.1, N8.out.2.2.2⟩
                        have L0 := (N8.out.1).drew
                        change wpAnyH _ _ _ _ _ _ _ _ (World.drew _)
                        generalize World.drew _ = v0 at *
                        refine wpAnyH_take (i := 0) (v := ?_) rfl (by kernel_rfl) (by kernel_rfl) (by kernel_rfl) (fun _ _ _ h => h) (Or.inl ⟨by kernel_rfl, ?_⟩) E0 ?_
                        rotate_left
                        · (intro W hS; obtain ⟨g0, g1, g2⟩ := hS; go_simp; try (with_reducible rfl))
                        refine wpAnyH_take (i := 2) (v := ?_) rfl (by kernel_rfl) (by kernel_rfl) (by kernel_rfl) (fun _ _ _ h => h) (Or.inl ⟨by kernel_rfl, ?_⟩) E0 ?_
                        rotate_left
                        · (intro W hS; obtain ⟨g0, g1, g2⟩ := hS; go_simp; try (with_reducible rfl))
                        refine wpAnyH_take (i := 3) (v := ?_) rfl (by kernel_rfl) (by kernel_rfl) (by kernel_rfl) (fun _ _ _ h => h) (Or.inl ⟨by kernel_rfl, ?_⟩) E0 ?_
                        rotate_left
                        · (intro W hS; obtain ⟨g0, g1, g2⟩ := hS; go_simp; try (with_reducible rfl))
                        refine wpAnyH_take (i := 4) (v := ?_) rfl (by kernel_rfl) (by kernel_rfl) (by kernel_rfl) (fun _ _ _ h => h) (Or.inl ⟨by kernel_rfl, ?_⟩) E0 ?_
                        rotate_left
                        · (intro W hS; obtain ⟨g0, g1, g2⟩ := hS; go_simp; try (with_reducible rfl))
                        refine wpAnyH_take (i := 5) (v := ?_) rfl (by kernel_rfl) (by kernel_rfl) (by kernel_rfl) (fun _ _ _ h => h) (Or.inl ⟨by kernel_rfl, ?_⟩) E0 ?_
                        rotate_left
                        · (intro W hS; obtain ⟨g0, g1, g2⟩ := hS; go_simp; try (with_reducible rfl))
                        refine wpAnyH_take (i := 6) (v := ?_) rfl (by kernel_rfl) (by kernel_rfl) (by kernel_rfl) (fun _ _ _ h => h) (Or.inl ⟨by kernel_rfl, ?_⟩) E0 ?_
                        rotate_left
                        · (intro W hS; obtain ⟨g0, g1, g2⟩ := hS; go_simp; try (with_reducible rfl))
                        refine wpAnyH_take (i := 7) (v := ?_) rfl (by kernel_rfl) (by kernel_rfl) (by kernel_rfl) (fun _ _ _ h => h) (Or.inl ⟨by kernel_rfl, ?_⟩) E0 ?_
                        rotate_left
                        · (intro W hS; obtain ⟨g0, g1, g2⟩ := hS; go_simp; try (with_reducible rfl))
                        refine wpAnyH_take (i := 8) (v := ?_) rfl (by kernel_rfl) (by kernel_rfl) (by kernel_rfl) (fun _ _ _ h => h) (Or.inl ⟨by kernel_rfl, ?_⟩) E0 ?_
                        rotate_left
                        · (intro W hS; obtain ⟨g0, g1, g2⟩ := hS; go_simp; try (with_reducible rfl))
                        refine wpAnyH_take (i := 9) (v := ?_) rfl (by kernel_rfl) (by kernel_rfl) (by kernel_rfl) (fun _ _ _ h => h) (Or.inl ⟨by kernel_rfl, ?_⟩) E0 ?_
                        rotate_left
                        · (intro W hS; obtain ⟨g0, g1, g2⟩ := hS; go_simp; try (with_reducible rfl))
                        refine wpAnyH_take (i := 10) (v := ?_) rfl (by kernel_rfl) (by kernel_rfl) (by kernel_rfl) (fun _ _ _ h => h) (Or.inl ⟨by kernel_rfl, ?_⟩) E0 ?_
                        rotate_left
                        · (intro W hS; obtain ⟨g0, g1, g2⟩ := hS; go_simp; try (with_reducible rfl))
                        refine wpAnyH_take (i := 11) (v := ?_) rfl (by kernel_rfl) (by kernel_rfl) (by kernel_rfl) (fun _ _ _ h => h) (Or.inl ⟨by kernel_rfl, ?_⟩) E0 ?_
                        rotate_left
                        · (intro W hS; obtain ⟨g0, g1, g2⟩ := hS; go_simp; try (with_reducible rfl))
                        refine wpAnyH_take (i := 12) (v := ?_) rfl (by kernel_rfl) (by kernel_rfl) (by kernel_rfl) (fun _ _ _ h => h) (Or.inl ⟨by kernel_rfl, ?_⟩) E0 ?_
                        rotate_left
                        · (intro W hS; obtain ⟨g0, g1, g2⟩ := hS; go_simp; try (with_reducible rfl))
                        refine wpAnyH_take (i := 13) (v := ?_) rfl (by kernel_rfl) (by kernel_rfl) (by kernel_rfl) (fun _ _ _ h => h) (Or.inl ⟨by kernel_rfl, ?_⟩) E0 ?_
                        rotate_left
                        · (intro W hS; obtain ⟨g0, g1, g2⟩ := hS; go_simp; try (with_reducible rfl))
                        obtain ⟨v1, hv⟩ : ∃ v, v = v0.alloc (.cells (rwCs (⟨t, u + 1, n⟩ : Rw)) 47) := ⟨_, rfl⟩
                        have hb : Below v0.heap.size v0 v1 := by rw [hv]; exact (Below.refl _ _).alloc (Nat.le_refl _) _
                        have gp : v1.heap[v0.heap.size]? = some (.cells (rwCs (⟨t, u + 1, n⟩ : Rw)) 47 (0, 0)) := by rw [hv]; exact heap_alloc_new _ _
                        have hz0 := L0.size
                        have L1 := L0.call hb
                        have E1 : v1.cell? ⟨tb, tof + k, none⟩ = some (.string t) ∧ v1.cell? ⟨rb, rof + I * 3 + 1, none⟩ = some (.int .i64 u) ∧ v1.cell? ⟨rb, rof + I * 3 + 2, none⟩ = some (.int .i64 lv) := ⟨(hb.cell (p := ⟨tb, tof + k, none⟩) (show tb < v0.heap.size by omega)).trans E0.1, (hb.cell (p := ⟨rb, rof + I * 3 + 1, none⟩) (show rb < v0.heap.size by omega)).trans E0.2.1, (hb.cell (p := ⟨rb, rof + I * 3 + 2, none⟩) (show rb < v0.heap.size by omega)).trans E0.2.2⟩
                        have hz1 := L1.size
                        unfold rwCs at hv
                        clear hb
                        refine wpAnyH_ready (rs := [1, 14]) (by kernel_rfl) (by simp) ?_
                        refine AllReadyH.cons (i := 1) rfl (fun K hK => ?_) ?_
                        · have qs := L0.cells.1
                          go_simp
                          refine hK.out _ _ E0 (fun _ => ?_)
                          clear hK K qs
                          refine wpAnyH_ready (rs := [14]) (by kernel_rfl) (by simp) ?_
                          refine AllReadyH.cons (i := 14) (rs := []) (o := ?o113) ?h113 (fun K hK => ?_) AllReadyH.nil
                          case h113 => (simp only [List.getElem?_toArray, List.getElem?_cons_succ]; exact rfl)
                          go_simp
                          rw [← hv]
                          clear hv
                          refine hK.out _ _ E1 (fun _ => ?_)
                          clear hK K
                          refine wpAnyH_ready (rs := [15]) (by kernel_rfl) (by simp) ?_
                          refine AllReadyH.cons (i := 15) (rs := []) (o := ?o114) ?h114 (fun K hK => ?_) AllReadyH.nil
                          case h114 => (simp only [List.getElem?_toArray, List.getElem?_cons_succ]; exact rfl)
                          refine step_append_r rfl (.tmp 141) (.tmp 154) 26 rfl rrow_rec rwCs_one rwCs_size L1.own _ rfl (by kernel_rfl) _ 1 (⟨t, u + 1, n⟩ : Rw) (by kernel_rfl) gp (by omega) hz1 (Below.refl _ _) ?_
                          intro q cq vz ho hB hgr hat
                          have hN := L1.rows ho hB hgr hat
                          have E2 : vz.cell? ⟨tb, tof + k, none⟩ = some (.string t) ∧ vz.cell? ⟨rb, rof + I * 3 + 1, none⟩ = some (.int .i64 u) ∧ vz.cell? ⟨rb, rof + I * 3 + 2, none⟩ = some (.int .i64 lv) := ⟨(hB.cell (p := ⟨tb, tof + k, none⟩) (show tb < ob + 1 by omega)).trans E1.1, (hB.cell (p := ⟨rb, rof + I * 3 + 1, none⟩) (show rb < ob + 1 by omega)).trans E1.2.1, (hB.cell (p := ⟨rb, rof + I * 3 + 2, none⟩) (show rb < ob + 1 by omega)).trans E1.2.2⟩
                          have zr := (hB.block ob (Nat.lt_succ_self _)).trans L1.row
                          have zc : vz.cell? ⟨ob, 0, none⟩ = some (.slice a R.length ca) := by rw [cell_of_row _ _ _ _ _ _ zr]; rfl
                          have zf : vz.frozen? ⟨ob, 0, none⟩ = false := Lib.frozen_of_heap zr 0
                          refine hK.out _ _ E2 (fun _ => ?_)
                          clear hK K
                          refine wpAnyH_take (i := 16) (v := ?_) rfl (by kernel_rfl) (by kernel_rfl) (by kernel_rfl) (fun _ _ _ h => h) (Or.inl ⟨by kernel_rfl, ?_⟩) E2 ?_
                          rotate_left
                          · (intro W hS; obtain ⟨g0, g1, g2⟩ := hS; go_simp; try (with_reducible rfl))
                          refine wpAnyH_ready (rs := [17]) (by kernel_rfl) (by simp) ?_
                          refine AllReadyH.cons (i := 17) (rs := []) (o := ?o115) ?h115 (fun K hK => ?_) AllReadyH.nil
                          case h115 => (simp only [List.getElem?_toArray, List.getElem?_cons_succ]; exact rfl)
                          go_simp
                          have E3 : (vz.setCell ⟨ob, 0, none⟩ (.slice (some ⟨q, 0, none⟩) (R.length + 1) cq)).cell? ⟨tb, tof + k, none⟩ = some (.string t) ∧ (vz.setCell ⟨ob, 0, none⟩ (.slice (some ⟨q, 0, none⟩) (R.length + 1) cq)).cell? ⟨rb, rof + I * 3 + 1, none⟩ = some (.int .i64 u) ∧ (vz.setCell ⟨ob, 0, none⟩ (.slice (some ⟨q, 0, none⟩) (R.length + 1) cq)).cell? ⟨rb, rof + I * 3 + 2, none⟩ = some (.int .i64 lv) := ⟨(World.cell?_of_block (a := ⟨tb, tof + k, none⟩) (heap_setCell_other _ _ _ _ (show tb ≠ ob by omega))).trans E2.1, (World.cell?_of_block (a := ⟨rb, rof + I * 3 + 1, none⟩) (heap_setCell_other _ _ _ _ (show rb ≠ ob by omega))).trans E2.2.1, (World.cell?_of_block (a := ⟨rb, rof + I * 3 + 2, none⟩) (heap_setCell_other _ _ _ _ (show rb ≠ ob by omega))).trans E2.2.2⟩
                          refine hK.out _ _ E3 (fun _ => ?_)
                          clear hK K
                          refine wpAnyH_done (by kernel_rfl) ?_ _
                          go_simp
                          have N9 := Lib.hid (And.intro hN E3)
                          clear hN E3 E2 E1 E0 L0 L1 zr zc zf ho hB hgr hat gp hz0 hz1
                          generalize vz.setCell _ _ = wz10 at *
                          go_wp2_with fail
                          refine wp_region_held (S := fun W : World => W.cell? ⟨tb, tof + k, none⟩ = some (.string t) ∧ W.cell? ⟨rb, rof + I * 3 + 1, none⟩ = some (.int .i64 u) ∧ W.cell? ⟨rb, rof + I * 3 + 2, none⟩ = some (.int .i64 lv)) (by kernel_rfl) ?_
                          have E0 : wz10.drew.cell? ⟨tb, tof + k, none⟩ = some (.string t) ∧ wz10.drew.cell? ⟨rb, rof + I * 3 + 1, none⟩ = some (.int .i64 u) ∧ wz10.drew.cell? ⟨rb, rof + I * 3 + 2, none⟩ = some (.int .i64 lv) := N9.out.2
                          have L0 := (N9.out.1).drew
                          change wpAnyH _ _ _ _ _ _ _ _ (World.drew _)
                          generalize World.drew _ = v0 at *
                          refine wpAnyH_take (i := 0) (v := ?_) rfl (by kernel_rfl) (by kernel_rfl) (by kernel_rfl) (fun _ _ _ h => h) (Or.inl ⟨by kernel_rfl, ?_⟩) E0 ?_
                          rotate_left
                          · (intro W hS; obtain ⟨g0, g1, g2⟩ := hS; go_simp; try (with_reducible rfl))
                          refine wpAnyH_take (i := 2) (v := ?_) rfl (by kernel_rfl) (by kernel_rfl) (by kernel_rfl) (fun _ _ _ h => h) (Or.inl ⟨by kernel_rfl, ?_⟩) E0 ?_
                          rotate_left
                          · (intro W hS; obtain ⟨g0, g1, g2⟩ := hS; go_simp; try (with_reducible rfl))
                          refine wpAnyH_take (i := 3) (v := ?_) rfl (by kernel_rfl) (by kernel_rfl) (by kernel_rfl) (fun _ _ _ h => h) (Or.inl ⟨by kernel_rfl, ?_⟩) E0 ?_
                          rotate_left
                          · (intro W hS; obtain ⟨g0, g1, g2⟩ := hS; go_simp; try (with_reducible rfl))
                          refine wpAnyH_take (i := 4) (v := ?_) rfl (by kernel_rfl) (by kernel_rfl) (by kernel_rfl) (fun _ _ _ h => h) (Or.inl ⟨by kernel_rfl, ?_⟩) E0 ?_
                          rotate_left
                          · (intro W hS; obtain ⟨g0, g1, g2⟩ := hS; go_simp; try (with_reducible rfl))
                          refine wpAnyH_take (i := 5) (v := ?_) rfl (by kernel_rfl) (by kernel_rfl) (by kernel_rfl) (fun _ _ _ h => h) (Or.inl ⟨by kernel_rfl, ?_⟩) E0 ?_
                          rotate_left
                          · (intro W hS; obtain ⟨g0, g1, g2⟩ := hS; go_simp; try (with_reducible rfl))
                          refine wpAnyH_take (i := 6) (v := ?_) rfl (by kernel_rfl) (by kernel_rfl) (by kernel_rfl) (fun _ _ _ h => h) (Or.inl ⟨by kernel_rfl, ?_⟩) E0 ?_
                          rotate_left
                          · (intro W hS; obtain ⟨g0, g1, g2⟩ := hS; go_simp; try (with_reducible rfl))
                          refine wpAnyH_take (i := 7) (v := ?_) rfl (by kernel_rfl) (by kernel_rfl) (by kernel_rfl) (fun _ _ _ h => h) (Or.inl ⟨by kernel_rfl, ?_⟩) E0 ?_
                          rotate_left
                          · (intro W hS; obtain ⟨g0, g1, g2⟩ := hS; go_simp; try (with_reducible rfl))
                          refine wpAnyH_take (i := 8) (v := ?_) rfl (by kernel_rfl) (by kernel_rfl) (by kernel_rfl) (fun _ _ _ h => h) (Or.inl ⟨by kernel_rfl, ?_⟩) E0 ?_
                          rotate_left
                          · (intro W hS; obtain ⟨g0, g1, g2⟩ := hS; go_simp; try (with_reducible rfl))
                          refine wpAnyH_take (i := 9) (v := ?_) rfl (by kernel_rfl) (by kernel_rfl) (by kernel_rfl) (fun _ _ _ h => h) (Or.inl ⟨by kernel_rfl, ?_⟩) E0 ?_
                          rotate_left
                          · (intro W hS; obtain ⟨g0, g1, g2⟩ := hS; go_simp; try (with_reducible rfl))
                          refine wpAnyH_take (i := 10) (v := ?_) rfl (by kernel_rfl) (by kernel_rfl) (by kernel_rfl) (fun _ _ _ h => h) (Or.inl ⟨by kernel_rfl, ?_⟩) E0 ?_
                          rotate_left
                          · (intro W hS; obtain ⟨g0, g1, g2⟩ := hS; go_simp; try (with_reducible rfl))
                          refine wpAnyH_take (i := 11) (v := ?_) rfl (by kernel_rfl) (by kernel_rfl) (by kernel_rfl) (fun _ _ _ h => h) (Or.inl ⟨by kernel_rfl, ?_⟩) E0 ?_
                          rotate_left
                          · (intro W hS; obtain ⟨g0, g1, g2⟩ := hS; go_simp; try (with_reducible rfl))
                          refine wpAnyH_take (i := 12) (v := ?_) rfl (by kernel_rfl) (by kernel_rfl) (by kernel_rfl) (fun _ _ _ h => h) (Or.inl ⟨by kernel_rfl, ?_⟩) E0 ?_
                          rotate_left
                          · (intro W hS; obtain ⟨g0, g1, g2⟩ := hS; go_simp; try (with_reducible rfl))
                          obtain ⟨v1, hv⟩ : ∃ v, v = v0.alloc (.cells (poCs (⟨t, lv + 1⟩ : Po)) 119) := ⟨_, rfl⟩
                          have hb : Below v0.heap.size v0 v1 := by rw [hv]; exact (Below.refl _ _).alloc (Nat.le_refl _) _
                          have gp : v1.heap[v0.heap.size]? = some (.cells (poCs (⟨t, lv + 1⟩ : Po)) 119 (0, 0)) := by rw [hv]; exact heap_alloc_new _ _
                          have hz0 := L0.size
                          have L1 := L0.call hb
                          have E1 : v1.cell? ⟨tb, tof + k, none⟩ = some (.string t) ∧ v1.cell? ⟨rb, rof + I * 3 + 1, none⟩ = some (.int .i64 u) ∧ v1.cell? ⟨rb, rof + I * 3 + 2, none⟩ = some (.int .i64 lv) := ⟨(hb.cell (p := ⟨tb, tof + k, none⟩) (show tb < v0.heap.size by omega)).trans E0.1, (hb.cell (p := ⟨rb, rof + I * 3 + 1, none⟩) (show rb < v0.heap.size by omega)).trans E0.2.1, (hb.cell (p := ⟨rb, rof + I * 3 + 2, none⟩) (show rb < v0.heap.size by omega)).trans E0.2.2⟩
                          have hz1 := L1.size
                          unfold poCs at hv
                          clear hb
                          refine wpAnyH_ready (rs := [1, 13]) (by kernel_rfl) (by simp) ?_
                          refine AllReadyH.cons (i := 1) rfl (fun K hK => ?_) ?_
                          · have qs := L0.cells.2.1
                            go_simp
                            refine hK.out _ _ E0 (fun _ => ?_)
                            clear hK K qs
                            refine wpAnyH_ready (rs := [13]) (by kernel_rfl) (by simp) ?_
                            refine AllReadyH.cons (i := 13) (rs := []) (o := ?o117) ?h117 (fun K hK => ?_) AllReadyH.nil
                            case h117 => (simp only [List.getElem?_toArray, List.getElem?_cons_succ]; exact rfl)
                            go_simp
                            rw [← hv]
                            clear hv
                            refine hK.out _ _ E1 (fun _ => ?_)
                            clear hK K
                            refine wpAnyH_ready (rs := [14]) (by kernel_rfl) (by simp) ?_
                            refine AllReadyH.cons (i := 14) (rs := []) (o := ?o118) ?h118 (fun K hK => ?_) AllReadyH.nil
                            case h118 => (simp only [List.getElem?_toArray, List.getElem?_cons_succ]; exact rfl)
                            refine step_append_r rfl (.tmp 158) (.tmp 170) 114 rfl rposting_rec poCs_one poCs_size L1.owp _ rfl (by kernel_rfl) _ 1 (⟨t, lv + 1⟩ : Po) (by kernel_rfl) gp (by omega) hz1 (Below.refl _ _) ?_
                            intro q cq vz ho hB hgr hat
                            have hN := L1.posts ho hB hgr hat
                            have E2 : vz.cell? ⟨tb, tof + k, none⟩ = some (.string t) ∧ vz.cell? ⟨rb, rof + I * 3 + 1, none⟩ = some (.int .i64 u) ∧ vz.cell? ⟨rb, rof + I * 3 + 2, none⟩ = some (.int .i64 lv) := ⟨(hB.cell (p := ⟨tb, tof + k, none⟩) (show tb < ob + 1 by omega)).trans E1.1, (hB.cell (p := ⟨rb, rof + I * 3 + 1, none⟩) (show rb < ob + 1 by omega)).trans E1.2.1, (hB.cell (p := ⟨rb, rof + I * 3 + 2, none⟩) (show rb < ob + 1 by omega)).trans E1.2.2⟩
                            have zr := (hB.block ob (Nat.lt_succ_self _)).trans L1.row
                            have zc : vz.cell? ⟨ob, 1, none⟩ = some (.slice p P.length cp) := by rw [cell_of_row _ _ _ _ _ _ zr]; rfl
                            have zf : vz.frozen? ⟨ob, 1, none⟩ = false := Lib.frozen_of_heap zr 1
                            refine hK.out _ _ E2 (fun _ => ?_)
                            clear hK K
                            refine wpAnyH_take (i := 15) (v := ?_) rfl (by kernel_rfl) (by kernel_rfl) (by kernel_rfl) (fun _ _ _ h => h) (Or.inl ⟨by kernel_rfl, ?_⟩) E2 ?_
                            rotate_left
                            · (intro W hS; obtain ⟨g0, g1, g2⟩ := hS; go_simp; try (with_reducible rfl))
                            refine wpAnyH_ready (rs := [16]) (by kernel_rfl) (by simp) ?_
                            refine AllReadyH.cons (i := 16) (rs := []) (o := ?o119) ?h119 (fun K hK => ?_) AllReadyH.nil
                            case h119 => (simp only [List.getElem?_toArray, List.getElem?_cons_succ]; exact rfl)
                            go_simp
                            have E3 : (vz.setCell ⟨ob, 1, none⟩ (.slice (some ⟨q, 0, none⟩) (P.length + 1) cq)).cell? ⟨tb, tof + k, none⟩ = some (.string t) ∧ (vz.setCell ⟨ob, 1, none⟩ (.slice (some ⟨q, 0, none⟩) (P.length + 1) cq)).cell? ⟨rb, rof + I * 3 + 1, none⟩ = some (.int .i64 u) ∧ (vz.setCell ⟨ob, 1, none⟩ (.slice (some ⟨q, 0, none⟩) (P.length + 1) cq)).cell? ⟨rb, rof + I * 3 + 2, none⟩ = some (.int .i64 lv) := ⟨(World.cell?_of_block (a := ⟨tb, tof + k, none⟩) (heap_setCell_other _ _ _ _ (show tb ≠ ob by omega))).trans E2.1, (World.cell?_of_block (a := ⟨rb, rof + I * 3 + 1, none⟩) (heap_setCell_other _ _ _ _ (show rb ≠ ob by omega))).trans E2.2.1, (World.cell?_of_block (a := ⟨rb, rof + I * 3 + 2, none⟩) (heap_setCell_other _ _ _ _ (show rb ≠ ob by omega))).trans E2.2.2⟩
                            refine hK.out _ _ E3 (fun _ => ?_)
                            clear hK K
                            refine wpAnyH_done (by kernel_rfl) ?_ _
                            go_simp
                            have N10 := Lib.hid (And.intro hN E3)
                            clear hN E3 E2 E1 E0 L0 L1 zr zc zf ho hB hgr hat gp hz0 hz1
                            generalize vz.setCell _ _ = wz11 at *
                            go_wp2_with fail
                            go_roundw
                            case rel => exact ⟨k + 1, I + 1, _, _, _, _, _, _, by omega, by omega, by omega, by go_num, by go_num, HN.out.1, HN.out.2.1, N10.out.1⟩
                            case measure => (simp [intOf]; try omega)
                          refine AllReadyH.cons (i := 13) (rs := []) (o := ?o121) ?h121 (fun K hK => ?_) AllReadyH.nil
                          case h121 => (simp only [List.getElem?_toArray, List.getElem?_cons_succ]; exact rfl)
                          go_simp
                          rw [← hv]
                          clear hv
                          refine hK.out _ _ E1 (fun _ => ?_)
                          clear hK K
                          refine wpAnyH_ready (rs := [1]) (by kernel_rfl) (by simp) ?_
                          refine AllReadyH.cons (i := 1) rfl (fun K hK => ?_) AllReadyH.nil
                          have qs := L1.cells.2.1
                          go_simp
                          refine hK.out _ _ E1 (fun _ => ?_)
                          clear hK K qs
                          refine wpAnyH_ready (rs := [14]) (by kernel_rfl) (by simp) ?_
                          refine AllReadyH.cons (i := 14) (rs := []) (o := ?o122) ?h122 (fun K hK => ?_) AllReadyH.nil
                          case h122 => (simp only [List.getElem?_toArray, List.getElem?_cons_succ]; exact rfl)
                          refine step_append_r rfl (.tmp 158) (.tmp 170) 114 rfl rposting_rec poCs_one poCs_size L1.owp _ rfl (by kernel_rfl) _ 1 (⟨t, lv + 1⟩ : Po) (by kernel_rfl) gp (by omega) hz1 (Below.refl _ _) ?_
                          intro q cq vz ho hB hgr hat
                          have hN := L1.posts ho hB hgr hat
                          have E2 : vz.cell? ⟨tb, tof + k, none⟩ = some (.string t) ∧ vz.cell? ⟨rb, rof + I * 3 + 1, none⟩ = some (.int .i64 u) ∧ vz.cell? ⟨rb, rof + I * 3 + 2, none⟩ = some (.int .i64 lv) := ⟨(hB.cell (p := ⟨tb, tof + k, none⟩) (show tb < ob + 1 by omega)).trans E1.1, (hB.cell (p := ⟨rb, rof + I * 3 + 1, none⟩) (show rb < ob + 1 by omega)).trans E1.2.1, (hB.cell (p := ⟨rb, rof + I * 3 + 2, none⟩) (show rb < ob + 1 by omega)).trans E1.2.2⟩
                          have zr := (hB.block ob (Nat.lt_succ_self _)).trans L1.row
                          have zc : vz.cell? ⟨ob, 1, none⟩ = some (.slice p P.length cp) := by rw [cell_of_row _ _ _ _ _ _ zr]; rfl
                          have zf : vz.frozen? ⟨ob, 1, none⟩ = false := Lib.frozen_of_heap zr 1
                          refine hK.out _ _ E2 (fun _ => ?_)
                          clear hK K
                          refine wpAnyH_take (i := 15) (v := ?_) rfl (by kernel_rfl) (by kernel_rfl) (by kernel_rfl) (fun _ _ _ h => h) (Or.inl ⟨by kernel_rfl, ?_⟩) E2 ?_
                          rotate_left
                          · (intro W hS; obtain ⟨g0, g1, g2⟩ := hS; go_simp; try (with_reducible rfl))
                          refine wpAnyH_ready (rs := [16]) (by kernel_rfl) (by simp) ?_
                          refine AllReadyH.cons (i := 16) (rs := []) (o := ?o123) ?h123 (fun K hK => ?_) AllReadyH.nil
                          case h123 => (simp only [List.getElem?_toArray, List.getElem?_cons_succ]; exact rfl)
                          go_simp
                          have E3 : (vz.setCell ⟨ob, 1, none⟩ (.slice (some ⟨q, 0, none⟩) (P.length + 1) cq)).cell? ⟨tb, tof + k, none⟩ = some (.string t) ∧ (vz.setCell ⟨ob, 1, none⟩ (.slice (some ⟨q, 0, none⟩) (P.length + 1) cq)).cell? ⟨rb, rof + I * 3 + 1, none⟩ = some (.int .i64 u) ∧ (vz.setCell ⟨ob, 1, none⟩ (.slice (some ⟨q, 0, none⟩) (P.length + 1) cq)).cell? ⟨rb, rof + I * 3 + 2, none⟩ = some (.int .i64 lv) := ⟨(World.cell?_of_block (a := ⟨tb, tof + k, none⟩) (heap_setCell_other _ _ _ _ (show tb ≠ ob by omega))).trans E2.1, (World.cell?_of_block (a := ⟨rb, rof + I * 3 + 1, none⟩) (heap_setCell_other _ _ _ _ (show rb ≠ ob by omega))).trans E2.2.1, (World.cell?_of_block (a := ⟨rb, rof + I * 3 + 2, none⟩) (heap_setCell_other _ _ _ _ (show rb ≠ ob by omega))).trans E2.2.2⟩
                          refine hK.out _ _ E3 (fun _ => ?_)
                          clear hK K
                          refine wpAnyH_done (by kernel_rfl) ?_ _
                          go_simp
                          have N10 := Lib.hid (And.intro hN E3)
                          clear hN E3 E2 E1 E0 L0 L1 zr zc zf ho hB hgr hat gp hz0 hz1
                          generalize vz.setCell _ _ = wz11 at *
                          go_wp2_with fail
                          go_roundw
                          case rel => exact ⟨k + 1, I + 1, _, _, _, _, _, _, by omega, by omega, by omega, by go_num, by go_num, HN.out.1, HN.out.2.1, N10.out.1⟩
                          case measure => (simp [intOf]; try omega)
                        refine AllReadyH.cons (i := 14) (rs := []) (o := ?o125) ?h125 (fun K hK => ?_) AllReadyH.nil
                        case h125 => (simp only [List.getElem?_toArray, List.getElem?_cons_succ]; exact rfl)
                        go_simp
                        rw [← hv]
                        clear hv
                        refine hK.out _ _ E1 (fun _ => ?_)
                        clear hK K
                        refine wpAnyH_ready (rs := [1]) (by kernel_rfl) (by simp) ?_
                        refine AllReadyH.cons (i := 1) rfl (fun K hK => ?_) AllReadyH.nil
                        have qs := L1.cells.1
                        go_simp
                        refine hK.out _ _ E1 (fun _ => ?_)
                        clear hK K qs
                        refine wpAnyH_ready (rs := [15]) (by kernel_rfl) (by simp) ?_
                        refine AllReadyH.cons (i := 15) (rs := []) (o := ?o126) ?h126 (fun K hK => ?_) AllReadyH.nil
                        case h126 => (simp only [List.getElem?_toArray, List.getElem?_cons_succ]; exact rfl)
                        refine step_append_r rfl (.tmp 141) (.tmp 154) 26 rfl rrow_rec rwCs_one rwCs_size L1.own _ rfl (by kernel_rfl) _ 1 (⟨t, u + 1, n⟩ : Rw) (by kernel_rfl) gp (by omega) hz1 (Below.refl _ _) ?_
                        intro q cq vz ho hB hgr hat
                        have hN := L1.rows ho hB hgr hat
                        have E2 : vz.cell? ⟨tb, tof + k, none⟩ = some (.string t) ∧ vz.cell? ⟨rb, rof + I * 3 + 1, none⟩ = some (.int .i64 u) ∧ vz.cell? ⟨rb, rof + I * 3 + 2, none⟩ = some (.int .i64 lv) := ⟨(hB.cell (p := ⟨tb, tof + k, none⟩) (show tb < ob + 1 by omega)).trans E1.1, (hB.cell (p := ⟨rb, rof + I * 3 + 1, none⟩) (show rb < ob + 1 by omega)).trans E1.2.1, (hB.cell (p := ⟨rb, rof + I * 3 + 2, none⟩) (show rb < ob + 1 by omega)).trans E1.2.2⟩
                        have zr := (hB.block ob (Nat.lt_succ_self _)).trans L1.row
                        have zc : vz.cell? ⟨ob, 0, none⟩ = some (.slice a R.length ca) := by rw [cell_of_row _ _ _ _ _ _ zr]; rfl
                        have zf : vz.frozen? ⟨ob, 0, none⟩ = false := Lib.frozen_of_heap zr 0
                        refine hK.out _ _ E2 (fun _ => ?_)
                        clear hK K
                        refine wpAnyH_take (i := 16) (v := ?_) rfl (by kernel_rfl) (by kernel_rfl) (by kernel_rfl) (fun _ _ _ h => h) (Or.inl ⟨by kernel_rfl, ?_⟩) E2 ?_
                        rotate_left
                        · (intro W hS; obtain ⟨g0, g1, g2⟩ := hS; go_simp; try (with_reducible rfl))
                        refine wpAnyH_ready (rs := [17]) (by kernel_rfl) (by simp) ?_
                        refine AllReadyH.cons (i := 17) (rs := []) (o := ?o127) ?h127 (fun K hK => ?_) AllReadyH.nil
                        case h127 => (simp only [List.getElem?_toArray, List.getElem?_cons_succ]; exact rfl)
                        go_simp
                        have E3 : (vz.setCell ⟨ob, 0, none⟩ (.slice (some ⟨q, 0, none⟩) (R.length + 1) cq)).cell? ⟨tb, tof + k, none⟩ = some (.string t) ∧ (vz.setCell ⟨ob, 0, none⟩ (.slice (some ⟨q, 0, none⟩) (R.length + 1) cq)).cell? ⟨rb, rof + I * 3 + 1, none⟩ = some (.int .i64 u) ∧ (vz.setCell ⟨ob, 0, none⟩ (.slice (some ⟨q, 0, none⟩) (R.length + 1) cq)).cell? ⟨rb, rof + I * 3 + 2, none⟩ = some (.int .i64 lv) := ⟨(World.cell?_of_block (a := ⟨tb, tof + k, none⟩) (heap_setCell_other _ _ _ _ (show tb ≠ ob by omega))).trans E2.1, (World.cell?_of_block (a := ⟨rb, rof + I * 3 + 1, none⟩) (heap_setCell_other _ _ _ _ (show rb ≠ ob by omega))).trans E2.2.1, (World.cell?_of_block (a := ⟨rb, rof + I * 3 + 2, none⟩) (heap_setCell_other _ _ _ _ (show rb ≠ ob by omega))).trans E2.2.2⟩
                        refine hK.out _ _ E3 (fun _ => ?_)
                        clear hK K
                        refine wpAnyH_done (by kernel_rfl) ?_ _
                        go_simp
                        have N9 := Lib.hid (And.intro hN E3)
                        clear hN E3 E2 E1 E0 L0 L1 zr zc zf ho hB hgr hat gp hz0 hz1
                        generalize vz.setCell _ _ = wz10 at *
                        go_wp2_with fail
                        refine wp_region_held (S := fun W : World => W.cell? ⟨tb, tof + k, none⟩ = some (.string t) ∧ W.cell? ⟨rb, rof + I * 3 + 1, none⟩ = some (.int .i64 u) ∧ W.cell? ⟨rb, rof + I * 3 + 2, none⟩ = some (.int .i64 lv)) (by kernel_rfl) ?_
                        have E0 : wz10.drew.cell? ⟨tb, tof + k, none⟩ = some (.string t) ∧ wz10.drew.cell? ⟨rb, rof + I * 3 + 1, none⟩ = some (.int .i64 u) ∧ wz10.drew.cell? ⟨rb, rof + I * 3 + 2, none⟩ = some (.int .i64 lv) := N9.out.2
                        have L0 := (N9.out.1).drew
                        change wpAnyH _ _ _ _ _ _ _ _ (World.drew _)
                        generalize World.drew _ = v0 at *
                        refine wpAnyH_take (i := 0) (v := ?_) rfl (by kernel_rfl) (by kernel_rfl) (by kernel_rfl) (fun _ _ _ h => h) (Or.inl ⟨by kernel_rfl, ?_⟩) E0 ?_
                        rotate_left
                        · (intro W hS; obtain ⟨g0, g1, g2⟩ := hS; go_simp; try (with_reducible rfl))
                        refine wpAnyH_take (i := 2) (v := ?_) rfl (by kernel_rfl) (by kernel_rfl) (by kernel_rfl) (fun _ _ _ h => h) (Or.inl ⟨by kernel_rfl, ?_⟩) E0 ?_
                        rotate_left
                        · (intro W hS; obtain ⟨g0, g1, g2⟩ := hS; go_simp; try (with_reducible rfl))
                        refine wpAnyH_take (i := 3) (v := ?_) rfl (by kernel_rfl) (by kernel_rfl) (by kernel_rfl) (fun _ _ _ h => h) (Or.inl ⟨by kernel_rfl, ?_⟩) E0 ?_
                        rotate_left
                        · (intro W hS; obtain ⟨g0, g1, g2⟩ := hS; go_simp; try (with_reducible rfl))
                        refine wpAnyH_take (i := 4) (v := ?_) rfl (by kernel_rfl) (by kernel_rfl) (by kernel_rfl) (fun _ _ _ h => h) (Or.inl ⟨by kernel_rfl, ?_⟩) E0 ?_
                        rotate_left
                        · (intro W hS; obtain ⟨g0, g1, g2⟩ := hS; go_simp; try (with_reducible rfl))
                        refine wpAnyH_take (i := 5) (v := ?_) rfl (by kernel_rfl) (by kernel_rfl) (by kernel_rfl) (fun _ _ _ h => h) (Or.inl ⟨by kernel_rfl, ?_⟩) E0 ?_
                        rotate_left
                        · (intro W hS; obtain ⟨g0, g1, g2⟩ := hS; go_simp; try (with_reducible rfl))
                        refine wpAnyH_take (i := 6) (v := ?_) rfl (by kernel_rfl) (by kernel_rfl) (by kernel_rfl) (fun _ _ _ h => h) (Or.inl ⟨by kernel_rfl, ?_⟩) E0 ?_
                        rotate_left
                        · (intro W hS; obtain ⟨g0, g1, g2⟩ := hS; go_simp; try (with_reducible rfl))
                        refine wpAnyH_take (i := 7) (v := ?_) rfl (by kernel_rfl) (by kernel_rfl) (by kernel_rfl) (fun _ _ _ h => h) (Or.inl ⟨by kernel_rfl, ?_⟩) E0 ?_
                        rotate_left
                        · (intro W hS; obtain ⟨g0, g1, g2⟩ := hS; go_simp; try (with_reducible rfl))
                        refine wpAnyH_take (i := 8) (v := ?_) rfl (by kernel_rfl) (by kernel_rfl) (by kernel_rfl) (fun _ _ _ h => h) (Or.inl ⟨by kernel_rfl, ?_⟩) E0 ?_
                        rotate_left
                        · (intro W hS; obtain ⟨g0, g1, g2⟩ := hS; go_simp; try (with_reducible rfl))
                        refine wpAnyH_take (i := 9) (v := ?_) rfl (by kernel_rfl) (by kernel_rfl) (by kernel_rfl) (fun _ _ _ h => h) (Or.inl ⟨by kernel_rfl, ?_⟩) E0 ?_
                        rotate_left
                        · (intro W hS; obtain ⟨g0, g1, g2⟩ := hS; go_simp; try (with_reducible rfl))
                        refine wpAnyH_take (i := 10) (v := ?_) rfl (by kernel_rfl) (by kernel_rfl) (by kernel_rfl) (fun _ _ _ h => h) (Or.inl ⟨by kernel_rfl, ?_⟩) E0 ?_
                        rotate_left
                        · (intro W hS; obtain ⟨g0, g1, g2⟩ := hS; go_simp; try (with_reducible rfl))
                        refine wpAnyH_take (i := 11) (v := ?_) rfl (by kernel_rfl) (by kernel_rfl) (by kernel_rfl) (fun _ _ _ h => h) (Or.inl ⟨by kernel_rfl, ?_⟩) E0 ?_
                        rotate_left
                        · (intro W hS; obtain ⟨g0, g1, g2⟩ := hS; go_simp; try (with_reducible rfl))
                        refine wpAnyH_take (i := 12) (v := ?_) rfl (by kernel_rfl) (by kernel_rfl) (by kernel_rfl) (fun _ _ _ h => h) (Or.inl ⟨by kernel_rfl, ?_⟩) E0 ?_
                        rotate_left
                        · (intro W hS; obtain ⟨g0, g1, g2⟩ := hS; go_simp; try (with_reducible rfl))
                        obtain ⟨v1, hv⟩ : ∃ v, v = v0.alloc (.cells (poCs (⟨t, lv + 1⟩ : Po)) 119) := ⟨_, rfl⟩
                        have hb : Below v0.heap.size v0 v1 := by rw [hv]; exact (Below.refl _ _).alloc (Nat.le_refl _) _
                        have gp : v1.heap[v0.heap.size]? = some (.cells (poCs (⟨t, lv + 1⟩ : Po)) 119 (0, 0)) := by rw [hv]; exact heap_alloc_new _ _
                        have hz0 := L0.size
                        have L1 := L0.call hb
                        have E1 : v1.cell? ⟨tb, tof + k, none⟩ = some (.string t) ∧ v1.cell? ⟨rb, rof + I * 3 + 1, none⟩ = some (.int .i64 u) ∧ v1.cell? ⟨rb, rof + I * 3 + 2, none⟩ = some (.int .i64 lv) := ⟨(hb.cell (p := ⟨tb, tof + k, none⟩) (show tb < v0.heap.size by omega)).trans E0.1, (hb.cell (p := ⟨rb, rof + I * 3 + 1, none⟩) (show rb < v0.heap.size by omega)).trans E0.2.1, (hb.cell (p := ⟨rb, rof + I * 3 + 2, none⟩) (show rb < v0.heap.size by omega)).trans E0.2.2⟩
                        have hz1 := L1.size
                        unfold poCs at hv
                        clear hb
                        refine wpAnyH_ready (rs := [1, 13]) (by kernel_rfl) (by simp) ?_
                        refine AllReadyH.cons (i := 1) rfl (fun K hK => ?_) ?_
                        · have qs := L0.cells.2.1
                          go_simp
                          refine hK.out _ _ E0 (fun _ => ?_)
                          clear hK K qs
                          refine wpAnyH_ready (rs := [13]) (by kernel_rfl) (by simp) ?_
                          refine AllReadyH.cons (i := 13) (rs := []) (o := ?o129) ?h129 (fun K hK => ?_) AllReadyH.nil
                          case h129 => (simp only [List.getElem?_toArray, List.getElem?_cons_succ]; exact rfl)
                          go_simp
                          rw [← hv]
                          clear hv
                          refine hK.out _ _ E1 (fun _ => ?_)
                          clear hK K
                          refine wpAnyH_ready (rs := [14]) (by kernel_rfl) (by simp) ?_
                          refine AllReadyH.cons (i := 14) (rs := []) (o := ?o130) ?h130 (fun K hK => ?_) AllReadyH.nil
                          case h130 => (simp only [List.getElem?_toArray, List.getElem?_cons_succ]; exact rfl)
                          refine step_append_r rfl (.tmp 158) (.tmp 170) 114 rfl rposting_rec poCs_one poCs_size L1.owp _ rfl (by kernel_rfl) _ 1 (⟨t, lv + 1⟩ : Po) (by kernel_rfl) gp (by omega) hz1 (Below.refl _ _) ?_
                          intro q cq vz ho hB hgr hat
                          have hN := L1.posts ho hB hgr hat
                          have E2 : vz.cell? ⟨tb, tof + k, none⟩ = some (.string t) ∧ vz.cell? ⟨rb, rof + I * 3 + 1, none⟩ = some (.int .i64 u) ∧ vz.cell? ⟨rb, rof + I * 3 + 2, none⟩ = some (.int .i64 lv) := ⟨(hB.cell (p := ⟨tb, tof + k, none⟩) (show tb < ob + 1 by omega)).trans E1.1, (hB.cell (p := ⟨rb, rof + I * 3 + 1, none⟩) (show rb < ob + 1 by omega)).trans E1.2.1, (hB.cell (p := ⟨rb, rof + I * 3 + 2, none⟩) (show rb < ob + 1 by omega)).trans E1.2.2⟩
                          have zr := (hB.block ob (Nat.lt_succ_self _)).trans L1.row
                          have zc : vz.cell? ⟨ob, 1, none⟩ = some (.slice p P.length cp) := by rw [cell_of_row _ _ _ _ _ _ zr]; rfl
                          have zf : vz.frozen? ⟨ob, 1, none⟩ = false := Lib.frozen_of_heap zr 1
                          refine hK.out _ _ E2 (fun _ => ?_)
                          clear hK K
                          refine wpAnyH_take (i := 15) (v := ?_) rfl (by kernel_rfl) (by kernel_rfl) (by kernel_rfl) (fun _ _ _ h => h) (Or.inl ⟨by kernel_rfl, ?_⟩) E2 ?_
                          rotate_left
                          · (intro W hS; obtain ⟨g0, g1, g2⟩ := hS; go_simp; try (with_reducible rfl))
                          refine wpAnyH_ready (rs := [16]) (by kernel_rfl) (by simp) ?_
                          refine AllReadyH.cons (i := 16) (rs := []) (o := ?o131) ?h131 (fun K hK => ?_) AllReadyH.nil
                          case h131 => (simp only [List.getElem?_toArray, List.getElem?_cons_succ]; exact rfl)
                          go_simp
                          have E3 : (vz.setCell ⟨ob, 1, none⟩ (.slice (some ⟨q, 0, none⟩) (P.length + 1) cq)).cell? ⟨tb, tof + k, none⟩ = some (.string t) ∧ (vz.setCell ⟨ob, 1, none⟩ (.slice (some ⟨q, 0, none⟩) (P.length + 1) cq)).cell? ⟨rb, rof + I * 3 + 1, none⟩ = some (.int .i64 u) ∧ (vz.setCell ⟨ob, 1, none⟩ (.slice (some ⟨q, 0, none⟩) (P.length + 1) cq)).cell? ⟨rb, rof + I * 3 + 2, none⟩ = some (.int .i64 lv) := ⟨(World.cell?_of_block (a := ⟨tb, tof + k, none⟩) (heap_setCell_other _ _ _ _ (show tb ≠ ob by omega))).trans E2.1, (World.cell?_of_block (a := ⟨rb, rof + I * 3 + 1, none⟩) (heap_setCell_other _ _ _ _ (show rb ≠ ob by omega))).trans E2.2.1, (World.cell?_of_block (a := ⟨rb, rof + I * 3 + 2, none⟩) (heap_setCell_other _ _ _ _ (show rb ≠ ob by omega))).trans E2.2.2⟩
                          refine hK.out _ _ E3 (fun _ => ?_)
                          clear hK K
                          refine wpAnyH_done (by kernel_rfl) ?_ _
                          go_simp
                          have N10 := Lib.hid (And.intro hN E3)
                          clear hN E3 E2 E1 E0 L0 L1 zr zc zf ho hB hgr hat gp hz0 hz1
                          generalize vz.setCell _ _ = wz11 at *
                          go_wp2_with fail
                          go_roundw
                          case rel => exact ⟨k + 1, I + 1, _, _, _, _, _, _, by omega, by omega, by omega, by go_num, by go_num, HN.out.1, HN.out.2.1, N10.out.1⟩
                          case measure => (simp [intOf]; try omega)
                        refine AllReadyH.cons (i := 13) (rs := []) (o := ?o133) ?h133 (fun K hK => ?_) AllReadyH.nil
                        case h133 => (simp only [List.getElem?_toArray, List.getElem?_cons_succ]; exact rfl)
                        go_simp
                        rw [← hv]
                        clear hv
                        refine hK.out _ _ E1 (fun _ => ?_)
                        clear hK K
                        refine wpAnyH_ready (rs := [1]) (by kernel_rfl) (by simp) ?_
                        refine AllReadyH.cons (i := 1) rfl (fun K hK => ?_) AllReadyH.nil
                        have qs := L1.cells.2.1
                        go_simp
                        refine hK.out _ _ E1 (fun _ => ?_)
                        clear hK K qs
                        refine wpAnyH_ready (rs := [14]) (by kernel_rfl) (by simp) ?_
                        refine AllReadyH.cons (i := 14) (rs := []) (o := ?o134) ?h134 (fun K hK => ?_) AllReadyH.nil
                        case h134 => (simp only [List.getElem?_toArray, List.getElem?_cons_succ]; exact rfl)
                        refine step_append_r rfl (.tmp 158) (.tmp 170) 114 rfl rposting_rec poCs_one poCs_size L1.owp _ rfl (by kernel_rfl) _ 1 (⟨t, lv + 1⟩ : Po) (by kernel_rfl) gp (by omega) hz1 (Below.refl _ _) ?_
                        intro q cq vz ho hB hgr hat
                        have hN := L1.posts ho hB hgr hat
                        have E2 : vz.cell? ⟨tb, tof + k, none⟩ = some (.string t) ∧ vz.cell? ⟨rb, rof + I * 3 + 1, none⟩ = some (.int .i64 u) ∧ vz.cell? ⟨rb, rof + I * 3 + 2, none⟩ = some (.int .i64 lv) := ⟨(hB.cell (p := ⟨tb, tof + k, none⟩) (show tb < ob + 1 by omega)).trans E1.1, (hB.cell (p := ⟨rb, rof + I * 3 + 1, none⟩) (show rb < ob + 1 by omega)).trans E1.2.1, (hB.cell (p := ⟨rb, rof + I * 3 + 2, none⟩) (show rb < ob + 1 by omega)).trans E1.2.2⟩
                        have zr := (hB.block ob (Nat.lt_succ_self _)).trans L1.row
                        have zc : vz.cell? ⟨ob, 1, none⟩ = some (.slice p P.length cp) := by rw [cell_of_row _ _ _ _ _ _ zr]; rfl
                        have zf : vz.frozen? ⟨ob, 1, none⟩ = false := Lib.frozen_of_heap zr 1
                        refine hK.out _ _ E2 (fun _ => ?_)
                        clear hK K
                        refine wpAnyH_take (i := 15) (v := ?_) rfl (by kernel_rfl) (by kernel_rfl) (by kernel_rfl) (fun _ _ _ h => h) (Or.inl ⟨by kernel_rfl, ?_⟩) E2 ?_
                        rotate_left
                        · (intro W hS; obtain ⟨g0, g1, g2⟩ := hS; go_simp; try (with_reducible rfl))
                        refine wpAnyH_ready (rs := [16]) (by kernel_rfl) (by simp) ?_
                        refine AllReadyH.cons (i := 16) (rs := []) (o := ?o135) ?h135 (fun K hK => ?_) AllReadyH.nil
                        case h135 => (simp only [List.getElem?_toArray, List.getElem?_cons_succ]; exact rfl)
                        go_simp
                        have E3 : (vz.setCell ⟨ob, 1, none⟩ (.slice (some ⟨q, 0, none⟩) (P.length + 1) cq)).cell? ⟨tb, tof + k, none⟩ = some (.string t) ∧ (vz.setCell ⟨ob, 1, none⟩ (.slice (some ⟨q, 0, none⟩) (P.length + 1) cq)).cell? ⟨rb, rof + I * 3 + 1, none⟩ = some (.int .i64 u) ∧ (vz.setCell ⟨ob, 1, none⟩ (.slice (some ⟨q, 0, none⟩) (P.length + 1) cq)).cell? ⟨rb, rof + I * 3 + 2, none⟩ = some (.int .i64 lv) := ⟨(World.cell?_of_block (a := ⟨tb, tof + k, none⟩) (heap_setCell_other _ _ _ _ (show tb ≠ ob by omega))).trans E2.1, (World.cell?_of_block (a := ⟨rb, rof + I * 3 + 1, none⟩) (heap_setCell_other _ _ _ _ (show rb ≠ ob by omega))).trans E2.2.1, (World.cell?_of_block (a := ⟨rb, rof + I * 3 + 2, none⟩) (heap_setCell_other _ _ _ _ (show rb ≠ ob by omega))).trans E2.2.2⟩
                        refine hK.out _ _ E3 (fun _ => ?_)
                        clear hK K
                        refine wpAnyH_done (by kernel_rfl) ?_ _
                        go_simp
                        have N10 := Lib.hid (And.intro hN E3)
                        clear hN E3 E2 E1 E0 L0 L1 zr zc zf ho hB hgr hat gp hz0 hz1
                        generalize vz.setCell _ _ = wz11 at *
                        go_wp2_with fail
                        go_roundw
                        case rel => exact ⟨k + 1, I + 1, _, _, _, _, _, _, by omega, by omega, by omega, by go_num, by go_num, HN.out.1, HN.out.2.1, N10.out.1⟩
                        case measure => (simp [intOf]; try omega)
                      · have hl2 : Wd.less x t = true := by rcases Wd.less_total hte with h | h; exact absurd h hl; exact h
                        have hR3 : G1 = (R ++ [⟨x, u, lv⟩]) ++ (Ix.mrg n (rs.drop (I + 1)) (ts.drop k)).1 := by rw [hR, rdrop_at hr]; rw [tdrop_at ht, Ix.mrg_more hl2]; simp
                        have hP3 : G2 = P ++ (Ix.mrg n (rs.drop (I + 1)) (ts.drop k)).2 := by rw [hP, rdrop_at hr]; rw [tdrop_at ht, Ix.mrg_more hl2]
                        have HN := Lib.hid (And.intro hR3 (And.intro hP3 hW))
                        have l1 : Op.bytesLess t.toList x.toList = false := text_bl0 (Wd.less_asymm hl2)
                        have l2 : (t.toList == x.toList) = false := text_eq0 hte
                        clear hR3 hP3 hR hP hW ht hr hl hl2 hte k2 k3 k4 k5
                        go_wp2_with fail
                        go_quiet (fail)
                        have LA := (HN.out.2.2).call (below_drewN (Below.refl _ _) nq)
                        have d0 : (wr.drewN nq).cell? ⟨tb, tof + k, none⟩ = some (.string t) := d0
                        have e0 : (wr.drewN nq).cell? ⟨rb, rof + I * 3, none⟩ = some (.string x) := e0
                        have e1 : (wr.drewN nq).cell? ⟨rb, rof + I * 3 + 1, none⟩ = some (.int .i64 u) := e1
                        have e2 : (wr.drewN nq).cell? ⟨rb, rof + I * 3 + 2, none⟩ = some (.int .i64 lv) := e2
                        have NA := Lib.hid LA
                        clear LA
                        generalize wr.drewN nq = wzA at *
                        go_wp2_with fail
                        go_quiet (fail)
                        have LA := NA.out.call (below_drewN (Below.refl _ _) nq)
                        have d0 : (wzA.drewN nq).cell? ⟨tb, tof + k, none⟩ = some (.string t) := d0
                        have e0 : (wzA.drewN nq).cell? ⟨rb, rof + I * 3, none⟩ = some (.string x) := e0
                        have e1 : (wzA.drewN nq).cell? ⟨rb, rof + I * 3 + 1, none⟩ = some (.int .i64 u) := e1
                        have e2 : (wzA.drewN nq).cell? ⟨rb, rof + I * 3 + 2, none⟩ = some (.int .i64 lv) := e2
                        have N8 := Lib.hid (And.intro LA (And.intro d0 (And.intro e0 (And.intro e1 e2))))
                        clear LA d0 e0 e1 e2
                        generalize wzA.drewN nq = wz9 at *
                        go_wp2_with fail
                        refine wp_region_held (S := fun W : World => W.cell? ⟨rb, rof + I * 3, none⟩ = some (.string x) ∧ W.cell? ⟨rb, rof + I * 3 + 1, none⟩ = some (.int .i64 u) ∧ W.cell? ⟨rb, rof + I * 3 + 2, none⟩ = some (.int .i64 lv)) (by kernel_rfl) ?_
                        have E0 : wz9.drew.cell? ⟨rb, rof + I * 3, none⟩ = some (.string x) ∧ wz9.drew.cell? ⟨rb, rof + I * 3 + 1, none⟩ = some (.int .i64 u) ∧ wz9.drew.cell? ⟨rb, rof + I * 3 + 2, none⟩ = some (.int .i64 lv) := N8.out.2.2
                        have L0 := (N8.out.1).drew
                        change wpAnyH _ _ _ _ _ _ _ _ (World.drew _)
                        generalize World.drew _ = v0 at *
                        refine wpAnyH_take (i := 0) (v := ?_) rfl (by kernel_rfl) (by kernel_rfl) (by kernel_rfl) (fun _ _ _ h => h) (Or.inl ⟨by kernel_rfl, ?_⟩) E0 ?_
                        rotate_left
                        · (intro W hS; obtain ⟨g0, g1, g2⟩ := hS; go_simp; try (with_reducible rfl))
                        refine wpAnyH_take (i := 2) (v := ?_) rfl (by kernel_rfl) (by kernel_rfl) (by kernel_rfl) (fun _ _ _ h => h) (Or.inl ⟨by kernel_rfl, ?_⟩) E0 ?_
                        rotate_left
                        · (intro W hS; obtain ⟨g0, g1, g2⟩ := hS; go_simp; try (with_reducible rfl))
                        refine wpAnyH_take (i := 3) (v := ?_) rfl (by kernel_rfl) (by kernel_rfl) (by kernel_rfl) (fun _ _ _ h => h) (Or.inl ⟨by kernel_rfl, ?_⟩) E0 ?_
                        rotate_left
                        · (intro W hS; obtain ⟨g0, g1, g2⟩ := hS; go_simp; try (with_reducible rfl))
                        refine wpAnyH_take (i := 4) (v := ?_) rfl (by kernel_rfl) (by kernel_rfl) (by kernel_rfl) (fun _ _ _ h => h) (Or.inl ⟨by kernel_rfl, ?_⟩) E0 ?_
                        rotate_left
                        · (intro W hS; obtain ⟨g0, g1, g2⟩ := hS; go_simp; try (with_reducible rfl))
                        refine wpAnyH_take (i := 5) (v := ?_) rfl (by kernel_rfl) (by kernel_rfl) (by kernel_rfl) (fun _ _ _ h => h) (Or.inl ⟨by kernel_rfl, ?_⟩) E0 ?_
                        rotate_left
                        · (intro W hS; obtain ⟨g0, g1, g2⟩ := hS; go_simp; try (with_reducible rfl))
                        obtain ⟨v1, hv⟩ : ∃ v, v = v0.alloc (.cells (rwCs (⟨x, u, lv⟩ : Rw)) 47) := ⟨_, rfl⟩
                        have hb : Below v0.heap.size v0 v1 := by rw [hv]; exact (Below.refl _ _).alloc (Nat.le_refl _) _
                        have gp : v1.heap[v0.heap.size]? = some (.cells (rwCs (⟨x, u, lv⟩ : Rw)) 47 (0, 0)) := by rw [hv]; exact heap_alloc_new _ _
                        have hz0 := L0.size
                        have L1 := L0.call hb
                        have E1 : v1.cell? ⟨rb, rof + I * 3, none⟩ = some (.string x) ∧ v1.cell? ⟨rb, rof + I * 3 + 1, none⟩ = some (.int .i64 u) ∧ v1.cell? ⟨rb, rof + I * 3 + 2, none⟩ = some (.int .i64 lv) := ⟨(hb.cell (p := ⟨rb, rof + I * 3, none⟩) (show rb < v0.heap.size by omega)).trans E0.1, (hb.cell (p := ⟨rb, rof + I * 3 + 1, none⟩) (show rb < v0.heap.size by omega)).trans E0.2.1, (hb.cell (p := ⟨rb, rof + I * 3 + 2, none⟩) (show rb < v0.heap.size by omega)).trans E0.2.2⟩
                        have hz1 := L1.size
                        unfold rwCs at hv
                        clear hb
                        refine wpAnyH_ready (rs := [1, 6]) (by kernel_rfl) (by simp) ?_
                        refine AllReadyH.cons (i := 1) rfl (fun K hK => ?_) ?_
                        · have qs := L0.cells.1
                          go_simp
                          refine hK.out _ _ E0 (fun _ => ?_)
                          clear hK K qs
                          refine wpAnyH_ready (rs := [6]) (by kernel_rfl) (by simp) ?_
                          refine AllReadyH.cons (i := 6) rfl (fun K hK => ?_) AllReadyH.nil
                          go_simp
                          rw [← hv]
                          clear hv
                          refine hK.out _ _ E1 (fun _ => ?_)
                          clear hK K
                          refine wpAnyH_ready (rs := [7]) (by kernel_rfl) (by simp) ?_
                          refine AllReadyH.cons (i := 7) rfl (fun K hK => ?_) AllReadyH.nil
                          refine step_append_r rfl (.tmp 180) (.tmp 185) 26 rfl rrow_rec rwCs_one rwCs_size L1.own _ rfl (by kernel_rfl) _ 1 (⟨x, u, lv⟩ : Rw) (by kernel_rfl) gp (by omega) hz1 (Below.refl _ _) ?_
                          intro q cq vz ho hB hgr hat
                          have hN := L1.rows ho hB hgr hat
                          have E2 : vz.cell? ⟨rb, rof + I * 3, none⟩ = some (.string x) ∧ vz.cell? ⟨rb, rof + I * 3 + 1, none⟩ = some (.int .i64 u) ∧ vz.cell? ⟨rb, rof + I * 3 + 2, none⟩ = some (.int .i64 lv) := ⟨(hB.cell (p := ⟨rb, rof + I * 3, none⟩) (show rb < ob + 1 by omega)).trans E1.1, (hB.cell (p := ⟨rb, rof + I * 3 + 1, none⟩) (show rb < ob + 1 by omega)).trans E1.2.1, (hB.cell (p := ⟨rb, rof + I * 3 + 2, none⟩) (show rb < ob + 1 by omega)).trans E1.2.2⟩
                          have zr := (hB.block ob (Nat.lt_succ_self _)).trans L1.row
                          have zc : vz.cell? ⟨ob, 0, none⟩ = some (.slice a R.length ca) := by rw [cell_of_row _ _ _ _ _ _ zr]; rfl
                          have zf : vz.frozen? ⟨ob, 0, none⟩ = false := Lib.frozen_of_heap zr 0
                          refine hK.out _ _ E2 (fun _ => ?_)
                          clear hK K
                          refine wpAnyH_take (i := 8) (v := ?_) rfl (by kernel_rfl) (by kernel_rfl) (by kernel_rfl) (fun _ _ _ h => h) (Or.inl ⟨by kernel_rfl, ?_⟩) E2 ?_
                          rotate_left
                          · (intro W hS; obtain ⟨g0, g1, g2⟩ := hS; go_simp; try (with_reducible rfl))
                          refine wpAnyH_ready (rs := [9]) (by kernel_rfl) (by simp) ?_
                          refine AllReadyH.cons (i := 9) rfl (fun K hK => ?_) AllReadyH.nil
                          go_simp
                          have E3 : (vz.setCell ⟨ob, 0, none⟩ (.slice (some ⟨q, 0, none⟩) (R.length + 1) cq)).cell? ⟨rb, rof + I * 3, none⟩ = some (.string x) ∧ (vz.setCell ⟨ob, 0, none⟩ (.slice (some ⟨q, 0, none⟩) (R.length + 1) cq)).cell? ⟨rb, rof + I * 3 + 1, none⟩ = some (.int .i64 u) ∧ (vz.setCell ⟨ob, 0, none⟩ (.slice (some ⟨q, 0, none⟩) (R.length + 1) cq)).cell? ⟨rb, rof + I * 3 + 2, none⟩ = some (.int .i64 lv) := ⟨(World.cell?_of_block (a := ⟨rb, rof + I * 3, none⟩) (heap_setCell_other _ _ _ _ (show rb ≠ ob by omega))).trans E2.1, (World.cell?_of_block (a := ⟨rb, rof + I * 3 + 1, none⟩) (heap_setCell_other _ _ _ _ (show rb ≠ ob by omega))).trans E2.2.1, (World.cell?_of_block (a := ⟨rb, rof + I * 3 + 2, none⟩) (heap_setCell_other _ _ _ _ (show rb ≠ ob by omega))).trans E2.2.2⟩
                          refine hK.out _ _ E3 (fun _ => ?_)
                          clear hK K
                          refine wpAnyH_done (by kernel_rfl) ?_ _
                          go_simp
                          have N9 := Lib.hid (And.intro hN E3)
                          clear hN E3 E2 E1 E0 L0 L1 zr zc zf ho hB hgr hat gp hz0 hz1
                          generalize vz.setCell _ _ = wz10 at *
                          go_wp2_with fail
                          go_roundw
                          case rel => exact ⟨k, I + 1, _, _, _, _, _, _, by omega, by omega, by omega, by go_num, by go_num, HN.out.1, HN.out.2.1, N9.out.1⟩
                          case measure => (simp [intOf]; try omega)
                        refine AllReadyH.cons (i := 6) rfl (fun K hK => ?_) AllReadyH.nil
                        go_simp
                        rw [← hv]
                        clear hv
                        refine hK.out _ _ E1 (fun _ => ?_)
                        clear hK K
                        refine wpAnyH_ready (rs := [1]) (by kernel_rfl) (by simp) ?_
                        refine AllReadyH.cons (i := 1) rfl (fun K hK => ?_) AllReadyH.nil
                        have qs := L1.cells.1
                        go_simp
                        refine hK.out _ _ E1 (fun _ => ?_)
                        clear hK K qs
                        refine wpAnyH_ready (rs := [7]) (by kernel_rfl) (by simp) ?_
                        refine AllReadyH.cons (i := 7) rfl (fun K hK => ?_) AllReadyH.nil
                        refine step_append_r rfl (.tmp 180) (.tmp 185) 26 rfl rrow_rec rwCs_one rwCs_size L1.own _ rfl (by kernel_rfl) _ 1 (⟨x, u, lv⟩ : Rw) (by kernel_rfl) gp (by omega) hz1 (Below.refl _ _) ?_
                        intro q cq vz ho hB hgr hat
                        have hN := L1.rows ho hB hgr hat
                        have E2 : vz.cell? ⟨rb, rof + I * 3, none⟩ = some (.string x) ∧ vz.cell? ⟨rb, rof + I * 3 + 1, none⟩ = some (.int .i64 u) ∧ vz.cell? ⟨rb, rof + I * 3 + 2, none⟩ = some (.int .i64 lv) := ⟨(hB.cell (p := ⟨rb, rof + I * 3, none⟩) (show rb < ob + 1 by omega)).trans E1.1, (hB.cell (p := ⟨rb, rof + I * 3 + 1, none⟩) (show rb < ob + 1 by omega)).trans E1.2.1, (hB.cell (p := ⟨rb, rof + I * 3 + 2, none⟩) (show rb < ob + 1 by omega)).trans E1.2.2⟩
                        have zr := (hB.block ob (Nat.lt_succ_self _)).trans L1.row
                        have zc : vz.cell? ⟨ob, 0, none⟩ = some (.slice a R.length ca) := by rw [cell_of_row _ _ _ _ _ _ zr]; rfl
                        have zf : vz.frozen? ⟨ob, 0, none⟩ = false := Lib.frozen_of_heap zr 0
                        refine hK.out _ _ E2 (fun _ => ?_)
                        clear hK K
                        refine wpAnyH_take (i := 8) (v := ?_) rfl (by kernel_rfl) (by kernel_rfl) (by kernel_rfl) (fun _ _ _ h => h) (Or.inl ⟨by kernel_rfl, ?_⟩) E2 ?_
                        rotate_left
                        · (intro W hS; obtain ⟨g0, g1, g2⟩ := hS; go_simp; try (with_reducible rfl))
                        refine wpAnyH_ready (rs := [9]) (by kernel_rfl) (by simp) ?_
                        refine AllReadyH.cons (i := 9) rfl (fun K hK => ?_) AllReadyH.nil
                        go_simp
                        have E3 : (vz.setCell ⟨ob, 0, none⟩ (.slice (some ⟨q, 0, none⟩) (R.length + 1) cq)).cell? ⟨rb, rof + I * 3, none⟩ = some (.string x) ∧ (vz.setCell ⟨ob, 0, none⟩ (.slice (some ⟨q, 0, none⟩) (R.length + 1) cq)).cell? ⟨rb, rof + I * 3 + 1, none⟩ = some (.int .i64 u) ∧ (vz.setCell ⟨ob, 0, none⟩ (.slice (some ⟨q, 0, none⟩) (R.length + 1) cq)).cell? ⟨rb, rof + I * 3 + 2, none⟩ = some (.int .i64 lv) := ⟨(World.cell?_of_block (a := ⟨rb, rof + I * 3, none⟩) (heap_setCell_other _ _ _ _ (show rb ≠ ob by omega))).trans E2.1, (World.cell?_of_block (a := ⟨rb, rof + I * 3 + 1, none⟩) (heap_setCell_other _ _ _ _ (show rb ≠ ob by omega))).trans E2.2.1, (World.cell?_of_block (a := ⟨rb, rof + I * 3 + 2, none⟩) (heap_setCell_other _ _ _ _ (show rb ≠ ob by omega))).trans E2.2.2⟩
                        refine hK.out _ _ E3 (fun _ => ?_)
                        clear hK K
                        refine wpAnyH_done (by kernel_rfl) ?_ _
                        go_simp
                        have N9 := Lib.hid (And.intro hN E3)
                        clear hN E3 E2 E1 E0 L0 L1 zr zc zf ho hB hgr hat gp hz0 hz1
                        generalize vz.setCell _ _ = wz10 at *
                        go_wp2_with fail
                        go_roundw
                        case rel => exact ⟨k, I + 1, _, _, _, _, _, _, by omega, by omega, by omega, by go_num, by go_num, HN.out.1, HN.out.2.1, N9.out.1⟩
                        case measure => (simp [intOf]; try omega)
                · have hdt : ts.drop k = [] := List.drop_eq_nil_of_le (by have := H.out.2.2.2.2.1; omega)
                  by_cases hIe : I = N
                  · subst hIe
                    have hdr : rs.drop I = [] := List.drop_eq_nil_of_le (by have := H.out.2.2.2.1; omega)
                    have hdr2 : rs.drop (I + 1) = [] := List.drop_eq_nil_of_le (by have := H.out.2.2.2.1; omega)
                    have hR3 : G1 = R ++ (Ix.mrg n (rs.drop (I + 1)) (ts.drop k)).1 := by rw [hR, hdr, hdr2]
                    have hP3 : G2 = P ++ (Ix.mrg n (rs.drop (I + 1)) (ts.drop k)).2 := by rw [hP, hdr, hdr2]
                    have HN := Lib.hid (And.intro hR3 (And.intro hP3 hW))
                    clear hR3 hP3 hR hP hW hdr hdr2 hdt
                    go_wp2_with fail
                    go_quiet (fail)
                    have LA := (HN.out.2.2).call (below_drewN (Below.refl _ _) nq)
                    have NA := Lib.hid LA
                    clear LA
                    generalize wr.drewN nq = wzA at *
                    go_wp2_with fail
                    go_quiet (fail)
                    have LA := NA.out.call (below_drewN (Below.refl _ _) nq)
                    have N8 := Lib.hid LA
                    clear LA
                    generalize wzA.drewN nq = wz9 at *
                    go_wp2_with fail
                    go_roundw
                    case rel => exact ⟨k, I + 1, _, _, _, _, _, _, by omega, by omega, by omega, by go_num, by go_num, HN.out.1, HN.out.2.1, N8.out⟩
                    case measure => (simp [intOf]; try omega)
                  · obtain ⟨r, hr⟩ : ∃ r, rs[I]? = some r := ⟨rs[I]'(by have := H.out.2.2.2.1; omega), List.getElem?_eq_getElem (by have := H.out.2.2.2.1; omega)⟩
                    obtain ⟨rb, rof, ha, hrb, x0, x1, x2⟩ := H.out.1 I r hr
                    obtain ⟨k1, k2, k3, k4, k5⟩ := H.out.2.2.1 r (List.mem_of_getElem? hr)
                    obtain ⟨x, u, lv⟩ := r
                    simp only at x0 x1 x2 k2 k3 k4 k5
                    clear k1
                    have e0 : wr.cell? ⟨rb, rof + I * 3, none⟩ = some (.string x) := (hW.below.cell (p := ⟨rb, rof + I * 3, none⟩) hrb).trans x0
                    have e1 : wr.cell? ⟨rb, rof + I * 3 + 1, none⟩ = some (.int .i64 u) := (hW.below.cell (p := ⟨rb, rof + I * 3 + 1, none⟩) hrb).trans x1
                    have e2 : wr.cell? ⟨rb, rof + I * 3 + 2, none⟩ = some (.int .i64 lv) := (hW.below.cell (p := ⟨rb, rof + I * 3 + 2, none⟩) hrb).trans x2
                    subst ha
                    clear x0 x1 x2
                    have hIq : ((I : Int) == (N : Int)) = false := by simp; omega
                    have hIlt : I < N := by omega
                    have hR3 : G1 = (R ++ [⟨x, u, lv⟩]) ++ (Ix.mrg n (rs.drop (I + 1)) (ts.drop k)).1 := by rw [hR, rdrop_at hr]; rw [hdt, Ix.mrg_nil, Ix.mrg_nil]; simp
                    have hP3 : G2 = P ++ (Ix.mrg n (rs.drop (I + 1)) (ts.drop k)).2 := by rw [hP, rdrop_at hr]; rw [hdt, Ix.mrg_nil, Ix.mrg_nil]
                    have HN := Lib.hid (And.intro hR3 (And.intro hP3 hW))
                    clear hR3 hP3 hR hP hW hr hdt k2 k3 k4 k5
                    go_wp2_with fail
                    go_quiet (fail)
                    have LA := (HN.out.2.2).call (below_drewN (Below.refl _ _) nq)
                    have e0 : (wr.drewN nq).cell? ⟨rb, rof + I * 3, none⟩ = some (.string x) := e0
                    have e1 : (wr.drewN nq).cell? ⟨rb, rof + I * 3 + 1, none⟩ = some (.int .i64 u) := e1
                    have e2 : (wr.drewN nq).cell? ⟨rb, rof + I * 3 + 2, none⟩ = some (.int .i64 lv) := e2
                    have NA := Lib.hid LA
                    clear LA
                    generalize wr.drewN nq = wzA at *
                    go_wp2_with fail
                    go_quiet (fail)
                    have LA := NA.out.call (below_drewN (Below.refl _ _) nq)
                    have e0 : (wzA.drewN nq).cell? ⟨rb, rof + I * 3, none⟩ = some (.string x) := e0
                    have e1 : (wzA.drewN nq).cell? ⟨rb, rof + I * 3 + 1, none⟩ = some (.int .i64 u) := e1
                    have e2 : (wzA.drewN nq).cell? ⟨rb, rof + I * 3 + 2, none⟩ = some (.int .i64 lv) := e2
                    have N8 := Lib.hid (And.intro LA (And.intro e0 (And.intro e1 e2)))
                    clear LA e0 e1 e2
                    generalize wzA.drewN nq = wz9 at *
                    go_wp2_with fail
                    refine wp_region_held (S := fun W : World => W.cell? ⟨rb, rof + I * 3, none⟩ = some (.string x) ∧ W.cell? ⟨rb, rof + I * 3 + 1, none⟩ = some (.int .i64 u) ∧ W.cell? ⟨rb, rof + I * 3 + 2, none⟩ = some (.int .i64 lv)) (by kernel_rfl) ?_
                    have E0 : wz9.drew.cell? ⟨rb, rof + I * 3, none⟩ = some (.string x) ∧ wz9.drew.cell? ⟨rb, rof + I * 3 + 1, none⟩ = some (.int .i64 u) ∧ wz9.drew.cell? ⟨rb, rof + I * 3 + 2, none⟩ = some (.int .i64 lv) := N8.out.2
                    have L0 := (N8.out.1).drew
                    change wpAnyH _ _ _ _ _ _ _ _ (World.drew _)
                    generalize World.drew _ = v0 at *
                    refine wpAnyH_take (i := 0) (v := ?_) rfl (by kernel_rfl) (by kernel_rfl) (by kernel_rfl) (fun _ _ _ h => h) (Or.inl ⟨by kernel_rfl, ?_⟩) E0 ?_
                    rotate_left
                    · (intro W hS; obtain ⟨g0, g1, g2⟩ := hS; go_simp; try (with_reducible rfl))
                    refine wpAnyH_take (i := 2) (v := ?_) rfl (by kernel_rfl) (by kernel_rfl) (by kernel_rfl) (fun _ _ _ h => h) (Or.inl ⟨by kernel_rfl, ?_⟩) E0 ?_
                    rotate_left
                    · (intro W hS; obtain ⟨g0, g1, g2⟩ := hS; go_simp; try (with_reducible rfl))
                    refine wpAnyH_take (i := 3) (v := ?_) rfl (by kernel_rfl) (by kernel_rfl) (by kernel_rfl) (fun _ _ _ h => h) (Or.inl ⟨by kernel_rfl, ?_⟩) E0 ?_
                    rotate_left
                    · (intro W hS; obtain ⟨g0, g1, g2⟩ := hS; go_simp; try (with_reducible rfl))
                    refine wpAnyH_take (i := 4) (v := ?_) rfl (by kernel_rfl) (by kernel_rfl) (by kernel_rfl) (fun _ _ _ h => h) (Or.inl ⟨by kernel_rfl, ?_⟩) E0 ?_
                    rotate_left
                    · (intro W hS; obtain ⟨g0, g1, g2⟩ := hS; go_simp; try (with_reducible rfl))
                    refine wpAnyH_take (i := 5) (v := ?_) rfl (by kernel_rfl) (by kernel_rfl) (by kernel_rfl) (fun _ _ _ h => h) (Or.inl ⟨by kernel_rfl, ?_⟩) E0 ?_
                    rotate_left
                    · (intro W hS; obtain ⟨g0, g1, g2⟩ := hS; go_simp; try (with_reducible rfl))
                    obtain ⟨v1, hv⟩ : ∃ v, v = v0.alloc (.cells (rwCs (⟨x, u, lv⟩ : Rw)) 47) := ⟨_, rfl⟩
                    have hb : Below v0.heap.size v0 v1 := by rw [hv]; exact (Below.refl _ _).alloc (Nat.le_refl _) _
                    have gp : v1.heap[v0.heap.size]? = some (.cells (rwCs (⟨x, u, lv⟩ : Rw)) 47 (0, 0)) := by rw [hv]; exact heap_alloc_new _ _
                    have hz0 := L0.size
                    have L1 := L0.call hb
                    have E1 : v1.cell? ⟨rb, rof + I * 3, none⟩ = some (.string x) ∧ v1.cell? ⟨rb, rof + I * 3 + 1, none⟩ = some (.int .i64 u) ∧ v1.cell? ⟨rb, rof + I * 3 + 2, none⟩ = some (.int .i64 lv) := ⟨(hb.cell (p := ⟨rb, rof + I * 3, none⟩) (show rb < v0.heap.size by omega)).trans E0.1, (hb.cell (p := ⟨rb, rof + I * 3 + 1, none⟩) (show rb < v0.heap.size by omega)).trans E0.2.1, (hb.cell (p := ⟨rb, rof + I * 3 + 2, none⟩) (show rb < v0.heap.size by omega)).trans E0.2.2⟩
                    have hz1 := L1.size
                    unfold rwCs at hv
                    clear hb
                    refine wpAnyH_ready (rs := [1, 6]) (by kernel_rfl) (by simp) ?_
                    refine AllReadyH.cons (i := 1) rfl (fun K hK => ?_) ?_
                    · have qs := L0.cells.1
                      go_simp
                      refine hK.out _ _ E0 (fun _ => ?_)
                      clear hK K qs
                      refine wpAnyH_ready (rs := [6]) (by kernel_rfl) (by simp) ?_
                      refine AllReadyH.cons (i := 6) rfl (fun K hK => ?_) AllReadyH.nil
                      go_simp
                      rw [← hv]
                      clear hv
                      refine hK.out _ _ E1 (fun _ => ?_)
                      clear hK K
                      refine wpAnyH_ready (rs := [7]) (by kernel_rfl) (by simp) ?_
                      refine AllReadyH.cons (i := 7) rfl (fun K hK => ?_) AllReadyH.nil
                      refine step_append_r rfl (.tmp 180) (.tmp 185) 26 rfl rrow_rec rwCs_one rwCs_size L1.own _ rfl (by kernel_rfl) _ 1 (⟨x, u, lv⟩ : Rw) (by kernel_rfl) gp (by omega) hz1 (Below.refl _ _) ?_
                      intro q cq vz ho hB hgr hat
                      have hN := L1.rows ho hB hgr hat
                      have E2 : vz.cell? ⟨rb, rof + I * 3, none⟩ = some (.string x) ∧ vz.cell? ⟨rb, rof + I * 3 + 1, none⟩ = some (.int .i64 u) ∧ vz.cell? ⟨rb, rof + I * 3 + 2, none⟩ = some (.int .i64 lv) := ⟨(hB.cell (p := ⟨rb, rof + I * 3, none⟩) (show rb < ob + 1 by omega)).trans E1.1, (hB.cell (p := ⟨rb, rof + I * 3 + 1, none⟩) (show rb < ob + 1 by omega)).trans E1.2.1, (hB.cell (p := ⟨rb, rof + I * 3 + 2, none⟩) (show rb < ob + 1 by omega)).trans E1.2.2⟩
                      have zr := (hB.block ob (Nat.lt_succ_self _)).trans L1.row
                      have zc : vz.cell? ⟨ob, 0, none⟩ = some (.slice a R.length ca) := by rw [cell_of_row _ _ _ _ _ _ zr]; rfl
                      have zf : vz.frozen? ⟨ob, 0, none⟩ = false := Lib.frozen_of_heap zr 0
                      refine hK.out _ _ E2 (fun _ => ?_)
                      clear hK K
                      refine wpAnyH_take (i := 8) (v := ?_) rfl (by kernel_rfl) (by kernel_rfl) (by kernel_rfl) (fun _ _ _ h => h) (Or.inl ⟨by kernel_rfl, ?_⟩) E2 ?_
                      rotate_left
                      · (intro W hS; obtain ⟨g0, g1, g2⟩ := hS; go_simp; try (with_reducible rfl))
                      refine wpAnyH_ready (rs := [9]) (by kernel_rfl) (by simp) ?_
                      refine AllReadyH.cons (i := 9) rfl (fun K hK => ?_) AllReadyH.nil
                      go_simp
                      have E3 : (vz.setCell ⟨ob, 0, none⟩ (.slice (some ⟨q, 0, none⟩) (R.length + 1) cq)).cell? ⟨rb, rof + I * 3, none⟩ = some (.string x) ∧ (vz.setCell ⟨ob, 0, none⟩ (.slice (some ⟨q, 0, none⟩) (R.length + 1) cq)).cell? ⟨rb, rof + I * 3 + 1, none⟩ = some (.int .i64 u) ∧ (vz.setCell ⟨ob, 0, none⟩ (.slice (some ⟨q, 0, none⟩) (R.length + 1) cq)).cell? ⟨rb, rof + I * 3 + 2, none⟩ = some (.int .i64 lv) := ⟨(World.cell?_of_block (a := ⟨rb, rof + I * 3, none⟩) (heap_setCell_other _ _ _ _ (show rb ≠ ob by omega))).trans E2.1, (World.cell?_of_block (a := ⟨rb, rof + I * 3 + 1, none⟩) (heap_setCell_other _ _ _ _ (show rb ≠ ob by omega))).trans E2.2.1, (World.cell?_of_block (a := ⟨rb, rof + I * 3 + 2, none⟩) (heap_setCell_other _ _ _ _ (show rb ≠ ob by omega))).trans E2.2.2⟩
                      refine hK.out _ _ E3 (fun _ => ?_)
                      clear hK K
                      refine wpAnyH_done (by kernel_rfl) ?_ _
                      go_simp
                      have N9 := Lib.hid (And.intro hN E3)
                      clear hN E3 E2 E1 E0 L0 L1 zr zc zf ho hB hgr hat gp hz0 hz1
                      generalize vz.setCell _ _ = wz10 at *
                      go_wp2_with fail
                      go_roundw
                      case rel => exact ⟨k, I + 1, _, _, _, _, _, _, by omega, by omega, by omega, by go_num, by go_num, HN.out.1, HN.out.2.1, N9.out.1⟩
                      case measure => (simp [intOf]; try omega)
                    refine AllReadyH.cons (i := 6) rfl (fun K hK => ?_) AllReadyH.nil
                    go_simp
                    rw [← hv]
                    clear hv
                    refine hK.out _ _ E1 (fun _ => ?_)
                    clear hK K
                    refine wpAnyH_ready (rs := [1]) (by kernel_rfl) (by simp) ?_
                    refine AllReadyH.cons (i := 1) rfl (fun K hK => ?_) AllReadyH.nil
                    have qs := L1.cells.1
                    go_simp
                    refine hK.out _ _ E1 (fun _ => ?_)
                    clear hK K qs
                    refine wpAnyH_ready (rs := [7]) (by kernel_rfl) (by simp) ?_
                    refine AllReadyH.cons (i := 7) rfl (fun K hK => ?_) AllReadyH.nil
                    refine step_append_r rfl (.tmp 180) (.tmp 185) 26 rfl rrow_rec rwCs_one rwCs_size L1.own _ rfl (by kernel_rfl) _ 1 (⟨x, u, lv⟩ : Rw) (by kernel_rfl) gp (by omega) hz1 (Below.refl _ _) ?_
                    intro q cq vz ho hB hgr hat
                    have hN := L1.rows ho hB hgr hat
                    have E2 : vz.cell? ⟨rb, rof + I * 3, none⟩ = some (.string x) ∧ vz.cell? ⟨rb, rof + I * 3 + 1, none⟩ = some (.int .i64 u) ∧ vz.cell? ⟨rb, rof + I * 3 + 2, none⟩ = some (.int .i64 lv) := ⟨(hB.cell (p := ⟨rb, rof + I * 3, none⟩) (show rb < ob + 1 by omega)).trans E1.1, (hB.cell (p := ⟨rb, rof + I * 3 + 1, none⟩) (show rb < ob + 1 by omega)).trans E1.2.1, (hB.cell (p := ⟨rb, rof + I * 3 + 2, none⟩) (show rb < ob + 1 by omega)).trans E1.2.2⟩
                    have zr := (hB.block ob (Nat.lt_succ_self _)).trans L1.row
                    have zc : vz.cell? ⟨ob, 0, none⟩ = some (.slice a R.length ca) := by rw [cell_of_row _ _ _ _ _ _ zr]; rfl
                    have zf : vz.frozen? ⟨ob, 0, none⟩ = false := Lib.frozen_of_heap zr 0
                    refine hK.out _ _ E2 (fun _ => ?_)
                    clear hK K
                    refine wpAnyH_take (i := 8) (v := ?_) rfl (by kernel_rfl) (by kernel_rfl) (by kernel_rfl) (fun _ _ _ h => h) (Or.inl ⟨by kernel_rfl, ?_⟩) E2 ?_
                    rotate_left
                    · (intro W hS; obtain ⟨g0, g1, g2⟩ := hS; go_simp; try (with_reducible rfl))
                    refine wpAnyH_ready (rs := [9]) (by kernel_rfl) (by simp) ?_
                    refine AllReadyH.cons (i := 9) rfl (fun K hK => ?_) AllReadyH.nil
                    go_simp
                    have E3 : (vz.setCell ⟨ob, 0, none⟩ (.slice (some ⟨q, 0, none⟩) (R.length + 1) cq)).cell? ⟨rb, rof + I * 3, none⟩ = some (.string x) ∧ (vz.setCell ⟨ob, 0, none⟩ (.slice (some ⟨q, 0, none⟩) (R.length + 1) cq)).cell? ⟨rb, rof + I * 3 + 1, none⟩ = some (.int .i64 u) ∧ (vz.setCell ⟨ob, 0, none⟩ (.slice (some ⟨q, 0, none⟩) (R.length + 1) cq)).cell? ⟨rb, rof + I * 3 + 2, none⟩ = some (.int .i64 lv) := ⟨(World.cell?_of_block (a := ⟨rb, rof + I * 3, none⟩) (heap_setCell_other _ _ _ _ (show rb ≠ ob by omega))).trans E2.1, (World.cell?_of_block (a := ⟨rb, rof + I * 3 + 1, none⟩) (heap_setCell_other _ _ _ _ (show rb ≠ ob by omega))).trans E2.2.1, (World.cell?_of_block (a := ⟨rb, rof + I * 3 + 2, none⟩) (heap_setCell_other _ _ _ _ (show rb ≠ ob by omega))).trans E2.2.2⟩
                    refine hK.out _ _ E3 (fun _ => ?_)
                    clear hK K
                    refine wpAnyH_done (by kernel_rfl) ?_ _
                    go_simp
                    have N9 := Lib.hid (And.intro hN E3)
                    clear hN E3 E2 E1 E0 L0 L1 zr zc zf ho hB hgr hat gp hz0 hz1
                    generalize vz.setCell _ _ = wz10 at *
                    go_wp2_with fail
                    go_roundw
                    case rel => exact ⟨k, I + 1, _, _, _, _, _, _, by omega, by omega, by omega, by go_num, by go_num, HN.out.1, HN.out.2.1, N9.out.1⟩
                    case measure => (simp [intOf]; try omega)
            · obtain rfl : I = N + 1 := by omega
              obtain rfl : M = K0 := by have := hKI rfl; omega
              have hdr : rs.drop (N + 1) = [] := List.drop_eq_nil_of_le (by have := H.out.2.2.2.1; omega)
              have hdt : ts.drop M = [] := List.drop_eq_nil_of_le (by have := H.out.2.2.2.2.1; omega)
              have hG1 : G1 = R0 := by rw [hR0, hdr, hdt, Ix.mrg_nil]; simp
              have hG2 : G2 = P0 := by rw [hP0, hdr, hdt, Ix.mrg_nil]; simp
              subst hG1 hG2
              clear hR0 hP0 hdr hdt
              obtain ⟨y0, y1, y2, -⟩ := hW0.cells
              obtain ⟨c0, c1, c2, f⟩ := wi0_cells hW0.res
              have hlo := hW0.lo
              have HW := Lib.hid hW0
              clear hW0
              by_cases hbig : 4096 < G1.length
              · have hbi : (4096 : Int) < (G1.length : Int) := by omega
                have HE := Lib.hid (show Z = ([], [], 6) by rw [HA.out.1, if_pos hbig])
                clear hbig
                go_wp2_with fail
                refine bodyPost_ret (v := .agg #[.slice none 0 0, .slice none 0 0, .int .i64 6]) (by simp [results, Tryz.results58, go_sem, c0, c1, c2]) rfl ?_
                exact adPost_err HE.out (put3 HW.out.below (Nat.le_refl _) _ _ _) _ rfl
              · have hbi : ¬ ((4096 : Int) < (G1.length : Int)) := by omega
                have HE := Lib.hid (show Z = (G1, G2, 0) by rw [HA.out.1, if_neg hbig])
                clear hbig
                go_wp2_with fail
                refine bodyPost_ret (v := .agg #[.slice a0r G1.length ca0, .slice p0 G2.length cp0, .int .i64 0]) (by simp [results, Tryz.results58, go_sem, c0, c1, c2]) rfl ?_
                exact ⟨a0r, ca0, p0, cp0, by rw [HE.out] <;> rfl, by rw [HE.out]; exact ((((HW.out.own.other (by omega) _).other (by omega) _).other (by omega) _).mono (by omega)), by rw [HE.out]; exact ((((HW.out.owp.other (by omega) _).other (by omega) _).other (by omega) _).mono (by omega)), put3 HW.out.below (Nat.le_refl _) _ _ _⟩
end Go.Proofs.YtdfkpjmljaanpaaGreatDoor
