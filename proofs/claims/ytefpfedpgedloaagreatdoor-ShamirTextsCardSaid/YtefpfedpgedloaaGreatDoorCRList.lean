/- The reader: list. -/
import Derived.Test.YtefpfedpgedloaaGreatDoorCItem
namespace Go.Proofs.YtefpfedpgedloaaGreatDoor
open Go.RowKit
open Cn

def listR (d p ow : Nat) (l : List UInt8) : Except Int (Pt × Nat × List UInt8) :=
  match count 1024 p ow l with
  | .error x => .error x
  | .ok (n, q, r) => match items (item d) n ow q r with
    | .error x => .error x
    | .ok (xs, q', r') => .ok (.mk 3 0 ⟨#[]⟩ xs, q', r')
/-- The contract of item. -/
def ReadsSo (d : Nat) : Prop := ∀ (s : ByteArray) (g p ow : Nat) (w : World), s.size ≤ maxLen → Rd s g p ow w → p + ow ≤ 65536 → p ≤ s.size →
  Calls Tryz.prog 68 #[.pointer (some ⟨g, 0, none⟩), .int .i64 (6 - d)] w (ItPost s g ow w (item d ow p (s.data.toList.drop p)))
theorem item_err : ∀ d ow p l x, item d ow p l = .error x → x ≠ 0
  | d, ow, p, [], x, h => by cases d <;> simp [item] at h <;> omega
  | d, ow, p, c :: l, x, h => by
    have hits : ∀ d, (∀ ow p l x, item d ow p l = .error x → x ≠ 0) → ∀ n ow p l x, items (item d) n ow p l = .error x → x ≠ 0 := by
      intro d hd n
      induction n with
      | zero => intro ow p l x h; simp [items] at h
      | succ n ih =>
        intro ow p l x h
        rw [items] at h
        cases h1 : item d (ow + n) p l with
        | error y => rw [h1] at h; simp at h; subst h; exact hd _ _ _ _ h1
        | ok y =>
          obtain ⟨a, b, c⟩ := y
          rw [h1] at h
          simp only at h
          cases h2 : items (item d) n ow b c with
          | error y => rw [h2] at h; simp at h; subst h; exact ih _ _ _ _ h2
          | ok y => obtain ⟨a, b, c⟩ := y; rw [h2] at h; simp at h
    rw [item.eq_def] at h
    by_cases hd : c.toNat = 9 ∧ d = 0
    · simp [hd] at h; omega
    · simp only [if_neg hd] at h
      by_cases hroom : 9 < c.toNat ∨ 65536 < p + 1 + (if c.toNat < 8 then c.toNat else 1) + ow
      · simp [if_pos hroom] at h; omega
      · simp only [if_neg hroom] at h
        by_cases hc8 : c.toNat < 8
        · simp only [if_pos hc8] at h
          cases hdig : digits c.toNat true 0 l with
          | error e => rw [hdig] at h; simp at h; subst h; exact digits_err _ _ _ _ _ hdig
          | ok nr => obtain ⟨n, r⟩ := nr; rw [hdig] at h; simp at h
        · simp only [if_neg hc8] at h
          by_cases hceq : c.toNat = 8
          · simp only [if_pos hceq] at h
            cases hcnt : count 65536 (p + 1) ow l with
            | error e => rw [hcnt] at h; simp at h; subst h; exact count_err hcnt
            | ok nr =>
              obtain ⟨n, q, r⟩ := nr
              rw [hcnt] at h
              simp only at h
              by_cases hl : r.length < n
              · simp [hl] at h; omega
              · simp [hl] at h
          · simp only [if_neg hceq] at h
            match d, hd, h with
            | 0, hd, h => simp at h; omega
            | d + 1, hd, h =>
              simp only at h
              cases hcnt : count 1024 (p + 1) ow l with
              | error e => rw [hcnt] at h; simp at h; subst h; exact count_err hcnt
              | ok nr =>
                obtain ⟨n, q, r⟩ := nr
                rw [hcnt] at h
                simp only at h
                cases hi : items (item d) n ow q r with
                | error e => rw [hi] at h; simp at h; subst h; exact hits d (item_err d) _ _ _ _ _ hi
                | ok nr => obtain ⟨a, b, c⟩ := nr; rw [hi] at h; simp at h
/-- The list is whole. -/
theorem list_end {s : ByteArray} {g ow n d q0 : Nat} {w : World} {xs : List It} {a : Option Addr} {cap q : Nat} {wr : World} (h : Listing s g ow n d q0 w n xs a cap q wr) (hgl : g < w.heap.size) (hn : n ≤ 1024) :
    ItPost s g ow w (match items (item d) n ow q0 (s.data.toList.drop q0) with | .error x => .error x | .ok (xs, q', r') => .ok (.mk 3 0 ⟨#[]⟩ xs, q', r')) (.returned (.tuple #[.agg #[.int .i64 3, .int .i64 0, .string ⟨#[]⟩, .slice a n cap], .int .i64 0])) (wr.setCells w.heap.size 0 [.int .i64 3, .int .i64 0, .string ⟨#[]⟩, .slice a n cap]) := by
  have hob := ownBlock_lt h
  have hk : KeptS (fun b => w.heap.size < b ∧ (Value.slice a n cap).ownBlock ≠ some b) (w.heap.size ≤ ·) wr (wr.setCells w.heap.size 0 [.int .i64 3, .int .i64 0, .string ⟨#[]⟩, .slice a n cap]) :=
    ⟨fun b hb _ => ⟨by have := hb.1; omega, c_heap_setCells_other _ _ (by have := hb.1; omega) _ _ _⟩, by rw [c_size_setCells]; exact Nat.le_refl _⟩
  refine ⟨h.kept.setCells w.heap.size (Nat.le_refl _) hgl _ 0, ?_⟩
  rw [h.rest, Nat.sub_self]
  simp only [items, comb, List.append_nil]
  refine ⟨.mk 3 0 ⟨#[]⟩ a cap xs, rfl, by simp only [It.val, It.cells, It.k, It.n, It.s, It.a, It.l, It.cap, h.len], ?_, ?_, h.place.1, trivial⟩
  · refine ⟨Nat.zero_le _, ⟨by have := h.len; have := h.place.2; unfold maxLen; omega, fun hne => ?_⟩, It.InAll.kept hk _ h.all⟩
    rcases h.own.2 with ⟨_, h0⟩ | ⟨g1, cap1, cur, hv, hb, hg, hnc, hcm, hcs, htk⟩
    · exact absurd (List.eq_nil_of_length_eq_zero (by have := h.len; omega)) hne
    · injection hv with e1 e2 e3
      subst e1
      refine ⟨g1, 0, rfl, by rw [c_size_setCells]; exact lt_of_heap hg, by show w.heap.size ≤ g1; omega, ?_⟩
      have hsame : (wr.setCells w.heap.size 0 [.int .i64 3, .int .i64 0, .string ⟨#[]⟩, .slice (some ⟨g1, 0, none⟩) n cap]).heap[g1]? = wr.heap[g1]? := c_heap_setCells_other _ _ (by omega) _ _ _
      refine RowAt.same (w := wr) (fun j x hx => ?_) hsame
      have hc : ∀ m u, m < 4 → x.cells[m]? = some u → wr.cell? ⟨g1, 0 + j * 4 + m, none⟩ = some u := fun m u hm hu => by
        have := h.own.cells (g := g1) rfl (j * 4 + m) u (by rw [flat_get xs j x m hx hm]; exact hu)
        rw [Nat.zero_add]
        rwa [show (⟨g1, 0, none⟩ : Addr).add (j * 4 + m) = ⟨g1, j * 4 + m, none⟩ by unfold Addr.add; split <;> simp_all] at this
      exact ⟨hc 0 _ (by decide) rfl, hc 1 _ (by decide) rfl, hc 2 _ (by decide) rfl, hc 3 _ (by decide) rfl⟩
  · have := h.rd.setCells w.heap.size hgl [.int .i64 3, .int .i64 0, .string ⟨#[]⟩, .slice a n cap] 0
    rwa [Nat.sub_self, Nat.add_zero] at this
set_option maxRecDepth 100000 in
set_option maxHeartbeats 800000 in
theorem rdList_any (d : Nat) (hd6 : d ≤ 6) (ih : ReadsSo d) (a : Int) (ha : a + 1 = 6 - (d : Int)) (s : ByteArray) (hsz : s.size ≤ maxLen) (g p ow : Nat) (w : World) (h : Rd s g p ow w) (hp : p ≤ 65537) (hps : p ≤ s.size) (ho : ow ≤ 65536) :
    Calls Tryz.prog 84 #[.pointer (some ⟨g, 0, none⟩), .int .i64 a] w (ItPost s g ow w (listR d p ow (s.data.toList.drop p))) := by
  obtain ⟨R, hR⟩ : ∃ R, R = listR d p ow (s.data.toList.drop p) := ⟨_, rfl⟩
  rw [← hR]
  have hglt := h.lt
  have hcnt := fun w' (hr : Rd s g p ow w') => count_any s g p ow 1024 w' hr (by omega) hps (by omega)
  have ih' := fun g p ow w => ih s g p ow w hsz
  rw [← ha] at ih'
  have HR := Lib.hid (And.intro hR (And.intro h (And.intro hcnt ih')))
  have ha5 : a ≤ 6 := by omega
  have ha0 : -9223372036854775808 ≤ a := by have := hd6; omega
  clear hR h hcnt ih ih' ha
  go_enter Tryz.func84, Tryz.ntmps84
  go_wp2_with fail
  have hrow1 : (w.alloc (.cells #[.int .i64 0, .int .i64 0, .string ⟨#[]⟩, .slice none 0 0] 60)).heap[w.heap.size]? = some (.cells #[.int .i64 0, .int .i64 0, .string ⟨#[]⟩, .slice none 0 0] 60 (0, 0)) := heap_alloc_new _ _
  have hrd1 : Rd s g p ow (w.alloc (.cells #[.int .i64 0, .int .i64 0, .string ⟨#[]⟩, .slice none 0 0] 60)) := (Lib.alloc_old _ _ _ hglt).trans HR.out.2.1
  have hk1 : RdKept g w (w.alloc (.cells #[.int .i64 0, .int .i64 0, .string ⟨#[]⟩, .slice none 0 0] 60)) := (RdKept.refl g w).alloc hglt _
  have hs1 : w.heap.size < (w.alloc (.cells #[.int .i64 0, .int .i64 0, .string ⟨#[]⟩, .slice none 0 0] 60)).heap.size := by simp
  generalize World.alloc w _ = w1 at *
  have H1 := Lib.hid (And.intro hrow1 (And.intro hrd1 hk1))
  clear hrow1 hrd1 hk1
  refine (HR.out.2.2.1 _ H1.out.2.1).mono ?_
  rintro e w2 ⟨hk2, hres⟩
  have hrow2 : w2.heap[w.heap.size]? = some (.cells #[.int .i64 0, .int .i64 0, .string ⟨#[]⟩, .slice none 0 0] 60 (0, 0)) := (hk2.2 _ hs1 (by omega)).trans H1.out.1
  have H2 := Lib.hid (And.intro (H1.out.2.2.trans hk2) hrow2)
  have hs2 : w1.heap.size ≤ w2.heap.size := hk2.size
  clear hk2
  cases hd : count 1024 p ow (s.data.toList.drop p) with
  | error x =>
    have q0 : w2.cell? ⟨w.heap.size, 0, none⟩ = some (.int .i64 0) := by rw [Lib.cell_of_heap hrow2]; rfl
    have q1 : w2.cell? ⟨w.heap.size, 1, none⟩ = some (.int .i64 0) := by rw [Lib.cell_of_heap hrow2]; rfl
    have q2 : w2.cell? ⟨w.heap.size, 2, none⟩ = some (.string ⟨#[]⟩) := by rw [Lib.cell_of_heap hrow2]; rfl
    have q3 : w2.cell? ⟨w.heap.size, 3, none⟩ = some (.slice none 0 0) := by rw [Lib.cell_of_heap hrow2]; rfl
    have f : ∀ j, w2.frozen? ⟨w.heap.size, j, none⟩ = false := fun j => Lib.frozen_of_heap hrow2 j
    rw [countAt, hd] at hres
    obtain ⟨hx0, rfl⟩ := hres
    have hx : (x == 0) = false := by simpa using hx0
    have HX := Lib.hid (And.intro hd hx0)
    clear hd hx0 hrow2
    go_wp2_with fail
    refine bodyPost_ret (v := .tuple #[zeroIt, .int .i64 x]) (by simp [results, Tryz.results84, go_sem, q0, q1, q2, q3, zeroIt]) rfl ?_
    refine ⟨H2.out.1.setCells w.heap.size (Nat.le_refl _) hglt [.int .i64 0, .int .i64 0, .string ⟨#[]⟩, .slice none 0 0] 0, ?_⟩
    rw [HR.out.1, listR, HX.out.1]
    exact ⟨HX.out.2, rfl⟩
  | ok nr =>
    obtain ⟨n, q, r⟩ := nr
    rw [countAt, hd] at hres
    obtain ⟨rfl, hrd, hq⟩ := hres
    obtain ⟨hdr, hroom, hn⟩ := count_rest hd
    have hni : (n : Int) ≤ 1024 := by omega
    have hoi : (ow : Int) ≤ 65536 := by omega
    have c2 := hrd.c2
    have f2 := hrd.f 2
    have hRR : R = match items (item d) n ow q (s.data.toList.drop q) with | .error x => .error x | .ok (xs, q', r') => .ok (.mk 3 0 ⟨#[]⟩ xs, q', r') := by
      rw [HR.out.1, listR, hd, ← hdr]
    have HX := Lib.hid (And.intro hRR hrd)
    clear hd hrd hdr hRR hrow2
    go_wp2_with fail
    have hR3 : Rd s g q (ow + n) (w2.setCell ⟨g, 2, none⟩ (.int .i64 ((ow : Int) + n))) := HX.out.2.ow_set (ow + n)
    have hK3 := H2.out.1.setCell 2 (.int .i64 ((ow : Int) + n))
    have hrow3 : (w2.setCell ⟨g, 2, none⟩ (.int .i64 ((ow : Int) + n))).heap[w.heap.size]? = some (.cells #[.int .i64 0, .int .i64 0, .string ⟨#[]⟩, .slice none 0 0] 60 (0, 0)) := by
      rw [heap_setCell_other _ _ _ _ (by show w.heap.size ≠ g; omega)]; exact H2.out.2
    generalize World.setCell _ _ _ = w3 at *
    have HL := Lib.hid (Listing.start (d := d) hR3 hK3 hq hroom hrow3)
    clear hR3 hK3 hrow3 c2 f2
    go_loopw [8, 29] (fun lv iv wr => ∃ (i : Nat) (xs : List It) (a' : Option Addr) (cap q' : Nat), i ≤ n ∧ iv = .int .i64 i ∧ lv = .slice a' i cap ∧ Listing s g ow n d q w i xs a' cap q' wr) (fun _ iv _ => n - (intOf iv).toNat)
    case atStart => exact ⟨0, [], none, 0, q, by omega, rfl, rfl, HL.out⟩
    case round =>
      clear HL
      obtain ⟨i, xs, a', cap, q', hi, rfl, rfl, hL⟩ := hrel
      have HL := Lib.hid hL
      by_cases hlt : i < n
      · have c2 := hL.rd.c2
        have f2 := hL.rd.f 2
        have hcast : (ow : Int) + ((n - i : Nat) : Int) - 1 = ((ow + (n - i - 1) : Nat) : Int) := by omega
        have hRA : Rd s g q' (ow + (n - i - 1)) (wr.setCell ⟨g, 2, none⟩ (.int .i64 ((ow : Int) + ((n - i : Nat) : Int) - 1))) := by rw [hcast]; exact hL.rd.ow_set _
        have hKA : RdKept g wr (wr.setCell ⟨g, 2, none⟩ (.int .i64 ((ow : Int) + ((n - i : Nat) : Int) - 1))) := (RdKept.refl g wr).setCell 2 _
        have hsA : (wr.setCell ⟨g, 2, none⟩ (.int .i64 ((ow : Int) + ((n - i : Nat) : Int) - 1))).heap.size = wr.heap.size := by simp [World.setCell]
        have HA0 := Lib.hid (And.intro hcast (And.intro hRA (And.intro hKA hsA)))
        clear hL hcast hRA hKA hsA
        go_wp2_with fail
        have HA := Lib.hid HA0.out.2
        clear HA0 c2 f2
        generalize World.setCell _ _ _ = wA at *
        refine (HR.out.2.2.2 g q' (ow + (n - i - 1)) wA HA.out.1 (by have := HL.out.place; omega) HL.out.place.1).mono ?_
        rintro e w4 ⟨hk4, hres4⟩
        cases hx : item d (ow + (n - i - 1)) q' (s.data.toList.drop q') with
        | error x =>
          rw [hx] at hres4
          obtain ⟨hx0, rfl⟩ := hres4
          have hxe : (x == 0) = false := by simpa using hx0
          have hrow : w4.heap[w.heap.size]? = some (.cells #[.int .i64 0, .int .i64 0, .string ⟨#[]⟩, .slice none 0 0] 60 (0, 0)) := by
            rw [hk4.2 _ (by have := lt_of_heap HL.out.res; have := HA.out.2.2; omega) (by omega), HA.out.2.1.2 _ (lt_of_heap HL.out.res) (by omega)]; exact HL.out.res
          have q0 : w4.cell? ⟨w.heap.size, 0, none⟩ = some (.int .i64 0) := by rw [Lib.cell_of_heap hrow]; rfl
          have q1 : w4.cell? ⟨w.heap.size, 1, none⟩ = some (.int .i64 0) := by rw [Lib.cell_of_heap hrow]; rfl
          have q2 : w4.cell? ⟨w.heap.size, 2, none⟩ = some (.string ⟨#[]⟩) := by rw [Lib.cell_of_heap hrow]; rfl
          have q3 : w4.cell? ⟨w.heap.size, 3, none⟩ = some (.slice none 0 0) := by rw [Lib.cell_of_heap hrow]; rfl
          have f : ∀ j, w4.frozen? ⟨w.heap.size, j, none⟩ = false := fun j => Lib.frozen_of_heap hrow j
          have hsz4 : w.heap.size < w4.heap.size := lt_of_heap hrow
          have HE := Lib.hid (And.intro hx (And.intro hx0 ((HL.out.kept.trans HA.out.2.1).trans hk4)))
          clear hx hx0 hk4 hrow
          simp only [zeroIt]
          go_wp2_with fail
          refine bodyPost_ret (v := .tuple #[zeroIt, .int .i64 x]) (by simp [results, Tryz.results84, go_sem, q0, q1, q2, q3, zeroIt, hsz4]) rfl ?_
          refine ⟨(HE.out.2.2.setCells w.heap.size (Nat.le_refl _) hglt [.int .i64 0, .int .i64 0, .string ⟨#[]⟩, .slice none 0 0] 0).alloc hglt _, ?_⟩
          rw [HX.out.1, HL.out.rest, show n - i = n - i - 1 + 1 by omega, comb_err HE.out.1]
          exact ⟨HE.out.2.1, rfl⟩
        | ok y =>
          obtain ⟨x, q4, r4⟩ := y
          rw [hx] at hres4
          obtain ⟨it, rfl, rfl, hIn, hRd4, hq4, rfl⟩ := hres4
          have hgr4 := hk4.by
          have hown4 := (HL.out.own.kept (HA.out.2.1.by) (by right; intro e; have := ownBlock_lt HL.out g e; omega)).kept hgr4 (by right; intro e; have := ownBlock_lt HL.out g e; omega)
          have hsz4 : w.heap.size < w4.heap.size := by have := lt_of_heap HL.out.res; have := HA.out.2.2; have := hk4.size; omega
          obtain ⟨i0, hi0, hz0⟩ := Option.map_eq_some_iff.1 info24
          simp only [Prod.mk.injEq] at hz0
          have HT := Lib.hid (And.intro hx (And.intro hk4 (And.intro hIn (And.intro hRd4 (And.intro hq4 (And.intro hown4 (And.intro hi0 hz0)))))))
          clear hx hk4 hIn hRd4 hq4 hgr4 hown4 hi0 hz0
          obtain ⟨xk, xn, xs', xa, xc, xl⟩ := it
          simp only [It.val, It.cells, It.k, It.n, It.s, It.a, It.cap, It.l]
          go_wp2_with (at_builtin; refine wpList_append_lies _ rfl _ _ 58 rfl (w.heap.size + 1) 60 i0 (.agg #[.int .i64 0, .int .i64 0, .string ⟨#[]⟩, .slice none 0 0]) 4 56 Tryz.underlying58 HT.out.2.2.2.2.2.2.1 HT.out.2.2.2.2.2.2.2.1 HT.out.2.2.2.2.2.2.2.2.1 HT.out.2.2.2.2.2.2.2.2.2 rfl (by decide) _ i _ rfl ((HT.out.2.2.2.2.2.1.alloc _).alloc _) ⟨w4.heap.size + 1, 0, none⟩ 1 1 [.int .i64 xk, .int .i64 xn, .string xs', .slice xa xl.length xc] rfl rfl ?c1 ?c2 (by decide) ?c3 ?c4 ?c5 _ rfl ?_)
          case c1 =>
            intro j u hj
            match j, hj with
            | 0, hj => simp at hj; subst hj; simp [Addr.add]
            | 1, hj => simp at hj; subst hj; simp [Addr.add]
            | 2, hj => simp at hj; subst hj; simp [Addr.add]
            | 3, hj => simp at hj; subst hj; simp [Addr.add]
            | j + 4, hj => simp at hj
          case c2 => intro u hu; simp at hu; rcases hu with rfl | rfl | rfl | rfl <;> rfl
          case c3 => unfold maxLen; omega
          case c4 => omega
          case c5 => simp; omega
          intro g1 cap1 w6 hown6 hgr6 hat6 hlt6
          have hnext := Listing.next HL.out hglt hlt HA.out.2.1 HA.out.2.2 HT.out.1 HT.out.2.1 HT.out.2.2.1 HT.out.2.2.2.1 HT.out.2.2.2.2.1 hown6 hgr6 (by simpa using hat6)
          have HN := Lib.hid hnext
          clear hnext hown6 hgr6 hat6 hlt6
          go_wp2_with fail
          go_roundw
          case rel => exact ⟨i + 1, _, _, _, _, by omega, by go_num, rfl, HN.out⟩
          case measure => simp [intOf]; omega
      · obtain rfl : i = n := by omega
        have hrow := hL.res
        have q0 : wr.cell? ⟨w.heap.size, 0, none⟩ = some (.int .i64 0) := by rw [Lib.cell_of_heap hrow]; rfl
        have q1 : wr.cell? ⟨w.heap.size, 1, none⟩ = some (.int .i64 0) := by rw [Lib.cell_of_heap hrow]; rfl
        have q2 : wr.cell? ⟨w.heap.size, 2, none⟩ = some (.string ⟨#[]⟩) := by rw [Lib.cell_of_heap hrow]; rfl
        have q3 : wr.cell? ⟨w.heap.size, 3, none⟩ = some (.slice none 0 0) := by rw [Lib.cell_of_heap hrow]; rfl
        have f : ∀ j, wr.frozen? ⟨w.heap.size, j, none⟩ = false := fun j => Lib.frozen_of_heap hrow j
        clear hL hrow
        go_wp2_with fail
        refine bodyPost_ret (v := .tuple #[.agg #[.int .i64 3, .int .i64 0, .string ⟨#[]⟩, .slice a' i cap], .int .i64 0]) (by simp [results, Tryz.results84, go_sem, q0, q1, q2, q3]) rfl ?_
        exact HX.out.1 ▸ list_end HL.out hglt hn
end Go.Proofs.YtefpfedpgedloaaGreatDoor
