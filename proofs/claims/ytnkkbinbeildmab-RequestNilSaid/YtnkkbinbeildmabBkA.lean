/- request's small functions: New, all, get, find, at, State, Approve's ways. -/
import Derived.Test.YtnkkbinbeildmabPyB
import Derived.Test.YtnkkbinbeildmabBkMem
namespace Go.Proofs.Ytnkkbinbeildmab
open Go.RowKit
/-- Where a book's entries lie, cell by cell. -/
theorem BkAt.open {B b : Nat} {w : World} {R : Option Nat} {l : List En} (h : BkAt B w b R l) :
    ∃ ad cap, w.cell? ⟨b, 0, none⟩ = some (.slice ad l.length cap) ∧ RecsAt 6 enCs w ad l ∧ b < w.heap.size ∧ l.length ≤ 9223372036854775807 := by
  have hlt := h.lt
  obtain ⟨-, ad, cap, h1, h2, -⟩ := h
  refine ⟨ad, cap, by simp [World.cell?, h1], h2.recs en_size, hlt, ?_⟩
  have := h2.capy
  unfold maxLen at this
  omega
set_option maxRecDepth 100000 in
theorem ball_any {b : Nat} {w : World} {ad : Option Addr} {n cap : Nat} (h : w.cell? ⟨b, 0, none⟩ = some (.slice ad n cap)) :
    Calls Try.prog 23 #[.pointer (some ⟨b, 0, none⟩)] w fun e w' => e = .returned (.slice ad n cap) ∧ w' = w := by
  go_enter Try.func23, Try.ntmps23
  go_wp2_with fail
  go_ret
  exact ⟨rfl, rfl⟩
set_option maxRecDepth 100000 in
theorem bat_any (x : En) (now : Int) (w : World) : Calls Try.prog 22 #[enVal x, .int .i64 now] w fun e w' => e = .returned (.int .i64 (Bk.atI x now)) ∧ Below w.heap.size w w' := by
  unfold enVal
  obtain ⟨R, hR⟩ : ∃ R, R = Bk.atI x now := ⟨_, rfl⟩
  rw [← hR]
  unfold Bk.atI at hR
  by_cases h1 : x.st = 1
  · have g1 : (x.st == 1) = true := by simpa using h1
    by_cases h3 : x.q.exp < now
    · rw [if_pos ⟨.inl h1, h3⟩] at hR
      clear h1
      subst hR
      go_enter Try.func22, Try.ntmps22
      go_wp2_with fail
      go_ret
      exact ⟨rfl, (Below.refl _ _).alloc (Nat.le_refl _) _⟩
    · rw [if_neg (fun e => h3 e.2)] at hR
      have HR := Lib.hid hR
      clear h1 hR
      go_enter Try.func22, Try.ntmps22
      go_wp2_with fail
      go_ret
      exact ⟨by rw [HR.out]; rfl, (Below.refl _ _).alloc (Nat.le_refl _) _⟩
  · have g1 : (x.st == 1) = false := by simpa using h1
    by_cases h2 : x.st = 2
    · have g2 : (x.st == 2) = true := by simpa using h2
      by_cases h3 : x.q.exp < now
      · rw [if_pos ⟨.inr h2, h3⟩] at hR
        clear h1 h2
        subst hR
        go_enter Try.func22, Try.ntmps22
        go_wp2_with fail
        go_ret
        exact ⟨rfl, (Below.refl _ _).alloc (Nat.le_refl _) _⟩
      · rw [if_neg (fun e => h3 e.2)] at hR
        have HR := Lib.hid hR
        clear h1 h2 hR
        go_enter Try.func22, Try.ntmps22
        go_wp2_with fail
        go_ret
        exact ⟨by rw [HR.out]; rfl, (Below.refl _ _).alloc (Nat.le_refl _) _⟩
    · have g2 : (x.st == 2) = false := by simpa using h2
      rw [if_neg (fun e => by rcases e.1 with e | e; exact h1 e; exact h2 e)] at hR
      have HR := Lib.hid hR
      clear h1 h2 hR
      go_enter Try.func22, Try.ntmps22
      go_wp2_with fail
      go_ret
      exact ⟨by rw [HR.out]; rfl, (Below.refl _ _).alloc (Nat.le_refl _) _⟩
set_option maxRecDepth 100000 in
theorem bid_any (x : En) (id : Int) (k : Nat) (w : World) (hk : w.cell? ⟨k, 0, none⟩ = some (.int .i64 id)) (hlt : k < w.heap.size) : Calls Try.prog 29 #[enVal x, .pointer (some ⟨k, 0, none⟩)] w fun e w' => e = .returned (.bool (decide (x.q.id = id))) ∧ Below w.heap.size w w' := by
  unfold enVal
  obtain ⟨w1, hw1⟩ : ∃ w1, w1 = w.alloc (.cells (enCs x) 47) := ⟨_, rfl⟩
  have hb1 := box_below hw1
  have c0 : w1.cell? ⟨w.heap.size, 0, none⟩ = some (.int .i64 x.q.id) := by rw [hw1]; exact cell_lit (heap_alloc_new _ _) 0
  have c1 : w1.cell? ⟨k, 0, none⟩ = some (.int .i64 id) := (hb1.cell (p := ⟨k, 0, none⟩) hlt).trans hk
  have HB := Lib.hid hb1
  clear hb1 hk
  unfold enCs at hw1
  by_cases h : x.q.id = id
  · rw [decide_eq_true h]
    have g : (x.q.id == id) = true := by simpa using h
    clear h
    go_enter Try.func29, Try.ntmps29
    go_upto_region 1 with fail
    rw [← hw1]
    clear hw1
    go_wp2_with fail
    go_ret
    exact ⟨rfl, HB.out⟩
  · rw [decide_eq_false h]
    have g : (x.q.id == id) = false := by simpa using h
    clear h
    go_enter Try.func29, Try.ntmps29
    go_upto_region 1 with fail
    rw [← hw1]
    clear hw1
    go_wp2_with fail
    go_ret
    exact ⟨rfl, HB.out⟩
/-- The place of the first that has the ID; -1: none. -/
def bIdx (l : List En) (id : Int) : Int := if Bk.findN l id < l.length then (Bk.findN l id : Nat) else -1
set_option maxRecDepth 100000 in
set_option maxHeartbeats 1000000 in
theorem bidx_any (l : List En) (a0 : Option Addr) (cap : Nat) (id : Int) (k : Nat) (w : World) (hT : RecsAt 6 enCs w a0 l) (hm : l.length ≤ 9223372036854775807) (hk : w.cell? ⟨k, 0, none⟩ = some (.int .i64 id)) (hlt : k < w.heap.size) :
    Calls Try.prog 28 #[.slice a0 l.length cap, .func (Fn.func 29) #[] #[.pointer (some ⟨k, 0, none⟩)]] w fun e w' => e = .returned (.int .i64 (bIdx l id)) ∧ Below w.heap.size w w' := by
  obtain ⟨n, hn⟩ : ∃ n, n = l.length := ⟨_, rfl⟩
  obtain ⟨R, hR⟩ : ∃ R, R = bIdx l id := ⟨_, rfl⟩
  rw [← hR]
  have HT := Lib.hid (And.intro hT (And.intro hn (And.intro hR (And.intro hk hlt))))
  rw [← hn] at hm ⊢
  clear hT hn hR hk hlt
  go_enter Try.func28, Try.ntmps28
  go_wp2_with fail
  go_loopw [5, 8] (fun _ c wr => ∃ i : Nat, i ≤ n ∧ c = .int .i64 i ∧ Below w.heap.size w wr ∧ ∀ j, j < i → ∀ y, l[j]? = some y → decide (y.q.id = id) = false) (fun _ c _ => n - (intOf c).toNat)
  case atStart => exact ⟨0, by omega, rfl, Below.refl _ _, fun j hj => absurd hj (by omega)⟩
  case round =>
    obtain ⟨i, hi, rfl, hb, hall⟩ := hrel
    by_cases hlt : i < n
    · obtain ⟨x, hx⟩ : ∃ x, l[i]? = some x := ⟨_, List.getElem?_eq_getElem (by have := HT.out.2.1; omega)⟩
      obtain ⟨b, off, rfl, hbl, hc⟩ := HT.out.1.below hb i x hx
      have q0 : wr.cell? ⟨b, off + i * 6 + 0, none⟩ = some (.int .i64 x.q.id) := hc 0 (by omega)
      have q1 : wr.cell? ⟨b, off + i * 6 + 1, none⟩ = some (.string x.q.who) := hc 1 (by omega)
      have q2 : wr.cell? ⟨b, off + i * 6 + 2, none⟩ = some (.int .i64 x.q.entry) := hc 2 (by omega)
      have q3 : wr.cell? ⟨b, off + i * 6 + 3, none⟩ = some (.string x.q.reason) := hc 3 (by omega)
      have q4 : wr.cell? ⟨b, off + i * 6 + 4, none⟩ = some (.int .i64 x.q.exp) := hc 4 (by omega)
      have q5 : wr.cell? ⟨b, off + i * 6 + 5, none⟩ = some (.int .i64 x.st) := hc 5 (by omega)
      simp only [Nat.add_zero] at q0
      have hcall := bid_any x id k wr ((hb.cell (p := ⟨k, 0, none⟩) HT.out.2.2.2.2).trans HT.out.2.2.2.1) (Nat.lt_of_lt_of_le HT.out.2.2.2.2 hb.size)
      unfold enVal at hcall
      cases hd : decide (x.q.id = id) with
      | false =>
        have hall' : ∀ j, j < i + 1 → ∀ y, l[j]? = some y → decide (y.q.id = id) = false := fun j hj y hy => by
          by_cases e : j = i
          · subst e; rw [hx] at hy; injection hy with hy; subst hy; exact hd
          · exact hall j (by omega) y hy
        rw [hd] at hcall
        have HM := Lib.hid (And.intro hcall (And.intro hb hall'))
        clear hcall hb hall hall' hd hc
        go_wp2_with fail
        refine HM.out.1.mono ?_
        rintro e w1 ⟨rfl, hb1⟩
        go_wp2_with fail
        go_roundw
        case rel => exact ⟨i + 1, by omega, by go_num, HM.out.2.1.trans (hb1.mono HM.out.2.1.size), HM.out.2.2⟩
        case measure => simp [intOf]; omega
      | true =>
        have hf : R = (i : Int) := by
          rw [HT.out.2.2.1]; unfold bIdx
          have : Bk.findN l id = i := Py.first_is hall hx hd
          rw [this, if_pos (by have := HT.out.2.1; omega)]
        rw [hd] at hcall
        have HM := Lib.hid (And.intro hcall (And.intro hb hf))
        clear hcall hb hall hd hc
        go_wp2_with fail
        refine HM.out.1.mono ?_
        rintro e w1 ⟨rfl, hb1⟩
        go_wp2_with fail
        go_ret
        exact ⟨by rw [HM.out.2.2]; rfl, HM.out.2.1.trans (hb1.mono HM.out.2.1.size)⟩
    · have hf : R = -1 := by
        rw [HT.out.2.2.1]; unfold bIdx
        have : Bk.findN l id = l.length := Py.first_none fun y hy => by
          obtain ⟨j, hj⟩ := List.mem_iff_getElem?.1 hy
          exact hall j (by have := (List.getElem?_eq_some_iff.1 hj).1; have := HT.out.2.1; omega) y hj
        rw [this, if_neg (by omega)]
      have HM := Lib.hid (And.intro hb hf)
      clear hb hall hf
      go_wp2_with fail
      go_ret
      exact ⟨by rw [HM.out.2]; rfl, HM.out.1⟩
set_option maxRecDepth 100000 in
theorem bget_any {b : Nat} {w : World} {ad : Option Addr} {cap : Nat} {l : List En} (h : w.cell? ⟨b, 0, none⟩ = some (.slice ad l.length cap)) (hT : RecsAt 6 enCs w ad l) (hbl : b < w.heap.size) (hm : l.length ≤ 9223372036854775807) (id : Int) :
    Calls Try.prog 18 #[.pointer (some ⟨b, 0, none⟩), .int .i64 id] w fun e w' => e = .returned (.int .i64 (bIdx l id)) ∧ Below w.heap.size w w' := by
  obtain ⟨w1, hw1⟩ : ∃ w1, w1 = w.alloc (.cells #[.int .i64 id] 3) := ⟨_, rfl⟩
  have hb1 := box_below hw1
  have hg1 : w1.heap[w.heap.size]? = some (.cells #[.int .i64 id] 3 (0, 0)) := by rw [hw1]; exact heap_alloc_new _ _
  have c1 := ball_any (w := w1) ((hb1.cell (p := ⟨b, 0, none⟩) hbl).trans h)
  have c2 := bidx_any l ad cap id w.heap.size w1 (hT.below hb1) hm (cell_lit hg1 0) (Array.getElem?_eq_some_iff.1 hg1).1
  obtain ⟨n, hn⟩ : ∃ n, n = l.length := ⟨_, rfl⟩
  rw [← hn] at c1 c2
  have H := Lib.hid (And.intro c1 (And.intro c2 hb1))
  clear c1 c2 hb1 hg1 h hT hn hm
  go_enter Try.func18, Try.ntmps18
  go_upto_region 1 with fail
  rw [← hw1]
  clear hw1
  go_wp2_with fail
  refine H.out.1.mono ?_
  rintro e w2 ⟨rfl, rfl⟩
  go_wp2_with fail
  refine H.out.2.1.mono ?_
  rintro e w3 ⟨rfl, hb⟩
  go_wp2_with fail
  go_ret
  exact ⟨rfl, H.out.2.2.trans (hb.mono H.out.2.2.size)⟩

end Go.Proofs.Ytnkkbinbeildmab
