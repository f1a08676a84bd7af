/- put, Encode: an item's bytes. -/
import Derived.Test.YtefpfedpgedloaaGreatDoorCMay
namespace Go.Proofs.YtefpfedpgedloaaGreatDoor
open Go.RowKit
open Cn

/-- What was put: all of it, or too much. -/
def Put (C X D : List UInt8) : Prop := ((C ++ X).length ≤ 65536 → D = C ++ X) ∧ (65536 < (C ++ X).length → 65536 < D.length) ∧ D.length ≤ 140000
theorem Put.trans {C X D Y E : List UInt8} (h : Put C X D) (k : Put D Y E) : Put C (X ++ Y) E := by
  refine ⟨fun hl => ?_, fun hl => ?_, k.2.2⟩
  · simp only [List.length_append] at hl
    have := h.1 (by simp; omega)
    subst this
    rw [k.1 (by simp; omega), List.append_assoc]
  · by_cases hc : (C ++ X).length ≤ 65536
    · have := h.1 hc
      subst this
      exact k.2.1 (by simp at hl ⊢; omega)
    · have := h.2.1 (by omega)
      exact k.2.1 (by simp; omega)
theorem Put.whole {C X : List UInt8} (h : (C ++ X).length ≤ 140000) : Put C X (C ++ X) := ⟨fun _ => rfl, fun h => h, h⟩
theorem Put.full {C X : List UInt8} (h : 65536 < C.length) (h2 : C.length ≤ 140000) : Put C X C := ⟨fun hl => by simp at hl; omega, fun _ => h, h2⟩
theorem Bu.alloc {B b : Nat} {l : List UInt8} {w : World} (h : Bu B b l w) (o : Obj) : Bu B b l (w.alloc o) := Lib.IsBuilderF.alloc h o
theorem Bu.lt {B b : Nat} {l : List UInt8} {w : World} (h : Bu B b l w) : b < w.heap.size := by
  rcases h with h | h
  · exact h.lt
  · exact h.lt
theorem Bu.lo {B b : Nat} {l : List UInt8} {w : World} (h : Bu B b l w) : B ≤ b := by
  rcases h with h | h
  · exact h.1
  · exact h.1
theorem BuNext.refl {B b : Nat} {l : List UInt8} {w : World} (h : Bu B b l w) : BuNext B b l w w := ⟨h, Below.refl _ _, Lib.OthersKept.refl _ _ _⟩
theorem BuNext.alloc {B b : Nat} {l : List UInt8} {w w' : World} (h : BuNext B b l w w') (o : Obj) : BuNext B b l w (w'.alloc o) :=
  ⟨h.1.alloc o, h.2.1.alloc (by have := h.1.lt; have := h.1.lo; omega) o, h.2.2.alloc o⟩
theorem box_kept {B b : Nat} {l : List UInt8} {w w' : World} (h : BuNext B b l w w') {g : Nat} {cs : Array Value} (hg : w.heap[g]? = some (.cells cs 60 (0, 0))) (hgb : g ≠ b) : w'.heap[g]? = some (.cells cs 60 (0, 0)) :=
  h.2.2 g _ hg (fun e => hgb (Option.some.inj e)) (by simp)
theorem num_le {n : Nat} (h : n < 2 ^ 63) : (num n).length ≤ 9 := by
  rw [num_length]
  have := width_le (k := 8) (n := n) (Nat.lt_of_lt_of_le h (by decide)) (by decide)
  omega
/-- The contract of put at an item. -/
def PutsSo (x : It) : Prop := ∀ (B b : Nat) (C : List UInt8) (w : World) (d : Nat), Bu B b C w → C.length ≤ 140000 → x.In w (· < B) → may x.pure d = true →
  Calls Tryz.prog 48 #[.pointer (some ⟨b, 0, none⟩), x.val] w fun e w' => ∃ D, e = .returned (.tuple #[]) ∧ BuNext B b D w w' ∧ Put C (Cn.bytes x.pure) D

set_option maxRecDepth 100000 in
set_option maxHeartbeats 400000 in
theorem put_full (x : It) (B b : Nat) (C : List UInt8) (w : World) (h : Bu B b C w) (hC : C.length ≤ 140000) (hlong : 65536 < C.length) :
    Calls Tryz.prog 48 #[.pointer (some ⟨b, 0, none⟩), x.val] w fun e w' => ∃ D, e = .returned (.tuple #[]) ∧ BuNext B b D w w' ∧ Put C (Cn.bytes x.pure) D := by
  obtain ⟨X, hX⟩ : ∃ X, X = Cn.bytes x.pure := ⟨_, rfl⟩
  rw [← hX]
  clear hX
  obtain ⟨k, n, s, a, cap, l⟩ := x
  simp only [It.val, It.cells, It.k, It.n, It.s, It.a, It.cap, It.l]
  have hCi : (65536 : Int) < C.length := by omega
  go_enter Tryz.func48, Tryz.ntmps48
  go_wp2_with fail
  refine (len_any B b C _ (h.alloc _)).mono ?_
  rintro e w' ⟨rfl, rfl⟩
  go_wp2_with fail
  refine bodyPost_ret (v := .tuple #[]) (results_none rfl _ _ _) rfl ?_
  exact ⟨C, rfl, (BuNext.refl h).alloc _, Put.full hlong hC⟩
set_option maxRecDepth 100000 in
set_option maxHeartbeats 400000 in
theorem put_num (x : It) (hx : x.k = 1) : PutsSo x := by
  intro B b C w d h hC hin hm
  by_cases hlong : 65536 < C.length
  · exact put_full x B b C w h hC hlong
  · obtain ⟨k, n, s, a, cap, l⟩ := x
    simp only [It.k] at hx
    subst hx
    obtain ⟨h0, h1, -⟩ := (may1_eq n s l d).1 hm
    obtain ⟨m, rfl⟩ : ∃ m : Nat, n = m := ⟨n.toNat, by omega⟩
    have hX : Cn.bytes (It.mk 1 m s a cap l).pure = num m := by simp [It.pure, Cn.bytes]
    rw [hX]
    simp only [It.val, It.cells, It.k, It.n, It.s, It.a, It.cap, It.l]
    have hCi : (C.length : Int) ≤ 65536 := by omega
    have H := Lib.hid (And.intro h hm)
    clear h hm hX hin
    have hBb := H.out.1.lo
    have hlt := H.out.1.lt
    go_enter Tryz.func48, Tryz.ntmps48
    go_wp2_with fail
    refine (len_any B b C _ (H.out.1.alloc _)).mono ?_
    rintro e w' ⟨rfl, rfl⟩
    go_wp2_with fail
    refine (putNum_any B b C m _ (H.out.1.alloc _) (by omega) (by omega) (by simp; omega)).mono ?_
    rintro e w2 ⟨rfl, hb⟩
    go_wp2_with fail
    go_end0
    exact ⟨_, rfl, ((BuNext.refl H.out.1).alloc _).trans hb, Put.whole (by have := num_le (n := m) (by omega); simp; omega)⟩
set_option maxRecDepth 100000 in
set_option maxHeartbeats 400000 in
theorem put_text (x : It) (hx : x.k = 2) : PutsSo x := by
  intro B b C w d h hC hin hm
  by_cases hlong : 65536 < C.length
  · exact put_full x B b C w h hC hlong
  · obtain ⟨k, n, s, a, cap, l⟩ := x
    simp only [It.k] at hx
    subst hx
    obtain ⟨h0, h1, -⟩ := (may2_eq n s l d).1 hm
    subst h0
    have hX : Cn.bytes (It.mk 2 0 s a cap l).pure = [8] ++ num s.size ++ s.data.toList := by simp [It.pure, Cn.bytes]
    rw [hX]
    simp only [It.val, It.cells, It.k, It.n, It.s, It.a, It.cap, It.l]
    have hCi : (C.length : Int) ≤ 65536 := by omega
    have hn9 := num_le (n := s.size) (by omega)
    have H := Lib.hid (And.intro h hm)
    clear h hm hX hin
    have hBb := H.out.1.lo
    have hlt := H.out.1.lt
    go_enter Tryz.func48, Tryz.ntmps48
    go_wp2_with fail
    refine (len_any B b C _ (H.out.1.alloc _)).mono ?_
    rintro e w' ⟨rfl, rfl⟩
    go_wp2_with fail
    have hbox : (w.alloc (.cells #[.int .i64 2, .int .i64 0, .string s, .slice a l.length cap] 60)).heap[w.heap.size]? = some (.cells #[.int .i64 2, .int .i64 0, .string s, .slice a l.length cap] 60 (0, 0)) := heap_alloc_new _ _
    have hN := (BuNext.refl H.out.1).alloc (.cells #[.int .i64 2, .int .i64 0, .string s, .slice a l.length cap] 60)
    generalize World.alloc w _ = w1 at *
    have HN := Lib.hid (And.intro hN hbox)
    clear hN hbox
    refine (writeByte_any B b C 8 8 rfl _ HN.out.1.1 (by omega) (by have := HN.out.1.1.lt; have := HN.out.1.1.lo; omega)).mono ?_
    rintro e w2 ⟨rfl, hb⟩
    have c2 : w2.cell? ⟨w.heap.size, 2, none⟩ = some (.string s) := by rw [Lib.cell_of_heap (box_kept hb HN.out.2 (by omega))]; rfl
    have HB := Lib.hid hb
    clear hb
    go_wp2_with fail
    refine (putNum_any B b _ s.size _ HB.out.1 (by simp; omega) (by omega) (by have := HB.out.1.lt; have := HB.out.1.lo; omega)).mono ?_
    rintro e w3 ⟨rfl, hb⟩
    have HB3 := Lib.hid (HB.out.trans hb)
    clear hb c2
    have c2 : w3.cell? ⟨w.heap.size, 2, none⟩ = some (.string s) := by rw [Lib.cell_of_heap (box_kept HB3.out HN.out.2 (by omega))]; rfl
    go_wp2_with fail
    refine (writeString_any B b _ s _ HB3.out.1 (by simp; omega) (by have := HB3.out.1.lt; have := HB3.out.1.lo; omega)).mono ?_
    rintro e w4 ⟨rfl, hb⟩
    have HB4 := Lib.hid (HB3.out.trans hb)
    clear hb c2
    go_wp2_with fail
    go_end0
    refine ⟨_, rfl, HN.out.1.trans HB4.out, ?_⟩
    simp only [List.append_assoc]
    exact Put.whole (by simp; omega)
theorem bytesAll_take (l : List It) (i : Nat) (x : It) (h : l[i]? = some x) : bytesAll (It.pureAll (l.take (i + 1))) = bytesAll (It.pureAll (l.take i)) ++ Cn.bytes x.pure := by
  rw [List.take_add_one, h, Option.toList_some, It.pureAll_eq, List.map_append, bytesAll_append, ← It.pureAll_eq]
  simp [bytesAll]
set_option maxRecDepth 100000 in
set_option maxHeartbeats 400000 in
theorem put_list (x : It) (hx : x.k = 3) (ih : ∀ y ∈ x.l, PutsSo y) : PutsSo x := by
  intro B b C w d h hC hin hm
  by_cases hlong : 65536 < C.length
  · exact put_full x B b C w h hC hlong
  · obtain ⟨k, n, s, a, cap, l⟩ := x
    simp only [It.k] at hx
    subst hx
    obtain ⟨h0, -, h1, -, hall⟩ := (may3_eq n s l d).1 hm
    subst h0
    have hX : Cn.bytes (It.mk 3 0 s a cap l).pure = [9] ++ num l.length ++ bytesAll (It.pureAll l) := by simp [It.pure, Cn.bytes, It.pureAll_length]
    rw [hX]
    simp only [It.val, It.cells, It.k, It.n, It.s, It.a, It.cap, It.l] at ih ⊢
    have hCi : (C.length : Int) ≤ 65536 := by omega
    have hn9 := num_le (n := l.length) (by omega)
    have H := Lib.hid (And.intro h (And.intro hall (And.intro ih hin)))
    clear h hm hX hin hall ih
    have hBb := H.out.1.lo
    have hlt := H.out.1.lt
    obtain ⟨N, hN⟩ : ∃ N, N = l.length := ⟨_, rfl⟩
    rw [← hN] at h1 ⊢ hn9
    have HL := Lib.hid hN
    clear hN
    go_enter Tryz.func48, Tryz.ntmps48
    go_wp2_with fail
    refine (len_any B b C _ (H.out.1.alloc _)).mono ?_
    rintro e w' ⟨rfl, rfl⟩
    go_wp2_with fail
    have hbox : (w.alloc (.cells #[.int .i64 3, .int .i64 0, .string s, .slice a N cap] 60)).heap[w.heap.size]? = some (.cells #[.int .i64 3, .int .i64 0, .string s, .slice a N cap] 60 (0, 0)) := heap_alloc_new _ _
    have hN := (BuNext.refl H.out.1).alloc (.cells #[.int .i64 3, .int .i64 0, .string s, .slice a N cap] 60)
    generalize World.alloc w _ = w1 at *
    have HN := Lib.hid (And.intro hN hbox)
    clear hN hbox
    refine (writeByte_any B b C 9 9 rfl _ HN.out.1.1 (by omega) (by have := HN.out.1.1.lt; have := HN.out.1.1.lo; omega)).mono ?_
    rintro e w2 ⟨rfl, hb⟩
    have c3 : w2.cell? ⟨w.heap.size, 3, none⟩ = some (.slice a N cap) := by rw [Lib.cell_of_heap (box_kept hb HN.out.2 (by omega))]; rfl
    have HB := Lib.hid hb
    clear hb
    go_wp2_with fail
    refine (putNum_any B b _ N _ HB.out.1 (by simp; omega) (by omega) (by have := HB.out.1.lt; have := HB.out.1.lo; omega)).mono ?_
    rintro e w3 ⟨rfl, hb⟩
    have HB3 := Lib.hid (HN.out.1.trans (HB.out.trans hb))
    have c3' : w3.cell? ⟨w.heap.size, 3, none⟩ = some (.slice a N cap) := by rw [Lib.cell_of_heap (box_kept (HB.out.trans hb) HN.out.2 (by omega))]; rfl
    clear hb c3
    go_wp2_with fail
    have HP0 : Hid (Put C ([9] ++ num N ++ bytesAll (It.pureAll (l.take 0))) (C ++ [9] ++ num N)) := by
      have := Put.whole (C := C) (X := [9] ++ num N) (by simp; omega)
      simpa [It.pureAll, bytesAll, Hid] using this
    clear c3'
    go_loopw [42] (fun c wr => ∃ (i : Nat) (D : List UInt8), i ≤ N ∧ c = .int .i64 i ∧ BuNext B b D w wr ∧ Put C ([9] ++ num N ++ bytesAll (It.pureAll (l.take i))) D) (fun c _ => N - (intOf c).toNat)
    case atStart => exact ⟨0, _, by omega, rfl, HB3.out, HP0.out⟩
    case round =>
      obtain ⟨i, D, hi, rfl, hb, hp⟩ := hrel
      have HR := Lib.hid (And.intro hb hp)
      clear hb hp
      by_cases hlt2 : i < N
      · have hin := It.In.kept (keptS_below HR.out.1.2.1) _ H.out.2.2.2
        have hil : i < l.length := by have := HL.out; omega
        obtain ⟨bb, o, x, ha, hbl, hsb, hx, hmem, c0, c1, c2, c3⟩ := hin.2.1.at hil
        have ha' : a = some ⟨bb, o, none⟩ := ha
        subst ha'
        clear ha
        have ihx := H.out.2.2.1 x hmem B b D
        have hmx := mayAll_mem H.out.2.1 _ (by rw [It.pureAll_eq]; exact List.mem_map_of_mem hmem)
        have hinx := It.inAll_mem hin.2.2 x hmem
        obtain ⟨X, hX⟩ : ∃ X, X = Cn.bytes x.pure := ⟨_, rfl⟩
        have hput := fun w' (hbu : Bu B b D w') (hbw : Below B wr w') => ihx w' (d - 1) hbu HR.out.2.2.2 (It.In.kept (keptS_below hbw) _ hinx) hmx
        rw [← hX] at hput
        have HX := Lib.hid (And.intro hx hX)
        clear hx hmem hin hmx hinx ihx hX
        obtain ⟨xk, xn, xs, xa, xc, xl⟩ := x
        simp only [It.val, It.cells, It.k, It.n, It.s, It.a, It.cap, It.l] at hput c0 c1 c2 c3
        have HC := Lib.hid hput
        clear hput
        have hBw : B ≤ wr.heap.size := by have := HR.out.1.1.lt; omega
        go_wp2_with fail
        refine (HC.out _ (HR.out.1.1.alloc _) ((Below.refl _ _).alloc hBw _)).mono ?_
        rintro e w4 ⟨E, rfl, hb4, hp4⟩
        have HB4 := Lib.hid (And.intro ((HR.out.1.alloc _).trans hb4) (HR.out.2.trans hp4))
        clear hb4 hp4 c0 c1 c2 c3
        go_wp2_with fail
        go_roundw
        case rel => exact ⟨i + 1, E, by omega, by go_num, HB4.out.1, by rw [bytesAll_take l i _ HX.out.1, ← HX.out.2, ← List.append_assoc]; exact HB4.out.2⟩
        case measure => simp [intOf]; omega
      · obtain rfl : i = N := by omega
        have hfin := HR.out.2
        rw [HL.out, List.take_length, ← HL.out] at hfin
        have HF := Lib.hid hfin
        clear hfin
        go_wp2_with fail
        go_end0
        exact ⟨D, rfl, HR.out.1, HF.out⟩
theorem put_any : ∀ (N : Nat) (x : It), x.sz ≤ N → PutsSo x
  | 0, x, hx => by rw [It.sz_eq] at hx; omega
  | N + 1, x, hx => by
    by_cases h1 : x.k = 1
    · exact put_num x h1
    · by_cases h2 : x.k = 2
      · exact put_text x h2
      · by_cases h3 : x.k = 3
        · exact put_list x h3 fun y hy => put_any N y (by have := It.sz_lt hy; omega)
        · intro B b C w d _ _ _ hm
          rw [It.pure_eq, may0_eq h1 h2 h3] at hm
          exact absurd hm (by simp)
end Go.Proofs.YtefpfedpgedloaaGreatDoor
