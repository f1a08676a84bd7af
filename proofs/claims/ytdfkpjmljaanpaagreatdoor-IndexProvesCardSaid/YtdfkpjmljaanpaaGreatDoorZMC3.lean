/- MC3, what is wanted of it. -/
import Derived.Test.YtdfkpjmljaanpaaGreatDoorZMC2
import Derived.Test.YtdfkpjmljaanpaaGreatDoorZMB
import Derived.Laws.MakeOwn
import Derived.Deep.QuietTactic
import Derived.BigQuiet
import Derived.IntWalk
namespace Go.Proofs.YtdfkpjmljaanpaaGreatDoor
open Go.RowKit
open Cn
/-- What was put: all of it, or too much. -/
def Put (C X D : List UInt8) : Prop := ((C ++ X).length ≤ 65536 → D = C ++ X) ∧ (65536 < (C ++ X).length → 65536 < D.length) ∧ D.length ≤ 140000
theorem Put.trans {C X D Y E : List UInt8} (h : Put C X D) (k : Put D Y E) : Put C (X ++ Y) E := by
  refine ⟨fun hl => ?_, fun hl => ?_, k.2.2⟩
  · simp only [List.length_append] at hl
    have := h.1 (by simp; omega)
    subst this
    rw [k.1 (by simp; omega), List.append_assoc]
  · by_cases hc : (C ++ X).length ≤ 65536
    · have := h.1 hc
      subst this
      exact k.2.1 (by simp at hl ⊢; omega)
    · have := h.2.1 (by omega)
      exact k.2.1 (by simp; omega)
theorem Put.whole {C X : List UInt8} (h : (C ++ X).length ≤ 140000) : Put C X (C ++ X) := ⟨fun _ => rfl, fun h => h, h⟩
theorem Put.full {C X : List UInt8} (h : 65536 < C.length) (h2 : C.length ≤ 140000) : Put C X C := ⟨fun hl => by simp at hl; omega, fun _ => h, h2⟩
theorem Bu.alloc {B b : Nat} {l : List UInt8} {w : World} (h : Bu B b l w) (o : Obj) : Bu B b l (w.alloc o) := Lib.IsBuilderF.alloc h o
theorem Bu.lt {B b : Nat} {l : List UInt8} {w : World} (h : Bu B b l w) : b < w.heap.size := by
  rcases h with h | h
  · exact h.lt
  · exact h.lt
theorem Bu.lo {B b : Nat} {l : List UInt8} {w : World} (h : Bu B b l w) : B ≤ b := by
  rcases h with h | h
  · exact h.1
  · exact h.1
theorem BuNext.refl {B b : Nat} {l : List UInt8} {w : World} (h : Bu B b l w) : BuNext B b l w w := ⟨h, Below.refl _ _, Lib.OthersKept.refl _ _ _⟩
theorem BuNext.alloc {B b : Nat} {l : List UInt8} {w w' : World} (h : BuNext B b l w w') (o : Obj) : BuNext B b l w (w'.alloc o) :=
  ⟨h.1.alloc o, h.2.1.alloc (by have := h.1.lt; have := h.1.lo; omega) o, h.2.2.alloc o⟩
theorem box_kept {B b : Nat} {l : List UInt8} {w w' : World} (h : BuNext B b l w w') {g : Nat} {cs : Array Value} (hg : w.heap[g]? = some (.cells cs 184 (0, 0))) (hgb : g ≠ b) : w'.heap[g]? = some (.cells cs 184 (0, 0)) :=
  h.2.2 g _ hg (fun e => hgb (Option.some.inj e)) (by simp)
theorem num_le {n : Nat} (h : n < 2 ^ 63) : (num n).length ≤ 9 := by
  rw [num_length]
  have := width_le (k := 8) (n := n) (Nat.lt_of_lt_of_le h (by decide)) (by decide)
  omega
/-- The contract of put at an item. -/
def PutsSo (x : It) : Prop := ∀ (B b : Nat) (C : List UInt8) (w : World) (d : Nat), Bu B b C w → C.length ≤ 140000 → x.In w (· < B) → may x.pure d = true →
  Calls Tryz.prog 166 #[.pointer (some ⟨b, 0, none⟩), x.val] w fun e w' => ∃ D, e = .returned (.tuple #[]) ∧ BuNext B b D w w' ∧ Put C (Cn.bytes x.pure) D
set_option maxRecDepth 100000 in
set_option maxHeartbeats 400000 in
theorem put_full (x : It) (B b : Nat) (C : List UInt8) (w : World) (h : Bu B b C w) (hC : C.length ≤ 140000) (hlong : 65536 < C.length) :
    Calls Tryz.prog 166 #[.pointer (some ⟨b, 0, none⟩), x.val] w fun e w' => ∃ D, e = .returned (.tuple #[]) ∧ BuNext B b D w w' ∧ Put C (Cn.bytes x.pure) D := by
  obtain ⟨X, hX⟩ : ∃ X, X = Cn.bytes x.pure := ⟨_, rfl⟩
  rw [← hX]
  clear hX
  obtain ⟨k, n, s, a, cap, l⟩ := x
  simp only [It.val, It.cells, It.k, It.n, It.s, It.a, It.cap, It.l]
  have hCi : (65536 : Int) < C.length := by omega
  go_enter Tryz.func166, Tryz.ntmps166
  go_wp2_with fail
  refine (len_any B b C _ (h.alloc _)).mono ?_
  rintro e w' ⟨rfl, rfl⟩
  go_wp2_with fail
  refine bodyPost_ret (v := .tuple #[]) (results_none rfl _ _ _) rfl ?_
  exact ⟨C, rfl, (BuNext.refl h).alloc _, Put.full hlong hC⟩
set_option maxRecDepth 100000 in
set_option maxHeartbeats 400000 in
theorem put_num (x : It) (hx : x.k = 1) : PutsSo x := by
  intro B b C w d h hC hin hm
  by_cases hlong : 65536 < C.length
  · exact put_full x B b C w h hC hlong
  · obtain ⟨k, n, s, a, cap, l⟩ := x
    simp only [It.k] at hx
    subst hx
    obtain ⟨h0, h1, -⟩ := (may1_eq n s l d).1 hm
    obtain ⟨m, rfl⟩ : ∃ m : Nat, n = m := ⟨n.toNat, by omega⟩
    have hX : Cn.bytes (It.mk 1 m s a cap l).pure = num m := by simp [It.pure, Cn.bytes]
    rw [hX]
    simp only [It.val, It.cells, It.k, It.n, It.s, It.a, It.cap, It.l]
    have hCi : (C.length : Int) ≤ 65536 := by omega
    have H := Lib.hid (And.intro h hm)
    clear h hm hX hin
    have hBb := H.out.1.lo
    have hlt := H.out.1.lt
    go_enter Tryz.func166, Tryz.ntmps166
    go_wp2_with fail
    refine (len_any B b C _ (H.out.1.alloc _)).mono ?_
    rintro e w' ⟨rfl, rfl⟩
    go_wp2_with fail
    refine (putNum_any B b C m _ (H.out.1.alloc _) (by omega) (by omega) (by simp; omega)).mono ?_
    rintro e w2 ⟨rfl, hb⟩
    go_wp2_with fail
    go_end0
    exact ⟨_, rfl, ((BuNext.refl H.out.1).alloc _).trans hb, Put.whole (by have := num_le (n := m) (by omega); simp; omega)⟩
set_option maxRecDepth 100000 in
set_option maxHeartbeats 400000 in
theorem put_text (x : It) (hx : x.k = 2) : PutsSo x := by
  intro B b C w d h hC hin hm
  by_cases hlong : 65536 < C.length
  · exact put_full x B b C w h hC hlong
  · obtain ⟨k, n, s, a, cap, l⟩ := x
    simp only [It.k] at hx
    subst hx
    obtain ⟨h0, h1, -⟩ := (may2_eq n s l d).1 hm
    subst h0
    have hX : Cn.bytes (It.mk 2 0 s a cap l).pure = [8] ++ num s.size ++ s.data.toList := by simp [It.pure, Cn.bytes]
    rw [hX]
    simp only [It.val, It.cells, It.k, It.n, It.s, It.a, It.cap, It.l]
    have hCi : (C.length : Int) ≤ 65536 := by omega
    have hn9 := num_le (n := s.size) (by omega)
    have H := Lib.hid (And.intro h hm)
    clear h hm hX hin
    have hBb := H.out.1.lo
    have hlt := H.out.1.lt
    go_enter Tryz.func166, Tryz.ntmps166
    go_wp2_with fail
    refine (len_any B b C _ (H.out.1.alloc _)).mono ?_
    rintro e w' ⟨rfl, rfl⟩
    go_wp2_with fail
    have hbox : (w.alloc (.cells #[.int .i64 2, .int .i64 0, .string s, .slice a l.length cap] 184)).heap[w.heap.size]? = some (.cells #[.int .i64 2, .int .i64 0, .string s, .slice a l.length cap] 184 (0, 0)) := heap_alloc_new _ _
    have hN := (BuNext.refl H.out.1).alloc (.cells #[.int .i64 2, .int .i64 0, .string s, .slice a l.length cap] 184)
    generalize World.alloc w _ = w1 at *
    have HN := Lib.hid (And.intro hN hbox)
    clear hN hbox
    refine (writeByte_any B b C 8 8 rfl _ HN.out.1.1 (by omega) (by have := HN.out.1.1.lt; have := HN.out.1.1.lo; omega)).mono ?_
    rintro e w2 ⟨rfl, hb⟩
    have c2 : w2.cell? ⟨w.heap.size, 2, none⟩ = some (.string s) := by rw [Lib.cell_of_heap (box_kept hb HN.out.2 (by omega))]; rfl
    have HB := Lib.hid hb
    clear hb
    go_wp2_with fail
    refine (putNum_any B b _ s.size _ HB.out.1 (by simp; omega) (by omega) (by have := HB.out.1.lt; have := HB.out.1.lo; omega)).mono ?_
    rintro e w3 ⟨rfl, hb⟩
    have HB3 := Lib.hid (HB.out.trans hb)
    clear hb c2
    have c2 : w3.cell? ⟨w.heap.size, 2, none⟩ = some (.string s) := by rw [Lib.cell_of_heap (box_kept HB3.out HN.out.2 (by omega))]; rfl
    go_wp2_with fail
    refine (writeString_any B b _ s _ HB3.out.1 (by simp; omega) (by have := HB3.out.1.lt; have := HB3.out.1.lo; omega)).mono ?_
    rintro e w4 ⟨rfl, hb⟩
    have HB4 := Lib.hid (HB3.out.trans hb)
    clear hb c2
    go_wp2_with fail
    go_end0
    refine ⟨_, rfl, HN.out.1.trans HB4.out, ?_⟩
    simp only [List.append_assoc]
    exact Put.whole (by simp; omega)
theorem bytesAll_take (l : List It) (i : Nat) (x : It) (h : l[i]? = some x) : bytesAll (It.pureAll (l.take (i + 1))) = bytesAll (It.pureAll (l.take i)) ++ Cn.bytes x.pure := by
  rw [List.take_add_one, h, Option.toList_some, It.pureAll_eq, List.map_append, bytesAll_append, ← It.pureAll_eq]
  simp [bytesAll]
set_option maxRecDepth 100000 in
set_option maxHeartbeats 400000 in
theorem put_list (x : It) (hx : x.k = 3) (ih : ∀ y ∈ x.l, PutsSo y) : PutsSo x := by
  intro B b C w d h hC hin hm
  by_cases hlong : 65536 < C.length
  · exact put_full x B b C w h hC hlong
  · obtain ⟨k, n, s, a, cap, l⟩ := x
    simp only [It.k] at hx
    subst hx
    obtain ⟨h0, -, h1, -, hall⟩ := (may3_eq n s l d).1 hm
    subst h0
    have hX : Cn.bytes (It.mk 3 0 s a cap l).pure = [9] ++ num l.length ++ bytesAll (It.pureAll l) := by simp [It.pure, Cn.bytes, It.pureAll_length]
    rw [hX]
    simp only [It.val, It.cells, It.k, It.n, It.s, It.a, It.cap, It.l] at ih ⊢
    have hCi : (C.length : Int) ≤ 65536 := by omega
    have hn9 := num_le (n := l.length) (by omega)
    have H := Lib.hid (And.intro h (And.intro hall (And.intro ih hin)))
    clear h hm hX hin hall ih
    have hBb := H.out.1.lo
    have hlt := H.out.1.lt
    obtain ⟨N, hN⟩ : ∃ N, N = l.length := ⟨_, rfl⟩
    rw [← hN] at h1 ⊢ hn9
    have HL := Lib.hid hN
    clear hN
    go_enter Tryz.func166, Tryz.ntmps166
    go_wp2_with fail
    refine (len_any B b C _ (H.out.1.alloc _)).mono ?_
    rintro e w' ⟨rfl, rfl⟩
    go_wp2_with fail
    have hbox : (w.alloc (.cells #[.int .i64 3, .int .i64 0, .string s, .slice a N cap] 184)).heap[w.heap.size]? = some (.cells #[.int .i64 3, .int .i64 0, .string s, .slice a N cap] 184 (0, 0)) := heap_alloc_new _ _
    have hN := (BuNext.refl H.out.1).alloc (.cells #[.int .i64 3, .int .i64 0, .string s, .slice a N cap] 184)
    generalize World.alloc w _ = w1 at *
    have HN := Lib.hid (And.intro hN hbox)
    clear hN hbox
    refine (writeByte_any B b C 9 9 rfl _ HN.out.1.1 (by omega) (by have := HN.out.1.1.lt; have := HN.out.1.1.lo; omega)).mono ?_
    rintro e w2 ⟨rfl, hb⟩
    have c3 : w2.cell? ⟨w.heap.size, 3, none⟩ = some (.slice a N cap) := by rw [Lib.cell_of_heap (box_kept hb HN.out.2 (by omega))]; rfl
    have HB := Lib.hid hb
    clear hb
    go_wp2_with fail
    refine (putNum_any B b _ N _ HB.out.1 (by simp; omega) (by omega) (by have := HB.out.1.lt; have := HB.out.1.lo; omega)).mono ?_
    rintro e w3 ⟨rfl, hb⟩
    have HB3 := Lib.hid (HN.out.1.trans (HB.out.trans hb))
    have c3' : w3.cell? ⟨w.heap.size, 3, none⟩ = some (.slice a N cap) := by rw [Lib.cell_of_heap (box_kept (HB.out.trans hb) HN.out.2 (by omega))]; rfl
    clear hb c3
    go_wp2_with fail
    have HP0 : Hid (Put C ([9] ++ num N ++ bytesAll (It.pureAll (l.take 0))) (C ++ [9] ++ num N)) := by
      have := Put.whole (C := C) (X := [9] ++ num N) (by simp; omega)
      simpa [It.pureAll, bytesAll, Hid] using this
    clear c3'
    go_loopw [42] (fun c wr => ∃ (i : Nat) (D : List UInt8), i ≤ N ∧ c = .int .i64 i ∧ BuNext B b D w wr ∧ Put C ([9] ++ num N ++ bytesAll (It.pureAll (l.take i))) D) (fun c _ => N - (intOf c).toNat)
    case atStart => exact ⟨0, _, by omega, rfl, HB3.out, HP0.out⟩
    case round =>
      obtain ⟨i, D, hi, rfl, hb, hp⟩ := hrel
      have HR := Lib.hid (And.intro hb hp)
      clear hb hp
      by_cases hlt2 : i < N
      · have hin := It.In.kept (keptS_below HR.out.1.2.1) _ H.out.2.2.2
        have hil : i < l.length := by have := HL.out; omega
        obtain ⟨bb, o, x, ha, hbl, hsb, hx, hmem, c0, c1, c2, c3⟩ := hin.2.1.at hil
        have ha' : a = some ⟨bb, o, none⟩ := ha
        subst ha'
        clear ha
        have ihx := H.out.2.2.1 x hmem B b D
        have hmx := mayAll_mem H.out.2.1 _ (by rw [It.pureAll_eq]; exact List.mem_map_of_mem hmem)
        have hinx := It.inAll_mem hin.2.2 x hmem
        obtain ⟨X, hX⟩ : ∃ X, X = Cn.bytes x.pure := ⟨_, rfl⟩
        have hput := fun w' (hbu : Bu B b D w') (hbw : Below B wr w') => ihx w' (d - 1) hbu HR.out.2.2.2 (It.In.kept (keptS_below hbw) _ hinx) hmx
        rw [← hX] at hput
        have HX := Lib.hid (And.intro hx hX)
        clear hx hmem hin hmx hinx ihx hX
        obtain ⟨xk, xn, xs, xa, xc, xl⟩ := x
        simp only [It.val, It.cells, It.k, It.n, It.s, It.a, It.cap, It.l] at hput c0 c1 c2 c3
        have HC := Lib.hid hput
        clear hput
        have hBw : B ≤ wr.heap.size := by have := HR.out.1.1.lt; omega
        go_wp2_with fail
        refine (HC.out _ (HR.out.1.1.alloc _) ((Below.refl _ _).alloc hBw _)).mono ?_
        rintro e w4 ⟨E, rfl, hb4, hp4⟩
        have HB4 := Lib.hid (And.intro ((HR.out.1.alloc _).trans hb4) (HR.out.2.trans hp4))
        clear hb4 hp4 c0 c1 c2 c3
        go_wp2_with fail
        go_roundw
        case rel => exact ⟨i + 1, E, by omega, by go_num, HB4.out.1, by rw [bytesAll_take l i _ HX.out.1, ← HX.out.2, ← List.append_assoc]; exact HB4.out.2⟩
        case measure => simp [intOf]; omega
      · obtain rfl : i = N := by omega
        have hfin := HR.out.2
        rw [HL.out, List.take_length, ← HL.out] at hfin
        have HF := Lib.hid hfin
        clear hfin
        go_wp2_with fail
        go_end0
        exact ⟨D, rfl, HR.out.1, HF.out⟩
theorem put_any : ∀ (N : Nat) (x : It), x.sz ≤ N → PutsSo x
  | 0, x, hx => by rw [It.sz_eq] at hx; omega
  | N + 1, x, hx => by
    by_cases h1 : x.k = 1
    · exact put_num x h1
    · by_cases h2 : x.k = 2
      · exact put_text x h2
      · by_cases h3 : x.k = 3
        · exact put_list x h3 fun y hy => put_any N y (by have := It.sz_lt hy; omega)
        · intro B b C w d _ _ _ hm
          rw [It.pure_eq, may0_eq h1 h2 h3] at hm
          exact absurd hm (by simp)
end Go.Proofs.YtdfkpjmljaanpaaGreatDoor
namespace Go.Proofs.YtdfkpjmljaanpaaGreatDoor
open Go.RowKit
open Cn
/-- An item's bytes, and the error. -/
def c_encS (x : Pt) : ByteArray := if may x 6 = true ∧ (Cn.bytes x).length ≤ 65536 then ⟨(Cn.bytes x).toArray⟩ else ⟨#[]⟩
def encE (x : Pt) : Int := if may x 6 = true then if (Cn.bytes x).length ≤ 65536 then 0 else 2 else 1
theorem bu_fresh (w : World) : Bu w.heap.size w.heap.size [] (w.alloc (.cells #[.pointer none, .slice none 0 0] 252)) :=
  Lib.IsBuilderF.of (Lib.fresh_isBuilder _ _ w)
set_option maxRecDepth 100000 in
set_option maxHeartbeats 400000 in
theorem encode_any (S : Nat → Prop) (x : It) (w : World) (hin : x.In w S) :
    Calls Tryz.prog 105 #[x.val] w fun e w' => e = .returned (.tuple #[.string (c_encS x.pure), .int .i64 (encE x.pure)]) ∧ Below w.heap.size w w' := by
  have hchk := fun w' (hb : Below w.heap.size w w') => ccheck_any S x w' (It.In.kept (keptS_any hb) x hin)
  have hput := fun w' b d (hb : Below w.heap.size w w') (hbu : Bu w'.heap.size b [] d) (h2 : Below w'.heap.size w' d) (hm : may x.pure 6 = true) =>
    put_any x.sz x (Nat.le_refl _) w'.heap.size b [] d 6 hbu (by simp) (It.In.kept (T := (· < w'.heap.size)) ⟨fun b _ hlt => ⟨hlt, h2.block b hlt⟩, h2.size⟩ x (It.In.kept (keptS_any hb) x hin)) hm
  obtain ⟨p, hp⟩ : ∃ p, p = x.pure := ⟨_, rfl⟩
  rw [← hp] at hchk hput ⊢
  clear hp
  obtain ⟨m, hm⟩ : ∃ m, m = may p 6 := ⟨_, rfl⟩
  rw [← hm] at hchk hput
  have H := Lib.hid (And.intro hchk (And.intro hput hm))
  clear hchk hput hm hin
  obtain ⟨k, n, s, a, cap, l⟩ := x
  simp only [It.val, It.cells, It.k, It.n, It.s, It.a, It.cap, It.l] at H ⊢
  go_enter Tryz.func105, Tryz.ntmps105
  go_wp2_with fail
  refine (H.out.1 _ ((Below.refl _ _).alloc (Nat.le_refl _) _)).mono ?_
  rintro e w2 ⟨rfl, hb2⟩
  have hcell : ∀ i, w2.cell? ⟨w.heap.size, i, none⟩ = (#[Value.int .i64 k, .int .i64 n, .string s, .slice a l.length cap] : Array Value)[i]? := fun i => by
    rw [hb2.cell (p := ⟨w.heap.size, i, none⟩) (by simp), Lib.cell_of_heap (heap_alloc_new _ _)]
  have hb3 : Below w.heap.size w w2 := ((Below.refl _ w).alloc (Nat.le_refl _) _).trans (hb2.mono (by simp))
  have q0 := hcell 0
  have q1 := hcell 1
  have q2 := hcell 2
  have q3 := hcell 3
  simp at q0 q1 q2 q3
  have HB := Lib.hid hb3
  have hsz : w.heap.size < w2.heap.size := by have := hb2.size; simp at this; omega
  clear hcell hb3 hb2
  cases m with
  | false =>
    go_wp2_with fail
    go_ret2
    refine ⟨?_, HB.out⟩
    rw [c_encS, encE, ← H.out.2.2]
    rfl
  | true =>
    have H2 := Lib.hid (fun d hbu h2 => H.out.2.1 w2 w2.heap.size d HB.out hbu h2 rfl)
    go_wp2_with fail
    refine (H2.out _ (bu_fresh w2) ((Below.refl _ _).alloc (Nat.le_refl _) _)).mono ?_
    rintro e w3 ⟨D, rfl, hb, hp⟩
    have HD := Lib.hid (And.intro hb hp)
    clear hb hp
    go_wp2_with fail
    refine (len_any _ _ D _ HD.out.1.1).mono ?_
    rintro e w4 ⟨rfl, rfl⟩
    have hbel : Below w.heap.size w w3 := HB.out.trans (((Below.refl _ w2).alloc (Nat.le_refl _) _).trans HD.out.1.2.1 |>.mono HB.out.size)
    have HW := Lib.hid hbel
    clear hbel
    by_cases hlong : 65536 < D.length
    · have hli : (65536 : Int) < D.length := by omega
      go_wp2_with fail
      go_ret2
      refine ⟨?_, HW.out⟩
      have : ¬ (Cn.bytes p).length ≤ 65536 := fun h => by
        have := HD.out.2.1 (by simpa using h)
        rw [this] at hlong
        simp at hlong
        omega
      rw [c_encS, encE, ← H.out.2.2, if_neg (fun h => this h.2), if_pos rfl, if_neg this]
      rfl
    · have hli : (D.length : Int) ≤ 65536 := by omega
      go_wp2_with fail
      refine (string_any _ _ D _ HD.out.1.1 (by have := HD.out.1.1.lt; omega)).mono ?_
      rintro e w5 ⟨rfl, hb5⟩
      have HW5 := Lib.hid (HW.out.trans (hb5.2.1.mono HB.out.size))
      clear hb5
      go_wp2_with fail
      go_ret2
      refine ⟨?_, HW5.out⟩
      have hle : (Cn.bytes p).length ≤ 65536 := by
        rcases Nat.lt_or_ge 65536 (Cn.bytes p).length with h | h
        · exact absurd (HD.out.2.2.1 (by simpa using h)) hlong
        · exact h
      have := HD.out.2.1 (by simpa using hle)
      rw [c_encS, encE, ← H.out.2.2, if_pos ⟨rfl, hle⟩, if_pos rfl, if_pos hle, this]
      rfl
end Go.Proofs.YtdfkpjmljaanpaaGreatDoor
namespace Go.Proofs.YtdfkpjmljaanpaaGreatDoor
open Go.RowKit
open Cn
set_option maxRecDepth 100000 in
theorem num_any (n : Int) (w : World) : Calls Tryz.prog 173 #[.int .i64 n] w fun e w' => e = .returned (.agg #[.int .i64 1, .int .i64 n, .string ⟨#[]⟩, .slice none 0 0]) ∧ Below w.heap.size w w' := by
  go_enter Tryz.func173, Tryz.ntmps173
  go_wp2_with fail
  exact bodyPost_ret (v := .agg #[.int .i64 1, .int .i64 n, .string ⟨#[]⟩, .slice none 0 0]) (by simp [results, Tryz.results173, go_sem]) rfl ⟨rfl, (Below.refl _ _).alloc (Nat.le_refl _) _⟩
set_option maxRecDepth 100000 in
theorem text_any (s : ByteArray) (w : World) : Calls Tryz.prog 170 #[.string s] w fun e w' => e = .returned (.agg #[.int .i64 2, .int .i64 0, .string s, .slice none 0 0]) ∧ Below w.heap.size w w' := by
  go_enter Tryz.func170, Tryz.ntmps170
  go_wp2_with fail
  exact bodyPost_ret (v := .agg #[.int .i64 2, .int .i64 0, .string s, .slice none 0 0]) (by simp [results, Tryz.results170, go_sem]) rfl ⟨rfl, (Below.refl _ _).alloc (Nat.le_refl _) _⟩
theorem lt_of_heap {w : World} {g : Nat} {o : Obj} (h : w.heap[g]? = some o) : g < w.heap.size := (Array.getElem?_eq_some_iff.1 h).1
/-- A row of items in the making: the first i are there. -/
def Copying (w0 : World) (g N : Nat) (l : List It) (i : Nat) (wr : World) : Prop := ∃ (l' : List It) (c : Array Value), l'.length = i ∧ It.pureAll l' = It.pureAll (l.take i) ∧ It.InAll wr (g < ·) l' ∧ wr.heap[g]? = some (.cells c 184 (0, 0)) ∧ c.size = N * 4 ∧ RowAt wr g 0 l' ∧ Below w0.heap.size w0 wr ∧ w0.heap.size ≤ g
/-- Cells that are laid over a block's cells from o on. -/
theorem c_heap_setCells (b : Nat) (t : TypeId) : ∀ (vs : List Value) (o : Nat) (w : World) (c : Array Value), w.heap[b]? = some (.cells c t (0, 0)) → o + vs.length ≤ c.size →
    ∃ c' : Array Value, (w.setCells b o vs).heap[b]? = some (.cells c' t (0, 0)) ∧ c'.size = c.size ∧ ∀ i, c'[i]? = if o ≤ i ∧ i < o + vs.length then vs[i - o]? else c[i]?
  | [], o, w, c, h, _ => ⟨c, h, rfl, fun i => by rw [if_neg (by simp)]⟩
  | v :: r, o, w, c, h, hl => by
    obtain ⟨c', h1, h2, h3⟩ := c_heap_setCells b t r (o + 1) (w.setCell ⟨b, o, none⟩ v) _ (heap_setCell_same _ _ _ _ _ _ h) (by simp at hl ⊢; omega)
    refine ⟨c', h1, by simpa using h2, fun i => ?_⟩
    rw [h3, Array.getElem?_setIfInBounds]
    simp only [List.length_cons] at hl ⊢
    by_cases e : o = i
    · subst e; rw [if_neg (by omega), if_pos rfl, if_pos (by omega), if_pos (by omega)]; simp
    · by_cases e2 : o + 1 ≤ i ∧ i < o + 1 + r.length
      · rw [if_pos e2, if_pos (by omega), show i - o = (i - (o + 1)) + 1 by omega]; simp
      · rw [if_neg e2, if_neg e, if_neg (by omega)]
theorem c_heap_setCells_other (b k : Nat) (hk : k ≠ b) : ∀ (vs : List Value) (o : Nat) (w : World), (w.setCells b o vs).heap[k]? = w.heap[k]?
  | [], _, _ => rfl
  | v :: r, o, w => (c_heap_setCells_other b k hk r (o + 1) _).trans (heap_setCell_other w _ k v hk)
theorem c_size_setCells (b : Nat) : ∀ (vs : List Value) (o : Nat) (w : World), (w.setCells b o vs).heap.size = w.heap.size
  | [], _, _ => rfl
  | v :: r, o, w => (c_size_setCells b r (o + 1) _).trans (by simp [World.setCell])
theorem pureAll_len {l l' : List It} (h : It.pureAll l = It.pureAll l') : l.length = l'.length := by
  have := congrArg List.length h
  rwa [It.pureAll_length, It.pureAll_length] at this
theorem pureAll_append (a b : List It) : It.pureAll (a ++ b) = It.pureAll a ++ It.pureAll b := by rw [It.pureAll_eq, It.pureAll_eq, It.pureAll_eq, List.map_append]
/-- One item more is laid into the row. -/
theorem copying_step {w wr w4 : World} {g N i : Nat} {l l' l2 : List It} {c : Array Value} {x : It} {a2 : Option Addr} {bx : Obj} {v : Value}
    (h1 : l'.length = i) (h2 : It.pureAll l' = It.pureAll (l.take i)) (h3 : It.InAll wr (g < ·) l') (h4 : wr.heap[g]? = some (.cells c 184 (0, 0))) (h5 : c.size = N * 4) (h6 : RowAt wr g 0 l') (h7 : Below w.heap.size w wr) (h8 : w.heap.size ≤ g)
    (hlt : i < N) (hx : l[i]? = some x) (hs : x.s.size ≤ maxLen) (hp2 : It.pureAll l2 = It.pureAll x.l) (hl2 : Lies w4 ((wr.alloc bx).heap.size ≤ ·) a2 l2) (hi2 : It.InAll w4 ((wr.alloc bx).heap.size ≤ ·) l2)
    (hb4 : Below (wr.alloc bx).heap.size (wr.alloc bx) w4) (hrow : w4.heap[g]? = some (.cells c 184 (0, 0))) :
    Copying w g N l (i + 1) ((w4.setCell ⟨wr.heap.size, 3, none⟩ v).setCells g (i * 4) [.int .i64 x.k, .int .i64 x.n, .string x.s, .slice a2 x.l.length x.l.length]) := by
  have hg := lt_of_heap h4
  have hln := pureAll_len hp2
  have hsz : (wr.alloc bx).heap.size = wr.heap.size + 1 := by simp
  have hsz4 : wr.heap.size + 1 ≤ w4.heap.size := by have := hb4.size; omega
  have r5 : (w4.setCell ⟨wr.heap.size, 3, none⟩ v).heap[g]? = some (.cells c 184 (0, 0)) := (heap_setCell_other w4 _ g v (by show g ≠ wr.heap.size; omega)).trans hrow
  obtain ⟨c', d1, d2, d3⟩ := c_heap_setCells g 184 [.int .i64 x.k, .int .i64 x.n, .string x.s, .slice a2 x.l.length x.l.length] (i * 4) _ c r5 (by simp; omega)
  have kold : KeptS (g < ·) (g < ·) wr ((w4.setCell ⟨wr.heap.size, 3, none⟩ v).setCells g (i * 4) [.int .i64 x.k, .int .i64 x.n, .string x.s, .slice a2 x.l.length x.l.length]) := by
    refine ⟨fun b hgb hb => ⟨hgb, ?_⟩, ?_⟩
    · rw [c_heap_setCells_other g b (by omega), heap_setCell_other w4 _ b v (by show b ≠ wr.heap.size; omega), hb4.block b (by omega), Lib.alloc_old _ _ _ hb]
    · rw [c_size_setCells]; simp [World.setCell]; omega
  have knew : KeptS ((wr.alloc bx).heap.size ≤ ·) (g < ·) w4 ((w4.setCell ⟨wr.heap.size, 3, none⟩ v).setCells g (i * 4) [.int .i64 x.k, .int .i64 x.n, .string x.s, .slice a2 x.l.length x.l.length]) := by
    refine ⟨fun b hgb hb => ⟨by omega, ?_⟩, ?_⟩
    · rw [c_heap_setCells_other g b (by omega), heap_setCell_other w4 _ b v (by show b ≠ wr.heap.size; omega)]
    · rw [c_size_setCells]; simp [World.setCell]
  refine ⟨l' ++ [.mk x.k x.n x.s a2 x.l.length l2], c', by simp [h1], ?_, ?_, d1, by rw [d2, h5], ?_, ?_, h8⟩
  · rw [List.take_add_one, hx, Option.toList_some, pureAll_append, pureAll_append, h2]
    show _ ++ [Pt.mk x.k x.n x.s (It.pureAll l2)] = _ ++ [x.pure]
    rw [hp2, It.pure_eq x]
  · refine It.inAll_of fun y hy => ?_
    rcases List.mem_append.1 hy with hy | hy
    · exact It.In.kept kold y (It.inAll_mem h3 y hy)
    · obtain rfl := List.mem_singleton.1 hy
      exact ⟨hs, hl2.kept knew, It.InAll.kept knew _ hi2⟩
  · intro j y hy
    rw [Lib.cell_of_heap d1, Lib.cell_of_heap d1, Lib.cell_of_heap d1, Lib.cell_of_heap d1]
    rcases Nat.lt_or_ge j i with hj | hj
    · rw [List.getElem?_append_left (by omega)] at hy
      have := h6 j y hy
      rw [Lib.cell_of_heap h4, Lib.cell_of_heap h4, Lib.cell_of_heap h4, Lib.cell_of_heap h4] at this
      rw [d3, d3, d3, d3, if_neg (by omega), if_neg (by omega), if_neg (by omega), if_neg (by omega)]
      exact this
    · have hji : j = i := by
        have := (List.getElem?_eq_some_iff.1 hy).1
        simp at this; omega
      subst hji
      rw [List.getElem?_append_right (by omega), h1, Nat.sub_self] at hy
      simp only [List.getElem?_cons_zero, Option.some.injEq] at hy
      subst hy
      rw [d3, d3, d3, d3, if_pos (by simp), if_pos (by simp), if_pos (by simp), if_pos (by simp)]
      simp [It.k, It.n, It.s, It.a, It.l, It.cap, hln]
  · refine below_setCells g h8 _ _ _ (Below.setCell ?_ (by show w.heap.size ≤ wr.heap.size; exact h7.size) v)
    exact h7.trans ((((Below.refl _ wr).alloc (Nat.le_refl _) bx).trans (hb4.mono (by omega))).mono h7.size)
def CopyPost (l : List It) (w : World) (e : Ending) (w' : World) : Prop := ∃ a' l', e = .returned (.slice a' l.length l.length) ∧ It.pureAll l' = It.pureAll l ∧ Lies w' (w.heap.size ≤ ·) a' l' ∧ It.InAll w' (w.heap.size ≤ ·) l' ∧ Below w.heap.size w w'
/-- The contract of copied. -/
def CopiesSo (l : List It) : Prop := ∀ (S : Nat → Prop) (a : Option Addr) (cap : Nat) (w : World), Lies w S a l → It.InAll w S l → It.szAll l ≤ 1000000 →
  Calls Tryz.prog 169 #[.slice a l.length cap] w (CopyPost l w)
theorem run_make_items (n : Nat) (h : n ≤ 1000000) (w : World) : (Instr.makeSlice 182 (.int .i64 (n : Int)) (.int .i64 (n : Int))).run Tryz.prog w = .ok (.slice (some ⟨w.heap.size, 0, none⟩) n n) (w.alloc (.cells (madeCells #[.int .i64 0, .int .i64 0, .string ⟨#[]⟩, .slice none 0 0] (n * 4)) 184)) := by
  obtain ⟨i, hi, hzz⟩ := Option.map_eq_some_iff.1 info24
  simp only [Prod.mk.injEq] at hzz
  obtain ⟨hz, hs, hb⟩ := hzz
  have := run_make (P := Tryz.prog) w 182 184 i _ Tryz.underlying182 hi hz .i64 .i64 n n (by omega) (Int.le_refl _) (by rw [hb]; omega) (by omega)
  rw [hs] at this
  simpa [Value.cells] using this
set_option maxRecDepth 100000 in
set_option maxHeartbeats 400000 in
theorem copied_nil : CopiesSo [] := by
  intro S a cap w _ _ _
  simp only [List.length_nil]
  go_enter Tryz.func169, Tryz.ntmps169
  go_wp2_with fail
  go_loop [14] (fun c => c = .int .i64 0) (fun _ => 0)
  case atStart => rfl
  case round =>
    subst hrel
    go_wp2_with fail
    go_ret
    exact ⟨none, [], rfl, rfl, ⟨Nat.zero_le _, fun h => absurd rfl h⟩, trivial, Below.refl _ _⟩
set_option maxRecDepth 100000 in
set_option maxHeartbeats 400000 in
theorem copied_some (l : List It) (hne : l ≠ []) (ih : ∀ y ∈ l, CopiesSo y.l) : CopiesSo l := by
  intro S a cap w hL hA hsz
  have hlen : l.length ≤ 1000000 := by
    have : ∀ l : List It, l.length ≤ It.szAll l := fun l => by
      induction l with
      | nil => simp
      | cons x r ihr => rw [It.szAll, It.sz_eq, List.length_cons]; omega
    have := this l
    omega
  have hpos : 0 < l.length := List.length_pos_iff.2 hne
  have hmk := run_make_items l.length hlen
  obtain ⟨N, hN⟩ : ∃ N, N = l.length := ⟨_, rfl⟩
  rw [← hN] at hmk hlen hpos ⊢
  have hCP : CopyPost l = fun w e w' => ∃ a' l', e = .returned (.slice a' N N) ∧ It.pureAll l' = It.pureAll l ∧ Lies w' (w.heap.size ≤ ·) a' l' ∧ It.InAll w' (w.heap.size ≤ ·) l' ∧ Below w.heap.size w w' := by rw [hN]; rfl
  have HCP := Lib.hid hCP
  clear hCP
  have hposi : (0 : Int) < N := by omega
  have H := Lib.hid (And.intro hN (And.intro hL (And.intro hA (And.intro ih hsz))))
  clear hN hL hA ih hsz
  go_enter Tryz.func169, Tryz.ntmps169
  go_wp2_with fail
  obtain ⟨g, hg⟩ : ∃ g, g = w.heap.size := ⟨_, rfl⟩
  have HC0 : Hid (Copying w g N l 0 (w.alloc (.cells (madeCells #[.int .i64 0, .int .i64 0, .string ⟨#[]⟩, .slice none 0 0] (N * 4)) 184))) :=
    ⟨[], _, rfl, rfl, trivial, by rw [hg]; exact heap_alloc_new _ _, size_madeCells _ _, fun j x hx => by simp at hx, (Below.refl _ _).alloc (Nat.le_refl _) _, by omega⟩
  have HG := Lib.hid hg
  rw [← hg]
  clear hg hmk
  go_loopw [14] (fun c wr => ∃ i : Nat, i ≤ N ∧ c = .int .i64 i ∧ Copying w g N l i wr) (fun c _ => N - (intOf c).toNat)
  case atStart => exact ⟨0, by omega, rfl, HC0.out⟩
  case round =>
    clear HC0
    obtain ⟨i, hi, rfl, hc⟩ := hrel
    have HC := Lib.hid hc
    clear hc
    by_cases hlt : i < N
    · obtain ⟨l', c, h1, h2, h3, h4, h5, h6, h7, h8⟩ := HC.out
      have hL := H.out.2.1.kept (keptS_any h7)
      have hil : i < l.length := by have := H.out.1; omega
      obtain ⟨b, o, x, ha, hbl, -, hx, hmem, c0, c1, c2, c3⟩ := hL.at hil
      subst ha
      have hin := It.inAll_mem H.out.2.2.1 x hmem
      have hcp := fun w' (hb : Below w.heap.size w w') => H.out.2.2.2.1 x hmem S x.a x.cap w' ((It.in_eq w S x ▸ hin).2.1.kept (keptS_any hb)) (It.InAll.kept (keptS_any hb) _ (It.in_eq w S x ▸ hin).2.2)
        (by have q1 := It.sz_mem hmem; have q2 := H.out.2.2.2.2; rw [It.sz_eq] at q1; omega)
      have HX := Lib.hid (And.intro hx (And.intro hmem (And.intro hin hcp)))
      have HR := Lib.hid (And.intro h1 (And.intro h2 (And.intro h3 (And.intro h5 (And.intro h6 (And.intro h7 h8))))))
      have hglt : g < wr.heap.size := Go.Proofs.YtdfkpjmljaanpaaGreatDoor.lt_of_heap h4
      have HH4 := Lib.hid h4
      clear hx hmem hin hcp hL h1 h2 h3 h6 h8
      obtain ⟨xk, xn, xs, xa, xc, xl⟩ := x
      simp only [It.k, It.n, It.s, It.a, It.cap, It.l] at HX c0 c1 c2 c3
      have hbw : Below w.heap.size w (wr.alloc (.cells #[.int .i64 xk, .int .i64 xn, .string xs, .slice xa xl.length xc] 184)) := HR.out.2.2.2.2.2.1.alloc (by have := HR.out.2.2.2.2.2.1.size; omega) _
      have HBW := Lib.hid hbw
      clear hbw h7
      go_wp2_with fail
      refine (HX.out.2.2.2 _ HBW.out).mono ?_
      rintro e w4 ⟨a2, l2, rfl, hp2, hl2, hi2, hb4⟩
      have hbox : w4.heap[wr.heap.size]? = some (.cells #[.int .i64 xk, .int .i64 xn, .string xs, .slice xa xl.length xc] 184 (0, 0)) := by
        rw [hb4.block _ (by simp), heap_alloc_new]
      have hrow : w4.heap[g]? = some (.cells c 184 (0, 0)) := by
        rw [hb4.block _ (by simp; omega), Lib.alloc_old _ _ _ hglt]; exact h4
      have q0 : w4.cell? ⟨wr.heap.size, 0, none⟩ = some (.int .i64 xk) := by rw [Lib.cell_of_heap hbox]; rfl
      have q1 : w4.cell? ⟨wr.heap.size, 1, none⟩ = some (.int .i64 xn) := by rw [Lib.cell_of_heap hbox]; rfl
      have q2 : w4.cell? ⟨wr.heap.size, 2, none⟩ = some (.string xs) := by rw [Lib.cell_of_heap hbox]; rfl
      have q3 : w4.cell? ⟨wr.heap.size, 3, none⟩ = some (.slice xa xl.length xc) := by rw [Lib.cell_of_heap hbox]; rfl
      have f3 : w4.frozen? ⟨wr.heap.size, 3, none⟩ = false := Lib.frozen_of_heap hbox 3
      have hgne : ¬ g = wr.heap.size := by omega
      have hgne2 : ¬ wr.heap.size = g := by omega
      have fg : ∀ j, w4.frozen? ⟨g, j, none⟩ = false := fun j => Lib.frozen_of_heap hrow j
      have cg : ∀ j, j < 4 → ∃ v, w4.cell? ⟨g, i * 4 + j, none⟩ = some v := fun j hj => by
        rw [Lib.cell_of_heap hrow]
        exact ⟨_, Array.getElem?_eq_getElem (by have := HR.out.2.2.2.1; omega)⟩
      obtain ⟨v0, g0⟩ := cg 0 (by omega)
      obtain ⟨v1, g1⟩ := cg 1 (by omega)
      obtain ⟨v2, g2⟩ := cg 2 (by omega)
      obtain ⟨v3, g3⟩ := cg 3 (by omega)
      simp only [Nat.add_zero] at g0
      have HF := Lib.hid (And.intro hp2 (And.intro hl2 (And.intro hi2 (And.intro hb4 (And.intro hbox hrow)))))
      clear hp2 hl2 hi2 hb4 hbox hrow cg h4 h5 c0 c1 c2 c3
      go_wp2_with fail
      have hst := copying_step (v := .slice a2 xl.length xl.length) HR.out.1 HR.out.2.1 HR.out.2.2.1 HH4.out HR.out.2.2.2.1 HR.out.2.2.2.2.1 HR.out.2.2.2.2.2.1 HR.out.2.2.2.2.2.2 hlt HX.out.1 HX.out.2.2.1.1 HF.out.1 HF.out.2.1 HF.out.2.2.1 HF.out.2.2.2.1 HF.out.2.2.2.2.2
      go_roundw
      case rel => exact ⟨i + 1, by omega, by go_num, hst⟩
      case measure => simp [intOf]; omega
    · obtain rfl : i = N := by omega
      obtain ⟨l', c, h1, h2, h3, h4, h5, h6, h7, h8⟩ := HC.out
      rw [H.out.1, List.take_length] at h2
      have HF := Lib.hid (And.intro h1 (And.intro h2 (And.intro h3 (And.intro h4 (And.intro h6 (And.intro h7 h8))))))
      clear h1 h2 h3 h4 h5 h6 h7 h8
      go_wp2_with fail
      go_ret
      rw [HCP.out]
      obtain ⟨h1, h2, h3, h4, h6, h7, h8⟩ := HF.out
      refine ⟨some ⟨g, 0, none⟩, l', rfl, h2, ⟨by unfold maxLen; omega, fun _ => ⟨g, 0, rfl, lt_of_heap h4, h8, h6⟩⟩, ?_, h7⟩
      exact It.InAll.kept (S := (g < ·)) ⟨fun b hb _ => ⟨by omega, rfl⟩, Nat.le_refl _⟩ _ h3
theorem copied_any : ∀ (N : Nat) (l : List It), It.szAll l ≤ N → CopiesSo l
  | 0, [], _ => copied_nil
  | 0, x :: r, h => by rw [It.szAll, It.sz_eq] at h; omega
  | N + 1, [], _ => copied_nil
  | N + 1, x :: r, h => copied_some _ (by simp) fun y hy => copied_any N y.l (by have := It.sz_mem hy; rw [It.sz_eq] at this; omega)
/-- What List hands back. -/
def ListPost (l : List It) (w : World) (e : Ending) (w' : World) : Prop := ∃ x : It, e = .returned x.val ∧ x.pure = .mk 3 0 ⟨#[]⟩ (It.pureAll l) ∧ x.In w' (w.heap.size ≤ ·) ∧ Below w.heap.size w w'
set_option maxRecDepth 100000 in
set_option maxHeartbeats 400000 in
theorem list_any (S : Nat → Prop) (l : List It) (a : Option Addr) (cap : Nat) (w : World) (hL : Lies w S a l) (hA : It.InAll w S l) (hsz : It.szAll l ≤ 1000000) :
    Calls Tryz.prog 106 #[.slice a l.length cap] w (ListPost l w) := by
  have hcp := fun w' (hb : Below w.heap.size w w') => copied_any _ l (Nat.le_refl _) S a cap w' (hL.kept (keptS_any hb)) (It.InAll.kept (keptS_any hb) _ hA) hsz
  obtain ⟨N, hN⟩ : ∃ N, N = l.length := ⟨_, rfl⟩
  rw [← hN] at hcp ⊢
  have H := Lib.hid (And.intro hcp hN)
  clear hcp hN hL hA hsz
  go_enter Tryz.func106, Tryz.ntmps106
  go_wp2_with fail
  refine (H.out.1 _ ((Below.refl _ _).alloc (Nat.le_refl _) _)).mono ?_
  rintro e w4 ⟨a', l', rfl, hp, hl, hi, hb4⟩
  rw [← H.out.2]
  have hrow : w4.heap[w.heap.size]? = some (.cells #[.int .i64 0, .int .i64 0, .string ⟨#[]⟩, .slice none 0 0] 184 (0, 0)) := by
    rw [hb4.block _ (by simp), heap_alloc_new]
  have f : ∀ j, w4.frozen? ⟨w.heap.size, j, none⟩ = false := fun j => Lib.frozen_of_heap hrow j
  have q0 : w4.cell? ⟨w.heap.size, 0, none⟩ = some (.int .i64 0) := by rw [Lib.cell_of_heap hrow]; rfl
  have q1 : w4.cell? ⟨w.heap.size, 1, none⟩ = some (.int .i64 0) := by rw [Lib.cell_of_heap hrow]; rfl
  have q2 : w4.cell? ⟨w.heap.size, 2, none⟩ = some (.string ⟨#[]⟩) := by rw [Lib.cell_of_heap hrow]; rfl
  have q3 : w4.cell? ⟨w.heap.size, 3, none⟩ = some (.slice none 0 0) := by rw [Lib.cell_of_heap hrow]; rfl
  have HF := Lib.hid (And.intro hp (And.intro hl (And.intro hi (And.intro hb4 hrow))))
  clear hp hl hi hb4 hrow
  go_wp2_with fail
  refine bodyPost_ret (v := .agg #[.int .i64 3, .int .i64 0, .string ⟨#[]⟩, .slice a' N N]) (by simp [results, Tryz.results106, go_sem, q0, q1, q2, q3]) rfl ?_
  obtain ⟨hp, hl, hi, hb4, hrow⟩ := HF.out
  have hk : KeptS ((w.alloc (.cells #[.int .i64 0, .int .i64 0, .string ⟨#[]⟩, .slice none 0 0] 184)).heap.size ≤ ·) (w.heap.size ≤ ·) w4 (w4.setCells w.heap.size 0 [.int .i64 3, .int .i64 0, .string ⟨#[]⟩, .slice a' N N]) := by
    refine ⟨fun b hgb hb => ⟨by simp at hgb; omega, c_heap_setCells_other _ _ (by simp at hgb; omega) _ _ _⟩, by rw [c_size_setCells]; exact Nat.le_refl _⟩
  have hn := pureAll_len hp
  refine ⟨.mk 3 0 ⟨#[]⟩ a' N l', ?_, ?_, ⟨Nat.zero_le _, hl.kept hk, It.InAll.kept hk _ hi⟩, ?_⟩
  · simp [It.val, It.cells, It.k, It.n, It.s, It.a, It.l, It.cap, hn, H.out.2]
  · rw [It.pure_eq]; show Pt.mk 3 0 ⟨#[]⟩ (It.pureAll l') = _; rw [hp]
  · refine below_setCells w.heap.size (Nat.le_refl _) [.int .i64 3, .int .i64 0, .string ⟨#[]⟩, .slice a' N N] 0 w4 ?_
    exact ((Below.refl _ _).alloc (Nat.le_refl _) _).trans (hb4.mono (by simp))
end Go.Proofs.YtdfkpjmljaanpaaGreatDoor
namespace Go.Proofs.YtdfkpjmljaanpaaGreatDoor
open Go.RowKit
open Cn
/-- A reader in a block: the text, the place, how many are owed. -/
def Rd (s : ByteArray) (g p ow : Nat) (w : World) : Prop := w.heap[g]? = some (.cells #[.string s, .int .i64 p, .int .i64 ow] 302 (0, 0))
/-- What a reader's call leaves: new blocks, and the reader's own. -/
def RdKept (g : Nat) (w w' : World) : Prop := Below g w w' ∧ ∀ b, b < w.heap.size → b ≠ g → w'.heap[b]? = w.heap[b]?
theorem RdKept.trans {g : Nat} {a b c : World} (h : RdKept g a b) (k : RdKept g b c) : RdKept g a c :=
  ⟨h.1.trans k.1, fun i hi hne => (k.2 i (by have := h.1.size; omega) hne).trans (h.2 i hi hne)⟩
theorem RdKept.refl (g : Nat) (w : World) : RdKept g w w := ⟨Below.refl _ _, fun _ _ _ => rfl⟩
theorem RdKept.size {g : Nat} {w w' : World} (h : RdKept g w w') : w.heap.size ≤ w'.heap.size := h.1.size
theorem RdKept.setCell {g : Nat} {w w' : World} (h : RdKept g w w') (i : Nat) (v : Value) : RdKept g w (w'.setCell ⟨g, i, none⟩ v) :=
  ⟨h.1.setCell (p := ⟨g, i, none⟩) (Nat.le_refl _) v, fun b hb hne => (heap_setCell_other w' _ b v hne).trans (h.2 b hb hne)⟩
theorem RdKept.alloc {g : Nat} {w w' : World} (h : RdKept g w w') (hg : g < w.heap.size) (o : Obj) : RdKept g w (w'.alloc o) :=
  ⟨h.1.alloc (by have := h.1.size; omega) o, fun b hb hne => (Lib.alloc_old _ _ _ (by have := h.1.size; omega)).trans (h.2 b hb hne)⟩
theorem RdKept.drew {g : Nat} {w w' : World} (h : RdKept g w w') : RdKept g w w'.drew := ⟨h.1.drew, h.2⟩
theorem below_drewN {B : Nat} {a w : World} (h : Below B a w) : ∀ n, Below B a (w.drewN n)
  | 0 => h
  | n + 1 => (below_drewN h n).drew
theorem RdKept.drewN {g : Nat} {w w' : World} (h : RdKept g w w') (n : Nat) : RdKept g w (w'.drewN n) := ⟨below_drewN h.1 n, h.2⟩
theorem heap_drewN (w : World) : ∀ n, (w.drewN n).heap = w.heap
  | 0 => rfl
  | n + 1 => heap_drewN w n
theorem Rd.drewN {s : ByteArray} {g p ow : Nat} {w : World} (h : Rd s g p ow w) (n : Nat) : Rd s g p ow (w.drewN n) := by unfold Rd at h ⊢; rw [heap_drewN]; exact h
theorem Rd.c0 {s : ByteArray} {g p ow : Nat} {w : World} (h : Rd s g p ow w) : w.cell? ⟨g, 0, none⟩ = some (.string s) := by rw [Lib.cell_of_heap h]; rfl
theorem Rd.c1 {s : ByteArray} {g p ow : Nat} {w : World} (h : Rd s g p ow w) : w.cell? ⟨g, 1, none⟩ = some (.int .i64 p) := by rw [Lib.cell_of_heap h]; rfl
theorem Rd.c2 {s : ByteArray} {g p ow : Nat} {w : World} (h : Rd s g p ow w) : w.cell? ⟨g, 2, none⟩ = some (.int .i64 ow) := by rw [Lib.cell_of_heap h]; rfl
theorem Rd.f {s : ByteArray} {g p ow : Nat} {w : World} (h : Rd s g p ow w) (i : Nat) : w.frozen? ⟨g, i, none⟩ = false := Lib.frozen_of_heap h i
theorem Rd.lt {s : ByteArray} {g p ow : Nat} {w : World} (h : Rd s g p ow w) : g < w.heap.size := lt_of_heap h
end Go.Proofs.YtdfkpjmljaanpaaGreatDoor
