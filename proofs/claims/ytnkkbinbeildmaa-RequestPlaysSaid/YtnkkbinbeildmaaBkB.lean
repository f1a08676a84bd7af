/- request: find, New, State, judge, Approve, Deny, Revoke. -/
import Derived.Test.YtnkkbinbeildmaaBkA
namespace Go.Proofs.Ytnkkbinbeildmaa
open Go.RowKit
theorem BkAt.at {B b : Nat} {w : World} {R : Option Nat} {l : List En} (h : BkAt B w b R l) {i : Nat} {x : En} (hi : l[i]? = some x) :
    ∃ g cap, R = some g ∧ w.cell? ⟨b, 0, none⟩ = some (.slice (some ⟨g, 0, none⟩) l.length cap) ∧ g < w.heap.size ∧ g ≠ b ∧ w.frozen? ⟨g, i * 6 + 5, none⟩ = false ∧
      w.cell? ⟨g, i * 6, none⟩ = some (.int .i64 x.q.id) ∧ w.cell? ⟨g, i * 6 + 1, none⟩ = some (.string x.q.who) ∧ w.cell? ⟨g, i * 6 + 2, none⟩ = some (.int .i64 x.q.entry) ∧ w.cell? ⟨g, i * 6 + 3, none⟩ = some (.string x.q.reason) ∧ w.cell? ⟨g, i * 6 + 4, none⟩ = some (.int .i64 x.q.exp) ∧ w.cell? ⟨g, i * 6 + 5, none⟩ = some (.int .i64 x.st) := by
  have hrow := h.row
  obtain ⟨-, ad, cap, h1, h2, h3⟩ := h
  obtain ⟨g, rfl, -, hg, hm⟩ := h2.at en_size hi
  have hR : R = some g := h3
  have h0 := hm 0 (by omega)
  simp only [Nat.add_zero] at h0
  exact ⟨g, cap, hR, by simp [World.cell?, h1], hg, (hrow g hR).2.2, World.ownsRow.frozenAt h2 _, h0, hm 1 (by omega), hm 2 (by omega), hm 3 (by omega), hm 4 (by omega), hm 5 (by omega)⟩
theorem bIdx_at {l : List En} {id : Int} {x : En} (hx : l[Bk.findN l id]? = some x) : bIdx l id = ((Bk.findN l id : Nat) : Int) := by
  unfold bIdx; rw [if_pos (List.getElem?_eq_some_iff.1 hx).1]
theorem bIdx_no {l : List En} {id : Int} (hx : l[Bk.findN l id]? = none) : bIdx l id = -1 := by
  unfold bIdx; rw [if_neg (by rw [List.getElem?_eq_none_iff] at hx; omega)]
variable {B b : Nat} {w : World} {R : Option Nat} {l : List En}
theorem BkAt.get (h : BkAt B w b R l) (id : Int) : Calls Try.prog 59 #[.pointer (some ⟨b, 0, none⟩), .int .i64 id] w fun e w' => e = .returned (.int .i64 (bIdx l id)) ∧ Below w.heap.size w w' := by
  obtain ⟨ad, cap, h1, h2, h3, h4⟩ := h.open
  exact bget_any h1 h2 h3 h4 id

set_option maxRecDepth 100000 in
theorem bfind_neg (id now : Int) (hn : now < 0) (w : World) (b : Nat) : Calls Try.prog 63 #[.pointer (some ⟨b, 0, none⟩), .int .i64 id, .int .i64 now] w fun e w' => ∃ fb op, e = .returned (.tuple #[.pointer none, .iface 109 (.pointer (some ⟨fb, 0, none⟩))]) ∧ FaultAt w' fb op id 1 ∧ Below w.heap.size w w' := by
  go_enter Try.func63, Try.ntmps63
  go_wp2_with fail
  refine (rqfault_any _ _ _).mono ?_
  rintro e w1 ⟨fb, op, rfl, hf, hb⟩
  go_wp2_with fail
  go_ret2
  exact ⟨_, _, rfl, hf, hb⟩
set_option maxRecDepth 100000 in
theorem bfind_far (id now : Int) (hn : 1099511627776 < now) (w : World) (b : Nat) : Calls Try.prog 63 #[.pointer (some ⟨b, 0, none⟩), .int .i64 id, .int .i64 now] w fun e w' => ∃ fb op, e = .returned (.tuple #[.pointer none, .iface 109 (.pointer (some ⟨fb, 0, none⟩))]) ∧ FaultAt w' fb op id 1 ∧ Below w.heap.size w w' := by
  have g0 : ¬ (now < 0) := by omega
  go_enter Try.func63, Try.ntmps63
  go_wp2_with fail
  refine (rqfault_any _ _ _).mono ?_
  rintro e w1 ⟨fb, op, rfl, hf, hb⟩
  go_wp2_with fail
  go_ret2
  exact ⟨_, _, rfl, hf, hb⟩
theorem bfind_bad (id now : Int) (hn : Py.inB now 0 1099511627776 = false) (w : World) (b : Nat) : Calls Try.prog 63 #[.pointer (some ⟨b, 0, none⟩), .int .i64 id, .int .i64 now] w fun e w' => ∃ fb op, e = .returned (.tuple #[.pointer none, .iface 109 (.pointer (some ⟨fb, 0, none⟩))]) ∧ FaultAt w' fb op id 1 ∧ Below w.heap.size w w' := by
  by_cases h : now < 0
  · exact bfind_neg id now h w b
  · by_cases h2 : 1099511627776 < now
    · exact bfind_far id now h2 w b
    · exfalso
      unfold Py.inB at hn
      rw [decide_eq_true (by omega), decide_eq_true (by omega)] at hn
      cases hn
theorem inB_true {x a b : Int} (h : Py.inB x a b = true) : a ≤ x ∧ x ≤ b := by
  simpa [Py.inB] using h
set_option maxRecDepth 100000 in
theorem BkAt.findNo (h : BkAt B w b R l) (id now : Int) (hn : Py.inB now 0 1099511627776 = true) (hx : l[Bk.findN l id]? = none) : Calls Try.prog 63 #[.pointer (some ⟨b, 0, none⟩), .int .i64 id, .int .i64 now] w fun e w' => ∃ fb op, e = .returned (.tuple #[.pointer none, .iface 109 (.pointer (some ⟨fb, 0, none⟩))]) ∧ FaultAt w' fb op id 4 ∧ Below w.heap.size w w' := by
  obtain ⟨g0, g1⟩ := inB_true hn
  have hget := h.get id
  rw [bIdx_no hx] at hget
  have H := Lib.hid hget
  clear hget hn h hx
  have g0' : ¬ (now < 0) := by omega
  have g1' : ¬ (1099511627776 < now) := by omega
  go_enter Try.func63, Try.ntmps63
  go_wp2_with fail
  refine H.out.mono ?_
  rintro e w1 ⟨rfl, hb1⟩
  go_wp2_with fail
  refine (rqfault_any _ _ _).mono ?_
  rintro e w2 ⟨fb, op, rfl, hf, hb⟩
  go_wp2_with fail
  go_ret2
  exact ⟨_, _, rfl, hf, hb1.trans (hb.mono hb1.size)⟩
set_option maxRecDepth 100000 in
theorem BkAt.findAt (h : BkAt B w b R l) (id now : Int) (hn : Py.inB now 0 1099511627776 = true) {x : En} (hx : l[Bk.findN l id]? = some x) {g : Nat} (hg : R = some g) : Calls Try.prog 63 #[.pointer (some ⟨b, 0, none⟩), .int .i64 id, .int .i64 now] w fun e w' => e = .returned (.tuple #[.pointer (some ⟨g, Bk.findN l id * 6, none⟩), .nilIface]) ∧ Below w.heap.size w w' := by
  obtain ⟨g0, g1⟩ := inB_true hn
  have hget := h.get id
  have hlt := (List.getElem?_eq_some_iff.1 hx).1
  rw [bIdx_at hx] at hget
  have hopen := fun (W : World) (hb : Below w.heap.size w W) => (h.below hb).at hx
  obtain ⟨-, -, -, -, hmx⟩ := h.open
  obtain ⟨i, hi⟩ : ∃ i, i = Bk.findN l id := ⟨_, rfl⟩
  obtain ⟨n, hln⟩ : ∃ n, n = l.length := ⟨_, rfl⟩
  rw [← hi] at hget hlt hopen ⊢
  rw [← hln] at hlt hopen hmx
  have H := Lib.hid (And.intro hget hopen)
  clear hget hn h hx hi hln hopen
  have g0' : ¬ (now < 0) := by omega
  have g1' : ¬ (1099511627776 < now) := by omega
  go_enter Try.func63, Try.ntmps63
  go_wp2_with fail
  refine H.out.1.mono ?_
  rintro e w1 ⟨rfl, hb1⟩
  obtain ⟨g', cap, hg', hc, hgl, -⟩ := H.out.2 w1 hb1
  obtain rfl : g = g' := by rw [hg] at hg'; injection hg'
  have HB := Lib.hid hb1
  clear hb1 hg hg'
  go_wp2_with fail
  go_ret2
  exact ⟨by simp, HB.out⟩
set_option maxRecDepth 100000 in
theorem bnew_any (w : World) : Calls Try.prog 23 #[] w fun e w' => e = .returned (.pointer (some ⟨w.heap.size, 0, none⟩)) ∧ BkAt w.heap.size w' w.heap.size none [] ∧ Below w.heap.size w w' ∧ w'.heap.size = w.heap.size + 1 := by
  go_enter Try.func23, Try.ntmps23
  go_wp2_with fail
  go_ret
  exact ⟨rfl, ⟨Nat.le_refl _, none, 0, heap_alloc_new _ _, OwnR.nil _ _ _ _ _, rfl⟩, (Below.refl _ _).alloc (Nat.le_refl _) _, by simp⟩
set_option maxRecDepth 100000 in
theorem BkAt.state (h : BkAt B w b R l) (id now : Int) : Calls Try.prog 30 #[.pointer (some ⟨b, 0, none⟩), .int .i64 id, .int .i64 now] w fun e w' => e = .returned (.int .i64 (Bk.stateI l id now)) ∧ Below w.heap.size w w' := by
  have hget := h.get id
  unfold Bk.stateI
  cases hx : l[Bk.findN l id]? with
  | none =>
    rw [bIdx_no hx] at hget
    have H := Lib.hid hget
    clear hget h hx
    simp only
    go_enter Try.func30, Try.ntmps30
    go_wp2_with fail
    refine H.out.mono ?_
    rintro e w1 ⟨rfl, hb1⟩
    go_wp2_with fail
    go_ret
    exact ⟨rfl, hb1⟩
  | some x =>
    have hlt := (List.getElem?_eq_some_iff.1 hx).1
    rw [bIdx_at hx] at hget
    have hopen := fun (W : World) (hb : Below w.heap.size w W) => (h.below hb).at hx
    obtain ⟨-, -, -, -, hmx⟩ := h.open
    have hat := fun W => bat_any x now W
    simp only
    obtain ⟨i, hi⟩ : ∃ i, i = Bk.findN l id := ⟨_, rfl⟩
    obtain ⟨n, hln⟩ : ∃ n, n = l.length := ⟨_, rfl⟩
    rw [← hi] at hget hlt hopen
    rw [← hln] at hlt hopen hmx
    have H := Lib.hid (And.intro hget (And.intro hopen hat))
    clear hget h hx hi hln hopen hat
    go_enter Try.func30, Try.ntmps30
    go_wp2_with fail
    refine H.out.1.mono ?_
    rintro e w1 ⟨rfl, hb1⟩
    obtain ⟨g, cap, -, hc, hgl, -, -, q0, q1, q2, q3, q4, q5⟩ := H.out.2.1 w1 hb1
    have HB := Lib.hid hb1
    clear hb1
    go_wp2_with fail
    refine (H.out.2.2 _).mono ?_
    rintro e w2 ⟨rfl, hb2⟩
    go_wp2_with fail
    go_ret
    exact ⟨rfl, HB.out.trans (hb2.mono HB.out.size)⟩

/-- What judging one entry gives. -/
def judR (l : List En) (a : Bk.Act) : List En := ((Bk.doI l a).1).getD l
/-- How an act ends in memory. -/
def ActPost (B b : Nat) (R : Option Nat) (w : World) (l : List En) (a : Bk.Act) (e : Ending) (w' : World) : Prop :=
  ∃ v, e = .returned v ∧ ErrAt w' v (Bk.doI l a).2 ∧ BkAt B w' b R (Bk.after l a) ∧ KeptB b R w w'
theorem actPost_err {w' : World} {a : Bk.Act} {fb : Nat} {op : ByteArray} {n c : Int} (h : BkAt B w b R l) (hd : Bk.doI l a = (none, c)) (hc : c ≠ 0) (hf : FaultAt w' fb op n c) (hb : Below w.heap.size w w') :
    ActPost B b R w l a (.returned (.iface 109 (.pointer (some ⟨fb, 0, none⟩)))) w' :=
  ⟨_, rfl, by rw [hd]; exact .inr ⟨hc, fb, op, n, rfl, hf⟩, by unfold Bk.after; rw [hd]; exact h.below hb, KeptB.of hb⟩

set_option maxRecDepth 100000 in
set_option maxHeartbeats 1000000 in
theorem BkAt.judge (h : BkAt B w b R l) (k : Int) (hk : k = 1 ∨ k = 2) (q : Py.Q) (who : ByteArray) (id now : Int) : Calls Try.prog 76 #[.pointer (some ⟨b, 0, none⟩), .int .i64 id, .int .i64 now, .int .i64 (k + 1)] w fun e w' => ActPost B b R w l ⟨k, q, id, who, now⟩ e w' := by
  obtain ⟨a, ha⟩ : ∃ a : Bk.Act, a = ⟨k, q, id, who, now⟩ := ⟨_, rfl⟩
  rw [← ha]
  have hkd : a.kind ≠ 0 := by rw [ha]; show k ≠ 0; omega
  have hid : a.id = id := by rw [ha]
  have hnow : a.now = now := by rw [ha]
  have hkind : a.kind = k := by rw [ha]
  have hwho : a.who = who := by rw [ha]
  clear ha
  cases hn : Py.inB now 0 1099511627776 with
  | false =>
    have hd : Bk.doI l a = (none, 1) := by unfold Bk.doI; rw [hnow, hn, if_pos rfl]
    have hend := fun (W : World) (fb : Nat) (op : ByteArray) (n : Int) (hf : FaultAt W fb op n 1) (hb : Below w.heap.size w W) => actPost_err h hd (by decide) hf hb
    have hfind := bfind_bad id now hn w b
    have H := Lib.hid (And.intro hfind hend)
    clear hfind hend hd hkd hid hnow hkind hwho hn
    go_enter Try.func76, Try.ntmps76
    go_wp2_with fail
    refine H.out.1.mono ?_
    rintro e w1 ⟨fb, op, rfl, hf, hb⟩
    go_wp2_with fail
    go_ret
    exact H.out.2 _ _ _ _ hf hb
  | true =>
    cases hx : l[Bk.findN l id]? with
    | none =>
      have hd : Bk.doI l a = (none, 4) := by unfold Bk.doI; rw [hnow, hn, if_neg (by decide), if_neg hkd, hid, hx]
      have hend := fun (W : World) (fb : Nat) (op : ByteArray) (n : Int) (hf : FaultAt W fb op n 4) (hb : Below w.heap.size w W) => actPost_err h hd (by decide) hf hb
      have hfind := h.findNo id now hn hx
      have H := Lib.hid (And.intro hfind hend)
      clear hfind hend hd hkd hid hnow hkind hwho hn hx
      go_enter Try.func76, Try.ntmps76
      go_wp2_with fail
      refine H.out.1.mono ?_
      rintro e w1 ⟨fb, op, rfl, hf, hb⟩
      go_wp2_with fail
      go_ret
      exact H.out.2 _ _ _ _ hf hb
    | some x =>
      have hd : Bk.doI l a = if Bk.judI x a = 0 then (some (Bk.setS l (Bk.findN l id) (k + 1)), 0) else (none, Bk.judI x a) := by
        unfold Bk.doI; rw [hnow, hn, if_neg (by decide), if_neg hkd, hid, hx, hkind]
      obtain ⟨g, cap, hg, -⟩ := h.at hx
      have hfind := h.findAt id now hn hx hg
      have hopen := fun (W : World) (hb : Below w.heap.size w W) => (h.below hb).at hx
      have hat := fun W => bat_any x now W
      have hset := fun (W : World) (hb : Below w.heap.size w W) (s : Int) => (h.below hb).setState hx s hg
      have hend := fun (c : Int) (hd : Bk.doI l a = (none, c)) (hc : c ≠ 0) (W : World) (fb : Nat) (op : ByteArray) (n : Int) (hf : FaultAt W fb op n c) (hb : Below w.heap.size w W) => actPost_err h hd hc hf hb
      have hju : Bk.judI x a = (if k = 3 ∧ x.q.who ≠ a.who then 10 else if Bk.atI x now = 5 then 11 else if Bk.atI x now = k + 1 then 5 else if Bk.atI x now = 1 ∨ (k = 3 ∧ Bk.atI x now = 2) then 0 else 10) := by
        unfold Bk.judI; rw [hkind, hnow]
      obtain ⟨J, hJ⟩ : ∃ J, J = Bk.judI x a := ⟨_, rfl⟩
      rw [← hJ] at hd hju
      obtain ⟨i, hi⟩ : ∃ i, i = Bk.findN l id := ⟨_, rfl⟩
      obtain ⟨s, hs⟩ : ∃ s, s = Bk.atI x now := ⟨_, rfl⟩
      rw [← hi] at hfind hopen hset hd
      rw [← hs] at hju hat
      have H := Lib.hid (And.intro hfind (And.intro hopen (And.intro hat (And.intro hset (And.intro hend (And.intro True.intro (And.intro hg hs)))))))
      clear hfind hopen hat hset hend hkd hid hnow hkind hwho hn hx hi hs hJ
      rw [if_neg (fun e => by omega)] at hju
      by_cases h5 : s = 5
      · rw [if_pos h5] at hju
        rw [hju, if_neg (by decide)] at hd
        have g5 : (s == 5) = true := by simpa using h5
        clear h5
        have HD := Lib.hid hd
        clear hd hg hju
        go_enter Try.func76, Try.ntmps76
        go_wp2_with fail
        refine H.out.1.mono ?_
        rintro e w1 ⟨rfl, hb1⟩
        obtain ⟨g', cap, hg', hc, hgl, hgb, hfz, q0, q1, q2, q3, q4, q5⟩ := H.out.2.1 w1 hb1
        obtain rfl : g = g' := by have := H.out.2.2.2.2.2.2.1; rw [this] at hg'; injection hg'
        have HB := Lib.hid hb1
        clear hb1 hg'
        go_wp2_with fail
        refine (H.out.2.2.1 _).mono ?_
        rintro e w2 ⟨rfl, hb2⟩
        have HB2 := Lib.hid (HB.out.trans (hb2.mono HB.out.size))
        clear hb2 q0 q1 q2 q3 q4 q5 hc hfz hgl
        obtain ⟨g3, cap3, hg3, hc, hgl, hgb3, hfz, q0, q1, q2, q3, q4, q5⟩ := H.out.2.1 w2 HB2.out
        obtain rfl : g = g3 := by have := H.out.2.2.2.2.2.2.1; rw [this] at hg3; injection hg3
        clear hg3
        go_wp2_with fail
        refine (rqfault_any _ _ _).mono ?_
        rintro e w3 ⟨fb, op, rfl, hf, hb3⟩
        go_wp2_with fail
        go_ret
        exact H.out.2.2.2.2.1 _ HD.out (by decide) _ _ _ _ hf (HB2.out.trans (hb3.mono HB2.out.size))
      rw [if_neg h5] at hju
      have g5 : (s == 5) = false := by simpa using h5
      clear h5
      by_cases hs : s = k + 1
      · rw [if_pos hs] at hju
        rw [hju, if_neg (by decide)] at hd
        have g6 : (s == k + 1) = true := by simpa using hs
        clear hs
        have HD := Lib.hid hd
        clear hd hg hju
        go_enter Try.func76, Try.ntmps76
        go_wp2_with fail
        refine H.out.1.mono ?_
        rintro e w1 ⟨rfl, hb1⟩
        obtain ⟨g', cap, hg', hc, hgl, hgb, hfz, q0, q1, q2, q3, q4, q5⟩ := H.out.2.1 w1 hb1
        obtain rfl : g = g' := by have := H.out.2.2.2.2.2.2.1; rw [this] at hg'; injection hg'
        have HB := Lib.hid hb1
        clear hb1 hg'
        go_wp2_with fail
        refine (H.out.2.2.1 _).mono ?_
        rintro e w2 ⟨rfl, hb2⟩
        have HB2 := Lib.hid (HB.out.trans (hb2.mono HB.out.size))
        clear hb2 q0 q1 q2 q3 q4 q5 hc hfz hgl
        obtain ⟨g3, cap3, hg3, hc, hgl, hgb3, hfz, q0, q1, q2, q3, q4, q5⟩ := H.out.2.1 w2 HB2.out
        obtain rfl : g = g3 := by have := H.out.2.2.2.2.2.2.1; rw [this] at hg3; injection hg3
        clear hg3
        go_wp2_with fail
        refine (rqfault_any _ _ _).mono ?_
        rintro e w3 ⟨fb, op, rfl, hf, hb3⟩
        go_wp2_with fail
        go_ret
        exact H.out.2.2.2.2.1 _ HD.out (by decide) _ _ _ _ hf (HB2.out.trans (hb3.mono HB2.out.size))
      rw [if_neg hs] at hju
      have g6 : (s == k + 1) = false := by simpa using hs
      clear hs
      by_cases h1 : s = 1
      · rw [if_pos (.inl h1)] at hju
        rw [hju, if_pos rfl] at hd
        have g1 : (s == 1) = true := by simpa using h1
        clear h1
        have HD := Lib.hid hd
        clear hd hg hju
        go_enter Try.func76, Try.ntmps76
        go_wp2_with fail
        refine H.out.1.mono ?_
        rintro e w1 ⟨rfl, hb1⟩
        obtain ⟨g', cap, hg', hc, hgl, hgb, hfz, q0, q1, q2, q3, q4, q5⟩ := H.out.2.1 w1 hb1
        obtain rfl : g = g' := by have := H.out.2.2.2.2.2.2.1; rw [this] at hg'; injection hg'
        have HB := Lib.hid hb1
        clear hb1 hg'
        go_wp2_with fail
        refine (H.out.2.2.1 _).mono ?_
        rintro e w2 ⟨rfl, hb2⟩
        have HB2 := Lib.hid (HB.out.trans (hb2.mono HB.out.size))
        clear hb2 q0 q1 q2 q3 q4 q5 hc hfz hgl
        obtain ⟨g3, cap3, hg3, hc, hgl, hgb3, hfz, q0, q1, q2, q3, q4, q5⟩ := H.out.2.1 w2 HB2.out
        obtain rfl : g = g3 := by have := H.out.2.2.2.2.2.2.1; rw [this] at hg3; injection hg3
        clear hg3
        go_wp2_with fail
        obtain ⟨hbk, hkp⟩ := H.out.2.2.2.1 w2 HB2.out (k + 1)
        go_ret
        exact ⟨_, rfl, by rw [HD.out]; exact .inl ⟨rfl, rfl⟩, by unfold Bk.after; rw [HD.out]; exact hbk, KeptB.pre HB2.out hkp⟩
      rw [if_neg (fun e => by omega)] at hju
      rw [hju, if_neg (by decide)] at hd
      have g1 : (s == 1) = false := by simpa using h1
      clear h1
      have HD := Lib.hid hd
      clear hd hg hju
      go_enter Try.func76, Try.ntmps76
      go_wp2_with fail
      refine H.out.1.mono ?_
      rintro e w1 ⟨rfl, hb1⟩
      obtain ⟨g', cap, hg', hc, hgl, hgb, hfz, q0, q1, q2, q3, q4, q5⟩ := H.out.2.1 w1 hb1
      obtain rfl : g = g' := by have := H.out.2.2.2.2.2.2.1; rw [this] at hg'; injection hg'
      have HB := Lib.hid hb1
      clear hb1 hg'
      go_wp2_with fail
      refine (H.out.2.2.1 _).mono ?_
      rintro e w2 ⟨rfl, hb2⟩
      have HB2 := Lib.hid (HB.out.trans (hb2.mono HB.out.size))
      clear hb2 q0 q1 q2 q3 q4 q5 hc hfz hgl
      obtain ⟨g3, cap3, hg3, hc, hgl, hgb3, hfz, q0, q1, q2, q3, q4, q5⟩ := H.out.2.1 w2 HB2.out
      obtain rfl : g = g3 := by have := H.out.2.2.2.2.2.2.1; rw [this] at hg3; injection hg3
      clear hg3
      go_wp2_with fail
      refine (rqfault_any _ _ _).mono ?_
      rintro e w3 ⟨fb, op, rfl, hf, hb3⟩
      go_wp2_with fail
      go_ret
      exact H.out.2.2.2.2.1 _ HD.out (by decide) _ _ _ _ hf (HB2.out.trans (hb3.mono HB2.out.size))
set_option maxRecDepth 100000 in
theorem BkAt.approve (h : BkAt B w b R l) (q : Py.Q) (who : ByteArray) (id now : Int) : Calls Try.prog 51 #[.pointer (some ⟨b, 0, none⟩), .int .i64 id, .int .i64 now] w fun e w' => ActPost B b R w l ⟨1, q, id, who, now⟩ e w' := by
  have hj := h.judge 1 (by omega) q who id now
  have H := Lib.hid hj
  clear hj h
  go_enter Try.func51, Try.ntmps51
  go_wp2_with fail
  refine H.out.mono ?_
  rintro e w1 ⟨v, rfl, hp⟩
  go_wp2_with fail
  go_ret
  exact ⟨v, rfl, hp⟩
set_option maxRecDepth 100000 in
theorem BkAt.deny (h : BkAt B w b R l) (q : Py.Q) (who : ByteArray) (id now : Int) : Calls Try.prog 52 #[.pointer (some ⟨b, 0, none⟩), .int .i64 id, .int .i64 now] w fun e w' => ActPost B b R w l ⟨2, q, id, who, now⟩ e w' := by
  have hj := h.judge 2 (by omega) q who id now
  have H := Lib.hid hj
  clear hj h
  go_enter Try.func52, Try.ntmps52
  go_wp2_with fail
  refine H.out.mono ?_
  rintro e w1 ⟨v, rfl, hp⟩
  go_wp2_with fail
  go_ret
  exact ⟨v, rfl, hp⟩
set_option maxRecDepth 100000 in
set_option maxHeartbeats 1000000 in
theorem BkAt.revoke (h : BkAt B w b R l) (hsts : ∀ x ∈ l, 1 ≤ x.st ∧ x.st ≤ 4) (q : Py.Q) (who : ByteArray) (id now : Int) : Calls Try.prog 57 #[.pointer (some ⟨b, 0, none⟩), .int .i64 id, .string who, .int .i64 now] w fun e w' => ActPost B b R w l ⟨3, q, id, who, now⟩ e w' := by
  obtain ⟨a, ha⟩ : ∃ a : Bk.Act, a = ⟨3, q, id, who, now⟩ := ⟨_, rfl⟩
  rw [← ha]
  have hkd : a.kind ≠ 0 := by rw [ha]; show (3 : Int) ≠ 0; omega
  have hid : a.id = id := by rw [ha]
  have hnow : a.now = now := by rw [ha]
  have hkind : a.kind = 3 := by rw [ha]
  have hwho : a.who = who := by rw [ha]
  clear ha
  cases hn : Py.inB now 0 1099511627776 with
  | false =>
    have hd : Bk.doI l a = (none, 1) := by unfold Bk.doI; rw [hnow, hn, if_pos rfl]
    have hend := fun (W : World) (fb : Nat) (op : ByteArray) (n : Int) (hf : FaultAt W fb op n 1) (hb : Below w.heap.size w W) => actPost_err h hd (by decide) hf hb
    have hfind := bfind_bad id now hn w b
    have H := Lib.hid (And.intro hfind hend)
    clear hfind hend hd hkd hid hnow hkind hwho hn
    go_enter Try.func57, Try.ntmps57
    go_wp2_with fail
    refine H.out.1.mono ?_
    rintro e w1 ⟨fb, op, rfl, hf, hb⟩
    go_wp2_with fail
    go_ret
    exact H.out.2 _ _ _ _ hf hb
  | true =>
    cases hx : l[Bk.findN l id]? with
    | none =>
      have hd : Bk.doI l a = (none, 4) := by unfold Bk.doI; rw [hnow, hn, if_neg (by decide), if_neg hkd, hid, hx]
      have hend := fun (W : World) (fb : Nat) (op : ByteArray) (n : Int) (hf : FaultAt W fb op n 4) (hb : Below w.heap.size w W) => actPost_err h hd (by decide) hf hb
      have hfind := h.findNo id now hn hx
      have H := Lib.hid (And.intro hfind hend)
      clear hfind hend hd hkd hid hnow hkind hwho hn hx
      go_enter Try.func57, Try.ntmps57
      go_wp2_with fail
      refine H.out.1.mono ?_
      rintro e w1 ⟨fb, op, rfl, hf, hb⟩
      go_wp2_with fail
      go_ret
      exact H.out.2 _ _ _ _ hf hb
    | some x =>
      have hd : Bk.doI l a = if Bk.judI x a = 0 then (some (Bk.setS l (Bk.findN l id) (3 + 1)), 0) else (none, Bk.judI x a) := by
        unfold Bk.doI; rw [hnow, hn, if_neg (by decide), if_neg hkd, hid, hx, hkind]
      have hxst := hsts x (List.mem_of_getElem? hx)
      have HX := Lib.hid hxst
      clear hxst hsts
      obtain ⟨g, cap, hg, -⟩ := h.at hx
      have hfind := h.findAt id now hn hx hg
      have hopen := fun (W : World) (hb : Below w.heap.size w W) => (h.below hb).at hx
      have hat := fun W => bat_any x now W
      have hset := fun (W : World) (hb : Below w.heap.size w W) (s : Int) => (h.below hb).setState hx s hg
      have hend := fun (c : Int) (hd : Bk.doI l a = (none, c)) (hc : c ≠ 0) (W : World) (fb : Nat) (op : ByteArray) (n : Int) (hf : FaultAt W fb op n c) (hb : Below w.heap.size w W) => actPost_err h hd hc hf hb
      have hju : Bk.judI x a = (if (3 : Int) = 3 ∧ x.q.who ≠ who then 10 else if Bk.atI x now = 5 then 11 else if Bk.atI x now = 3 + 1 then 5 else if Bk.atI x now = 1 ∨ ((3 : Int) = 3 ∧ Bk.atI x now = 2) then 0 else 10) := by
        unfold Bk.judI; rw [hkind, hnow, hwho]
      obtain ⟨J, hJ⟩ : ∃ J, J = Bk.judI x a := ⟨_, rfl⟩
      rw [← hJ] at hd hju
      obtain ⟨i, hi⟩ : ∃ i, i = Bk.findN l id := ⟨_, rfl⟩
      obtain ⟨s, hs⟩ : ∃ s, s = Bk.atI x now := ⟨_, rfl⟩
      rw [← hi] at hfind hopen hset hd
      rw [← hs] at hju hat
      have H := Lib.hid (And.intro hfind (And.intro hopen (And.intro hat (And.intro hset (And.intro hend (And.intro True.intro (And.intro hg hs)))))))
      clear hfind hopen hat hset hend hkd hid hnow hkind hwho hn hx hi hs hJ
      by_cases hw : x.q.who = who
      rotate_left
      · rw [if_pos ⟨rfl, hw⟩] at hju
        rw [hju, if_neg (by decide)] at hd
        have gw : (who.toList == x.q.who.toList) = false := pne_toList (fun e => hw e.symm)
        clear hw
        have HD := Lib.hid hd
        clear hd hg hju
        go_enter Try.func57, Try.ntmps57
        go_wp2_with fail
        refine H.out.1.mono ?_
        rintro e w1 ⟨rfl, hb1⟩
        obtain ⟨g', cap, hg', hc, hgl, hgb, hfz, q0, q1, q2, q3, q4, q5⟩ := H.out.2.1 w1 hb1
        obtain rfl : g = g' := by have := H.out.2.2.2.2.2.2.1; rw [this] at hg'; injection hg'
        have HB := Lib.hid hb1
        clear hb1 hg'
        go_wp2_with fail
        refine (rqfault_any _ _ _).mono ?_
        rintro e w3 ⟨fb, op, rfl, hf, hb3⟩
        go_wp2_with fail
        go_ret
        exact H.out.2.2.2.2.1 _ HD.out (by decide) _ _ _ _ hf (HB.out.trans (hb3.mono HB.out.size))
      rw [if_neg (fun e => e.2 hw)] at hju
      have gw : (who.toList == x.q.who.toList) = true := peq_toList hw.symm
      clear hw
      by_cases h5 : s = 5
      · rw [if_pos h5] at hju
        rw [hju, if_neg (by decide)] at hd
        have g5 : (s == 5) = true := by simpa using h5
        clear h5
        have HD := Lib.hid hd
        clear hd hg hju
        go_enter Try.func57, Try.ntmps57
        go_wp2_with fail
        refine H.out.1.mono ?_
        rintro e w1 ⟨rfl, hb1⟩
        obtain ⟨g', cap, hg', hc, hgl, hgb, hfz, q0, q1, q2, q3, q4, q5⟩ := H.out.2.1 w1 hb1
        obtain rfl : g = g' := by have := H.out.2.2.2.2.2.2.1; rw [this] at hg'; injection hg'
        have HB := Lib.hid hb1
        clear hb1 hg'
        go_wp2_with fail
        refine (H.out.2.2.1 _).mono ?_
        rintro e w2 ⟨rfl, hb2⟩
        have HB2 := Lib.hid (HB.out.trans (hb2.mono HB.out.size))
        clear hb2 q0 q1 q2 q3 q4 q5 hc hfz hgl
        obtain ⟨g3, cap3, hg3, hc, hgl, hgb3, hfz, q0, q1, q2, q3, q4, q5⟩ := H.out.2.1 w2 HB2.out
        obtain rfl : g = g3 := by have := H.out.2.2.2.2.2.2.1; rw [this] at hg3; injection hg3
        clear hg3
        go_wp2_with fail
        refine (rqfault_any _ _ _).mono ?_
        rintro e w3 ⟨fb, op, rfl, hf, hb3⟩
        go_wp2_with fail
        go_ret
        exact H.out.2.2.2.2.1 _ HD.out (by decide) _ _ _ _ hf (HB2.out.trans (hb3.mono HB2.out.size))
      rw [if_neg h5] at hju
      have g5 : (s == 5) = false := by simpa using h5
      clear h5
      by_cases hs : s = 4
      · rw [if_pos (by omega)] at hju
        rw [hju, if_neg (by decide)] at hd
        have g6 : (s == 4) = true := by simpa using hs
        clear hs
        have HD := Lib.hid hd
        clear hd hg hju
        go_enter Try.func57, Try.ntmps57
        go_wp2_with fail
        refine H.out.1.mono ?_
        rintro e w1 ⟨rfl, hb1⟩
        obtain ⟨g', cap, hg', hc, hgl, hgb, hfz, q0, q1, q2, q3, q4, q5⟩ := H.out.2.1 w1 hb1
        obtain rfl : g = g' := by have := H.out.2.2.2.2.2.2.1; rw [this] at hg'; injection hg'
        have HB := Lib.hid hb1
        clear hb1 hg'
        go_wp2_with fail
        refine (H.out.2.2.1 _).mono ?_
        rintro e w2 ⟨rfl, hb2⟩
        have HB2 := Lib.hid (HB.out.trans (hb2.mono HB.out.size))
        clear hb2 q0 q1 q2 q3 q4 q5 hc hfz hgl
        obtain ⟨g3, cap3, hg3, hc, hgl, hgb3, hfz, q0, q1, q2, q3, q4, q5⟩ := H.out.2.1 w2 HB2.out
        obtain rfl : g = g3 := by have := H.out.2.2.2.2.2.2.1; rw [this] at hg3; injection hg3
        clear hg3
        go_wp2_with fail
        refine (rqfault_any _ _ _).mono ?_
        rintro e w3 ⟨fb, op, rfl, hf, hb3⟩
        go_wp2_with fail
        go_ret
        exact H.out.2.2.2.2.1 _ HD.out (by decide) _ _ _ _ hf (HB2.out.trans (hb3.mono HB2.out.size))
      rw [if_neg (by omega)] at hju
      have g6 : (s == 4) = false := by simpa using hs
      by_cases h3 : s = 3
      · rw [if_neg (fun e => by omega)] at hju
        rw [hju, if_neg (by decide)] at hd
        have g3 : (s == 3) = true := by simpa using h3
        clear hs h3
        have HD := Lib.hid hd
        clear hd hg hju
        go_enter Try.func57, Try.ntmps57
        go_wp2_with fail
        refine H.out.1.mono ?_
        rintro e w1 ⟨rfl, hb1⟩
        obtain ⟨g', cap, hg', hc, hgl, hgb, hfz, q0, q1, q2, q3, q4, q5⟩ := H.out.2.1 w1 hb1
        obtain rfl : g = g' := by have := H.out.2.2.2.2.2.2.1; rw [this] at hg'; injection hg'
        have HB := Lib.hid hb1
        clear hb1 hg'
        go_wp2_with fail
        refine (H.out.2.2.1 _).mono ?_
        rintro e w2 ⟨rfl, hb2⟩
        have HB2 := Lib.hid (HB.out.trans (hb2.mono HB.out.size))
        clear hb2 q0 q1 q2 q3 q4 q5 hc hfz hgl
        obtain ⟨g3, cap3, hg3, hc, hgl, hgb3, hfz, q0, q1, q2, q3, q4, q5⟩ := H.out.2.1 w2 HB2.out
        obtain rfl : g = g3 := by have := H.out.2.2.2.2.2.2.1; rw [this] at hg3; injection hg3
        clear hg3
        go_wp2_with fail
        refine (rqfault_any _ _ _).mono ?_
        rintro e w3 ⟨fb, op, rfl, hf, hb3⟩
        go_wp2_with fail
        go_ret
        exact H.out.2.2.2.2.1 _ HD.out (by decide) _ _ _ _ hf (HB2.out.trans (hb3.mono HB2.out.size))
      have hst := H.out.2.2.2.2.2.2.2
      have h12 : s = 1 ∨ s = 2 := by
        unfold Bk.atI at hst
        have hg5 : ¬ s = 5 := by simpa using g5
        have hxs := HX.out
        split at hst <;> omega
      rw [if_pos (by omega)] at hju
      rw [hju, if_pos rfl] at hd
      have g3 : (s == 3) = false := by simpa using h3
      clear hs h3 hst h12
      have HD := Lib.hid hd
      clear hd hg hju
      go_enter Try.func57, Try.ntmps57
      go_wp2_with fail
      refine H.out.1.mono ?_
      rintro e w1 ⟨rfl, hb1⟩
      obtain ⟨g', cap, hg', hc, hgl, hgb, hfz, q0, q1, q2, q3, q4, q5⟩ := H.out.2.1 w1 hb1
      obtain rfl : g = g' := by have := H.out.2.2.2.2.2.2.1; rw [this] at hg'; injection hg'
      have HB := Lib.hid hb1
      clear hb1 hg'
      go_wp2_with fail
      refine (H.out.2.2.1 _).mono ?_
      rintro e w2 ⟨rfl, hb2⟩
      have HB2 := Lib.hid (HB.out.trans (hb2.mono HB.out.size))
      clear hb2 q0 q1 q2 q3 q4 q5 hc hfz hgl
      obtain ⟨g3, cap3, hg3, hc, hgl, hgb3, hfz, q0, q1, q2, q3, q4, q5⟩ := H.out.2.1 w2 HB2.out
      obtain rfl : g = g3 := by have := H.out.2.2.2.2.2.2.1; rw [this] at hg3; injection hg3
      clear hg3
      go_wp2_with fail
      obtain ⟨hbk, hkp⟩ := H.out.2.2.2.1 w2 HB2.out (3 + 1)
      go_ret
      exact ⟨_, rfl, by rw [HD.out]; exact .inl ⟨rfl, rfl⟩, by unfold Bk.after; rw [HD.out]; exact hbk, KeptB.pre HB2.out hkp⟩
end Go.Proofs.Ytnkkbinbeildmaa
