/- lockboxref21: Find, Stands, State, with, put, Open. -/
import Derived.Test.YtnkkbinbeildmaaBkF
namespace Go.Proofs.Ytnkkbinbeildmaa
open Go.RowKit
theorem Try.ren_rec : RecT 95 54 6 64 (.agg #[.int .i64 0, .string ⟨#[]⟩, .int .i64 0, .string ⟨#[]⟩, .int .i64 0, .int .i64 0]) := ⟨Try.underlying54, by kernel_rfl, rfl, by decide⟩
set_option maxRecDepth 100000 in
set_option maxHeartbeats 1000000 in
theorem rfind_any (l : List En) (a0 : Option Addr) (cap : Nat) (id : Int) (w : World) (hT : RecsAt 6 enCs w a0 l) (hm : l.length ≤ 1000000) :
    Calls Try.prog 54 #[.slice a0 l.length cap, .int .i64 id] w fun e w' => e = .returned (.int .i64 (bIdx l id)) ∧ w' = w := by
  obtain ⟨n, hn⟩ : ∃ n, n = l.length := ⟨_, rfl⟩
  obtain ⟨Rz, hR⟩ : ∃ R, R = bIdx l id := ⟨_, rfl⟩
  rw [← hR]
  have HT := Lib.hid (And.intro hT (And.intro hn hR))
  rw [← hn] at hm ⊢
  clear hT hn hR
  go_enter Try.func54, Try.ntmps54
  go_wp2_with fail
  go_loopw [5] (fun c wr => ∃ i : Nat, i ≤ n ∧ c = .int .i64 (i : Int) ∧ wr = w ∧ ∀ j, j < i → ∀ y, l[j]? = some y → decide (y.q.id = id) = false) (fun c _ => n - (intOf c).toNat)
  case atStart => exact ⟨0, by omega, rfl, rfl, fun j hj => absurd hj (by omega)⟩
  case round =>
    obtain ⟨i, hi, rfl, rfl, hall⟩ := hrel
    by_cases hlt : i < n
    · obtain ⟨x, hx⟩ : ∃ x, l[i]? = some x := ⟨_, List.getElem?_eq_getElem (by have := HT.out.2.1; omega)⟩
      obtain ⟨bb, off, rfl, hbl, hc⟩ := HT.out.1 i x hx
      have q0 : wr.cell? ⟨bb, off + i * 6, none⟩ = some (.int .i64 x.q.id) := hc 0 (by omega)
      by_cases hd : x.q.id = id
      · have hf : Rz = (i : Int) := by
          rw [HT.out.2.2]; unfold bIdx
          have : Bk.findN l id = i := Py.first_is hall hx (decide_eq_true hd)
          rw [this, if_pos (by have := HT.out.2.1; omega)]
        have g : (x.q.id == id) = true := by simpa using hd
        have HM := Lib.hid hf
        clear hall hd hc hf hx
        go_wp2_with fail
        go_ret
        exact ⟨by rw [HM.out]; rfl, rfl⟩
      · have hall' : ∀ j, j < i + 1 → ∀ y, l[j]? = some y → decide (y.q.id = id) = false := fun j hj y hy => by
          by_cases e : j = i
          · subst e; rw [hx] at hy; injection hy with hy; subst hy; exact decide_eq_false hd
          · exact hall j (by omega) y hy
        have g : (x.q.id == id) = false := by simpa using hd
        have HM := Lib.hid hall'
        clear hall hall' hd hc hx
        go_wp2_with fail
        go_roundw
        case rel => exact ⟨i + 1, by omega, by go_num, by first | rfl | trivial, HM.out⟩
        case measure => simp [intOf]; omega
    · have hf : Rz = -1 := by
        rw [HT.out.2.2]; unfold bIdx
        have : Bk.findN l id = l.length := Py.first_none fun y hy => by
          obtain ⟨j, hj⟩ := List.mem_iff_getElem?.1 hy
          exact hall j (by have := (List.getElem?_eq_some_iff.1 hj).1; have := HT.out.2.1; omega) y hj
        rw [this, if_neg (by omega)]
      have HM := Lib.hid hf
      clear hall hf
      go_wp2_with fail
      go_ret
      exact ⟨by rw [HM.out]; rfl, rfl⟩
set_option maxRecDepth 100000 in
theorem rstands_any (x : En) (hst : 1 ≤ x.st) (now : Int) (w : World) : Calls Try.prog 55 #[enVal x, .int .i64 now] w fun e w' => e = .returned (.int .i64 (Bk.atI x now)) ∧ Below w.heap.size w w' := by
  unfold enVal
  obtain ⟨Rz, hR⟩ : ∃ R, R = Bk.atI x now := ⟨_, rfl⟩
  rw [← hR]
  unfold Bk.atI at hR
  by_cases h1 : x.st ≤ 2
  · by_cases h3 : x.q.exp < now
    · rw [if_pos ⟨by omega, h3⟩] at hR
      subst hR
      go_enter Try.func55, Try.ntmps55
      go_wp2_with fail
      go_ret
      exact ⟨rfl, (Below.refl _ _).alloc (Nat.le_refl _) _⟩
    · rw [if_neg (fun e => h3 e.2)] at hR
      have HR := Lib.hid hR
      clear hR
      go_enter Try.func55, Try.ntmps55
      go_wp2_with fail
      go_ret
      exact ⟨by rw [HR.out]; rfl, (Below.refl _ _).alloc (Nat.le_refl _) _⟩
  · rw [if_neg (fun e => by omega)] at hR
    have HR := Lib.hid hR
    clear hR
    go_enter Try.func55, Try.ntmps55
    go_wp2_with fail
    go_ret
    exact ⟨by rw [HR.out]; rfl, (Below.refl _ _).alloc (Nat.le_refl _) _⟩
set_option maxRecDepth 100000 in
theorem rstate_any (l : List En) (a0 : Option Addr) (cap : Nat) (id now : Int) (w : World) (hT : RecsAt 6 enCs w a0 l) (hm : l.length ≤ 1000000) (hst : ∀ x ∈ l, 1 ≤ x.st) :
    Calls Try.prog 31 #[.slice a0 l.length cap, .int .i64 id, .int .i64 now] w fun e w' => e = .returned (.int .i64 (Bk.stateI l id now)) ∧ Below w.heap.size w w' := by
  have hget := rfind_any l a0 cap id w hT hm
  unfold Bk.stateI
  cases hx : l[Bk.findN l id]? with
  | none =>
    rw [bIdx_no hx] at hget
    have H := Lib.hid hget
    clear hget hT hx
    simp only
    go_enter Try.func31, Try.ntmps31
    go_wp2_with fail
    refine H.out.mono ?_
    rintro e w1 ⟨rfl, rfl⟩
    go_wp2_with fail
    go_ret
    exact ⟨rfl, Below.refl _ _⟩
  | some x =>
    have hlt := (List.getElem?_eq_some_iff.1 hx).1
    rw [bIdx_at hx] at hget
    obtain ⟨bb, off, rfl, hbl, hc⟩ := hT _ x hx
    have hat := fun W => rstands_any x (hst x (List.mem_of_getElem? hx)) now W
    unfold enVal at hat
    simp only
    obtain ⟨i, hi⟩ : ∃ i, i = Bk.findN l id := ⟨_, rfl⟩
    obtain ⟨n, hln⟩ : ∃ n, n = l.length := ⟨_, rfl⟩
    rw [← hi] at hget hlt hc
    rw [← hln] at hget hlt hm ⊢
    have q0 : w.cell? ⟨bb, off + i * 6, none⟩ = some (.int .i64 x.q.id) := hc 0 (by omega)
    have q1 : w.cell? ⟨bb, off + i * 6 + 1, none⟩ = some (.string x.q.who) := hc 1 (by omega)
    have q2 : w.cell? ⟨bb, off + i * 6 + 2, none⟩ = some (.int .i64 x.q.entry) := hc 2 (by omega)
    have q3 : w.cell? ⟨bb, off + i * 6 + 3, none⟩ = some (.string x.q.reason) := hc 3 (by omega)
    have q4 : w.cell? ⟨bb, off + i * 6 + 4, none⟩ = some (.int .i64 x.q.exp) := hc 4 (by omega)
    have q5 : w.cell? ⟨bb, off + i * 6 + 5, none⟩ = some (.int .i64 x.st) := hc 5 (by omega)
    have H := Lib.hid (And.intro hget hat)
    clear hget hT hx hi hln hat hc hst
    go_enter Try.func31, Try.ntmps31
    go_wp2_with fail
    refine H.out.1.mono ?_
    rintro e w1 ⟨rfl, hww⟩
    cases hww
    go_wp2_with fail
    refine (H.out.2 _).mono ?_
    rintro e w2 ⟨rfl, hb2⟩
    go_wp2_with fail
    go_ret
    exact ⟨rfl, hb2⟩
set_option maxRecDepth 100000 in
set_option maxHeartbeats 2000000 in
theorem rwith_any (l : List En) (a0 : Option Addr) (cap : Nat) (at0 : Nat) (s : Int) (w : World) (hT : RecsAt 6 enCs w a0 l) (hm : l.length ≤ 1000000) :
    Calls Try.prog 56 #[.slice a0 l.length cap, .int .i64 (at0 : Int), .int .i64 s] w fun e w' => ∃ ad cp, e = .returned (.slice ad l.length cp) ∧ OwnR 95 6 enCs w.heap.size w' ad cp (Bk.setS l at0 s) ∧ Below w.heap.size w w' := by
  obtain ⟨n, hn⟩ : ∃ n, n = l.length := ⟨_, rfl⟩
  obtain ⟨Z, hZ⟩ : ∃ Z, Z = Bk.setS l at0 s := ⟨_, rfl⟩
  rw [← hZ]
  have hzl : Z.length = l.length := by rw [hZ]; exact Bk.setS_length _ _ _
  have hza := fun (j : Nat) (y : En) (hy : l[j]? = some y) => (show Z[j]? = some (if j = at0 then ⟨y.q, s⟩ else y) by rw [hZ]; exact Bk.setS_at hy)
  have H := Lib.hid (And.intro hT (And.intro hn (And.intro hzl hza)))
  rw [← hn] at hm ⊢
  clear hT hn hZ hzl hza
  go_enter Try.func56, Try.ntmps56
  go_wp2_with fail
  go_loopw [7, 8, 9] (fun v c _ wr => ∃ (i : Nat) (ad : Option Addr) (cp : Nat), i ≤ n ∧ c = .int .i64 (i : Int) ∧ v = .slice ad i cp ∧ OwnR 95 6 enCs w.heap.size wr ad cp (Z.take i) ∧ Below w.heap.size w wr) (fun _ c _ _ => n - (intOf c).toNat)
  case atStart => exact ⟨0, none, 0, by omega, rfl, rfl, OwnR.nil _ _ _ _ _, Below.refl _ _⟩
  case round =>
    obtain ⟨i, ad, cp, hi, rfl, rfl, hO, hb⟩ := hrel
    have htk : (Z.take i).length = i := by rw [List.length_take]; have := H.out.2.1; have := H.out.2.2.1; omega
    have HO := Lib.hid (And.intro hO (And.intro hb htk))
    by_cases hlt : i < n
    · obtain ⟨x, hx⟩ : ∃ x, l[i]? = some x := ⟨_, List.getElem?_eq_getElem (by have := H.out.2.1; omega)⟩
      obtain ⟨bb, off, rfl, hbl, hc⟩ := H.out.1.below hb i x hx
      have hz := H.out.2.2.2 i x hx
      have m1 : ¬ bb = wr.heap.size := by omega
      have m2 : ¬ wr.heap.size = bb := by omega
      have hzt : Z.take (i + 1) = Z.take i ++ [if i = at0 then ⟨x.q, s⟩ else x] := by rw [List.take_add_one, hz]; rfl
      clear hO hb hx hz htk
      have q0 : wr.cell? ⟨bb, off + i * 6, none⟩ = some (.int .i64 x.q.id) := hc 0 (by omega)
      have q1 : wr.cell? ⟨bb, off + i * 6 + 1, none⟩ = some (.string x.q.who) := hc 1 (by omega)
      have q2 : wr.cell? ⟨bb, off + i * 6 + 2, none⟩ = some (.int .i64 x.q.entry) := hc 2 (by omega)
      have q3 : wr.cell? ⟨bb, off + i * 6 + 3, none⟩ = some (.string x.q.reason) := hc 3 (by omega)
      have q4 : wr.cell? ⟨bb, off + i * 6 + 4, none⟩ = some (.int .i64 x.q.exp) := hc 4 (by omega)
      have q5 : wr.cell? ⟨bb, off + i * 6 + 5, none⟩ = some (.int .i64 x.st) := hc 5 (by omega)
      clear hc

      by_cases he : i = at0
      ·
        have g : ((i : Int) == (at0 : Int)) = true := by simp; omega
        rw [if_pos he] at hzt
        have HZ := Lib.hid hzt
        clear hzt he
        go_wp2_with (at_builtin; (refine wpList_append_r rfl (.tmp 25) (.tmp 27) 54 rfl Try.ren_rec en_one en_size ((HO.out.1.alloc _).alloc _) i HO.out.2.2 rfl _ 1 ⟨x.q, s⟩ rfl (alloc2_new _ _ _) (by omega) (by have := HO.out.2.1.size; simp; omega) ((HO.out.2.1.alloc HO.out.2.1.size _).alloc (by have := HO.out.2.1.size; simp; omega) _) ?_; intro g1 cap1 w5 ho hb5 hg5 hat5; have H5 := Lib.hid (And.intro ho hb5); clear ho hb5 hg5 hat5))
        go_roundw
        case rel => exact ⟨i + 1, _, _, by omega, by go_num, rfl, by rw [HZ.out]; exact H5.out.1, H5.out.2⟩
        case measure => simp [intOf]; omega
      ·
        have g : ((i : Int) == (at0 : Int)) = false := by simp; omega
        rw [if_neg he] at hzt
        have HZ := Lib.hid hzt
        clear hzt he
        go_wp2_with (at_builtin; (refine wpList_append_r rfl (.tmp 25) (.tmp 27) 54 rfl Try.ren_rec en_one en_size ((HO.out.1.alloc _).alloc _) i HO.out.2.2 rfl _ 1 x rfl (alloc2_new _ _ _) (by omega) (by have := HO.out.2.1.size; simp; omega) ((HO.out.2.1.alloc HO.out.2.1.size _).alloc (by have := HO.out.2.1.size; simp; omega) _) ?_; intro g1 cap1 w5 ho hb5 hg5 hat5; have H5 := Lib.hid (And.intro ho hb5); clear ho hb5 hg5 hat5))
        go_roundw
        case rel => exact ⟨i + 1, _, _, by omega, by go_num, rfl, by rw [HZ.out]; exact H5.out.1, H5.out.2⟩
        case measure => simp [intOf]; omega
    · obtain rfl : n = i := by omega
      clear hO hb
      go_wp2_with fail
      go_ret
      exact ⟨_, _, rfl, by have := HO.out.1; rw [List.take_of_length_le (by have := H.out.2.2.1; have := H.out.2.1; omega)] at this; exact this, HO.out.2.1⟩
set_option maxRecDepth 100000 in
set_option maxHeartbeats 2000000 in
theorem ropen_any (l : List En) (a0 : Option Addr) (cap : Nat) (w : World) (hT : RecsAt 6 enCs w a0 l) (hm : l.length ≤ 1000000) (hst : ∀ x ∈ l, 1 ≤ x.st) (who : ByteArray) (now : Int) : Calls Try.prog 58 #[.slice a0 l.length cap, .string who, .int .i64 now] w fun e w' => e = .returned (.int .i64 (Bk.openN l who now : Nat)) ∧ Below w.heap.size w w' := by
  obtain ⟨n, hn⟩ : ∃ n, n = l.length := ⟨_, rfl⟩
  obtain ⟨Rz, hR⟩ : ∃ Rz, Rz = Bk.openN l who now := ⟨_, rfl⟩
  rw [← hR]
  have H := Lib.hid (And.intro hst (And.intro hT (And.intro hn hR)))
  rw [← hn] at hm ⊢
  clear hT hst hn hR
  go_enter Try.func58, Try.ntmps58
  go_wp2_with fail
  go_loopw [7, 8] (fun v c wr => ∃ (i k : Nat), i ≤ n ∧ c = .int .i64 (i : Int) ∧ v = .int .i64 (k : Int) ∧ k ≤ i ∧ k = Bk.openN (l.take i) who now ∧ Below w.heap.size w wr) (fun _ c _ => n - (intOf c).toNat)
  case atStart => exact ⟨0, 0, by omega, rfl, rfl, by omega, rfl, Below.refl _ _⟩
  case round =>
    obtain ⟨i, k, hi, rfl, rfl, hki, hk, hb⟩ := hrel
    by_cases hlt : i < n
    · obtain ⟨x, hx⟩ : ∃ x, l[i]? = some x := ⟨_, List.getElem?_eq_getElem (by have := H.out.2.2.1; omega)⟩
      obtain ⟨bb, off, rfl, hbl, hc⟩ := H.out.2.1.below hb i x hx
      have hstep := openN_step hx who now
      rw [← hk] at hstep
      have hat := fun W => rstands_any x (H.out.1 x (List.mem_of_getElem? hx)) now W
      unfold enVal at hat
      have HB := Lib.hid (And.intro hb hat)
      clear hb hx hk hat
      have q0 : wr.cell? ⟨bb, off + i * 6, none⟩ = some (.int .i64 x.q.id) := hc 0 (by omega)
      have q1 : wr.cell? ⟨bb, off + i * 6 + 1, none⟩ = some (.string x.q.who) := hc 1 (by omega)
      have q2 : wr.cell? ⟨bb, off + i * 6 + 2, none⟩ = some (.int .i64 x.q.entry) := hc 2 (by omega)
      have q3 : wr.cell? ⟨bb, off + i * 6 + 3, none⟩ = some (.string x.q.reason) := hc 3 (by omega)
      have q4 : wr.cell? ⟨bb, off + i * 6 + 4, none⟩ = some (.int .i64 x.q.exp) := hc 4 (by omega)
      have q5 : wr.cell? ⟨bb, off + i * 6 + 5, none⟩ = some (.int .i64 x.st) := hc 5 (by omega)
      clear hc
      by_cases hw : x.q.who = who
      · have gw : (x.q.who.toList == who.toList) = true := peq_toList hw
        rw [decide_eq_true hw, Bool.true_and] at hstep
        by_cases h1 : Bk.atI x now = 1
        · have g1 : (Bk.atI x now == 1) = true := by simpa using h1
          rw [decide_eq_true h1, if_pos rfl] at hstep
          have HS := Lib.hid hstep
          clear hstep hw h1
          go_wp2_with fail
          refine (HB.out.2 _).mono ?_
          rintro e w3 ⟨rfl, hb3⟩
          have HB3 := Lib.hid (HB.out.1.trans (hb3.mono HB.out.1.size))
          clear hb3
          go_wp2_with fail
          go_roundw
          case rel => exact ⟨i + 1, k + 1, by omega, by go_num, by go_num, by omega, HS.out.symm, HB3.out⟩
          case measure => simp [intOf]; omega
        · have g1 : (Bk.atI x now == 1) = false := by simpa using h1
          rw [decide_eq_false h1, if_neg (by decide)] at hstep
          have HS := Lib.hid hstep
          clear hstep hw h1
          go_wp2_with fail
          refine (HB.out.2 _).mono ?_
          rintro e w3 ⟨rfl, hb3⟩
          have HB3 := Lib.hid (HB.out.1.trans (hb3.mono HB.out.1.size))
          clear hb3
          go_wp2_with fail
          go_roundw
          case rel => exact ⟨i + 1, k, by omega, by go_num, rfl, by omega, HS.out.symm, HB3.out⟩
          case measure => simp [intOf]; omega
      · have gw : (x.q.who.toList == who.toList) = false := pne_toList hw
        rw [decide_eq_false hw, Bool.false_and, if_neg (by decide)] at hstep
        have HS := Lib.hid hstep
        clear hstep hw
        go_wp2_with fail
        go_roundw
        case rel => exact ⟨i + 1, k, by omega, by go_num, rfl, by omega, HS.out.symm, HB.out.1⟩
        case measure => simp [intOf]; omega
    · obtain rfl : n = i := by omega
      have hend : k = Rz := by
        have h3 := H.out.2.2.2
        rw [List.take_of_length_le (by have := H.out.2.2.1; omega)] at hk
        exact hk.trans h3.symm
      have HB := Lib.hid (And.intro hb hend)
      clear hb hk hend
      go_wp2_with fail
      go_ret
      exact ⟨by rw [← HB.out.2]; rfl, HB.out.1⟩
/-- How the reference's acts end. -/
def RPost (a0 : Option Addr) (w : World) (l : List En) (r : Option (List En) × Int) (e : Ending) (w' : World) : Prop :=
  ∃ ar cr, e = .returned (.tuple #[.slice ar (r.1.getD l).length cr, .int .i64 r.2]) ∧ RecsAt 6 enCs w' ar (r.1.getD l) ∧ Below w.heap.size w w' ∧ (ar = a0 ∨ ∀ g o, ar = some ⟨g, o, none⟩ → w.heap.size ≤ g ∧ g < w'.heap.size)
theorem rpost_err {a0 : Option Addr} {w w' : World} {l : List En} {c : Int} (cap : Nat) (hT : RecsAt 6 enCs w a0 l) (hb : Below w.heap.size w w') : RPost a0 w l (none, c) (.returned (.tuple #[.slice a0 l.length cap, .int .i64 c])) w' :=
  ⟨a0, cap, rfl, hT.below hb, hb, .inl rfl⟩
set_option maxRecDepth 100000 in
set_option maxHeartbeats 4000000 in
theorem rput21_any (l : List En) (a0 : Option Addr) (cap : Nat) (q : Py.Q) (now : Int) (hw : q.who.size ≤ maxLen) (hr : q.reason.size ≤ maxLen) (w : World) (hT : RecsAt 6 enCs w a0 l) (hm : l.length ≤ 1000000) :
    Calls Try.prog 53 #[.slice a0 l.length cap, qVal q, .int .i64 now] w fun e w' => RPost a0 w l (Bk.putI l q now) e w' := by
  obtain ⟨P, hP⟩ : ∃ P, P = Bk.putI l q now := ⟨_, rfl⟩
  rw [← hP]
  obtain ⟨w1, hw1⟩ : ∃ w1, w1 = w.alloc (.cells (qCs q) 36) := ⟨_, rfl⟩
  obtain ⟨gq, hgq⟩ : ∃ gq, gq = w.heap.size := ⟨_, rfl⟩
  have hb1 := box_below hw1
  have a1 : w1.heap[gq]? = some (.cells (qCs q) 36 (0, 0)) := by rw [hw1, hgq]; exact heap_alloc_new _ _
  have hmay := rmay_any q hw hr w1
  have hfind := fun W (hb : Below w1.heap.size w1 W) => rfind_any l a0 cap q.id W (hT.below (hb1.trans (hb.mono hb1.size))) hm
  have hbx := fun (W : World) (hb : Below w1.heap.size w1 W) => (hb.block gq (blt_of_heap a1)).trans a1
  have herr := fun (c : Int) (W : World) (hb : Below w1.heap.size w1 W) => rpost_err (c := c) cap hT (hb1.trans (hb.mono hb1.size))
  unfold Bk.putI at hP
  obtain ⟨M, hM⟩ : ∃ M, M = Py.mayB q := ⟨_, rfl⟩
  rw [← hM] at hP hmay
  obtain ⟨n, hn⟩ : ∃ n, n = l.length := ⟨_, rfl⟩
  rw [← hn] at hP hfind herr hm ⊢
  unfold qVal at hmay
  have H := Lib.hid (And.intro hmay (And.intro hfind (And.intro hbx (And.intro herr (And.intro hb1 (And.intro hT hn))))))
  have HA := Lib.hid a1
  clear hmay hfind hbx herr hb1 hT hn a1 hM hw hr
  unfold qVal
  unfold qCs at hw1
  cases M with
  | false =>
    rw [if_pos rfl] at hP
    have HP := Lib.hid hP
    clear hP
    go_enter Try.func53, Try.ntmps53
    go_upto_region 1 with fail
    rw [← hw1, ← hgq]
    clear hw1 hgq
    have X := HA.out
    have c0 : w1.cell? ⟨gq, 0, none⟩ = some (.int .i64 q.id) := by rw [cell_of_row _ _ _ _ _ _ X]; rfl
    have c1 : w1.cell? ⟨gq, 1, none⟩ = some (.string q.who) := by rw [cell_of_row _ _ _ _ _ _ X]; rfl
    have c2 : w1.cell? ⟨gq, 2, none⟩ = some (.int .i64 q.entry) := by rw [cell_of_row _ _ _ _ _ _ X]; rfl
    have c3 : w1.cell? ⟨gq, 3, none⟩ = some (.string q.reason) := by rw [cell_of_row _ _ _ _ _ _ X]; rfl
    have c4 : w1.cell? ⟨gq, 4, none⟩ = some (.int .i64 q.exp) := by rw [cell_of_row _ _ _ _ _ _ X]; rfl
    clear X
    go_wp2_with fail
    refine H.out.1.mono ?_
    rintro e w2 ⟨rfl, hb2⟩
    have HB := Lib.hid hb2
    clear hb2 c0 c1 c2 c3 c4
    have X := H.out.2.2.1 w2 HB.out
    have c0 : w2.cell? ⟨gq, 0, none⟩ = some (.int .i64 q.id) := by rw [cell_of_row _ _ _ _ _ _ X]; rfl
    have c1 : w2.cell? ⟨gq, 1, none⟩ = some (.string q.who) := by rw [cell_of_row _ _ _ _ _ _ X]; rfl
    have c2 : w2.cell? ⟨gq, 2, none⟩ = some (.int .i64 q.entry) := by rw [cell_of_row _ _ _ _ _ _ X]; rfl
    have c3 : w2.cell? ⟨gq, 3, none⟩ = some (.string q.reason) := by rw [cell_of_row _ _ _ _ _ _ X]; rfl
    have c4 : w2.cell? ⟨gq, 4, none⟩ = some (.int .i64 q.exp) := by rw [cell_of_row _ _ _ _ _ _ X]; rfl
    clear X
    go_wp2_with fail
    go_ret2
    rw [HP.out]
    exact H.out.2.2.2.1 1 w2 HB.out
  | true =>
    rw [if_neg (by decide)] at hP
    by_cases hf : Bk.findN l q.id < n
    · rw [if_pos hf] at hP
      have hfx : bIdx l q.id = ((Bk.findN l q.id : Nat) : Int) := by unfold bIdx; rw [if_pos (by have := H.out.2.2.2.2.2.2; omega)]
      obtain ⟨i, hi⟩ : ∃ i, i = Bk.findN l q.id := ⟨_, rfl⟩
      rw [← hi] at hfx
      clear hf hi
      have HP := Lib.hid hP
      clear hP
      go_enter Try.func53, Try.ntmps53
      go_upto_region 1 with fail
      rw [← hw1, ← hgq]
      clear hw1 hgq
      have X := HA.out
      have c0 : w1.cell? ⟨gq, 0, none⟩ = some (.int .i64 q.id) := by rw [cell_of_row _ _ _ _ _ _ X]; rfl
      have c1 : w1.cell? ⟨gq, 1, none⟩ = some (.string q.who) := by rw [cell_of_row _ _ _ _ _ _ X]; rfl
      have c2 : w1.cell? ⟨gq, 2, none⟩ = some (.int .i64 q.entry) := by rw [cell_of_row _ _ _ _ _ _ X]; rfl
      have c3 : w1.cell? ⟨gq, 3, none⟩ = some (.string q.reason) := by rw [cell_of_row _ _ _ _ _ _ X]; rfl
      have c4 : w1.cell? ⟨gq, 4, none⟩ = some (.int .i64 q.exp) := by rw [cell_of_row _ _ _ _ _ _ X]; rfl
      clear X
      go_wp2_with fail
      refine H.out.1.mono ?_
      rintro e w2 ⟨rfl, hb2⟩
      have HB := Lib.hid hb2
      clear hb2 c0 c1 c2 c3 c4
      have X := H.out.2.2.1 w2 HB.out
      have c0 : w2.cell? ⟨gq, 0, none⟩ = some (.int .i64 q.id) := by rw [cell_of_row _ _ _ _ _ _ X]; rfl
      have c1 : w2.cell? ⟨gq, 1, none⟩ = some (.string q.who) := by rw [cell_of_row _ _ _ _ _ _ X]; rfl
      have c2 : w2.cell? ⟨gq, 2, none⟩ = some (.int .i64 q.entry) := by rw [cell_of_row _ _ _ _ _ _ X]; rfl
      have c3 : w2.cell? ⟨gq, 3, none⟩ = some (.string q.reason) := by rw [cell_of_row _ _ _ _ _ _ X]; rfl
      have c4 : w2.cell? ⟨gq, 4, none⟩ = some (.int .i64 q.exp) := by rw [cell_of_row _ _ _ _ _ _ X]; rfl
      clear X
      go_wp2_with fail
      refine (H.out.2.1 w2 HB.out).mono ?_
      rintro e w3 ⟨rfl, hww⟩
      cases hww
      rw [hfx]
      go_wp2_with fail
      go_ret2
      rw [HP.out]
      exact H.out.2.2.2.1 5 w2 HB.out
    · rw [if_neg hf] at hP
      have hfx : bIdx l q.id = -1 := by unfold bIdx; rw [if_neg (by have := H.out.2.2.2.2.2.2; omega)]
      clear hf
      by_cases hx : q.exp < now
      · rw [if_pos hx] at hP
        have HP := Lib.hid hP
        clear hP
        go_enter Try.func53, Try.ntmps53
        go_upto_region 1 with fail
        rw [← hw1, ← hgq]
        clear hw1 hgq
        have X := HA.out
        have c0 : w1.cell? ⟨gq, 0, none⟩ = some (.int .i64 q.id) := by rw [cell_of_row _ _ _ _ _ _ X]; rfl
        have c1 : w1.cell? ⟨gq, 1, none⟩ = some (.string q.who) := by rw [cell_of_row _ _ _ _ _ _ X]; rfl
        have c2 : w1.cell? ⟨gq, 2, none⟩ = some (.int .i64 q.entry) := by rw [cell_of_row _ _ _ _ _ _ X]; rfl
        have c3 : w1.cell? ⟨gq, 3, none⟩ = some (.string q.reason) := by rw [cell_of_row _ _ _ _ _ _ X]; rfl
        have c4 : w1.cell? ⟨gq, 4, none⟩ = some (.int .i64 q.exp) := by rw [cell_of_row _ _ _ _ _ _ X]; rfl
        clear X
        go_wp2_with fail
        refine H.out.1.mono ?_
        rintro e w2 ⟨rfl, hb2⟩
        have HB := Lib.hid hb2
        clear hb2 c0 c1 c2 c3 c4
        have X := H.out.2.2.1 w2 HB.out
        have c0 : w2.cell? ⟨gq, 0, none⟩ = some (.int .i64 q.id) := by rw [cell_of_row _ _ _ _ _ _ X]; rfl
        have c1 : w2.cell? ⟨gq, 1, none⟩ = some (.string q.who) := by rw [cell_of_row _ _ _ _ _ _ X]; rfl
        have c2 : w2.cell? ⟨gq, 2, none⟩ = some (.int .i64 q.entry) := by rw [cell_of_row _ _ _ _ _ _ X]; rfl
        have c3 : w2.cell? ⟨gq, 3, none⟩ = some (.string q.reason) := by rw [cell_of_row _ _ _ _ _ _ X]; rfl
        have c4 : w2.cell? ⟨gq, 4, none⟩ = some (.int .i64 q.exp) := by rw [cell_of_row _ _ _ _ _ _ X]; rfl
        clear X
        go_wp2_with fail
        refine (H.out.2.1 w2 HB.out).mono ?_
        rintro e w3 ⟨rfl, hww⟩
        cases hww
        rw [hfx]
        go_wp2_with fail
        go_ret2
        rw [HP.out]
        exact H.out.2.2.2.1 11 w2 HB.out
      rw [if_neg hx] at hP
      have hgx : ¬ (q.exp < now) := hx
      clear hx
      by_cases h2 : 200 ≤ n
      · rw [if_pos h2] at hP
        have g2 : (200 : Int) ≤ (n : Int) := by omega
        have HP := Lib.hid hP
        clear hP
        go_enter Try.func53, Try.ntmps53
        go_upto_region 1 with fail
        rw [← hw1, ← hgq]
        clear hw1 hgq
        have X := HA.out
        have c0 : w1.cell? ⟨gq, 0, none⟩ = some (.int .i64 q.id) := by rw [cell_of_row _ _ _ _ _ _ X]; rfl
        have c1 : w1.cell? ⟨gq, 1, none⟩ = some (.string q.who) := by rw [cell_of_row _ _ _ _ _ _ X]; rfl
        have c2 : w1.cell? ⟨gq, 2, none⟩ = some (.int .i64 q.entry) := by rw [cell_of_row _ _ _ _ _ _ X]; rfl
        have c3 : w1.cell? ⟨gq, 3, none⟩ = some (.string q.reason) := by rw [cell_of_row _ _ _ _ _ _ X]; rfl
        have c4 : w1.cell? ⟨gq, 4, none⟩ = some (.int .i64 q.exp) := by rw [cell_of_row _ _ _ _ _ _ X]; rfl
        clear X
        go_wp2_with fail
        refine H.out.1.mono ?_
        rintro e w2 ⟨rfl, hb2⟩
        have HB := Lib.hid hb2
        clear hb2 c0 c1 c2 c3 c4
        have X := H.out.2.2.1 w2 HB.out
        have c0 : w2.cell? ⟨gq, 0, none⟩ = some (.int .i64 q.id) := by rw [cell_of_row _ _ _ _ _ _ X]; rfl
        have c1 : w2.cell? ⟨gq, 1, none⟩ = some (.string q.who) := by rw [cell_of_row _ _ _ _ _ _ X]; rfl
        have c2 : w2.cell? ⟨gq, 2, none⟩ = some (.int .i64 q.entry) := by rw [cell_of_row _ _ _ _ _ _ X]; rfl
        have c3 : w2.cell? ⟨gq, 3, none⟩ = some (.string q.reason) := by rw [cell_of_row _ _ _ _ _ _ X]; rfl
        have c4 : w2.cell? ⟨gq, 4, none⟩ = some (.int .i64 q.exp) := by rw [cell_of_row _ _ _ _ _ _ X]; rfl
        clear X
        go_wp2_with fail
        refine (H.out.2.1 w2 HB.out).mono ?_
        rintro e w3 ⟨rfl, hww⟩
        cases hww
        rw [hfx]
        go_wp2_with fail
        go_ret2
        rw [HP.out]
        exact H.out.2.2.2.1 6 w2 HB.out
      rw [if_neg h2] at hP
      have g2 : ¬ ((200 : Int) ≤ (n : Int)) := by omega
      have HP := Lib.hid hP
      clear hP
      go_enter Try.func53, Try.ntmps53
      go_upto_region 1 with fail
      rw [← hw1, ← hgq]
      clear hw1 hgq
      have X := HA.out
      have c0 : w1.cell? ⟨gq, 0, none⟩ = some (.int .i64 q.id) := by rw [cell_of_row _ _ _ _ _ _ X]; rfl
      have c1 : w1.cell? ⟨gq, 1, none⟩ = some (.string q.who) := by rw [cell_of_row _ _ _ _ _ _ X]; rfl
      have c2 : w1.cell? ⟨gq, 2, none⟩ = some (.int .i64 q.entry) := by rw [cell_of_row _ _ _ _ _ _ X]; rfl
      have c3 : w1.cell? ⟨gq, 3, none⟩ = some (.string q.reason) := by rw [cell_of_row _ _ _ _ _ _ X]; rfl
      have c4 : w1.cell? ⟨gq, 4, none⟩ = some (.int .i64 q.exp) := by rw [cell_of_row _ _ _ _ _ _ X]; rfl
      clear X
      go_wp2_with fail
      refine H.out.1.mono ?_
      rintro e w2 ⟨rfl, hb2⟩
      have HB := Lib.hid hb2
      clear hb2 c0 c1 c2 c3 c4
      have X := H.out.2.2.1 w2 HB.out
      have c0 : w2.cell? ⟨gq, 0, none⟩ = some (.int .i64 q.id) := by rw [cell_of_row _ _ _ _ _ _ X]; rfl
      have c1 : w2.cell? ⟨gq, 1, none⟩ = some (.string q.who) := by rw [cell_of_row _ _ _ _ _ _ X]; rfl
      have c2 : w2.cell? ⟨gq, 2, none⟩ = some (.int .i64 q.entry) := by rw [cell_of_row _ _ _ _ _ _ X]; rfl
      have c3 : w2.cell? ⟨gq, 3, none⟩ = some (.string q.reason) := by rw [cell_of_row _ _ _ _ _ _ X]; rfl
      have c4 : w2.cell? ⟨gq, 4, none⟩ = some (.int .i64 q.exp) := by rw [cell_of_row _ _ _ _ _ _ X]; rfl
      clear X
      go_wp2_with fail
      refine (H.out.2.1 w2 HB.out).mono ?_
      rintro e w3 ⟨rfl, hww⟩
      cases hww
      rw [hfx]
      go_wp2_with fail
      clear c0 c1 c2 c3 c4
      go_loopw [8, 9] (fun v c wr => ∃ (i : Nat) (ad : Option Addr) (cp : Nat), i ≤ n ∧ c = .int .i64 (i : Int) ∧ v = .slice ad i cp ∧ OwnR 95 6 enCs w2.heap.size wr ad cp (l.take i) ∧ Below w2.heap.size w2 wr) (fun _ c _ => n - (intOf c).toNat)
      case atStart => exact ⟨0, none, 0, by omega, rfl, rfl, OwnR.nil _ _ _ _ _, Below.refl _ _⟩
      case round =>
        obtain ⟨i, ad, cp, hi, rfl, rfl, hO, hb⟩ := hrel
        have hbw := HB.out.trans (hb.mono HB.out.size)
        have htk : (l.take i).length = i := by rw [List.length_take]; have := H.out.2.2.2.2.2.2; omega
        have HO := Lib.hid (And.intro hO (And.intro hb (And.intro htk hbw)))
        by_cases hlt : i < n
        · obtain ⟨x, hx⟩ : ∃ x, l[i]? = some x := ⟨_, List.getElem?_eq_getElem (by have := H.out.2.2.2.2.2.2; omega)⟩
          obtain ⟨bb, off, rfl, hbl, hc⟩ := H.out.2.2.2.2.2.1.below (H.out.2.2.2.2.1.trans (hbw.mono H.out.2.2.2.2.1.size)) i x hx
          have hzt : l.take (i + 1) = l.take i ++ [x] := by rw [List.take_add_one, hx]; rfl
          have HZ := Lib.hid hzt
          clear hO hb hx hzt htk hbw
          have q0 : wr.cell? ⟨bb, off + i * 6, none⟩ = some (.int .i64 x.q.id) := hc 0 (by omega)
          have q1 : wr.cell? ⟨bb, off + i * 6 + 1, none⟩ = some (.string x.q.who) := hc 1 (by omega)
          have q2 : wr.cell? ⟨bb, off + i * 6 + 2, none⟩ = some (.int .i64 x.q.entry) := hc 2 (by omega)
          have q3 : wr.cell? ⟨bb, off + i * 6 + 3, none⟩ = some (.string x.q.reason) := hc 3 (by omega)
          have q4 : wr.cell? ⟨bb, off + i * 6 + 4, none⟩ = some (.int .i64 x.q.exp) := hc 4 (by omega)
          have q5 : wr.cell? ⟨bb, off + i * 6 + 5, none⟩ = some (.int .i64 x.st) := hc 5 (by omega)
          clear hc
          go_wp2_with (at_builtin; (refine wpList_append_r rfl (.tmp 35) (.tmp 40) 54 rfl Try.ren_rec en_one en_size (HO.out.1.alloc _) i HO.out.2.2.1 rfl _ 1 x rfl (heap_alloc_new _ _) (by omega) (by have := HO.out.2.1.size; simp; omega) (HO.out.2.1.alloc HO.out.2.1.size _) ?_; intro g1 cap1 w5 ho hb5 hg5 hat5; have H5 := Lib.hid (And.intro ho hb5); clear ho hb5 hg5 hat5))
          go_roundw
          case rel => exact ⟨i + 1, _, _, by omega, by go_num, rfl, by rw [HZ.out]; exact H5.out.1, H5.out.2⟩
          case measure => simp [intOf]; omega
        · obtain rfl : n = i := by omega
          have hall : l.take n = l := List.take_of_length_le (by have := H.out.2.2.2.2.2.2; omega)
          rw [hall] at HO
          clear hO hb htk hbw hall
          have X := H.out.2.2.1 wr HO.out.2.2.2
          have c0 : wr.cell? ⟨gq, 0, none⟩ = some (.int .i64 q.id) := by rw [cell_of_row _ _ _ _ _ _ X]; rfl
          have c1 : wr.cell? ⟨gq, 1, none⟩ = some (.string q.who) := by rw [cell_of_row _ _ _ _ _ _ X]; rfl
          have c2 : wr.cell? ⟨gq, 2, none⟩ = some (.int .i64 q.entry) := by rw [cell_of_row _ _ _ _ _ _ X]; rfl
          have c3 : wr.cell? ⟨gq, 3, none⟩ = some (.string q.reason) := by rw [cell_of_row _ _ _ _ _ _ X]; rfl
          have c4 : wr.cell? ⟨gq, 4, none⟩ = some (.int .i64 q.exp) := by rw [cell_of_row _ _ _ _ _ _ X]; rfl
          clear X
          go_wp2_with (at_builtin; (refine wpList_append_r rfl (.tmp 42) (.tmp 45) 54 rfl Try.ren_rec en_one en_size (HO.out.1.alloc _) n HO.out.2.2.1 rfl _ 1 ⟨q, 1⟩ rfl (heap_alloc_new _ _) (by omega) (by have := HO.out.2.1.size; simp; omega) (HO.out.2.1.alloc HO.out.2.1.size _) ?_; intro g1 cap1 w5 ho hb5 hg5 hat5; have H5 := Lib.hid (And.intro ho hb5); clear ho hb5 hg5 hat5))
          go_ret2
          rw [HP.out]
          have hbz := H.out.2.2.2.2.1.trans ((HB.out.trans (H5.out.2.mono HB.out.size)).mono H.out.2.2.2.2.1.size)
          exact ⟨_, _, by rw [Option.getD_some, List.length_append, ← H.out.2.2.2.2.2.2]; rfl, H5.out.1.recs en_size, hbz, .inr fun g o hg => by
            injection hg with hg; injection hg with hg
            have hlo := H5.out.1.lt g1 rfl
            have := H.out.2.2.2.2.1.size
            have := HB.out.size
            omega⟩
end Go.Proofs.Ytnkkbinbeildmaa
