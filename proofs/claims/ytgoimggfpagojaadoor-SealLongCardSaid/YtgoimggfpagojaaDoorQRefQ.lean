/- lockboxref05.Quarter. -/
import Derived.Test.YtgoimggfpagojaaDoorQQuarter
import Derived.Test.YtgoimggfpagojaaDoorWords32
namespace Go.Proofs.YtgoimggfpagojaaDoor
open Go.RowKit

/-- The four words of a list at four places. -/
def qAt (ws : List (BitVec 32)) (i j k m : Nat) : Qr := { a := ws.getD i 0, b := ws.getD j 0, c := ws.getD k 0, d := ws.getD m 0 }
/-- What stands at a place behind a quarter turn of four others. -/
def qoutAt (ws : List (BitVec 32)) (q : Qr) (i j k m x : Nat) : BitVec 32 :=
  if x = m then q.d else if x = k then q.c else if x = j then q.b else if x = i then q.a else ws.getD x 0
/-- A list behind a quarter turn. -/
def turnL (ws : List (BitVec 32)) (i j k m : Nat) : List (BitVec 32) := (List.range ws.length).map (qoutAt ws (qtr (qAt ws i j k m)) i j k m)
theorem turnL_length (ws : List (BitVec 32)) (i j k m : Nat) : (turnL ws i j k m).length = ws.length := by simp [turnL]
theorem range_map_snoc {α : Type} (f : Nat → α) (n : Nat) : (List.range (n + 1)).map f = (List.range n).map f ++ [f n] := by
  rw [List.range_succ, List.map_append]; rfl
theorem beq_nat {x i : Nat} (h : x ≠ i) : ((x : Int) == (i : Int)) = false := by
  have : ¬ (x : Int) = i := by omega
  simpa using this
theorem beq_nat' {x i : Nat} (h : x = i) : ((x : Int) == (i : Int)) = true := by simp [h]

attribute [local go_sem] V_add V_add' V_xor V_and V_or V_not V_shr V_shl V_shl'
set_option maxRecDepth 100000 in
set_option maxHeartbeats 1000000 in
theorem rquarter_any (ws : List (BitVec 32)) (a0 : Option Addr) (cap : Nat) (i j k m : Nat) (hlen : ws.length ≤ 1000) (hi : i < ws.length) (hj : j < ws.length) (hk : k < ws.length) (hm : m < ws.length)
    (hne : i ≠ j ∧ i ≠ k ∧ i ≠ m ∧ j ≠ k ∧ j ≠ m ∧ k ≠ m) (w : World) (hT : WordsAt w a0 ws) :
    Calls Tryd.prog 138 #[.slice a0 ws.length cap, .int .i64 i, .int .i64 j, .int .i64 k, .int .i64 m] w fun e w' => ∃ a cap', e = .returned (.slice a ws.length cap') ∧ OwnW w.heap.size w' a cap' (turnL ws i j k m) ∧ Below w.heap.size w w' := by
  unfold turnL
  obtain ⟨n, hn⟩ : ∃ n, n = ws.length := ⟨_, rfl⟩
  obtain ⟨b, off, rfl, hbl, c0⟩ := hT i hi
  obtain ⟨b', off', e1, -, c1⟩ := hT j hj
  obtain ⟨rfl, rfl⟩ : b = b' ∧ off = off' := by simpa using e1
  obtain ⟨b', off', e2, -, c2⟩ := hT k hk
  obtain ⟨rfl, rfl⟩ : b = b' ∧ off = off' := by simpa using e2
  obtain ⟨b', off', e3, -, c3⟩ := hT m hm
  obtain ⟨rfl, rfl⟩ : b = b' ∧ off = off' := by simpa using e3
  clear e1 e2 e3
  obtain ⟨q0, hq0⟩ : ∃ q, q = qAt ws i j k m := ⟨_, rfl⟩
  have d0 : w.cell? ⟨b, off + i, none⟩ = some (.int .u32 (V q0.a)) := by rw [hq0]; exact c0
  have d1 : w.cell? ⟨b, off + j, none⟩ = some (.int .u32 (V q0.b)) := by rw [hq0]; exact c1
  have d2 : w.cell? ⟨b, off + k, none⟩ = some (.int .u32 (V q0.c)) := by rw [hq0]; exact c2
  have d3 : w.cell? ⟨b, off + m, none⟩ = some (.int .u32 (V q0.d)) := by rw [hq0]; exact c3
  rw [← hn] at hi hj hk hm hlen
  have hi' : (i : Int) < n := by omega
  have hj' : (j : Int) < n := by omega
  have hk' : (k : Int) < n := by omega
  have hm' : (m : Int) < n := by omega
  obtain ⟨q, hq⟩ : ∃ q, q = qtr q0 := ⟨_, rfl⟩
  have hcell : ∀ x, x < n → w.cell? ⟨b, off + x, none⟩ = some (.int .u32 (V (ws.getD x 0))) := fun x hx => by
    obtain ⟨b', off', e3, -, c3⟩ := hT x (by omega)
    obtain ⟨rfl, rfl⟩ : b = b' ∧ off = off' := by simpa using e3
    exact c3
  have HT := Lib.hid (And.intro hcell (And.intro hq0 (And.intro hq (And.intro hn hne))))
  rw [← hn, ← hq0, ← hq]
  clear c0 c1 c2 c3 hT hq0 hn hcell hne
  go_enter Tryd.func138, Tryd.ntmps138
  go_wp2_with (go_at_call 146; refine (left_any _ _ (by decide) (by decide) _).mono ?_; rintro e w' ⟨rfl, rfl⟩)
  generalize hD1 : rol (q0.d ^^^ (q0.a + q0.b)) 16 = D1
  generalize hB1 : rol (q0.b ^^^ (q0.c + D1)) 12 = B1
  generalize hA2 : q0.a + q0.b + B1 = A2
  generalize hD2 : rol (D1 ^^^ A2) 8 = D2
  generalize hC2 : q0.c + D1 + D2 = C2
  generalize hB2 : rol (B1 ^^^ C2) 7 = B2
  obtain rfl : A2 = q.a := by rw [hq, ← hA2, ← hB1, ← hD1]; rfl
  obtain rfl : D2 = q.d := by rw [hq, ← hD2, ← hA2, ← hB1, ← hD1]; rfl
  obtain rfl : C2 = q.c := by rw [hq, ← hC2, ← hD2, ← hA2, ← hB1, ← hD1]; rfl
  obtain rfl : B2 = q.b := by rw [hq, ← hB2, ← hC2, ← hD2, ← hA2, ← hB1, ← hD1]; rfl
  clear hD1 hB1 hA2 hD2 hC2 hB2 hq d0 d1 d2 d3 hi' hj' hk' hm'
  go_loopw [15, 16, 17] (fun v c _ wr => ∃ (x : Nat) (ad : Option Addr) (cap' : Nat), x ≤ n ∧ c = .int .i64 x ∧ v = .slice ad x cap' ∧ OwnW w.heap.size wr ad cap' ((List.range x).map (qoutAt ws q i j k m)) ∧ Below w.heap.size w wr) (fun _ c _ _ => n - (intOf c).toNat)
  case atStart => exact ⟨0, none, 0, by omega, rfl, rfl, OwnW.nil _ _, Below.refl _ _⟩
  case round =>
    obtain ⟨x, ad, cap', hx, rfl, rfl, hown, hbw⟩ := hrel
    have H := Lib.hid (And.intro hown (And.intro hbw (show ((List.range x).map (qoutAt ws q i j k m)).length = x by simp)))
    have hsz := hbw.size
    by_cases hlt : x < n
    · have hc : wr.cell? ⟨b, off + x, none⟩ = some (.int .u32 (V (ws.getD x 0))) := by rw [hbw.cell (p := ⟨b, off + x, none⟩) hbl]; exact HT.out.1 x hlt
      clear hown hbw
      by_cases hxm : x = m
      · have hout := Lib.hid (show qoutAt ws q i j k m x = q.d by unfold qoutAt; rw [if_pos hxm])
        have ti : ((x : Int) == (i : Int)) = false := beq_nat (fun e => HT.out.2.2.2.2.2.2.1 (e.symm.trans hxm))
        have tj : ((x : Int) == (j : Int)) = false := beq_nat (fun e => HT.out.2.2.2.2.2.2.2.2.1 (e.symm.trans hxm))
        have tk : ((x : Int) == (k : Int)) = false := beq_nat (fun e => HT.out.2.2.2.2.2.2.2.2.2 (e.symm.trans hxm))
        have tm := beq_nat' hxm
        clear  hxm
        go_wp2_with (at_builtin; (refine wpList_append_word (w0 := w) rfl (.tmp 88) (.tmp 90) rfl (H.out.1.alloc _) x H.out.2.2 rfl wr.heap.size 1 q.d rfl (cell_newW wr _ _) (by omega) (by simp; omega) (H.out.2.1.alloc hsz _) ?_; intro g1 cap1 w1 hown1 hb1; have H1 := Lib.hid (And.intro hown1 hb1); clear hown1 hb1))
        go_roundw
        case rel => exact ⟨x + 1, _, cap1, by omega, by go_num, rfl, by rw [range_map_snoc, hout.out]; exact H1.out.1, H1.out.2⟩
        case measure => simp [intOf]; omega
      by_cases hxk : x = k
      · have hout := Lib.hid (show qoutAt ws q i j k m x = q.c by unfold qoutAt; rw [if_neg hxm, if_pos hxk])
        have ti : ((x : Int) == (i : Int)) = false := beq_nat (fun e => HT.out.2.2.2.2.2.1 (e.symm.trans hxk))
        have tj : ((x : Int) == (j : Int)) = false := beq_nat (fun e => HT.out.2.2.2.2.2.2.2.1 (e.symm.trans hxk))
        have tk := beq_nat' hxk
        have tm : ((x : Int) == (m : Int)) = false := beq_nat (fun e => HT.out.2.2.2.2.2.2.2.2.2 (hxk.symm.trans e))
        clear hxm hxk
        go_wp2_with (at_builtin; (refine wpList_append_word (w0 := w) rfl (.tmp 88) (.tmp 90) rfl (H.out.1.alloc _) x H.out.2.2 rfl wr.heap.size 1 q.c rfl (cell_newW wr _ _) (by omega) (by simp; omega) (H.out.2.1.alloc hsz _) ?_; intro g1 cap1 w1 hown1 hb1; have H1 := Lib.hid (And.intro hown1 hb1); clear hown1 hb1))
        go_roundw
        case rel => exact ⟨x + 1, _, cap1, by omega, by go_num, rfl, by rw [range_map_snoc, hout.out]; exact H1.out.1, H1.out.2⟩
        case measure => simp [intOf]; omega
      by_cases hxj : x = j
      · have hout := Lib.hid (show qoutAt ws q i j k m x = q.b by unfold qoutAt; rw [if_neg hxm, if_neg hxk, if_pos hxj])
        have ti : ((x : Int) == (i : Int)) = false := beq_nat (fun e => HT.out.2.2.2.2.1 (e.symm.trans hxj))
        have tj := beq_nat' hxj
        have tk : ((x : Int) == (k : Int)) = false := beq_nat (fun e => HT.out.2.2.2.2.2.2.2.1 (hxj.symm.trans e))
        have tm : ((x : Int) == (m : Int)) = false := beq_nat (fun e => HT.out.2.2.2.2.2.2.2.2.1 (hxj.symm.trans e))
        clear hxm hxk hxj
        go_wp2_with (at_builtin; (refine wpList_append_word (w0 := w) rfl (.tmp 88) (.tmp 90) rfl (H.out.1.alloc _) x H.out.2.2 rfl wr.heap.size 1 q.b rfl (cell_newW wr _ _) (by omega) (by simp; omega) (H.out.2.1.alloc hsz _) ?_; intro g1 cap1 w1 hown1 hb1; have H1 := Lib.hid (And.intro hown1 hb1); clear hown1 hb1))
        go_roundw
        case rel => exact ⟨x + 1, _, cap1, by omega, by go_num, rfl, by rw [range_map_snoc, hout.out]; exact H1.out.1, H1.out.2⟩
        case measure => simp [intOf]; omega
      by_cases hxi : x = i
      · have hout := Lib.hid (show qoutAt ws q i j k m x = q.a by unfold qoutAt; rw [if_neg hxm, if_neg hxk, if_neg hxj, if_pos hxi])
        have ti := beq_nat' hxi
        have tj : ((x : Int) == (j : Int)) = false := beq_nat (fun e => HT.out.2.2.2.2.1 (hxi.symm.trans e))
        have tk : ((x : Int) == (k : Int)) = false := beq_nat (fun e => HT.out.2.2.2.2.2.1 (hxi.symm.trans e))
        have tm : ((x : Int) == (m : Int)) = false := beq_nat (fun e => HT.out.2.2.2.2.2.2.1 (hxi.symm.trans e))
        clear hxm hxk hxj hxi
        go_wp2_with (at_builtin; (refine wpList_append_word (w0 := w) rfl (.tmp 88) (.tmp 90) rfl (H.out.1.alloc _) x H.out.2.2 rfl wr.heap.size 1 q.a rfl (cell_newW wr _ _) (by omega) (by simp; omega) (H.out.2.1.alloc hsz _) ?_; intro g1 cap1 w1 hown1 hb1; have H1 := Lib.hid (And.intro hown1 hb1); clear hown1 hb1))
        go_roundw
        case rel => exact ⟨x + 1, _, cap1, by omega, by go_num, rfl, by rw [range_map_snoc, hout.out]; exact H1.out.1, H1.out.2⟩
        case measure => simp [intOf]; omega
      · have hout := Lib.hid (show qoutAt ws q i j k m x = ws.getD x 0 by unfold qoutAt; rw [if_neg hxm, if_neg hxk, if_neg hxj, if_neg hxi])
        have ti := beq_nat hxi
        have tj := beq_nat hxj
        have tk := beq_nat hxk
        have tm := beq_nat hxm
        clear hxm hxk hxj hxi
        obtain ⟨z, hz⟩ : ∃ z, z = ws.getD x 0 := ⟨_, rfl⟩
        rw [← hz] at hc hout
        clear hz
        go_wp2_with (at_builtin; (refine wpList_append_word (w0 := w) rfl (.tmp 88) (.tmp 90) rfl (H.out.1.alloc _) x H.out.2.2 rfl wr.heap.size 1 z rfl (cell_newW wr _ _) (by omega) (by simp; omega) (H.out.2.1.alloc hsz _) ?_; intro g1 cap1 w1 hown1 hb1; have H1 := Lib.hid (And.intro hown1 hb1); clear hown1 hb1))
        go_roundw
        case rel => exact ⟨x + 1, _, cap1, by omega, by go_num, rfl, by rw [range_map_snoc, hout.out]; exact H1.out.1, H1.out.2⟩
        case measure => simp [intOf]; omega
    · obtain rfl : x = n := by omega
      clear hown hbw
      go_wp2_with fail
      go_ret
      exact ⟨ad, cap', rfl, H.out.1, H.out.2.1⟩
end Go.Proofs.YtgoimggfpagojaaDoor
