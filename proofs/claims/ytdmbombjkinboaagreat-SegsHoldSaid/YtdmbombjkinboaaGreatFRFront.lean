/- The reference's Front. -/
import Derived.Test.YtdmbombjkinboaaGreatMF1
namespace Go.Proofs.YtdmbombjkinboaaGreat
open Go.RowKit
open Fr
open IntWalk (wrap64_in i64_left)

/-- Cells of a box of three. -/
theorem box3 {w : World} {b : Nat} {t : TypeId} {x y z : Value} (h : w.heap[b]? = some (.cells #[x, y, z] t (0, 0))) :
    w.cell? ⟨b, 0, none⟩ = some x ∧ w.cell? ⟨b, 1, none⟩ = some y ∧ w.cell? ⟨b, 2, none⟩ = some z ∧ ∀ j, w.frozen? ⟨b, j, none⟩ = false :=
  ⟨by simp [World.cell?, h], by simp [World.cell?, h], by simp [World.cell?, h], fun j => by simp [World.frozen?, h]⟩
theorem mul24 (a b c : UInt8) : (a.toNat : Int) * 65536 + (b.toNat : Int) * 256 + (c.toNat : Int) = ((a.toNat * 65536 + b.toNat * 256 + c.toNat : Nat) : Int) := by omega
theorem wraps24 (a b c : UInt8) : wrap64 (wrap64 (wrap64 (65536 * wrap64 (a.toNat : Int)) + wrap64 (256 * wrap64 (b.toNat : Int))) + wrap64 (c.toNat : Int)) = ((a.toNat * 65536 + b.toNat * 256 + c.toNat : Nat) : Int) := by
  have h1 := a.toNat_lt
  have h2 := b.toNat_lt
  have h3 := c.toNat_lt
  rw [wrap64_in (a.toNat : Int) (by omega), wrap64_in (b.toNat : Int) (by omega), wrap64_in (c.toNat : Int) (by omega), wrap64_in (65536 * _) (by omega), wrap64_in (256 * _) (by omega), wrap64_in (65536 * _ + _) (by omega), wrap64_in _ (by omega)]
  omega
theorem below_dN' {n : Nat} {A B : World} (h : Below n A B) (k : Nat) : Below n A (B.drewN k) := h.trans ⟨rfl, rfl, rfl, Nat.le_refl _, fun _ _ => rfl⟩
theorem below3 {w W : World} (h : Below w.heap.size w W) (x y z : Value) : Below w.heap.size w (((W.setCell ⟨w.heap.size, 0, none⟩ x).setCell ⟨w.heap.size, 1, none⟩ y).setCell ⟨w.heap.size, 2, none⟩ z) :=
  ((h.setCell (p := ⟨w.heap.size, 0, none⟩) (Nat.le_refl _) x).setCell (p := ⟨w.heap.size, 1, none⟩) (Nat.le_refl _) y).setCell (p := ⟨w.heap.size, 2, none⟩) (Nat.le_refl _) z
theorem fr_no {s : ByteArray} {e : Nat} (h : fst s.data.toList = (0, e)) (he : e ≠ 0) : frB s = ⟨#[]⟩ ∧ frR s = ⟨#[]⟩ ∧ frE s = e := by
  unfold frB frR frE
  rw [h]
  exact ⟨if_neg he, if_neg he, rfl⟩
set_option maxHeartbeats 2000000 in
theorem rffront_any (s : ByteArray) (hs : s.size ≤ 200000) (w : World) :
    Calls Tryz.prog 58 #[.string s] w fun e w' => e = .returned (.agg #[.string (frB s), .string (frR s), .int .i64 (frE s)]) ∧ Below w.heap.size w w' := by
  have hb1 : Below w.heap.size w (w.alloc (.cells #[.string ⟨#[]⟩, .string ⟨#[]⟩, .int .i64 0] 101)) := (Below.refl _ w).alloc (Nat.le_refl _) _
  by_cases h0 : s.toList.isEmpty = true
  · have e : fst s.data.toList = (0, 4) := by
      have := size_empty h0
      have : s.data.toList = [] := List.length_eq_zero_iff.1 (by simpa using this)
      rw [this]; rfl
    obtain ⟨e1, e2, e3⟩ := fr_no e (by decide)
    rw [e1, e2, e3]
    clear e1 e2 e3 e
    go_enter Tryz.func58, Tryz.ntmps58
    go_wp2_with fail
    refine bodyPost_ret (v := .agg #[.string ⟨#[]⟩, .string ⟨#[]⟩, .int .i64 4]) (by simp [results, Tryz.results58, go_sem]) rfl ?_
    exact ⟨rfl, (Below.refl _ w).alloc (Nat.le_refl _) _⟩
  have hf := size_full h0
  have h0' : s.toList.isEmpty = false := by simpa using h0
  have hne : s.data.toList ≠ [] := fun e => hf (by have := congrArg List.length e; simpa using this)
  have hpos : 0 < s.size := by omega
  obtain ⟨b0, hb0⟩ : ∃ b0, s[0] = b0 := ⟨_, rfl⟩
  have hd0 : s.data.toList.getD 0 0 = b0 := (getD_at s 0 hpos).trans hb0
  by_cases h1 : ((b0.toNat : Int) != 229) = true
  · have e : fst s.data.toList = (0, 3) := by
      unfold fst
      rw [if_neg hne, hd0, if_pos (fun e => by subst e; revert h1; decide)]
    obtain ⟨e1, e2, e3⟩ := fr_no e (by decide)
    rw [e1, e2, e3]
    clear e1 e2 e3 e hd0 hne hf h0
    go_enter Tryz.func58, Tryz.ntmps58
    go_wp2_with fail
    refine bodyPost_ret (v := .agg #[.string ⟨#[]⟩, .string ⟨#[]⟩, .int .i64 3]) (by simp [results, Tryz.results58, go_sem]) rfl ?_
    exact ⟨rfl, (Below.refl _ w).alloc (Nat.le_refl _) _⟩
  have h1' : ((b0.toNat : Int) != 229) = false := by simpa using h1
  have hb229 : b0 = 229 := by
    have : (b0.toNat : Int) = 229 := by simpa using h1
    exact UInt8.toNat_inj.1 (by show b0.toNat = 229; omega)
  by_cases h2 : (s.size : Int) < 4
  · have e : fst s.data.toList = (0, 7) := by
      unfold fst
      rw [if_neg hne, hd0, if_neg (by simpa using hb229), if_pos (by simp; omega)]
    obtain ⟨e1, e2, e3⟩ := fr_no e (by decide)
    rw [e1, e2, e3]
    clear e1 e2 e3 e hd0 hne hf h0 hb229 h1
    go_enter Tryz.func58, Tryz.ntmps58
    go_wp2_with fail
    refine bodyPost_ret (v := .agg #[.string ⟨#[]⟩, .string ⟨#[]⟩, .int .i64 7]) (by simp [results, Tryz.results58, go_sem]) rfl ?_
    exact ⟨rfl, (Below.refl _ w).alloc (Nat.le_refl _) _⟩
  have p1 : 1 < s.size := by omega
  have p2 : 2 < s.size := by omega
  have p3 : 3 < s.size := by omega
  obtain ⟨b1, hb1⟩ : ∃ b, s[1] = b := ⟨_, rfl⟩
  obtain ⟨b2, hb2⟩ : ∃ b, s[2] = b := ⟨_, rfl⟩
  obtain ⟨b3, hb3⟩ : ∃ b, s[3] = b := ⟨_, rfl⟩
  obtain ⟨n, hn⟩ : ∃ n, n = long s.data.toList := ⟨_, rfl⟩
  have hln : long s.data.toList = b1.toNat * 65536 + b2.toNat * 256 + b3.toNat := by
    unfold long; rw [getD_at s 1 p1, getD_at s 2 p2, getD_at s 3 p3, hb1, hb2, hb3]
  have hnlt : n < 16777216 := by have := b1.toNat_lt; have := b2.toNat_lt; have := b3.toNat_lt; omega
  have hor := wraps24 b1 b2 b3
  rw [← hln, ← hn] at hor
  have hfs : fst s.data.toList = if n = 0 ∨ 32768 < n then (0, 3) else if s.size < 8 + n then (0, 7) else if (s.data.toList.drop 4).take 4 ≠ sum4 ((s.data.toList.drop 1).take 3) ((s.data.toList.drop 8).take n) then (0, 8) else (8 + n, 0) := by
    unfold fst
    rw [if_neg hne, hd0, if_neg (by simpa using hb229), if_neg (by simp; omega), ← hn]
    simp
  clear hln
  have HF := Lib.hid (And.intro hfs (And.intro hn (hd0.trans hb229)))
  clear hfs hd0 hne hf h0 hb229 h1 hn
  by_cases h3 : (n : Int) = 0
  · have h3' : ((n : Int) == 0) = true := by simpa using h3
    have e : fst s.data.toList = (0, 3) := by rw [HF.out.1, if_pos (by omega)]
    obtain ⟨e1, e2, e3⟩ := fr_no e (by decide)
    rw [e1, e2, e3]
    clear e1 e2 e3 e HF
    go_enter Tryz.func58, Tryz.ntmps58
    go_wp2_with fail
    go_quiet (fail)
    go_wp2_with fail
    refine bodyPost_ret (v := .agg #[.string ⟨#[]⟩, .string ⟨#[]⟩, .int .i64 3]) (by simp [results, Tryz.results58, go_sem]) rfl ?_
    exact ⟨rfl, below3 (below_dN' ((Below.refl _ w).alloc (Nat.le_refl _) _) _) _ _ _⟩
  have h3' : ((n : Int) == 0) = false := by simpa using h3
  by_cases h4 : (32768 : Int) < n
  · have h4' : decide ((32768 : Int) < n) = true := decide_eq_true h4
    have e : fst s.data.toList = (0, 3) := by rw [HF.out.1, if_pos (by omega)]
    obtain ⟨e1, e2, e3⟩ := fr_no e (by decide)
    rw [e1, e2, e3]
    clear e1 e2 e3 e HF
    go_enter Tryz.func58, Tryz.ntmps58
    go_wp2_with fail
    go_quiet (fail)
    go_wp2_with fail
    refine bodyPost_ret (v := .agg #[.string ⟨#[]⟩, .string ⟨#[]⟩, .int .i64 3]) (by simp [results, Tryz.results58, go_sem]) rfl ?_
    exact ⟨rfl, below3 (below_dN' ((Below.refl _ w).alloc (Nat.le_refl _) _) _) _ _ _⟩
  have h4' : decide ((32768 : Int) < n) = false := decide_eq_false h4
  by_cases h5 : (s.size : Int) < 8 + n
  · have h5' : decide ((s.size : Int) < 8 + n) = true := decide_eq_true h5
    have e : fst s.data.toList = (0, 7) := by rw [HF.out.1, if_neg (by omega), if_pos (by omega)]
    obtain ⟨e1, e2, e3⟩ := fr_no e (by decide)
    rw [e1, e2, e3]
    clear e1 e2 e3 e HF
    go_enter Tryz.func58, Tryz.ntmps58
    go_wp2_with fail
    go_quiet (fail)
    go_wp2_with fail
    refine bodyPost_ret (v := .agg #[.string ⟨#[]⟩, .string ⟨#[]⟩, .int .i64 7]) (by simp [results, Tryz.results58, go_sem]) rfl ?_
    exact ⟨rfl, below3 (below_dN' ((Below.refl _ w).alloc (Nat.le_refl _) _) _) _ _ _⟩
  have h5' : decide ((s.size : Int) < 8 + n) = false := decide_eq_false h5
  have k8 : (8 : Int) ≤ s.size := by omega
  have k8n : (8 : Int) + n ≤ s.size := by omega
  have k0n : (8 : Int) ≤ 8 + n := by omega
  have tn : ((8 : Int) + (n : Int)).toNat = 8 + n := by omega
  obtain ⟨B, hB⟩ : ∃ B, s.extract 8 ((8 : Int) + (n : Int)).toNat = B := ⟨_, rfl⟩
  obtain ⟨G, hG⟩ : ∃ G, s.extract 0 ((8 : Int) + (n : Int)).toNat = G := ⟨_, rfl⟩
  obtain ⟨R, hR⟩ : ∃ R, s.extract ((8 : Int) + (n : Int)).toNat s.size = R := ⟨_, rfl⟩
  have dB : B.data.toList = (s.data.toList.drop 8).take n := by rw [← hB, tn]; simp
  have dG : G.data.toList = s.data.toList.take (8 + n) := by rw [← hG, tn]; simp
  have sB : B.size = n := by rw [← hB, tn, ByteArray.size_extract]; omega
  have hmay : may B.data.toList := may_size.2 (by omega)
  obtain ⟨S, hS⟩ : ∃ S, S = wrapS B := ⟨_, rfl⟩
  have hX := rwrap_any B (by omega)
  rw [wrapE_ok hmay, ← hS] at hX
  have HX := Lib.hid hX
  clear hX
  have hcs : (S.toList == G.toList) = decide ((s.data.toList.drop 4).take 4 = sum4 ((s.data.toList.drop 1).take 3) ((s.data.toList.drop 8).take n)) := by
    have e := frm_iff s.data.toList HF.out.2.2 (by rw [← HF.out.2.1]; simp; omega)
    rw [← HF.out.2.1] at e
    rw [hS, wrapS_ok hmay, toList_data, toList_data, str_data, dB, dG]
    by_cases h : (s.data.toList.drop 4).take 4 = sum4 ((s.data.toList.drop 1).take 3) ((s.data.toList.drop 8).take n)
    · rw [decide_eq_true h, e.2 h]; simp
    · rw [decide_eq_false h]
      simp only [beq_eq_false_iff_ne, ne_eq]
      exact fun h2 => h (e.1 h2)
  clear hS hmay dB dG
  by_cases hq : (s.data.toList.drop 4).take 4 = sum4 ((s.data.toList.drop 1).take 3) ((s.data.toList.drop 8).take n)
  · rw [decide_eq_true hq] at hcs
    have e : fst s.data.toList = (8 + n, 0) := by rw [HF.out.1, if_neg (by omega), if_neg (by omega), if_neg (by simpa using hq)]
    have e1 : frB s = B := by unfold frB; rw [e, if_pos rfl, ← hB, tn]
    have e2 : frR s = R := by unfold frR; rw [e, if_pos rfl, ← hR, tn]
    have e3 : frE s = 0 := by unfold frE; rw [e]; rfl
    rw [e1, e2, e3]
    clear e1 e2 e3 e HF hq tn sB
    go_enter Tryz.func58, Tryz.ntmps58
    go_wp2_with fail
    go_quiet (fail)
    go_wp2_with fail
    refine (HX.out _).mono ?_
    rintro e w4 ⟨rfl, hb4⟩
    have hB4 : Below w.heap.size w w4 := (below_dN' ((Below.refl _ w).alloc (Nat.le_refl _) _) nq).trans (hb4.mono (by simp))
    have hbx : w4.heap[w.heap.size]? = some (.cells #[.string ⟨#[]⟩, .string ⟨#[]⟩, .int .i64 0] 101 (0, 0)) := (hb4.block w.heap.size (by simp)).trans (heap_alloc_new _ _)
    clear hb4
    obtain ⟨q0, q1, q2, f⟩ := box3 hbx
    have HB := Lib.hid hB4
    clear hB4 hbx
    go_wp2_with fail
    refine bodyPost_ret (v := .agg #[.string B, .string R, .int .i64 0]) (by simp [results, Tryz.results58, go_sem, q0, q1, q2]) rfl ?_
    exact ⟨rfl, below3 HB.out _ _ _⟩
  · rw [decide_eq_false hq] at hcs
    have e : fst s.data.toList = (0, 8) := by rw [HF.out.1, if_neg (by omega), if_neg (by omega), if_pos (by simpa using hq)]
    obtain ⟨e1, e2, e3⟩ := fr_no e (by decide)
    rw [e1, e2, e3]
    clear e1 e2 e3 e HF hq tn sB
    go_enter Tryz.func58, Tryz.ntmps58
    go_wp2_with fail
    go_quiet (fail)
    go_wp2_with fail
    refine (HX.out _).mono ?_
    rintro e w4 ⟨rfl, hb4⟩
    have hB4 : Below w.heap.size w w4 := (below_dN' ((Below.refl _ w).alloc (Nat.le_refl _) _) nq).trans (hb4.mono (by simp))
    have hbx : w4.heap[w.heap.size]? = some (.cells #[.string ⟨#[]⟩, .string ⟨#[]⟩, .int .i64 0] 101 (0, 0)) := (hb4.block w.heap.size (by simp)).trans (heap_alloc_new _ _)
    clear hb4
    obtain ⟨q0, q1, q2, f⟩ := box3 hbx
    have HB := Lib.hid hB4
    clear hB4 hbx
    go_wp2_with fail
    refine bodyPost_ret (v := .agg #[.string ⟨#[]⟩, .string ⟨#[]⟩, .int .i64 8]) (by simp [results, Tryz.results58, go_sem, q0, q1, q2]) rfl ?_
    exact ⟨rfl, below3 HB.out _ _ _⟩
end Go.Proofs.YtdmbombjkinboaaGreat
