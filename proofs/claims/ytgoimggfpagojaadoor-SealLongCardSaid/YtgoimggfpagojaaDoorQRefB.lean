/- lockboxref05.Ask, Block. -/
import Derived.Test.YtgoimggfpagojaaDoorQRef
namespace Go.Proofs.YtgoimggfpagojaaDoor
open Go.RowKit

set_option maxHeartbeats 400000 in
theorem rask_any (key nonce : ByteArray) (c : Int) (w : World) :
    Calls Tryd.prog 126 #[.string key, .string nonce, .int .i64 c] w fun e w' => e = .returned (.int .i64 (askE key.size nonce.size c)) ∧ w = w' := by
  by_cases hk : (key.size : Int) = 32
  · by_cases hn : (nonce.size : Int) = 12
    · have hkn : key.size = 32 ∧ nonce.size = 12 := by omega
      by_cases h1 : c < 0
      · rw [askE_arg hkn (.inl h1)]
        clear hkn
        go_enter Tryd.func126, Tryd.ntmps126
        go_wp2_with fail
        go_ret
        exact ⟨rfl, rfl⟩
      by_cases h2 : 4294967295 < c
      · rw [askE_arg hkn (.inr h2)]
        clear hkn
        go_enter Tryd.func126, Tryd.ntmps126
        go_wp2_with fail
        go_ret
        exact ⟨rfl, rfl⟩
      · rw [askE_ok hkn (by omega)]
        clear hkn
        go_enter Tryd.func126, Tryd.ntmps126
        go_wp2_with fail
        go_ret
        exact ⟨rfl, rfl⟩
    · rw [askE_key (.inr (by omega))]
      have hb := bne_nat hn
      go_enter Tryd.func126, Tryd.ntmps126
      go_wp2_with fail
      go_ret
      exact ⟨rfl, rfl⟩
  · rw [askE_key (.inl (by omega))]
    have hb := bne_nat hk
    go_enter Tryd.func126, Tryd.ntmps126
    go_wp2_with fail
    go_ret
    exact ⟨rfl, rfl⟩

theorem OwnW.mono {B B' : Nat} {w : World} {a : Option Addr} {cap : Nat} {l : List (BitVec 32)} (h : OwnW B w a cap l) (hB : B' ≤ B) : OwnW B' w a cap l := by
  obtain ⟨h1, h2⟩ := h
  refine ⟨h1, ?_⟩
  rcases h2 with h2 | ⟨g, c, cur, e, hBg, h3⟩
  · exact .inl h2
  · exact .inr ⟨g, c, cur, e, Nat.le_trans hB hBg, h3⟩
theorem OwnW.other {B : Nat} {w : World} {g cap : Nat} {l : List (BitVec 32)} (h : OwnW B w (some ⟨g, 0, none⟩) cap l) (ad : Addr) (v : Value) (hne : ad.block ≠ g) : OwnW B (w.setCell ad v) (some ⟨g, 0, none⟩) cap l := by
  obtain ⟨h1, h2⟩ := h
  refine ⟨h1, ?_⟩
  rcases h2 with ⟨e, _⟩ | ⟨g', c, cur, e, hB, hg, h3⟩
  · simp at e
  · injection e with e1 e2 e3
    simp at e1
    subst e1 e3
    exact .inr ⟨g, cap, cur, rfl, hB, by rw [heap_setCell_other _ _ _ _ (fun e => hne e.symm)]; exact hg, h3⟩
theorem OwnW.base {B : Nat} {w : World} {g cap : Nat} {l : List (BitVec 32)} (h : OwnW B w (some ⟨g, 0, none⟩) cap l) (hn : 0 < l.length) : B ≤ g ∧ g < w.heap.size := by
  obtain ⟨g', e, h1, h2⟩ := h.at hn
  simp at e
  omega
/-- A quarter turn of a list of sixteen words, its places as numbers. -/
theorem rq16 (ws : List (BitVec 32)) (h16 : ws.length = 16) (B g cap : Nat) (i j k m : Nat) (I J K M : Int) (hI : (i : Int) = I) (hJ : (j : Int) = J) (hK : (k : Int) = K) (hM : (m : Int) = M)
    (hb : i < 16 ∧ j < 16 ∧ k < 16 ∧ m < 16) (hne : i ≠ j ∧ i ≠ k ∧ i ≠ m ∧ j ≠ k ∧ j ≠ m ∧ k ≠ m) (W : World) (hB : B ≤ W.heap.size) (hown : OwnW B W (some ⟨g, 0, none⟩) cap ws) :
    Calls Tryd.prog 138 #[.slice (some ⟨g, 0, none⟩) 16 cap, .int .i64 I, .int .i64 J, .int .i64 K, .int .i64 M] W fun e w' => ∃ g' cap', e = .returned (.slice (some ⟨g', 0, none⟩) 16 cap') ∧ OwnW B w' (some ⟨g', 0, none⟩) cap' (turnL ws i j k m) ∧ Below W.heap.size W w' := by
  have h := rquarter_any ws (some ⟨g, 0, none⟩) cap i j k m (by omega) (by omega) (by omega) (by omega) (by omega) hne W hown.words
  rw [h16, hI, hJ, hK, hM] at h
  refine h.mono ?_
  rintro e w' ⟨a, cap', rfl, ho, hb⟩
  obtain ⟨g', rfl, -, -⟩ := ho.at (by rw [turnL_length, h16]; decide)
  exact ⟨g', cap', rfl, ho.mono hB, hb⟩
theorem wByte_0 (x : BitVec 32) : V x % 256 = ((wByte x 0).toNat : Int) := by
  have := wByte_num x 0
  rwa [BitVec.ushiftRight_zero] at this
theorem blockB_take (f : List (BitVec 32)) (k : Nat) (hk : k < 16) :
    (blockB f).take (4 * k + 4) = (blockB f).take (4 * k) ++ [wByte (blockW f k) 0, wByte (blockW f k) 8, wByte (blockW f k) 16, wByte (blockW f k) 24] := by
  have hg : ∀ j, j < 4 → (blockB f)[4 * k + j]? = some (wByte (blockW f k) (j * 8)) := fun j hj => by
    unfold blockB blockTo
    rw [List.getElem?_map, List.getElem?_range (by omega), Option.map_some, if_pos (by omega), show (4 * k + j) / 4 = k by omega, show (4 * k + j) % 4 = j by omega]
  have h0 := hg 0 (by omega)
  have h1 := hg 1 (by omega)
  have h2 := hg 2 (by omega)
  have h3 := hg 3 (by omega)
  rw [show 4 * k + 4 = 4 * k + 1 + 1 + 1 + 1 by omega, List.take_add_one, List.take_add_one, List.take_add_one, List.take_add_one, show 4 * k + 1 + 1 + 1 = 4 * k + 3 by omega, show 4 * k + 1 + 1 = 4 * k + 2 by omega]
  rw [show 4 * k + 0 = 4 * k by omega] at h0
  rw [h0, h1, h2, h3]
  simp
theorem OwnW.keep {B B1 : Nat} {w w' : World} {g cap : Nat} {l : List (BitVec 32)} (h : OwnW B w (some ⟨g, 0, none⟩) cap l) (hb : Below B1 w w') (hg : g < B1) : OwnW B w' (some ⟨g, 0, none⟩) cap l := by
  obtain ⟨h1, h2⟩ := h
  refine ⟨h1, ?_⟩
  rcases h2 with ⟨e, _⟩ | ⟨g', c, cur, e, hB, hgg, h3⟩
  · simp at e
  · injection e with e1 e2 e3
    simp at e1
    subst e1 e3
    exact .inr ⟨g, cap, cur, rfl, hB, (hb.block g hg).trans hgg, h3⟩
theorem OwnB.drewN {B : Nat} {w : World} {a : Option Addr} {cap : Nat} {l : List UInt8} (h : OwnB B w a cap l) (n : Nat) : OwnB B (w.drewN n) a cap l := h
theorem cell_new4 (w : World) (a b c d : UInt8) (t : TypeId) (j : Nat) (hj : j < 4) : (w.alloc (.cells #[.int .u8 (a.toNat : Int), .int .u8 (b.toNat : Int), .int .u8 (c.toNat : Int), .int .u8 (d.toNat : Int)] t)).cell? ⟨w.heap.size, j, none⟩ = some (.int .u8 (([a, b, c, d].getD j 0).toNat : Int)) := by
  rw [cell_of_row _ _ _ _ _ _ (heap_alloc_new _ _)]
  obtain rfl | rfl | rfl | rfl : j = 0 ∨ j = 1 ∨ j = 2 ∨ j = 3 := by omega
  all_goals rfl
theorem turns8 (l : List (BitVec 32)) : turnsN l 8 = turnL (turnL (turnL (turnL (turnL (turnL (turnL (turnL l 0 4 8 12) 1 5 9 13) 2 6 10 14) 3 7 11 15) 0 5 10 15) 1 6 11 12) 2 7 8 13) 3 4 9 14 := rfl

attribute [local go_sem] V_add V_add' V_shr V_div256 V_div65536 V_div16777216
set_option maxRecDepth 100000 in
set_option maxHeartbeats 1000000 in
theorem rblock_any (key nonce : ByteArray) (hk : key.size = 32) (hn : nonce.size = 12) (c : BitVec 32) (w : World) :
    Calls Tryd.prog 127 #[.string key, .string nonce, .int .i64 (V c)] w fun e w' => e = .returned (.string (str (blockB (field (textF key nonce) c)))) ∧ Below w.heap.size w w' := by
  have hp0 := V_nonneg c
  have hp1 := V_lt c
  obtain ⟨T, hT⟩ : ∃ T, T = textF key nonce := ⟨_, rfl⟩
  have hTs : T.size = 64 := by rw [hT]; exact textF_size key nonce hk hn
  have hTe : ByteArray.mk #[101, 120, 112, 97, 110, 100, 32, 51, 50, 45, 98, 121, 116, 101, 32, 107] ++ key ++ ByteArray.mk #[0, 0, 0, 0] ++ nonce = T := hT.symm
  obtain ⟨F, hF⟩ : ∃ F, F = field T c := ⟨_, rfl⟩
  have hFl : F.length = 16 := by rw [hF, field_length]
  rw [← hT, ← hF]
  have hws : (wordsTo T 16).length = 16 := wordsTo_length T 16
  have hwF : (wordsTo T 16).set 12 c = F := hF.symm
  have HT := Lib.hid (And.intro hTe (And.intro hFl (And.intro hws hwF)))
  clear hTe hT hF hFl hws hwF
  go_enter Tryd.func127, Tryd.ntmps127
  go_wp2_with fail
  rw [HT.out.1]
  refine (rwords_any T hTs _).mono ?_
  rintro e w1 ⟨g7, cap7, rfl, ho7, hb1⟩
  have c7 := ho7.cellAt 12 (by rw [HT.out.2.2.1]; decide)
  have f7 := ho7.frozenAt 12
  generalize (wordsTo T 16).getD 12 0 = old at c7
  have hp7 := ho7.put 12 c
  rw [HT.out.2.2.2] at hp7
  have hg7 : w.heap.size ≤ g7 := by
    obtain ⟨g, e, hB, -⟩ := ho7.at (by rw [HT.out.2.2.1]; decide)
    simp at e; omega
  have hbb := hb1.setCell (p := ⟨g7, 12, none⟩) hg7 (.int .u32 (V c))
  have H7 := Lib.hid (And.intro hp7 (And.intro hbb hg7))
  clear ho7 hb1 hp7 hbb hg7
  go_wp2_with fail
  rw [HT.out.1]
  refine (rwords_any T hTs _).mono ?_
  rintro e w2 ⟨g8, cap8, rfl, ho8, hb2⟩
  have hsz2 := hb2.size
  have h0 := H7.out.2.1.size
  have ho7 := H7.out.1.call hb2
  have hg78 : g8 ≠ g7 := by
    have h1 := (ho8.base (by rw [HT.out.2.2.1]; decide)).1
    have h2 := (H7.out.1.base (by rw [HT.out.2.1]; decide)).2
    omega
  have ho8 := ho8.mono h0
  have c8 := ho8.cellAt 12 (by rw [HT.out.2.2.1]; decide)
  have f8 := ho8.frozenAt 12
  generalize (wordsTo T 16).getD 12 0 = old8 at c8
  have hp8 := ho8.put 12 c
  rw [HT.out.2.2.2] at hp8
  have ho7 := ho7.other ⟨g8, 12, none⟩ (.int .u32 (V c)) hg78
  have hbb := (below_call' H7.out.2.1 hb2).setCell (p := ⟨g8, 12, none⟩) (ho8.base (by rw [HT.out.2.2.1]; decide)).1 (.int .u32 (V c))
  have H8 := Lib.hid (And.intro ho7 (And.intro hp8 hbb))
  clear ho7 ho8 hb2 hp8 hbb hg78 hsz2 h0
  go_wp2_with fail
  clear c8 f8
  generalize World.setCell w2 _ _ = w3 at *
  go_loopw [8, 9] (fun v i wr => ∃ (n g cap : Nat), n ≤ 10 ∧ i = .int .i64 n ∧ v = .slice (some ⟨g, 0, none⟩) 16 cap ∧ OwnW w.heap.size wr (some ⟨g, 0, none⟩) cap (rndsN F n) ∧ OwnW w.heap.size wr (some ⟨g7, 0, none⟩) cap7 F ∧ Below w.heap.size w wr) (fun _ i _ => 10 - (intOf i).toNat)
  case atStart => exact ⟨0, g8, cap8, by omega, rfl, rfl, H8.out.2.1, H8.out.1, H8.out.2.2⟩
  case round =>
    clear H8 H7
    obtain ⟨n, g, cap, hn10, rfl, rfl, ho, ho7, hb⟩ := hrel
    by_cases hlt : n < 10
    · have n10 : decide ((n : Int) < 10) = true := by simp; omega
      have hl0 : (rndsN F n).length = 16 := by rw [rndsN_length, HT.out.2.1]
      have hnx : rndsN F (n + 1) = turnsN (rndsN F n) 8 := rfl
      rw [turns8] at hnx
      generalize rndsN F n = l0 at *
      have K0 := Lib.hid (And.intro ho (And.intro ho7 (And.intro hb hl0)))
      have HNX := Lib.hid hnx
      clear ho ho7 hb hl0 hnx
      go_wp2_with fail
      refine (rq16 l0 K0.out.2.2.2 w.heap.size _ _ 0 4 8 12 0 4 8 12 rfl rfl rfl rfl (by decide) (by decide) _ K0.out.2.2.1.size K0.out.1).mono ?_
      rintro e x0 ⟨y0, z0, rfl, ho, hb⟩
      have ho7 := K0.out.2.1.call hb
      have hb := below_call' K0.out.2.2.1 hb
      have hl : (turnL l0 0 4 8 12).length = 16 := by rw [turnL_length]; exact K0.out.2.2.2
      obtain ⟨l1, hl1⟩ : ∃ l, l = turnL l0 0 4 8 12 := ⟨_, rfl⟩
      rw [← hl1] at ho hl
      have K1 := Lib.hid (And.intro ho (And.intro ho7 (And.intro hb hl)))
      have L1 := Lib.hid hl1
      clear ho ho7 hb hl hl1
      go_wp2_with fail
      refine (rq16 l1 K1.out.2.2.2 w.heap.size _ _ 1 5 9 13 1 5 9 13 rfl rfl rfl rfl (by decide) (by decide) _ K1.out.2.2.1.size K1.out.1).mono ?_
      rintro e x1 ⟨y1, z1, rfl, ho, hb⟩
      have ho7 := K1.out.2.1.call hb
      have hb := below_call' K1.out.2.2.1 hb
      have hl : (turnL l1 1 5 9 13).length = 16 := by rw [turnL_length]; exact K1.out.2.2.2
      obtain ⟨l2, hl2⟩ : ∃ l, l = turnL l1 1 5 9 13 := ⟨_, rfl⟩
      rw [← hl2] at ho hl
      have K2 := Lib.hid (And.intro ho (And.intro ho7 (And.intro hb hl)))
      have L2 := Lib.hid hl2
      clear ho ho7 hb hl hl2
      go_wp2_with fail
      refine (rq16 l2 K2.out.2.2.2 w.heap.size _ _ 2 6 10 14 2 6 10 14 rfl rfl rfl rfl (by decide) (by decide) _ K2.out.2.2.1.size K2.out.1).mono ?_
      rintro e x2 ⟨y2, z2, rfl, ho, hb⟩
      have ho7 := K2.out.2.1.call hb
      have hb := below_call' K2.out.2.2.1 hb
      have hl : (turnL l2 2 6 10 14).length = 16 := by rw [turnL_length]; exact K2.out.2.2.2
      obtain ⟨l3, hl3⟩ : ∃ l, l = turnL l2 2 6 10 14 := ⟨_, rfl⟩
      rw [← hl3] at ho hl
      have K3 := Lib.hid (And.intro ho (And.intro ho7 (And.intro hb hl)))
      have L3 := Lib.hid hl3
      clear ho ho7 hb hl hl3
      go_wp2_with fail
      refine (rq16 l3 K3.out.2.2.2 w.heap.size _ _ 3 7 11 15 3 7 11 15 rfl rfl rfl rfl (by decide) (by decide) _ K3.out.2.2.1.size K3.out.1).mono ?_
      rintro e x3 ⟨y3, z3, rfl, ho, hb⟩
      have ho7 := K3.out.2.1.call hb
      have hb := below_call' K3.out.2.2.1 hb
      have hl : (turnL l3 3 7 11 15).length = 16 := by rw [turnL_length]; exact K3.out.2.2.2
      obtain ⟨l4, hl4⟩ : ∃ l, l = turnL l3 3 7 11 15 := ⟨_, rfl⟩
      rw [← hl4] at ho hl
      have K4 := Lib.hid (And.intro ho (And.intro ho7 (And.intro hb hl)))
      have L4 := Lib.hid hl4
      clear ho ho7 hb hl hl4
      go_wp2_with fail
      refine (rq16 l4 K4.out.2.2.2 w.heap.size _ _ 0 5 10 15 0 5 10 15 rfl rfl rfl rfl (by decide) (by decide) _ K4.out.2.2.1.size K4.out.1).mono ?_
      rintro e x4 ⟨y4, z4, rfl, ho, hb⟩
      have ho7 := K4.out.2.1.call hb
      have hb := below_call' K4.out.2.2.1 hb
      have hl : (turnL l4 0 5 10 15).length = 16 := by rw [turnL_length]; exact K4.out.2.2.2
      obtain ⟨l5, hl5⟩ : ∃ l, l = turnL l4 0 5 10 15 := ⟨_, rfl⟩
      rw [← hl5] at ho hl
      have K5 := Lib.hid (And.intro ho (And.intro ho7 (And.intro hb hl)))
      have L5 := Lib.hid hl5
      clear ho ho7 hb hl hl5
      go_wp2_with fail
      refine (rq16 l5 K5.out.2.2.2 w.heap.size _ _ 1 6 11 12 1 6 11 12 rfl rfl rfl rfl (by decide) (by decide) _ K5.out.2.2.1.size K5.out.1).mono ?_
      rintro e x5 ⟨y5, z5, rfl, ho, hb⟩
      have ho7 := K5.out.2.1.call hb
      have hb := below_call' K5.out.2.2.1 hb
      have hl : (turnL l5 1 6 11 12).length = 16 := by rw [turnL_length]; exact K5.out.2.2.2
      obtain ⟨l6, hl6⟩ : ∃ l, l = turnL l5 1 6 11 12 := ⟨_, rfl⟩
      rw [← hl6] at ho hl
      have K6 := Lib.hid (And.intro ho (And.intro ho7 (And.intro hb hl)))
      have L6 := Lib.hid hl6
      clear ho ho7 hb hl hl6
      go_wp2_with fail
      refine (rq16 l6 K6.out.2.2.2 w.heap.size _ _ 2 7 8 13 2 7 8 13 rfl rfl rfl rfl (by decide) (by decide) _ K6.out.2.2.1.size K6.out.1).mono ?_
      rintro e x6 ⟨y6, z6, rfl, ho, hb⟩
      have ho7 := K6.out.2.1.call hb
      have hb := below_call' K6.out.2.2.1 hb
      have hl : (turnL l6 2 7 8 13).length = 16 := by rw [turnL_length]; exact K6.out.2.2.2
      obtain ⟨l7, hl7⟩ : ∃ l, l = turnL l6 2 7 8 13 := ⟨_, rfl⟩
      rw [← hl7] at ho hl
      have K7 := Lib.hid (And.intro ho (And.intro ho7 (And.intro hb hl)))
      have L7 := Lib.hid hl7
      clear ho ho7 hb hl hl7
      go_wp2_with fail
      refine (rq16 l7 K7.out.2.2.2 w.heap.size _ _ 3 4 9 14 3 4 9 14 rfl rfl rfl rfl (by decide) (by decide) _ K7.out.2.2.1.size K7.out.1).mono ?_
      rintro e x7 ⟨y7, z7, rfl, ho, hb⟩
      have ho7 := K7.out.2.1.call hb
      have hb := below_call' K7.out.2.2.1 hb
      have hl : (turnL l7 3 4 9 14).length = 16 := by rw [turnL_length]; exact K7.out.2.2.2
      obtain ⟨l8, hl8⟩ : ∃ l, l = turnL l7 3 4 9 14 := ⟨_, rfl⟩
      rw [← hl8] at ho hl
      have K8 := Lib.hid (And.intro ho (And.intro ho7 (And.intro hb hl)))
      have L8 := Lib.hid hl8
      clear ho ho7 hb hl hl8
      go_wp2_with fail
      go_roundw
      case rel =>
        refine ⟨n + 1, y7, z7, by omega, by go_num, rfl, ?_, K8.out.2.1, K8.out.2.2.1⟩
        rw [HNX.out, ← L1.out, ← L2.out, ← L3.out, ← L4.out, ← L5.out, ← L6.out, ← L7.out, ← L8.out]
        exact K8.out.1
      case measure => simp [intOf]; omega
    · have hnn : n = 10 := by omega
      have n10 : decide ((n : Int) < 10) = false := by simp; omega
      obtain ⟨r, hr⟩ : ∃ r, r = rndsN F 10 := ⟨_, rfl⟩
      rw [hnn, ← hr] at ho
      clear hnn hn10
      have hrl : r.length = 16 := by rw [hr, rndsN_length, HT.out.2.1]
      obtain ⟨B1, hB1⟩ : ∃ B1, B1 = wr.heap.size := ⟨_, rfl⟩
      have hgB : g < B1 := by rw [hB1]; exact (ho.base (by rw [hrl]; decide)).2
      have hgB7 : g7 < B1 := by rw [hB1]; exact (ho7.base (by rw [HT.out.2.1]; decide)).2
      have hwB : w.heap.size ≤ B1 := by rw [hB1]; exact hb.size
      have HR := Lib.hid (And.intro ho (And.intro ho7 (And.intro hb (And.intro hr (And.intro hrl (And.intro hgB (And.intro hgB7 hwB)))))))
      have HB1 := Lib.hid (show B1 ≤ wr.heap.size by omega)
      clear ho ho7 hb hr hrl hgB hgB7 hwB hB1
      go_wp2_with fail
      clear n10 hlt
      go_loopw [10, 11, 12] (fun v i _ wr => ∃ (k m : Nat) (ad : Option Addr) (cap' : Nat), k ≤ 16 ∧ m = 4 * k ∧ i = .int .i64 k ∧ v = .slice ad m cap' ∧ OwnB B1 wr ad cap' ((blockB F).take m) ∧ B1 ≤ wr.heap.size ∧ OwnW w.heap.size wr (some ⟨g, 0, none⟩) cap r ∧ OwnW w.heap.size wr (some ⟨g7, 0, none⟩) cap7 F ∧ Below w.heap.size w wr) (fun _ i _ _ => 16 - (intOf i).toNat)
      case atStart => exact ⟨0, 0, none, 0, by omega, rfl, rfl, rfl, OwnB.nil _ _, HB1.out, HR.out.1, HR.out.2.1, HR.out.2.2.1⟩
      case round =>
        obtain ⟨k, m, ad, cap', hk16, hm, rfl, rfl, hob, hBz, ho, ho7, hb⟩ := hrel
        by_cases hlk : k < 16
        · obtain ⟨x, hx⟩ : ∃ x, x = blockW F k := ⟨_, rfl⟩
          have c1 := ho.cellAt k (by rw [HR.out.2.2.2.2.1]; exact hlk)
          have c2 := ho7.cellAt k (by rw [HT.out.2.1]; exact hlk)
          have hxs : r.getD k 0 + F.getD k 0 = x := by rw [hx, blockW, HR.out.2.2.2.1]
          generalize r.getD k 0 = x1 at *
          generalize F.getD k 0 = x2 at *
          obtain ⟨y0, hy0⟩ : ∃ y, y = wByte x 0 := ⟨_, rfl⟩
          obtain ⟨y1, hy1⟩ : ∃ y, y = wByte x 8 := ⟨_, rfl⟩
          obtain ⟨y2, hy2⟩ : ∃ y, y = wByte x 16 := ⟨_, rfl⟩
          obtain ⟨y3, hy3⟩ : ∃ y, y = wByte x 24 := ⟨_, rfl⟩
          have e0 : V x % 256 = (y0.toNat : Int) := by rw [hy0]; exact wByte_0 x
          have e1 : V (x >>> 8) % 256 = (y1.toNat : Int) := by rw [hy1]; exact wByte_num x 8
          have e2 : V (x >>> 16) % 256 = (y2.toNat : Int) := by rw [hy2]; exact wByte_num x 16
          have e3 : V (x >>> 24) % 256 = (y3.toNat : Int) := by rw [hy3]; exact wByte_num x 24
          have hnext : (blockB F).take (m + 4) = (blockB F).take m ++ [y0, y1, y2, y3] := by rw [hm, blockB_take F k hlk, hy0, hy1, hy2, hy3, hx]
          have hlm : ((blockB F).take m).length = m := by rw [List.length_take, blockB_length]; omega
          have k16 : (k : Int) < 16 := by omega
          have k16' : decide ((k : Int) < 16) = true := by simp; omega
          have H := Lib.hid (And.intro hob (And.intro ho (And.intro ho7 (And.intro hb (And.intro hnext (And.intro hlm (show m + 4 = 4 * (k + 1) by omega)))))))
          have hm64 : m ≤ 60 := by omega
          clear hob ho ho7 hb hnext hlm hx hy0 hy1 hy2 hy3 hm
          go_wp2_with fail
          go_quiet (fail)
          go_wp2_with (at_builtin; (refine wpList_append_bytes (w0 := wr) rfl (.tmp 66) (.tmp 78) rfl ((H.out.1.drewN _).alloc _) m H.out.2.2.2.2.2.1 rfl wr.heap.size 4 4 [y0, y1, y2, y3] rfl rfl (by decide) (fun j hj => cell_new4 _ y0 y1 y2 y3 _ j hj) (by omega) (by simp; omega) ((below_drewN (Below.refl _ _) _).alloc (by exact hBz) _) ?_; intro g1 cap1 w5 hown5 hb5; have H5 := Lib.hid (And.intro hown5 hb5); clear hown5 hb5))
          go_roundw
          case rel => exact ⟨k + 1, m + 4, _, cap1, by omega, H.out.2.2.2.2.2.2, by go_num, rfl, by rw [H.out.2.2.2.2.1]; exact H5.out.1, Nat.le_trans hBz H5.out.2.size, H.out.2.1.keep H5.out.2 HR.out.2.2.2.2.2.1, H.out.2.2.1.keep H5.out.2 HR.out.2.2.2.2.2.2.1, H.out.2.2.2.1.trans (H5.out.2.mono HR.out.2.2.2.2.2.2.2)⟩
          case measure => simp [intOf]; omega
        · obtain rfl : k = 16 := by omega
          obtain rfl : m = 64 := by omega
          rw [List.take_of_length_le (by rw [blockB_length]; omega)] at hob
          have hcv := hob.conv
          rw [blockB_length] at hcv
          have HB := Lib.hid hb
          clear hob ho ho7 hb hm
          go_wp2_with fail
          go_ret
          exact ⟨rfl, HB.out⟩
end Go.Proofs.YtgoimggfpagojaaDoor
