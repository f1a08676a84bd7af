/- PROVED HERE: for every key, text and two bytes the law SealTurned returns true (a sealed text of which a byte of the code is turned is refused, and a number that is not its own), and all read afterwards as they did. Its conditions: the package-level tables of digest and chacha hold what their initialisers lay (tied to the program's text by the card). -/
import Derived.Test.YtgoimggfpagojaaDoorSL1
import Derived.Test.YtgoimggfpagojaaDoorLaidS
import Derived.Test.YtgoimggfpagojaaDoorOpenS
namespace Go.Proofs.YtgoimggfpagojaaDoor
open Go.RowKit
open Cn

theorem sl_tail (n : Int) (t c : ByteArray) : ∃ pre, ∀ c' : ByteArray, c'.size = c.size → Cn.bytes (slT n t c') = pre ++ c'.data.toList := by
  refine ⟨9 :: (num 3 ++ (num n.toNat ++ ((8 :: (num t.size ++ t.data.toList)) ++ 8 :: num c.size))), fun c' h => ?_⟩
  unfold slT
  rw [bytes_lstT, bytesAll, bytesAll, bytesAll, bytesAll, bytes_txtT, bytes_txtT, bytes_numT, h]
  simp only [List.length_cons, List.length_nil, List.cons_append, List.append_assoc, List.append_nil]
theorem t_i8 (n : Nat) (h : n < 256) : (BitVec.ofInt 8 (n : Int)).toNat = n := by
  rw [BitVec.toNat_ofInt]; omega
theorem t_xor (a b : UInt8) : bits .xor .u8 (a.toNat : Int) (b.toNat : Int) = ((a ^^^ b).toNat : Int) := by
  show IntKind.u8.wrap ((BitVec.ofInt 8 _ ^^^ BitVec.ofInt 8 _).toNat : Nat) = _
  rw [BitVec.toNat_xor, t_i8 _ a.toNat_lt, t_i8 _ b.toNat_lt, UInt8.toNat_xor]
  have : a.toNat ^^^ b.toNat < 256 := Nat.xor_lt_two_pow (n := 8) a.toNat_lt b.toNat_lt
  show ((a.toNat ^^^ b.toNat : Nat) : Int) % 256 = _
  omega
theorem t_or (a b : UInt8) : bits .or .u8 (a.toNat : Int) (b.toNat : Int) = ((a ||| b).toNat : Int) := by
  show IntKind.u8.wrap ((BitVec.ofInt 8 _ ||| BitVec.ofInt 8 _).toNat : Nat) = _
  rw [BitVec.toNat_or, t_i8 _ a.toNat_lt, t_i8 _ b.toNat_lt, UInt8.toNat_or]
  have : a.toNat ||| b.toNat < 256 := Nat.or_lt_two_pow (n := 8) a.toNat_lt b.toNat_lt
  show ((a.toNat ||| b.toNat : Nat) : Int) % 256 = _
  omega
theorem or1_ne (b : UInt8) : b ||| 1 ≠ 0 := by
  have h : ∀ c : Fin 256, UInt8.ofNat c.1 ||| 1 ≠ 0 := by decide +kernel
  have h2 := h ⟨b.toNat, b.toNat_lt⟩
  simp only [UInt8.ofNat_toNat] at h2
  exact h2
theorem xor_ne (a m : UInt8) (h : m ≠ 0) : a ^^^ m ≠ a := fun e => h (by
  have e2 : a ^^^ (a ^^^ m) = a ^^^ a := by rw [e]
  rw [← UInt8.xor_assoc, UInt8.xor_self, UInt8.zero_xor] at e2
  exact e2)
theorem tRow_set {B : Nat} {w : World} {g : Nat} {l : List UInt8} (h : Row8 B w g l) (j : Nat) (hj : j < l.length) (c : UInt8) : Row8 B (w.setCell ⟨g, j, none⟩ (.int .u8 (c.toNat : Int))) g (l.set j c) :=
  Row8.put (l' := l.set j c) h j hj c (List.length_set ..) (by simp [List.getD_eq_getElem?_getD, hj]) (fun i hi he => by
    rw [List.getD_eq_getElem?_getD, List.getD_eq_getElem?_getD, List.getElem?_set, if_neg (fun e => he e.symm)])
/-- A sealed text, one of the code's bytes turned. -/
theorem turned_code {key p : ByteArray} {m : UInt8} {r : Nat} (h : askP key 7 = 0) (hp : p.size ≤ 1024) (hr : r < 32) (hm : m ≠ 0) :
    let s := sealP key 7 p
    32 ≤ s.size ∧ openE key 7 (str (s.data.toList.set (s.size - 1 - r) (s.data.toList.getD (s.size - 1 - r) 0 ^^^ m))) = (⟨#[]⟩, 8) := by
  intro s
  obtain ⟨t, ht⟩ : ∃ t, t = trnP key 7 p := ⟨_, rfl⟩
  obtain ⟨c, hc⟩ : ∃ c, c = codP key 7 t := ⟨_, rfl⟩
  have hcs : c.size = 32 := by rw [hc]; exact codP_size _ _ _
  have hts : t.size ≤ 1024 := by rw [ht, trnP_size key 7 (by omega)]; exact hp
  obtain ⟨pre, hpre⟩ := sl_tail 7 t c
  have hs : s = str (pre ++ c.data.toList) := by
    show sealP key 7 p = _
    unfold sealP
    rw [← ht, ← hc]
    unfold slS
    rw [hpre c rfl]
  have hcl : c.data.toList.length = 32 := hcs
  have hsl : s.size = pre.length + 32 := by rw [hs, str_size, List.length_append, hcl]
  have hsd : s.data.toList = pre ++ c.data.toList := by rw [hs]; rfl
  refine ⟨by omega, ?_⟩
  have hi : s.size - 1 - r = pre.length + (31 - r) := by omega
  have hj : 31 - r < c.data.toList.length := by omega
  rw [hi, hsd, List.set_append_right _ _ (by omega), List.getD_eq_getElem?_getD, List.getElem?_append_right (by omega), Nat.add_sub_cancel_left, List.getElem?_eq_getElem hj, Option.getD_some]
  obtain ⟨d, hd⟩ : ∃ d, d = c.data.toList[31 - r] := ⟨_, rfl⟩
  rw [← hd]
  obtain ⟨c', hc'⟩ : ∃ c', c' = str (c.data.toList.set (31 - r) (d ^^^ m)) := ⟨_, rfl⟩
  have hcs' : c'.size = c.size := by rw [hc', str_size, List.length_set]; rfl
  have hcd' : c'.data.toList = c.data.toList.set (31 - r) (d ^^^ m) := by rw [hc']; rfl
  have hne : c ≠ c' := fun e => by
    have h1 : c.data.toList[31 - r]? = c'.data.toList[31 - r]? := by rw [← e]
    rw [hcd', List.getElem?_set, if_pos rfl, if_pos hj, List.getElem?_eq_getElem hj, ← hd] at h1
    injection h1 with h1
    exact xor_ne d m hm h1.symm
  rw [← hcd', ← hpre c' hcs']
  have hr2 : rdS (str (Cn.bytes (slT 7 t c'))) = some (7, t, c') := rdS_of (n := 7) ⟨by decide, by decide⟩ hts (by rw [hcs', hcs])
  unfold openE
  rw [if_neg (fun e => e h), hr2]
  simp only
  rw [if_neg (fun e => e rfl), if_pos (by rw [← hc]; exact hne)]
theorem other_num {key p : ByteArray} (h : askP key 7 = 0) (h8 : askP key 8 = 0) (hp : p.size ≤ 1024) : openE key 8 (sealP key 7 p) = (⟨#[]⟩, 3) := by
  have hr : rdS (sealP key 7 p) = some (7, trnP key 7 p, codP key 7 (trnP key 7 p)) := rdS_of (askP_ok h).2 (by rw [trnP_size key 7 (by omega)]; exact hp) (codP_size _ _ _)
  unfold openE
  rw [if_neg (fun e => e h8), hr]
  simp only
  rw [if_pos (by decide)]
theorem ask7 {key : ByteArray} {n : Int} (h : key.size = 32) (h0 : 0 ≤ n) (h1 : n ≤ 72057594037927935) : askP key n = 0 := by unfold askP; rw [if_neg (fun e => e h), if_pos ⟨h0, h1⟩]
theorem tsealP_few {key : ByteArray} {n : Int} {p : ByteArray} (h : askP key n = 0) (hp : p.size ≤ 1024) : (sealP key n p).size ≤ 3000 := by
  unfold sealP
  rw [slS_size]
  exact slT_len (askP_ok h).2 (by rw [trnP_size key n (by omega)]; omega) (by rw [codP_size]; exact Nat.le_refl _)
set_option maxRecDepth 100000 in
set_option maxHeartbeats 4000000 in
theorem turned16_law {w : World} (key : ByteArray) (_ : key.size ≤ maxLen) (p : ByteArray) (_ : p.size ≤ maxLen) (a b : UInt8) (hG : Glob w ∧ GlobQ w) :
    Calls Tryd.prog 11 #[.string key, .string p, .agg (two8 a b)] w fun e w' => e = .returned (.bool true) ∧ Below w.heap.size w w' := by
  unfold two8
  have haw := fun (W : World) (hb : Below w.heap.size w W) => awake16_any W (hG.1.below hb) (hG.2.below hb)
  obtain ⟨w1, hw1⟩ : ∃ w1, w1 = w.alloc (.cells #[.int .u8 (a.toNat : Int), .int .u8 (b.toNat : Int)] 53) := ⟨_, rfl⟩
  have hb1 : Below w.heap.size w w1 := by rw [hw1]; exact (Below.refl _ _).alloc (Nat.le_refl _) _
  by_cases h1 : key.size = 32
  rotate_left
  · have h1i : ¬ ((key.size : Int) = 32) := by omega
    have H := Lib.hid (And.intro haw hb1)
    clear haw hG hb1 h1
    go_enter Tryd.func11, Tryd.ntmps11
    go_upto_region 1 with fail
    rw [← hw1]
    clear hw1
    go_wp2_with fail
    refine (H.out.1 _ H.out.2).mono ?_
    rintro e w2 ⟨rfl, k2⟩
    have K2 := Lib.hid (sbelow_call H.out.2 k2)
    clear k2
    go_wp2_with fail
    go_ret
    exact ⟨rfl, K2.out⟩
  have h1i : (key.size : Int) = 32 := by omega
  by_cases h2 : (1024 : Int) < p.size
  · have H := Lib.hid (And.intro haw hb1)
    clear haw hG hb1 h1
    go_enter Tryd.func11, Tryd.ntmps11
    go_upto_region 1 with fail
    rw [← hw1]
    clear hw1
    go_wp2_with fail
    refine (H.out.1 _ H.out.2).mono ?_
    rintro e w2 ⟨rfl, k2⟩
    have K2 := Lib.hid (sbelow_call H.out.2 k2)
    clear k2
    go_wp2_with fail
    go_ret
    exact ⟨rfl, K2.out⟩
  have hg1 : w1.heap[w.heap.size]? = some (.cells #[.int .u8 (a.toNat : Int), .int .u8 (b.toNat : Int)] 53 (0, 0)) := by rw [hw1]; exact heap_alloc_new _ _
  have hz1 : w.heap.size < w1.heap.size := (Array.getElem?_eq_some_iff.1 hg1).1
  have c0 : w1.cell? ⟨w.heap.size, 0, none⟩ = some (.int .u8 (a.toNat : Int)) := by rw [cell_of_row _ _ _ _ _ _ hg1]; rfl
  have c1 : w1.cell? ⟨w.heap.size, 1, none⟩ = some (.int .u8 (b.toNat : Int)) := by rw [cell_of_row _ _ _ _ _ _ hg1]; rfl
  have hp : p.size ≤ 1024 := by omega
  have ha7 := ask7 (n := 7) h1 (by decide) (by decide)
  have ha8 := ask7 (n := 8) h1 (by decide) (by decide)
  obtain ⟨r, hr⟩ : ∃ r, r = a.toNat % 32 := ⟨_, rfl⟩
  have hr32 : r < 32 := by omega
  obtain ⟨m, hm⟩ : ∃ m, m = b ||| 1 := ⟨_, rfl⟩
  obtain ⟨h32, hbad⟩ := turned_code (m := m) ha7 hp hr32 (by rw [hm]; exact or1_ne b)
  have hnum := other_num ha7 ha8 hp
  have hfew := tsealP_few ha7 hp
  have hs := fun (W : World) (hb : Below w.heap.size w W) => sseal_any key 7 p (by omega) W (hG.1.below hb) (hG.2.below hb)
  have hse : sealE key 7 p = (sealP key 7 p, 0) := by unfold sealE; rw [if_neg (fun e => e ha7), if_neg (by omega)]
  rw [hse] at hs
  obtain ⟨S, hS⟩ : ∃ S, S = sealP key 7 p := ⟨_, rfl⟩
  rw [← hS] at hs h32 hbad hnum hfew
  obtain ⟨i, hi⟩ : ∃ i, i = S.size - 1 - r := ⟨_, rfl⟩
  rw [← hi] at hbad
  have hil : i < S.data.toList.length := by have : S.data.toList.length = S.size := rfl; omega
  obtain ⟨d, hd⟩ : ∃ d, d = S.data.toList.getD i 0 := ⟨_, rfl⟩
  obtain ⟨v, hv⟩ : ∃ v, v = d ^^^ m := ⟨_, rfl⟩
  rw [← hd, ← hv] at hbad
  obtain ⟨S', hS'⟩ : ∃ S', S' = str (S.data.toList.set i v) := ⟨_, rfl⟩
  rw [← hS'] at hbad
  have hSs' : S'.size = S.size := by rw [hS', str_size, List.length_set]; rfl
  have ho1 := fun (W : World) (hb : Below w.heap.size w W) => sopen_any key 7 S' (by omega) (by omega) W (hG.1.below hb) (hG.2.below hb)
  have ho2 := fun (W : World) (hb : Below w.heap.size w W) => sopen_any key 8 S (by omega) (by omega) W (hG.1.below hb) (hG.2.below hb)
  rw [hbad] at ho1
  rw [hnum] at ho2
  unfold sealV at hs ho1 ho2
  have hxo : bits .xor .u8 (d.toNat : Int) (m.toNat : Int) = (v.toNat : Int) := by rw [hv]; exact t_xor d m
  have hor : bits .or .u8 (b.toNat : Int) 1 = (m.toNat : Int) := by rw [hm]; exact t_or b 1
  have hmod : (a.toNat : Int).tmod 32 = (r : Int) := by rw [hr, Int.tmod_eq_emod_of_nonneg (by omega)]; rfl
  obtain ⟨N, hN⟩ : ∃ N, N = S.size := ⟨_, rfl⟩
  have hidx : (N : Int) - 1 - (r : Int) = (i : Int) := by omega
  have hN3 : N ≤ 3000 := by omega
  have hN32 : ¬ ((N : Int) < 32) := by omega
  have hiN : i < N := by omega
  have hNi : (S.size : Int) = (N : Int) := by omega
  have ha256 : (a.toNat : Int) < 256 := by have := a.toNat_lt; omega
  have H := Lib.hid (And.intro haw (And.intro hb1 (And.intro hs (And.intro ho1 (And.intro ho2 (And.intro hN (And.intro hil (And.intro hd (And.intro hS' (And.intro hz1 hSs'))))))))))
  clear haw hb1 hs ho1 ho2 hN hil hd hS' hz1 hSs' hG hse hS h32 hbad hnum hfew hi hv hm hr hg1 ha7 ha8 hp h1
  go_enter Tryd.func11, Tryd.ntmps11
  go_upto_region 1 with fail
  rw [← hw1]
  clear hw1
  go_wp2_with fail
  refine (H.out.2.2.1 _ H.out.2.1).mono ?_
  rintro e w2 ⟨rfl, k2⟩
  have hz2 := Nat.lt_of_lt_of_le H.out.2.2.2.2.2.2.2.2.2.1 k2.size
  have d0 : w2.cell? ⟨w.heap.size, 0, none⟩ = some (.int .u8 (a.toNat : Int)) := (k2.cell (p := ⟨w.heap.size, 0, none⟩) H.out.2.2.2.2.2.2.2.2.2.1).trans c0
  have d1 : w2.cell? ⟨w.heap.size, 1, none⟩ = some (.int .u8 (b.toNat : Int)) := (k2.cell (p := ⟨w.heap.size, 1, none⟩) H.out.2.2.2.2.2.2.2.2.2.1).trans c1
  clear c0 c1
  obtain ⟨cy, w3, hcv, hrow, hb3, hz3⟩ := conv_bytes w2 S
  rw [← H.out.2.2.2.2.2.1] at hcv
  have c0 : w3.cell? ⟨w.heap.size, 0, none⟩ = some (.int .u8 (a.toNat : Int)) := (hb3.cell (p := ⟨w.heap.size, 0, none⟩) hz2).trans d0
  have c1 : w3.cell? ⟨w.heap.size, 1, none⟩ = some (.int .u8 (b.toNat : Int)) := (hb3.cell (p := ⟨w.heap.size, 1, none⟩) hz2).trans d1
  have hb13 := (sbelow_call H.out.2.1 k2)
  have H2 := Lib.hid (And.intro hb13 (And.intro hrow (And.intro hb3 hz3)))
  obtain ⟨hyc, hyf⟩ := hrow.2.2 i H.out.2.2.2.2.2.2.1
  rw [← H.out.2.2.2.2.2.2.2.1] at hyc
  clear k2 hb13 hrow hb3 hz3 d0 d1 hz2
  go_wp2_with fail
  go_region
  obtain ⟨w4, hw4⟩ : ∃ w4, w4 = (w3.setCell ⟨w2.heap.size, i, none⟩ (.int .u8 (v.toNat : Int))).drew := ⟨_, rfl⟩
  rw [← hw4]
  have hb4 : Below w2.heap.size w2 w4 := by rw [hw4]; exact (H2.out.2.2.1.setCell (p := ⟨w2.heap.size, i, none⟩) (Nat.le_refl _) _).drew
  have hrow4 : Row8 w2.heap.size w4 w2.heap.size (S.data.toList.set i v) := by rw [hw4]; exact (tRow_set H2.out.2.1 i H.out.2.2.2.2.2.2.1 v).drew
  have hcv4 := hrow4.conv N (by rw [List.length_set, H.out.2.2.2.2.2.1]; rfl) cy
  rw [← H.out.2.2.2.2.2.2.2.2.1] at hcv4
  have H4 := Lib.hid (H2.out.1.trans (hb4.mono H2.out.1.size))
  clear hw4 hb4 hrow4 hyc hyf c0 c1 hcv hxo hor hmod hidx
  go_wp2_with fail
  refine (H.out.2.2.2.1 _ H4.out).mono ?_
  rintro e w5 ⟨rfl, k5⟩
  have K5 := Lib.hid (sbelow_call H4.out k5)
  clear k5 hcv4
  go_wp2_with fail
  refine (H.out.2.2.2.2.1 _ K5.out).mono ?_
  rintro e w6 ⟨rfl, k6⟩
  have K6 := Lib.hid (sbelow_call K5.out k6)
  clear k6
  go_wp2_with fail
  refine (H.out.1 _ K6.out).mono ?_
  rintro e w7 ⟨rfl, k7⟩
  have K7 := Lib.hid (sbelow_call K6.out k7)
  clear k7
  go_wp2_with fail
  go_ret
  exact ⟨rfl, K7.out⟩
end Go.Proofs.YtgoimggfpagojaaDoor

namespace Go.Proofs.YtgoimggfpagojaaDoor.sealTurnedLaw
open Go.ChangeShapes Go.WideShapes Go.ChangeAt Go.RowKit
open Go.ChangeMaps (open_string shut_string)

set_option maxRecDepth 100000 in
theorem contract (H : Type) (enc : TypeId × Value → H) (W : World) (base : Nat) (args : Array Value) (ds gs : List (DataW H)) (before : List MemPlace)
    (hval : ∀ (j : Nat) t v, Tryd.f11.params[j]? = some t → args[j]? = some v → Value.okWide Tryd.prog W .any base t v)
    (hW : DataW.Whole enc Tryd.prog Tryd.f11.params.toList Rows.sealTurnedSpec.vars false W args.toList ds gs before) (hL : laidMetH Tryd.prog Rows.sealTurnedRow.laid W) :
    Calls Tryd.prog 11 args W fun e W' => ∃ v, e = .returned v ∧ Rows.sealTurnedSpec.post enc Tryd.prog Tryd.f11 false true false false W args v W' := by
  have hW' := hW
  obtain ⟨p, q, hA0, hV, rfl, hfz, hnd⟩ := hW
  have hA : DataW.TrodAll enc Tryd.prog W 0 (fun _ => true) true Tryd.f11.params.toList args.toList ds p := hA0
  rw [Tryd.params11] at hA hval
  obtain ⟨v0, vs0, d0, ds0, p0, q0, hargs, rfl, rfl, h0, r0⟩ := trodAll_cons hA
  obtain ⟨v1, vs1, d1, ds1, p1, q1, rfl, rfl, rfl, h1, r1⟩ := trodAll_cons r0
  obtain ⟨v2, vs2, d2, ds2, p2, q2, rfl, rfl, rfl, h2, r2⟩ := trodAll_cons r1
  obtain ⟨rfl, rfl, rfl⟩ := trodAll_nil r2
  obtain rfl : args = #[v0, v1, v2] := by cases args; simp_all
  obtain ⟨rfl, rfl⟩ := trodVars_none hV
  obtain ⟨s0, rfl, rfl, rfl, ws0⟩ := open_string Tryd.underlying9 (hval 0 9 v0 rfl rfl) h0
  obtain ⟨s1, rfl, rfl, rfl, ws1⟩ := open_string Tryd.underlying9 (hval 1 9 v1 rfl rfl) h1
  obtain ⟨cs2, rfl, hcs2⟩ := okWide_array Tryd.underlying53 (hval 2 53 v2 rfl rfl)
  have hk2 := h2
  obtain ⟨fuel2, hf2⟩ := h2
  clear hA0
  simp only [List.append_nil, List.nil_append] at hW'
  have hlt2 : ∀ x ∈ p2, x.block < W.heap.size := fun x hx => by simpa using hW'.lt x (by simp [hx])
  obtain ⟨x2a, x2b, hit2⟩ := open_two8 hf2
  obtain rfl : cs2 = two8 x2a x2b := Array.toList_inj.1 hit2
  refine (turned16_law s0 (by simpa using ws0) s1 (by simpa using ws1) x2a x2b (w := W) (hG := glob_of_laid3 hL)).mono fun e W' ⟨he, hb⟩ => ?_
  subst he
  exact ⟨_, rfl, _, _, _, [], _, [], hW', trodAll_cons_mk (shut_bool Tryd.underlying4 _) trodAll_mk0, (trodAll_cons_mk (shut_string Tryd.underlying9 ws0) (trodAll_cons_mk (shut_string Tryd.underlying9 ws1) (trodAll_cons_mk (Below.trod laidOut (by kernel_rfl) (of_decide_eq_true (by kernel_rfl)) hk2 hb hlt2) trodAll_mk0))), rfl, hb.frame _, fun h => by cases h⟩
theorem laid_met (os : Os) : laidMet Tryd.prog Rows.sealTurnedRow.laid ((laidWorld3 os).forCall (fun _ _ => 0) ⟨#[], #[.string ⟨#[]⟩, .string ⟨#[]⟩, .agg #[.int .u8 0, .int .u8 0]], []⟩).memory :=
  laidMet_of_run' 8 (by kernel_rfl) (by kernel_rfl)
theorem reads (os : Os) {H : Type} (enc : TypeId × Value → H) : ∃ places, DataW.whole enc Tryd.prog ((laidWorld3 os).forCall (fun _ _ => 0) ⟨#[], #[.string ⟨#[]⟩, .string ⟨#[]⟩, .agg #[.int .u8 0, .int .u8 0]], []⟩).memory Tryd.f11.params.toList Rows.sealTurnedSpec.vars false #[Value.string ⟨#[]⟩, .string ⟨#[]⟩, .agg #[.int .u8 0, .int .u8 0]].toList 8 = some ([.lit (.string []), .lit (.string []), .agg [.lit (.int .u8 0), .lit (.int .u8 0)]], [], places) :=
  ⟨[], by kernel_rfl⟩
set_option maxRecDepth 100000 in
theorem lifted (os : Os) (started : os.Started) (H : Type) (enc : TypeId × Value → H) (F : Stop.Interp) :
    ReturnsInHanded {} Tryd.checked os 11 .any ((OpenSpec.ofChange Rows.sealTurnedSpec).preRow enc Tryd.prog Tryd.f11 Rows.sealTurnedRow.domain false Rows.sealTurnedRow.laid) (((OpenSpec.ofChange Rows.sealTurnedSpec).at F).post enc Tryd.prog Tryd.f11 false true false false) := by
  obtain ⟨places, hx⟩ := reads os enc
  refine returnsInHanded_of_row (C := Tryd.checked) (s := OpenSpec.ofChange Rows.sealTurnedSpec) own started (by kernel_rfl) Tryd.func11
    (witness_row_at (enc := enc) (C := Tryd.checked) false (laidWorld3 os) #[.string ⟨#[]⟩, .string ⟨#[]⟩, .agg #[.int .u8 0, .int .u8 0]] rfl (by kernel_rfl) (by kernel_rfl) (by kernel_rfl)
      (OpenSpec.preRow_of_cond 8 hx (by kernel_rfl) (fun k hk => by cases hk) (by kernel_rfl) (laid_met os))) ?_
  intro W base args ds gs before hval hW _ _ _ hL _ _
  exact contract H enc W base args ds gs before hval hW hL
theorem said : Rows.SealTurnedSaid :=
  OpenClaim.holds_of_cond 11 Tryd.f11 rfl rfl rfl rfl rfl rfl rfl ⟨rfl, rfl, rfl, rfl, rfl⟩ rfl rfl rfl rfl rfl (by kernel_rfl) Tryd.func11 (by kernel_rfl)
    (of_decide_eq_true (by kernel_rfl)) (by unfold Func.isWrapper; first | (rw [if_pos (by decide +kernel)]; kernel_rfl) | (rw [if_neg (by decide +kernel)]; exact ⟨rfl, rfl⟩))
    (fun os started H enc _ F => by rw [OpenClaim.pre_eq_preRow]; exact lifted os started H enc F)
theorem plain (f : FuncId) (fn : Func) (hf : Tryd.pinned.checked.prog.funcNamed "lockbox/lockboxlaw16.SealTurned" = some f) (hfn : Tryd.pinned.checked.prog.funcs[f]? = some fn) :
    false = Tryd.pinned.checked.prog.looks [] ∧ ∀ (j : Nat) t, fn.params[j]? = some t → Tryd.pinned.checked.prog.wantsStandIn t = false := by
  obtain rfl : f = 11 := Option.some.inj ((show Tryd.prog.funcNamed "lockbox/lockboxlaw16.SealTurned" = some 11 by kernel_rfl).symm.trans hf) |>.symm
  obtain rfl : fn = Tryd.f11 := (Option.some.inj (Tryd.func11.symm.trans hfn)).symm
  refine ⟨by kernel_rfl, fun j t ht => ?_⟩
  rw [Tryd.params11] at ht
  have hm : t ∈ [9, 9, 53] := by simpa using Array.mem_of_getElem? ht
  have hall : ([9, 9, 53].all fun u => !Tryd.prog.wantsStandIn u) = true := by kernel_rfl
  exact (show Tryd.prog.wantsStandIn t = false by simpa using List.all_eq_true.1 hall t hm)
end Go.Proofs.YtgoimggfpagojaaDoor.sealTurnedLaw

namespace Go.Proofs.YtgoimggfpagojaaDoor
/-- THE CARD. -/
theorem sealTurned_card : Rows.SealTurnedCardSaid :=
  Claim7.holds_tied_plain_at .later [] _ _ _ _ sealTurnedLaw.said (fun _ h => by cases h) (by kernel_rfl) (fun _ h => by cases h) sealTurned_row_tie rfl ⟨rfl, rfl⟩ (by kernel_rfl) rfl sealTurnedLaw.plain (by kernel_rfl)
end Go.Proofs.YtgoimggfpagojaaDoor
