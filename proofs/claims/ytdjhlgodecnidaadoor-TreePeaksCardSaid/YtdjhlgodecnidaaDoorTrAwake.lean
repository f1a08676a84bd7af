/- lockboxref04.Same; the digests of leaves; lockboxlaw13.awake. -/
import Derived.Test.YtdjhlgodecnidaaDoorTrBridge
import Derived.Test.YtdjhlgodecnidaaDoorFew
import Derived.BigQuiet
import Derived.Deep.DeepCutAuto
namespace Go.Proofs.YtdjhlgodecnidaaDoor
open Go.RowKit
open Tr

set_option maxRecDepth 100000 in
set_option maxHeartbeats 400000 in
theorem rsame_any (ss : List ByteArray) (a0 b0 : Option Addr) (cap cap' : Nat) (w : World) (hT : TextsAt w a0 ss) (hT2 : TextsAt w b0 ss) (hm : ss.length ≤ 1000000) :
    Calls Tryd.prog 30 #[.slice a0 ss.length cap, .slice b0 ss.length cap'] w fun e w' => e = .returned (.bool true) ∧ Below w.heap.size w w' := by
  obtain ⟨n, hn⟩ : ∃ n, n = ss.length := ⟨_, rfl⟩
  have HT := Lib.hid (And.intro hT (And.intro hT2 hn))
  rw [← hn] at hm ⊢
  clear hT hT2 hn
  go_enter Tryd.func30, Tryd.ntmps30
  go_wp2_with fail
  go_loopw [5] (fun c wr => ∃ i : Nat, i ≤ n ∧ c = .int .i64 i ∧ Below w.heap.size w wr) (fun c _ => n - (intOf c).toNat)
  case atStart => exact ⟨0, by omega, rfl, Below.refl _ _⟩
  case round =>
    obtain ⟨i, hi, rfl, hb⟩ := hrel
    by_cases hlt : i < n
    · obtain ⟨b, off, rfl, _, hc⟩ := HT.out.1.below hb i (by have := HT.out.2.2; omega)
      obtain ⟨b2, off2, rfl, _, hc2⟩ := HT.out.2.1.below hb i (by have := HT.out.2.2; omega)
      obtain ⟨x, hx⟩ : ∃ x, x = ss.getD i ByteArray.empty := ⟨_, rfl⟩
      rw [← hx] at hc hc2
      have hxx : (x.toList == x.toList) = true := by simp
      have HB := Lib.hid hb
      clear hb hx
      go_wp2_with fail
      go_quiet (fail)
      go_wp2_with fail
      go_roundw
      case rel => exact ⟨i + 1, by omega, by go_num, HB.out.trans ⟨rfl, rfl, rfl, Nat.le_refl _, fun _ _ => rfl⟩⟩
      case measure => simp [intOf]; omega
    · obtain rfl : i = n := by omega
      have HB := Lib.hid hb
      clear hb
      go_wp2_with fail
      go_ret
      exact ⟨rfl, HB.out⟩

theorem digs_leaves (ss : List ByteArray) : Digs (ss.map leaf) := fun x hx => by
  obtain ⟨y, -, rfl⟩ := List.mem_map.1 hx
  exact sumE_size _
set_option maxRecDepth 100000 in
set_option maxHeartbeats 400000 in
theorem rdigests_any (ss : List ByteArray) (a0 : Option Addr) (cap : Nat) (w : World) (hT : TextsAt w a0 ss) (hm : ss.length ≤ 100000) (hs : ∀ j, j < ss.length → (ss.getD j ByteArray.empty).size ≤ 100000) :
    Calls Tryd.prog 55 #[.slice a0 ss.length cap] w fun e w' => ∃ a c, e = .returned (.slice a ss.length c) ∧ OwnT w.heap.size w' a c (ss.map leaf) ∧ Below w.heap.size w w' := by
  obtain ⟨n, hn⟩ : ∃ n, n = ss.length := ⟨_, rfl⟩
  have HT := Lib.hid (And.intro hT (And.intro hn hs))
  rw [← hn] at hm ⊢
  clear hT hn hs
  go_enter Tryd.func55, Tryd.ntmps55
  go_wp2_with fail
  go_loopw [3, 4] (fun v c wr => ∃ (i : Nat) (a : Option Addr) (cp : Nat), i ≤ n ∧ v = .slice a i cp ∧ c = .int .i64 i ∧ OwnT w.heap.size wr a cp ((ss.take i).map leaf) ∧ Below w.heap.size w wr) (fun _ c _ => n - (intOf c).toNat)
  case atStart => exact ⟨0, none, 0, by omega, rfl, rfl, OwnT.nil _ _, Below.refl _ _⟩
  case round =>
    obtain ⟨i, a, cp, hi, rfl, rfl, hO, hb⟩ := hrel
    by_cases hlt : i < n
    · obtain ⟨b, off, rfl, _, hc⟩ := (HT.out.1.below hb) i (by have := HT.out.2.1; omega)
      obtain ⟨x, hx⟩ : ∃ x, x = ss.getD i ByteArray.empty := ⟨_, rfl⟩
      have hx2 := HT.out.2.2 i (by have := HT.out.2.1; omega)
      rw [← hx] at hc hx2
      have hnx : (ss.take (i + 1)).map leaf = (ss.take i).map leaf ++ [leaf x] := by
        rw [take_succ_getD (by have := HT.out.2.1; omega), ← hx, List.map_append]; rfl
      have hln : ((ss.take i).map leaf).length = i := by rw [List.length_map, List.length_take]; have := HT.out.2.1; omega
      obtain ⟨D, hD⟩ : ∃ D, D = leaf x := ⟨_, rfl⟩
      have hrl := fun W => rleaf_any x hx2 W
      rw [← hD] at hrl hnx
      have H := Lib.hid (And.intro hO (And.intro hb (And.intro hnx (And.intro hln hrl))))
      clear hO hb hnx hln hrl hx hD
      go_wp2_with fail
      refine (H.out.2.2.2.2 _).mono ?_
      rintro e w3 ⟨rfl, hb3⟩
      have F3 := H.out.2.1.trans (hb3.mono H.out.2.1.size)
      have HC := Lib.hid (And.intro (OwnT.alloc (OwnT.call H.out.1 hb3) (.cells #[.string D] 9)) (F3.alloc F3.size (.cells #[.string D] 9)))
      clear hb3 F3 hc
      go_wp2_with (at_builtin; (refine wpList_append_texts rfl (.tmp 11) (.tmp 17) rfl HC.out.1 _ H.out.2.2.2.1 rfl _ _ 1 [D] rfl rfl (texts_one w3 D) (by omega) HC.out.2.size HC.out.2 ?_; intro ad cp w4 ho hb; have HD := Lib.hid (And.intro ho hb); clear ho hb))
      go_roundw
      case rel => exact ⟨i + 1, ad, cp, by omega, rfl, by go_num, by rw [H.out.2.2.1]; exact HD.out.1, HD.out.2⟩
      case measure => simp [intOf]; omega
    · obtain rfl : i = n := by omega
      have H := Lib.hid (And.intro hO hb)
      clear hO hb
      go_wp2_with fail
      go_ret
      refine ⟨a, cp, rfl, ?_, H.out.2⟩
      have := H.out.1
      rwa [List.take_of_length_le (by have := HT.out.2.1; omega)] at this
set_option maxRecDepth 100000 in
set_option maxHeartbeats 400000 in
theorem digests_any (ss : List ByteArray) (a0 : Option Addr) (cap : Nat) (w : World) (hT : TextsAt w a0 ss) (hm : ss.length ≤ maxLen) (hf : FewOf ss 40 100) :
    Calls Tryd.prog 15 #[.slice a0 ss.length cap] w fun e w' => ∃ a c, e = .returned (.tuple #[.slice a ss.length c, .bool true]) ∧ OwnT w.heap.size w' a c (ss.map leaf) ∧ Below w.heap.size w w' := by
  have c1 := few_any ss a0 cap 40 100 w hT hm
  rw [fewB_true hf] at c1
  have c2 := rdigests_any ss a0 cap w hT (by have := hf.1; omega) (fun j hj => by have := hf.2 j hj; omega)
  obtain ⟨n, hn⟩ : ∃ n, n = ss.length := ⟨_, rfl⟩
  rw [← hn] at c1 c2 ⊢
  have H := Lib.hid (And.intro c1 c2)
  clear c1 c2 hf hT hm hn
  go_enter Tryd.func15, Tryd.ntmps15
  go_wp2_with fail
  refine H.out.1.mono ?_
  rintro e w1 ⟨rfl, rfl⟩
  go_wp2_with fail
  refine H.out.2.mono ?_
  rintro e w1 ⟨a, c, rfl, hO, hb⟩
  have HB := Lib.hid (And.intro hO hb)
  clear hO hb
  go_wp2_with fail
  go_ret2
  exact ⟨a, c, rfl, HB.out.1, HB.out.2⟩
set_option maxRecDepth 100000 in
theorem nodigests_any (ss : List ByteArray) (a0 : Option Addr) (cap : Nat) (w : World) (hT : TextsAt w a0 ss) (hm : ss.length ≤ maxLen) (hf : ¬ FewOf ss 40 100) :
    Calls Tryd.prog 15 #[.slice a0 ss.length cap] w fun e w' => e = .returned (.tuple #[.slice none 0 0, .bool false]) ∧ w' = w := by
  have c1 := few_any ss a0 cap 40 100 w hT hm
  rw [fewB_false hf] at c1
  obtain ⟨n, hn⟩ : ∃ n, n = ss.length := ⟨_, rfl⟩
  rw [← hn] at c1 ⊢
  have H := Lib.hid c1
  clear c1 hf hT hm hn
  go_enter Tryd.func15, Tryd.ntmps15
  go_wp2_with fail
  refine H.out.mono ?_
  rintro e w1 ⟨rfl, rfl⟩
  go_wp2_with fail
  go_ret2
  exact ⟨rfl, rfl⟩
theorem hf_three : hf 3 = 2 := by decide
theorem root_pair (a b : ByteArray) : root [a, b] = node a b := by
  rw [root_two (by simp), show hf [a, b].length = 1 from hf_two]; rfl
theorem way_abc (a b c : ByteArray) : way [a, b, c] 2 = [node a b] := by
  rw [way_two (by simp), show hf [a, b, c].length = 2 from hf_three, if_neg (by decide), way_one (by simp), show [a, b, c].take 2 = [a, b] from rfl, root_pair]; rfl
theorem bridge2_abc (a b c : ByteArray) : bridge [a, b, c] 2 true = [c] := by
  rw [bridge_two (by decide) (by simp), show hf [a, b, c].length = 2 from hf_three, if_pos (by decide), show bridge ([a, b, c].take 2) 2 true = [] from bridge_all (l := [a, b]) (by simp) true]; rfl
theorem bridge1_abc (a b c : ByteArray) : bridge [a, b, c] 1 true = [b, c] := by
  rw [bridge_two (by decide) (by simp), show hf [a, b, c].length = 2 from hf_three, if_pos (by decide), show [a, b, c].take 2 = [a, b] from rfl, bridge_two (by decide) (by simp), show hf [a, b].length = 1 from hf_two, if_pos (by decide),
    show bridge ([a, b].take 1) 1 true = [] from bridge_all (l := [a]) (by simp) true]; rfl
theorem root_abc (a b c : ByteArray) : root [a, b, c] = node (node a b) c := by
  rw [root_two (by simp), show hf [a, b, c].length = 2 from hf_three, show [a, b, c].take 2 = [a, b] from rfl, root_pair]; rfl
theorem own_three {B : Nat} (W : World) (x y z : ByteArray) (hb : B ≤ W.heap.size) : OwnT B (W.alloc (.cells #[.string x, .string y, .string z] 9)) (some ⟨W.heap.size, 0, none⟩) 3 [x, y, z] :=
  World.ownsRow_lit (e := 9) (size := 1) W #[.string x, .string y, .string z] 3 hb (by unfold maxLen; decide) rfl
theorem own_two {B : Nat} (W : World) (x y : ByteArray) (hb : B ≤ W.heap.size) : OwnT B (W.alloc (.cells #[.string x, .string y] 9)) (some ⟨W.heap.size, 0, none⟩) 2 [x, y] :=
  World.ownsRow_lit (e := 9) (size := 1) W #[.string x, .string y] 2 hb (by unfold maxLen; decide) rfl
set_option maxRecDepth 100000 in
set_option maxHeartbeats 4000000 in
theorem awake13_any (w : World) (hG : Glob w) : Calls Tryd.prog 16 #[] w fun e w' => e = .returned (.bool true) ∧ Below w.heap.size w w' := by
  have la := fun W hG => leaf_any ⟨#[97]⟩ (by decide) W hG
  have lb := fun W hG => leaf_any ⟨#[98]⟩ (by decide) W hG
  have lc := fun W hG => leaf_any ⟨#[99]⟩ (by decide) W hG
  obtain ⟨a, ha⟩ : ∃ a, a = leaf ⟨#[97]⟩ := ⟨_, rfl⟩
  obtain ⟨b, hb⟩ : ∃ a, a = leaf ⟨#[98]⟩ := ⟨_, rfl⟩
  obtain ⟨c, hc⟩ : ∃ a, a = leaf ⟨#[99]⟩ := ⟨_, rfl⟩
  rw [← ha] at la
  rw [← hb] at lb
  rw [← hc] at lc
  have sa : a.size = 32 := by rw [ha]; exact sumE_size _
  have sb : b.size = 32 := by rw [hb]; exact sumE_size _
  have sc : c.size = 32 := by rw [hc]; exact sumE_size _
  obtain ⟨N1, hN1⟩ : ∃ N, N = node a b := ⟨_, rfl⟩
  obtain ⟨N2, hN2⟩ : ∃ N, N = node N1 c := ⟨_, rfl⟩
  have sN1 : N1.size = 32 := by rw [hN1]; exact sumE_size _
  have nd1 := fun W hG => node_any a b (by omega) (by omega) W hG
  have nd2 := fun W hG => node_any N1 c (by omega) (by omega) W hG
  rw [← hN1] at nd1
  rw [← hN2] at nd2
  have hD : Digs [a, b, c] := fun x hx => by simp at hx; rcases hx with rfl | rfl | rfl <;> assumption
  have wy := fun (W : World) (a0 : Option Addr) hG hT => bigWay_any [a, b, c] (show 3 ≤ 4096 by decide) hD 2 a0 3 W hG hT (show 3 ≤ 3 by decide) (by unfold maxLen; decide)
  have b2 := fun (W : World) (a0 : Option Addr) hG hT => bigBridge_any [a, b, c] (show 3 ≤ 4096 by decide) hD 2 a0 3 W hG hT (show 3 ≤ 3 by decide) (by unfold maxLen; decide)
  have b1 := fun (W : World) (a0 : Option Addr) hG hT => bigBridge_any [a, b, c] (show 3 ≤ 4096 by decide) hD 1 a0 3 W hG hT (show 3 ≤ 3 by decide) (by unfold maxLen; decide)
  have rt := fun (W : World) (a0 : Option Addr) hG hT => root_any 3 [a, b, c] rfl (by decide) hD a0 3 W hG hT (show 3 ≤ 3 by decide) (by unfold maxLen; decide)
  have e1 : wayI [a, b, c] 2 = [N1] ∧ wayE [a, b, c] 2 = 0 := ⟨by rw [hN1, ← way_abc a b c]; exact if_pos ⟨by decide, by simp⟩, if_pos ⟨by decide, by simp⟩⟩
  have e2 : brI [a, b, c] 2 = [c] ∧ brE [a, b, c] 2 = 0 := ⟨(show brI [a, b, c] 2 = bridge [a, b, c] 2 true from if_pos ⟨by decide, by simp⟩).trans (bridge2_abc a b c), if_pos ⟨by decide, by simp⟩⟩
  have e3 : brI [a, b, c] 1 = [b, c] ∧ brE [a, b, c] 1 = 0 := ⟨(show brI [a, b, c] 1 = bridge [a, b, c] 1 true from if_pos ⟨by decide, by simp⟩).trans (bridge1_abc a b c), if_pos ⟨by decide, by simp⟩⟩
  have e4 : root [a, b, c] = N2 := by rw [hN2, hN1]; exact root_abc a b c
  rw [e1.1, e1.2] at wy
  rw [e2.1, e2.2] at b2
  rw [e3.1, e3.2] at b1
  rw [e4] at rt
  simp only [List.length_cons, List.length_nil, Nat.zero_add, Nat.reduceAdd] at wy b2 b1 rt
  have sm1 := fun (W : World) (x y : Option Addr) (p q : Nat) h1 h2 => rsame_any [N1] x y p q W h1 h2 (show _ ≤ 1000000 by simp)
  have sm2 := fun (W : World) (x y : Option Addr) (p q : Nat) h1 h2 => rsame_any [c] x y p q W h1 h2 (show _ ≤ 1000000 by simp)
  have sm3 := fun (W : World) (x y : Option Addr) (p q : Nat) h1 h2 => rsame_any [b, c] x y p q W h1 h2 (show _ ≤ 1000000 by simp)
  simp only [List.length_cons, List.length_nil, Nat.zero_add, Nat.reduceAdd] at sm1 sm2 sm3
  have H := Lib.hid (And.intro la (And.intro lb (And.intro lc (And.intro nd1 (And.intro nd2 (And.intro wy (And.intro b2 (And.intro b1 (And.intro rt (And.intro sm1 (And.intro sm2 sm3)))))))))))
  have HG := Lib.hid hG
  clear la lb lc ha hb hc nd1 nd2 hN1 hN2 hD wy b2 b1 rt e1 e2 e3 e4 sm1 sm2 sm3 hG sb sc sN1
  have hN22 : (N2.toList == N2.toList) = true := by simp
  have sa2 : ((a.size : Int) == 32) = true := by simp; omega
  clear sa
  go_enter Tryd.func16, Tryd.ntmps16
  go_wp2_with fail
  refine (H.out.1 _ HG.out).mono ?_
  rintro e w1 ⟨rfl, hb⟩
  have B1 := Lib.hid hb
  clear hb
  go_wp2_with fail
  refine (H.out.2.1 _ (HG.out.below B1.out)).mono ?_
  rintro e w2 ⟨rfl, hb⟩
  have B2 := Lib.hid (B1.out.trans (hb.mono B1.out.size))
  clear hb
  go_wp2_with fail
  refine (H.out.2.2.1 _ (HG.out.below B2.out)).mono ?_
  rintro e w3 ⟨rfl, hb⟩
  have B3 := Lib.hid (B2.out.trans (hb.mono B2.out.size))
  clear hb
  obtain ⟨w4, hw4⟩ : ∃ w4, w4 = w3.alloc (.cells #[.string a, .string b, .string c] 9) := ⟨_, rfl⟩
  have B4 := Lib.hid (show Below w.heap.size w w4 ∧ TextsAt w4 (some ⟨w3.heap.size, 0, none⟩) [a, b, c] from by rw [hw4]; exact ⟨B3.out.alloc B3.out.size _, (own_three (B := 0) w3 a b c (Nat.zero_le _)).texts⟩)
  go_upto_region 3 with fail
  rw [← hw4]
  clear hw4
  go_wp2_with fail
  refine (H.out.2.2.2.2.2.1 _ _ (HG.out.below B4.out.1) B4.out.2).mono ?_
  rintro e w5 ⟨ax, cx, rfl, hO, hb⟩
  have B5 := Lib.hid (And.intro (B4.out.1.trans (hb.mono B4.out.1.size)) (And.intro (B4.out.2.below hb) hO.texts))
  clear hb hO
  go_wp2_with fail
  refine (H.out.2.2.2.2.2.2.1 _ _ (HG.out.below B5.out.1) B5.out.2.1).mono ?_
  rintro e w6 ⟨ay, cy, rfl, hO, hb⟩
  have B6 := Lib.hid (And.intro (B5.out.1.trans (hb.mono B5.out.1.size)) (And.intro (B5.out.2.1.below hb) (And.intro (B5.out.2.2.below hb) hO.texts)))
  clear hb hO
  go_wp2_with fail
  refine (H.out.2.2.2.2.2.2.2.1 _ _ (HG.out.below B6.out.1) B6.out.2.1).mono ?_
  rintro e w7 ⟨az, cz, rfl, hO, hb⟩
  have B7 := Lib.hid (And.intro (B6.out.1.trans (hb.mono B6.out.1.size)) (And.intro (B6.out.2.1.below hb) (And.intro (B6.out.2.2.1.below hb) (And.intro (B6.out.2.2.2.below hb) hO.texts))))
  clear hb hO
  go_wp2_with fail
  refine (H.out.2.2.2.1 _ (HG.out.below B7.out.1)).mono ?_
  rintro e w8 ⟨rfl, hb⟩
  have hba : Below w8.heap.size w8 (w8.alloc (.cells #[.string N1] 9)) := (Below.refl _ _).alloc (Nat.le_refl _) _
  have hb2 := hb.trans (hba.mono hb.size)
  have B8 := Lib.hid (And.intro (B7.out.1.trans (hb2.mono B7.out.1.size)) (And.intro (B7.out.2.1.below hb2) (And.intro (B7.out.2.2.1.below hb2) (And.intro (B7.out.2.2.2.1.below hb2) (B7.out.2.2.2.2.below hb2)))))
  clear hb hba hb2
  go_wp2_with fail
  refine (H.out.2.2.2.2.2.2.2.2.2.1 _ _ _ _ _ B8.out.2.2.1 (own_one (B := 0) w8 N1 (Nat.zero_le _)).texts).mono ?_
  rintro e w9 ⟨rfl, hb⟩
  have hba : Below w9.heap.size w9 (w9.alloc (.cells #[.string c] 9)) := (Below.refl _ _).alloc (Nat.le_refl _) _
  have hb2 := hb.trans (hba.mono hb.size)
  have B9 := Lib.hid (And.intro (B8.out.1.trans (hb2.mono B8.out.1.size)) (And.intro (B8.out.2.1.below hb2) (And.intro (B8.out.2.2.2.1.below hb2) (B8.out.2.2.2.2.below hb2))))
  clear hb hba hb2
  go_wp2_with fail
  refine (H.out.2.2.2.2.2.2.2.2.2.2.1 _ _ _ _ _ B9.out.2.2.1 (own_one (B := 0) w9 c (Nat.zero_le _)).texts).mono ?_
  rintro e w10 ⟨rfl, hb⟩
  have hba : Below w10.heap.size w10 (w10.alloc (.cells #[.string b, .string c] 9)) := (Below.refl _ _).alloc (Nat.le_refl _) _
  have hb2 := hb.trans (hba.mono hb.size)
  have B10 := Lib.hid (And.intro (B9.out.1.trans (hb2.mono B9.out.1.size)) (And.intro (B9.out.2.1.below hb2) (B9.out.2.2.2.below hb2)))
  clear hb hba hb2
  go_wp2_with fail
  refine (H.out.2.2.2.2.2.2.2.2.2.2.2 _ _ _ _ _ B10.out.2.2 (own_two (B := 0) w10 b c (Nat.zero_le _)).texts).mono ?_
  rintro e w11 ⟨rfl, hb⟩
  have B11 := Lib.hid (And.intro (B10.out.1.trans (hb.mono B10.out.1.size)) (B10.out.2.1.below hb))
  clear hb
  go_wp2_with fail
  refine (H.out.2.2.2.2.2.2.2.2.1 _ _ (HG.out.below B11.out.1) B11.out.2).mono ?_
  rintro e w12 ⟨rfl, hb⟩
  have B12 := Lib.hid (B11.out.1.trans (hb.mono B11.out.1.size))
  clear hb
  go_wp2_with fail
  refine (H.out.2.2.2.1 _ (HG.out.below B12.out)).mono ?_
  rintro e w13 ⟨rfl, hb⟩
  have B13 := Lib.hid (B12.out.trans (hb.mono B12.out.size))
  clear hb
  go_wp2_with fail
  refine (H.out.2.2.2.2.1 _ (HG.out.below B13.out)).mono ?_
  rintro e w14 ⟨rfl, hb⟩
  have B14 := Lib.hid (B13.out.trans (hb.mono B13.out.size))
  clear hb
  go_wp2_with fail
  go_ret
  exact ⟨rfl, B14.out⟩
end Go.Proofs.YtdjhlgodecnidaaDoor
