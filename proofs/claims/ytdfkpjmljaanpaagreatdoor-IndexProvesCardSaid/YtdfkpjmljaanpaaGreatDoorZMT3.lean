/- MT3, what is wanted of it. -/
import Derived.Test.YtdfkpjmljaanpaaGreatDoorZMX3
import Derived.Test.YtdfkpjmljaanpaaGreatDoorZMT2
import Derived.Deep.DeepCutAuto
namespace Go.Proofs.YtdfkpjmljaanpaaGreatDoor
open Go.RowKit
/-- What an append of texts leaves: the row, what else changed, where the row lies. -/
structure AppT (B : Nat) (w w' : World) (a : Option Addr) (cap : Nat) (l ls : List ByteArray) (ad : Option Addr) (cap' : Nat) : Prop where
  own : OwnT B w' ad cap' (l ++ ls)
  grown : w.grownBy w' (Value.slice a l.length cap).ownBlock
  lies : ∀ g, (Value.slice ad (l ++ ls).length cap').ownBlock = some g → (Value.slice a l.length cap).ownBlock = some g ∨ (g = w.heap.size ∧ g < w'.heap.size)
theorem appT_of {B : Nat} {w w' : World} {a : Option Addr} {cap : Nat} {l ls : List ByteArray} {ad : Option Addr} {cap' : Nat} (hown : OwnT B w a cap l) (hbase : B ≤ w.heap.size)
    (h1 : w'.ownsRow 0 9 1 (.slice ad (l.length + ls.length) cap') (l.length + ls.length) (scells l ++ scells ls)) (h2 : w.grownBy w' (Value.slice a l.length cap).ownBlock)
    (h3 : ∀ g, (Value.slice ad (l.length + ls.length) cap').ownBlock = some g → (Value.slice a l.length cap).ownBlock = some g ∨ (g = w.heap.size ∧ g < w'.heap.size)) : AppT B w w' a cap l ls ad cap' := by
  have hO : OwnT 0 w' ad cap' (l ++ ls) := by unfold OwnT; rw [scells_append, List.length_append]; exact h1
  rw [← List.length_append] at h3
  refine ⟨hO.base fun g hg => ?_, h2, h3⟩
  rcases h3 g hg with h4 | h4
  · exact (World.ownsRow.lt hown g h4).1
  · rw [h4.1]; exact hbase
theorem wpList_append_texts3 {ops : Array Oper} {rest : List Oper} {o : Oper} {act : Act} {Q : Exit → Act → World → Prop} {w : World} (hgd : o.guard = none) (s x : Operand)
    (ho : o.op = .call { callee := .builtin .append, args := #[s, x], argTypes := #[31, 31] })
    {B : Nat} {a : Option Addr} {cap : Nat} {l : List ByteArray} (hown : OwnT B w a cap l) (n : Nat) (hn : l.length = n) (hs : act.eval s = .slice a n cap)
    (b0 : Option Addr) (c' m : Nat) (ls : List ByteArray) (hm : ls.length = m) (hx : act.eval x = .slice b0 m c') (hT : TextsAt w b0 ls)
    (hlen : n + m ≤ 1000000000) (hbase : B ≤ w.heap.size)
    (h : ∀ ad cap' w', AppT B w w' a cap l ls ad cap' → wpList Tryz.prog ops Q rest (act.put o.dst (.slice ad (n + m) cap')) w') : wpList Tryz.prog ops Q (o :: rest) act w := by
  subst hn hm
  obtain ⟨i0, hi0, hz0, hz1, hz2⟩ := info_parts Tryz.info_str
  have hown0 : w.ownsRow 0 9 1 (.slice a l.length cap) l.length (scells l) := hown.mono (Nat.zero_le _)
  exact wpList_append_src hgd s x 31 31 ho 9 i0 _ 1 16 Tryz.underlying31 hi0 hz0 hz1 hz2 rfl _ l.length (scells l) hs hown0 _ ls.length (scells ls) hx (srcT hT c') (by omega) (by omega)
    (fun ad cap' w' h1 h2 h3 => h ad cap' w' (appT_of hown hbase h1 h2 h3))
theorem step_append_texts3 {ops : Array Oper} {o : Oper} {act : Act} {K : Act → World → Prop} {Q : Exit → Act → World → Prop} {E : Prop} {w : World} (hgd : o.guard = none) (s x : Operand)
    (ho : o.op = .call { callee := .builtin .append, args := #[s, x], argTypes := #[31, 31] })
    {B : Nat} {a : Option Addr} {cap : Nat} {l : List ByteArray} (hown : OwnT B w a cap l) (n : Nat) (hn : l.length = n) (hs : act.eval s = .slice a n cap)
    (b0 : Option Addr) (c' m : Nat) (ls : List ByteArray) (hm : ls.length = m) (hx : act.eval x = .slice b0 m c') (hT : TextsAt w b0 ls)
    (hlen : n + m ≤ 1000000000) (hbase : B ≤ w.heap.size)
    (h : ∀ ad cap' w', AppT B w w' a cap l ls ad cap' → K (act.put o.dst (.slice ad (n + m) cap')) w') :
    if Region.wanted o (yielded ops act.tmps) = true then Oper.wp Tryz.prog o act w K Q else E := by
  subst hn hm
  obtain ⟨i0, hi0, hz0, hz1, hz2⟩ := info_parts Tryz.info_str
  have hown0 : w.ownsRow 0 9 1 (.slice a l.length cap) l.length (scells l) := hown.mono (Nat.zero_le _)
  exact step_append_src hgd s x 31 31 ho 9 i0 _ 1 16 Tryz.underlying31 hi0 hz0 hz1 hz2 rfl _ l.length (scells l) hs hown0 _ ls.length (scells ls) hx (srcT hT c') (by omega) (by omega)
    (fun ad cap' w' h1 h2 h3 => h ad cap' w' (appT_of hown hbase h1 h2 h3))
/-- Another own list stays as it is. -/
theorem OwnT.beside {C : Nat} {w w' : World} {b : Option Addr} {cp : Nat} {m : List ByteArray} {row : Option Nat} (h : OwnT C w b cp m) (hg : w.grownBy w' row) (hd : ∀ g, row = some g → (Value.slice b m.length cp).ownBlock ≠ some g) : OwnT C w' b cp m := by
  refine World.ownsRow.kept h hg ?_
  cases hb : (Value.slice b m.length cp).ownBlock with
  | none => exact Or.inl rfl
  | some x => exact Or.inr fun e => hd x e.symm hb
end Go.Proofs.YtdfkpjmljaanpaaGreatDoor
namespace Go.Proofs.YtdfkpjmljaanpaaGreatDoor
open Go.RowKit
open Tr
set_option maxRecDepth 100000 in
set_option maxHeartbeats 2000000 in
theorem summed_any : ∀ (N : Nat) (ss : List ByteArray), ss.length = N → N ≤ 1000000 → Digs ss → ∀ (a0 : Option Addr) (cap : Nat) (w : World), Glob w → TextsAt w a0 ss → ss.length ≤ cap → cap ≤ maxLen →
    Calls Tryz.prog 100 #[.slice a0 ss.length cap] w fun e w' => ∃ a c, e = .returned (.tuple #[.string (root ss), .slice a (sumT ss).length c]) ∧ OwnT w.heap.size w' a c (sumT ss) ∧ Below w.heap.size w w' := by
  intro N
  induction N using Nat.strongRecOn with
  | ind N ih =>
    intro ss hN hN1 hD a0 cap w hG hT hcap hmax
    have hmax0 := hmax
    unfold maxLen at hmax
    by_cases h2 : 2 ≤ ss.length
    rotate_left
    · rw [sumT_one (by omega)]
      have hrt := root_any _ ss rfl (by omega) hD a0 cap w hG hT hcap hmax0
      obtain ⟨R, hR⟩ : ∃ R, R = root ss := ⟨_, rfl⟩
      rw [← hR] at hrt ⊢
      obtain ⟨n, hn⟩ : ∃ n, n = ss.length := ⟨_, rfl⟩
      rw [← hn] at hrt h2 ⊢
      have hn2 : (n : Int) < 2 := by omega
      have H := Lib.hid hrt
      clear hrt hT hD ih hN hcap hn hR h2
      go_enter Tryz.func100, Tryz.ntmps100
      go_wp2_with fail
      refine H.out.mono ?_
      rintro e w1 ⟨rfl, hb⟩
      have HB := Lib.hid hb
      clear hb
      go_wp2_with fail
      go_ret2
      exact ⟨none, 0, rfl, OwnT.nil _ _, HB.out⟩
    · obtain ⟨b, off, rfl, hbl, -⟩ := hT 0 (by omega)
      obtain ⟨k, hk⟩ : ∃ k, k = hf ss.length := ⟨_, rfl⟩
      have k1 := hf_pos ss.length
      have k2 := hf_lt h2
      obtain ⟨n, hn⟩ : ∃ n, n = ss.length := ⟨_, rfl⟩
      have hh := fun W => half_any n (by omega) (by omega) W
      rw [show hf n = k by rw [hk, hn]] at hh
      rw [← hk] at k1 k2
      obtain ⟨p, hp⟩ : ∃ p, p = ss.take k := ⟨_, rfl⟩
      obtain ⟨q, hq⟩ : ∃ q, q = ss.drop k := ⟨_, rfl⟩
      have hpl : p.length = k := by rw [hp, List.length_take]; omega
      have hql : q.length = n - k := by rw [hq, List.length_drop]; omega
      have hDp : Digs p := by rw [hp]; exact hD.take k
      have hDq : Digs q := by rw [hq]; exact hD.drop k
      have tp := fun W (hTW : TextsAt W (some ⟨b, off, none⟩) ss) => (show TextsAt W (some ⟨b, off, none⟩) p by rw [hp]; exact hTW.take k)
      have tq := fun W (hTW : TextsAt W (some ⟨b, off, none⟩) ss) => (show TextsAt W (some ⟨b, off + k, none⟩) q by rw [hq]; exact hTW.drop k)
      have hwy : sumT ss = sumT p ++ sumT q ++ [nodeT (root p) (root q)] := by rw [sumT_two h2, ← hk, ← hp, ← hq]
      have hrt : root ss = node (root p) (root q) := by rw [root_two h2, ← hk, ← hp, ← hq]
      have c1 := fun W (hGW : Glob W) (hTW : TextsAt W (some ⟨b, off, none⟩) ss) => ih k (by omega) p hpl (by omega) hDp (some ⟨b, off, none⟩) cap W hGW (tp W hTW) (by omega) (by unfold maxLen; omega)
      have c2 := fun W (hGW : Glob W) (hTW : TextsAt W (some ⟨b, off, none⟩) ss) => ih (n - k) (by omega) q hql (by omega) hDq (some ⟨b, off + k, none⟩) (cap - k) W hGW (tq W hTW) (by omega) (by unfold maxLen; omega)
      rw [hpl] at c1
      rw [hql] at c2
      have z1 : (root p).size = 32 := root_size hDp
      have z2 : (root q).size = 32 := root_size hDq
      have l1 := sumT_length _ p hpl
      have l2 := sumT_length _ q hql
      obtain ⟨R1, hR1⟩ : ∃ R, R = root p := ⟨_, rfl⟩
      obtain ⟨R2, hR2⟩ : ∃ R, R = root q := ⟨_, rfl⟩
      obtain ⟨Y1, hY1⟩ : ∃ R, R = sumT p := ⟨_, rfl⟩
      obtain ⟨Y2, hY2⟩ : ∃ R, R = sumT q := ⟨_, rfl⟩
      rw [← hR1, ← hY1] at c1
      rw [← hR2, ← hY2] at c2
      rw [← hR1] at z1
      rw [← hR2] at z2
      rw [← hR1, ← hR2, ← hY1, ← hY2] at hwy
      rw [← hR1, ← hR2] at hrt
      rw [← hY1] at l1
      rw [← hY2] at l2
      obtain ⟨y1, hy1⟩ : ∃ y, y = Y1.length := ⟨_, rfl⟩
      obtain ⟨y2, hy2⟩ : ∃ y, y = Y2.length := ⟨_, rfl⟩
      rw [← hy1] at c1 l1
      rw [← hy2] at c2 l2
      have nt := fun W => nodeText_any R1 R2 (by omega) (by omega) W
      have ds := fun W hG => dsum_any (nodeT R1 R2) (by rw [nodeT_size]; omega) W hG
      rw [show str (sha (nodeT R1 R2).data.toList) = root ss from hrt.symm] at ds
      obtain ⟨X, hX⟩ : ∃ X, X = nodeT R1 R2 := ⟨_, rfl⟩
      rw [← hX] at nt ds hwy
      obtain ⟨R, hR⟩ : ∃ R, R = root ss := ⟨_, rfl⟩
      rw [← hR] at ds ⊢
      obtain ⟨m, hm⟩ : ∃ m, m = n - k := ⟨_, rfl⟩
      obtain ⟨cq, hcq⟩ : ∃ c, c = cap - k := ⟨_, rfl⟩
      rw [← hm, ← hcq] at c2
      rw [hwy, ← hn]
      have hy12 : y1 + y2 ≤ 2000000 := by omega
      have f1 : (k : Int) ≤ (n : Int) := by omega
      have f2 : (n : Int) - (k : Int) = (m : Int) := by omega
      have f3 : (cap : Int) - (k : Int) = (cq : Int) := by omega
      have f4 : n - k = m := hm.symm
      have f5 : cap - k = cq := hcq.symm
      have f6 : ¬ (cap = k) := by omega
      have f7 : n ≤ cap := by omega
      have f8 : k ≤ n := by omega
      have f9 : k ≤ cap := by omega
      have f10 : 2 ≤ n := by omega
      have e0 : ((n : Int) == 0) = false := by simp; omega
      have e1 : ((n : Int) == 1) = false := by simp; omega
      have f16 : ¬ ((n : Int) < 2) := by omega
      have H := Lib.hid (And.intro hh (And.intro c1 (And.intro c2 (And.intro hT (And.intro hy1 (And.intro hy2 (And.intro nt ds)))))))
      have HG := Lib.hid hG
      clear hh c1 c2 hT ih hN hD hp hq hpl hql hR1 hR2 hY1 hY2 hwy h2 hcap hk hn hm hcq k1 k2 hDp hDq tp tq hy1 hy2 hmax0 nt ds hX hR hrt z1 z2 l1 l2 hG
      go_enter Tryz.func100, Tryz.ntmps100
      go_wp2_with fail
      refine (H.out.1 _).mono ?_
      rintro e w1 ⟨rfl, rfl⟩
      go_wp2_with fail
      refine (H.out.2.1 _ HG.out H.out.2.2.2.1).mono ?_
      rintro e w2 ⟨a1, c1, rfl, hO, hb⟩
      have HA := Lib.hid (And.intro hO hb)
      clear hO hb
      go_wp2_with fail
      refine (H.out.2.2.1 _ (HG.out.below HA.out.2) (H.out.2.2.2.1.below HA.out.2)).mono ?_
      rintro e w3 ⟨a2, c2, rfl, hO, hb⟩
      have HB := Lib.hid (And.intro (OwnT.call HA.out.1 hb) (And.intro hO.texts (HA.out.2.trans (hb.mono HA.out.2.size))))
      clear hO hb
      go_wp2_with fail
      refine (H.out.2.2.2.2.2.2.1 _).mono ?_
      rintro e w4 ⟨rfl, rfl⟩
      go_upto_region 7 with fail
      go_upto_region 8 with (at_builtin; (refine wpList_append_texts rfl (.tmp 34) (.tmp 35) rfl HB.out.1 _ H.out.2.2.2.2.1.symm rfl _ _ y2 Y2 H.out.2.2.2.2.2.1.symm rfl HB.out.2.1 (by omega) HB.out.2.2.size HB.out.2.2 ?_; intro ad cp w5 ho hb; have HC := Lib.hid (And.intro ho hb); clear ho hb))
      go_wp2_with fail
      refine (H.out.2.2.2.2.2.2.2 _ (HG.out.below HC.out.2)).mono ?_
      rintro e w6 ⟨rfl, hb⟩
      have HD := Lib.hid (And.intro (OwnT.alloc (OwnT.call HC.out.1 hb) (.cells #[.string X] 9)) ((HC.out.2.trans (hb.mono HC.out.2.size)).alloc (HC.out.2.trans (hb.mono HC.out.2.size)).size (.cells #[.string X] 9)))
      clear hb
      go_wp2_with (at_builtin; (refine wpList_append_texts rfl (.tmp 39) (.tmp 41) rfl HD.out.1 _ (show (Y1 ++ Y2).length = y1 + y2 by rw [List.length_append, ← H.out.2.2.2.2.1, ← H.out.2.2.2.2.2.1]) rfl _ _ 1 [X] rfl rfl (texts_one w6 X) (by omega) HD.out.2.size HD.out.2 ?_; intro ad2 cp2 w7 ho hb; have HE := Lib.hid (And.intro ho hb); clear ho hb))
      go_ret2
      refine ⟨_, _, ?_, HE.out.1, HE.out.2⟩
      rw [List.length_append, List.length_append, ← H.out.2.2.2.2.1, ← H.out.2.2.2.2.2.1]; rfl
/-- Two own lists, apart. -/
structure Two (w0 : World) (a : Option Addr) (c : Nat) (X : List ByteArray) (b : Option Addr) (d : Nat) (Y : List ByteArray) (W : World) : Prop where
  below : Below w0.heap.size w0 W
  one : OwnT w0.heap.size W a c X
  two : OwnT w0.heap.size W b d Y
  apart : ∀ x, (Value.slice a X.length c).ownBlock = some x → (Value.slice b Y.length d).ownBlock ≠ some x
theorem Two.call {w0 W W' : World} {a b : Option Addr} {c d : Nat} {X Y : List ByteArray} (h : Two w0 a c X b d Y W) (hb : Below W.heap.size W W') : Two w0 a c X b d Y W' :=
  ⟨h.below.trans (hb.mono h.below.size), h.one.call hb, h.two.call hb, h.apart⟩
theorem Two.swap {w0 W : World} {a b : Option Addr} {c d : Nat} {X Y : List ByteArray} (h : Two w0 a c X b d Y W) : Two w0 b d Y a c X W :=
  ⟨h.below, h.two, h.one, fun x h1 h2 => h.apart x h2 h1⟩
theorem Two.app {w0 W W' : World} {a b ad : Option Addr} {c d cp : Nat} {X Y ls : List ByteArray} (h : Two w0 a c X b d Y W) (hA : AppT w0.heap.size W W' a c X ls ad cp) : Two w0 ad cp (X ++ ls) b d Y W' := by
  refine ⟨h.below.grown hA.grown h.below.size (fun k hk => (World.ownsRow.lt h.one k hk).1), hA.own, h.two.beside hA.grown (fun g e => h.apart g e), fun x hx hy => ?_⟩
  rcases hA.lies x hx with h1 | h1
  · exact h.apart x h1 hy
  · have := (World.ownsRow.lt h.two x hy).2; omega
set_option maxRecDepth 100000 in
set_option maxHeartbeats 2000000 in
theorem texts_any (ss : List ByteArray) (a0 : Option Addr) (cap : Nat) (w : World) (hG : Glob w) (hT : TextsAt w a0 ss) (hm : ss.length ≤ 100000) (hs : ∀ j, j < ss.length → (ss.getD j ByteArray.empty).size ≤ 100000) :
    Calls Tryz.prog 42 #[.slice a0 ss.length cap] w fun e w' => ∃ a c, e = .returned (.slice a (ss.map leafT ++ sumT (ss.map leaf)).length c) ∧ OwnT w.heap.size w' a c (ss.map leafT ++ sumT (ss.map leaf)) ∧ Below w.heap.size w w' := by
  obtain ⟨n, hn⟩ : ∃ n, n = ss.length := ⟨_, rfl⟩
  have HT := Lib.hid (And.intro hT (And.intro hn hs))
  have HG := Lib.hid hG
  rw [← hn] at hm ⊢
  clear hT hn hs hG
  go_enter Tryz.func42, Tryz.ntmps42
  go_wp2_with fail
  go_loopw [3, 4, 12] (fun v u c wr => ∃ (i : Nat) (a b : Option Addr) (cp dp : Nat), i ≤ n ∧ v = .slice a i cp ∧ u = .slice b i dp ∧ c = .int .i64 i ∧ Two w a cp ((ss.take i).map leafT) b dp ((ss.take i).map leaf) wr) (fun _ _ c _ => n - (intOf c).toNat)
  case atStart => exact ⟨0, none, none, 0, 0, by omega, rfl, rfl, rfl, Below.refl _ _, OwnT.nil _ _, OwnT.nil _ _, fun x hx => by cases hx⟩
  case round =>
    obtain ⟨i, a, b2, cp, dp, hi, rfl, rfl, rfl, hW⟩ := hrel
    by_cases hlt : i < n
    · obtain ⟨b, off, rfl, _, hc⟩ := (HT.out.1.below hW.below) i (by have := HT.out.2.1; omega)
      obtain ⟨x, hx⟩ : ∃ x, x = ss.getD i ByteArray.empty := ⟨_, rfl⟩
      have hx2 := HT.out.2.2 i (by have := HT.out.2.1; omega)
      rw [← hx] at hc hx2
      have e1 : (ss.take (i + 1)).map leafT = (ss.take i).map leafT ++ [leafT x] := by rw [take_succ_getD (by have := HT.out.2.1; omega), ← hx, List.map_append]; rfl
      have e2 : (ss.take (i + 1)).map leaf = (ss.take i).map leaf ++ [leaf x] := by rw [take_succ_getD (by have := HT.out.2.1; omega), ← hx, List.map_append]; rfl
      have l1 : ((ss.take i).map leafT).length = i := by rw [List.length_map, List.length_take]; have := HT.out.2.1; omega
      have l2 : ((ss.take i).map leaf).length = i := by rw [List.length_map, List.length_take]; have := HT.out.2.1; omega
      have lt := fun W => leafText_any x hx2 W
      have ds := fun W hG => dsum_any (leafT x) (by rw [leafT_size]; omega) W hG
      obtain ⟨D, hD⟩ : ∃ D, D = leaf x := ⟨_, rfl⟩
      rw [show str (sha (leafT x).data.toList) = D from hD.symm] at ds
      obtain ⟨Z, hZ⟩ : ∃ D, D = leafT x := ⟨_, rfl⟩
      rw [← hZ] at lt ds e1
      rw [← hD] at e2
      have H := Lib.hid (And.intro hW (And.intro e1 (And.intro e2 (And.intro l1 (And.intro l2 (And.intro lt ds))))))
      clear hW e1 e2 l1 l2 lt ds hx hD hZ
      go_wp2_with fail
      refine (H.out.2.2.2.2.2.1 _).mono ?_
      rintro e w3 ⟨rfl, rfl⟩
      have hba : Below w3.heap.size w3 (w3.alloc (.cells #[.string Z] 9)) := (Below.refl _ _).alloc (Nat.le_refl _) _
      have HC := Lib.hid (H.out.1.call hba)
      clear hba hc
      go_upto_region 7 with (at_builtin; (refine wpList_append_texts3 rfl (.tmp 18) (.tmp 20) rfl HC.out.one _ H.out.2.2.2.1 rfl _ _ 1 [Z] rfl rfl (texts_one w3 Z) (by omega) HC.out.below.size ?_; intro ad cp4 w4 hA; have HD := Lib.hid (HC.out.app hA); clear hA))
      go_wp2_with fail
      refine (H.out.2.2.2.2.2.2 _ (HG.out.below HD.out.below)).mono ?_
      rintro e w5 ⟨rfl, hb⟩
      have hba : Below w5.heap.size w5 (w5.alloc (.cells #[.string D] 9)) := (Below.refl _ _).alloc (Nat.le_refl _) _
      have HE := Lib.hid ((HD.out.call hb).call hba)
      clear hba hb
      go_wp2_with (at_builtin; (refine wpList_append_texts3 rfl (.tmp 22) (.tmp 25) rfl HE.out.two _ H.out.2.2.2.2.1 rfl _ _ 1 [D] rfl rfl (texts_one w5 D) (by omega) HE.out.below.size ?_; intro ad2 cp6 w6 hA; have HF := Lib.hid (HE.out.swap.app hA).swap; clear hA))
      go_roundw
      case rel => exact ⟨i + 1, ad, ad2, cp4, cp6, by omega, rfl, rfl, by go_num, by rw [H.out.2.1, H.out.2.2.1]; exact HF.out⟩
      case measure => simp [intOf]; omega
    · obtain rfl : i = n := by omega
      have hti : ss.take i = ss := List.take_of_length_le (by have := HT.out.2.1; omega)
      rw [hti] at hW
      have hD := Tr.Digs.take (l := ss.map leaf) (fun x hx => by obtain ⟨y, -, rfl⟩ := List.mem_map.1 hx; exact sumE_size _) ss.length
      rw [List.take_of_length_le (by simp)] at hD
      have hll : (ss.map leaf).length = i := by rw [List.length_map]; exact HT.out.2.1.symm
      have hcy := hW.two.capy
      have sm := fun W hG hT => summed_any i (ss.map leaf) hll (by omega) hD b2 dp W hG hT hcy.1 hcy.2
      rw [hll] at sm
      have lsm := sumT_length _ (ss.map leaf) hll
      have llt : (ss.map leafT).length = i := by rw [List.length_map]; exact HT.out.2.1.symm
      obtain ⟨A, hA⟩ : ∃ A, A = ss.map leafT := ⟨_, rfl⟩
      obtain ⟨Q, hQ⟩ : ∃ A, A = sumT (ss.map leaf) := ⟨_, rfl⟩
      obtain ⟨R, hR⟩ : ∃ A, A = root (ss.map leaf) := ⟨_, rfl⟩
      rw [← hQ, ← hR] at sm
      rw [← hQ] at lsm
      rw [← hA] at llt
      rw [← hA] at hW
      obtain ⟨q, hq⟩ : ∃ q, q = Q.length := ⟨_, rfl⟩
      rw [← hq] at sm lsm
      have hq1 : q ≤ 1000000 := by omega
      have H := Lib.hid (And.intro hW (And.intro sm (And.intro llt hq)))
      have HQ := Lib.hid (And.intro hA hQ)
      clear hW sm llt hq hti hD hll hcy lsm hA hQ hR
      go_wp2_with fail
      refine (H.out.2.1 _ (HG.out.below H.out.1.below) H.out.1.two.texts).mono ?_
      rintro e w5 ⟨a5, c5, rfl, hO, hb⟩
      have HB := Lib.hid (And.intro (OwnT.call H.out.1.one hb) (And.intro hO.texts (H.out.1.below.trans (hb.mono H.out.1.below.size))))
      clear hO hb
      go_wp2_with (at_builtin; (refine wpList_append_texts rfl (.tmp 33) (.tmp 34) rfl HB.out.1 _ H.out.2.2.1 rfl _ _ q Q H.out.2.2.2.symm rfl HB.out.2.1 (by omega) HB.out.2.2.size HB.out.2.2 ?_; intro ad cp6 w6 ho hb; have HC := Lib.hid (And.intro ho hb); clear ho hb))
      go_ret
      rw [← HQ.out.1, ← HQ.out.2]
      refine ⟨_, _, ?_, HC.out.1, HC.out.2⟩
      rw [List.length_append, H.out.2.2.1, ← H.out.2.2.2]; rfl
end Go.Proofs.YtdfkpjmljaanpaaGreatDoor
