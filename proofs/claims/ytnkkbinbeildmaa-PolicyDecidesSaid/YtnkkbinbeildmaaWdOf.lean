/- words.Of: a text's words. -/
import Derived.Test.YtnkkbinbeildmaaWdROf
import Derived.Test.YtnkkbinbeildmaaWdLet
import Derived.Test.YtnkkbinbeildmaaWdWith
namespace Go.Proofs.Ytnkkbinbeildmaa
open Go.RowKit

theorem addW_take (n : Nat) (l : List ByteArray) (p : List UInt8) : (Wd.addW l p).take n = (Wd.addW (l.take n) p).take n := by
  cases h : Wd.norm p with
  | ok x => rw [addW_ok h, addW_ok h]; exact Wd.put_take n l _
  | error e => rw [addW_err h, addW_err h, List.take_take, Nat.min_self]
theorem fold_take (n : Nat) : ∀ (L : List (List UInt8)) (l : List ByteArray), (L.foldl Wd.addW l).take n = (L.foldl Wd.addW (l.take n)).take n
  | [], l => by rw [List.foldl_nil, List.foldl_nil, List.take_take, Nat.min_self]
  | x :: L, l => by rw [List.foldl_cons, List.foldl_cons, fold_take n L (Wd.addW l x), addW_take n l x, ← fold_take n L]
set_option maxRecDepth 100000 in
set_option maxHeartbeats 2000000 in
theorem wof_any (s : ByteArray) (hs : s.size ≤ 900000) (w : World) :
    Calls Try.prog 49 #[.string s] w fun e w' => ∃ ad cap, e = .returned (.slice ad (Wd.ofW s.data.toList).length cap) ∧ OwnT w.heap.size w' ad cap (Wd.ofW s.data.toList) ∧ Below w.heap.size w w' := by
  obtain ⟨R, hR⟩ : ∃ R, R = Wd.ofW s.data.toList := ⟨_, rfl⟩
  have hA0 : R = ((left s 0 0).foldl Wd.addW []).take 12 := hR.trans (congrArg (List.take 12) (left_start s))
  rw [← hR]
  clear hR
  go_enter Try.func49, Try.ntmps49
  go_wp2_with fail
  go_loopw [3, 4, 5, 6, 7, 11] (fun v fr _ _ _ i wr => ∃ (k f m : Nat) (o : List ByteArray) (ad : Option Addr) (cap : Nat), k ≤ s.size + 1 ∧ i = .int .i64 (k : Int) ∧ fr = .int .i64 (f : Int) ∧ v = .slice ad m cap ∧ o.length = m ∧ m ≤ 12 ∧ Wd.Rises o ∧ OwnT w.heap.size wr ad cap o ∧ (k ≤ s.size → f ≤ k ∧ R = ((left s f k).foldl Wd.addW o).take 12) ∧ (k = s.size + 1 → R = o) ∧ Below w.heap.size w wr) (fun _ _ _ _ _ i _ => s.size + 1 - (intOf i).toNat)
  case atStart => exact ⟨0, 0, 0, [], none, 0, by omega, rfl, rfl, rfl, rfl, by omega, List.Pairwise.nil, OwnT.nil _ _, fun _ => ⟨Nat.le_refl _, hA0⟩, fun h => by omega, Below.refl _ _⟩
  case round =>
    clear hA0
    obtain ⟨k, f, m, o, ad, cap, hk, rfl, rfl, rfl, hm, hm12, hri, hown, hlive, hend, hbe⟩ := hrel
    by_cases hle : k ≤ s.size
    · obtain ⟨hf, hA⟩ := hlive hle
      have hsz := hbe.size
      by_cases hlt : k < s.size
      · obtain ⟨d, hd⟩ : ∃ d, d = s[k] := ⟨_, rfl⟩
        obtain ⟨c, hc⟩ : ∃ c, c = Wd.let1 d := ⟨_, rfl⟩
        have hcall := fun W : World => letterOf_any d W
        rw [← hc] at hcall
        by_cases hz : c = 0
        · have hz0 : (c.toNat : Int) = 0 := by rw [hz]; rfl
          rw [left_gap hlt (by rw [← hd, ← hc]; exact hz), ← piece_eq, List.foldl_cons, fold_take] at hA
          obtain ⟨p, hp⟩ : ∃ p, p = s.extract f k := ⟨_, rfl⟩
          have hps : p.size ≤ s.size := by rw [hp, ByteArray.size_extract]; omega
          rw [← hp] at hA
          have hnext : ∀ o', o' = (Wd.addW o p.data.toList).take 12 → (k + 1 ≤ s.size → k + 1 ≤ k + 1 ∧ R = ((left s (k + 1) (k + 1)).foldl Wd.addW o').take 12) ∧ (k + 1 = s.size + 1 → R = o') := fun o' e => ⟨fun _ => ⟨Nat.le_refl _, by rw [e]; exact hA⟩, fun h => by omega⟩
          have HC := Lib.hid hcall
          rw [hd] at HC
          clear hlive hend hcall hA hz hc hd
          cases hno : Wd.norm (p.data.toList) with
          | error e =>
            have hcalln := fun W : World => norm15_any p (by omega) W
            rw [normR_err hno] at hcalln
            have hnext' := hnext o (by rw [addW_err hno, List.take_of_length_le (by omega)])
            have he0 := norm_err hno
            have HM := Lib.hid (And.intro hown (And.intro hbe (And.intro (And.intro hm hri) (And.intro hnext' (And.intro hcalln HC)))))
            rw [hp] at HM
            clear hown hbe hm hri hnext' hcalln hno hnext hps hp HC
            go_wp2_with fail
            refine (HM.out.2.2.2.2.2.out _).mono ?_
            rintro e w2 ⟨rfl, rfl⟩
            go_wp2_with fail
            refine (HM.out.2.2.2.2.1 _).mono ?_
            rintro e w3 ⟨rfl, hb3⟩
            have hbe3 := HM.out.2.1.trans (hb3.mono hsz)
            have ho3 := HM.out.1.call (hb3.mono (Nat.le_refl _))
            have HN := Lib.hid (And.intro hbe3 ho3)
            clear hbe3 ho3 hb3
            go_wp2_with fail
            go_roundw
            case rel => exact ⟨k + 1, k + 1, m, o, ad, cap, by omega, by go_num, by go_num, rfl, HM.out.2.2.1.1, hm12, HM.out.2.2.1.2, HN.out.2, HM.out.2.2.2.1.1, HM.out.2.2.2.1.2, HN.out.1⟩
            case measure => simp [intOf]; omega
          | ok x =>
            have hcalln := fun W : World => norm15_any p (by omega) W
            rw [normR_ok hno] at hcalln
            have hnext' := hnext _ (by rw [addW_ok hno])
            have hput := fun (W : World) (hW : OwnT w.heap.size W ad cap o) (hB : w.heap.size ≤ W.heap.size) => wwith_any hW hri (by omega) hB (str x)
            have hpr := Wd.rises_take (Wd.put_rises (s := str x) hri) 12
            have hpl : ((Wd.put o (str x)).take 12).length ≤ 12 := by rw [List.length_take]; omega
            rw [hm] at hput
            obtain ⟨P, hP⟩ : ∃ P, P = (Wd.put o (str x)).take 12 := ⟨_, rfl⟩
            rw [← hP] at hput hnext' hpl hpr
            obtain ⟨X, hX⟩ : ∃ X, X = str x := ⟨_, rfl⟩
            rw [← hX] at hput hcalln
            have HM := Lib.hid (And.intro hown (And.intro hbe (And.intro (And.intro hput hpr) (And.intro hnext' (And.intro hcalln HC)))))
            rw [hp] at HM
            clear hown hbe hm hri hnext' hcalln hno hnext hps hput hpr hP hX hp HC
            go_wp2_with fail
            refine (HM.out.2.2.2.2.2.out _).mono ?_
            rintro e w2 ⟨rfl, rfl⟩
            go_wp2_with fail
            refine (HM.out.2.2.2.2.1 _).mono ?_
            rintro e w3 ⟨rfl, hb3⟩
            have hbe3 := HM.out.2.1.trans (hb3.mono hsz)
            have ho3 := HM.out.1.call (hb3.mono (Nat.le_refl _))
            have hsz3 := hbe3.size
            have HN := Lib.hid (And.intro hbe3 ho3)
            clear hbe3 ho3 hb3
            go_wp2_with fail
            refine (HM.out.2.2.1.1 _ HN.out.2 hsz3).mono ?_
            rintro e w4 ⟨ad2, cap2, rfl, ho4, hb4⟩
            have HP := Lib.hid (And.intro (HN.out.1.trans hb4) ho4)
            clear ho4 hb4
            go_wp2_with fail
            go_roundw
            case rel => exact ⟨k + 1, k + 1, P.length, P, ad2, cap2, by omega, by go_num, by go_num, rfl, rfl, hpl, HM.out.2.2.1.2, HP.out.2, HM.out.2.2.2.1.1, HM.out.2.2.2.1.2, HP.out.1⟩
            case measure => simp [intOf]; omega
        · have hz0 : ¬ ((c.toNat : Int) = 0) := fun e => hz (UInt8.toNat_inj.1 (by simpa using e))
          rw [left_letter hf hlt (by rw [← hd, ← hc]; exact hz)] at hA
          have HM := Lib.hid (And.intro hcall (And.intro hbe (And.intro hown (And.intro hm (And.intro hri hA)))))
          rw [hd] at HM
          clear hlive hend hcall hbe hown hA hz hc hd hm hri
          go_wp2_with fail
          refine (HM.out.1 _).mono ?_
          rintro e w2 ⟨rfl, rfl⟩
          go_wp2_with fail
          go_roundw
          case rel => exact ⟨k + 1, f, m, o, ad, cap, by omega, by go_num, rfl, rfl, HM.out.2.2.2.1, hm12, HM.out.2.2.2.2.1, HM.out.2.2.1, fun _ => ⟨by omega, HM.out.2.2.2.2.2⟩, fun h => absurd h (by omega), HM.out.2.1⟩
          case measure => simp [intOf]; omega
      · obtain rfl : k = s.size := by omega
        rw [left_end, ← piece_eq, List.foldl_cons, List.foldl_nil] at hA
        obtain ⟨p, hp⟩ : ∃ p, p = s.extract f s.size := ⟨_, rfl⟩
        have hps : p.size ≤ s.size := by rw [hp, ByteArray.size_extract]; omega
        rw [← hp] at hA
        have hnext : ∀ o', o' = (Wd.addW o p.data.toList).take 12 → (s.size + 1 ≤ s.size → s.size + 1 ≤ s.size + 1 ∧ R = ((left s (s.size + 1) (s.size + 1)).foldl Wd.addW o').take 12) ∧ (s.size + 1 = s.size + 1 → R = o') := fun o' e => ⟨fun h => by omega, fun _ => by rw [e]; exact hA⟩
        clear hlive hend hA
        cases hno : Wd.norm (p.data.toList) with
        | error e =>
          have hcalln := fun W : World => norm15_any p (by omega) W
          rw [normR_err hno] at hcalln
          have hnext' := hnext o (by rw [addW_err hno, List.take_of_length_le (by omega)])
          have he0 := norm_err hno
          have HM := Lib.hid (And.intro hown (And.intro hbe (And.intro (And.intro hm hri) (And.intro hnext' (And.intro hcalln True.intro)))))
          rw [hp] at HM
          clear hown hbe hm hri hnext' hcalln hno hnext hps hp 
          go_wp2_with fail
          refine (HM.out.2.2.2.2.1 _).mono ?_
          rintro e w3 ⟨rfl, hb3⟩
          have hbe3 := HM.out.2.1.trans (hb3.mono hsz)
          have ho3 := HM.out.1.call (hb3.mono (Nat.le_refl _))
          have HN := Lib.hid (And.intro hbe3 ho3)
          clear hbe3 ho3 hb3
          go_wp2_with fail
          go_roundw
          case rel => exact ⟨s.size + 1, s.size + 1, m, o, ad, cap, by omega, by go_num, by go_num, rfl, HM.out.2.2.1.1, hm12, HM.out.2.2.1.2, HN.out.2, HM.out.2.2.2.1.1, (fun _ => HM.out.2.2.2.1.2 trivial), HN.out.1⟩
          case measure => simp [intOf]
        | ok x =>
          have hcalln := fun W : World => norm15_any p (by omega) W
          rw [normR_ok hno] at hcalln
          have hnext' := hnext _ (by rw [addW_ok hno])
          have hput := fun (W : World) (hW : OwnT w.heap.size W ad cap o) (hB : w.heap.size ≤ W.heap.size) => wwith_any hW hri (by omega) hB (str x)
          have hpr := Wd.rises_take (Wd.put_rises (s := str x) hri) 12
          have hpl : ((Wd.put o (str x)).take 12).length ≤ 12 := by rw [List.length_take]; omega
          rw [hm] at hput
          obtain ⟨P, hP⟩ : ∃ P, P = (Wd.put o (str x)).take 12 := ⟨_, rfl⟩
          rw [← hP] at hput hnext' hpl hpr
          obtain ⟨X, hX⟩ : ∃ X, X = str x := ⟨_, rfl⟩
          rw [← hX] at hput hcalln
          have HM := Lib.hid (And.intro hown (And.intro hbe (And.intro (And.intro hput hpr) (And.intro hnext' (And.intro hcalln True.intro)))))
          rw [hp] at HM
          clear hown hbe hm hri hnext' hcalln hno hnext hps hput hpr hP hX hp 
          go_wp2_with fail
          refine (HM.out.2.2.2.2.1 _).mono ?_
          rintro e w3 ⟨rfl, hb3⟩
          have hbe3 := HM.out.2.1.trans (hb3.mono hsz)
          have ho3 := HM.out.1.call (hb3.mono (Nat.le_refl _))
          have hsz3 := hbe3.size
          have HN := Lib.hid (And.intro hbe3 ho3)
          clear hbe3 ho3 hb3
          go_wp2_with fail
          refine (HM.out.2.2.1.1 _ HN.out.2 hsz3).mono ?_
          rintro e w4 ⟨ad2, cap2, rfl, ho4, hb4⟩
          have HP := Lib.hid (And.intro (HN.out.1.trans hb4) ho4)
          clear ho4 hb4
          go_wp2_with fail
          go_roundw
          case rel => exact ⟨s.size + 1, s.size + 1, P.length, P, ad2, cap2, by omega, by go_num, by go_num, rfl, rfl, hpl, HM.out.2.2.1.2, HP.out.2, HM.out.2.2.2.1.1, (fun _ => HM.out.2.2.2.1.2 trivial), HP.out.1⟩
          case measure => simp [intOf]
    · obtain rfl : k = s.size + 1 := by omega
      have hA := hend rfl
      subst hA
      have hg : ¬ (((s.size : Int) + 1) ≤ (s.size : Int)) := by omega
      have HM := Lib.hid (And.intro hown (And.intro hbe hm))
      clear hlive hend hown hbe hm hri
      go_wp2_with fail
      go_ret
      exact ⟨ad, cap, by rw [HM.out.2.2]; rfl, HM.out.1, HM.out.2.1⟩
end Go.Proofs.Ytnkkbinbeildmaa
