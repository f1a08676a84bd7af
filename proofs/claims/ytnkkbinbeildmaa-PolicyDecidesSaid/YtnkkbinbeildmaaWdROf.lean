/- The reference's Of (lockboxref15). -/
import Derived.Test.YtnkkbinbeildmaaMW2
namespace Go.Proofs.Ytnkkbinbeildmaa
open Go.RowKit

theorem TextsAt.first {w : World} {a0 : Option Addr} {ss : List ByteArray} (h : TextsAt w a0 ss) (k : Nat) : TextsAt w a0 (ss.take k) := fun j hj => by
  rw [List.length_take] at hj
  obtain ⟨b, off, e, hb, hc⟩ := h j (by omega)
  refine ⟨b, off, e, hb, ?_⟩
  rw [hc, List.getD_eq_getElem?_getD, List.getD_eq_getElem?_getD, List.getElem?_take_of_lt (by omega)]
/-- The piece that is under way, and what is still to be read. -/
def left (s : ByteArray) (f k : Nat) : List (List UInt8) := Wd.cut ((s.data.toList.drop f).take (k - f)) (s.data.toList.drop k)
theorem left_start (s : ByteArray) : Wd.allW s.data.toList = (left s 0 0).foldl Wd.addW [] := rfl
theorem left_letter {s : ByteArray} {f k : Nat} (hf : f ≤ k) (hk : k < s.size) (h : Wd.let1 s[k] ≠ 0) : left s f k = left s f (k + 1) := by
  have hk2 : k < s.data.toList.length := hk
  unfold left
  rw [List.drop_eq_getElem_cons hk2, Wd.cut, if_neg (show ¬ (Wd.let1 s.data.toList[k] = 0) from h)]
  congr 1
  rw [show k + 1 - f = (k - f) + 1 by omega, List.take_add_one, List.getElem?_drop, show f + (k - f) = k by omega, List.getElem?_eq_getElem hk2]
  rfl
theorem left_gap {s : ByteArray} {f k : Nat} (hk : k < s.size) (h : Wd.let1 s[k] = 0) : left s f k = (s.data.toList.drop f).take (k - f) :: left s (k + 1) (k + 1) := by
  have hk2 : k < s.data.toList.length := hk
  unfold left
  rw [List.drop_eq_getElem_cons hk2, Wd.cut, if_pos (show Wd.let1 s.data.toList[k] = 0 from h), Nat.sub_self, List.take_zero]
theorem left_end {s : ByteArray} {f : Nat} : left s f s.size = [(s.data.toList.drop f).take (s.size - f)] := by
  unfold left
  rw [List.drop_eq_nil_of_le (show s.data.toList.length ≤ s.size from Nat.le_refl _), Wd.cut]
theorem piece_eq {s : ByteArray} {f k : Nat} : (s.extract f k).data.toList = (s.data.toList.drop f).take (k - f) := by
  rw [ByteArray.data_extract, Array.toList_extract, List.extract_eq_take_drop]
theorem norm_err {p : List UInt8} {e : Int} (h : Wd.norm p = .error e) : ¬ (e = 0) := by
  unfold Wd.norm at h
  split at h
  · injection h with h; omega
  · split at h
    · injection h with h; omega
    · split at h
      · injection h with h; omega
      · cases h
theorem normR_ok {s : ByteArray} {x : List UInt8} (h : Wd.norm s.data.toList = .ok x) : normR s = .tuple #[.string (str x), .int .i64 0] := by unfold normR; rw [h]
theorem normR_err {s : ByteArray} {e : Int} (h : Wd.norm s.data.toList = .error e) : normR s = .tuple #[.string ⟨#[]⟩, .int .i64 e] := by unfold normR; rw [h]
theorem addW_ok {o : List ByteArray} {p x : List UInt8} (h : Wd.norm p = .ok x) : Wd.addW o p = Wd.put o (str x) := by unfold Wd.addW; rw [h]; rfl
theorem addW_err {o : List ByteArray} {p : List UInt8} {e : Int} (h : Wd.norm p = .error e) : Wd.addW o p = o := by unfold Wd.addW; rw [h]
set_option maxRecDepth 100000 in
set_option maxHeartbeats 2000000 in
theorem rof_any (s : ByteArray) (hs : s.size ≤ 900000) (w : World) :
    Calls Try.prog 50 #[.string s] w fun e w' => ∃ ad cap, e = .returned (.slice ad (Wd.ofW s.data.toList).length cap) ∧ TextsAt w' ad (Wd.ofW s.data.toList) ∧ Below w.heap.size w w' := by
  obtain ⟨A, hA⟩ : ∃ A, A = Wd.allW s.data.toList := ⟨_, rfl⟩
  obtain ⟨R, hR⟩ : ∃ R, R = Wd.ofW s.data.toList := ⟨_, rfl⟩
  have hO : R = A.take 12 := by rw [hR, hA]; rfl
  have hA0 := hA.trans (left_start s)
  have HO := Lib.hid hO
  rw [← hR]
  clear hO hA hR
  go_enter Try.func50, Try.ntmps50
  go_wp2_with fail
  go_loopw [3, 4, 5, 6, 7] (fun v fr i _ _ wr => ∃ (k f m : Nat) (o : List ByteArray) (ad : Option Addr) (cap : Nat), k ≤ s.size + 1 ∧ i = .int .i64 (k : Int) ∧ fr = .int .i64 (f : Int) ∧ v = .slice ad m cap ∧ o.length = m ∧ m ≤ k ∧ m ≤ cap ∧ cap ≤ maxLen ∧ TextsAt wr ad o ∧ (k ≤ s.size → f ≤ k ∧ A = (left s f k).foldl Wd.addW o) ∧ (k = s.size + 1 → A = o) ∧ Below w.heap.size w wr) (fun _ _ i _ _ _ => s.size + 1 - (intOf i).toNat)
  case atStart => exact ⟨0, 0, 0, [], none, 0, by omega, rfl, rfl, rfl, rfl, by omega, by omega, by decide, (OwnT.nil 0 w).texts, fun _ => ⟨Nat.le_refl _, hA0⟩, fun h => by omega, Below.refl _ _⟩
  case round =>
    clear hA0
    obtain ⟨k, f, m, o, ad, cap, hk, rfl, rfl, rfl, hm, hmk, hmc, hcx, hT, hlive, hend, hbe⟩ := hrel
    by_cases hle : k ≤ s.size
    · obtain ⟨hf, hA⟩ := hlive hle
      have hsz := hbe.size
      by_cases hlt : k < s.size
      · obtain ⟨d, hd⟩ : ∃ d, d = s[k] := ⟨_, rfl⟩
        obtain ⟨c, hc⟩ : ∃ c, c = Wd.let1 d := ⟨_, rfl⟩
        have hcall := fun W : World => rletter_any d W
        rw [← hc] at hcall
        by_cases hz : c = 0
        · have hz0 : (c.toNat : Int) = 0 := by rw [hz]; rfl
          rw [left_gap hlt (by rw [← hd, ← hc]; exact hz), ← piece_eq, List.foldl_cons] at hA
          obtain ⟨p, hp⟩ : ∃ p, p = s.extract f k := ⟨_, rfl⟩
          have hps : p.size ≤ s.size := by rw [hp, ByteArray.size_extract]; omega
          have hpn := hp
          rw [← hp] at hA
          have hnext : ∀ o', o' = Wd.addW o p.data.toList → (k + 1 ≤ s.size → k + 1 ≤ k + 1 ∧ A = (left s (k + 1) (k + 1)).foldl Wd.addW o') ∧ (k + 1 = s.size + 1 → A = o') := fun o' e => ⟨fun _ => ⟨Nat.le_refl _, by rw [e]; exact hA⟩, fun h => by omega⟩
          have HC := Lib.hid hcall
          rw [hd] at HC
          clear hlive hend hcall hA hz hc hd
          cases hno : Wd.norm (p.data.toList) with
          | error e =>
            have hcalln := fun W : World => rnorm_any p (by omega) W
            rw [normR_err hno] at hcalln
            have hnext' := hnext _ (addW_err hno).symm
            have he0 := norm_err hno
            have HM := Lib.hid (And.intro hT (And.intro hbe (And.intro hm (And.intro hnext' (And.intro hcalln HC)))))
            rw [hp] at HM
            clear hT hbe hm hnext' hcalln hno hnext hpn hps hp HC
            go_wp2_with fail
            refine (HM.out.2.2.2.2.2.out _).mono ?_
            rintro e w2 ⟨rfl, rfl⟩
            go_wp2_with fail
            refine (HM.out.2.2.2.2.1 _).mono ?_
            rintro e w3 ⟨rfl, hb3⟩
            have hbe3 := HM.out.2.1.trans (hb3.mono hsz)
            have hT3 := HM.out.1.below hb3
            have HN := Lib.hid (And.intro hbe3 hT3)
            clear hbe3 hT3 hb3
            go_wp2_with fail
            go_roundw
            case rel => exact ⟨k + 1, k + 1, m, o, ad, cap, by omega, by go_num, by go_num, rfl, HM.out.2.2.1, by omega, hmc, hcx, HN.out.2, HM.out.2.2.2.1.1, HM.out.2.2.2.1.2, HN.out.1⟩
            case measure => simp [intOf]; omega
          | ok x =>
            have hcalln := fun W : World => rnorm_any p (by omega) W
            rw [normR_ok hno] at hcalln
            have hnext' := hnext _ (addW_ok hno).symm
            have hput := fun (W : World) (hW : TextsAt W ad o) => rput_any o (str x) ad cap (by omega) W hW
            have hpl := Wd.put_length o (str x)
            rw [hm] at hput hpl
            obtain ⟨P, hP⟩ : ∃ P, P = Wd.put o (str x) := ⟨_, rfl⟩
            rw [← hP] at hput hnext' hpl
            obtain ⟨X, hX⟩ : ∃ X, X = str x := ⟨_, rfl⟩
            rw [← hX] at hput hcalln
            have HM := Lib.hid (And.intro hT (And.intro hbe (And.intro hput (And.intro hnext' (And.intro hcalln HC)))))
            rw [hp] at HM
            clear hT hbe hm hnext' hcalln hno hnext hpn hps hput hP hX hp HC
            go_wp2_with fail
            refine (HM.out.2.2.2.2.2.out _).mono ?_
            rintro e w2 ⟨rfl, rfl⟩
            go_wp2_with fail
            refine (HM.out.2.2.2.2.1 _).mono ?_
            rintro e w3 ⟨rfl, hb3⟩
            have hbe3 := HM.out.2.1.trans (hb3.mono hsz)
            have hT3 := HM.out.1.below hb3
            have hsz3 := hbe3.size
            have HN := Lib.hid (And.intro hbe3 hT3)
            clear hbe3 hT3 hb3
            go_wp2_with fail
            refine (HM.out.2.2.1 _ HN.out.2).mono ?_
            rintro e w4 ⟨ad2, cap2, rfl, ho4, hb4⟩
            have hbe4 := HN.out.1.trans (hb4.mono hsz3)
            have hcp := ho4.capy
            have HP := Lib.hid (And.intro hbe4 ho4.texts)
            clear hbe4 ho4 hb4
            go_wp2_with fail
            go_roundw
            case rel => exact ⟨k + 1, k + 1, P.length, P, ad2, cap2, by omega, by go_num, by go_num, rfl, rfl, by omega, hcp.1, hcp.2, HP.out.2, HM.out.2.2.2.1.1, HM.out.2.2.2.1.2, HP.out.1⟩
            case measure => simp [intOf]; omega
        · have hz0 : ¬ ((c.toNat : Int) = 0) := fun e => hz (UInt8.toNat_inj.1 (by simpa using e))
          rw [left_letter hf hlt (by rw [← hd, ← hc]; exact hz)] at hA
          have HM := Lib.hid (And.intro hcall (And.intro hbe (And.intro hT (And.intro hm hA))))
          rw [hd] at HM
          clear hlive hend hcall hbe hT hA hz hc hd hm
          go_wp2_with fail
          refine (HM.out.1 _).mono ?_
          rintro e w2 ⟨rfl, rfl⟩
          go_wp2_with fail
          go_roundw
          case rel => exact ⟨k + 1, f, m, o, ad, cap, by omega, by go_num, rfl, rfl, HM.out.2.2.2.1, by omega, hmc, hcx, HM.out.2.2.1, fun _ => ⟨by omega, HM.out.2.2.2.2⟩, fun h => absurd h (by omega), HM.out.2.1⟩
          case measure => simp [intOf]; omega
      · obtain rfl : k = s.size := by omega
        rw [left_end, ← piece_eq, List.foldl_cons, List.foldl_nil] at hA
        obtain ⟨p, hp⟩ : ∃ p, p = s.extract f s.size := ⟨_, rfl⟩
        have hps : p.size ≤ s.size := by rw [hp, ByteArray.size_extract]; omega
        have hpn := hp
        rw [← hp] at hA
        obtain ⟨k, hk0⟩ : ∃ k, k = s.size := ⟨_, rfl⟩
        have hnext : ∀ o', o' = Wd.addW o p.data.toList → (s.size + 1 ≤ s.size → s.size + 1 ≤ s.size + 1 ∧ A = (left s (s.size + 1) (s.size + 1)).foldl Wd.addW o') ∧ (s.size + 1 = s.size + 1 → A = o') := fun o' e => ⟨fun h => by omega, fun _ => by rw [e]; exact hA⟩
        have HC := True.intro
        clear hlive hend hA hk0 k
        cases hno : Wd.norm (p.data.toList) with
        | error e =>
          have hcalln := fun W : World => rnorm_any p (by omega) W
          rw [normR_err hno] at hcalln
          have hnext' := hnext _ (addW_err hno).symm
          have he0 := norm_err hno
          have HM := Lib.hid (And.intro hT (And.intro hbe (And.intro hm (And.intro hnext' (And.intro hcalln HC)))))
          rw [hp] at HM
          clear hT hbe hm hnext' hcalln hno hnext hpn hps hp HC
          go_wp2_with fail
          refine (HM.out.2.2.2.2.1 _).mono ?_
          rintro e w3 ⟨rfl, hb3⟩
          have hbe3 := HM.out.2.1.trans (hb3.mono hsz)
          have hT3 := HM.out.1.below hb3
          have HN := Lib.hid (And.intro hbe3 hT3)
          clear hbe3 hT3 hb3
          go_wp2_with fail
          go_roundw
          case rel => exact ⟨s.size + 1, s.size + 1, m, o, ad, cap, by omega, by go_num, by go_num, rfl, HM.out.2.2.1, by omega, hmc, hcx, HN.out.2, HM.out.2.2.2.1.1, fun _ => HM.out.2.2.2.1.2 trivial, HN.out.1⟩
          case measure => simp [intOf]
        | ok x =>
          have hcalln := fun W : World => rnorm_any p (by omega) W
          rw [normR_ok hno] at hcalln
          have hnext' := hnext _ (addW_ok hno).symm
          have hput := fun (W : World) (hW : TextsAt W ad o) => rput_any o (str x) ad cap (by omega) W hW
          have hpl := Wd.put_length o (str x)
          rw [hm] at hput hpl
          obtain ⟨P, hP⟩ : ∃ P, P = Wd.put o (str x) := ⟨_, rfl⟩
          rw [← hP] at hput hnext' hpl
          obtain ⟨X, hX⟩ : ∃ X, X = str x := ⟨_, rfl⟩
          rw [← hX] at hput hcalln
          have HM := Lib.hid (And.intro hT (And.intro hbe (And.intro hput (And.intro hnext' (And.intro hcalln HC)))))
          rw [hp] at HM
          clear hT hbe hm hnext' hcalln hno hnext hpn hps hput hP hX hp HC
          go_wp2_with fail
          refine (HM.out.2.2.2.2.1 _).mono ?_
          rintro e w3 ⟨rfl, hb3⟩
          have hbe3 := HM.out.2.1.trans (hb3.mono hsz)
          have hT3 := HM.out.1.below hb3
          have hsz3 := hbe3.size
          have HN := Lib.hid (And.intro hbe3 hT3)
          clear hbe3 hT3 hb3
          go_wp2_with fail
          refine (HM.out.2.2.1 _ HN.out.2).mono ?_
          rintro e w4 ⟨ad2, cap2, rfl, ho4, hb4⟩
          have hbe4 := HN.out.1.trans (hb4.mono hsz3)
          have hcp := ho4.capy
          have HP := Lib.hid (And.intro hbe4 ho4.texts)
          clear hbe4 ho4 hb4
          go_wp2_with fail
          go_roundw
          case rel => exact ⟨s.size + 1, s.size + 1, P.length, P, ad2, cap2, by omega, by go_num, by go_num, rfl, rfl, by omega, hcp.1, hcp.2, HP.out.2, HM.out.2.2.2.1.1, fun _ => HM.out.2.2.2.1.2 trivial, HP.out.1⟩
          case measure => simp [intOf]
    · obtain rfl : k = s.size + 1 := by omega
      have hA := hend rfl
      subst hA
      have hg : ¬ (((s.size : Int) + 1) ≤ (s.size : Int)) := by omega
      by_cases h12 : 12 < A.length
      · obtain ⟨b, off, rfl, -, -⟩ := hT 0 (by omega)
        have hl12 : R.length = 12 := by rw [HO.out, List.length_take]; omega
        have hgm : (12 : Int) < (m : Int) := by omega
        have hgc : 12 ≤ cap := by omega
        have HM := Lib.hid (And.intro hT (And.intro hbe hl12))
        clear hlive hend hT hbe hl12
        subst hm
        go_wp2_with fail
        go_ret
        exact ⟨_, ⟨cap, by rw [HM.out.2.2]; rfl⟩, by rw [HO.out]; exact HM.out.1.first 12, HM.out.2.1⟩
      · have hR : R = A := by rw [HO.out, List.take_of_length_le (by omega)]
        have hgm : ¬ ((12 : Int) < (m : Int)) := by omega
        have HM := Lib.hid (And.intro hT (And.intro hbe (And.intro hm hR)))
        clear hlive hend hT hbe
        go_wp2_with fail
        go_ret
        exact ⟨ad, ⟨cap, rfl⟩, HM.out.1, HM.out.2.1⟩
end Go.Proofs.Ytnkkbinbeildmaa
