/- The reference of seal: ask, Turn, Code, Seal (lockboxref16). -/
import Derived.Test.YtgoimggfpagojaaGreatDoorSlMath
import Derived.Test.YtgoimggfpagojaaGreatDoorItF
import Derived.Test.YtgoimggfpagojaaGreatDoorMRefK
import Derived.Test.YtgoimggfpagojaaGreatDoorQRefS
import Derived.Test.YtgoimggfpagojaaGreatDoorCRefWrite
namespace Go.Proofs.YtgoimggfpagojaaGreatDoor
open Go.RowKit
open Cn

set_option maxRecDepth 100000 in
set_option maxHeartbeats 1000000 in
theorem rask16_any (key : ByteArray) (n : Int) (w : World) : Calls Tryz.prog 17 #[.string key, .int .i64 n] w fun e w' => e = .returned (.int .i64 (askP key n)) ∧ Below w.heap.size w w' := by
  obtain ⟨R, hR⟩ : ∃ R, R = askP key n := ⟨_, rfl⟩
  rw [← hR]
  by_cases h32 : key.size = 32
  · have h32i : (key.size : Int) = 32 := by omega
    by_cases h1 : n < 0
    · have hRe : R = 1 := by rw [hR]; unfold askP; rw [if_neg (fun h => h h32), if_neg (fun h => by obtain ⟨a, b⟩ := h; omega)]
      have HM := Lib.hid hRe
      clear hRe hR h32
      go_enter Tryz.func17, Tryz.ntmps17
      go_wp2_with fail
      go_ret
      exact ⟨by rw [HM.out]; rfl, Below.refl _ _⟩
    · by_cases h2 : 72057594037927935 < n
      · have hRe : R = 1 := by rw [hR]; unfold askP; rw [if_neg (fun h => h h32), if_neg (fun h => by obtain ⟨a, b⟩ := h; omega)]
        have HM := Lib.hid hRe
        clear hRe hR h32
        go_enter Tryz.func17, Tryz.ntmps17
        go_wp2_with fail
        go_ret
        exact ⟨by rw [HM.out]; rfl, Below.refl _ _⟩
      · have hRe : R = 0 := by rw [hR]; unfold askP; rw [if_neg (fun h => h h32), if_pos ⟨by omega, by omega⟩]
        have HM := Lib.hid hRe
        clear hRe hR h32
        go_enter Tryz.func17, Tryz.ntmps17
        go_wp2_with fail
        go_ret
        exact ⟨by rw [HM.out]; rfl, Below.refl _ _⟩
  · have h32i : ¬ ((key.size : Int) = 32) := by omega
    have hRe : R = 13 := by rw [hR]; unfold askP; rw [if_pos h32]
    have HM := Lib.hid hRe
    clear hRe hR h32
    go_enter Tryz.func17, Tryz.ntmps17
    go_wp2_with fail
    go_ret
    exact ⟨by rw [HM.out]; rfl, Below.refl _ _⟩
theorem nonS_eq (n : Int) : (⟨#[0, 0, 0, 0]⟩ : ByteArray) ++ str (numB (n % 18446744073709551616).toNat) = nonS n := by
  have h : ((⟨#[0, 0, 0, 0]⟩ : ByteArray) ++ str (numB (n % 18446744073709551616).toNat)).data.toList = (nonS n).data.toList := by
    rw [ByteArray.data_append, Array.toList_append]; rfl
  apply ByteArray.ext
  exact Array.toList_inj.1 h
set_option maxRecDepth 100000 in
set_option maxHeartbeats 1000000 in
theorem rturn16_any (key : ByteArray) (n : Int) (t : ByteArray) (hk : key.size ≤ 1000000) (w : World) : Calls Tryz.prog 20 #[.string key, .int .i64 n, .string t] w fun e w' => e = .returned (.string (trnP key n t)) ∧ Below w.heap.size w w' := by
  have hkey := fun W => rkey_any key hideL (by omega) (by decide) n W
  have hnum := fun W => rnumberK_any n W
  have hnon := nonS_eq n
  obtain ⟨K, hK⟩ : ∃ K, K = keyS key hideL n := ⟨_, rfl⟩
  obtain ⟨M, hM⟩ : ∃ M, M = str (numB (n % 18446744073709551616).toNat) := ⟨_, rfl⟩
  have hturn := fun W => rturn_any K (nonS n) 1 t W
  obtain ⟨E, hE⟩ : ∃ E, E = chkE K.size (nonS n).size 1 t.size := ⟨_, rfl⟩
  obtain ⟨O, hO⟩ : ∃ O, O = nonS n := ⟨_, rfl⟩
  obtain ⟨R, hR⟩ : ∃ R, R = trnP key n t := ⟨_, rfl⟩
  rw [show str (keyL key.data.toList hideL.data.toList (n % 18446744073709551616).toNat) = K from by rw [hK]; rfl] at hkey
  rw [← hM] at hnum hnon
  rw [← hE, ← hO, show trnS K O 1 t = R from by rw [hR, hK, hO]; rfl] at hturn
  rw [← hO] at hnon
  rw [← hR]
  have hMs : M.size = 8 := by rw [hM, str_size]; simp [numB]
  have HM := Lib.hid (And.intro hkey (And.intro hnum (And.intro hnon hturn)))
  clear hkey hnum hnon hturn hR hO hE hM hK hk
  go_enter Tryz.func20, Tryz.ntmps20
  go_wp2_with fail
  refine (HM.out.1 _).mono ?_
  rintro e w1 ⟨rfl, hb1⟩
  have H1 := Lib.hid hb1
  clear hb1
  go_wp2_with fail
  refine (HM.out.2.1 _).mono ?_
  rintro e w2 ⟨rfl, hb2⟩
  have H2 := Lib.hid (H1.out.trans (hb2.mono H1.out.size))
  clear hb2
  go_wp2_with fail
  rw [HM.out.2.2.1]
  refine (HM.out.2.2.2 _).mono ?_
  rintro e w3 ⟨rfl, hb3⟩
  have H3 := Lib.hid (H2.out.trans (hb3.mono H2.out.size))
  clear hb3
  go_wp2_with fail
  go_ret
  exact ⟨rfl, H3.out⟩
set_option maxRecDepth 100000 in
set_option maxHeartbeats 1000000 in
theorem rcode16_any (key : ByteArray) (n : Int) (t : ByteArray) (hk : key.size ≤ 1000000) (hn : numOk n) (ht : t.size ≤ 1500) (w : World) : Calls Tryz.prog 19 #[.string key, .int .i64 n, .string t] w fun e w' => e = .returned (.string (codP key n t)) ∧ Below w.heap.size w w' := by
  have hkey := fun W => rkey_any key tellL (by omega) (by decide) n W
  obtain ⟨K, hK⟩ : ∃ K, K = keyS key tellL n := ⟨_, rfl⟩
  obtain ⟨D, hD⟩ : ∃ D, D = cdS n t := ⟨_, rfl⟩
  have hKs : K.size = 32 := by rw [hK]; exact keyS_size _ _ _
  have hDs : D.size ≤ 2000 := by rw [hD]; unfold cdS; rw [str_size]; exact cdT_len hn ht
  have hcode := fun W => rcode_any K D (by omega) (by omega) W
  obtain ⟨R, hR⟩ : ∃ R, R = codP key n t := ⟨_, rfl⟩
  rw [show str (keyL key.data.toList tellL.data.toList (n % 18446744073709551616).toNat) = K from by rw [hK]; rfl] at hkey
  rw [show str (code K.data.toList D.data.toList) = R from by rw [hR, hK, hD]; rfl] at hcode
  rw [← hR]
  obtain ⟨w1, hw1⟩ : ∃ w1, w1 = w.alloc (.cells ([Fl.N n, Fl.T t].flatMap Fl.C).toArray 45) := ⟨_, rfl⟩
  have hb1 : Below w.heap.size w w1 := by rw [hw1]; exact (Below.refl _ _).alloc (Nat.le_refl _) _
  have hg1 : w1.heap[w.heap.size]? = some (.cells ([Fl.N n, Fl.T t].flatMap Fl.C).toArray 45 (0, 0)) := by rw [hw1]; exact heap_alloc_new _ _
  have hwr : ∀ W, Below w1.heap.size w1 W → Calls Tryz.prog 34 #[.agg #[.int .i64 3, .int .i64 0, .string ⟨#[]⟩, .slice (some ⟨w.heap.size, 0, none⟩) 2 2]] W fun e w' => e = .returned (.string D) ∧ Below W.heap.size W w' := fun W hW => by
    have hgW := (hW.block _ (Array.getElem?_eq_some_iff.1 hg1).1).trans hg1
    have hin : It.In W (fun _ => True) (.mk 3 0 ⟨#[]⟩ (some ⟨w.heap.size, 0, none⟩) 2 [Fl.N n, Fl.T t]) := ⟨Nat.zero_le _, Fl.lies _ hgW trivial (by intro x hx; simp at hx; rcases hx with rfl | rfl <;> rfl) (by simp), Fl.inN n, Fl.inT (by unfold maxLen; omega), trivial⟩
    have h := rwrite_any _ _ (Nat.le_refl _) (fun _ => True) 6 W hin (cdT_may hn (by omega)) (Nat.le_trans (cdT_len hn ht) (by decide))
    have hT : (⟨(Cn.bytes (It.mk 3 0 ⟨#[]⟩ (some ⟨w.heap.size, 0, none⟩) 2 [Fl.N n, Fl.T t]).pure).toArray⟩ : ByteArray) = D := by rw [hD]; rfl
    rw [hT] at h
    exact h
  simp only [List.flatMap_cons, List.flatMap_nil, Fl.C, Fl.N, Fl.T, It.k, It.n, It.s, List.cons_append, List.nil_append] at hw1
  have HM := Lib.hid (And.intro hkey (And.intro hwr (And.intro hcode hb1)))
  clear hkey hwr hcode hb1 hg1 hR hD hK hk hn ht hKs hDs
  go_enter Tryz.func19, Tryz.ntmps19
  go_wp2_with fail
  rw [← hw1]
  clear hw1
  refine (HM.out.1 _).mono ?_
  rintro e w2 ⟨rfl, hb2⟩
  have H2 := Lib.hid (And.intro hb2 (HM.out.2.2.2.trans (hb2.mono HM.out.2.2.2.size)))
  clear hb2
  go_wp2_with fail
  refine (HM.out.2.1 _ H2.out.1).mono ?_
  rintro e w3 ⟨rfl, hb3⟩
  have H3 := Lib.hid (H2.out.2.trans (hb3.mono H2.out.2.size))
  clear hb3
  go_wp2_with fail
  refine (HM.out.2.2.1 _).mono ?_
  rintro e w4 ⟨rfl, hb4⟩
  have H4 := Lib.hid (H3.out.trans (hb4.mono H3.out.size))
  clear hb4
  go_wp2_with fail
  go_ret
  exact ⟨rfl, H4.out⟩
/-- What Seal answers, as values. -/
def sealV (x : ByteArray × Int) : Value := .tuple #[.string x.1, .int .i64 x.2]
end Go.Proofs.YtgoimggfpagojaaGreatDoor
