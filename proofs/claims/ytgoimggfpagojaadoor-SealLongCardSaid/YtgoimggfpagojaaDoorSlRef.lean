/- The reference of seal: ask, Turn, Code, Seal (lockboxref16). -/
import Derived.Test.YtgoimggfpagojaaDoorSlMath
import Derived.Test.YtgoimggfpagojaaDoorItF
import Derived.Test.YtgoimggfpagojaaDoorMRefK
import Derived.Test.YtgoimggfpagojaaDoorQRefS
import Derived.Test.YtgoimggfpagojaaDoorCRefWrite
namespace Go.Proofs.YtgoimggfpagojaaDoor
open Go.RowKit
open Cn

set_option maxRecDepth 100000 in
set_option maxHeartbeats 1000000 in
theorem rask16_any (key : ByteArray) (n : Int) (w : World) : Calls Tryd.prog 48 #[.string key, .int .i64 n] w fun e w' => e = .returned (.int .i64 (askP key n)) ∧ Below w.heap.size w w' := by
  obtain ⟨R, hR⟩ : ∃ R, R = askP key n := ⟨_, rfl⟩
  rw [← hR]
  by_cases h32 : key.size = 32
  · have h32i : (key.size : Int) = 32 := by omega
    by_cases h1 : n < 0
    · have hRe : R = 1 := by rw [hR]; unfold askP; rw [if_neg (fun h => h h32), if_neg (fun h => by obtain ⟨a, b⟩ := h; omega)]
      have HM := Lib.hid hRe
      clear hRe hR h32
      go_enter Tryd.func48, Tryd.ntmps48
      go_wp2_with fail
      go_ret
      exact ⟨by rw [HM.out]; rfl, Below.refl _ _⟩
    · by_cases h2 : 72057594037927935 < n
      · have hRe : R = 1 := by rw [hR]; unfold askP; rw [if_neg (fun h => h h32), if_neg (fun h => by obtain ⟨a, b⟩ := h; omega)]
        have HM := Lib.hid hRe
        clear hRe hR h32
        go_enter Tryd.func48, Tryd.ntmps48
        go_wp2_with fail
        go_ret
        exact ⟨by rw [HM.out]; rfl, Below.refl _ _⟩
      · have hRe : R = 0 := by rw [hR]; unfold askP; rw [if_neg (fun h => h h32), if_pos ⟨by omega, by omega⟩]
        have HM := Lib.hid hRe
        clear hRe hR h32
        go_enter Tryd.func48, Tryd.ntmps48
        go_wp2_with fail
        go_ret
        exact ⟨by rw [HM.out]; rfl, Below.refl _ _⟩
  · have h32i : ¬ ((key.size : Int) = 32) := by omega
    have hRe : R = 13 := by rw [hR]; unfold askP; rw [if_pos h32]
    have HM := Lib.hid hRe
    clear hRe hR h32
    go_enter Tryd.func48, Tryd.ntmps48
    go_wp2_with fail
    go_ret
    exact ⟨by rw [HM.out]; rfl, Below.refl _ _⟩
theorem nonS_eq (n : Int) : (⟨#[0, 0, 0, 0]⟩ : ByteArray) ++ str (numB (n % 18446744073709551616).toNat) = nonS n := by
  have h : ((⟨#[0, 0, 0, 0]⟩ : ByteArray) ++ str (numB (n % 18446744073709551616).toNat)).data.toList = (nonS n).data.toList := by
    rw [ByteArray.data_append, Array.toList_append]; rfl
  apply ByteArray.ext
  exact Array.toList_inj.1 h
set_option maxRecDepth 100000 in
set_option maxHeartbeats 1000000 in
theorem rturn16_any (key : ByteArray) (n : Int) (t : ByteArray) (hk : key.size ≤ 1000000) (w : World) : Calls Tryd.prog 49 #[.string key, .int .i64 n, .string t] w fun e w' => e = .returned (.string (trnP key n t)) ∧ Below w.heap.size w w' := by
  have hkey := fun W => rkey_any key hideL (by omega) (by decide) n W
  have hnum := fun W => rnumberK_any n W
  have hnon := nonS_eq n
  obtain ⟨K, hK⟩ : ∃ K, K = keyS key hideL n := ⟨_, rfl⟩
  obtain ⟨M, hM⟩ : ∃ M, M = str (numB (n % 18446744073709551616).toNat) := ⟨_, rfl⟩
  have hturn := fun W => rturn_any K (nonS n) 1 t W
  obtain ⟨E, hE⟩ : ∃ E, E = chkE K.size (nonS n).size 1 t.size := ⟨_, rfl⟩
  obtain ⟨O, hO⟩ : ∃ O, O = nonS n := ⟨_, rfl⟩
  obtain ⟨R, hR⟩ : ∃ R, R = trnP key n t := ⟨_, rfl⟩
  rw [show str (keyL key.data.toList hideL.data.toList (n % 18446744073709551616).toNat) = K from by rw [hK]; rfl] at hkey
  rw [← hM] at hnum hnon
  rw [← hE, ← hO, show trnS K O 1 t = R from by rw [hR, hK, hO]; rfl] at hturn
  rw [← hO] at hnon
  rw [← hR]
  have hMs : M.size = 8 := by rw [hM, str_size]; simp [numB]
  have HM := Lib.hid (And.intro hkey (And.intro hnum (And.intro hnon hturn)))
  clear hkey hnum hnon hturn hR hO hE hM hK hk
  go_enter Tryd.func49, Tryd.ntmps49
  go_wp2_with fail
  refine (HM.out.1 _).mono ?_
  rintro e w1 ⟨rfl, hb1⟩
  have H1 := Lib.hid hb1
  clear hb1
  go_wp2_with fail
  refine (HM.out.2.1 _).mono ?_
  rintro e w2 ⟨rfl, hb2⟩
  have H2 := Lib.hid (H1.out.trans (hb2.mono H1.out.size))
  clear hb2
  go_wp2_with fail
  rw [HM.out.2.2.1]
  refine (HM.out.2.2.2 _).mono ?_
  rintro e w3 ⟨rfl, hb3⟩
  have H3 := Lib.hid (H2.out.trans (hb3.mono H2.out.size))
  clear hb3
  go_wp2_with fail
  go_ret
  exact ⟨rfl, H3.out⟩
set_option maxRecDepth 100000 in
set_option maxHeartbeats 1000000 in
theorem rcode16_any (key : ByteArray) (n : Int) (t : ByteArray) (hk : key.size ≤ 1000000) (hn : numOk n) (ht : t.size ≤ 1500) (w : World) : Calls Tryd.prog 50 #[.string key, .int .i64 n, .string t] w fun e w' => e = .returned (.string (codP key n t)) ∧ Below w.heap.size w w' := by
  have hkey := fun W => rkey_any key tellL (by omega) (by decide) n W
  obtain ⟨K, hK⟩ : ∃ K, K = keyS key tellL n := ⟨_, rfl⟩
  obtain ⟨D, hD⟩ : ∃ D, D = cdS n t := ⟨_, rfl⟩
  have hKs : K.size = 32 := by rw [hK]; exact keyS_size _ _ _
  have hDs : D.size ≤ 2000 := by rw [hD]; unfold cdS; rw [str_size]; exact cdT_len hn ht
  have hcode := fun W => rcode_any K D (by omega) (by omega) W
  obtain ⟨R, hR⟩ : ∃ R, R = codP key n t := ⟨_, rfl⟩
  rw [show str (keyL key.data.toList tellL.data.toList (n % 18446744073709551616).toNat) = K from by rw [hK]; rfl] at hkey
  rw [show str (code K.data.toList D.data.toList) = R from by rw [hR, hK, hD]; rfl] at hcode
  rw [← hR]
  obtain ⟨w1, hw1⟩ : ∃ w1, w1 = w.alloc (.cells ([Fl.N n, Fl.T t].flatMap Fl.C).toArray 74) := ⟨_, rfl⟩
  have hb1 : Below w.heap.size w w1 := by rw [hw1]; exact (Below.refl _ _).alloc (Nat.le_refl _) _
  have hg1 : w1.heap[w.heap.size]? = some (.cells ([Fl.N n, Fl.T t].flatMap Fl.C).toArray 74 (0, 0)) := by rw [hw1]; exact heap_alloc_new _ _
  have hwr : ∀ W, Below w1.heap.size w1 W → Calls Tryd.prog 51 #[.agg #[.int .i64 3, .int .i64 0, .string ⟨#[]⟩, .slice (some ⟨w.heap.size, 0, none⟩) 2 2]] W fun e w' => e = .returned (.string D) ∧ Below W.heap.size W w' := fun W hW => by
    have hgW := (hW.block _ (Array.getElem?_eq_some_iff.1 hg1).1).trans hg1
    have hin : It.In W (fun _ => True) (.mk 3 0 ⟨#[]⟩ (some ⟨w.heap.size, 0, none⟩) 2 [Fl.N n, Fl.T t]) := ⟨Nat.zero_le _, Fl.lies _ hgW trivial (by intro x hx; simp at hx; rcases hx with rfl | rfl <;> rfl) (by simp), Fl.inN n, Fl.inT (by unfold maxLen; omega), trivial⟩
    have h := rwrite_any _ _ (Nat.le_refl _) (fun _ => True) 6 W hin (cdT_may hn (by omega)) (Nat.le_trans (cdT_len hn ht) (by decide))
    have hT : (⟨(Cn.bytes (It.mk 3 0 ⟨#[]⟩ (some ⟨w.heap.size, 0, none⟩) 2 [Fl.N n, Fl.T t]).pure).toArray⟩ : ByteArray) = D := by rw [hD]; rfl
    rw [hT] at h
    exact h
  simp only [List.flatMap_cons, List.flatMap_nil, Fl.C, Fl.N, Fl.T, It.k, It.n, It.s, List.cons_append, List.nil_append] at hw1
  have HM := Lib.hid (And.intro hkey (And.intro hwr (And.intro hcode hb1)))
  clear hkey hwr hcode hb1 hg1 hR hD hK hk hn ht hKs hDs
  go_enter Tryd.func50, Tryd.ntmps50
  go_wp2_with fail
  rw [← hw1]
  clear hw1
  refine (HM.out.1 _).mono ?_
  rintro e w2 ⟨rfl, hb2⟩
  have H2 := Lib.hid (And.intro hb2 (HM.out.2.2.2.trans (hb2.mono HM.out.2.2.2.size)))
  clear hb2
  go_wp2_with fail
  refine (HM.out.2.1 _ H2.out.1).mono ?_
  rintro e w3 ⟨rfl, hb3⟩
  have H3 := Lib.hid (H2.out.2.trans (hb3.mono H2.out.2.size))
  clear hb3
  go_wp2_with fail
  refine (HM.out.2.2.1 _).mono ?_
  rintro e w4 ⟨rfl, hb4⟩
  have H4 := Lib.hid (H3.out.trans (hb4.mono H3.out.size))
  clear hb4
  go_wp2_with fail
  go_ret
  exact ⟨rfl, H4.out⟩
/-- What Seal answers, as values. -/
def sealV (x : ByteArray × Int) : Value := .tuple #[.string x.1, .int .i64 x.2]
set_option maxRecDepth 100000 in
set_option maxHeartbeats 1000000 in
theorem rseal_any (key : ByteArray) (n : Int) (p : ByteArray) (hk : key.size ≤ 1000000) (w : World) : Calls Tryd.prog 27 #[.string key, .int .i64 n, .string p] w fun e w' => e = .returned (sealV (sealE key n p)) ∧ Below w.heap.size w w' := by
  have hask := fun W => rask16_any key n W
  obtain ⟨Q, hQ⟩ : ∃ Q, Q = askP key n := ⟨_, rfl⟩
  obtain ⟨R, hR⟩ : ∃ R, R = sealV (sealE key n p) := ⟨_, rfl⟩
  rw [← hQ] at hask
  rw [← hR]
  by_cases h0 : Q = 0
  · by_cases hp : 1024 < p.size
    · have hpi : (1024 : Int) < (p.size : Int) := by omega
      have hRe : R = .tuple #[.string ⟨#[]⟩, .int .i64 2] := by rw [hR]; unfold sealE sealV; rw [if_neg (by rw [← hQ]; exact fun h => h h0), if_pos hp]
      have HM := Lib.hid (And.intro hask hRe)
      clear hask hRe hR hQ hp
      go_enter Tryd.func27, Tryd.ntmps27
      go_wp2_with fail
      refine (HM.out.1 _).mono ?_
      rintro e w1 ⟨rfl, hb1⟩
      have H1 := Lib.hid hb1
      clear hb1
      go_wp2_with fail
      go_ret2
      exact ⟨by rw [HM.out.2]; rfl, H1.out⟩
    · have hpi : ¬ ((1024 : Int) < (p.size : Int)) := by omega
      obtain ⟨hk32, hn⟩ := askP_ok (key := key) (n := n) (by rw [← hQ]; exact h0)
      have hps : p.size ≤ 1024 := by omega
      have hturn := fun W => rturn16_any key n p hk W
      have htz : (trnP key n p).size ≤ 1024 := by rw [trnP_size key n (by omega)]; exact hps
      have hcode := fun W => rcode16_any key n (trnP key n p) hk hn (by omega) W
      have hRe : R = .tuple #[.string (slS n (trnP key n p) (codP key n (trnP key n p))), .int .i64 0] := by rw [hR]; unfold sealE sealV sealP; rw [if_neg (by rw [← hQ]; exact fun h => h h0), if_neg hp]
      have hcs := codP_size key n (trnP key n p)
      obtain ⟨T, hT⟩ : ∃ T, T = trnP key n p := ⟨_, rfl⟩
      rw [← hT] at hturn htz hcode hRe hcs
      obtain ⟨C, hC⟩ : ∃ C, C = codP key n T := ⟨_, rfl⟩
      rw [← hC] at hcode hRe hcs
      obtain ⟨D, hD⟩ : ∃ D, D = slS n T C := ⟨_, rfl⟩
      rw [← hD] at hRe
      have hwr : ∀ W w1, w1 = W.alloc (.cells ([Fl.N n, Fl.T T, Fl.T C].flatMap Fl.C).toArray 74) → Below W.heap.size W w1 ∧ Calls Tryd.prog 51 #[.agg #[.int .i64 3, .int .i64 0, .string ⟨#[]⟩, .slice (some ⟨W.heap.size, 0, none⟩) 3 3]] w1 fun e w' => e = .returned (.string D) ∧ Below w1.heap.size w1 w' := fun W w1 hw1 => by
        have hg1 : w1.heap[W.heap.size]? = some (.cells ([Fl.N n, Fl.T T, Fl.T C].flatMap Fl.C).toArray 74 (0, 0)) := by rw [hw1]; exact heap_alloc_new _ _
        have hin : It.In w1 (fun _ => True) (.mk 3 0 ⟨#[]⟩ (some ⟨W.heap.size, 0, none⟩) 3 [Fl.N n, Fl.T T, Fl.T C]) := ⟨Nat.zero_le _, Fl.lies _ hg1 trivial (by intro x hx; simp at hx; rcases hx with rfl | rfl | rfl <;> rfl) (by simp), Fl.inN n, Fl.inT (by unfold maxLen; omega), Fl.inT (by unfold maxLen; omega), trivial⟩
        have h := rwrite_any _ _ (Nat.le_refl _) (fun _ => True) 6 w1 hin (slT_may hn (by omega) (by omega)) (Nat.le_trans (slT_len hn (by omega) (by omega)) (by decide))
        have hTx : (⟨(Cn.bytes (It.mk 3 0 ⟨#[]⟩ (some ⟨W.heap.size, 0, none⟩) 3 [Fl.N n, Fl.T T, Fl.T C]).pure).toArray⟩ : ByteArray) = D := by rw [hD]; rfl
        rw [hTx] at h
        exact ⟨by rw [hw1]; exact (Below.refl _ _).alloc (Nat.le_refl _) _, h⟩
      have HM := Lib.hid (And.intro hask (And.intro hturn (And.intro hcode (And.intro hwr hRe))))
      clear hask hturn hcode hwr hRe hR hQ hp hT hC hD hcs htz hn hps
      go_enter Tryd.func27, Tryd.ntmps27
      go_wp2_with fail
      refine (HM.out.1 _).mono ?_
      rintro e w1 ⟨rfl, hb1⟩
      have H1 := Lib.hid hb1
      clear hb1
      go_wp2_with fail
      refine (HM.out.2.1 _).mono ?_
      rintro e w2 ⟨rfl, hb2⟩
      have H2 := Lib.hid (H1.out.trans (hb2.mono H1.out.size))
      clear hb2
      go_wp2_with fail
      refine (HM.out.2.2.1 _).mono ?_
      rintro e w3 ⟨rfl, hb3⟩
      have H3 := Lib.hid (H2.out.trans (hb3.mono H2.out.size))
      clear hb3
      obtain ⟨w4, hw4⟩ : ∃ w4, w4 = w3.alloc (.cells ([Fl.N n, Fl.T T, Fl.T C].flatMap Fl.C).toArray 74) := ⟨_, rfl⟩
      have h4 := HM.out.2.2.2.1 w3 w4 hw4
      simp only [List.flatMap_cons, List.flatMap_nil, Fl.C, Fl.N, Fl.T, It.k, It.n, It.s, List.cons_append, List.nil_append] at hw4
      have H4 := Lib.hid (And.intro (H3.out.trans (h4.1.mono H3.out.size)) h4.2)
      clear h4
      go_wp2_with fail
      rw [← hw4]
      clear hw4
      refine H4.out.2.mono ?_
      rintro e w5 ⟨rfl, hb5⟩
      have H5 := Lib.hid (H4.out.1.trans (hb5.mono H4.out.1.size))
      clear hb5
      go_wp2_with fail
      go_ret2
      exact ⟨by rw [HM.out.2.2.2.2]; rfl, H5.out⟩
  · have hRe : R = .tuple #[.string ⟨#[]⟩, .int .i64 Q] := by rw [hR, hQ]; unfold sealE sealV; rw [if_pos (by rw [← hQ]; exact h0)]
    have HM := Lib.hid (And.intro hask hRe)
    clear hask hRe hR hQ
    go_enter Tryd.func27, Tryd.ntmps27
    go_wp2_with fail
    refine (HM.out.1 _).mono ?_
    rintro e w1 ⟨rfl, hb1⟩
    have H1 := Lib.hid hb1
    clear hb1
    go_wp2_with fail
    go_ret2
    exact ⟨by rw [HM.out.2]; rfl, H1.out⟩
end Go.Proofs.YtgoimggfpagojaaDoor
