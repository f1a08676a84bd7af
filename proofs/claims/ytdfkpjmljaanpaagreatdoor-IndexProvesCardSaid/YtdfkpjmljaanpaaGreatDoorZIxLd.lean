/- IxLd, what is wanted of it. -/
import Derived.Test.YtdfkpjmljaanpaaGreatDoorZIxSu
namespace Go.Proofs.YtdfkpjmljaanpaaGreatDoor
open Go.RowKit
open Cn
theorem su_cases (rt : ByteArray) (n : Int) (s : Ix.Sh) (hok : Ix.rwOk s.row) :
    (suI n s = [] ∧ Ix.leadsB rt n s = false) ∨ ∃ (L : List ByteArray) (T : ByteArray), suI n s = L ++ [T] ∧ T.size < 1099511627000 ∧ Ix.leadsB rt n s = decide (str (sha T.data.toList) = rt) := by
  unfold suI Ix.leadsB
  rw [decide_eq_true hok, Bool.true_and]
  cases hc : Ix.clI n s.pl (Tr.leaf (Ix.rwS s.row)) s.way with
  | none => exact Or.inl ⟨rfl, rfl⟩
  | some x =>
    obtain ⟨h1, h2, h3, -⟩ := clI_in hc (Tr.sumE_size _)
    refine Or.inr ⟨Tr.leafT (Ix.rwS s.row) :: x.2.1, Ix.topS n x.1, rfl, ?_, rfl⟩
    unfold Ix.topS
    rw [str_size]
    exact Nat.lt_of_le_of_lt (Ix.topT_len (by omega) (by rw [h3]; decide)) (by decide)
set_option maxRecDepth 100000 in
set_option maxHeartbeats 8000000 in
theorem leads_any (rt : ByteArray) (n : Int) (s : Ix.Sh) (wa : Option Addr) (wc : Nat) (hok : Ix.rwOk s.row) (hws : s.way.length ≤ 100000) (hcap : s.way.length ≤ wc) (hmax : wc ≤ maxLen) (w : World) (hG : Glob w) (hT : TextsAt w wa s.way) :
    Calls Tryz.prog 71 #[.string rt, .int .i64 n, .agg (shCs (s, wa, wc))] w fun e w' => e = .returned (.bool (Ix.leadsB rt n s)) ∧ Below w.heap.size w w' := by
  obtain ⟨w1, hw1⟩ : ∃ w1, w1 = w.alloc (.cells (shCs (s, wa, wc)) 131) := ⟨_, rfl⟩
  have hb1 : Below w.heap.size w w1 := by rw [hw1]; exact (Below.refl _ _).alloc (Nat.le_refl _) _
  have hg1 : w1.heap[w.heap.size]? = some (.cells (shCs (s, wa, wc)) 131 (0, 0)) := by rw [hw1]; exact heap_alloc_new _ _
  have hsu := fun (W : World) (hb : Below w.heap.size w W) => isummed_any n s wa wc hok hws hcap hmax W (hG.below hb) (hT.below hb)
  have hcs := su_cases rt n s hok
  have hds := fun (T : ByteArray) (W : World) (hT : T.size < 1099511627000) (hb : Below w.heap.size w W) => dsum_any T hT W (hG.below hb)
  obtain ⟨Z, hZ⟩ : ∃ Z, Z = Ix.leadsB rt n s := ⟨_, rfl⟩
  rw [← hZ] at hcs ⊢
  obtain ⟨S, hS⟩ : ∃ S, S = suI n s := ⟨_, rfl⟩
  rw [← hS] at hcs hsu
  have hsc : shCs (s, wa, wc) = #[.int .i64 s.pl, .string s.row.tag, .int .i64 s.row.cnt, .int .i64 s.row.last, .slice wa s.way.length wc] := rfl
  rw [hsc] at hw1 hg1 hsu ⊢
  obtain ⟨x0, hx0⟩ : ∃ x, x = s.pl := ⟨_, rfl⟩
  obtain ⟨x1, hx1⟩ : ∃ x, x = s.row.tag := ⟨_, rfl⟩
  obtain ⟨x2, hx2⟩ : ∃ x, x = s.row.cnt := ⟨_, rfl⟩
  obtain ⟨x3, hx3⟩ : ∃ x, x = s.row.last := ⟨_, rfl⟩
  obtain ⟨x4, hx4⟩ : ∃ x, x = s.way.length := ⟨_, rfl⟩
  rw [← hx0, ← hx1, ← hx2, ← hx3, ← hx4] at hw1 hg1 hsu
  rw [← hx0, ← hx1, ← hx2, ← hx3, ← hx4]
  have j0 : w1.cell? ⟨w.heap.size, 0, none⟩ = some (.int .i64 x0) := by rw [cell_of_row _ _ _ _ _ _ hg1]; rfl
  have j1 : w1.cell? ⟨w.heap.size, 1, none⟩ = some (.string x1) := by rw [cell_of_row _ _ _ _ _ _ hg1]; rfl
  have j2 : w1.cell? ⟨w.heap.size, 2, none⟩ = some (.int .i64 x2) := by rw [cell_of_row _ _ _ _ _ _ hg1]; rfl
  have j3 : w1.cell? ⟨w.heap.size, 3, none⟩ = some (.int .i64 x3) := by rw [cell_of_row _ _ _ _ _ _ hg1]; rfl
  have j4 : w1.cell? ⟨w.heap.size, 4, none⟩ = some (.slice wa x4 wc) := by rw [cell_of_row _ _ _ _ _ _ hg1]; rfl
  have H := Lib.hid (And.intro hb1 (And.intro hsu hds))
  have HC := Lib.hid hcs
  clear hb1 hg1 hsu hds hcs hZ hS hsc hx0 hx1 hx2 hx3 hx4 hok hws hcap hmax hG hT
  go_enter Tryz.func71, Tryz.ntmps71
  go_upto_region 1 with fail
  rw [← hw1]
  clear hw1
  go_wp2_with fail
  refine (H.out.2.1 _ H.out.1).mono ?_
  rintro e w2 ⟨a, c, rfl, ho, hb2⟩
  have hb2' := bcall H.out.1 hb2 H.out.1.size
  clear j0 j1 j2 j3 j4
  rcases HC.out with ⟨h1, h2⟩ | ⟨L, T, h1, h2, h3⟩
  · subst h2 h1
    have H2 := Lib.hid hb2'
    clear hb2 hb2' ho
    rw [List.length_nil]
    go_wp2_with fail
    go_ret
    exact ⟨rfl, H2.out⟩
  · obtain ⟨m, hm⟩ : ∃ m, m = L.length := ⟨_, rfl⟩
    have hlen : S.length = m + 1 := by rw [h1, List.length_append, hm]; rfl
    have htx := ho.texts
    have hat : S[m]? = some T := by rw [h1, hm, List.getElem?_append_right (Nat.le_refl _), Nat.sub_self]; rfl
    have hbd : m + 1 ≤ maxLen := by have := OwnT.capy ho; omega
    rw [hlen]
    obtain ⟨b, o, rfl, hcell⟩ : ∃ b o, a = some ⟨b, o, none⟩ ∧ w2.cell? ⟨b, o + m, none⟩ = some (.string T) := by
      obtain ⟨b, o, e, -, hc⟩ := htx m (by omega)
      exact ⟨b, o, e, by rw [hc, List.getD_eq_getElem?_getD, hat]; rfl⟩
    have H2 := Lib.hid (And.intro hb2' (And.intro h2 h3))
    clear hb2 hb2' ho h1 h2 h3 htx hat hm hlen
    unfold maxLen at hbd
    go_wp2_with fail
    refine (H.out.2.2 T _ H2.out.2.1 H2.out.1).mono ?_
    rintro e w3 ⟨rfl, hb3⟩
    have H3 := Lib.hid (bcall H2.out.1 hb3 H2.out.1.size)
    obtain ⟨D, hD⟩ : ∃ D, D = str (sha T.data.toList) := ⟨_, rfl⟩
    have hz := H2.out.2.2
    rw [← hD] at hz ⊢
    clear hb3 hcell hD
    by_cases hq : D = rt
    · have e0 : (D.toList == rt.toList) = true := by rw [hq]; exact beq_self_eq_true _
      obtain rfl : Z = true := by rw [hz]; exact decide_eq_true hq
      clear hq hz
      go_wp2_with fail
      go_ret
      exact ⟨rfl, H3.out⟩
    · have e0 : (D.toList == rt.toList) = false := by
        cases e : D.toList == rt.toList with
        | false => rfl
        | true => exact absurd (Wd.toList_eq (by simpa using e)) hq
      obtain rfl : Z = false := by rw [hz]; exact decide_eq_false hq
      clear hq hz
      go_wp2_with fail
      go_ret
      exact ⟨rfl, H3.out⟩
end Go.Proofs.YtdfkpjmljaanpaaGreatDoor
