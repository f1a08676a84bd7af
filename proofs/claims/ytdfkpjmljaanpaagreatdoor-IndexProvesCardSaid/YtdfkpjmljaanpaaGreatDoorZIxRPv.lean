/- IxRPv, what is wanted of it. -/
import Derived.Test.YtdfkpjmljaanpaaGreatDoorZMX4
import Derived.Test.YtdfkpjmljaanpaaGreatDoorZMX6
import Derived.Test.YtdfkpjmljaanpaaGreatDoorZIxShow
import Derived.Test.YtdfkpjmljaanpaaGreatDoorZTrWay2
import Derived.Test.YtdfkpjmljaanpaaGreatDoorZMX9
namespace Go.Proofs.YtdfkpjmljaanpaaGreatDoor
open Go.RowKit
open Cn
/-- How two texts stand to one another. -/
structure Tri (x t : ByteArray) (A B E : Bool) : Prop where
  l1 : Op.bytesLess x.toList t.toList = A
  l2 : Op.bytesLess t.toList x.toList = B
  e1 : (x.toList == t.toList) = E
  e2 : (t.toList == x.toList) = E
  w1 : Wd.less x t = A
  w2 : Wd.less t x = B
  eq : decide (x = t) = E
theorem tri_any (x t : ByteArray) : Tri x t true false false ∨ Tri x t false true false ∨ Tri x t false false true := by
  by_cases h : x = t
  · subst h
    have hf : Wd.less x x = false := by
      cases e : Wd.less x x with
      | false => rfl
      | true => exact absurd rfl (Wd.less_ne e)
    exact Or.inr (Or.inr ⟨hf, hf, beq_self_eq_true _, beq_self_eq_true _, hf, hf, decide_eq_true rfl⟩)
  · have n1 : (x.toList == t.toList) = false := by
      cases e : x.toList == t.toList with
      | false => rfl
      | true => exact absurd (Wd.toList_eq (by simpa using e)) h
    have n2 : (t.toList == x.toList) = false := by
      cases e : t.toList == x.toList with
      | false => rfl
      | true => exact absurd (Wd.toList_eq (by simpa using e)).symm h
    rcases Wd.less_total h with h1 | h1
    · have h2 : Wd.less t x = false := by
        cases e : Wd.less t x with
        | false => rfl
        | true => exact absurd h1 (by rw [Wd.less_asymm e]; decide)
      exact Or.inl ⟨h1, h2, n1, n2, h1, h2, decide_eq_false h⟩
    · have h2 : Wd.less x t = false := by
        cases e : Wd.less x t with
        | false => rfl
        | true => exact absurd h1 (by rw [Wd.less_asymm e]; decide)
      exact Or.inr (Or.inl ⟨h2, h1, n1, n2, h2, h1, decide_eq_false h⟩)
theorem find_plc {R : List Rw} (t : ByteArray) : ((Ix.fnd R t).isSome = true ∧ ∃ j : Nat, Ix.plc R t 0 = (j : Nat)) ∨ ((Ix.fnd R t).isSome = false ∧ Ix.plc R t 0 = -1) := by
  cases h : Ix.fnd R t with
  | none => exact Or.inr ⟨rfl, Ix.plc_none 0 h⟩
  | some r =>
    obtain ⟨j, h1, -⟩ := Ix.plc_some 0 h
    exact Or.inl ⟨rfl, j, by rw [h1, Nat.zero_add]⟩
/-- Texts of the call's own, that do not lie in the rows' block. -/
structure FarR (B : Nat) (row : Option Nat) (a : Option Addr) (cap : Nat) (l : List ByteArray) (W : World) : Prop where
  own : OwnT B W a cap l
  nr : ∀ g, (Value.slice a l.length cap).ownBlock = some g → row ≠ some g
theorem FarR.call {B : Nat} {row : Option Nat} {a : Option Addr} {cap : Nat} {l : List ByteArray} {W W' : World} (h : FarR B row a cap l W) (hb : Below W.heap.size W W') : FarR B row a cap l W' := ⟨OwnT.call h.own hb, h.nr⟩
theorem FarR.moved {B g1 : Nat} {row : Option Nat} {W W1 : World} {b : Option Addr} {cb : Nat} {l : List ByteArray} (h : FarR B row b cb l W) (hg : W.grownBy W1 row) (hat : row = some g1 ∨ g1 = W.heap.size) : FarR B (some g1) b cb l W1 := by
  refine ⟨OwnT.beside h.own hg (fun g e => fun hb => h.nr g hb e), fun g hgg e => ?_⟩
  injection e with e
  subst e
  rcases hat with h1 | h1
  · exact h.nr _ hgg h1
  · have := (World.ownsRow.lt h.own _ hgg).2
    omega
/-- The rows that were put out, their ways; the digests. -/
structure RpS (w : World) (rs : List ShW) (a : Option Addr) (ca : Nat) (d : Option Addr) (dc : Nat) (D : List ByteArray) (W : World) : Prop where
  own : OwnR 133 5 shCs w.heap.size W a ca rs
  ways : ∀ r ∈ rs, FarR w.heap.size (Value.slice a rs.length ca).ownBlock r.2.1 r.2.2 r.1.way W
  dg : FarR w.heap.size (Value.slice a rs.length ca).ownBlock d dc D W
  below : Below w.heap.size w W
theorem RpS.call {w : World} {rs : List ShW} {a : Option Addr} {ca : Nat} {d : Option Addr} {dc : Nat} {D : List ByteArray} {W W' : World} (h : RpS w rs a ca d dc D W) (hb : Below W.heap.size W W') : RpS w rs a ca d dc D W' :=
  ⟨h.own.call hb, fun r hr => (h.ways r hr).call hb, h.dg.call hb, h.below.trans (hb.mono h.below.size)⟩
theorem RpS.add {w : World} {rs : List ShW} {a : Option Addr} {ca : Nat} {d : Option Addr} {dc : Nat} {D : List ByteArray} {W W1 : World} (h : RpS w rs a ca d dc D W) {r : ShW} {g1 c1 : Nat}
    (hr : FarR w.heap.size (Value.slice a rs.length ca).ownBlock r.2.1 r.2.2 r.1.way W) (ho : OwnR 133 5 shCs w.heap.size W1 (some ⟨g1, 0, none⟩) c1 (rs ++ [r])) (hb : Below w.heap.size w W1)
    (hg : W.grownBy W1 (Value.slice a rs.length ca).ownBlock) (hat : (Value.slice a rs.length ca).ownBlock = some g1 ∨ g1 = W.heap.size) : RpS w (rs ++ [r]) (some ⟨g1, 0, none⟩) c1 d dc D W1 := by
  have hob : ∀ k, (Value.slice (some ⟨g1, 0, none⟩) k c1).ownBlock = some g1 := fun _ => rfl
  refine ⟨ho, fun q hq => ?_, ?_, hb⟩
  · rw [hob]
    rcases List.mem_append.1 hq with hq | hq
    · exact (h.ways q hq).moved hg hat
    · rw [List.mem_singleton.1 hq]; exact hr.moved hg hat
  · rw [hob]; exact h.dg.moved hg hat
set_option maxRecDepth 100000 in
set_option maxHeartbeats 8000000 in
theorem rprove18_any (R : List Rw) (t : ByteArray) (a0 : Option Addr) (cap : Nat) (w : World) (hT : RwAt w a0 R) (hm : R.length ≤ 4096) (hok : ∀ r ∈ R, Ix.rwOk r) :
    Calls Tryz.prog 18 #[.slice a0 R.length cap, .string t] w fun e w' => ∃ a c, e = .returned (.slice a (Ix.prvI R t).length c) ∧ ShAt w' a (Ix.prvI R t) ∧ Below w.heap.size w w' := by
  have hlv := rleaves18_any R a0 cap w hT (by omega) hok
  have hdg := fun (W : World) (a : Option Addr) (c : Nat) (h : TextsAt W a (R.map Ix.rwS)) => rdigests_any (R.map Ix.rwS) a c W h (by rw [List.length_map]; omega) (rwS_list hok)
  have el : (R.map Ix.rwS).map Tr.leaf = Ix.lvs R := by unfold Ix.lvs; rw [List.map_map]; rfl
  rw [el, List.length_map] at hdg
  have hwy := fun (W : World) (i : Nat) (hi : i < R.length) (a : Option Addr) (c : Nat) (h : TextsAt W a (Ix.lvs R)) (h1 : (Ix.lvs R).length ≤ c) (h2 : c ≤ maxLen) => rbigWay_any (Ix.lvs R) (by rw [Ix.lvs_length]; exact hm) (Ix.lvs_digs R) (i : Int) a c W h h1 h2
  have hwe : ∀ i : Nat, i < R.length → wayI (Ix.lvs R) (i : Int) = Tr.way (Ix.lvs R) i := fun i hi => by
    unfold wayI
    rw [if_pos ⟨by omega, by rw [Ix.lvs_length]; omega⟩, Int.toNat_natCast]
  have hfd := fun (W : World) (hb : Below w.heap.size w W) => rfind18_any R a0 cap t W (hT.below hb) (by omega)
  have hpl := find_plc (R := R) t
  have hpk : ∀ (i : Nat) (r : Rw), R[i]? = some r → Ix.prvN R t (i + 1) = if Ix.pickB R t i r = true then Ix.prvN R t i ++ [⟨i, r, Tr.way (Ix.lvs R) i⟩] else Ix.prvN R t i := fun i r hr => by
    rw [Ix.prvN_succ]
    unfold Ix.shAt
    rw [hr]
    simp only
    split <;> simp
  have hP : Ix.prvI R t = Ix.prvN R t R.length := rfl
  obtain ⟨D, hD⟩ : ∃ D, D = Ix.lvs R := ⟨_, rfl⟩
  have hDl : D.length = R.length := by rw [hD, Ix.lvs_length]
  rw [← hD] at hdg hwy hwe hpk
  rw [hDl] at hwy
  rw [hP]
  obtain ⟨n, hn⟩ : ∃ n, n = R.length := ⟨_, rfl⟩
  obtain ⟨K, hK⟩ : ∃ K, K = Ix.plc R t 0 := ⟨_, rfl⟩
  rw [← hn] at hlv hdg hwy hwe hfd hDl hm ⊢
  rw [← hK] at hfd hpl
  have H := Lib.hid (And.intro hlv (And.intro hdg (And.intro hwy (And.intro hwe (And.intro hfd (And.intro hpl (And.intro hpk (And.intro hT (And.intro hDl hn)))))))))
  clear hlv hdg hwy hwe hfd hpl hpk hT hDl hn hK hP hD el hok
  go_enter Tryz.func18, Tryz.ntmps18
  go_wp2_with fail
  refine H.out.1.mono ?_
  rintro e w1 ⟨la, lc, rfl, hoL, hb1⟩
  have H1 := Lib.hid (And.intro hb1 (OwnT.texts hoL))
  clear hoL hb1
  go_wp2_with fail
  refine (H.out.2.1 _ _ _ H1.out.2).mono ?_
  rintro e w2 ⟨da, dc, rfl, hoD, hb2⟩
  have hS0 : RpS w [] none 0 da dc D w2 := ⟨OwnR.nil _ _ _ _ _, fun r hr => by simp at hr, ⟨OwnT.mono hoD H1.out.1.size, fun g _ e => by cases e⟩, H1.out.1.trans (hb2.mono H1.out.1.size)⟩
  have HS := Lib.hid hS0
  clear hoD hb2 hS0
  have hpl := H.out.2.2.2.2.2.1
  go_wp2_with fail
  go_loopw [5, 7, 8, 9, 10, 11] (fun v c _ _ _ _ wr => ∃ (i : Nat) (a : Option Addr) (ca k : Nat) (rs : List ShW), i ≤ n ∧ k = rs.length ∧ v = .slice a k ca ∧ c = .int .i64 i ∧ rs.map (·.1) = Ix.prvN R t i ∧ RpS w rs a ca da dc D wr) (fun _ c _ _ _ _ _ => n - (intOf c).toNat)
  case atStart => exact ⟨0, none, 0, 0, [], by omega, rfl, rfl, rfl, rfl, HS.out⟩
  case round =>
    obtain ⟨i, a, ca, k, rs, hi, hk, rfl, rfl, hrs, hR⟩ := hrel
    by_cases hlt : i < n
    · obtain ⟨r, hr⟩ : ∃ r, R[i]? = some r := ⟨R[i]'(by have := H.out.2.2.2.2.2.2.2.2.2; omega), List.getElem?_eq_getElem (by have := H.out.2.2.2.2.2.2.2.2.2; omega)⟩
      have HR := Lib.hid (And.intro hR (And.intro hrs (And.intro hk (And.intro hr (H.out.2.2.2.2.2.2.1 i r hr)))))
      have hki : k ≤ i := by
        have h1 := congrArg List.length hrs
        rw [List.length_map] at h1
        have h2 : (Ix.prvN R t i).length ≤ i := by
          unfold Ix.prvN
          exact Nat.le_trans (List.length_filterMap_le _ _) (by rw [List.length_range]; exact Nat.le_refl _)
        omega
      have HI := Lib.hid (And.intro hlt hki)
      clear hR hrs hk hr hki hi
      obtain ⟨b, off, rfl, hbl, q0, q1, q2⟩ := (H.out.2.2.2.2.2.2.2.1.below HR.out.1.below) i r HR.out.2.2.2.1
      obtain ⟨⟨x0, x1, x2⟩, hx⟩ : ∃ q, q = r := ⟨_, rfl⟩
      rw [← hx] at q0 q1 q2 HR
      simp only at q0 q1 q2
      obtain ⟨wo, hwo⟩ : ∃ wo, wo = wr := ⟨_, rfl⟩
      subst hwo
      rcases hpl with ⟨his, j, rfl⟩ | ⟨his, rfl⟩
      · have hj0 : (0 : Int) ≤ (j : Int) := by omega
        go_wp2_with fail
        refine (H.out.2.2.2.2.1 _ HR.out.1.below).mono ?_
        rintro e w4 ⟨rfl, rfl⟩
        go_upto_region 7 with fail
        obtain ⟨nb, hnb⟩ : ∃ nb, nb = Ix.nextB R t i ⟨x0, x1, x2⟩ := ⟨_, rfl⟩
        have HNB := Lib.hid hnb
        clear hnb
        go_cut [9] (fun v wc => v = .bool nb ∧ wc = w4)
        case first =>
          rcases tri_any x0 t with ht | ht | ht
          · have HT := Lib.hid ht
            clear ht
            by_cases hl : i + 1 = n
            · have hnx : R[i + 1]? = none := by rw [List.getElem?_eq_none]; have := H.out.2.2.2.2.2.2.2.2.2; omega
              have k1 : ((i : Int) == ((n - 1 : Nat) : Int)) = true := by rw [show n - 1 = i by omega]; exact beq_self_eq_true _
              obtain ⟨m1, hm1⟩ : ∃ m1, m1 = n - 1 := ⟨_, rfl⟩
              rw [← hm1] at k1
              have k2 : IntKind.i64.wrap ((n : Int) - 1) = (m1 : Int) := by rw [Ix.wrap_in (by omega) (by omega)]; omega
              have HX := Lib.hid hnx
              clear hnx hl hm1
              obtain rfl : nb = true := by rw [HNB.out]; unfold Ix.nextB; simp [HT.out.w1, HT.out.w2, HX.out]
              obtain ⟨l1, l2, e1, e2, -, -, -⟩ := id HT.out
              go_wp2_with fail
              go_meet
              exact ⟨rfl, rfl⟩
            · obtain ⟨r2, hr2⟩ : ∃ q, R[i + 1]? = some q := ⟨R[i + 1]'(by have := H.out.2.2.2.2.2.2.2.2.2; omega), List.getElem?_eq_getElem (by have := H.out.2.2.2.2.2.2.2.2.2; omega)⟩
              obtain ⟨b', off', ee, -, p0, -, -⟩ := (H.out.2.2.2.2.2.2.2.1.below HR.out.1.below) (i + 1) r2 hr2
              injection ee with ee
              injection ee with ee1 ee2
              subst ee1 ee2
              have k1 : ((i : Int) == ((n - 1 : Nat) : Int)) = false := by
                cases e : ((i : Int) == ((n - 1 : Nat) : Int)) with
                | false => rfl
                | true => have := eq_of_beq e; omega
              obtain ⟨m1, hm1⟩ : ∃ m1, m1 = n - 1 := ⟨_, rfl⟩
              rw [← hm1] at k1
              have k2 : IntKind.i64.wrap ((n : Int) - 1) = (m1 : Int) := by rw [Ix.wrap_in (by omega) (by omega)]; omega
              have k3 : i + 1 < n := by have := HI.out; omega
              obtain ⟨y0, hy0⟩ : ∃ y, y = r2.tag := ⟨_, rfl⟩
              rw [← hy0] at p0
              have HX := Lib.hid (And.intro hr2 hy0)
              clear hr2 hy0 hl hm1
              rcases tri_any y0 t with hy | hy | hy
              · have HY := Lib.hid hy
                clear hy
                obtain ⟨g1, g2, g3, g4, -, -, -⟩ := id HY.out
                obtain rfl : nb = false := by rw [HNB.out]; unfold Ix.nextB; simp [HT.out.w1, HT.out.w2, HX.out.1, HX.out.2.symm, HY.out.w2]
                obtain ⟨l1, l2, e1, e2, -, -, -⟩ := id HT.out
                go_wp2_with fail
                go_meet
                exact ⟨rfl, rfl⟩
              · have HY := Lib.hid hy
                clear hy
                obtain ⟨g1, g2, g3, g4, -, -, -⟩ := id HY.out
                obtain rfl : nb = true := by rw [HNB.out]; unfold Ix.nextB; simp [HT.out.w1, HT.out.w2, HX.out.1, HX.out.2.symm, HY.out.w2]
                obtain ⟨l1, l2, e1, e2, -, -, -⟩ := id HT.out
                go_wp2_with fail
                go_meet
                exact ⟨rfl, rfl⟩
              · have HY := Lib.hid hy
                clear hy
                obtain ⟨g1, g2, g3, g4, -, -, -⟩ := id HY.out
                obtain rfl : nb = false := by rw [HNB.out]; unfold Ix.nextB; simp [HT.out.w1, HT.out.w2, HX.out.1, HX.out.2.symm, HY.out.w2]
                obtain ⟨l1, l2, e1, e2, -, -, -⟩ := id HT.out
                go_wp2_with fail
                go_meet
                exact ⟨rfl, rfl⟩
          · have HT := Lib.hid ht
            clear ht
            by_cases hl : i = 0
            · have k1 : ((i : Int) == 0) = true := by rw [hl]; rfl
              obtain rfl : nb = true := by rw [HNB.out, hl]; unfold Ix.nextB; simp [HT.out.w1, HT.out.w2]
              clear hl
              obtain ⟨l1, l2, e1, e2, -, -, -⟩ := id HT.out
              go_wp2_with fail
              go_meet
              exact ⟨rfl, rfl⟩
            · obtain ⟨z, rfl⟩ : ∃ z, i = z + 1 := ⟨i - 1, by omega⟩
              obtain ⟨r2, hr2⟩ : ∃ q, R[z]? = some q := ⟨R[z]'(by have := H.out.2.2.2.2.2.2.2.2.2; have := HI.out; omega), List.getElem?_eq_getElem (by have := H.out.2.2.2.2.2.2.2.2.2; have := HI.out; omega)⟩
              obtain ⟨b', off', ee, -, p0, -, -⟩ := (H.out.2.2.2.2.2.2.2.1.below HR.out.1.below) z r2 hr2
              injection ee with ee
              injection ee with ee1 ee2
              subst ee1 ee2
              have k1 : (((z + 1 : Nat) : Int) == 0) = false := by
                cases e : (((z + 1 : Nat) : Int) == 0) with
                | false => rfl
                | true => have := eq_of_beq e; omega
              have k2 : IntKind.i64.wrap (((z + 1 : Nat) : Int) - 1) = (z : Int) := by rw [Ix.wrap_in (by omega) (by have := HI.out; omega)]; omega
              have k3 : z < n := by have := HI.out; omega
              obtain ⟨y0, hy0⟩ : ∃ y, y = r2.tag := ⟨_, rfl⟩
              rw [← hy0] at p0
              have HX := Lib.hid (And.intro hr2 hy0)
              clear hr2 hy0 hl
              rcases tri_any y0 t with hy | hy | hy
              · have HY := Lib.hid hy
                clear hy
                obtain ⟨g1, g2, g3, g4, -, -, -⟩ := id HY.out
                obtain rfl : nb = true := by rw [HNB.out]; unfold Ix.nextB; simp [HT.out.w1, HT.out.w2, HX.out.1, HX.out.2.symm, HY.out.w1]
                obtain ⟨l1, l2, e1, e2, -, -, -⟩ := id HT.out
                go_wp2_with fail
                go_meet
                exact ⟨rfl, rfl⟩
              · have HY := Lib.hid hy
                clear hy
                obtain ⟨g1, g2, g3, g4, -, -, -⟩ := id HY.out
                obtain rfl : nb = false := by rw [HNB.out]; unfold Ix.nextB; simp [HT.out.w1, HT.out.w2, HX.out.1, HX.out.2.symm, HY.out.w1]
                obtain ⟨l1, l2, e1, e2, -, -, -⟩ := id HT.out
                go_wp2_with fail
                go_meet
                exact ⟨rfl, rfl⟩
              · have HY := Lib.hid hy
                clear hy
                obtain ⟨g1, g2, g3, g4, -, -, -⟩ := id HY.out
                obtain rfl : nb = false := by rw [HNB.out]; unfold Ix.nextB; simp [HT.out.w1, HT.out.w2, HX.out.1, HX.out.2.symm, HY.out.w1]
                obtain ⟨l1, l2, e1, e2, -, -, -⟩ := id HT.out
                go_wp2_with fail
                go_meet
                exact ⟨rfl, rfl⟩
          · have HT := Lib.hid ht
            clear ht
            obtain rfl : nb = false := by rw [HNB.out]; unfold Ix.nextB; simp [HT.out.w1, HT.out.w2]
            obtain ⟨l1, l2, e1, e2, -, -, -⟩ := id HT.out
            go_wp2_with fail
            go_meet
            exact ⟨rfl, rfl⟩
        case rest =>
          obtain ⟨rfl, rfl⟩ := hcut
          rcases tri_any x0 t with ht | ht | ht
          · have hpk : Ix.pickB R t i ⟨x0, x1, x2⟩ = false := by unfold Ix.pickB; rw [if_pos his]; exact ht.eq
            have HPK := Lib.hid hpk
            obtain ⟨l1, l2, e1, e2, -, -, -⟩ := id ht
            clear ht hpk
            have hpn : Ix.prvN R t (i + 1) = Ix.prvN R t i := by rw [HR.out.2.2.2.2, if_neg (by rw [HPK.out]; decide)]
            have HN := Lib.hid hpn
            clear hpn q1 q2
            go_wp2_with fail
            go_roundw
            case rel => exact ⟨i + 1, a, ca, k, rs, by have := HI.out; omega, HR.out.2.2.1, rfl, by go_num, by rw [HN.out]; exact HR.out.2.1, HR.out.1⟩
            case measure => have := HI.out; simp [intOf]; omega
          · have hpk : Ix.pickB R t i ⟨x0, x1, x2⟩ = false := by unfold Ix.pickB; rw [if_pos his]; exact ht.eq
            have HPK := Lib.hid hpk
            obtain ⟨l1, l2, e1, e2, -, -, -⟩ := id ht
            clear ht hpk
            have hpn : Ix.prvN R t (i + 1) = Ix.prvN R t i := by rw [HR.out.2.2.2.2, if_neg (by rw [HPK.out]; decide)]
            have HN := Lib.hid hpn
            clear hpn q1 q2
            go_wp2_with fail
            go_roundw
            case rel => exact ⟨i + 1, a, ca, k, rs, by have := HI.out; omega, HR.out.2.2.1, rfl, by go_num, by rw [HN.out]; exact HR.out.2.1, HR.out.1⟩
            case measure => have := HI.out; simp [intOf]; omega
          · have hpk : Ix.pickB R t i ⟨x0, x1, x2⟩ = true := by unfold Ix.pickB; rw [if_pos his]; exact ht.eq
            have HPK := Lib.hid hpk
            obtain ⟨l1, l2, e1, e2, -, -, -⟩ := id ht
            clear ht hpk
            have hwl := H.out.2.2.2.1 i HI.out.1
            go_wp2_with fail
            refine (H.out.2.2.1 _ i HI.out.1 _ _ (OwnT.texts HR.out.1.dg.own) (by have := (OwnT.capy HR.out.1.dg.own).1; have := H.out.2.2.2.2.2.2.2.2.1; omega) (OwnT.capy HR.out.1.dg.own).2).mono ?_
            rintro e w5 ⟨wa, wc, rfl, hoW, hb5⟩
            rw [hwl] at hoW ⊢
            have hS5 := HR.out.1.call hb5
            have hfr : FarR w.heap.size (Value.slice a rs.length ca).ownBlock wa wc (Tr.way D i) w5 := ⟨OwnT.mono hoW HR.out.1.below.size, fun g hg e => by
              have h1 := (World.ownsRow.lt hoW g hg).1
              have h2 := (World.ownsRow.lt HR.out.1.own g e).2
              omega⟩
            obtain ⟨e0, e1, e2⟩ : w5.cell? ⟨b, off + i * 3, none⟩ = some (.string x0) ∧ w5.cell? ⟨b, off + i * 3 + 1, none⟩ = some (.int .i64 x1) ∧ w5.cell? ⟨b, off + i * 3 + 2, none⟩ = some (.int .i64 x2) := ⟨(hb5.cell (p := ⟨b, _, none⟩) hbl).trans q0, (hb5.cell (p := ⟨b, _, none⟩) hbl).trans q1, (hb5.cell (p := ⟨b, _, none⟩) hbl).trans q2⟩
            obtain ⟨W0, hW0⟩ : ∃ W0, W0 = Tr.way D i := ⟨_, rfl⟩
            rw [← hW0] at hfr ⊢
            obtain ⟨wl, hwl2⟩ : ∃ wl, wl = W0.length := ⟨_, rfl⟩
            rw [← hwl2]
            obtain ⟨SW, hSW⟩ : ∃ SW : ShW, SW = (⟨(i : Int), ⟨x0, x1, x2⟩, W0⟩, wa, wc) := ⟨_, rfl⟩
            have hfr2 : FarR w.heap.size (Value.slice a rs.length ca).ownBlock SW.2.1 SW.2.2 SW.1.way w5 := by rw [hSW]; exact hfr
            have hcs : shCs SW = #[.int .i64 (i : Int), .string x0, .int .i64 x1, .int .i64 x2, .slice wa wl wc] := by rw [hSW, hwl2]; rfl
            obtain ⟨w6, hw6⟩ : ∃ w6, w6 = w5.alloc (.cells (shCs SW) 133) := ⟨_, rfl⟩
            have hb6 : Below w5.heap.size w5 w6 := by rw [hw6]; exact (Below.refl _ _).alloc (Nat.le_refl _) _
            have hg6 : w6.heap[w5.heap.size]? = some (.cells (shCs SW) 133 (0, 0)) := by rw [hw6]; exact heap_alloc_new _ _
            have hpn : (rs ++ [SW]).map (·.1) = Ix.prvN R t (i + 1) := by
              rw [List.map_append, HR.out.2.1, HR.out.2.2.2.2, if_pos HPK.out, hSW, hW0]; rfl
            rw [hcs] at hw6
            have H6 := Lib.hid (And.intro (hS5.call hb6) (And.intro (hfr2.call hb6) (And.intro hg6 hpn)))
            clear hwl hoW hb5 hS5 hfr hfr2 hcs hb6 hg6 hpn hSW hwl2 hW0 q0 q1 q2
            have hk4 : k < 100000000 := by have := HI.out; omega
            go_wp2_with (at_builtin; (rw [← hw6]; refine wpList_append_r rfl (.tmp 95) (.tmp 103) 37 rfl rshown_rec shCs_one shCs_size H6.out.1.own _ HR.out.2.2.1.symm rfl _ 1 SW rfl H6.out.2.2.1 hk4 H6.out.1.below.size H6.out.1.below ?_; intro g1 cp1 w7 ho hb hgr hat; have HD := Lib.hid (And.intro ho (And.intro hb (And.intro hgr hat))); clear ho hb hgr hat))
            go_roundw
            case rel =>
              refine ⟨i + 1, _, cp1, k + 1, rs ++ [SW], by have := HI.out; omega, by rw [List.length_append, ← HR.out.2.2.1]; rfl, rfl, by go_num, H6.out.2.2.2, ?_⟩
              have h1 := HD.out.2.2
              rw [HR.out.2.2.1] at h1
              exact H6.out.1.add H6.out.2.1 HD.out.1 HD.out.2.1 h1.1 h1.2
            case measure => have := HI.out; simp [intOf]; omega
      · go_wp2_with fail
        refine (H.out.2.2.2.2.1 _ HR.out.1.below).mono ?_
        rintro e w4 ⟨rfl, rfl⟩
        go_upto_region 7 with fail
        obtain ⟨nb, hnb⟩ : ∃ nb, nb = Ix.nextB R t i ⟨x0, x1, x2⟩ := ⟨_, rfl⟩
        have HNB := Lib.hid hnb
        clear hnb
        go_cut [9] (fun v wc => v = .bool nb ∧ wc = w4)
        case first =>
          rcases tri_any x0 t with ht | ht | ht
          · have HT := Lib.hid ht
            clear ht
            by_cases hl : i + 1 = n
            · have hnx : R[i + 1]? = none := by rw [List.getElem?_eq_none]; have := H.out.2.2.2.2.2.2.2.2.2; omega
              have k1 : ((i : Int) == ((n - 1 : Nat) : Int)) = true := by rw [show n - 1 = i by omega]; exact beq_self_eq_true _
              obtain ⟨m1, hm1⟩ : ∃ m1, m1 = n - 1 := ⟨_, rfl⟩
              rw [← hm1] at k1
              have k2 : IntKind.i64.wrap ((n : Int) - 1) = (m1 : Int) := by rw [Ix.wrap_in (by omega) (by omega)]; omega
              have HX := Lib.hid hnx
              clear hnx hl hm1
              obtain rfl : nb = true := by rw [HNB.out]; unfold Ix.nextB; simp [HT.out.w1, HT.out.w2, HX.out]
              obtain ⟨l1, l2, e1, e2, -, -, -⟩ := id HT.out
              go_wp2_with fail
              go_meet
              exact ⟨rfl, rfl⟩
            · obtain ⟨r2, hr2⟩ : ∃ q, R[i + 1]? = some q := ⟨R[i + 1]'(by have := H.out.2.2.2.2.2.2.2.2.2; omega), List.getElem?_eq_getElem (by have := H.out.2.2.2.2.2.2.2.2.2; omega)⟩
              obtain ⟨b', off', ee, -, p0, -, -⟩ := (H.out.2.2.2.2.2.2.2.1.below HR.out.1.below) (i + 1) r2 hr2
              injection ee with ee
              injection ee with ee1 ee2
              subst ee1 ee2
              have k1 : ((i : Int) == ((n - 1 : Nat) : Int)) = false := by
                cases e : ((i : Int) == ((n - 1 : Nat) : Int)) with
                | false => rfl
                | true => have := eq_of_beq e; omega
              obtain ⟨m1, hm1⟩ : ∃ m1, m1 = n - 1 := ⟨_, rfl⟩
              rw [← hm1] at k1
              have k2 : IntKind.i64.wrap ((n : Int) - 1) = (m1 : Int) := by rw [Ix.wrap_in (by omega) (by omega)]; omega
              have k3 : i + 1 < n := by have := HI.out; omega
              obtain ⟨y0, hy0⟩ : ∃ y, y = r2.tag := ⟨_, rfl⟩
              rw [← hy0] at p0
              have HX := Lib.hid (And.intro hr2 hy0)
              clear hr2 hy0 hl hm1
              rcases tri_any y0 t with hy | hy | hy
              · have HY := Lib.hid hy
                clear hy
                obtain ⟨g1, g2, g3, g4, -, -, -⟩ := id HY.out
                obtain rfl : nb = false := by rw [HNB.out]; unfold Ix.nextB; simp [HT.out.w1, HT.out.w2, HX.out.1, HX.out.2.symm, HY.out.w2]
                obtain ⟨l1, l2, e1, e2, -, -, -⟩ := id HT.out
                go_wp2_with fail
                go_meet
                exact ⟨rfl, rfl⟩
              · have HY := Lib.hid hy
                clear hy
                obtain ⟨g1, g2, g3, g4, -, -, -⟩ := id HY.out
                obtain rfl : nb = true := by rw [HNB.out]; unfold Ix.nextB; simp [HT.out.w1, HT.out.w2, HX.out.1, HX.out.2.symm, HY.out.w2]
                obtain ⟨l1, l2, e1, e2, -, -, -⟩ := id HT.out
                go_wp2_with fail
                go_meet
                exact ⟨rfl, rfl⟩
              · have HY := Lib.hid hy
                clear hy
                obtain ⟨g1, g2, g3, g4, -, -, -⟩ := id HY.out
                obtain rfl : nb = false := by rw [HNB.out]; unfold Ix.nextB; simp [HT.out.w1, HT.out.w2, HX.out.1, HX.out.2.symm, HY.out.w2]
                obtain ⟨l1, l2, e1, e2, -, -, -⟩ := id HT.out
                go_wp2_with fail
                go_meet
                exact ⟨rfl, rfl⟩
          · have HT := Lib.hid ht
            clear ht
            by_cases hl : i = 0
            · have k1 : ((i : Int) == 0) = true := by rw [hl]; rfl
              obtain rfl : nb = true := by rw [HNB.out, hl]; unfold Ix.nextB; simp [HT.out.w1, HT.out.w2]
              clear hl
              obtain ⟨l1, l2, e1, e2, -, -, -⟩ := id HT.out
              go_wp2_with fail
              go_meet
              exact ⟨rfl, rfl⟩
            · obtain ⟨z, rfl⟩ : ∃ z, i = z + 1 := ⟨i - 1, by omega⟩
              obtain ⟨r2, hr2⟩ : ∃ q, R[z]? = some q := ⟨R[z]'(by have := H.out.2.2.2.2.2.2.2.2.2; have := HI.out; omega), List.getElem?_eq_getElem (by have := H.out.2.2.2.2.2.2.2.2.2; have := HI.out; omega)⟩
              obtain ⟨b', off', ee, -, p0, -, -⟩ := (H.out.2.2.2.2.2.2.2.1.below HR.out.1.below) z r2 hr2
              injection ee with ee
              injection ee with ee1 ee2
              subst ee1 ee2
              have k1 : (((z + 1 : Nat) : Int) == 0) = false := by
                cases e : (((z + 1 : Nat) : Int) == 0) with
                | false => rfl
                | true => have := eq_of_beq e; omega
              have k2 : IntKind.i64.wrap (((z + 1 : Nat) : Int) - 1) = (z : Int) := by rw [Ix.wrap_in (by omega) (by have := HI.out; omega)]; omega
              have k3 : z < n := by have := HI.out; omega
              obtain ⟨y0, hy0⟩ : ∃ y, y = r2.tag := ⟨_, rfl⟩
              rw [← hy0] at p0
              have HX := Lib.hid (And.intro hr2 hy0)
              clear hr2 hy0 hl
              rcases tri_any y0 t with hy | hy | hy
              · have HY := Lib.hid hy
                clear hy
                obtain ⟨g1, g2, g3, g4, -, -, -⟩ := id HY.out
                obtain rfl : nb = true := by rw [HNB.out]; unfold Ix.nextB; simp [HT.out.w1, HT.out.w2, HX.out.1, HX.out.2.symm, HY.out.w1]
                obtain ⟨l1, l2, e1, e2, -, -, -⟩ := id HT.out
                go_wp2_with fail
                go_meet
                exact ⟨rfl, rfl⟩
              · have HY := Lib.hid hy
                clear hy
                obtain ⟨g1, g2, g3, g4, -, -, -⟩ := id HY.out
                obtain rfl : nb = false := by rw [HNB.out]; unfold Ix.nextB; simp [HT.out.w1, HT.out.w2, HX.out.1, HX.out.2.symm, HY.out.w1]
                obtain ⟨l1, l2, e1, e2, -, -, -⟩ := id HT.out
                go_wp2_with fail
                go_meet
                exact ⟨rfl, rfl⟩
              · have HY := Lib.hid hy
                clear hy
                obtain ⟨g1, g2, g3, g4, -, -, -⟩ := id HY.out
                obtain rfl : nb = false := by rw [HNB.out]; unfold Ix.nextB; simp [HT.out.w1, HT.out.w2, HX.out.1, HX.out.2.symm, HY.out.w1]
                obtain ⟨l1, l2, e1, e2, -, -, -⟩ := id HT.out
                go_wp2_with fail
                go_meet
                exact ⟨rfl, rfl⟩
          · have HT := Lib.hid ht
            clear ht
            obtain rfl : nb = false := by rw [HNB.out]; unfold Ix.nextB; simp [HT.out.w1, HT.out.w2]
            obtain ⟨l1, l2, e1, e2, -, -, -⟩ := id HT.out
            go_wp2_with fail
            go_meet
            exact ⟨rfl, rfl⟩
        case rest =>
          obtain ⟨rfl, rfl⟩ := hcut
          have hpk : Ix.pickB R t i ⟨x0, x1, x2⟩ = nb := by unfold Ix.pickB; rw [if_neg (by rw [his]; decide)]; exact HNB.out.symm
          have HPK := Lib.hid hpk
          clear hpk
          cases nb with
          | true =>
            have hwl := H.out.2.2.2.1 i HI.out.1
            go_wp2_with fail
            refine (H.out.2.2.1 _ i HI.out.1 _ _ (OwnT.texts HR.out.1.dg.own) (by have := (OwnT.capy HR.out.1.dg.own).1; have := H.out.2.2.2.2.2.2.2.2.1; omega) (OwnT.capy HR.out.1.dg.own).2).mono ?_
            rintro e w5 ⟨wa, wc, rfl, hoW, hb5⟩
            rw [hwl] at hoW ⊢
            have hS5 := HR.out.1.call hb5
            have hfr : FarR w.heap.size (Value.slice a rs.length ca).ownBlock wa wc (Tr.way D i) w5 := ⟨OwnT.mono hoW HR.out.1.below.size, fun g hg e => by
              have h1 := (World.ownsRow.lt hoW g hg).1
              have h2 := (World.ownsRow.lt HR.out.1.own g e).2
              omega⟩
            obtain ⟨e0, e1, e2⟩ : w5.cell? ⟨b, off + i * 3, none⟩ = some (.string x0) ∧ w5.cell? ⟨b, off + i * 3 + 1, none⟩ = some (.int .i64 x1) ∧ w5.cell? ⟨b, off + i * 3 + 2, none⟩ = some (.int .i64 x2) := ⟨(hb5.cell (p := ⟨b, _, none⟩) hbl).trans q0, (hb5.cell (p := ⟨b, _, none⟩) hbl).trans q1, (hb5.cell (p := ⟨b, _, none⟩) hbl).trans q2⟩
            obtain ⟨W0, hW0⟩ : ∃ W0, W0 = Tr.way D i := ⟨_, rfl⟩
            rw [← hW0] at hfr ⊢
            obtain ⟨wl, hwl2⟩ : ∃ wl, wl = W0.length := ⟨_, rfl⟩
            rw [← hwl2]
            obtain ⟨SW, hSW⟩ : ∃ SW : ShW, SW = (⟨(i : Int), ⟨x0, x1, x2⟩, W0⟩, wa, wc) := ⟨_, rfl⟩
            have hfr2 : FarR w.heap.size (Value.slice a rs.length ca).ownBlock SW.2.1 SW.2.2 SW.1.way w5 := by rw [hSW]; exact hfr
            have hcs : shCs SW = #[.int .i64 (i : Int), .string x0, .int .i64 x1, .int .i64 x2, .slice wa wl wc] := by rw [hSW, hwl2]; rfl
            obtain ⟨w6, hw6⟩ : ∃ w6, w6 = w5.alloc (.cells (shCs SW) 133) := ⟨_, rfl⟩
            have hb6 : Below w5.heap.size w5 w6 := by rw [hw6]; exact (Below.refl _ _).alloc (Nat.le_refl _) _
            have hg6 : w6.heap[w5.heap.size]? = some (.cells (shCs SW) 133 (0, 0)) := by rw [hw6]; exact heap_alloc_new _ _
            have hpn : (rs ++ [SW]).map (·.1) = Ix.prvN R t (i + 1) := by
              rw [List.map_append, HR.out.2.1, HR.out.2.2.2.2, if_pos HPK.out, hSW, hW0]; rfl
            rw [hcs] at hw6
            have H6 := Lib.hid (And.intro (hS5.call hb6) (And.intro (hfr2.call hb6) (And.intro hg6 hpn)))
            clear hwl hoW hb5 hS5 hfr hfr2 hcs hb6 hg6 hpn hSW hwl2 hW0 q0 q1 q2
            have hk4 : k < 100000000 := by have := HI.out; omega
            go_wp2_with (at_builtin; (rw [← hw6]; refine wpList_append_r rfl (.tmp 95) (.tmp 103) 37 rfl rshown_rec shCs_one shCs_size H6.out.1.own _ HR.out.2.2.1.symm rfl _ 1 SW rfl H6.out.2.2.1 hk4 H6.out.1.below.size H6.out.1.below ?_; intro g1 cp1 w7 ho hb hgr hat; have HD := Lib.hid (And.intro ho (And.intro hb (And.intro hgr hat))); clear ho hb hgr hat))
            go_roundw
            case rel =>
              refine ⟨i + 1, _, cp1, k + 1, rs ++ [SW], by have := HI.out; omega, by rw [List.length_append, ← HR.out.2.2.1]; rfl, rfl, by go_num, H6.out.2.2.2, ?_⟩
              have h1 := HD.out.2.2
              rw [HR.out.2.2.1] at h1
              exact H6.out.1.add H6.out.2.1 HD.out.1 HD.out.2.1 h1.1 h1.2
            case measure => have := HI.out; simp [intOf]; omega
          | false =>
            have hpn : Ix.prvN R t (i + 1) = Ix.prvN R t i := by rw [HR.out.2.2.2.2, if_neg (by rw [HPK.out]; decide)]
            have HN := Lib.hid hpn
            clear hpn q1 q2
            go_wp2_with fail
            go_roundw
            case rel => exact ⟨i + 1, a, ca, k, rs, by have := HI.out; omega, HR.out.2.2.1, rfl, by go_num, by rw [HN.out]; exact HR.out.2.1, HR.out.1⟩
            case measure => have := HI.out; simp [intOf]; omega
    · obtain rfl : n = i := by omega
      have HR := Lib.hid (And.intro hR (And.intro hrs hk))
      have hkl : k = (Ix.prvN R t n).length := by rw [← hrs, List.length_map]; exact hk
      clear hR hrs hk hi hlt hpl
      go_wp2_with fail
      go_ret
      refine ⟨a, ca, by rw [hkl]; rfl, ?_, HR.out.1.below⟩
      rw [← HR.out.2.1]
      exact shAt_own HR.out.1.own (Below.refl _ _) fun r hr => ⟨(OwnT.capy (HR.out.1.ways r hr).own).1, (OwnT.capy (HR.out.1.ways r hr).own).2, OwnT.texts (HR.out.1.ways r hr).own⟩
end Go.Proofs.YtdfkpjmljaanpaaGreatDoor
