/- MX4, what is wanted of it. -/
import Derived.Test.YtdfkpjmljaanpaaGreatDoorZMX1
import Derived.Test.YtdfkpjmljaanpaaGreatDoorZItF
import Derived.Test.YtdfkpjmljaanpaaGreatDoorZMX3
import Derived.Test.YtdfkpjmljaanpaaGreatDoorZCRefWrite
import Derived.Test.YtdfkpjmljaanpaaGreatDoorZMT2
import Derived.Laws.StructEq
import Derived.BigQuiet
import Derived.Deep.QuietTactic
namespace Go.Proofs.YtdfkpjmljaanpaaGreatDoor
open Go.RowKit
open Cn
/-- A row's cells. -/
def rwCs (r : Rw) : Array Value := #[.string r.tag, .int .i64 r.cnt, .int .i64 r.last]
theorem rwCs_size (r : Rw) : (rwCs r).size = 3 := rfl
theorem rwCs_one (r : Rw) : ∀ u ∈ (rwCs r).toList, u.oneCell' = true := fun u hu => by
  unfold rwCs at hu
  simp only [List.mem_cons, List.not_mem_nil, or_false] at hu
  rcases hu with rfl | rfl | rfl <;> rfl
theorem rrow_rec : RecT 47 26 3 32 (.agg #[.string ⟨#[]⟩, .int .i64 0, .int .i64 0]) := ⟨Tryz.underlying26, by kernel_rfl, rfl, by decide⟩
/-- The rows of a slice: where they lie. -/
def RwAt (w : World) (a0 : Option Addr) (l : List Rw) : Prop :=
  ∀ j r, l[j]? = some r → ∃ b off, a0 = some ⟨b, off, none⟩ ∧ b < w.heap.size ∧ w.cell? ⟨b, off + j * 3, none⟩ = some (.string r.tag) ∧ w.cell? ⟨b, off + j * 3 + 1, none⟩ = some (.int .i64 r.cnt) ∧ w.cell? ⟨b, off + j * 3 + 2, none⟩ = some (.int .i64 r.last)
theorem RwAt.below {w w' : World} {a0 : Option Addr} {l : List Rw} (h : RwAt w a0 l) (hb : Below w.heap.size w w') : RwAt w' a0 l := fun j r hj => by
  obtain ⟨b, off, rfl, hbl, h1, h2, h3⟩ := h j r hj
  exact ⟨b, off, rfl, Nat.lt_of_lt_of_le hbl hb.size, by rw [hb.cell (p := ⟨b, _, none⟩) hbl]; exact h1, by rw [hb.cell (p := ⟨b, _, none⟩) hbl]; exact h2, by rw [hb.cell (p := ⟨b, _, none⟩) hbl]; exact h3⟩
theorem RwAt.nil (w : World) (a0 : Option Addr) : RwAt w a0 [] := fun j r hj => by simp at hj
theorem rwAt_own {T : TypeId} {B : Nat} {w : World} {a : Option Addr} {cap : Nat} {l : List Rw} (h : OwnR T 3 rwCs B w a cap l) : RwAt w a l := fun j r hj => by
  obtain ⟨g, rfl, -, hl, hc⟩ := h.at rwCs_size hj
  refine ⟨g, 0, rfl, hl, ?_, ?_, ?_⟩
  · have := hc 0 (by decide)
    simpa [rwCs] using this
  · have := hc 1 (by decide)
    simpa [rwCs] using this
  · have := hc 2 (by decide)
    simpa [rwCs] using this
theorem RwAt.cells {w : World} {b off : Nat} {l : List Rw} (h : RwAt w (some ⟨b, off, none⟩) l) {j : Nat} {r : Rw} (hj : l[j]? = some r) : w.cell? ⟨b, off + j * 3, none⟩ = some (.string r.tag) ∧ w.cell? ⟨b, off + j * 3 + 1, none⟩ = some (.int .i64 r.cnt) ∧ w.cell? ⟨b, off + j * 3 + 2, none⟩ = some (.int .i64 r.last) := by
  obtain ⟨b', off', e, -, h1, h2, h3⟩ := h j r hj
  injection e with e
  injection e with e1 e2
  subst e1 e2
  exact ⟨h1, h2, h3⟩
theorem row3 {W : World} {g : Nat} {r : Rw} {t : TypeId} (e : W.heap[g]? = some (.cells (rwCs r) t (0, 0))) : W.cell? ⟨g, 0, none⟩ = some (.string r.tag) ∧ W.cell? ⟨g, 1, none⟩ = some (.int .i64 r.cnt) ∧ W.cell? ⟨g, 2, none⟩ = some (.int .i64 r.last) := by
  refine ⟨?_, ?_, ?_⟩ <;> (rw [cell_of_row _ _ _ _ _ _ e]; rfl)
set_option maxRecDepth 100000 in
set_option maxHeartbeats 1000000 in
theorem rtext18_any (r : Rw) (h : Ix.rwOk r) (w : World) : Calls Tryz.prog 134 #[.agg (rwCs r)] w fun e w' => e = .returned (.string (Ix.rwS r)) ∧ Below w.heap.size w w' := by
  obtain ⟨w1, hw1⟩ : ∃ w1, w1 = w.alloc (.cells (rwCs r) 47) := ⟨_, rfl⟩
  have hb1 : Below w.heap.size w w1 := by rw [hw1]; exact (Below.refl _ _).alloc (Nat.le_refl _) _
  have hg1 : w1.heap[w.heap.size]? = some (.cells (rwCs r) 47 (0, 0)) := by rw [hw1]; exact heap_alloc_new _ _
  obtain ⟨c0, c1, c2⟩ := row3 hg1
  obtain ⟨D, hD⟩ : ∃ D, D = Ix.rwS r := ⟨_, rfl⟩
  rw [← hD]
  obtain ⟨w2, hw2⟩ : ∃ w2, w2 = w1.alloc (.cells ([Fl.T r.tag, Fl.N r.cnt, Fl.N r.last].flatMap Fl.C).toArray 191) := ⟨_, rfl⟩
  have hb2 : Below w1.heap.size w1 w2 := by rw [hw2]; exact (Below.refl _ _).alloc (Nat.le_refl _) _
  have hg2 : w2.heap[w1.heap.size]? = some (.cells ([Fl.T r.tag, Fl.N r.cnt, Fl.N r.last].flatMap Fl.C).toArray 191 (0, 0)) := by rw [hw2]; exact heap_alloc_new _ _
  have hwr : Calls Tryz.prog 150 #[.agg #[.int .i64 3, .int .i64 0, .string ⟨#[]⟩, .slice (some ⟨w1.heap.size, 0, none⟩) 3 3]] w2 fun e w' => e = .returned (.string D) ∧ Below w2.heap.size w2 w' := by
    have hin : It.In w2 (fun _ => True) (.mk 3 0 ⟨#[]⟩ (some ⟨w1.heap.size, 0, none⟩) 3 [Fl.T r.tag, Fl.N r.cnt, Fl.N r.last]) := ⟨Nat.zero_le _, Fl.lies _ hg2 trivial (by intro x hx; simp at hx; rcases hx with rfl | rfl | rfl <;> rfl) (by simp), Fl.inT (by have := h.1; unfold maxLen; omega), Fl.inN r.cnt, Fl.inN r.last, trivial⟩
    have h := rwrite_any _ _ (Nat.le_refl _) (fun _ => True) 6 w2 hin (Ix.rwT_may h) (Nat.le_trans (Ix.rwT_len h) (by decide))
    have hT : (⟨(Cn.bytes (It.mk 3 0 ⟨#[]⟩ (some ⟨w1.heap.size, 0, none⟩) 3 [Fl.T r.tag, Fl.N r.cnt, Fl.N r.last]).pure).toArray⟩ : ByteArray) = D := by rw [hD]; rfl
    rw [hT] at h
    exact h
  simp only [List.flatMap_cons, List.flatMap_nil, Fl.C, Fl.N, Fl.T, It.k, It.n, It.s, List.cons_append, List.nil_append] at hw2
  have HM := Lib.hid (And.intro hwr (hb1.trans (hb2.mono hb1.size)))
  clear hwr hb1 hb2 hg1 hg2 hD h
  obtain ⟨t, k, l⟩ := r
  unfold rwCs at hw1 ⊢
  simp only at hw1 hw2 c0 c1 c2 ⊢
  go_enter Tryz.func134, Tryz.ntmps134
  go_upto_region 1 with fail
  rw [← hw1]
  clear hw1
  go_wp2_with fail
  rw [← hw2]
  clear hw2
  refine HM.out.1.mono ?_
  rintro e w3 ⟨rfl, hb3⟩
  have H3 := Lib.hid (HM.out.2.trans (hb3.mono HM.out.2.size))
  clear hb3
  go_wp2_with fail
  go_ret
  exact ⟨rfl, H3.out⟩
end Go.Proofs.YtdfkpjmljaanpaaGreatDoor
namespace Go.Proofs.YtdfkpjmljaanpaaGreatDoor
open Go.RowKit
open Cn
theorem plc_drop {rs : List Rw} {i : Nat} {r : Rw} (h : rs[i]? = some r) (t : ByteArray) : Ix.plc (rs.drop i) t i = if r.tag = t then (i : Int) else Ix.plc (rs.drop (i + 1)) t (i + 1) := by
  obtain ⟨hi, rfl⟩ := List.getElem?_eq_some_iff.1 h
  rw [List.drop_eq_getElem_cons hi, Ix.plc]
set_option maxRecDepth 100000 in
set_option maxHeartbeats 1000000 in
theorem rfind18_any (rs : List Rw) (a0 : Option Addr) (cap : Nat) (t : ByteArray) (w : World) (hT : RwAt w a0 rs) (hm : rs.length ≤ 1000000) :
    Calls Tryz.prog 21 #[.slice a0 rs.length cap, .string t] w fun e w' => e = .returned (.int .i64 (Ix.plc rs t 0)) ∧ w' = w := by
  obtain ⟨n, hn⟩ : ∃ n, n = rs.length := ⟨_, rfl⟩
  obtain ⟨M, hM⟩ : ∃ M, M = Ix.plc rs t 0 := ⟨_, rfl⟩
  rw [← hn] at hm ⊢
  rw [← hM]
  have H := Lib.hid (And.intro hT (And.intro hn hM))
  clear hT hn hM
  go_enter Tryz.func21, Tryz.ntmps21
  go_wp2_with fail
  go_loopw [5] (fun c wr => ∃ i : Nat, i ≤ n ∧ c = .int .i64 i ∧ M = Ix.plc (rs.drop i) t i ∧ wr = w) (fun c _ => n - (intOf c).toNat)
  case atStart => exact ⟨0, by omega, rfl, H.out.2.2, rfl⟩
  case round =>
    obtain ⟨i, hi, rfl, hMi, rfl⟩ := hrel
    by_cases hlt : i < n
    · obtain ⟨r, hr⟩ : ∃ r, rs[i]? = some r := ⟨rs[i]'(by rw [← H.out.2.1]; exact hlt), List.getElem?_eq_getElem (by rw [← H.out.2.1]; exact hlt)⟩
      obtain ⟨b, off, ha, hb, c0, -, -⟩ := H.out.1 i r hr
      rw [plc_drop hr t] at hMi
      subst ha
      obtain ⟨T, hTe⟩ : ∃ T, T = r.tag := ⟨_, rfl⟩
      rw [← hTe] at c0 hMi
      cases he : (T.toList == t.toList) with
      | true =>
        have e : T = t := Wd.toList_eq (by simpa using he)
        rw [if_pos e] at hMi
        have HM := Lib.hid hMi
        clear hMi hr hTe e
        go_wp2_with fail
        go_ret
        exact ⟨by rw [HM.out]; rfl, rfl⟩
      | false =>
        have e : T ≠ t := fun e => by rw [e] at he; simp at he
        rw [if_neg e] at hMi
        have HM := Lib.hid hMi
        clear hMi hr hTe e
        go_wp2_with fail
        go_roundw
        case rel => exact ⟨i + 1, by omega, by go_num, HM.out, trivial⟩
        case measure => simp [intOf]; omega
    · have hd : rs.drop i = [] := List.drop_eq_nil_of_le (by rw [← H.out.2.1]; omega)
      rw [hd] at hMi
      have HM := Lib.hid (show M = -1 from hMi)
      clear hMi hd
      go_wp2_with fail
      go_ret
      exact ⟨by rw [HM.out]; rfl, rfl⟩
set_option maxRecDepth 100000 in
set_option maxHeartbeats 1000000 in
theorem rleaves18_any (rs : List Rw) (a0 : Option Addr) (cap : Nat) (w : World) (hT : RwAt w a0 rs) (hm : rs.length ≤ 100000) (hok : ∀ r ∈ rs, Ix.rwOk r) :
    Calls Tryz.prog 67 #[.slice a0 rs.length cap] w fun e w' => ∃ a c, e = .returned (.slice a rs.length c) ∧ OwnT w.heap.size w' a c (rs.map Ix.rwS) ∧ Below w.heap.size w w' := by
  obtain ⟨n, hn⟩ : ∃ n, n = rs.length := ⟨_, rfl⟩
  have HT := Lib.hid (And.intro hT (And.intro hn hok))
  rw [← hn] at hm ⊢
  clear hT hn hok
  go_enter Tryz.func67, Tryz.ntmps67
  go_wp2_with fail
  go_loopw [3, 4] (fun v c wr => ∃ (i : Nat) (a : Option Addr) (cp : Nat), i ≤ n ∧ v = .slice a i cp ∧ c = .int .i64 i ∧ OwnT w.heap.size wr a cp ((rs.take i).map Ix.rwS) ∧ Below w.heap.size w wr) (fun _ c _ => n - (intOf c).toNat)
  case atStart => exact ⟨0, none, 0, by omega, rfl, rfl, OwnT.nil _ _, Below.refl _ _⟩
  case round =>
    obtain ⟨i, a, cp, hi, rfl, rfl, hO, hb⟩ := hrel
    by_cases hlt : i < n
    · obtain ⟨r, hr⟩ : ∃ r, rs[i]? = some r := ⟨rs[i]'(by have := HT.out.2.1; omega), List.getElem?_eq_getElem (by have := HT.out.2.1; omega)⟩
      obtain ⟨b, off, rfl, hbl, hc0, hc1, hc2⟩ := (HT.out.1.below hb) i r hr
      have hnx : (rs.take (i + 1)).map Ix.rwS = (rs.take i).map Ix.rwS ++ [Ix.rwS r] := by
        rw [List.take_add_one, hr, List.map_append]; rfl
      have hln : ((rs.take i).map Ix.rwS).length = i := by rw [List.length_map, List.length_take]; have := HT.out.2.1; omega
      have hrl := fun W => rtext18_any r (HT.out.2.2 r (List.mem_of_getElem? hr)) W
      obtain ⟨D, hD⟩ : ∃ D, D = Ix.rwS r := ⟨_, rfl⟩
      rw [← hD] at hrl hnx
      clear hD
      obtain ⟨x, y, z⟩ := r
      unfold rwCs at hrl
      simp only at hrl hc0 hc1 hc2
      have H := Lib.hid (And.intro hO (And.intro hb (And.intro hnx (And.intro hln hrl))))
      clear hO hb hnx hln hrl hr hbl
      go_wp2_with fail
      refine (H.out.2.2.2.2 _).mono ?_
      rintro e w3 ⟨rfl, hb3⟩
      have F3 := H.out.2.1.trans (hb3.mono H.out.2.1.size)
      have HC := Lib.hid (And.intro (OwnT.alloc (OwnT.call H.out.1 hb3) (.cells #[.string D] 9)) (F3.alloc F3.size (.cells #[.string D] 9)))
      clear hb3 F3 hc0 hc1 hc2
      go_wp2_with (at_builtin; (refine wpList_append_texts rfl (.tmp 11) (.tmp 17) rfl HC.out.1 _ H.out.2.2.2.1 rfl _ _ 1 [D] rfl rfl (texts_one w3 D) (by omega) HC.out.2.size HC.out.2 ?_; intro ad cp w4 ho hb; have HD := Lib.hid (And.intro ho hb); clear ho hb))
      go_roundw
      case rel => exact ⟨i + 1, ad, cp, by omega, rfl, by go_num, by rw [H.out.2.2.1]; exact HD.out.1, HD.out.2⟩
      case measure => simp [intOf]; omega
    · obtain rfl : i = n := by omega
      have H := Lib.hid (And.intro hO hb)
      clear hO hb
      go_wp2_with fail
      go_ret
      refine ⟨a, cp, rfl, ?_, H.out.2⟩
      have := H.out.1
      rwa [List.take_of_length_le (by have := HT.out.2.1; omega)] at this
end Go.Proofs.YtdfkpjmljaanpaaGreatDoor
namespace Go.Proofs.YtdfkpjmljaanpaaGreatDoor
open Go.RowKit
open Cn
theorem rbelow_call {a w w' : World} {B : Nat} (h : Below B a w) (hb : Below w.heap.size w w') (hB : B ≤ w.heap.size) : Below B a w' := h.trans (hb.mono hB)
/-- The same rows? -/
def eqRw (x y : Rw) : Bool := x.tag.toList == y.tag.toList && x.cnt == y.cnt && x.last == y.last
theorem eqRw_iff {x y : Rw} : eqRw x y = true ↔ x = y := by
  unfold eqRw
  simp only [Bool.and_eq_true, beq_iff_eq]
  constructor
  · rintro ⟨⟨h1, h2⟩, h3⟩
    obtain ⟨a, b, c⟩ := x
    obtain ⟨d, e, f⟩ := y
    simp only at h1 h2 h3
    rw [Wd.toList_eq h1, h2, h3]
  · rintro rfl
    exact ⟨⟨rfl, rfl⟩, rfl⟩
theorem equalRw (x y : Rw) (w : World) : (Op.equalIn 10000 47 (.agg #[.string x.tag, .int .i64 x.cnt, .int .i64 x.last]) (.agg #[.string y.tag, .int .i64 y.cnt, .int .i64 y.last])).run Tryz.prog w = .ok (eqRw x y) w := by
  have us0 := Tryz.underlying9
  have as0 := Tryz.isAgg9
  have zs0 := Tryz.sizeOf9
  have u3 := Tryz.underlying3
  have a3 := Tryz.isAgg3
  have z3 := Tryz.sizeOf3
  have hS : Tryz.prog.underlying 47 = some (.struct (Tryz.prog.fieldsOf 47)) := by kernel_rfl
  have hp : Tryz.prog.stoodInHeld 47 = false := by kernel_rfl
  rw [show (10000 : Nat) = 9999 + 1 from rfl, run_equalIn_agg w 9999 47 _ _ hS hp]
  simp only [Program.fieldsOf, Tryz.underlying47]
  go_simp
  unfold eqRw
  cases h1 : x.tag.toList == y.tag.toList <;> cases h2 : x.cnt == y.cnt <;> cases h3 : x.last == y.last <;> simp_all
def eqB : List Rw → List Rw → Bool
  | [], [] => true
  | x :: a, y :: b => eqRw x y && eqB a b
  | _, _ => false
theorem eqB_iff : ∀ {a b : List Rw}, eqB a b = true ↔ a = b
  | [], [] => by simp [eqB]
  | [], _ :: _ => by simp [eqB]
  | _ :: _, [] => by simp [eqB]
  | x :: a, y :: b => by rw [eqB, Bool.and_eq_true, eqRw_iff, eqB_iff, List.cons.injEq]
theorem eqB_drop {a b : List Rw} {i : Nat} {x y : Rw} (hx : a[i]? = some x) (hy : b[i]? = some y) : eqB (a.drop i) (b.drop i) = (eqRw x y && eqB (a.drop (i + 1)) (b.drop (i + 1))) := by
  obtain ⟨h1, rfl⟩ := List.getElem?_eq_some_iff.1 hx
  obtain ⟨h2, rfl⟩ := List.getElem?_eq_some_iff.1 hy
  rw [List.drop_eq_getElem_cons h1, List.drop_eq_getElem_cons h2, eqB]
theorem eqB_len {a b : List Rw} (h : a.length ≠ b.length) : eqB a b = false := by
  cases e : eqB a b with
  | false => rfl
  | true => exact absurd (congrArg List.length (eqB_iff.1 e)) h
set_option maxRecDepth 100000 in
set_option maxHeartbeats 1000000 in
theorem rsame18_any (xs ys : List Rw) (a0 b0 : Option Addr) (c d : Nat) (w : World) (hT : RwAt w a0 xs) (hU : RwAt w b0 ys) (hm : xs.length ≤ 1000000) :
    Calls Tryz.prog 26 #[.slice a0 xs.length c, .slice b0 ys.length d] w fun e w' => e = .returned (.bool (eqB xs ys)) ∧ Below w.heap.size w w' := by
  obtain ⟨n, hn⟩ : ∃ n, n = xs.length := ⟨_, rfl⟩
  obtain ⟨m, hM⟩ : ∃ m, m = ys.length := ⟨_, rfl⟩
  obtain ⟨E, hE⟩ : ∃ E, E = eqB xs ys := ⟨_, rfl⟩
  rw [← hn] at hm ⊢
  rw [← hM, ← hE]
  by_cases hnm : n = m
  · subst hnm
    have H := Lib.hid (And.intro hT (And.intro hU (And.intro hn (And.intro hM hE))))
    clear hT hU hn hM hE
    go_enter Tryz.func26, Tryz.ntmps26
    go_wp2_with fail
    go_loopw [5] (fun k wr => ∃ i : Nat, i ≤ n ∧ k = .int .i64 i ∧ E = eqB (xs.drop i) (ys.drop i) ∧ Below w.heap.size w wr) (fun k _ => n - (intOf k).toNat)
    case atStart => exact ⟨0, by omega, rfl, H.out.2.2.2.2, Below.refl _ _⟩
    case round =>
      obtain ⟨i, hi, rfl, hMi, hb⟩ := hrel
      by_cases hlt : i < n
      · obtain ⟨x, hx⟩ : ∃ x, xs[i]? = some x := ⟨xs[i]'(by rw [← H.out.2.2.1]; exact hlt), List.getElem?_eq_getElem (by rw [← H.out.2.2.1]; exact hlt)⟩
        obtain ⟨y, hy⟩ : ∃ y, ys[i]? = some y := ⟨ys[i]'(by rw [← H.out.2.2.2.1]; exact hlt), List.getElem?_eq_getElem (by rw [← H.out.2.2.2.1]; exact hlt)⟩
        obtain ⟨p, o, ha, hbl, c0, c1, c2⟩ := (H.out.1.below hb) i x hx
        obtain ⟨p', o', ha', hbl', d0, d1, d2⟩ := (H.out.2.1.below hb) i y hy
        subst ha ha'
        rw [eqB_drop hx hy] at hMi
        have he := fun W => equalRw x y W
        obtain ⟨Q, hQ⟩ : ∃ Q, Q = eqRw x y := ⟨_, rfl⟩
        rw [← hQ] at he hMi
        obtain ⟨x0, x1, x2⟩ := x
        obtain ⟨y0, y1, y2⟩ := y
        simp only at he c0 c1 c2 d0 d1 d2
        have HM := Lib.hid (And.intro hMi hb)
        clear hMi hx hy hQ hb hbl hbl'
        cases Q with
        | true =>
          go_wp2_with fail
          go_quiet (fail)
          have HB := Lib.hid (below_drewN HM.out.2 nq)
          generalize wr.drewN nq = w2 at *
          go_wp2_with fail
          go_roundw
          case rel => exact ⟨i + 1, by omega, by go_num, HM.out.1, HB.out⟩
          case measure => simp [intOf]; omega
        | false =>
          go_wp2_with fail
          go_quiet (fail)
          have HB := Lib.hid (below_drewN HM.out.2 nq)
          generalize wr.drewN nq = w2 at *
          go_wp2_with fail
          go_ret
          exact ⟨by rw [HM.out.1]; rfl, HB.out⟩
      · have hd : xs.drop i = [] := List.drop_eq_nil_of_le (by rw [← H.out.2.2.1]; omega)
        have hd2 : ys.drop i = [] := List.drop_eq_nil_of_le (by rw [← H.out.2.2.2.1]; omega)
        rw [hd, hd2] at hMi
        have HM := Lib.hid (And.intro (show E = true from hMi) hb)
        clear hMi hd hd2 hb
        go_wp2_with fail
        go_ret
        exact ⟨by rw [HM.out.1]; rfl, HM.out.2⟩
  · have e2 : ((n : Int) != (m : Int)) = true := by simp; omega
    have HM := Lib.hid (hE.trans (eqB_len (by rw [← hn, ← hM]; exact hnm)))
    clear hE hnm hn hM hT hU
    go_enter Tryz.func26, Tryz.ntmps26
    go_wp2_with fail
    go_ret
    exact ⟨by rw [HM.out]; rfl, Below.refl _ _⟩
end Go.Proofs.YtdfkpjmljaanpaaGreatDoor
