/- Merged by program: An item that comes in: it is a tree in memory. | size, Few. | fits, Shape: which items have a shape. | Same, by slices.EqualFunc: which items are the same. -/
import Derived.Test.YtgoimggfpagojaaDoorMC2
import Derived.ProofKit
import Derived.OpenShut
import Derived.Deep.Slices
import Derived.SizedLaws
import Derived.Test.YtgoimggfpagojaaDoorMC1
import Derived.Deep.RegionWith
import Derived.Deep.QuietTactic
import Derived.BigQuiet
namespace Go.Proofs.YtgoimggfpagojaaDoor
open Go.RowKit Go.ChangeShapes Go.WideShapes Go.ChangeAt
open Cn

mutual
/-- No text of an item is longer than what may come in. -/
def It.Small : It → Prop
  | .mk _ _ s _ _ l => s.size ≤ reachBytes ∧ It.SmallAll l
def It.SmallAll : List It → Prop
  | [] => True
  | x :: r => It.Small x ∧ It.SmallAll r
end
set_option maxRecDepth 100000 in
theorem It.small_mem : ∀ {l : List It}, It.SmallAll l → ∀ x ∈ l, x.Small
  | y :: r, h, x, hx => by
    rcases List.mem_cons.1 hx with rfl | hx
    · exact h.1
    · exact It.small_mem h.2 x hx
set_option maxRecDepth 100000 in
theorem It.small_of : ∀ {l : List It}, (∀ x ∈ l, x.Small) → It.SmallAll l
  | [], _ => trivial
  | y :: r, h => ⟨h y (by simp), It.small_of fun x hx => h x (by simp [hx])⟩
set_option maxRecDepth 100000 in
theorem cellsOf24 : Tryd.prog.cellsOf 104 = 4 := by kernel_rfl
set_option maxRecDepth 100000 in
theorem cellsOf3 : Tryd.prog.cellsOf 3 = 1 := by kernel_rfl
set_option maxRecDepth 100000 in
theorem cellsOf9 : Tryd.prog.cellsOf 9 = 1 := by kernel_rfl
set_option maxRecDepth 100000 in
theorem cellsOf22 : Tryd.prog.cellsOf 102 = 1 := by kernel_rfl
set_option maxRecDepth 100000 in
theorem weightsAll_mem {H : Type} (e : TypeId) : ∀ {l : List (DataW H)} {d : DataW H}, d ∈ l → (DataW.weightsAll Tryd.prog e l).all (· ≤ reachBytes) = true → (d.weights Tryd.prog e).all (· ≤ reachBytes) = true
  | y :: r, d, h, hw => by
    rw [DataW.weightsAll, List.all_append, Bool.and_eq_true] at hw
    rcases List.mem_cons.1 h with rfl | h
    · exact hw.1
    · exact weightsAll_mem e h hw.2
section
variable {H : Type} {enc : TypeId × Value → H} {W : World}
set_option maxRecDepth 100000 in
theorem list_of {n : Nat} {Q : Nat → It → Prop} (h : ∀ i, i < n → ∃ x, Q i x) : ∃ l : List It, l.length = n ∧ ∀ i x, l[i]? = some x → Q i x := by
  induction n with
  | zero => exact ⟨[], rfl, fun i x hx => by simp at hx⟩
  | succ n ih =>
    obtain ⟨l, hl, hq⟩ := ih fun i hi => h i (by omega)
    obtain ⟨x, hx⟩ := h n (by omega)
    refine ⟨l ++ [x], by simp [hl], fun i y hy => ?_⟩
    rcases Nat.lt_or_ge i n with hi | hi
    · rw [List.getElem?_append_left (by omega)] at hy
      exact hq i y hy
    · rw [List.getElem?_append_right (by omega)] at hy
      have : i = n := by
        rcases Nat.lt_or_ge (i - l.length) 1 with hh | hh
        · omega
        · rw [List.getElem?_eq_none (by simpa using hh)] at hy; simp at hy
      subst this
      rw [hl, Nat.sub_self] at hy
      simp at hy
      subst hy
      exact hx
set_option maxRecDepth 100000 in
theorem open_item : ∀ (fuel : Nat) (cs : List Value) (d : DataW H) (p : List MemPlace), DataW.trod enc Tryd.prog W 0 (fun _ => true) true fuel 104 cs = some (d, p) → (∀ x ∈ p, x.block < W.heap.size) →
    (d.weights Tryd.prog 104).all (· ≤ reachBytes) = true → ∃ it : It, cs = it.cells.toList ∧ it.In W (fun _ => True) ∧ it.Small := by
  intro fuel
  induction fuel using Nat.strongRecOn with
  | ind fuel ih =>
    intro cs d p h hp hw
    obtain ⟨xs, n, hn, hx, hl, hlen, hf⟩ := DataW.trod_struct Tryd.underlying104 h
    rw [cellsOf24] at hl
    match cs, hl, xs, hlen with
    | [c0, c1, c2, c3], _, [y0, y1, y2, y3], _ =>
      have f0 : DataW.trod enc Tryd.prog W 0 (fun _ => true) true n 3 (([c0, c1, c2, c3].drop 0).take (Tryd.prog.cellsOf 3)) = some y0 := hf 0 _ rfl
      have f1 : DataW.trod enc Tryd.prog W 0 (fun _ => true) true n 3 (([c0, c1, c2, c3].drop 1).take (Tryd.prog.cellsOf 3)) = some y1 := hf 1 _ rfl
      have f2 : DataW.trod enc Tryd.prog W 0 (fun _ => true) true n 9 (([c0, c1, c2, c3].drop 2).take (Tryd.prog.cellsOf 9)) = some y2 := hf 2 _ rfl
      have f3 : DataW.trod enc Tryd.prog W 0 (fun _ => true) true n 102 (([c0, c1, c2, c3].drop 3).take (Tryd.prog.cellsOf 102)) = some y3 := hf 3 _ rfl
      rw [cellsOf3] at f0 f1
      rw [cellsOf9] at f2
      rw [cellsOf22] at f3
      obtain ⟨k, e0, rfl, w0⟩ := DataW.trod_int Tryd.underlying3 f0
      obtain ⟨m, e1, rfl, w1⟩ := DataW.trod_int Tryd.underlying3 f1
      obtain ⟨s, e2, rfl, w2⟩ := DataW.trod_string Tryd.underlying9 f2
      simp at e0 e1 e2
      subst e0 e1 e2
      obtain ⟨d3, p3⟩ := y3
      simp only [List.map_cons, List.map_nil, List.flatMap_cons, List.flatMap_nil, List.nil_append, List.append_nil, Prod.mk.injEq] at hx
      obtain ⟨rfl, rfl⟩ := hx
      rw [DataW.weights, Tryd.underlying104] at hw
      simp only [List.map_cons, List.map_nil, DataW.weightsEach, DataW.weights, List.nil_append, List.append_nil, List.all_append, List.all_cons, List.all_nil, Bool.and_eq_true, decide_eq_true_eq, Bool.and_true] at hw
      obtain ⟨hs, hw3⟩ := hw
      rcases DataW.trod_slice Tryd.underlying102 f3 with ⟨hc, hx3⟩ | ⟨a, len, cap, elems, rest, n', hn', hc, hx3, hb, hlc, hcm, hel, helem, -, -⟩
      · simp at hc
        subst hc
        exact ⟨.mk k m s none 0 [], rfl, ⟨w2, ⟨Nat.zero_le _, fun h => absurd rfl h⟩, trivial⟩, ⟨by simpa using hs, trivial⟩⟩
      · simp at hc
        subst hc
        simp only [Prod.mk.injEq] at hx3
        obtain ⟨rfl, rfl⟩ := hx3
        rw [DataW.weights, Tryd.underlying102] at hw3
        simp only [List.all_cons, List.all_append, Bool.and_eq_true] at hw3
        obtain ⟨-, hw4, -⟩ := hw3
        have hq : ∀ i, i < len → ∃ x : It, W.cells? 0 (a.add (i * 4)) 4 = some x.cells.toList ∧ x.In W (fun _ => True) ∧ x.Small := fun i hi => by
          have h1 := helem i hi
          rw [cellsOf24, List.getElem?_eq_getElem (by omega), Option.bind_eq_some_iff] at h1
          obtain ⟨cs', h2, h3⟩ := h1
          have hmem : elems[i]'(by omega) ∈ elems := List.getElem_mem _
          obtain ⟨it, i1, i2, i3⟩ := ih n' (by omega) cs' (elems[i]'(by omega)).1 (elems[i]'(by omega)).2 h3 (fun x hx => hp x (by
            simp only [List.flatMap_append, List.mem_append, List.mem_flatMap]
            exact .inr (.inl ⟨_, hmem, hx⟩))) (weightsAll_mem _ (List.mem_map_of_mem hmem) hw4)
          exact ⟨it, by rw [h2, i1], i2, i3⟩
        obtain ⟨l, hl1, hl2⟩ := list_of hq
        refine ⟨.mk k m s (some a) cap l, by simp [It.cells, It.k, It.n, It.s, It.a, It.l, It.cap, hl1], ⟨w2, ⟨by omega, fun hne => ?_⟩, It.inAll_of fun x hx => ?_⟩, ⟨by simpa using hs, It.small_of fun x hx => ?_⟩⟩
        · obtain ⟨b, off, spot⟩ := a
          have hpos : 0 < len := by rw [← hl1]; exact List.length_pos_iff.2 hne
          have hcell : ∀ j x, l[j]? = some x → ∀ m, m < 4 → W.cell? ((⟨b, off, spot⟩ : Addr).add (j * 4) |>.add m) = x.cells.toList[m]? := fun j x hx m hm => by
            obtain ⟨-, -, h3⟩ := World.cells?_some (hl2 j x hx).1
            exact h3 m hm
          have hspot : spot = none := by
            have := hcell 0 (l[0]'(by omega)) (List.getElem?_eq_getElem (by omega)) 0 (by decide)
            simpa [Addr.add] using World.cell?_spot (this.trans (show _ = some (.int .i64 (l[0]'(by omega)).k) from rfl))
          subst hspot
          have hadd : ∀ (o x : Nat), (⟨b, o, none⟩ : Addr).add x = ⟨b, o + x, none⟩ := fun o x => by unfold Addr.add; split <;> simp_all
          refine ⟨b, off, rfl, hp (.cell b (off + 0)) ?_, trivial, fun j x hx => ?_⟩
          · rw [cellsOf24]
            simp only [List.mem_append]
            exact .inl (MemPlace.mem_row.2 ⟨0, by omega, rfl⟩)
          · have hc := hcell j x hx
            simp only [hadd] at hc
            exact ⟨hc 0 (by decide), hc 1 (by decide), hc 2 (by decide), hc 3 (by decide)⟩
        · obtain ⟨j, hj, e⟩ := List.mem_iff_getElem.1 hx
          exact (hl2 j x (by rw [List.getElem?_eq_getElem hj, e])).2.1
        · obtain ⟨j, hj, e⟩ := List.mem_iff_getElem.1 hx
          exact (hl2 j x (by rw [List.getElem?_eq_getElem hj, e])).2.2
end
end Go.Proofs.YtgoimggfpagojaaDoor
namespace Go.Proofs.YtgoimggfpagojaaDoor
open Go.RowKit
open Cn

theorem lt_of_heap' {w : World} {g : Nat} {o : Obj} (h : w.heap[g]? = some o) : g < w.heap.size := (Array.getElem?_eq_some_iff.1 h).1
theorem drop_at {l : List It} {i : Nat} {x : It} (h : l[i]? = some x) : It.pureAll (l.drop i) = x.pure :: It.pureAll (l.drop (i + 1)) := by
  obtain ⟨hi, rfl⟩ := List.getElem?_eq_some_iff.1 h
  rw [List.drop_eq_getElem_cons hi, It.pureAll]
end Go.Proofs.YtgoimggfpagojaaDoor
namespace Go.Proofs.YtgoimggfpagojaaDoor
open Go.RowKit
open Cn

/-- Does an item fit a letter? -/
def fitP (x : Pt) (c : Nat) : Bool := match x with
  | .mk k _ s _ => if c = 110 then decide (k = 1) else if c = 108 then decide (k = 3) else if c = 100 then decide (s.size = 32) && decide (k = 2) else if c = 116 then decide (k = 2) else false
def fitAll : List Pt → List UInt8 → Bool
  | [], [] => true
  | x :: r, c :: t => fitP x c.toNat && fitAll r t
  | _, _ => false
def shapeP (x : Pt) (t : List UInt8) : Bool := match x with
  | .mk k _ _ l => decide (k = 3) && fitAll l t
theorem fitAll_len : ∀ {l : List Pt} {t : List UInt8}, l.length ≠ t.length → fitAll l t = false
  | [], [], h => absurd rfl h
  | [], _ :: _, _ => rfl
  | _ :: _, [], _ => rfl
  | x :: r, c :: t, h => by rw [fitAll, fitAll_len (by simpa using h)]; simp
set_option maxRecDepth 100000 in
set_option maxHeartbeats 400000 in
theorem fits_any (x : It) (c : Nat) (w : World) : Calls Tryd.prog 108 #[x.val, .int .u8 c] w fun e w' => e = .returned (.bool (fitP x.pure c)) ∧ Below w.heap.size w w' := by
  obtain ⟨k, n, s, a, cap, l⟩ := x
  simp only [It.val, It.cells, It.k, It.n, It.s, It.a, It.cap, It.l]
  have hB : ∀ o, Below w.heap.size w (w.alloc o) := fun o => (Below.refl _ _).alloc (Nat.le_refl _) o
  obtain ⟨M, hM⟩ : ∃ M, M = fitP (It.mk k n s a cap l).pure c := ⟨_, rfl⟩
  rw [← hM]
  have hMe : M = (if c = 110 then decide (k = 1) else if c = 108 then decide (k = 3) else if c = 100 then decide (s.size = 32) && decide (k = 2) else if c = 116 then decide (k = 2) else false) := hM
  clear hM
  have beqd : ∀ x : Int, (k == x) = decide (k = x) := fun x => rfl
  by_cases q1 : c = 110
  · subst q1
    have HM := Lib.hid (show M = decide (k = 1) by rw [hMe, if_pos rfl])
    have HD := Lib.hid beqd
    clear hMe beqd
    go_enter Tryd.func108, Tryd.ntmps108
    go_wp2_with fail
    go_ret
    exact ⟨ret_bool (by rw [HM.out]; rfl), hB _⟩
  · have q1' : ((c : Int) == 110) = false := by simp; omega
    by_cases q2 : c = 108
    · subst q2
      have HM := Lib.hid (show M = decide (k = 3) by rw [hMe, if_neg q1, if_pos rfl])
      clear hMe beqd q1
      go_enter Tryd.func108, Tryd.ntmps108
      go_wp2_with fail
      go_ret
      exact ⟨ret_bool (by rw [HM.out]; rfl), hB _⟩
    · have q2' : ((c : Int) == 108) = false := by simp; omega
      by_cases q3 : c = 100
      · subst q3
        by_cases q4 : s.size = 32
        · have q4' : ((s.size : Int) == 32) = true := by simp; omega
          have HM := Lib.hid (show M = decide (k = 2) by rw [hMe, if_neg q1, if_neg q2, if_pos rfl, decide_eq_true q4, Bool.true_and])
          clear hMe beqd q1 q2 q4
          go_enter Tryd.func108, Tryd.ntmps108
          go_wp2_with fail
          go_ret
          exact ⟨ret_bool (by rw [HM.out]; rfl), hB _⟩
        · have q4' : ((s.size : Int) == 32) = false := by simp; omega
          have HM := Lib.hid (show M = false by rw [hMe, if_neg q1, if_neg q2, if_pos rfl, decide_eq_false q4, Bool.false_and])
          clear hMe beqd q1 q2 q4
          go_enter Tryd.func108, Tryd.ntmps108
          go_wp2_with fail
          go_ret
          exact ⟨ret_bool HM.out.symm, hB _⟩
      · have q3' : ((c : Int) == 100) = false := by simp; omega
        by_cases q5 : c = 116
        · subst q5
          have HM := Lib.hid (show M = decide (k = 2) by rw [hMe, if_neg q1, if_neg q2, if_neg q3, if_pos rfl])
          clear hMe beqd q1 q2 q3
          go_enter Tryd.func108, Tryd.ntmps108
          go_wp2_with fail
          go_ret
          exact ⟨ret_bool (by rw [HM.out]; rfl), hB _⟩
        · have q5' : ((c : Int) == 116) = false := by simp; omega
          have HM := Lib.hid (show M = false by rw [hMe, if_neg q1, if_neg q2, if_neg q3, if_neg q5])
          clear hMe beqd q1 q2 q3 q5
          go_enter Tryd.func108, Tryd.ntmps108
          go_wp2_with fail
          go_ret
          exact ⟨ret_bool HM.out.symm, hB _⟩
theorem drop_text {t : ByteArray} {i : Nat} (h : i < t.size) : t.data.toList.drop i = t[i] :: t.data.toList.drop (i + 1) := by
  rw [List.drop_eq_getElem_cons (by simpa using h)]; rfl
set_option maxRecDepth 100000 in
set_option maxHeartbeats 400000 in
theorem shape_any (S : Nat → Prop) (x : It) (t : ByteArray) (w : World) (hin : x.In w S) :
    Calls Tryd.prog 78 #[x.val, .string t] w fun e w' => e = .returned (.bool (shapeP x.pure t.data.toList)) ∧ Below w.heap.size w w' := by
  obtain ⟨k, n, s, a, cap, l⟩ := x
  simp only [It.val, It.cells, It.k, It.n, It.s, It.a, It.cap, It.l]
  have hB : ∀ o, Below w.heap.size w (w.alloc o) := fun o => (Below.refl _ _).alloc (Nat.le_refl _) o
  obtain ⟨M, hM⟩ : ∃ M, M = shapeP (It.mk k n s a cap l).pure t.data.toList := ⟨_, rfl⟩
  rw [← hM]
  have hMe : M = (decide (k = 3) && fitAll (It.pureAll l) t.data.toList) := hM
  clear hM
  obtain ⟨N, hN⟩ : ∃ N, N = l.length := ⟨_, rfl⟩
  have hNm : N ≤ 9223372036854775807 := by have := hin.2.1.1; unfold maxLen at this; omega
  have htl : t.data.toList.length = t.size := by simp
  rw [← hN]
  by_cases hg : k = 3 ∧ N = t.size
  · obtain ⟨rfl, hNt⟩ := hg
    have hnt : ((N : Int) == t.size) = true := by simp; omega
    have HM := Lib.hid (show M = fitAll (It.pureAll l) t.data.toList by rw [hMe]; simp)
    have HI := Lib.hid (And.intro hin (And.intro hN hNt))
    clear hMe hin hN hNt htl
    go_enter Tryd.func78, Tryd.ntmps78
    go_wp2_with fail
    have hb1 := hB (.cells #[.int .i64 3, .int .i64 n, .string s, .slice a N cap] 104)
    generalize World.alloc w _ = w1 at *
    go_loopw [21] (fun c wr => ∃ i : Nat, i ≤ N ∧ c = .int .i64 i ∧ Below w.heap.size w wr ∧ M = fitAll (It.pureAll (l.drop i)) (t.data.toList.drop i)) (fun c _ => N - (intOf c).toNat)
    case atStart => exact ⟨0, by omega, rfl, hb1, HM.out⟩
    case round =>
      clear hb1
      obtain ⟨i, hi, rfl, hb, hMi⟩ := hrel
      have HR := Lib.hid (And.intro hb hMi)
      clear hb hMi
      by_cases hlt : i < N
      · have hin := It.In.kept (keptS_any HR.out.1) _ HI.out.1
        obtain ⟨b, o, x, ha, hbl, -, hx, hmem, c0, c1, c2, c3⟩ := hin.2.1.at (show i < l.length by have := HI.out.2.1; omega)
        have ha' : a = some ⟨b, o, none⟩ := ha
        subst ha'
        clear ha
        have hti : i < t.size := by have := HI.out.2.2; omega
        have hfit := fits_any x (t[i]).toNat
        have hnext := HR.out.2
        rw [drop_at hx, drop_text hti, fitAll] at hnext
        obtain ⟨z, hz⟩ : ∃ z, z = fitP x.pure (t[i]).toNat := ⟨_, rfl⟩
        rw [← hz] at hnext hfit
        have HX := Lib.hid (And.intro hfit hnext)
        clear hx hmem hin hfit hnext hz
        obtain ⟨xk, xn, xs, xa, xc, xl⟩ := x
        simp only [It.val, It.cells, It.k, It.n, It.s, It.a, It.cap, It.l] at HX c0 c1 c2 c3
        have hi0 : (0 : Int) ≤ (i : Int) := by omega
        have hiT : (i : Int) < t.size := by omega
        go_wp2_with fail
        go_region_with (go_at_call 108; refine (HX.out.1 _).mono ?_; rintro e w4 ⟨rfl, hb4⟩; have HB4 := Lib.hid hb4; clear hb4)
        all_goals
          have hb4 : Below w.heap.size w w4 := by
            have h1 := (HR.out.1.alloc HR.out.1.size (.cells #[.int .i64 xk, .int .i64 xn, .string xs, .slice xa xl.length xc] 104)).drew
            exact h1.trans (HB4.out.mono h1.size)
          have HB5 := Lib.hid hb4
          clear hb4 HB4
          obtain ⟨z', hz'⟩ : ∃ z', z' = z := ⟨_, rfl⟩
          have HM5 := Lib.hid HX.out.2
          clear HX c0 c1 c2 c3 HR
          cases z with
          | true =>
            go_wp2_with fail
            go_roundw
            case rel =>
              have hne : ((N : Int) != t.size) = false := by have := HI.out.2.2; simp; omega
              rw [hne]
              exact ⟨_, _, _, _, _, _, _, _, _, _, _, _, _, _, _, ⟨i + 1, by omega, by go_num, HB5.out, by rw [HM5.out]; rfl⟩, rfl⟩
            case measure => simp [intOf]; omega
          | false =>
            go_wp2_with fail
            go_ret
            exact ⟨ret_bool (by rw [HM5.out]; rfl), HB5.out⟩
      · obtain rfl : i = N := by omega
        have hMt : M = true := by
          have h1 : l.drop i = [] := List.drop_eq_nil_of_le (by have := HI.out.2.1; omega)
          have h2 : t.data.toList.drop i = [] := List.drop_eq_nil_of_le (by have := HI.out.2.2; simp; omega)
          rw [HR.out.2, h1, h2]; rfl
        have HM2 := Lib.hid hMt
        clear hMt
        go_wp2_with fail
        go_ret
        exact ⟨ret_bool HM2.out.symm, HR.out.1⟩
  · have hMf : M = false := by
      rw [hMe]
      by_cases h1 : k = 3
      · rw [fitAll_len (by rw [It.pureAll_length, ← hN, htl]; exact fun h => hg ⟨h1, h⟩), Bool.and_false]
      · rw [decide_eq_false h1, Bool.false_and]
    have HM := Lib.hid hMf
    clear hMf hMe hin hN htl
    by_cases h1 : k = 3
    · subst h1
      have hnt : ((N : Int) == t.size) = false := by simp; intro h; exact hg ⟨rfl, by omega⟩
      clear hg
      go_enter Tryd.func78, Tryd.ntmps78
      go_wp2_with fail
      go_ret
      exact ⟨ret_bool HM.out.symm, hB _⟩
    · have hk3 : (k == 3) = false := by simpa using h1
      clear hg
      go_enter Tryd.func78, Tryd.ntmps78
      go_wp2_with fail
      go_ret
      exact ⟨ret_bool HM.out.symm, hB _⟩
end Go.Proofs.YtgoimggfpagojaaDoor
namespace Go.Proofs.YtgoimggfpagojaaDoor
open Go.RowKit
open Cn

mutual
def sameP : Pt → Pt → Bool
  | .mk k n s l, .mk k' n' s' l' => decide (k = k') && decide (n = n') && decide (s.toList = s'.toList) && sameAll l l'
def sameAll : List Pt → List Pt → Bool
  | [], [] => true
  | [], _ :: _ => false
  | _ :: _, [] => false
  | x :: r, y :: m => sameP x y && sameAll r m
end
mutual
theorem sameP_refl : ∀ x, sameP x x = true
  | .mk k n s l => by simp [sameP, sameAll_refl l]
theorem sameAll_refl : ∀ l, sameAll l l = true
  | [] => rfl
  | x :: r => by simp [sameAll, sameP_refl x, sameAll_refl r]
end
theorem sameAll_len : ∀ {l m : List Pt}, l.length ≠ m.length → sameAll l m = false
  | [], [], h => absurd rfl h
  | [], _ :: _, _ => rfl
  | _ :: _, [], _ => rfl
  | x :: r, y :: m, h => by rw [sameAll, sameAll_len (by simpa using h)]; simp
end Go.Proofs.YtgoimggfpagojaaDoor
