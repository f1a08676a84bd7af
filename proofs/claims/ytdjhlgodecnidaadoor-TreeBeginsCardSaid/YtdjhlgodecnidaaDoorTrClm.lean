/- An argument that is a Climb; lockboxlaw13.few; tree.Stands; the texts of a way. -/
import Derived.Test.YtdjhlgodecnidaaDoorTrTextsM
import Derived.Test.YtdjhlgodecnidaaDoorTrCl2
import Derived.Deep.Slices
namespace Go.Proofs.YtdjhlgodecnidaaDoor
open Go.RowKit Go.ChangeShapes Go.WideShapes Go.ChangeAt
open Tr

/-- A way as an argument: two numbers, a digest, texts in memory. -/
structure Clm where
  n : Int
  i : Int
  d : ByteArray
  a : Option Addr
  ws : List ByteArray
  cap : Nat
def Clm.cs (x : Clm) : Array Value := #[.int .i64 x.n, .int .i64 x.i, .string x.d, .slice x.a x.ws.length x.cap]
structure Clm.Ok (x : Clm) (w : World) : Prop where
  texts : TextsAt w x.a x.ws
  len : x.ws.length ≤ x.cap
  cap : x.cap ≤ maxLen
theorem Clm.Ok.below {x : Clm} {w w' : World} (h : x.Ok w) (hb : Below w.heap.size w w') : x.Ok w' := ⟨h.texts.below hb, h.len, h.cap⟩
/-- The texts of a slice that came in, with its capacity. -/
theorem texts_ofm {W : World} {a0 : Option Addr} {len cap : Nat} {H : Type} {enc : TypeId × Value → H} {d : DataW H} {p : List MemPlace} {fuel : Nat}
    (hf : DataW.trod enc Tryd.prog W 0 (fun _ => true) true fuel 22 [.slice a0 len cap] = some (d, p)) (hlt : ∀ x ∈ p, x.block < W.heap.size) :
    ∃ ss : List ByteArray, ss.length = len ∧ len ≤ cap ∧ cap ≤ maxLen ∧ TextsAt W a0 ss := by
  obtain ⟨ss, h1, h2, h3⟩ := texts_of hf hlt
  rcases Go.ChangeShapes.open_strings Tryd.underlying22 Tryd.underlying9 cellsStr hf with ⟨hcs, hx⟩ | ⟨a, len', cap', ss', hcs, _, hl, hm, hz, hx, hcell, hws⟩
  · simp at hcs
    obtain ⟨rfl, rfl, rfl⟩ := hcs
    exact ⟨ss, h1, by decide, by decide, h3⟩
  · simp at hcs
    obtain ⟨rfl, rfl, rfl⟩ := hcs
    exact ⟨ss, h1, hl, hm, h3⟩
theorem cellsClm : Tryd.prog.cellsOf 47 = 4 := by kernel_rfl
theorem cellsIntM : Tryd.prog.cellsOf 3 = 1 := by kernel_rfl
theorem cellsStrsM : Tryd.prog.cellsOf 22 = 1 := by kernel_rfl
set_option maxRecDepth 100000 in
theorem open_clm {H : Type} {enc : TypeId × Value → H} {W : World} {fuel : Nat} {cs : List Value} {d : DataW H} {p : List MemPlace}
    (h : DataW.trod enc Tryd.prog W 0 (fun _ => true) true fuel 47 cs = some (d, p)) (hlt : ∀ x ∈ p, x.block < W.heap.size) : ∃ a : Clm, cs = a.cs.toList ∧ a.Ok W := by
  obtain ⟨xs, m, hm, hx, hl, hlen, hf⟩ := DataW.trod_struct Tryd.underlying47 h
  rw [cellsClm] at hl
  match cs, hl, xs, hlen with
  | [c0, c1, c2, c3], _, [y0, y1, y2, y3], _ =>
    have f0 : DataW.trod enc Tryd.prog W 0 (fun _ => true) true m 3 (([c0, c1, c2, c3].drop 0).take (Tryd.prog.cellsOf 3)) = some y0 := hf 0 _ rfl
    have f1 : DataW.trod enc Tryd.prog W 0 (fun _ => true) true m 3 (([c0, c1, c2, c3].drop 1).take (Tryd.prog.cellsOf 3)) = some y1 := hf 1 _ rfl
    have f2 : DataW.trod enc Tryd.prog W 0 (fun _ => true) true m 9 (([c0, c1, c2, c3].drop 2).take (Tryd.prog.cellsOf 9)) = some y2 := hf 2 _ rfl
    have f3 : DataW.trod enc Tryd.prog W 0 (fun _ => true) true m 22 (([c0, c1, c2, c3].drop 3).take (Tryd.prog.cellsOf 22)) = some y3 := hf 3 _ rfl
    rw [cellsIntM] at f0 f1
    rw [cellsStr] at f2
    rw [cellsStrsM] at f3
    obtain ⟨n0, e0, -, w0⟩ := DataW.trod_int Tryd.underlying3 (x := y0) f0
    obtain ⟨n1, e1, -, w1⟩ := DataW.trod_int Tryd.underlying3 (x := y1) f1
    obtain ⟨n2, e2, rfl, w2⟩ := DataW.trod_string Tryd.underlying9 (x := y2) f2
    obtain ⟨d3, p3⟩ := y3
    simp only [List.map_cons, List.map_nil, List.flatMap_cons, List.flatMap_nil, List.nil_append, List.append_nil, Prod.mk.injEq] at hx
    have hp3 : ∀ x ∈ p3, x.block < W.heap.size := fun x hx3 => hlt x (by rw [hx.2]; simp [hx3])
    have f3' : DataW.trod enc Tryd.prog W 0 (fun _ => true) true m 22 [c3] = some (d3, p3) := f3
    have hc3 : ∃ a3 len3 cap3, c3 = .slice a3 len3 cap3 := by
      rcases DataW.trod_slice Tryd.underlying22 f3' with ⟨h0, -⟩ | ⟨a, len, cap, elems, rest, n, _, h0, -⟩
      · simp at h0; exact ⟨none, 0, 0, h0⟩
      · simp at h0; exact ⟨_, _, _, h0⟩
    obtain ⟨a3, len3, cap3, rfl⟩ := hc3
    obtain ⟨ss, h1, h2, h3, h4⟩ := texts_ofm f3' hp3
    subst h1
    simp at e0 e1 e2
    subst e0 e1 e2
    exact ⟨⟨n0, n1, n2, a3, ss, cap3⟩, rfl, h4, h2, h3⟩
set_option maxRecDepth 100000 in
set_option maxHeartbeats 1000000 in
theorem fewC_any (x : Clm) (w : World) (hx : x.Ok w) :
    Calls Tryd.prog 33 #[.agg x.cs] w fun e w' => e = .returned (.bool (decide (x.d.size ≤ 100) && fewB x.ws 30 100)) ∧ Below w.heap.size w w' := by
  obtain ⟨N, I, d, a, ws, cap⟩ := x
  have hm : ws.length ≤ maxLen := Nat.le_trans hx.len hx.cap
  have cf := fun W (h : Below w.heap.size w W) => few_any ws a cap 30 100 W (hx.texts.below h) hm
  unfold Clm.cs
  simp only
  obtain ⟨n, hn⟩ : ∃ n, n = ws.length := ⟨_, rfl⟩
  rw [← hn] at cf ⊢
  obtain ⟨B, hB⟩ : ∃ B, B = fewB ws 30 100 := ⟨_, rfl⟩
  rw [← hB] at cf ⊢
  have H := Lib.hid cf
  clear cf hB hn hm hx
  by_cases hd : d.size ≤ 100
  · rw [decide_eq_true hd, Bool.true_and]
    go_enter Tryd.func33, Tryd.ntmps33
    obtain ⟨w1, hw1⟩ : ∃ w1, w1 = w.alloc (.cells #[.int .i64 N, .int .i64 I, .string d, .slice a n cap] 47) := ⟨_, rfl⟩
    have HB := Lib.hid (show Below w.heap.size w w1 from by rw [hw1]; exact (Below.refl _ _).alloc (Nat.le_refl _) _)
    go_wp2_with fail
    refine (H.out _ (by rw [← hw1]; exact HB.out)).mono ?_
    rintro e w0 ⟨rfl, rfl⟩
    go_wp2_with fail
    go_ret
    exact ⟨rfl, by rw [← hw1]; exact HB.out⟩
  · rw [decide_eq_false hd, Bool.false_and]
    go_enter Tryd.func33, Tryd.ntmps33
    go_wp2_with fail
    go_ret
    exact ⟨rfl, (Below.refl _ _).alloc (Nat.le_refl _) _⟩
/-- Does a digest stand at a place? -/
def standsB (r : ByteArray) (n i : Nat) (d : ByteArray) (ws : List ByteArray) : Bool := decide ((climbA n i d ws).2.2 = 0) && decide ((climbA n i d ws).1 = r)
set_option maxRecDepth 100000 in
set_option maxHeartbeats 2000000 in
theorem stands_any (r : ByteArray) (n i : Nat) (hn1 : 1 ≤ n) (hn2 : n ≤ 4096) (hi : i < n) (d : ByteArray) (hd : d.size ≤ 100000) (ws : List ByteArray) (hws : ws.length ≤ 1000000) (b0 : Option Addr) (cap : Nat) (hcap : ws.length ≤ cap) (hmax : cap ≤ maxLen) (w : World) (hG : Glob w) (hT : TextsAt w b0 ws) :
    Calls Tryd.prog 32 #[.string r, .int .i64 n, .int .i64 i, .string d, .slice b0 ws.length cap] w fun e w' => e = .returned (.bool (standsB r n i d ws)) ∧ Below w.heap.size w w' := by
  have cl := bigClimb_any n i hn1 hn2 hi d hd ws hws b0 cap hcap hmax w hG hT
  unfold standsB
  obtain ⟨Z, hZ⟩ : ∃ Z, Z = climbA n i d ws := ⟨_, rfl⟩
  rw [← hZ] at cl ⊢
  obtain ⟨R, T, E⟩ := Z
  simp only at cl ⊢
  have hRr : (R.toList == r.toList) = decide (R = r) := twin_beq R r
  obtain ⟨B, hB⟩ : ∃ B, B = decide (R = r) := ⟨_, rfl⟩
  rw [← hB] at hRr ⊢
  obtain ⟨m, hm⟩ : ∃ m, m = ws.length := ⟨_, rfl⟩
  rw [← hm] at cl ⊢
  have H := Lib.hid cl
  clear cl hZ hB hm hT hG hws hcap hmax hd hn1 hn2 hi
  by_cases hE : E = 0
  · subst hE
    rw [decide_eq_true rfl, Bool.true_and]
    go_enter Tryd.func32, Tryd.ntmps32
    go_wp2_with fail
    refine H.out.mono ?_
    rintro e w1 ⟨a, c, rfl, -, hb⟩
    have HB := Lib.hid hb
    clear hb
    go_wp2_with fail
    go_ret
    exact ⟨rfl, HB.out⟩
  · rw [decide_eq_false hE, Bool.false_and]
    have hE2 : (E == 0) = false := by simp [hE]
    have HE := Lib.hid hE
    clear hE
    go_enter Tryd.func32, Tryd.ntmps32
    go_wp2_with fail
    refine H.out.mono ?_
    rintro e w1 ⟨a, c, rfl, -, hb⟩
    have HB := Lib.hid hb
    clear hb
    go_wp2_with fail
    go_ret
    exact ⟨rfl, HB.out⟩
/-- The texts of a way have 65 bytes. -/
theorem climb_texts : ∀ (last at' : Nat) (d : ByteArray) (w : List ByteArray) (x : ByteArray × List ByteArray × List ByteArray), d.size = 32 → Digs w → climb at' last d w = some x → ∀ t ∈ x.2.1, t.size = 65 := by
  intro last
  induction last using Nat.strongRecOn with
  | ind last ih =>
    intro a d w x hd hw hc
    by_cases h0 : last = 0
    · subst h0
      rw [climb_zero] at hc
      by_cases hwn : w = []
      · rw [if_pos hwn] at hc
        injection hc with hc
        subst hc
        intro t ht; cases ht
      · rw [if_neg hwn] at hc; cases hc
    · rw [climb_step _ _ h0] at hc
      by_cases hal : a = last ∧ a % 2 = 0
      · rw [if_pos hal] at hc; exact ih _ (by omega) _ _ _ _ hd hw hc
      · rw [if_neg hal] at hc
        cases w with
        | nil => cases hc
        | cons y r =>
          simp only at hc
          have hy : y.size = 32 := hw y (by simp)
          have hr : Digs r := fun z hz => hw z (List.mem_cons_of_mem _ hz)
          by_cases hev : a % 2 = 0
          · rw [if_pos hev] at hc
            cases hcc : climb (a / 2) (last / 2) (node d y) r with
            | none => rw [hcc] at hc; cases hc
            | some z =>
              rw [hcc] at hc
              simp only [Option.map_some, Option.some.injEq] at hc
              subst hc
              have := ih _ (by omega) _ _ _ _ (sumE_size _) hr hcc
              intro t ht
              rcases List.mem_cons.1 ht with rfl | ht
              · rw [nodeT_size, hd, hy]
              · exact this t ht
          · rw [if_neg hev] at hc
            cases hcc : climb (a / 2) (last / 2) (node y d) r with
            | none => rw [hcc] at hc; cases hc
            | some z =>
              rw [hcc] at hc
              simp only [Option.map_some, Option.some.injEq] at hc
              subst hc
              have := ih _ (by omega) _ _ _ _ (sumE_size _) hr hcc
              intro t ht
              rcases List.mem_cons.1 ht with rfl | ht
              · rw [nodeT_size, hd, hy]
              · exact this t ht
theorem mem_txts {ss : List ByteArray} {x : ByteArray} (h : x ∈ sumT (ss.map leaf)) : x ∈ txts ss := by
  unfold txts
  exact List.mem_append.2 (Or.inr h)
/-- What stands at a place by a way that leads to the root, is what stands there, or there is a twin. -/
theorem binds_plain {ss : List ByteArray} {k : Nat} (hk : k < ss.length) {d : ByteArray} {ws : List ByteArray} {R : ByteArray} {T : List ByteArray} {E : Int} (hZ : climbA ss.length k d ws = (R, T, E)) (hE : E = 0) (hR : R = root (ss.map leaf)) (hne : d ≠ (ss.map leaf).getD k ByteArray.empty) :
    TwinIn (txts ss ++ T) ∧ T.length ≤ ws.length ∧ ∀ t ∈ T, t.size = 65 := by
  unfold climbA at hZ
  by_cases hc : d.size = 32 ∧ badB ws = false
  · rw [if_pos hc] at hZ
    have hDg := badB_false.1 hc.2
    cases hcl : climb k (ss.length - 1) d ws with
    | none => rw [hcl] at hZ; simp only [clE, Prod.mk.injEq] at hZ; omega
    | some x =>
      obtain ⟨x1, xT, xL⟩ := x
      rw [hcl] at hZ
      simp only [clE, Prod.mk.injEq] at hZ
      obtain ⟨rfl, rfl, -⟩ := hZ
      have h1 := climb_len _ _ _ _ _ hcl
      have h2 := climb_texts _ _ _ _ _ hc.1 hDg hcl
      rw [hR] at hcl
      have hl : (ss.map leaf).length = ss.length := List.length_map ..
      rcases climb_binds _ (ss.map leaf) k d ws xT xL (by omega) (by omega) (digs_leaves ss) hc.1 hDg hcl with ⟨j, -⟩ | j
      · exact absurd j hne
      · refine ⟨j.sub fun x hx => ?_, Nat.le_of_eq h1.1, h2⟩
        rcases List.mem_append.1 hx with hx | hx
        · exact List.mem_append.2 (Or.inr hx)
        · exact List.mem_append.2 (Or.inl (mem_txts hx))
  · rw [if_neg hc] at hZ
    simp only [Prod.mk.injEq] at hZ
    omega
theorem size_append {X T : List ByteArray} {m : Nat} (h1 : ∀ i, i < X.length → (gt X i).size ≤ m) (h2 : ∀ t ∈ T, t.size ≤ m) (j : Nat) (hj : j < (X ++ T).length) : (gt (X ++ T) j).size ≤ m := by
  have e : gt (X ++ T) j = (X ++ T)[j] := by unfold gt; rw [List.getD_eq_getElem?_getD, List.getElem?_eq_getElem hj]; rfl
  rw [e]
  rcases List.mem_append.1 (List.getElem_mem hj) with h | h
  · obtain ⟨i, hi, e2⟩ := List.mem_iff_getElem.1 h
    have := h1 i hi
    unfold gt at this
    rw [List.getD_eq_getElem?_getD, List.getElem?_eq_getElem hi] at this
    rw [← e2]; exact this
  · exact h2 _ h
end Go.Proofs.YtdjhlgodecnidaaDoor
