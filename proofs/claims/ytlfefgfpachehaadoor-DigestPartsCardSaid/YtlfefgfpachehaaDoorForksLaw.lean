/- PROVED HERE: for every three texts the law DigestForks returns true (runs that go on from one run, each for itself, have the digests of their own texts, and their sizes), and they read afterwards as they did. Its conditions: the two package-level tables hold what their initialisers lay (tied to the program's text by the card). -/
import Derived.Test.YtlfefgfpachehaaDoorLaid
import Derived.Test.YtlfefgfpachehaaDoorAwake
import Derived.Test.YtlfefgfpachehaaDoorRefSum
namespace Go.Proofs.YtlfefgfpachehaaDoor
open Go.RowKit

theorem ld34_hide' (p : Value) : Instr.loadAt 34 p = ldRow 34 p := rfl
attribute [local go_sem ↓] ld34_hide'
attribute [local go_sem] ld34_eq

/-- Size. -/
theorem size_any (c0 : Array Value) (l : List UInt8) (h0 : RunOf c0 l) (w : World) :
    Calls Tryd.prog 18 #[.agg c0] w fun e w' => e = .returned (.int .i64 l.length) ∧ Below w.heap.size w w' := by
  have c72 : c0[72]? = some (.int .i64 l.length) := by obtain ⟨_, _, hb, _⟩ := h0; exact hb.2.2.2
  have hz := h0.size
  have hoc := h0.oneCell
  go_enter Tryd.func18, Tryd.ntmps18
  go_wp2
  rw [Array.getElem?_eq_getElem (by omega)] at c72
  have e72 : c0[72] = .int .i64 l.length := Option.some.inj c72
  go_ret
  exact ⟨congrArg Ending.returned e72, (Below.refl _ _).alloc (Nat.le_refl _) _⟩

/-- Blocks of Runs that are kept. -/
def Kept (w0 W : World) (L : List (Nat × Array Value)) : Prop := Below w0.heap.size w0 W ∧ Glob W ∧ ∀ p ∈ L, rowOf W p.1 = p.2 ∧ p.2.size = 73 ∧ w0.heap.size ≤ p.1
theorem Kept.first {w : World} (hG : Glob w) : Kept w (w.alloc (.cells zero73 34)) [(w.heap.size, zero73)] :=
  ⟨(Below.refl _ _).alloc (Nat.le_refl _) _, hG.alloc _, fun p hp => by
    obtain rfl := List.mem_singleton.1 hp
    exact ⟨rowOf_eq (heap_alloc_new _ _), zero73_size, Nat.le_refl _⟩⟩
theorem Kept.call {w0 W W' : World} {L : List (Nat × Array Value)} (h : Kept w0 W L) (hb : Below W.heap.size W W') : Kept w0 W' L :=
  ⟨h.1.trans (hb.mono h.1.size), h.2.1.below hb, fun p hp => ⟨rowAfter2 (h.2.2 p hp).1 (h.2.2 p hp).2.1 hb, (h.2.2 p hp).2⟩⟩
theorem Kept.lay {w0 W : World} {L : List (Nat × Array Value)} {c : Array Value} {l : List UInt8} (h : Kept w0 W L) (hc : RunOf c l) :
    Kept w0 ((W.alloc (.cells zero73 34)).setRow W.heap.size c) ((W.heap.size, c) :: L) := by
  have hb : Below W.heap.size W ((W.alloc (.cells zero73 34)).setRow W.heap.size c) := below_setRow ((Below.refl _ _).alloc (Nat.le_refl _) _) _ _ (Nat.le_refl _)
  have h' := h.call hb
  refine ⟨h'.1, h'.2.1, fun p hp => ?_⟩
  rcases List.mem_cons.1 hp with rfl | hp
  · exact ⟨rowOf_eq (setRow_heap _ _ _ _ _ _ (heap_alloc_new _ _)), hc.size, h.1.size⟩
  · exact h'.2.2 p hp

theorem data_append (a b : ByteArray) : (a ++ b).data.toList = a.data.toList ++ b.data.toList := by simp
theorem Kept.row {w0 W : World} {L : List (Nat × Array Value)} (h : Kept w0 W L) (g : Nat) (c : Array Value) (hp : (g, c) ∈ L) : rowOf W g = c := (h.2.2 _ hp).1
set_option maxRecDepth 100000 in
set_option maxHeartbeats 800000 in
theorem forks_law (s t u : ByteArray) (w : World) (hG : Glob w) :
    Calls Tryd.prog 6 #[.string s, .string t, .string u] w fun e w' => e = .returned (.bool true) ∧ Below w.heap.size w w' := by
  by_cases hbig : s.size ≤ 500 ∧ t.size ≤ 500 ∧ u.size ≤ 500
  · obtain ⟨hs, ht, hu⟩ := hbig
    have hz34 := z34
    obtain ⟨D1, hD1⟩ : ∃ D, D = str (sha s.data.toList) := ⟨_, rfl⟩
    obtain ⟨D2, hD2⟩ : ∃ D, D = str (sha (s.data.toList ++ t.data.toList)) := ⟨_, rfl⟩
    obtain ⟨D3, hD3⟩ : ∃ D, D = str (sha (s.data.toList ++ u.data.toList)) := ⟨_, rfl⟩
    obtain ⟨D4, hD4⟩ : ∃ D, D = str (sha (s.data.toList ++ t.data.toList ++ u.data.toList)) := ⟨_, rfl⟩
    obtain ⟨D5, hD5⟩ : ∃ D, D = str (sha []) := ⟨_, rfl⟩
    have HD := Lib.hid (And.intro hD1 (And.intro hD2 (And.intro hD3 (And.intro hD4 hD5))))
    clear hD1 hD2 hD3 hD4 hD5
    go_enter Tryd.func6, Tryd.ntmps6
    go_wp2_with fail
    have K1 : Kept w (w.alloc (.cells zero73 34)) [(w.heap.size, zero73)] := Kept.first hG
    generalize World.alloc w _ = w1 at *
    have r := K1.row w.heap.size zero73 (by simp)
    have z0 := zero73_size
    go_simp
    go_wp2_with fail
    refine (with_any _ _ begin_run s (by simp; omega) _ K1.2.1).mono ?_
    rintro e w2 ⟨c1, rfl, hr0, hb⟩
    have hr1 : RunOf c1 (s.data.toList) := by simpa using hr0
    clear r hr0
    have K := K1.call hb
    have z1 := hr1.size
    go_wp2_with (first
      | (refine wpList_store_row rfl 34 _ _ rfl w2.heap.size rfl 34 zero73 c1 rfl (heap_alloc_new _ _) (by rw [z1]; kernel_rfl) (by rw [z0, z1]) hr1.oneCell ?_))
    have K2 := K.lay hr1
    generalize World.setRow _ _ _ = w3 at *
    clear hb K z1 K1
    have r := K2.row w2.heap.size c1 (by simp)
    have z := hr1.size
    go_simp
    go_wp2_with fail
    clear z
    refine (with_any _ _ hr1 t (by simp; omega) _ K2.2.1).mono ?_
    rintro e w4 ⟨c2, rfl, hr0, hb⟩
    have hr2 : RunOf c2 (s.data.toList ++ t.data.toList) := by simpa using hr0
    clear r hr0
    have K := K2.call hb
    have z1 := hr2.size
    go_wp2_with (first
      | (refine wpList_store_row rfl 34 _ _ rfl w4.heap.size rfl 34 zero73 c2 rfl (heap_alloc_new _ _) (by rw [z1]; kernel_rfl) (by rw [z0, z1]) hr2.oneCell ?_))
    have K3 := K.lay hr2
    generalize World.setRow _ _ _ = w5 at *
    clear hb K z1 K2
    have r := K3.row w2.heap.size c1 (by simp)
    have z := hr1.size
    go_simp
    go_wp2_with fail
    clear z
    refine (with_any _ _ hr1 u (by simp; omega) _ K3.2.1).mono ?_
    rintro e w6 ⟨c3, rfl, hr0, hb⟩
    have hr3 : RunOf c3 (s.data.toList ++ u.data.toList) := by simpa using hr0
    clear r hr0
    have K := K3.call hb
    have z1 := hr3.size
    go_wp2_with (first
      | (refine wpList_store_row rfl 34 _ _ rfl w6.heap.size rfl 34 zero73 c3 rfl (heap_alloc_new _ _) (by rw [z1]; kernel_rfl) (by rw [z0, z1]) hr3.oneCell ?_))
    have K4 := K.lay hr3
    generalize World.setRow _ _ _ = w7 at *
    clear hb K z1 K3
    have r := K4.row w4.heap.size c2 (by simp)
    have z := hr2.size
    go_simp
    go_wp2_with fail
    clear z
    refine (with_any _ _ hr2 u (by simp; omega) _ K4.2.1).mono ?_
    rintro e w8 ⟨c4, rfl, hr0, hb⟩
    have hr4 : RunOf c4 (s.data.toList ++ t.data.toList ++ u.data.toList) := by simpa using hr0
    clear r hr0
    have K := K4.call hb
    have z1 := hr4.size
    go_wp2_with (first
      | (refine wpList_store_row rfl 34 _ _ rfl w8.heap.size rfl 34 zero73 c4 rfl (heap_alloc_new _ _) (by rw [z1]; kernel_rfl) (by rw [z0, z1]) hr4.oneCell ?_))
    have K5 := K.lay hr4
    generalize World.setRow _ _ _ = w9 at *
    clear hb K z1 K4
    go_simp
    go_wp2_with fail
    refine (awake_any _ K5.2.1).mono ?_
    rintro e v1 ⟨rfl, hb⟩
    have L1 := K5.call hb
    clear hb K5
    have r := L1.row w2.heap.size c1 (by simp)
    have z := hr1.size
    go_wp2_with fail
    clear r z
    refine (rsum_any _ _ hr1 (by simp; omega) _ L1.2.1).mono ?_
    rintro e v2 ⟨rfl, hb⟩
    have L2 := L1.call hb
    clear hb L1
    rw [← HD.out.1]
    go_wp2_with fail
    refine (rsumref_any s (by omega) _).mono ?_
    rintro e v3 ⟨rfl, hb⟩
    have L3 := L2.call hb
    clear hb L2
    rw [← HD.out.1]
    have r := L3.row w4.heap.size c2 (by simp)
    have z := hr2.size
    go_wp2_with fail
    clear r z
    refine (rsum_any _ _ hr2 (by simp; omega) _ L3.2.1).mono ?_
    rintro e v4 ⟨rfl, hb⟩
    have L4 := L3.call hb
    clear hb L3
    rw [← HD.out.2.1]
    go_wp2_with fail
    refine (rsumref_any (s ++ t) (by simp; omega) _).mono ?_
    rintro e v5 ⟨rfl, hb⟩
    have L5 := L4.call hb
    clear hb L4
    rw [data_append, ← HD.out.2.1]
    have r := L5.row w6.heap.size c3 (by simp)
    have z := hr3.size
    go_wp2_with fail
    clear r z
    refine (rsum_any _ _ hr3 (by simp; omega) _ L5.2.1).mono ?_
    rintro e v6 ⟨rfl, hb⟩
    have L6 := L5.call hb
    clear hb L5
    rw [← HD.out.2.2.1]
    go_wp2_with fail
    refine (rsumref_any (s ++ u) (by simp; omega) _).mono ?_
    rintro e v7 ⟨rfl, hb⟩
    have L7 := L6.call hb
    clear hb L6
    rw [data_append, ← HD.out.2.2.1]
    have r := L7.row w8.heap.size c4 (by simp)
    have z := hr4.size
    go_wp2_with fail
    clear r z
    refine (rsum_any _ _ hr4 (by simp; omega) _ L7.2.1).mono ?_
    rintro e v8 ⟨rfl, hb⟩
    have L8 := L7.call hb
    clear hb L7
    rw [← HD.out.2.2.2.1]
    go_wp2_with fail
    refine (rsumref_any (s ++ t ++ u) (by simp; omega) _).mono ?_
    rintro e v9 ⟨rfl, hb⟩
    have L9 := L8.call hb
    clear hb L8
    rw [data_append, data_append, ← HD.out.2.2.2.1]
    have r := L9.row w.heap.size zero73 (by simp)
    have z := zero73_size
    go_wp2_with fail
    clear r z
    refine (rsum_any _ _ begin_run (by simp) _ L9.2.1).mono ?_
    rintro e v10 ⟨rfl, hb⟩
    have L10 := L9.call hb
    clear hb L9
    rw [← HD.out.2.2.2.2]
    go_wp2_with fail
    refine (begin_any _).mono ?_
    rintro e v11 ⟨rfl, hb⟩
    have L11 := L10.call hb
    clear hb L10
    go_wp2_with fail
    refine (rsum_any _ _ begin_run (by simp) _ L11.2.1).mono ?_
    rintro e v12 ⟨rfl, hb⟩
    have L12 := L11.call hb
    clear hb L11
    rw [← HD.out.2.2.2.2]
    have r := L12.row w.heap.size zero73 (by simp)
    have z := zero73_size
    go_wp2_with fail
    clear r z
    refine (size_any _ _ begin_run _).mono ?_
    rintro e v13 ⟨rfl, hb⟩
    have L13 := L12.call hb
    clear hb L12
    have r := L13.row w8.heap.size c4 (by simp)
    have z := hr4.size
    go_wp2_with fail
    clear r z
    refine (size_any _ _ hr4 _).mono ?_
    rintro e v14 ⟨rfl, hb⟩
    have L14 := L13.call hb
    clear hb L13
    go_wp2_with fail
    go_ret
    refine ⟨?_, L14.1⟩
    show Ending.returned (Value.bool _) = _
    rw [← Int.add_assoc, beq_self_eq_true]
  · by_cases h1 : (500 : Int) < s.size
    · go_enter Tryd.func6, Tryd.ntmps6
      go_wp2_with fail
      refine (awake_any _ hG).mono ?_
      rintro e w1 ⟨rfl, hb1⟩
      go_wp2_with fail
      go_ret
      exact ⟨rfl, hb1⟩
    · by_cases h2 : (500 : Int) < t.size
      · go_enter Tryd.func6, Tryd.ntmps6
        go_wp2_with fail
        refine (awake_any _ hG).mono ?_
        rintro e w1 ⟨rfl, hb1⟩
        go_wp2_with fail
        go_ret
        exact ⟨rfl, hb1⟩
      · have h3 : (500 : Int) < u.size := by omega
        go_enter Tryd.func6, Tryd.ntmps6
        go_wp2_with fail
        refine (awake_any _ hG).mono ?_
        rintro e w1 ⟨rfl, hb1⟩
        go_wp2_with fail
        go_ret
        exact ⟨rfl, hb1⟩
end Go.Proofs.YtlfefgfpachehaaDoor

namespace Go.Proofs.YtlfefgfpachehaaDoor.forksLaw
open Go.ChangeShapes Go.WideShapes Go.ChangeAt Go.RowKit
open Go.ChangeMaps (open_string shut_string)

theorem contract (H : Type) (enc : TypeId × Value → H) (W : World) (base : Nat) (args : Array Value) (ds gs : List (DataW H)) (before : List MemPlace)
    (hval : ∀ (j : Nat) t v, Tryd.f6.params[j]? = some t → args[j]? = some v → Value.okWide Tryd.prog W .any base t v)
    (hW : DataW.Whole enc Tryd.prog Tryd.f6.params.toList Rows.digestForksSpec.vars false W args.toList ds gs before) (hL : laidMetH Tryd.prog Rows.digestForksRow.laid W) :
    Calls Tryd.prog 6 args W fun e W' => ∃ v, e = .returned v ∧ Rows.digestForksSpec.post enc Tryd.prog Tryd.f6 false true false false W args v W' := by
  have hW' := hW
  obtain ⟨p, q, hA0, hV, rfl, hfz, hnd⟩ := hW
  have hA : DataW.TrodAll enc Tryd.prog W 0 (fun _ => true) true Tryd.f6.params.toList args.toList ds p := hA0
  rw [Tryd.params6] at hA hval
  obtain ⟨v0, vs0, d0, ds0, p0, q0, hargs, rfl, rfl, h0, r0⟩ := trodAll_cons hA
  obtain ⟨v1, vs1, d1, ds1, p1, q1, rfl, rfl, rfl, h1, r1⟩ := trodAll_cons r0
  obtain ⟨v2, vs2, d2, ds2, p2, q2, rfl, rfl, rfl, h2, r2⟩ := trodAll_cons r1
  obtain ⟨rfl, rfl, rfl⟩ := trodAll_nil r2
  obtain rfl : args = #[v0, v1, v2] := by cases args; simp_all
  obtain ⟨rfl, rfl⟩ := trodVars_none hV
  obtain ⟨s, rfl, rfl, rfl, hs⟩ := open_string Tryd.underlying9 (hval 0 9 v0 rfl rfl) h0
  obtain ⟨t, rfl, rfl, rfl, ht⟩ := open_string Tryd.underlying9 (hval 1 9 v1 rfl rfl) h1
  obtain ⟨u, rfl, rfl, rfl, hu⟩ := open_string Tryd.underlying9 (hval 2 9 v2 rfl rfl) h2
  clear hA0
  simp only [List.append_nil] at hW'
  refine (forks_law s t u W (glob_of_laid hL)).mono fun e W' ⟨he, hb⟩ => ?_
  subst he
  exact ⟨_, rfl, _, _, _, [], [], [], hW', trodAll_cons_mk (shut_bool Tryd.underlying4 _) trodAll_mk0, trodAll_cons_mk (shut_string Tryd.underlying9 hs) (trodAll_cons_mk (shut_string Tryd.underlying9 ht) (trodAll_cons_mk (shut_string Tryd.underlying9 hu) trodAll_mk0)), rfl, hb.frame _, fun h => by cases h⟩

theorem laid_met (os : Os) : laidMet Tryd.prog Rows.digestForksRow.laid ((laidWorld os).forCall (fun _ _ => 0) ⟨#[], #[.string ⟨#[]⟩, .string ⟨#[]⟩, .string ⟨#[]⟩], []⟩).memory :=
  laidMet_of_run' 8 (by kernel_rfl) (by kernel_rfl)
theorem reads (os : Os) {H : Type} (enc : TypeId × Value → H) : ∃ places, DataW.whole enc Tryd.prog ((laidWorld os).forCall (fun _ _ => 0) ⟨#[], #[.string ⟨#[]⟩, .string ⟨#[]⟩, .string ⟨#[]⟩], []⟩).memory Tryd.f6.params.toList Rows.digestForksSpec.vars false #[Value.string ⟨#[]⟩, Value.string ⟨#[]⟩, Value.string ⟨#[]⟩].toList 8 = some ([.lit (.string []), .lit (.string []), .lit (.string [])], [], places) :=
  ⟨[], by kernel_rfl⟩

set_option maxRecDepth 100000 in
theorem lifted (os : Os) (started : os.Started) (H : Type) (enc : TypeId × Value → H) (F : Stop.Interp) :
    ReturnsInHanded {} Tryd.checked os 6 .any ((OpenSpec.ofChange Rows.digestForksSpec).preRow enc Tryd.prog Tryd.f6 Rows.digestForksRow.domain false Rows.digestForksRow.laid) (((OpenSpec.ofChange Rows.digestForksSpec).at F).post enc Tryd.prog Tryd.f6 false true false false) := by
  obtain ⟨places, hx⟩ := reads os enc
  refine returnsInHanded_of_row (C := Tryd.checked) (s := OpenSpec.ofChange Rows.digestForksSpec) own started (by kernel_rfl) Tryd.func6
    (witness_row_at (enc := enc) (C := Tryd.checked) false (laidWorld os) #[.string ⟨#[]⟩, .string ⟨#[]⟩, .string ⟨#[]⟩] rfl (by kernel_rfl) (by kernel_rfl) (by kernel_rfl)
      (OpenSpec.preRow_of_cond 8 hx (by kernel_rfl) (fun k hk => by cases hk) (by kernel_rfl) (laid_met os))) ?_
  intro W base args ds gs before hval hW _ _ _ hL _ _
  exact contract H enc W base args ds gs before hval hW hL

theorem said : Rows.DigestForksSaid :=
  OpenClaim.holds_of_cond 6 Tryd.f6 rfl rfl rfl rfl rfl rfl rfl ⟨rfl, rfl, rfl, rfl, rfl⟩ rfl rfl rfl rfl rfl (by kernel_rfl) Tryd.func6 (by kernel_rfl)
    (of_decide_eq_true (by kernel_rfl)) (by unfold Func.isWrapper; first | (rw [if_pos (by decide +kernel)]; kernel_rfl) | (rw [if_neg (by decide +kernel)]; exact ⟨rfl, rfl⟩))
    (fun os started H enc _ F => by rw [OpenClaim.pre_eq_preRow]; exact lifted os started H enc F)

theorem plain (f : FuncId) (fn : Func) (hf : Tryd.pinned.checked.prog.funcNamed "lockbox/lockboxlaw01.DigestForks" = some f) (hfn : Tryd.pinned.checked.prog.funcs[f]? = some fn) :
    false = Tryd.pinned.checked.prog.looks [] ∧ ∀ (j : Nat) t, fn.params[j]? = some t → Tryd.pinned.checked.prog.wantsStandIn t = false := by
  obtain rfl : f = 6 := Option.some.inj ((show Tryd.prog.funcNamed "lockbox/lockboxlaw01.DigestForks" = some 6 by kernel_rfl).symm.trans hf) |>.symm
  obtain rfl : fn = Tryd.f6 := (Option.some.inj (Tryd.func6.symm.trans hfn)).symm
  refine ⟨by kernel_rfl, fun j t ht => ?_⟩
  rw [Tryd.params6] at ht
  have hm : t ∈ [9, 9, 9] := by simpa using Array.mem_of_getElem? ht
  have hall : ([9, 9, 9].all fun u => !Tryd.prog.wantsStandIn u) = true := by kernel_rfl
  exact (show Tryd.prog.wantsStandIn t = false by simpa using List.all_eq_true.1 hall t hm)
end Go.Proofs.YtlfefgfpachehaaDoor.forksLaw

namespace Go.Proofs.YtlfefgfpachehaaDoor
/-- THE CARD. -/
theorem digestForks_card : Rows.DigestForksCardSaid :=
  Claim7.holds_tied_plain_at .later [] _ _ _ _ forksLaw.said (fun _ h => by cases h) (by kernel_rfl) (fun _ h => by cases h) digestForks_row_tie rfl ⟨rfl, rfl⟩ (by kernel_rfl) rfl forksLaw.plain (by kernel_rfl)
end Go.Proofs.YtlfefgfpachehaaDoor
