/- PROVED HERE: for every list of leaves and every two texts the law TreeRoots returns true (the digest of a leaf and of a node, and the root of leaves, are the document's). Its conditions: the package-level tables hold what their initialisers lay (tied to the program's text by the card). -/
import Derived.Test.YtdjhlgodecnidaaDoorTrAwake
import Derived.Test.YtdjhlgodecnidaaDoorLaid
namespace Go.Proofs.YtdjhlgodecnidaaDoor
open Go.RowKit
open Tr

set_option maxRecDepth 100000 in
set_option maxHeartbeats 4000000 in
theorem roots_law {w : World} (ss : List ByteArray) (a0 : Option Addr) (cap : Nat) (hT : TextsAt w a0 ss) (hm : ss.length ≤ maxLen) (x : ByteArray) (_ : x.size ≤ maxLen) (y : ByteArray) (_ : y.size ≤ maxLen) (hG : Glob w) :
    Calls Tryd.prog 3 #[.slice a0 ss.length cap, .string x, .string y] w fun e w' => e = .returned (.bool true) ∧ Below w.heap.size w w' := by
  have HG := Lib.hid hG
  clear hG
  by_cases hf : FewOf ss 40 100
  · have cd := digests_any ss a0 cap w hT hm hf
    have hD := digs_leaves ss
    have hl : (ss.map leaf).length = ss.length := List.length_map ..
    have h40 : ss.length ≤ 40 := by have := hf.1; omega
    obtain ⟨D, hDD⟩ : ∃ D, D = ss.map leaf := ⟨_, rfl⟩
    rw [← hDD] at cd hD hl
    obtain ⟨n, hn⟩ : ∃ n, n = ss.length := ⟨_, rfl⟩
    rw [← hn] at cd hl h40 ⊢
    have rt := fun (W : World) (a : Option Addr) (c : Nat) hGW hTW (h1 : D.length ≤ c) h2 => root_any _ D rfl (by omega) hD a c W hGW hTW h1 h2
    have rr := fun (W : World) (a : Option Addr) (c : Nat) hTW (h1 : D.length ≤ c) h2 => rroot_any _ D rfl (by omega) hD a c W hTW h1 h2
    obtain ⟨R, hR⟩ : ∃ R, R = root D := ⟨_, rfl⟩
    rw [← hR] at rt rr
    rw [hl] at rt rr
    have hRR : (R.toList == R.toList) = true := by simp
    have H := Lib.hid (And.intro cd (And.intro rt (And.intro rr hl)))
    clear cd rt rr hD hDD hR hT hm hf hl hn
    by_cases h1 : (100 : Int) < x.size
    · go_enter Tryd.func3, Tryd.ntmps3
      go_wp2_with fail
      refine H.out.1.mono ?_
      rintro e w0 ⟨a, c, rfl, hO, hb0⟩
      have HA := Lib.hid hb0
      clear hO hb0
      go_wp2_with fail
      refine (awake13_any _ (HG.out.below HA.out)).mono ?_
      rintro e w1 ⟨rfl, hb⟩
      have HB := Lib.hid (HA.out.trans (hb.mono HA.out.size))
      clear hb
      go_wp2_with fail
      go_ret
      exact ⟨rfl, HB.out⟩
    · by_cases h2 : (100 : Int) < y.size
      · go_enter Tryd.func3, Tryd.ntmps3
        go_wp2_with fail
        refine H.out.1.mono ?_
        rintro e w0 ⟨a, c, rfl, hO, hb0⟩
        have HA := Lib.hid hb0
        clear hO hb0
        go_wp2_with fail
        refine (awake13_any _ (HG.out.below HA.out)).mono ?_
        rintro e w1 ⟨rfl, hb⟩
        have HB := Lib.hid (HA.out.trans (hb.mono HA.out.size))
        clear hb
        go_wp2_with fail
        go_ret
        exact ⟨rfl, HB.out⟩
      · have lf := fun W hG => leaf_any x (by omega) W hG
        have rl := fun W => rleaf_any x (by omega) W
        have nd := fun W hG => node_any x y (by omega) (by omega) W hG
        have rn := fun W => rnode_any x y (by omega) (by omega) W
        obtain ⟨lx, hlx⟩ : ∃ l, l = leaf x := ⟨_, rfl⟩
        obtain ⟨nx, hnx⟩ : ∃ l, l = node x y := ⟨_, rfl⟩
        rw [← hlx] at lf rl
        rw [← hnx] at nd rn
        have q1 : (lx.toList == lx.toList) = true := by simp
        have q2 : (nx.toList == nx.toList) = true := by simp
        have H2 := Lib.hid (And.intro lf (And.intro rl (And.intro nd rn)))
        clear lf rl nd rn hlx hnx
        go_enter Tryd.func3, Tryd.ntmps3
        go_wp2_with fail
        refine H.out.1.mono ?_
        rintro e w0 ⟨a, c, rfl, hO, hb0⟩
        have HA := Lib.hid (And.intro hO.texts (And.intro (show n ≤ c ∧ c ≤ maxLen from by have h := hO.capy; rw [H.out.2.2.2] at h; exact h) hb0))
        clear hO hb0
        go_wp2_with fail
        refine (awake13_any _ (HG.out.below HA.out.2.2)).mono ?_
        rintro e w1 ⟨rfl, hb⟩
        have B1 := Lib.hid (And.intro (HA.out.2.2.trans (hb.mono HA.out.2.2.size)) (HA.out.1.below hb))
        clear hb
        go_wp2_with fail
        refine (H2.out.1 _ (HG.out.below B1.out.1)).mono ?_
        rintro e w2 ⟨rfl, hb⟩
        have B2 := Lib.hid (And.intro (B1.out.1.trans (hb.mono B1.out.1.size)) (B1.out.2.below hb))
        clear hb
        go_wp2_with fail
        refine (H2.out.2.1 _).mono ?_
        rintro e w3 ⟨rfl, hb⟩
        have B3 := Lib.hid (And.intro (B2.out.1.trans (hb.mono B2.out.1.size)) (B2.out.2.below hb))
        clear hb
        go_wp2_with fail
        refine (H2.out.2.2.1 _ (HG.out.below B3.out.1)).mono ?_
        rintro e w4 ⟨rfl, hb⟩
        have B4 := Lib.hid (And.intro (B3.out.1.trans (hb.mono B3.out.1.size)) (B3.out.2.below hb))
        clear hb
        go_wp2_with fail
        refine (H2.out.2.2.2 _).mono ?_
        rintro e w5 ⟨rfl, hb⟩
        have B5 := Lib.hid (And.intro (B4.out.1.trans (hb.mono B4.out.1.size)) (B4.out.2.below hb))
        clear hb
        go_wp2_with fail
        refine (H.out.2.1 _ _ _ (HG.out.below B5.out.1) B5.out.2 HA.out.2.1.1 HA.out.2.1.2).mono ?_
        rintro e w6 ⟨rfl, hb⟩
        have B6 := Lib.hid (And.intro (B5.out.1.trans (hb.mono B5.out.1.size)) (B5.out.2.below hb))
        clear hb
        go_wp2_with fail
        refine (H.out.2.2.1 _ _ _ B6.out.2 HA.out.2.1.1 HA.out.2.1.2).mono ?_
        rintro e w7 ⟨rfl, hb⟩
        have B7 := Lib.hid (B6.out.1.trans (hb.mono B6.out.1.size))
        clear hb
        go_wp2_with fail
        go_ret
        exact ⟨rfl, B7.out⟩
  · have cn := nodigests_any ss a0 cap w hT hm hf
    obtain ⟨n, hn⟩ : ∃ n, n = ss.length := ⟨_, rfl⟩
    rw [← hn] at cn ⊢
    have H := Lib.hid cn
    clear cn hf hT hm hn
    go_enter Tryd.func3, Tryd.ntmps3
    go_wp2_with fail
    refine H.out.mono ?_
    rintro e w0 ⟨rfl, rfl⟩
    go_wp2_with fail
    refine (awake13_any _ HG.out).mono ?_
    rintro e w1 ⟨rfl, hb⟩
    have HB := Lib.hid hb
    clear hb
    go_wp2_with fail
    go_ret
    exact ⟨rfl, HB.out⟩
end Go.Proofs.YtdjhlgodecnidaaDoor

namespace Go.Proofs.YtdjhlgodecnidaaDoor.treeRootsLaw
open Go.ChangeShapes Go.WideShapes Go.ChangeAt Go.RowKit
open Go.ChangeMaps (open_string shut_string)

set_option maxRecDepth 100000 in
theorem contract (H : Type) (enc : TypeId × Value → H) (W : World) (base : Nat) (args : Array Value) (ds gs : List (DataW H)) (before : List MemPlace)
    (hval : ∀ (j : Nat) t v, Tryd.f3.params[j]? = some t → args[j]? = some v → Value.okWide Tryd.prog W .any base t v)
    (hW : DataW.Whole enc Tryd.prog Tryd.f3.params.toList Rows.treeRootsSpec.vars false W args.toList ds gs before) (hL : laidMetH Tryd.prog Rows.treeRootsRow.laid W) :
    Calls Tryd.prog 3 args W fun e W' => ∃ v, e = .returned v ∧ Rows.treeRootsSpec.post enc Tryd.prog Tryd.f3 false true false false W args v W' := by
  have hW' := hW
  obtain ⟨p, q, hA0, hV, rfl, hfz, hnd⟩ := hW
  have hA : DataW.TrodAll enc Tryd.prog W 0 (fun _ => true) true Tryd.f3.params.toList args.toList ds p := hA0
  rw [Tryd.params3] at hA hval
  obtain ⟨v0, vs0, d0, ds0, p0, q0, hargs, rfl, rfl, h0, r0⟩ := trodAll_cons hA
  obtain ⟨v1, vs1, d1, ds1, p1, q1, rfl, rfl, rfl, h1, r1⟩ := trodAll_cons r0
  obtain ⟨v2, vs2, d2, ds2, p2, q2, rfl, rfl, rfl, h2, r2⟩ := trodAll_cons r1
  obtain ⟨rfl, rfl, rfl⟩ := trodAll_nil r2
  obtain rfl : args = #[v0, v1, v2] := by cases args; simp_all
  obtain ⟨rfl, rfl⟩ := trodVars_none hV
  obtain ⟨a0, len0, cap0, rfl⟩ := okWide_slice Tryd.underlying22 (hval 0 22 v0 rfl rfl)
  have hk0 := h0
  obtain ⟨fuel0, hf0⟩ := h0
  obtain ⟨s1, rfl, rfl, rfl, ws1⟩ := open_string Tryd.underlying9 (hval 1 9 v1 rfl rfl) h1
  obtain ⟨s2, rfl, rfl, rfl, ws2⟩ := open_string Tryd.underlying9 (hval 2 9 v2 rfl rfl) h2
  clear hA0
  simp only [List.append_nil] at hW'
  have hlt0 : ∀ x ∈ p0, x.block < W.heap.size := fun x hx => by simpa using hW'.lt x (by simp [hx])
  obtain ⟨ss0, hlen0, hmax0, hT0⟩ := texts_of hf0 hlt0
  subst hlen0
  refine (roots_law ss0 a0 cap0 hT0 hmax0 s1 (by simpa using ws1) s2 (by simpa using ws2) (w := W) (hG := glob_of_laid hL)).mono fun e W' ⟨he, hb⟩ => ?_
  subst he
  exact ⟨_, rfl, _, _, _, [], _, [], hW', trodAll_cons_mk (shut_bool Tryd.underlying4 _) trodAll_mk0, (trodAll_cons_mk (Below.trod laidOut (by kernel_rfl) (of_decide_eq_true (by kernel_rfl)) hk0 hb hlt0) (trodAll_cons_mk (shut_string Tryd.underlying9 ws1) (trodAll_cons_mk (shut_string Tryd.underlying9 ws2) trodAll_mk0))), rfl, hb.frame _, fun h => by cases h⟩
theorem laid_met (os : Os) : laidMet Tryd.prog Rows.treeRootsRow.laid ((laidWorld os).forCall (fun _ _ => 0) ⟨#[], #[.slice none 0 0, .string ⟨#[]⟩, .string ⟨#[]⟩], []⟩).memory :=
  laidMet_of_run' 8 (by kernel_rfl) (by kernel_rfl)
theorem reads (os : Os) {H : Type} (enc : TypeId × Value → H) : ∃ places, DataW.whole enc Tryd.prog ((laidWorld os).forCall (fun _ _ => 0) ⟨#[], #[.slice none 0 0, .string ⟨#[]⟩, .string ⟨#[]⟩], []⟩).memory Tryd.f3.params.toList Rows.treeRootsSpec.vars false #[Value.slice none 0 0, .string ⟨#[]⟩, .string ⟨#[]⟩].toList 8 = some ([.nil, .lit (.string []), .lit (.string [])], [], places) :=
  ⟨[], by kernel_rfl⟩
set_option maxRecDepth 100000 in
theorem lifted (os : Os) (started : os.Started) (H : Type) (enc : TypeId × Value → H) (F : Stop.Interp) :
    ReturnsInHanded {} Tryd.checked os 3 .any ((OpenSpec.ofChange Rows.treeRootsSpec).preRow enc Tryd.prog Tryd.f3 Rows.treeRootsRow.domain false Rows.treeRootsRow.laid) (((OpenSpec.ofChange Rows.treeRootsSpec).at F).post enc Tryd.prog Tryd.f3 false true false false) := by
  obtain ⟨places, hx⟩ := reads os enc
  refine returnsInHanded_of_row (C := Tryd.checked) (s := OpenSpec.ofChange Rows.treeRootsSpec) own started (by kernel_rfl) Tryd.func3
    (witness_row_at (enc := enc) (C := Tryd.checked) false (laidWorld os) #[.slice none 0 0, .string ⟨#[]⟩, .string ⟨#[]⟩] rfl (by kernel_rfl) (by kernel_rfl) (by kernel_rfl)
      (OpenSpec.preRow_of_cond 8 hx (by kernel_rfl) (fun k hk => by cases hk) (by kernel_rfl) (laid_met os))) ?_
  intro W base args ds gs before hval hW _ _ _ hL _ _
  exact contract H enc W base args ds gs before hval hW hL
theorem said : Rows.TreeRootsSaid :=
  OpenClaim.holds_of_cond 3 Tryd.f3 rfl rfl rfl rfl rfl rfl rfl ⟨rfl, rfl, rfl, rfl, rfl⟩ rfl rfl rfl rfl rfl (by kernel_rfl) Tryd.func3 (by kernel_rfl)
    (of_decide_eq_true (by kernel_rfl)) (by unfold Func.isWrapper; first | (rw [if_pos (by decide +kernel)]; kernel_rfl) | (rw [if_neg (by decide +kernel)]; exact ⟨rfl, rfl⟩))
    (fun os started H enc _ F => by rw [OpenClaim.pre_eq_preRow]; exact lifted os started H enc F)
theorem plain (f : FuncId) (fn : Func) (hf : Tryd.pinned.checked.prog.funcNamed "lockbox/lockboxlaw13.TreeRoots" = some f) (hfn : Tryd.pinned.checked.prog.funcs[f]? = some fn) :
    false = Tryd.pinned.checked.prog.looks [] ∧ ∀ (j : Nat) t, fn.params[j]? = some t → Tryd.pinned.checked.prog.wantsStandIn t = false := by
  obtain rfl : f = 3 := Option.some.inj ((show Tryd.prog.funcNamed "lockbox/lockboxlaw13.TreeRoots" = some 3 by kernel_rfl).symm.trans hf) |>.symm
  obtain rfl : fn = Tryd.f3 := (Option.some.inj (Tryd.func3.symm.trans hfn)).symm
  refine ⟨by kernel_rfl, fun j t ht => ?_⟩
  rw [Tryd.params3] at ht
  have hm : t ∈ [22, 9, 9] := by simpa using Array.mem_of_getElem? ht
  have hall : ([22, 9, 9].all fun u => !Tryd.prog.wantsStandIn u) = true := by kernel_rfl
  exact (show Tryd.prog.wantsStandIn t = false by simpa using List.all_eq_true.1 hall t hm)
end Go.Proofs.YtdjhlgodecnidaaDoor.treeRootsLaw

namespace Go.Proofs.YtdjhlgodecnidaaDoor
/-- THE CARD. -/
theorem treeRoots_card : Rows.TreeRootsCardSaid :=
  Claim7.holds_tied_plain_at .later [] _ _ _ _ treeRootsLaw.said (fun _ h => by cases h) (by kernel_rfl) (fun _ h => by cases h) treeRoots_row_tie rfl ⟨rfl, rfl⟩ (by kernel_rfl) rfl treeRootsLaw.plain (by kernel_rfl)
end Go.Proofs.YtdjhlgodecnidaaDoor
