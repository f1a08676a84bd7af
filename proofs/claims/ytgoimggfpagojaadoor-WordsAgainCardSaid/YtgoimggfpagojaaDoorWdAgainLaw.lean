/- PROVED HERE: for every text the law WordsAgain returns true (a text's words are words, rise, are at most twelve, and are those of the text that they make), and all read afterwards as they did. Its conditions: the two package-level tables of the digest hold what their initialisers lay (tied to the program's text by the card). -/
import Derived.Test.YtgoimggfpagojaaDoorWdAwake
import Derived.Test.YtgoimggfpagojaaDoorLaid
import Derived.BigQuiet
import Derived.Deep.QuietTactic
namespace Go.Proofs.YtgoimggfpagojaaDoor
open Go.RowKit

theorem word_size {x : ByteArray} (h : Wd.IsW x) : x.size ≤ 24 ∧ normR x = .tuple #[.string x, .int .i64 0] := by
  obtain ⟨-, -, h3, -⟩ := Wd.norm_ok h
  refine ⟨h3, ?_⟩
  rw [nr_ok h]; rfl
/-- The words, each with a gap behind it. -/
def joined (l : List ByteArray) (g : List UInt8) : List UInt8 := l.flatMap fun x => x.data.toList ++ g
theorem joined_snoc (l : List ByteArray) (x : ByteArray) (g : List UInt8) : joined (l ++ [x]) g = joined l g ++ (x.data.toList ++ g) := by
  unfold joined; rw [List.flatMap_append]; simp
theorem joined_len {l : List ByteArray} {g : List UInt8} (h : ∀ x ∈ l, x.size ≤ 24) : (joined l g).length ≤ l.length * (24 + g.length) := by
  induction l with
  | nil => simp [joined]
  | cons a r ih =>
    have h1 := ih fun x hx => h x (List.mem_cons_of_mem _ hx)
    have h2 := h a List.mem_cons_self
    show (List.flatMap _ (a :: r)).length ≤ _
    rw [List.flatMap_cons, List.length_append, List.length_append, List.length_cons, Nat.add_mul]
    have h3 : (List.flatMap (fun x => x.data.toList ++ g) r).length = (joined r g).length := rfl
    have h4 : a.data.toList.length = a.size := rfl
    omega
theorem joined_words {l : List ByteArray} {g : List UInt8} (hr : Wd.Rises l) (hl : l.length ≤ 12) (hw : ∀ x ∈ l, Wd.IsW x) (hg : g ≠ []) (h0 : ∀ x ∈ g, Wd.let1 x = 0) : Wd.ofW (joined l g) = l := by
  have h := Wd.again (l.map fun x => (x.data.toList, x)) g [] hg h0 (fun x hx => by
    obtain ⟨y, hy, rfl⟩ := List.mem_map.1 hx
    exact hw y hy)
  rw [List.flatMap_map, List.map_map] at h
  have h2 : (l.map ((fun x : List UInt8 × ByteArray => x.2) ∘ fun x => (x.data.toList, x))) = l := by
    conv => rhs; rw [← List.map_id l]
    rfl
  have h3 : Wd.allW (joined l g) = l := by
    show (Wd.cut [] (joined l g)).foldl Wd.addW [] = l
    exact Eq.trans h (by rw [h2]; exact Wd.foldl_put_self hr)
  unfold Wd.ofW
  rw [h3, List.take_of_length_le hl]
theorem rises_at {l : List ByteArray} (h : Wd.Rises l) {k : Nat} (hk : k + 1 < l.length) : Wd.less (l.getD k ByteArray.empty) (l.getD (k + 1) ByteArray.empty) = true := by
  rw [List.getD_eq_getElem?_getD, List.getD_eq_getElem?_getD, List.getElem?_eq_getElem hk, List.getElem?_eq_getElem (by omega : k < l.length)]
  exact (List.pairwise_iff_getElem.1 h) k (k + 1) (by omega) hk (by omega)
theorem snoc_at {l : List ByteArray} {k : Nat} (h : k < l.length) : l.take (k + 1) = l.take k ++ [l.getD k ByteArray.empty] := by
  rw [List.take_add_one, List.getD_eq_getElem?_getD, List.getElem?_eq_getElem h]; rfl
set_option maxRecDepth 100000 in
set_option maxHeartbeats 2000000 in
theorem wagain_law {w : World} (s : ByteArray) (_ : s.size ≤ maxLen) (hG : Glob w) :
    Calls Tryd.prog 6 #[.string s] w fun e w' => e = .returned (.bool true) ∧ Below w.heap.size w w' := by
  by_cases h1 : (2000 : Int) < s.size
  · go_enter Tryd.func6, Tryd.ntmps6
    go_wp2_with fail
    refine (awake15_any _ hG).mono ?_
    rintro e w1 ⟨rfl, h1⟩
    go_wp2_with fail
    go_ret
    exact ⟨rfl, h1⟩
  · have hn := fun W : World => wof_any s (by omega) W
    have hl12 : (Wd.ofW s.data.toList).length ≤ 12 := by unfold Wd.ofW; rw [List.length_take]; omega
    have hri := Wd.ofW_rises s.data.toList
    have hiw := Wd.ofW_words s.data.toList
    obtain ⟨L, hL⟩ : ∃ L, L = Wd.ofW s.data.toList := ⟨_, rfl⟩
    rw [← hL] at hn hri hiw hl12
    obtain ⟨n, hn2⟩ : ∃ n, n = L.length := ⟨_, rfl⟩
    rw [← hn2] at hn hl12
    have H := Lib.hid (And.intro hn (And.intro hri (And.intro hiw (And.intro hn2 hG))))
    clear hn hL hri hiw hn2 hG
    go_enter Tryd.func6, Tryd.ntmps6
    go_wp2_with fail
    refine (H.out.1 _).mono ?_
    rintro e w1 ⟨a1, c1, rfl, t1, k1⟩
    have K1 := Lib.hid (And.intro k1 t1.texts)
    clear k1 t1
    go_wp2_with fail
    go_loopw [4, 5, 6, 7] (fun t i _ _ wr => ∃ (k : Nat) (S : ByteArray), k ≤ n ∧ i = .int .i64 (k : Int) ∧ t = .string S ∧ S.data.toList = joined (L.take k) [32] ∧ TextsAt wr a1 L ∧ Below w.heap.size w wr) (fun _ i _ _ _ => n - (intOf i).toNat)
    case atStart => exact ⟨0, ⟨#[]⟩, by omega, rfl, rfl, rfl, K1.out.2, K1.out.1⟩
    case round =>
      obtain ⟨k, S, hk, rfl, rfl, hS, hT, hbe⟩ := hrel
      have hsz := hbe.size
      have hSl : S.size ≤ 1000 := by
        have h := joined_len (l := L.take k) (g := [32]) (fun x hx => (word_size (H.out.2.2.1 x (List.mem_of_mem_take hx))).1)
        rw [← hS] at h
        have h2 : S.data.toList.length = S.size := rfl
        have h3 : (L.take k).length ≤ 12 := by rw [List.length_take]; omega
        have h4 : (L.take k).length * (24 + [(32 : UInt8)].length) ≤ 12 * 25 := Nat.mul_le_mul h3 (by decide)
        omega
      by_cases hlt : k < n
      · have hkl : k < L.length := by have := H.out.2.2.2.1; omega
        obtain ⟨b, off, rfl, -, hc⟩ := hT k hkl
        have hxm : L.getD k ByteArray.empty ∈ L := by
          rw [List.getD_eq_getElem?_getD, List.getElem?_eq_getElem hkl]
          exact List.getElem_mem hkl
        have hsn := snoc_at hkl
        obtain ⟨x, hx⟩ : ∃ x, x = L.getD k ByteArray.empty := ⟨_, rfl⟩
        rw [← hx] at hc hxm hsn
        obtain ⟨hxs, hxn⟩ := word_size (H.out.2.2.1 x hxm)
        have hcall := fun W : World => norm15_any x (by omega) W
        rw [hxn] at hcall
        have hXX : (x.toList == x.toList) = true := by simp
        have hS1 : ((S ++ x) ++ ⟨#[32]⟩).data.toList = joined (L.take (k + 1)) [32] := by
          rw [hsn, joined_snoc, ← hS, ByteArray.data_append, Array.toList_append, ByteArray.data_append, Array.toList_append, List.append_assoc]
        by_cases hk0 : k = 0
        · subst hk0
          have hc0 : wr.cell? ⟨b, off, none⟩ = some (.string x) := hc
          have HM := Lib.hid (And.intro hcall (And.intro hT (And.intro hbe hS1)))
          clear hcall hT hS1 hxn hx hxm hsn hS hc
          go_wp2_with fail
          refine (HM.out.1 _).mono ?_
          rintro e2 w2 ⟨rfl, hb2⟩
          have hc2 : w2.cell? ⟨b, off, none⟩ = some (.string x) := by
            obtain ⟨bx, ox, ex, hbx, -⟩ := HM.out.2.1 0 hkl
            injection ex with ex
            injection ex with ex1 ex2
            subst ex1 ex2
            rw [hb2.cell (p := ⟨b, off, none⟩) hbx]; exact hc0
          have HN := Lib.hid (And.intro (HM.out.2.2.1.trans (hb2.mono hsz)) (HM.out.2.1.below hb2))
          clear hb2 hc0 hbe
          go_wp2_with fail
          go_quiet (fail)
          go_wp2_with fail
          go_roundw
          case rel => exact ⟨0 + 1, (S ++ x) ++ ⟨#[32]⟩, by omega, by go_num, rfl, HM.out.2.2.2, HN.out.2.below (below_drawN (Below.refl _ _) _), below_drawN HN.out.1 _⟩
          case measure => simp [intOf]; omega
        · obtain ⟨j, rfl⟩ : ∃ j, k = j + 1 := ⟨k - 1, by omega⟩
          have hless := rises_at H.out.2.1 hkl
          rw [← hx] at hless
          obtain ⟨y, hy⟩ : ∃ y, y = L.getD j ByteArray.empty := ⟨_, rfl⟩
          rw [← hy] at hless
          have hlb : Op.bytesLess x.toList y.toList = false := Wd.less_asymm hless
          have hlq : (x.toList == y.toList) = false := list_ne (Wd.less_ne hless).symm
          have hgt : (0 : Int) < (j : Int) + 1 := by omega
          have HM := Lib.hid (And.intro hcall (And.intro hT (And.intro hbe (And.intro hS1 hy))))
          clear hcall hT hS1 hxn hx hxm hsn hS hless
          go_wp2_with fail
          refine (HM.out.1 _).mono ?_
          rintro e2 w2 ⟨rfl, hb2⟩
          have hTb := HM.out.2.1.below hb2
          have hc2 : w2.cell? ⟨b, off + (j + 1), none⟩ = some (.string x) := by
            obtain ⟨bx, ox, ex, hbx, -⟩ := HM.out.2.1 0 (by omega)
            injection ex with ex
            injection ex with ex1 ex2
            subst ex1 ex2
            rw [hb2.cell (p := ⟨b, off + (j + 1), none⟩) hbx]; exact hc
          have hc3 : w2.cell? ⟨b, off + j, none⟩ = some (.string y) := by
            obtain ⟨bx, ox, ex, hbx, h3⟩ := hTb j (by omega)
            injection ex with ex
            injection ex with ex1 ex2
            subst ex1 ex2
            rw [HM.out.2.2.2.2]; exact h3
          have HN := Lib.hid (And.intro (HM.out.2.2.1.trans (hb2.mono hsz)) hTb)
          clear hb2 hc hbe hy hTb
          go_wp2_with fail
          go_quiet (fail)
          go_wp2_with fail
          exact ⟨⟨j + 1 + 1, (S ++ x) ++ ⟨#[32]⟩, by omega, by go_num, rfl, HM.out.2.2.2.1, HN.out.2.below (below_drawN (Below.refl _ _) _), below_drawN HN.out.1 _⟩, by simp only [intOf]; omega⟩
      · obtain rfl : k = n := by omega
        have hl12i : (k : Int) ≤ 12 := by omega
        have hall : L.take k = L := List.take_of_length_le (by have := H.out.2.2.2.1; omega)
        rw [hall] at hS
        have hof := fun W : World => wof_any S (by omega) W
        rw [hS, joined_words H.out.2.1 (by have := H.out.2.2.2.1; omega) H.out.2.2.1 (by simp) (by decide), ← H.out.2.2.2.1] at hof
        have hsame := fun (W : World) (a b : Option Addr) (c c' : Nat) (h1 : TextsAt W a L) (h2 : TextsAt W b L) => rsame_any L a b c c' W h1 h2 (by have := H.out.2.2.2.1; omega)
        rw [← H.out.2.2.2.1] at hsame
        have HM := Lib.hid (And.intro hof (And.intro hT (And.intro hbe hsame)))
        clear hof hT hbe hsame hall hS
        go_wp2_with fail
        refine (awake15_any _ (H.out.2.2.2.2.below HM.out.2.2.1)).mono ?_
        rintro e2 w2 ⟨rfl, k2⟩
        have K2 := Lib.hid (And.intro (HM.out.2.2.1.trans (k2.mono hsz)) (HM.out.2.1.below k2))
        clear k2
        go_wp2_with fail
        refine (HM.out.1 _).mono ?_
        rintro e2 w3 ⟨a3, c3, rfl, t3, k3⟩
        have K3 := Lib.hid (And.intro (wbelow_call K2.out.1 k3) (And.intro (K2.out.2.below k3) t3.texts))
        clear k3 t3
        go_wp2_with fail
        refine (HM.out.2.2.2 _ a3 a1 c3 c1 K3.out.2.2 K3.out.2.1).mono ?_
        rintro e2 w4 ⟨rfl, k4⟩
        have K4 := Lib.hid (wbelow_call K3.out.1 k4)
        clear k4
        go_wp2_with fail
        go_ret
        exact ⟨rfl, K4.out⟩
end Go.Proofs.YtgoimggfpagojaaDoor

namespace Go.Proofs.YtgoimggfpagojaaDoor.wordsAgainLaw
open Go.ChangeShapes Go.WideShapes Go.ChangeAt Go.RowKit
open Go.ChangeMaps (open_string shut_string)

set_option maxRecDepth 100000 in
theorem contract (H : Type) (enc : TypeId × Value → H) (W : World) (base : Nat) (args : Array Value) (ds gs : List (DataW H)) (before : List MemPlace)
    (hval : ∀ (j : Nat) t v, Tryd.f6.params[j]? = some t → args[j]? = some v → Value.okWide Tryd.prog W .any base t v)
    (hW : DataW.Whole enc Tryd.prog Tryd.f6.params.toList Rows.wordsAgainSpec.vars false W args.toList ds gs before) (hL : laidMetH Tryd.prog Rows.wordsAgainRow.laid W) :
    Calls Tryd.prog 6 args W fun e W' => ∃ v, e = .returned v ∧ Rows.wordsAgainSpec.post enc Tryd.prog Tryd.f6 false true false false W args v W' := by
  have hW' := hW
  obtain ⟨p, q, hA0, hV, rfl, hfz, hnd⟩ := hW
  have hA : DataW.TrodAll enc Tryd.prog W 0 (fun _ => true) true Tryd.f6.params.toList args.toList ds p := hA0
  rw [Tryd.params6] at hA hval
  obtain ⟨v0, vs0, d0, ds0, p0, q0, hargs, rfl, rfl, h0, r0⟩ := trodAll_cons hA
  obtain ⟨rfl, rfl, rfl⟩ := trodAll_nil r0
  obtain rfl : args = #[v0] := by cases args; simp_all
  obtain ⟨rfl, rfl⟩ := trodVars_none hV
  obtain ⟨s0, rfl, rfl, rfl, ws0⟩ := open_string Tryd.underlying9 (hval 0 9 v0 rfl rfl) h0
  clear hA0
  simp only [List.append_nil] at hW'
  refine (wagain_law s0 (by simpa using ws0) (w := W) (hG := glob_of_laid hL)).mono fun e W' ⟨he, hb⟩ => ?_
  subst he
  exact ⟨_, rfl, _, _, _, [], [], [], hW', trodAll_cons_mk (shut_bool Tryd.underlying4 _) trodAll_mk0, (trodAll_cons_mk (shut_string Tryd.underlying9 ws0) trodAll_mk0), rfl, hb.frame _, fun h => by cases h⟩
theorem laid_met (os : Os) : laidMet Tryd.prog Rows.wordsAgainRow.laid ((laidWorld os).forCall (fun _ _ => 0) ⟨#[], #[.string ⟨#[]⟩], []⟩).memory :=
  laidMet_of_run' 8 (by kernel_rfl) (by kernel_rfl)
theorem reads (os : Os) {H : Type} (enc : TypeId × Value → H) : ∃ places, DataW.whole enc Tryd.prog ((laidWorld os).forCall (fun _ _ => 0) ⟨#[], #[.string ⟨#[]⟩], []⟩).memory Tryd.f6.params.toList Rows.wordsAgainSpec.vars false #[Value.string ⟨#[]⟩].toList 8 = some ([.lit (.string [])], [], places) :=
  ⟨[], by kernel_rfl⟩
set_option maxRecDepth 100000 in
theorem lifted (os : Os) (started : os.Started) (H : Type) (enc : TypeId × Value → H) (F : Stop.Interp) :
    ReturnsInHanded {} Tryd.checked os 6 .any ((OpenSpec.ofChange Rows.wordsAgainSpec).preRow enc Tryd.prog Tryd.f6 Rows.wordsAgainRow.domain false Rows.wordsAgainRow.laid) (((OpenSpec.ofChange Rows.wordsAgainSpec).at F).post enc Tryd.prog Tryd.f6 false true false false) := by
  obtain ⟨places, hx⟩ := reads os enc
  refine returnsInHanded_of_row (C := Tryd.checked) (s := OpenSpec.ofChange Rows.wordsAgainSpec) own started (by kernel_rfl) Tryd.func6
    (witness_row_at (enc := enc) (C := Tryd.checked) false (laidWorld os) #[.string ⟨#[]⟩] rfl (by kernel_rfl) (by kernel_rfl) (by kernel_rfl)
      (OpenSpec.preRow_of_cond 8 hx (by kernel_rfl) (fun k hk => by cases hk) (by kernel_rfl) (laid_met os))) ?_
  intro W base args ds gs before hval hW _ _ _ hL _ _
  exact contract H enc W base args ds gs before hval hW hL
theorem said : Rows.WordsAgainSaid :=
  OpenClaim.holds_of_cond 6 Tryd.f6 rfl rfl rfl rfl rfl rfl rfl ⟨rfl, rfl, rfl, rfl, rfl⟩ rfl rfl rfl rfl rfl (by kernel_rfl) Tryd.func6 (by kernel_rfl)
    (of_decide_eq_true (by kernel_rfl)) (by unfold Func.isWrapper; first | (rw [if_pos (by decide +kernel)]; kernel_rfl) | (rw [if_neg (by decide +kernel)]; exact ⟨rfl, rfl⟩))
    (fun os started H enc _ F => by rw [OpenClaim.pre_eq_preRow]; exact lifted os started H enc F)
theorem plain (f : FuncId) (fn : Func) (hf : Tryd.pinned.checked.prog.funcNamed "lockbox/lockboxlaw15.WordsAgain" = some f) (hfn : Tryd.pinned.checked.prog.funcs[f]? = some fn) :
    false = Tryd.pinned.checked.prog.looks [] ∧ ∀ (j : Nat) t, fn.params[j]? = some t → Tryd.pinned.checked.prog.wantsStandIn t = false := by
  obtain rfl : f = 6 := Option.some.inj ((show Tryd.prog.funcNamed "lockbox/lockboxlaw15.WordsAgain" = some 6 by kernel_rfl).symm.trans hf) |>.symm
  obtain rfl : fn = Tryd.f6 := (Option.some.inj (Tryd.func6.symm.trans hfn)).symm
  refine ⟨by kernel_rfl, fun j t ht => ?_⟩
  rw [Tryd.params6] at ht
  have hm : t ∈ [9] := by simpa using Array.mem_of_getElem? ht
  have hall : ([9].all fun u => !Tryd.prog.wantsStandIn u) = true := by kernel_rfl
  exact (show Tryd.prog.wantsStandIn t = false by simpa using List.all_eq_true.1 hall t hm)
end Go.Proofs.YtgoimggfpagojaaDoor.wordsAgainLaw

namespace Go.Proofs.YtgoimggfpagojaaDoor
/-- THE CARD. -/
theorem wordsAgain_card : Rows.WordsAgainCardSaid :=
  Claim7.holds_tied_plain_at .later [] _ _ _ _ wordsAgainLaw.said (fun _ h => by cases h) (by kernel_rfl) (fun _ h => by cases h) wordsAgain_row_tie rfl ⟨rfl, rfl⟩ (by kernel_rfl) rfl wordsAgainLaw.plain (by kernel_rfl)
end Go.Proofs.YtgoimggfpagojaaDoor
