/- tree.twin, Twin: two unlike texts of one digest. -/
import Derived.Test.YtdjhlgodecnidaaDoorTrBase
import Derived.Test.YtdjhlgodecnidaaDoorClone
import Derived.Test.YtdjhlgodecnidaaDoorMB
import Derived.Maps.OwnSet
import Derived.Maps.OwnOps
import Derived.Deep.DeepCutAuto
import Derived.ProofKit
namespace Go.Proofs.YtdjhlgodecnidaaDoor
open Go.RowKit Go.Maps
open Tr

theorem lawStr : Keyed Tryd.prog 9 := string_keyed Tryd.underlying9
theorem zeroInt (w : World) : (zeroValue 3).run Tryd.prog w = .ok (.int .i64 0) w := by kernel_rfl
def gt (ss : List ByteArray) (j : Nat) : ByteArray := ss.getD j ByteArray.empty
/-- A digest as a key. -/
def ky (s : ByteArray) : Lit := .string (sumE s).data.toList
theorem ky_inj {a b : ByteArray} : ky a = ky b ↔ sumE a = sumE b := by
  unfold ky
  constructor
  · intro h
    injection h with h
    exact Go.WideShapes.bytes_inj h
  · intro h; rw [h]
/-- The map tells of the first so many texts. -/
structure MInv (ss : List ByteArray) (t : Nat) (D : DataW Unit) : Prop where
  isMap : IsMap D
  hit : ∀ x, has D (ky x) = true → ∃ j, j < t ∧ sumE (gt ss j) = sumE x ∧ D.atKey (ky x) (.lit (.int .i64 0)) = .lit (.int .i64 j)
  all : ∀ j, j < t → has D (ky (gt ss j)) = true
theorem MInv.zero (ss : List ByteArray) : MInv ss 0 (.map []) := ⟨isMap_empty, (fun x h => by cases h), (fun j hj => by omega)⟩
theorem MInv.put {ss : List ByteArray} {t : Nat} {D : DataW Unit} (h : MInv ss t D) : MInv ss (t + 1) (D.put (ky (gt ss t)) (.lit (.int .i64 t))) := by
  have hk : WideAt.IsKeyLit (ky (gt ss t)) := trivial
  refine ⟨h.isMap.put _ _, fun x hx => ?_, fun j hj => ?_⟩
  · by_cases e : ky x = ky (gt ss t)
    · refine ⟨t, by omega, (ky_inj.1 e).symm, ?_⟩
      rw [e, atKey_put_same h.isMap hk]
    · rw [has_put_other e] at hx
      obtain ⟨j, hj, h1, h2⟩ := h.hit x hx
      exact ⟨j, by omega, h1, by rw [atKey_put_other e]; exact h2⟩
  · by_cases e : ky (gt ss j) = ky (gt ss t)
    · rw [e]; exact has_put_same h.isMap hk _
    · rw [has_put_other e]
      refine h.all j ?_
      by_cases e2 : j = t
      · exact absurd (by rw [e2]) e
      · omega
theorem MInv.skip {ss : List ByteArray} {t : Nat} {D : DataW Unit} (h : MInv ss t D) (hh : has D (ky (gt ss t)) = true) : MInv ss (t + 1) D := by
  refine ⟨h.isMap, fun x hx => ?_, fun j hj => ?_⟩
  · obtain ⟨j, hj, h1, h2⟩ := h.hit x hx
    exact ⟨j, by omega, h1, h2⟩
  · by_cases e : j = t
    · rw [e]; exact hh
    · exact h.all j (by omega)
/-- What was found among the first so many. -/
def Found (ss : List ByteArray) (t : Nat) (f : Nat) (a b : ByteArray) (is : Bool) : Prop :=
  (is = true ∧ ∃ i j, i < ss.length ∧ j < ss.length ∧ a = gt ss i ∧ b = gt ss j ∧ a ≠ b ∧ sumE a = sumE b) ∨
  (is = false ∧ f = ss.length ∧ a = ⟨#[]⟩ ∧ b = ⟨#[]⟩ ∧ ∀ i j, i < t → j < t → sumE (gt ss i) = sumE (gt ss j) → gt ss i = gt ss j)
theorem Found.new {ss : List ByteArray} {t f : Nat} {a b : ByteArray} {is : Bool} {D : DataW Unit} (h : Found ss t f a b is) (hI : MInv ss t D) (hn : has D (ky (gt ss t)) = false) : Found ss (t + 1) f a b is := by
  rcases h with h | ⟨h1, h2, h3, h4, h5⟩
  · exact Or.inl h
  · refine Or.inr ⟨h1, h2, h3, h4, fun i j hi hj he => ?_⟩
    have key : ∀ k, k < t → sumE (gt ss k) = sumE (gt ss t) → False := fun k hk e => by
      have := hI.all k hk
      rw [ky_inj.2 e, hn] at this
      cases this
    by_cases e1 : i = t
    · by_cases e2 : j = t
      · rw [e1, e2]
      · rw [e1] at he; exact (key j (by omega) he.symm).elim
    · by_cases e2 : j = t
      · rw [e2] at he; exact (key i (by omega) he).elim
      · exact h5 i j (by omega) (by omega) he
theorem Found.old {ss : List ByteArray} {t f c : Nat} {a b : ByteArray} {is : Bool} (h : Found ss t f a b is) (hc : c < t) (ht : t < ss.length) (he : sumE (gt ss c) = sumE (gt ss t)) (hn : ¬ (c < f ∧ gt ss c ≠ gt ss t)) : Found ss (t + 1) f a b is := by
  rcases h with h | ⟨h1, h2, h3, h4, h5⟩
  · exact Or.inl h
  · have hce : gt ss c = gt ss t := Classical.byContradiction fun e => hn ⟨by omega, e⟩
    refine Or.inr ⟨h1, h2, h3, h4, fun i j hi hj hij => ?_⟩
    by_cases e1 : i = t
    · by_cases e2 : j = t
      · rw [e1, e2]
      · rw [e1] at hij ⊢
        rw [← hce]
        exact h5 c j hc (by omega) (he.trans hij)
    · by_cases e2 : j = t
      · rw [e2] at hij ⊢
        rw [← hce]
        exact h5 i c (by omega) hc (hij.trans he.symm)
      · exact h5 i j (by omega) (by omega) hij
/-- What Twin answers. -/
def TwinE (ss : List ByteArray) (e : Ending) : Prop :=
  ∃ a b is, e = .returned (.tuple #[.string a, .string b, .bool is]) ∧ (is = true → a ∈ ss ∧ b ∈ ss ∧ a ≠ b ∧ sumE a = sumE b) ∧ (is = false → a = ⟨#[]⟩ ∧ b = ⟨#[]⟩ ∧ ¬ TwinIn ss)
theorem gt_mem {ss : List ByteArray} {i : Nat} (h : i < ss.length) : gt ss i ∈ ss := by
  unfold gt
  rw [List.getD_eq_getElem?_getD, List.getElem?_eq_getElem h]
  exact List.getElem_mem h
theorem Found.done {ss : List ByteArray} {f : Nat} {a b : ByteArray} {is : Bool} (h : Found ss ss.length f a b is) : (is = true → a ∈ ss ∧ b ∈ ss ∧ a ≠ b ∧ sumE a = sumE b) ∧ (is = false → a = ⟨#[]⟩ ∧ b = ⟨#[]⟩ ∧ ¬ TwinIn ss) := by
  rcases h with ⟨h1, i, j, hi, hj, ha, hb, hne, he⟩ | ⟨h1, h2, h3, h4, h5⟩
  · exact ⟨fun _ => ⟨by rw [ha]; exact gt_mem hi, by rw [hb]; exact gt_mem hj, hne, he⟩, (fun e => by rw [h1] at e; cases e)⟩
  · refine ⟨(fun e => by rw [h1] at e; cases e), fun _ => ⟨h3, h4, ?_⟩⟩
    rintro ⟨x, y, hx, hy, hne, he⟩
    obtain ⟨i, hi, rfl⟩ := List.mem_iff_getElem.1 hx
    obtain ⟨j, hj, rfl⟩ := List.mem_iff_getElem.1 hy
    have e1 : gt ss i = ss[i] := by unfold gt; rw [List.getD_eq_getElem?_getD, List.getElem?_eq_getElem hi]; rfl
    have e2 : gt ss j = ss[j] := by unfold gt; rw [List.getD_eq_getElem?_getD, List.getElem?_eq_getElem hj]; rfl
    rw [← e1, ← e2] at hne he
    exact hne (h5 i j hi hj he)
theorem grown_of {B : Nat} {w w' : World} (h : Below B w w') (hB : B = w.heap.size) : w.grownBy w' none := by
  obtain ⟨a, b, c, d, e⟩ := h
  exact ⟨a, b, c, d, fun k hk _ => e k (by omega)⟩
theorem twin_beq (a b : ByteArray) : (a.toList == b.toList) = decide (a = b) := by
  by_cases h : a = b
  · subst h; simp
  · rw [decide_eq_false h]
    cases hb : (a.toList == b.toList) with
    | false => rfl
    | true =>
      have := beq_iff_eq.1 hb
      rw [toList_data, toList_data] at this
      exact absurd (Go.WideShapes.bytes_inj this) h
theorem below_up {B : Nat} {w w' : World} (h : w.grownBy w' (some B)) (hB : B ≤ w.heap.size) : Below B w w' := by
  obtain ⟨a, b, c, d, e⟩ := h
  exact ⟨a, b, c, d, fun k hk => e k (by omega) (by intro e; injection e with e; omega)⟩
set_option maxRecDepth 100000 in
set_option maxHeartbeats 2000000 in
theorem twin_any (ss : List ByteArray) (a0 : Option Addr) (cap : Nat) (w : World) (hG : Glob w) (hT : TextsAt w a0 ss) (hm : ss.length ≤ 1000000) (hs : ∀ j, j < ss.length → (gt ss j).size ≤ 100000) :
    Calls Tryd.prog 74 #[.slice a0 ss.length cap, .func (Fn.func 56) #[] #[]] w fun e w' => TwinE ss e ∧ Below w.heap.size w w' := by
  have hmm := @run_makeMap Tryd.prog
  obtain ⟨n, hn⟩ : ∃ n, n = ss.length := ⟨_, rfl⟩
  have HT := Lib.hid (And.intro hT (And.intro hn hs))
  have HG := Lib.hid hG
  rw [← hn] at hm ⊢
  clear hT hn hs hG
  go_enter Tryd.func74, Tryd.ntmps74
  go_wp2_with fail
  go_loopw [4, 5, 6, 8, 9, 10, 11, 12, 13, 19] (fun va vb vi vf _ _ _ _ _ vc wr => ∃ (t f : Nat) (a b : ByteArray) (is : Bool) (D : DataW Unit), t ≤ n ∧ f ≤ n ∧ va = .string a ∧ vb = .string b ∧ vi = .bool is ∧ vf = .int .i64 f ∧ vc = .int .i64 t ∧
    MInv ss t D ∧ Found ss t f a b is ∧ wr.ownsMap Tryd.prog 9 (plainElem Tryd.prog 3) w.heap.size t D ∧ Below w.heap.size w wr ∧ a.size ≤ 100000 ∧ b.size ≤ 100000) (fun _ _ _ _ _ _ _ _ _ vc _ => n - (intOf vc).toNat)
  case atStart => exact ⟨0, n, ⟨#[]⟩, ⟨#[]⟩, false, .map [], by omega, by omega, rfl, rfl, rfl, rfl, rfl, MInv.zero ss, Or.inr ⟨rfl, HT.out.2.1, rfl, rfl, fun i j hi => by omega⟩, World.ownsMap_made _ _ _ _, (Below.refl _ _).alloc (Nat.le_refl _) _, by decide, by decide⟩
  case round =>
    obtain ⟨t, f, a, b2, is, D, ht, hf, rfl, rfl, rfl, rfl, rfl, hI, hF, hown, hb, has1, has2⟩ := hrel
    by_cases hlt : t < n
    · obtain ⟨b, off, hab, _, hc⟩ := (HT.out.1.below hb) t (by have := HT.out.2.1; omega)
      subst hab
      obtain ⟨x, hx⟩ : ∃ x, x = gt ss t := ⟨_, rfl⟩
      have hx2 := HT.out.2.2 t (by have := HT.out.2.1; omega)
      rw [← hx] at hx2
      rw [show ss.getD t ByteArray.empty = x from hx.symm] at hc
      have ds := fun W hG => dsum_any x (by omega) W hG
      obtain ⟨dd, hdd⟩ : ∃ d, d = sumE x := ⟨_, rfl⟩
      rw [show str (sha x.data.toList) = dd from hdd.symm] at ds
      have hds : dd.size = 32 := by rw [hdd]; exact sumE_size _
      have hkey : keyOf Tryd.prog 9 (.string dd) = some (ky x) := by rw [Go.WideMaps.keyOf_string_mk Tryd.underlying9 (by unfold maxLen; omega), hdd]; rfl
      have H := Lib.hid (And.intro hI (And.intro hF (And.intro hown (And.intro hb (And.intro hx (And.intro ds (And.intro has1 has2)))))))
      have HX := Lib.hid (show x.size ≤ 100000 from hx2)
      have hwt : (Lit.int .i64 (t : Int)).wf = true := Go.WalkArith.wf_i64 (by omega)
      cases hh : has D (ky x) with
      | false =>
        clear hI hF hown hb hx hdd hds hx2 has1 has2
        go_upto_region 7 with (first | (refine (ds _ (HG.out.below H.out.2.2.2.1)).mono ?_; rintro e w1 ⟨rfl, hb1⟩) | fail)
        have hown1 := H.out.2.2.1.kept (row := none) (grown_of hb1 rfl) (by simp)
        have hbb := H.out.2.2.2.1.trans (hb1.mono H.out.2.2.2.1.size)
        clear hb1 ds
        go_wp2_with (first
          | (at_lookup; refine wpList_lookup_own_ok_int _ rfl _ _ 129 rfl 9 3 .i64 lawStr Tryd.underlying129 Tryd.underlying3 (zeroInt _) w.heap.size t D rfl hown1 _ _ rfl hkey ?_; intro cc hat hwc; rw [hh])
          | (at_mapUpdate; refine wpList_mapUpdate_own _ rfl _ _ _ 129 rfl 9 3 lawStr Tryd.underlying129 _ w.heap.size t D rfl hown1 (by unfold maxLen; omega) _ _ _ rfl rfl hkey (.lit (.int .i64 t)) [] (plainElem_int Tryd.underlying3 hwt) ?_; intro w2 hown2 hgr2)
          | fail)
        have hx' : x = gt ss t := H.out.2.2.2.2.1
        have hput : MInv ss (t + 1) (D.put (ky x) (.lit (.int .i64 t))) := by rw [hx']; exact H.out.1.put
        have hF2 : Found ss (t + 1) f a b2 is := H.out.2.1.new H.out.1 (by rw [← hx']; exact hh)
        refine ⟨⟨t + 1, f, a, b2, is, _, by omega, hf, rfl, rfl, rfl, rfl, congrArg _ (by omega), hput, hF2, hown2, hbb.trans (below_up hgr2 hbb.size), H.out.2.2.2.2.2.2.1, H.out.2.2.2.2.2.2.2⟩, ?_⟩
        show n - ((t : Int) + 1).toNat < n - ((t : Int)).toNat
        omega
      | true =>
        obtain ⟨c, hct, hce, hcat⟩ := hI.hit x hh
        clear hI hF hown hb hx hdd hds hx2 has1 has2
        go_upto_region 7 with (first | (refine (ds _ (HG.out.below H.out.2.2.2.1)).mono ?_; rintro e w1 ⟨rfl, hb1⟩) | fail)
        have hown1 := H.out.2.2.1.kept (row := none) (grown_of hb1 rfl) (by simp)
        have hbb := H.out.2.2.2.1.trans (hb1.mono H.out.2.2.2.1.size)
        obtain ⟨b3, off3, hab, _, hc1⟩ := (HT.out.1.below hbb) c (by have := HT.out.2.1; omega)
        cases hab
        obtain ⟨y, hy⟩ : ∃ y, y = gt ss c := ⟨_, rfl⟩
        have hy2 := HT.out.2.2 c (by have := HT.out.2.1; omega)
        rw [← hy] at hy2
        rw [show ss.getD c ByteArray.empty = y from hy.symm] at hc1
        clear hb1 ds
        have hne : (y.toList == x.toList) = decide (y = x) := twin_beq y x
        have HY := Lib.hid (And.intro hy2 (And.intro hy (And.intro hce hcat)))
        clear hy2 hy hce
        have HX' := Lib.hid (show x = gt ss t from H.out.2.2.2.2.1)
        have hskip : MInv ss (t + 1) D := H.out.1.skip (by rw [← HX'.out]; exact hh)
        by_cases h1 : c < f
        · by_cases h2 : y = x
          · rw [decide_eq_true h2] at hne
            have HF2 := Lib.hid (show Found ss (t + 1) f a b2 is from H.out.2.1.old hct (by have := HT.out.2.1; omega) (by rw [← HX'.out]; exact HY.out.2.2.1) (fun e => e.2 (by rw [← HY.out.2.1, ← HX'.out, h2])))
            go_wp2_with (first
              | (at_lookup; refine wpList_lookup_own_ok_int _ rfl _ _ 129 rfl 9 3 .i64 lawStr Tryd.underlying129 Tryd.underlying3 (zeroInt _) w.heap.size t D rfl hown1 _ _ rfl hkey ?_; intro cc hat hwc; rw [hh]; rw [hcat] at hat; injection hat with hat; injection hat with _ hat; subst hat)
              | fail)
            refine ⟨⟨t + 1, f, a, b2, is, D, by omega, hf, rfl, rfl, rfl, rfl, congrArg _ (by omega), hskip, HF2.out, hown1.mono (by omega), hbb, H.out.2.2.2.2.2.2.1, H.out.2.2.2.2.2.2.2⟩, ?_⟩
            show n - ((t : Int) + 1).toNat < n - ((t : Int)).toNat
            omega
          · rw [decide_eq_false h2] at hne
            have HF2 := Lib.hid (show Found ss (t + 1) c y x true from Or.inl ⟨rfl, c, t, by have := HT.out.2.1; omega, by have := HT.out.2.1; omega, HY.out.2.1, HX'.out, h2, (congrArg sumE HY.out.2.1).trans HY.out.2.2.1⟩)
            go_wp2_with (first
              | (at_lookup; refine wpList_lookup_own_ok_int _ rfl _ _ 129 rfl 9 3 .i64 lawStr Tryd.underlying129 Tryd.underlying3 (zeroInt _) w.heap.size t D rfl hown1 _ _ rfl hkey ?_; intro cc hat hwc; rw [hh]; rw [hcat] at hat; injection hat with hat; injection hat with _ hat; subst hat)
              | fail)
            go_region
            go_wp2_with fail
            refine ⟨⟨t + 1, c, y, x, true, D, by omega, by omega, rfl, rfl, rfl, rfl, congrArg _ (by omega), hskip, HF2.out, (hown1.drew).mono (by omega), hbb.drew, HY.out.1, HX.out⟩, ?_⟩
            show n - ((t : Int) + 1).toNat < n - ((t : Int)).toNat
            omega
        · have HF2 := Lib.hid (show Found ss (t + 1) f a b2 is from H.out.2.1.old hct (by have := HT.out.2.1; omega) (by rw [← HX'.out]; exact HY.out.2.2.1) (fun e => h1 e.1))
          go_wp2_with (first
            | (at_lookup; refine wpList_lookup_own_ok_int _ rfl _ _ 129 rfl 9 3 .i64 lawStr Tryd.underlying129 Tryd.underlying3 (zeroInt _) w.heap.size t D rfl hown1 _ _ rfl hkey ?_; intro cc hat hwc; rw [hh]; rw [hcat] at hat; injection hat with hat; injection hat with _ hat; subst hat)
            | fail)
          refine ⟨⟨t + 1, f, a, b2, is, D, by omega, hf, rfl, rfl, rfl, rfl, congrArg _ (by omega), hskip, HF2.out, hown1.mono (by omega), hbb, H.out.2.2.2.2.2.2.1, H.out.2.2.2.2.2.2.2⟩, ?_⟩
          show n - ((t : Int) + 1).toNat < n - ((t : Int)).toNat
          omega
    · have hd := Lib.hid (Found.done (show Found ss ss.length f a b2 is by rw [← HT.out.2.1, ← (show t = n by omega)]; exact hF))
      clear hI hF hown
      go_wp2_with (first
        | (refine (clone_any _ _ (by omega)).mono ?_; rintro e v ⟨rfl, hv⟩; replace hb := hb.trans (hv.mono hb.size); clear hv)
        | fail)
      go_ret3
      exact ⟨⟨a, b2, is, rfl, hd.out⟩, hb⟩
end Go.Proofs.YtdjhlgodecnidaaDoor
