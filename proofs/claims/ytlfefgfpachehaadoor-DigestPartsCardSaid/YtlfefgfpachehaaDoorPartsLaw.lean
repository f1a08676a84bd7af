/- PROVED HERE: for every list of texts the law DigestParts returns true (a run that takes them one by one has at each of them the digest of all so far, and its size), and the list reads afterwards as it did. Its conditions: the two package-level tables hold what their initialisers lay (tied to the program's text by the card). -/
import Derived.Test.YtlfefgfpachehaaDoorJoinsLaw
namespace Go.Proofs.YtlfefgfpachehaaDoor
open Go.RowKit

theorem ld34_hide3 (p : Value) : Instr.loadAt 34 p = ldRow 34 p := rfl
theorem st34_hide3 (p v : Value) : Instr.storeAt 34 p v = stRow 34 p v := rfl
attribute [local go_sem ↓] ld34_hide3 st34_hide3
attribute [local go_sem] ld34_eq st34_eq

set_option maxRecDepth 100000 in
set_option maxHeartbeats 800000 in
theorem parts_law (ss : List ByteArray) (a0 : Option Addr) (cap : Nat) (w : World) (hG : Glob w) (hT : TextsAt w a0 ss) (hm : ss.length ≤ maxLen) :
    Calls Tryd.prog 5 #[.slice a0 ss.length cap] w fun e w' => e = .returned (.bool true) ∧ Below w.heap.size w w' := by
  by_cases hfew : FewOf ss 20 300
  · have h20 : ss.length ≤ 20 := by have := hfew.1; omega
    have hs : ∀ j, j < ss.length → (ss.getD j ByteArray.empty).size ≤ 300 := fun j hj => by have := hfew.2 j hj; omega
    have hbt := fewB_true hfew
    have HF := Lib.hid (And.intro hbt (And.intro hT hm))
    obtain ⟨n, hn⟩ : ∃ n, n = ss.length := ⟨_, rfl⟩
    have HT := Lib.hid (And.intro hT (And.intro hn hs))
    clear hbt hfew hT hm hs
    rw [← hn] at h20
    have hz34 := z34
    have few := few_any ss a0 cap 20 300 w HF.out.2.1 HF.out.2.2
    rw [HF.out.1, ← hn] at few
    have HFew := Lib.hid few
    clear few
    rw [← hn]
    clear hn
    go_enter Tryd.func5, Tryd.ntmps5
    go_wp2_with fail
    refine HFew.out.mono ?_
    rintro e w0 ⟨rfl, rfl⟩
    go_wp2_with fail
    refine (begin_any _).mono ?_
    rintro e w1 ⟨rfl, hb⟩
    have z0 := zero73_size
    go_wp2_with (first
      | (refine wpList_store_row rfl 34 _ _ rfl w1.heap.size rfl 34 zero73 zero73 rfl (heap_alloc_new _ _) (by rw [z0]; kernel_rfl) rfl begin_run.oneCell ?_))
    have K1 : Kept w ((w1.alloc (.cells zero73 34)).setRow w1.heap.size zero73) [(w1.heap.size, zero73)] := Kept.lay ⟨hb, hG.below hb, fun p hp => by cases hp⟩ begin_run
    generalize World.setRow _ _ _ = w2 at *
    obtain ⟨g, hg⟩ : ∃ g, g = w1.heap.size := ⟨_, rfl⟩
    rw [← hg] at K1 ⊢
    clear hg hb
    go_loopw [4, 5] (fun t v wr => ∃ (i : Nat) (c : Array Value) (A : ByteArray), i ≤ n ∧ v = .int .i64 i ∧ t = .string A ∧ Kept w wr [(g, c)] ∧ RunOf c A.data.toList ∧ A = catN ss i) (fun _ v _ => n - (intOf v).toNat)
    case atStart => exact ⟨0, zero73, ⟨#[]⟩, by omega, rfl, rfl, K1, begin_run, rfl⟩
    case round =>
      clear K1
      obtain ⟨i, c, A, hi, rfl, rfl, K, hr, hA⟩ := hrel
      have r := K.row g c (by simp)
      have z := hr.size
      have hA3 := catN_size HT.out.2.2 i (by have := HT.out.2.1; omega)
      rw [← hA] at hA3
      by_cases hlt : i < n
      · obtain ⟨b, off, rfl, hbl, hc⟩ := (HT.out.1.below K.1) i (by have := HT.out.2.1; omega)
        have hx3 := HT.out.2.2 i (by have := HT.out.2.1; omega)
        obtain ⟨x, hx⟩ : ∃ x, x = ss.getD i ByteArray.empty := ⟨_, rfl⟩
        rw [← hx] at hc hx3
        have HX := Lib.hid (And.intro hx (And.intro K hA))
        clear hx hA
        have rd : rowOf wr.drew g = c := r
        have hcd : wr.drew.cell? ⟨b, off + i, none⟩ = some (.string x) := hc
        clear hc
        go_wp2_with fail
        have hGd : Glob wr.drew := HX.out.2.1.2.1.below ((Below.refl _ _).drew)
        go_region_with (go_at_call 17; refine (with_any c _ hr x (by have : A.data.toList.length = A.size := rfl; omega) _ hGd).mono ?_; rintro e w3 ⟨c', rfl, hr', hb⟩; have hc73 : Whole73 c' := ⟨hr'.size, hr'.oneCell⟩; have r3 := rowAfter r z hb; have HK := Lib.hid (And.intro (HX.out.2.1.call (belowOfDrew hb)) (And.intro hr' hc73)); clear hb hr')
        all_goals
          have K4 := HK.out.1.set hG HK.out.2.1
          clear r3 rd hcd r
          generalize World.setRow _ _ _ = w4 at *
          have K4' := Lib.hid K4
          obtain ⟨b', off', hbo, hbl', hc⟩ := (HT.out.1.below K4.1) i (by have := HT.out.2.1; omega)
          obtain ⟨rfl, rfl⟩ : b = b' ∧ off = off' := by simpa using hbo
          rw [← HX.out.1] at hc
          have r := K4.row g c' (by simp)
          have z := HK.out.2.1.size
          clear K4 K hbo
          have hsz : ¬ 9223372036854775807 < A.size + x.size := by omega
          have hl : (A.data.toList ++ x.data.toList).length = (A ++ x).size := by simp
          go_wp2_with fail
          refine (size_any c' _ HK.out.2.1 _).mono ?_
          rintro e w5 ⟨rfl, hb⟩
          rw [hl]
          have K5 := Lib.hid (K4'.out.call hb)
          clear hb hc
          have r := K5.out.row g c' (by simp)
          go_wp2_with fail
          refine (rsum_any c' _ HK.out.2.1 (by rw [hl, ByteArray.size_append]; omega) _ K5.out.2.1).mono ?_
          rintro e w6 ⟨rfl, hb⟩
          have K6 := Lib.hid (K5.out.call hb)
          clear hb
          go_wp2_with fail
          refine (rsumref_any (A ++ x) (by rw [ByteArray.size_append]; omega) _).mono ?_
          rintro e w7 ⟨rfl, hb⟩
          have K7 := Lib.hid (K6.out.call hb)
          clear hb
          rw [data_append]
          go_wp2_with fail
          go_roundw
          case rel => exact ⟨i + 1, c', A ++ x, by omega, by go_num, rfl, K7.out, by rw [data_append]; exact HK.out.2.1, by rw [catN, ← HX.out.1, ← HX.out.2.2]⟩
          case measure => simp [intOf]; omega
      · obtain rfl : i = n := by omega
        have HK := Lib.hid K
        have HA := Lib.hid hA
        clear hA K r
        go_wp2_with fail
        refine (awake_any _ HK.out.2.1).mono ?_
        rintro e w3 ⟨rfl, hb⟩
        have K4 := Lib.hid (HK.out.call hb)
        have r := K4.out.row g c (by simp)
        clear hb
        go_wp2_with fail
        refine (rsum_any c _ hr (by have : A.data.toList.length = A.size := rfl; omega) _ K4.out.2.1).mono ?_
        rintro e w5 ⟨rfl, hb⟩
        have K5 := Lib.hid (K4.out.call hb)
        clear hb
        go_wp2_with fail
        refine (dsum_any A (by omega) _ K5.out.2.1).mono ?_
        rintro e w6 ⟨rfl, hb⟩
        have K6 := Lib.hid (K5.out.call hb)
        clear hb
        go_wp2_with fail
        go_ret
        exact ⟨rfl, K6.out.1⟩
  · have hbt := fewB_false hfew
    have HH := Lib.hid (And.intro hbt (And.intro hT hm))
    clear hbt hfew hT hm
    go_enter Tryd.func5, Tryd.ntmps5
    go_wp2_with fail
    refine (few_any ss a0 cap 20 300 _ HH.out.2.1 HH.out.2.2).mono ?_
    rintro e w0 ⟨rfl, rfl⟩
    rw [HH.out.1]
    go_wp2_with fail
    refine (awake_any _ hG).mono ?_
    rintro e w1 ⟨rfl, hb1⟩
    go_wp2_with fail
    go_ret
    exact ⟨rfl, hb1⟩
end Go.Proofs.YtlfefgfpachehaaDoor

namespace Go.Proofs.YtlfefgfpachehaaDoor.partsLaw
open Go.ChangeShapes Go.WideShapes Go.ChangeAt Go.RowKit
open Go.ChangeMaps (open_string shut_string)

theorem contract (H : Type) (enc : TypeId × Value → H) (W : World) (base : Nat) (args : Array Value) (ds gs : List (DataW H)) (before : List MemPlace)
    (hval : ∀ (j : Nat) t v, Tryd.f5.params[j]? = some t → args[j]? = some v → Value.okWide Tryd.prog W .any base t v)
    (hW : DataW.Whole enc Tryd.prog Tryd.f5.params.toList Rows.digestPartsSpec.vars false W args.toList ds gs before) (hL : laidMetH Tryd.prog Rows.digestPartsRow.laid W) :
    Calls Tryd.prog 5 args W fun e W' => ∃ v, e = .returned v ∧ Rows.digestPartsSpec.post enc Tryd.prog Tryd.f5 false true false false W args v W' := by
  have hW' := hW
  obtain ⟨p, q, hA0, hV, rfl, hfz, hnd⟩ := hW
  have hA : DataW.TrodAll enc Tryd.prog W 0 (fun _ => true) true Tryd.f5.params.toList args.toList ds p := hA0
  rw [Tryd.params5] at hA hval
  obtain ⟨v0, vs0, d0, ds0, p0, q0, hargs, rfl, rfl, h0, r0⟩ := trodAll_cons hA
  obtain ⟨rfl, rfl, rfl⟩ := trodAll_nil r0
  obtain rfl : args = #[v0] := by cases args; simp_all
  obtain ⟨rfl, rfl⟩ := trodVars_none hV
  obtain ⟨a0, len, cap, rfl⟩ := okWide_slice Tryd.underlying25 (hval 0 25 v0 rfl rfl)
  have h0k := h0
  obtain ⟨fuel, hf⟩ := h0
  clear hA0
  simp only [List.append_nil] at hW'
  have hlt : ∀ x ∈ p0, x.block < W.heap.size := fun x hx => by simpa using hW'.lt x (by simpa using hx)
  obtain ⟨ss, hlen, hmax, hT⟩ := texts_of hf hlt
  subst hlen
  refine (parts_law ss a0 cap W (glob_of_laid hL) hT hmax).mono fun e W' ⟨he, hb⟩ => ?_
  subst he
  exact ⟨_, rfl, _, _, _, [], _, [], hW', trodAll_cons_mk (shut_bool Tryd.underlying4 _) trodAll_mk0, trodAll_mk1 (Below.trod laidOut (by kernel_rfl) (of_decide_eq_true (by kernel_rfl)) h0k hb hlt), rfl, hb.frame _, fun h => by cases h⟩

theorem laid_met (os : Os) : laidMet Tryd.prog Rows.digestPartsRow.laid ((laidWorld os).forCall (fun _ _ => 0) ⟨#[], #[.slice none 0 0], []⟩).memory :=
  laidMet_of_run' 8 (by kernel_rfl) (by kernel_rfl)
theorem reads (os : Os) {H : Type} (enc : TypeId × Value → H) : ∃ places, DataW.whole enc Tryd.prog ((laidWorld os).forCall (fun _ _ => 0) ⟨#[], #[.slice none 0 0], []⟩).memory Tryd.f5.params.toList Rows.digestPartsSpec.vars false #[Value.slice none 0 0].toList 8 = some ([.nil], [], places) :=
  ⟨[], by kernel_rfl⟩

set_option maxRecDepth 100000 in
theorem lifted (os : Os) (started : os.Started) (H : Type) (enc : TypeId × Value → H) (F : Stop.Interp) :
    ReturnsInHanded {} Tryd.checked os 5 .any ((OpenSpec.ofChange Rows.digestPartsSpec).preRow enc Tryd.prog Tryd.f5 Rows.digestPartsRow.domain false Rows.digestPartsRow.laid) (((OpenSpec.ofChange Rows.digestPartsSpec).at F).post enc Tryd.prog Tryd.f5 false true false false) := by
  obtain ⟨places, hx⟩ := reads os enc
  refine returnsInHanded_of_row (C := Tryd.checked) (s := OpenSpec.ofChange Rows.digestPartsSpec) own started (by kernel_rfl) Tryd.func5
    (witness_row_at (enc := enc) (C := Tryd.checked) false (laidWorld os) #[.slice none 0 0] rfl (by kernel_rfl) (by kernel_rfl) (by kernel_rfl)
      (OpenSpec.preRow_of_cond 8 hx (by kernel_rfl) (fun k hk => by cases hk) (by kernel_rfl) (laid_met os))) ?_
  intro W base args ds gs before hval hW _ _ _ hL _ _
  exact contract H enc W base args ds gs before hval hW hL

theorem said : Rows.DigestPartsSaid :=
  OpenClaim.holds_of_cond 5 Tryd.f5 rfl rfl rfl rfl rfl rfl rfl ⟨rfl, rfl, rfl, rfl, rfl⟩ rfl rfl rfl rfl rfl (by kernel_rfl) Tryd.func5 (by kernel_rfl)
    (of_decide_eq_true (by kernel_rfl)) (by unfold Func.isWrapper; first | (rw [if_pos (by decide +kernel)]; kernel_rfl) | (rw [if_neg (by decide +kernel)]; exact ⟨rfl, rfl⟩))
    (fun os started H enc _ F => by rw [OpenClaim.pre_eq_preRow]; exact lifted os started H enc F)

theorem plain (f : FuncId) (fn : Func) (hf : Tryd.pinned.checked.prog.funcNamed "lockbox/lockboxlaw01.DigestParts" = some f) (hfn : Tryd.pinned.checked.prog.funcs[f]? = some fn) :
    false = Tryd.pinned.checked.prog.looks [] ∧ ∀ (j : Nat) t, fn.params[j]? = some t → Tryd.pinned.checked.prog.wantsStandIn t = false := by
  obtain rfl : f = 5 := Option.some.inj ((show Tryd.prog.funcNamed "lockbox/lockboxlaw01.DigestParts" = some 5 by kernel_rfl).symm.trans hf) |>.symm
  obtain rfl : fn = Tryd.f5 := (Option.some.inj (Tryd.func5.symm.trans hfn)).symm
  refine ⟨by kernel_rfl, fun j t ht => ?_⟩
  rw [Tryd.params5] at ht
  have hm : t ∈ [25] := by simpa using Array.mem_of_getElem? ht
  have hall : ([25].all fun u => !Tryd.prog.wantsStandIn u) = true := by kernel_rfl
  exact (show Tryd.prog.wantsStandIn t = false by simpa using List.all_eq_true.1 hall t hm)
end Go.Proofs.YtlfefgfpachehaaDoor.partsLaw

namespace Go.Proofs.YtlfefgfpachehaaDoor
/-- THE CARD. -/
theorem digestParts_card : Rows.DigestPartsCardSaid :=
  Claim7.holds_tied_plain_at .later [] _ _ _ _ partsLaw.said (fun _ h => by cases h) (by kernel_rfl) (fun _ h => by cases h) digestParts_row_tie rfl ⟨rfl, rfl⟩ (by kernel_rfl) rfl partsLaw.plain (by kernel_rfl)
end Go.Proofs.YtlfefgfpachehaaDoor
