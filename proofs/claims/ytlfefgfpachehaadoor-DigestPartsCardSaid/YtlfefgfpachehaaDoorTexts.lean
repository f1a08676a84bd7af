/- Lists of texts: Few, All, Join. -/
import Derived.Test.YtlfefgfpachehaaDoorForksLaw
import Derived.SliceStrings
namespace Go.Proofs.YtlfefgfpachehaaDoor
open Go.RowKit

/-- The texts of a slice, in memory. -/
def TextsAt (w : World) (a0 : Option Addr) (ss : List ByteArray) : Prop :=
  ∀ j, j < ss.length → ∃ b off, a0 = some ⟨b, off, none⟩ ∧ b < w.heap.size ∧ w.cell? ⟨b, off + j, none⟩ = some (.string (ss.getD j ByteArray.empty))
theorem TextsAt.below {w w' : World} {a0 : Option Addr} {ss : List ByteArray} (h : TextsAt w a0 ss) (hb : Below w.heap.size w w') : TextsAt w' a0 ss := fun j hj => by
  obtain ⟨b, off, rfl, hbl, hc⟩ := h j hj
  exact ⟨b, off, rfl, Nat.lt_of_lt_of_le hbl hb.size, by rw [hb.cell (p := ⟨b, off + j, none⟩) hbl]; exact hc⟩
/-- Not more than so many, each not longer than that. -/
def FewOf (ss : List ByteArray) (m k : Int) : Prop := (ss.length : Int) ≤ m ∧ ∀ j, j < ss.length → ((ss.getD j ByteArray.empty).size : Int) ≤ k
noncomputable def fewB (ss : List ByteArray) (m k : Int) : Bool := @decide (FewOf ss m k) (Classical.propDecidable _)
theorem fewB_true {ss : List ByteArray} {m k : Int} (h : FewOf ss m k) : fewB ss m k = true := by unfold fewB; exact @decide_eq_true _ (Classical.propDecidable _) h
theorem fewB_false {ss : List ByteArray} {m k : Int} (h : ¬ FewOf ss m k) : fewB ss m k = false := by unfold fewB; exact @decide_eq_false _ (Classical.propDecidable _) h

set_option maxRecDepth 100000 in
set_option maxHeartbeats 400000 in
theorem few_any (ss : List ByteArray) (a0 : Option Addr) (cap : Nat) (m k : Int) (w : World) (hT : TextsAt w a0 ss) (hm : ss.length ≤ maxLen) :
    Calls Tryd.prog 13 #[.slice a0 ss.length cap, .int .i64 m, .int .i64 k] w fun e w' => e = .returned (.bool (fewB ss m k)) ∧ w = w' := by
  unfold maxLen at hm
  obtain ⟨n, hn⟩ : ∃ n, n = ss.length := ⟨_, rfl⟩
  have HT := Lib.hid hT
  clear hT
  rw [← hn] at hm ⊢
  by_cases hmost : m < (n : Int)
  · rw [fewB_false (fun h => by have := h.1; omega)]
    clear hn
    go_enter Tryd.func13, Tryd.ntmps13
    go_wp2_with fail
    go_ret
    exact ⟨rfl, rfl⟩
  · have HN := Lib.hid hn
    clear hn
    obtain ⟨B, hB⟩ : ∃ B, B = fewB ss m k := ⟨_, rfl⟩
    rw [← hB]
    have HB := Lib.hid hB
    clear hB
    go_enter Tryd.func13, Tryd.ntmps13
    go_wp2_with fail
    go_loopw [7] (fun c wr => ∃ i : Nat, i ≤ n ∧ c = .int .i64 i ∧ wr = w ∧ ∀ j, j < i → ((ss.getD j ByteArray.empty).size : Int) ≤ k) (fun c _ => n - (intOf c).toNat)
    case atStart => exact ⟨0, by omega, rfl, rfl, fun j hj => absurd hj (by omega)⟩
    case round =>
      obtain ⟨i, hi, rfl, rfl, hall⟩ := hrel
      have HA := Lib.hid hall
      clear hall
      by_cases hlt : i < n
      · obtain ⟨b, off, rfl, _, hc⟩ := HT.out i (by have := HN.out; omega)
        obtain ⟨x, hx⟩ : ∃ x, x = ss.getD i ByteArray.empty := ⟨_, rfl⟩
        rw [← hx] at hc
        by_cases hlong : k < (x.size : Int)
        · have hBf : B = false := by rw [HB.out]; exact fewB_false fun h => by have := h.2 i (by have := HN.out; omega); rw [← hx] at this; omega
          subst hBf
          have HX := Lib.hid hx
          clear hx
          go_wp2_with fail
          go_ret
          exact ⟨rfl, rfl⟩
        · have HX := Lib.hid hx
          clear hx
          go_wp2_with fail
          go_roundw
          case rel =>
            refine ⟨i + 1, by omega, by go_num, trivial, fun j hj => ?_⟩
            by_cases e : j = i
            · subst e; rw [← HX.out]; omega
            · exact HA.out j (by omega)
          case measure => simp [intOf]; omega
      · obtain rfl : i = n := by omega
        have hBt : B = true := by rw [HB.out]; exact fewB_true ⟨by have := HN.out; omega, fun j hj => HA.out j (by have := HN.out; omega)⟩
        subst hBt
        go_wp2_with fail
        go_ret
        exact ⟨rfl, rfl⟩

/-- Texts, one behind the other: the first i. -/
def catN (ss : List ByteArray) : Nat → ByteArray
  | 0 => ⟨#[]⟩
  | i + 1 => catN ss i ++ ss.getD i ByteArray.empty
theorem catN_size {ss : List ByteArray} {m : Nat} (h : ∀ j, j < ss.length → (ss.getD j ByteArray.empty).size ≤ m) : ∀ i, i ≤ ss.length → (catN ss i).size ≤ m * i
  | 0, _ => by rw [catN]; exact Nat.zero_le _
  | i + 1, hi => by
    have h1 := catN_size h i (by omega)
    have h2 := h i (by omega)
    rw [catN, ByteArray.size_append, Nat.mul_add]; omega

set_option maxRecDepth 100000 in
set_option maxHeartbeats 400000 in
theorem all_any (ss : List ByteArray) (a0 : Option Addr) (cap : Nat) (w : World) (hT : TextsAt w a0 ss) (hm : ss.length ≤ 20) (hs : ∀ j, j < ss.length → (ss.getD j ByteArray.empty).size ≤ 300) :
    Calls Tryd.prog 15 #[.slice a0 ss.length cap] w fun e w' => e = .returned (.string (catN ss ss.length)) ∧ w = w' := by
  obtain ⟨n, hn⟩ : ∃ n, n = ss.length := ⟨_, rfl⟩
  have HT := Lib.hid (And.intro hT (And.intro hn hs))
  rw [← hn] at hm ⊢
  clear hT hn hs
  go_enter Tryd.func15, Tryd.ntmps15
  go_wp2_with fail
  go_loopw [3, 4] (fun v c wr => ∃ (i : Nat) (A : ByteArray), i ≤ n ∧ c = .int .i64 i ∧ v = .string A ∧ A = catN ss i ∧ wr = w) (fun _ c _ => n - (intOf c).toNat)
  case atStart => exact ⟨0, _, by omega, rfl, rfl, rfl, rfl⟩
  case round =>
    obtain ⟨i, A, hi, rfl, rfl, hA, rfl⟩ := hrel
    by_cases hlt : i < n
    · obtain ⟨b, off, rfl, _, hc⟩ := HT.out.1 i (by have := HT.out.2.1; omega)
      have hx3 := HT.out.2.2 i (by have := HT.out.2.1; omega)
      have hA3 := catN_size HT.out.2.2 i (by have := HT.out.2.1; omega)
      obtain ⟨x, hx⟩ : ∃ x, x = ss.getD i ByteArray.empty := ⟨_, rfl⟩
      rw [← hx] at hc hx3
      rw [← hA] at hA3
      have HX := Lib.hid (And.intro hx hA)
      clear hx hA
      have hsz : ¬ 9223372036854775807 < A.size + x.size := by omega
      go_wp2_with fail
      go_roundw
      case rel => exact ⟨i + 1, A ++ x, by omega, by go_num, rfl, by rw [catN, ← HX.out.1, ← HX.out.2], trivial⟩
      case measure => simp [intOf]; omega
    · obtain rfl : i = n := by omega
      have HX := Lib.hid hA
      clear hA
      go_wp2_with fail
      go_ret
      exact ⟨congrArg (fun x => Ending.returned (.string x)) HX.out, rfl⟩

theorem ld34_hide2 (p : Value) : Instr.loadAt 34 p = ldRow 34 p := rfl
theorem st34_hide2 (p v : Value) : Instr.storeAt 34 p v = stRow 34 p v := rfl
attribute [local go_sem ↓] ld34_hide2 st34_hide2
attribute [local go_sem] ld34_eq st34_eq
theorem catN_data (ss : List ByteArray) (i : Nat) : (catN ss (i + 1)).data.toList = (catN ss i).data.toList ++ (ss.getD i ByteArray.empty).data.toList := by rw [catN, data_append]
theorem Kept.set {w0 W : World} {g : Nat} {c c' : Array Value} {l : List UInt8} (h : Kept w0 W [(g, c)]) (hG : Glob w0) (hr : RunOf c' l) : Kept w0 (W.setRow g c') [(g, c')] := by
  have hp := h.2.2 (g, c) (by simp)
  obtain ⟨t, ht⟩ := rowOf_heap (W := W) (g := g) (n := 72) (by rw [hp.1]; exact hp.2.1)
  have hb := below_setRow h.1 g c' hp.2.2
  refine ⟨hb, hG.below hb, fun p hp' => ?_⟩
  obtain rfl := List.mem_singleton.1 hp'
  exact ⟨rowOf_eq (setRow_heap _ _ _ _ _ _ ht), hr.size, hp.2.2⟩

set_option maxRecDepth 100000 in
set_option maxHeartbeats 400000 in
theorem join_any (ss : List ByteArray) (a0 : Option Addr) (cap : Nat) (w : World) (hG : Glob w) (hT : TextsAt w a0 ss) (hm : ss.length ≤ 20) (hs : ∀ j, j < ss.length → (ss.getD j ByteArray.empty).size ≤ 300) :
    Calls Tryd.prog 14 #[.slice a0 ss.length cap] w fun e w' => e = .returned (.string (str (sha (catN ss ss.length).data.toList))) ∧ Below w.heap.size w w' := by
  obtain ⟨n, hn⟩ : ∃ n, n = ss.length := ⟨_, rfl⟩
  have HT := Lib.hid (And.intro hT (And.intro hn hs))
  rw [← hn] at hm ⊢
  clear hT hn hs
  have hz34 := z34
  go_enter Tryd.func14, Tryd.ntmps14
  go_wp2_with fail
  refine (begin_any _).mono ?_
  rintro e w1 ⟨rfl, hb⟩
  have z0 := zero73_size
  go_wp2_with (first
    | (refine wpList_store_row rfl 34 _ _ rfl w1.heap.size rfl 34 zero73 zero73 rfl (heap_alloc_new _ _) (by rw [z0]; kernel_rfl) rfl begin_run.oneCell ?_))
  have K1 : Kept w ((w1.alloc (.cells zero73 34)).setRow w1.heap.size zero73) [(w1.heap.size, zero73)] := Kept.lay ⟨hb, hG.below hb, fun p hp => by cases hp⟩ begin_run
  generalize World.setRow _ _ _ = w2 at *
  obtain ⟨g, hg⟩ : ∃ g, g = w1.heap.size := ⟨_, rfl⟩
  rw [← hg] at K1 ⊢
  clear hg hb
  go_loopw [9] (fun v wr => ∃ (i : Nat) (c : Array Value), i ≤ n ∧ v = .int .i64 i ∧ Kept w wr [(g, c)] ∧ RunOf c (catN ss i).data.toList) (fun v _ => n - (intOf v).toNat)
  case atStart => exact ⟨0, zero73, by omega, rfl, K1, begin_run⟩
  case round =>
    clear K1
    obtain ⟨i, c, hi, rfl, K, hr⟩ := hrel
    have r := K.row g c (by simp)
    have z := hr.size
    have hA3 := catN_size HT.out.2.2 i (by have := HT.out.2.1; omega)
    by_cases hlt : i < n
    · obtain ⟨b, off, rfl, hbl, hc⟩ := (HT.out.1.below K.1) i (by have := HT.out.2.1; omega)
      have hx3 := HT.out.2.2 i (by have := HT.out.2.1; omega)
      obtain ⟨x, hx⟩ : ∃ x, x = ss.getD i ByteArray.empty := ⟨_, rfl⟩
      rw [← hx] at hc hx3
      have HX := Lib.hid (And.intro hx K)
      clear hx
      go_wp2_with fail
      refine (with_any c _ hr x (by have : (catN ss i).data.toList.length = (catN ss i).size := rfl; omega) _ HX.out.2.2.1).mono ?_
      rintro e w3 ⟨c', rfl, hr', hb⟩
      have hc73 : Whole73 c' := ⟨hr'.size, hr'.oneCell⟩
      have r3 := rowAfter2 r z hb
      have HK := Lib.hid (HX.out.2.call hb)
      clear hb r hc
      go_wp2_with fail
      go_roundw
      case rel => exact ⟨i + 1, c', by omega, by go_num, HK.out.set hG hr', by rw [catN_data, ← HX.out.1]; exact hr'⟩
      case measure => simp [intOf]; omega
    · obtain rfl : i = n := by omega
      have HK := Lib.hid K
      go_wp2_with fail
      refine (rsum_any c _ hr (by have : (catN ss i).data.toList.length = (catN ss i).size := rfl; omega) _ HK.out.2.1).mono ?_
      rintro e w3 ⟨rfl, hb⟩
      have HK2 := HK.out.call hb
      go_wp2_with fail
      go_ret
      exact ⟨rfl, HK2.1⟩
end Go.Proofs.YtlfefgfpachehaaDoor
