/- CRefWrite, what is wanted of it. -/
import Derived.Test.YtdfkpjmljaanpaaGreatDoorZCRefNum
import Derived.Test.YtdfkpjmljaanpaaGreatDoorZMC6
import Derived.Deep.RegionWith
import Derived.Deep.QuietTactic
import Derived.BigQuiet
import Derived.Outline
namespace Go.Proofs.YtdfkpjmljaanpaaGreatDoor
open Go.RowKit
open Cn
def RWriteSo (x : It) : Prop := ∀ (S : Nat → Prop) (d : Nat) (w : World), x.In w S → may x.pure d = true → (Cn.bytes x.pure).length ≤ 1000000 →
  Calls Tryz.prog 150 #[x.val] w fun e w' => e = .returned (.string ⟨(Cn.bytes x.pure).toArray⟩) ∧ Below w.heap.size w w'
theorem take_next {l : List It} {i : Nat} {x : It} (hx : l[i]? = some x) : bytesAll (It.pureAll (l.take (i + 1))) = bytesAll (It.pureAll (l.take i)) ++ Cn.bytes x.pure := by
  rw [List.take_add_one, hx, It.pureAll_eq, Option.toList_some, List.map_append, bytesAll_append, ← It.pureAll_eq]; simp [bytesAll]
theorem take_len (l : List It) (i : Nat) : (bytesAll (It.pureAll (l.take i))).length ≤ (bytesAll (It.pureAll l)).length := by
  have h : bytesAll (It.pureAll l) = bytesAll (It.pureAll (l.take i)) ++ bytesAll (It.pureAll (l.drop i)) := by
    rw [It.pureAll_eq, It.pureAll_eq, It.pureAll_eq, ← bytesAll_append, ← List.map_append, List.take_append_drop]
  rw [h, List.length_append]; omega
theorem ret_str {s : ByteArray} {l : List UInt8} (h : s.data.toList = l) : Ending.returned (.string s) = .returned (.string ⟨l.toArray⟩) := by
  rw [show s = ⟨l.toArray⟩ from Go.WideShapes.bytes_inj (by simpa using h)]
set_option maxRecDepth 100000 in
set_option maxHeartbeats 800000 in
theorem rwrite_step (x : It) (ih : ∀ y ∈ x.l, RWriteSo y) : RWriteSo x := by
  intro S d w hin hmay hlen
  obtain ⟨k, n, s, a, cap, l⟩ := x
  simp only [It.l] at ih
  have hpu : (It.mk k n s a cap l).pure = .mk k n s (It.pureAll l) := rfl
  rw [hpu] at hmay hlen ⊢
  simp only [It.val, It.cells, It.k, It.n, It.s, It.a, It.cap, It.l]
  have hB : ∀ o, Below w.heap.size w (w.alloc o) := fun o => (Below.refl _ _).alloc (Nat.le_refl _) o
  by_cases h1 : k = 1
  · subst h1
    have hm := (may1_eq n s l d).1 hmay
    obtain ⟨m, rfl⟩ : ∃ m : Nat, n = m := ⟨n.toNat, by omega⟩
    have hbl : Cn.bytes (.mk 1 (m : Int) s (It.pureAll l)) = num m := by rw [Cn.bytes, if_pos rfl]; rfl
    rw [hbl]
    have hnum := fun w' => rnum_any m (by omega) w'
    have HU := Lib.hid hnum
    clear hnum hbl hm hmay hlen ih hin hpu
    go_enter Tryz.func150, Tryz.ntmps150
    go_wp2_with fail
    refine (HU.out _).mono ?_
    rintro e w2 ⟨rfl, hb2⟩
    have HB := Lib.hid ((hB _).trans (hb2.mono (hB _).size))
    clear hb2
    go_wp2_with fail
    go_ret
    exact ⟨rfl, HB.out⟩
  · by_cases h2 : k = 2
    · subst h2
      have hm := (may2_eq n s l d).1 hmay
      have hbl : Cn.bytes (.mk 2 n s (It.pureAll l)) = 8 :: (num s.size ++ s.data.toList) := by rw [Cn.bytes, if_neg (by decide), if_pos rfl]
      rw [hbl]
      have hnum := fun w' => rnum_any s.size (by omega) w'
      have HU := Lib.hid hnum
      have hnl : (num s.size).length ≤ 9 := by rw [num_length]; have := width_le (n := s.size) (k := 8) (by omega) (by omega); omega
      have hns : (⟨(num s.size).toArray⟩ : ByteArray).size ≤ 9 := by rw [size_toArray]; exact hnl
      obtain ⟨rfl, hsz, hl0⟩ := hm
      rw [hl0]
      have hfin : Ending.returned (.string (⟨#[8]⟩ ++ ⟨(num s.size).toArray⟩ ++ s)) = Ending.returned (.string ⟨(8 :: (num s.size ++ s.data.toList)).toArray⟩) := ret_str (by simp)
      have HF := Lib.hid hfin
      clear hnum hbl hmay hlen ih hin hpu hl0 hnl hfin
      have hs2 : (w.alloc (.cells #[.int .i64 2, .int .i64 0, .string s, .slice a 0 cap] 191)).cell? ⟨w.heap.size, 2, none⟩ = some (.string s) := by rw [Lib.cell_of_heap (heap_alloc_new _ _)]; rfl
      have hlt : w.heap.size < (w.alloc (.cells #[.int .i64 2, .int .i64 0, .string s, .slice a 0 cap] 191)).heap.size := by simp
      have hb1 := hB (.cells #[.int .i64 2, .int .i64 0, .string s, .slice a 0 cap] 191)
      go_enter Tryz.func150, Tryz.ntmps150
      go_wp2_with fail
      generalize World.alloc w _ = w2 at *
      generalize (⟨(num s.size).toArray⟩ : ByteArray) = u at *
      have hs2' : w2.drew.cell? ⟨w.heap.size, 2, none⟩ = some (.string s) := hs2
      go_region_with (go_at_call 195; refine (HU.out _).mono ?_; rintro e w4 ⟨rfl, hb4⟩; have hs4 : w4.cell? ⟨w.heap.size, 2, none⟩ = some (.string s) := (hb4.cell (p := ⟨w.heap.size, 2, none⟩) hlt).trans hs2; have hs4' : w4.drew.cell? ⟨w.heap.size, 2, none⟩ = some (.string s) := hs4; have HB4 := Lib.hid (hb1.trans (Below.mono (w := w2) ⟨hb4.os, hb4.tape, hb4.output, hb4.size, hb4.block⟩ hb1.size)); clear hb4)
      all_goals
        clear hs4 hs4' hs2 hs2'
        go_wp2_with fail
        go_ret
        exact ⟨HF.out, HB4.out⟩
    · have hk : k = 3 := by
        rcases Classical.em (k = 3) with h | h
        · exact h
        · rw [may0_eq h1 h2 h] at hmay; cases hmay
      subst hk
      obtain ⟨rfl, hsz, hl1, hd, hall⟩ := (may3_eq n s l d).1 hmay
      have hbl : Cn.bytes (.mk 3 0 s (It.pureAll l)) = 9 :: (num l.length ++ bytesAll (It.pureAll l)) := by rw [Cn.bytes, if_neg (by decide), if_neg (by decide), It.pureAll_length]
      rw [hbl] at hlen ⊢
      obtain ⟨N, hN⟩ : ∃ N, N = l.length := ⟨_, rfl⟩
      rw [← hN] at hl1 hlen ⊢
      have hU := fun w' => rnum_any N (by omega) w'
      have HU := Lib.hid hU
      have HI := Lib.hid (And.intro hin (And.intro ih (And.intro hN (And.intro hall hlen))))
      clear hU hbl hmay hlen ih hin hpu hN hall hd hsz h1 h2
      have hNm : N ≤ 1024 := hl1
      have hr1 : (w.alloc (.cells #[.int .i64 3, .int .i64 0, .string s, .slice a N cap] 191)).heap[w.heap.size]? = some (.cells #[.int .i64 3, .int .i64 0, .string s, .slice a N cap] 191 (0, 0)) := heap_alloc_new _ _
      have hb1 := hB (.cells #[.int .i64 3, .int .i64 0, .string s, .slice a N cap] 191)
      have hnl : (num N).length ≤ 9 := by rw [num_length]; have := width_le (n := N) (k := 8) (by omega) (by omega); omega
      have hns : (⟨(num N).toArray⟩ : ByteArray).size ≤ 9 := by rw [size_toArray]; exact hnl
      have ht0 : ((⟨#[9]⟩ : ByteArray) ++ ⟨(num N).toArray⟩).data.toList = 9 :: (num N ++ bytesAll (It.pureAll (l.take 0))) := by simp [It.pureAll, bytesAll]
      have HT := Lib.hid ht0
      clear ht0 hnl
      go_enter Tryz.func150, Tryz.ntmps150
      go_wp2_with fail
      refine (HU.out _).mono ?_
      rintro e w2 ⟨rfl, hb2⟩
      have HB := Lib.hid (And.intro (hb1.trans (hb2.mono hb1.size)) ((hb2.block w.heap.size (lt_of_heap' hr1)).trans hr1))
      clear hb2 hr1 hb1
      generalize (⟨(num N).toArray⟩ : ByteArray) = u at *
      go_wp2_with fail
      go_loopw [3, 4] (fun sv iv wr => ∃ (i : Nat) (t : ByteArray), i ≤ N ∧ sv = .string t ∧ iv = .int .i64 i ∧ (Below w.heap.size w wr ∧ wr.heap[w.heap.size]? = some (.cells #[.int .i64 3, .int .i64 0, .string s, .slice a N cap] 191 (0, 0))) ∧ t.data.toList = 9 :: (num N ++ bytesAll (It.pureAll (l.take i)))) (fun _ iv _ => N - (intOf iv).toNat)
      case atStart => exact ⟨0, _, by omega, rfl, rfl, HB.out, HT.out⟩
      case round =>
        clear HB
        obtain ⟨i, t, hi, rfl, rfl, hb, hall⟩ := hrel
        have HA := Lib.hid (And.intro hb hall)
        have hl3 : wr.cell? ⟨w.heap.size, 3, none⟩ = some (.slice a N cap) := by rw [Lib.cell_of_heap hb.2]; rfl
        clear hb hall
        have hts : t.size ≤ 1000000 := by
          have h1 : t.size = t.data.toList.length := by simp
          have h2 := HI.out.2.2.2.2
          have h3 := take_len l i
          rw [h1, HA.out.2]
          simp only [List.length_cons, List.length_append] at h2 ⊢
          omega
        by_cases hlt : i < N
        · have hin := It.In.kept (keptS_any HA.out.1.1) _ HI.out.1
          have hil : i < l.length := by have := HI.out.2.2.1; omega
          obtain ⟨b, o, x, ha, hbl, -, hx, hmem, c0, c1, c2, c3⟩ := hin.2.1.at hil
          have ha' : a = some ⟨b, o, none⟩ := ha
          subst ha'
          clear ha
          have hxl : (Cn.bytes x.pure).length ≤ 1000000 := by
            have h2 := HI.out.2.2.2.2
            have h3 := take_len l (i + 1)
            rw [take_next hx] at h3
            simp only [List.length_cons, List.length_append] at h2 h3
            omega
          have hmx : may x.pure (d - 1) = true := mayAll_mem HI.out.2.2.2.1 _ (by rw [It.pureAll_eq]; exact List.mem_map_of_mem hmem)
          have hnx := take_next hx
          have hc := HI.out.2.1 x hmem S (d - 1) wr (It.inAll_mem hin.2.2 x hmem) hmx hxl
          obtain ⟨p, hp⟩ : ∃ p, p = x.pure := ⟨_, rfl⟩
          rw [← hp] at hc hnx hxl
          have hps : (⟨(Cn.bytes p).toArray⟩ : ByteArray).size ≤ 1000000 := by rw [size_toArray]; exact hxl
          have HX := Lib.hid (And.intro hnx hc)
          clear hx hmem hin hxl hmx hnx hc hp
          obtain ⟨xk, xn, xs, xa, xc, xl⟩ := x
          simp only [It.val, It.cells, It.k, It.n, It.s, It.a, It.cap, It.l] at HX c0 c1 c2 c3
          go_wp2_with fail
          refine HX.out.2.mono ?_
          rintro e w3 ⟨rfl, hb2⟩
          have hb3 : Below w.heap.size w w3 := HA.out.1.1.trans (hb2.mono HA.out.1.1.size)
          have hr3 := (hb2.block w.heap.size (lt_of_heap' HA.out.1.2)).trans HA.out.1.2
          have hnew : (t ++ ⟨(Cn.bytes p).toArray⟩).data.toList = 9 :: (num N ++ bytesAll (It.pureAll (l.take (i + 1)))) := by
            rw [HX.out.1]
            have := HA.out.2
            simp [this]
          have HB3 := Lib.hid (And.intro (And.intro hb3 hr3) hnew)
          clear hl3 hb3 hr3 hnew c0 c1 c2 c3 hb2 HX
          generalize (⟨(Cn.bytes p).toArray⟩ : ByteArray) = v at *
          go_wp2_with fail
          go_roundw
          case rel => exact ⟨i + 1, _, by omega, rfl, by go_num, HB3.out.1, HB3.out.2⟩
          case measure => simp [intOf]; omega
        · obtain rfl : i = N := by omega
          have hfin : Ending.returned (.string t) = Ending.returned (.string ⟨(9 :: (num i ++ bytesAll (It.pureAll l))).toArray⟩) := by
            have h := HA.out.2
            rw [HI.out.2.2.1, List.take_length, ← HI.out.2.2.1] at h
            exact ret_str h
          have HF := Lib.hid hfin
          clear hfin
          go_wp2_with fail
          go_ret
          exact ⟨HF.out, HA.out.1.1⟩
theorem rwrite_any : ∀ (N : Nat) (x : It), x.sz ≤ N → RWriteSo x
  | 0, x, hx => by rw [It.sz_eq] at hx; omega
  | N + 1, x, hx => rwrite_step x fun y hy => rwrite_any N y (by have := It.sz_lt hy; omega)
end Go.Proofs.YtdfkpjmljaanpaaGreatDoor
