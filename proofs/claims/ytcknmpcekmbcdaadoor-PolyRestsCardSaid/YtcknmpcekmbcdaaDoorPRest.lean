/- poly.Rest. -/
import Derived.Test.YtcknmpcekmbcdaaDoorPAdd8
import Derived.Deep.RegionHeld
namespace Go.Proofs.YtcknmpcekmbcdaaDoor
open Go.RowKit
open Gf

/-- Quotient and rest. -/
def RestOf (a b q r : ByteArray) : Prop := trimB q = q ∧ trimB r = r ∧ r.size < (trimB b).size ∧ sumB (mulB q b) r = trimB a ∧ q.size ≤ a.size ∧ r.size ≤ a.size
theorem rest_of {a b : ByteArray} {h m : Nat} {times left : List UInt8} (s : DivS (trimB a).data.toList (trimB b).data.toList h m m times left) (hb : (trimB b).size = h + 1) (hm : m = (trimB a).size - h) :
    RestOf a b (str times) (trimB (str left)) := by
  obtain ⟨h1, h2, h3⟩ := s.done (by rw [data_len]; exact hb) (by rw [data_len]; exact hm) (trimB_list a)
  have ha := trimB_size a
  refine ⟨by unfold trimB; rw [str_data, h1], by unfold trimB; rw [str_data, str_data, trimL_trimL], ?_, ?_, ?_, ?_⟩
  · rw [hb]
    have : (trimB (str left)).size = (trimL left).length := by unfold trimB; rw [str_size, str_data]
    omega
  · have e : sumB (mulB (str times) b) (trimB (str left)) = str (trimL a.data.toList) := by
      unfold sumB
      congr 1
      refine trimL_same (fun k => ?_)
      rw [co_addP]
      have e1 : co (mulB (str times) b).data.toList k = co (mulP times (trimB b).data.toList) k := by
        unfold mulB
        rw [str_data, co_trimL, str_data]
        exact mul_same (fun _ => rfl) (fun i => by unfold trimB; rw [str_data, co_trimL]) k
      have e2 : co (trimB (str left)).data.toList k = co left k := by unfold trimB; rw [str_data, str_data, co_trimL]
      have e3 : co (trimB a).data.toList k = co a.data.toList k := by unfold trimB; rw [str_data, co_trimL]
      rw [e1, e2, ← e3, h3 k]
    exact e
  · rw [str_size, s.tlen]; omega
  · have h4 := trimB_size (str left)
    have h5 : (str left).size = (trimB a).size := by rw [str_size, s.llen, data_len]
    omega
theorem trimmed_still (s : ByteArray) (hs : s.size ≤ maxLen) (w : World) :
    Calls Tryd.prog 33 #[.string s] w fun e w' => e = .returned (.string (trimB s)) ∧ w' = w :=
  (trimmed_any s hs w).mono fun _ _ ⟨h, k⟩ => ⟨h, k.symm⟩
/-- What a text's bytes are laid into. -/
theorem conv_bytes2 (w : World) (s : ByteArray) : ∃ cap w', (convert 9 28 (.string s)).run Tryd.prog w = .ok (.slice (some ⟨w.heap.size, 0, none⟩) s.size cap) w' ∧ Row8 w.heap.size w' w.heap.size s.data.toList ∧ Below w.heap.size w w' ∧ w'.heap.size = w.heap.size + 1 ∧ s.size ≤ cap := by
  refine ⟨_, _, run_bytes_of_string w 9 28 5 s Tryd.underlying9 Tryd.underlying28 Tryd.underlying5, ⟨Nat.le_refl _, by simp, fun i hi => ?_⟩, ?_, by simp, grownCap_ge _ _ _ _⟩
  · have hi' : i < s.size := by simpa using hi
    have hg : (w.drew.alloc (.cells (bytesRow s (grownCap w s.size 0 5)) 5 ((bytesRow s (grownCap w s.size 0 5)).size, (bytesRow s (grownCap w s.size 0 5)).size + 1))).heap[w.heap.size]? = some _ := heap_alloc_new w.drew _
    constructor
    · rw [cell_of_row _ _ _ _ _ _ hg]
      unfold bytesRow
      rw [Array.getElem?_append_left (by simpa using hi')]
      simp [List.getD_eq_getElem?_getD, hi']
    · unfold World.frozen?
      rw [hg]
      have : s.size ≤ (bytesRow s (grownCap w s.size 0 5)).size := by unfold bytesRow; rw [Array.size_append, Array.size_map]; exact Nat.le_add_right _ _
      simp
      omega
  · exact ((Below.refl _ _).drew).alloc (by simp) _
set_option maxRecDepth 100000 in
set_option maxHeartbeats 2000000 in
theorem rest_any (a b : ByteArray) (ha : a.size ≤ 100000) (hb : b.size ≤ 100000) (hb0 : (trimB b).size ≠ 0) (w : World) :
    Calls Tryd.prog 30 #[.string a, .string b] w fun e w' => ∃ q r, e = .returned (.tuple #[.string q, .string r, .int .i64 0]) ∧ RestOf a b q r ∧ Below w.heap.size w w' := by
  have t1 := trimmed_any a (by unfold maxLen; omega)
  have t2 := trimmed_any b (by unfold maxLen; omega)
  have sa := trimB_size a
  have sb := trimB_size b
  have htb := trimB_list b
  have hfin : ∀ (h m : Nat) (times left : List UInt8), DivS (trimB a).data.toList (trimB b).data.toList h m m times left → (trimB b).size = h + 1 → m = (trimB a).size - h → RestOf a b (str times) (trimB (str left)) := fun _ _ _ _ s h1 h2 => rest_of s h1 h2
  generalize trimB a = A at *
  generalize trimB b = Bt at *
  obtain ⟨h, hh⟩ : ∃ h, Bt.size = h + 1 := ⟨Bt.size - 1, by omega⟩
  have hlt : h < Bt.size := by omega
  have hne := nonempty_ne hb0
  have hlast : Bt[h] ≠ 0 := by
    rw [← co_at Bt h hlt]
    have := trimL_last htb (by intro e; have h1 := data_len Bt; rw [e] at h1; simp at h1; omega)
    rwa [data_len, hh, Nat.add_sub_cancel] at this
  obtain ⟨m, hm⟩ : ∃ m, m = A.size - h := ⟨_, rfl⟩
  have hmx : max (0 : Int) ((A.size : Int) - (h : Int)) = (m : Int) := by omega
  have hBi : (Bt.size : Int) - 1 = (h : Int) := by omega
  have hv := gfinv_any Bt[h]
  rw [show invz Bt[h] = inv Bt[h] from if_neg hlast, show ierr Bt[h] = 0 from if_neg hlast] at hv
  obtain ⟨v, hvv⟩ : ∃ v, v = inv Bt[h] := ⟨_, rfl⟩
  rw [← hvv] at hv
  obtain ⟨cap, w1, hc1, h8, hb1, hz1, hcap⟩ := conv_bytes2 w A
  obtain ⟨w2, hmk, hown, hb2⟩ := make_bytes w1 m (by omega)
  have h82 := h8.call hb2
  have hbw := hb1.trans (hb2.mono hb1.size)
  have HT := Lib.hid (And.intro t1 (And.intro t2 hv))
  have H0 := Lib.hid (And.intro hown (And.intro h82 hbw))
  have HF := Lib.hid (And.intro hh (And.intro hm (And.intro hlast hvv)))
  have HR := Lib.hid hfin
  have HG := Lib.hid (show w.heap.size ≠ w1.heap.size ∧ w.heap.size ≤ w1.heap.size by omega)
  have sA : A.size ≤ 100000 := by omega
  have hm2 : m ≤ 100000 := by omega
  have hhi : (h : Int) < (Bt.size : Int) := by omega
  have hhs : h ≤ 100000 := by omega
  clear t1 t2 hv hown h8 h82 hb1 hb2 hbw hh hm hlast hvv hfin htb hb0 sa sb ha hb hz1
  go_enter Tryd.func30, Tryd.ntmps30
  go_wp2_with fail
  refine (HT.out.1 _).mono ?_
  rintro e w' ⟨rfl, rfl⟩
  go_wp2_with fail
  refine (HT.out.2.1 _).mono ?_
  rintro e w' ⟨rfl, rfl⟩
  go_wp2_with fail
  refine (HT.out.2.2 _).mono ?_
  rintro e w' ⟨rfl, rfl⟩
  go_wp2_with fail
  clear hc1 hmk hmx
  generalize w1.heap.size = gt at *
  go_loopw [12, 13, 40] (fun _ _ c wr => ∃ (i : Nat) (times left : List UInt8), i ≤ m ∧ c = .int .i64 (i : Int) ∧ DivS A.data.toList Bt.data.toList h m i times left ∧ OwnB gt wr (some ⟨gt, 0, none⟩) m times ∧ Row8 w.heap.size wr w.heap.size left ∧ Below w.heap.size w wr) (fun _ _ c _ => m - (intOf c).toNat)
  case atStart => exact ⟨0, _, _, by omega, rfl, DivS.start (by rw [data_len]; exact HF.out.2.1), H0.out.1, H0.out.2.1, H0.out.2.2⟩
  case round =>
    clear H0
    obtain ⟨i, times, left, hi, rfl, hd, ho, hr, hb⟩ := hrel
    have htl := hd.tlen
    have hll := hd.llen
    rw [data_len] at hll
    by_cases hlt2 : i < m
    · obtain ⟨at_, hat⟩ : ∃ at_, at_ = m - 1 - i := ⟨_, rfl⟩
      have hati : (m : Int) - 1 - (i : Int) = (at_ : Int) := by omega
      have hahi : (at_ : Int) + (h : Int) < (A.size : Int) := by have := HF.out.2.1; omega
      have hahn : at_ + h < left.length := by omega
      have hatm : (at_ : Int) < (m : Int) := by omega
      have c1 := (hr.2.2 (at_ + h) hahn).1
      have c2 := ho.cellAt at_ (by omega)
      have f2 := ho.frozenAt at_
      obtain ⟨y, hy⟩ : ∃ y, y = left.getD (at_ + h) 0 := ⟨_, rfl⟩
      obtain ⟨t, ht⟩ : ∃ t, t = mul y v := ⟨_, rfl⟩
      rw [← hy] at c1
      generalize (times.getD at_ 0).toNat = old at c2
      have hmul := mul_any y v
      rw [← ht] at hmul
      have hstep := hd.step (at_ := at_) (by rw [data_len]; exact HF.out.1) (by rw [co_at Bt h hlt]; exact HF.out.2.2.1) (by rw [data_len]; exact HF.out.2.1) hlt2 hat
      have hte : mul (co left (at_ + h)) (inv (co Bt.data.toList h)) = t := by rw [ht, hy, HF.out.2.2.2, co_at Bt h hlt]; rfl
      rw [hte] at hstep
      have ho2 := ho.put at_ t
      have hr2 := hr.other ⟨gt, at_, none⟩ (.int .u8 (t.toNat : Int)) (by have := HG.out.1; simp; omega)
      have hb2 := hb.setCell (p := ⟨gt, at_, none⟩) HG.out.2 (.int .u8 (t.toNat : Int))
      have HS := Lib.hid (And.intro hstep (And.intro ho2 (And.intro hr2 (And.intro hb2 hmul))))
      have hlen1 : (times.set at_ t).length = m := by rw [List.length_set, htl]
      have hget1 : (times.set at_ t).getD at_ 0 = t := by simp [List.getD_eq_getElem?_getD, show at_ < times.length by omega]
      have HL := Lib.hid (And.intro hlen1 (And.intro hget1 (And.intro hll (And.intro hahn hat))))
      have haA : (at_ : Int) ≤ (A.size : Int) := by omega
      have hac : (at_ : Int) < (cap : Int) := by omega
      have hac2 : ¬ (cap - at_ = 0) := by omega
      clear hd ho hr hb hstep ho2 hr2 hb2 hmul hte ht hy htl hll hlen1 hget1 hahn hat
      go_wp2_with fail
      refine (HS.out.2.2.2.2 _).mono ?_
      rintro e w' ⟨rfl, rfl⟩
      go_wp2_with fail
      clear c1 c2 f2
      generalize World.setCell _ _ _ = W1 at *
      have hcall := addTimes8_any HS.out.2.2.1.drew at_ (A.size - at_) (cap - at_) Bt (by have := HF.out.1; omega) (by have := HF.out.1; omega) (by have := HF.out.1; have := HL.out.2.2.2.1; omega) t
      have c3 := HS.out.2.1.cellAt at_ (by have := HL.out.1; omega)
      rw [HL.out.2.1] at c3
      have c4 : W1.drew.cell? ⟨gt, at_, none⟩ = some (.int .u8 (t.toNat : Int)) := c3
      have HC := Lib.hid (And.intro hcall (And.intro HS.out.2.1.drew (And.intro HS.out.2.2.2.1.drew HS.out.1)))
      clear hcall HS
      refine wp_region_still_tail 8 (by kernel_rfl) (by kernel_rfl) ?_
      simp only [List.take_succ_cons, List.take_zero, List.drop_succ_cons, List.drop_zero]
      repeat still_step
      refine wpStill_nil ?_
      change wpList _ _ _ _ _ W1.drew
      clear c3
      generalize W1.drew = w3 at *
      go_wp2_with fail
      refine HC.out.1.mono ?_
      rintro e w4 ⟨rfl, hr4, hon⟩
      have ho4 := HC.out.2.1.only hon (fun e => HG.out.1 e.symm)
      have hb4 := HC.out.2.2.1.trans hon.below
      have H4 := Lib.hid (And.intro ho4 (And.intro hr4 hb4))
      clear ho4 hr4 hb4 hon
      go_wp2_with fail
      go_roundw
      case rel => exact ⟨i + 1, _, _, by omega, by go_num, HC.out.2.2.2, H4.out.1, H4.out.2.1, H4.out.2.2⟩
      case measure => simp [intOf]; omega
    · obtain rfl : i = m := by omega
      have hfin := HR.out h i times left hd HF.out.1 HF.out.2.1
      obtain ⟨T, hT⟩ : ∃ T, T = str times := ⟨_, rfl⟩
      obtain ⟨L, hL⟩ : ∃ L, L = str left := ⟨_, rfl⟩
      rw [← hT, ← hL] at hfin
      have cv1 : ∀ k, (convert 28 9 (.slice (some ⟨gt, 0, none⟩) i i)).run Tryd.prog (wr.drewN k) = .ok (.string T) (wr.drewN k) := fun k => by
        have := (ho.drewN k).conv
        rwa [htl, ← hT] at this
      have cv2 : ∀ k, (convert 28 9 (.slice (some ⟨w.heap.size, 0, none⟩) A.size cap)).run Tryd.prog (wr.drewN k) = .ok (.string L) (wr.drewN k) := fun k => by
        have := Row8.conv (w := wr.drewN k) ⟨hr.1, hr.2.1, hr.2.2⟩ A.size hll cap
        rwa [← hL] at this
      have hLs : L.size ≤ maxLen := by rw [hL, str_size, hll]; unfold maxLen; omega
      have HZ := Lib.hid (And.intro hfin hb)
      clear hd ho hr hb htl hll hT hL hfin HR HF HG
      go_wp2_with fail
      go_quiet ((go_at_call 33; exact Calls.quiet_of_same (trimmed_still _ (by assumption) _)))
      go_wp2_with fail
      go_ret3
      exact ⟨T, trimB L, rfl, HZ.out.1, gdrew HZ.out.2 _⟩
theorem rest_none (a b : ByteArray) (ha : a.size ≤ 100000) (hb : b.size ≤ 100000) (hb0 : (trimB b).size = 0) (w : World) :
    Calls Tryd.prog 30 #[.string a, .string b] w fun e w' => e = .returned (.tuple #[.string ⟨#[]⟩, .string ⟨#[]⟩, .int .i64 1]) ∧ w = w' := by
  have t1 := trimmed_any a (by unfold maxLen; omega)
  have t2 := trimmed_any b (by unfold maxLen; omega)
  rw [empty_eq hb0] at t2
  generalize trimB a = A at *
  have HT := Lib.hid (And.intro t1 t2)
  clear t1 t2 hb0 ha hb
  go_enter Tryd.func30, Tryd.ntmps30
  go_wp2_with fail
  refine (HT.out.1 _).mono ?_
  rintro e w' ⟨rfl, rfl⟩
  go_wp2_with fail
  refine (HT.out.2 _).mono ?_
  rintro e w' ⟨rfl, rfl⟩
  go_wp2_with fail
  go_ret3
  exact ⟨rfl, rfl⟩
end Go.Proofs.YtcknmpcekmbcdaaDoor
