/- frame.Wraps: frames, one behind the other. -/
import Derived.Test.YtdmbombjkinboaaFWrap
import Derived.Test.YtdmbombjkinboaaBuC
import Derived.Test.YtdmbombjkinboaaStrs
namespace Go.Proofs.Ytdmbombjkinboaa
open Go.RowKit
open Fr

/-- The bodies' bytes. -/
def bods (ss : List ByteArray) : List (List UInt8) := ss.map (·.data.toList)
theorem bods_str (l : List (List UInt8)) : bods (l.map str) = l := by unfold bods; rw [List.map_map]; exact List.map_id l
theorem str_bods (ss : List ByteArray) : (bods ss).map str = ss := by unfold bods; rw [List.map_map]; exact List.map_id ss
theorem frms_snoc (l : List (List UInt8)) (b : List UInt8) : frms (l ++ [b]) = frms l ++ frm b := by rw [frms_append]; simp [frms]
/-- Wraps' answer, of bodies that are not too long. -/
def anyNo (ss : List ByteArray) : Bool := ss.any fun x => x.size == 0
def wrapsE (ss : List ByteArray) : Int := if anyNo ss = true then 1 else 0
def wrapsS (ss : List ByteArray) : ByteArray := if anyNo ss = true then ⟨#[]⟩ else str (frms (bods ss))
theorem anyNo_take {ss : List ByteArray} {k : Nat} (h : anyNo (ss.take k) = true) : anyNo ss = true := by
  unfold anyNo at *
  rw [List.any_eq_true] at *
  obtain ⟨x, hx, h2⟩ := h
  exact ⟨x, List.mem_of_mem_take hx, h2⟩
theorem take_snoc_getD (ss : List ByteArray) (k : Nat) (h : k < ss.length) : ss.take (k + 1) = ss.take k ++ [ss.getD k ByteArray.empty] := by
  rw [List.take_succ_eq_append_getElem h, List.getD_eq_getElem?_getD, List.getElem?_eq_getElem h]; rfl
theorem frms_size (ss : List ByteArray) (k : Nat) (hk : ∀ j, j < ss.length → (ss.getD j ByteArray.empty).size ≤ 300) : (frms (bods (ss.take k))).length ≤ 308 * k := by
  induction k with
  | zero => simp [bods, frms]
  | succ k ih =>
    by_cases h : k < ss.length
    · rw [take_snoc_getD ss k h]
      unfold bods at *
      rw [List.map_append, List.map_singleton, frms_snoc, List.length_append, frm_length]
      have := hk k h
      have e : (ss.getD k ByteArray.empty).data.toList.length = (ss.getD k ByteArray.empty).size := by simp
      omega
    · rw [List.take_of_length_le (by omega)]
      rw [List.take_of_length_le (by omega)] at ih
      omega
set_option maxRecDepth 100000 in
set_option maxHeartbeats 1000000 in
theorem wraps_any (ss : List ByteArray) (a0 : Option Addr) (cap : Nat) (w : World) (hT : TextsAt w a0 ss) (hm : ss.length ≤ 20) (hk : ∀ j, j < ss.length → (ss.getD j ByteArray.empty).size ≤ 300) :
    Calls Try.prog 19 #[.slice a0 ss.length cap] w fun e w' => e = .returned (.tuple #[.string (wrapsS ss), .int .i64 (wrapsE ss)]) ∧ Below w.heap.size w w' := by
  obtain ⟨n, hn⟩ : ∃ n, n = ss.length := ⟨_, rfl⟩
  have HT := Lib.hid (And.intro hT (And.intro hk hn))
  rw [← hn] at hm ⊢
  clear hT hk hn
  go_enter Try.func19, Try.ntmps19
  go_wp2_with fail
  have hb0 : Below w.heap.size w (w.alloc (.cells #[.pointer none, .slice none 0 0] 61)) := (Below.refl _ w).alloc (Nat.le_refl _) _
  have hBu0 := bu_new w
  go_loopw [6, 7, 8, 11] (fun _ _ _ c wr => ∃ i : Nat, i ≤ n ∧ c = .int .i64 i ∧ Below w.heap.size w wr ∧ Bu w.heap.size w.heap.size (frms (bods (ss.take i))) wr ∧ anyNo (ss.take i) = false) (fun _ _ _ c _ => n - (intOf c).toNat)
  case atStart => exact ⟨0, by omega, rfl, hb0, hBu0, rfl⟩
  case round =>
    clear hb0 hBu0
    obtain ⟨i, hi, rfl, hb, hBu, hno⟩ := hrel
    by_cases hlt : i < n
    · have hil : i < ss.length := by have := HT.out.2.2; omega
      obtain ⟨b, off, rfl, hbl, hc⟩ := HT.out.1.below hb i hil
      have hsz := frms_size ss i HT.out.2.1
      have hxs := HT.out.2.1 i hil
      obtain ⟨x, hx⟩ : ∃ x, x = ss.getD i ByteArray.empty := ⟨_, rfl⟩
      rw [← hx] at hc hxs
      have hnx : ss.take (i + 1) = ss.take i ++ [x] := by rw [take_snoc_getD ss i hil, ← hx]
      by_cases h0 : x.size = 0
      · have he : wrapE x = 1 := by unfold wrapE; rw [if_pos h0]
        have hany : anyNo ss = true := anyNo_take (k := i + 1) (by rw [hnx]; unfold anyNo; simp [h0])
        have e1 : wrapsS ss = ⟨#[]⟩ := by unfold wrapsS; rw [if_pos hany]
        have e2 : wrapsE ss = 1 := by unfold wrapsE; rw [if_pos hany]
        have HE := Lib.hid (And.intro e1 e2)
        have hX := wrap_any x (by omega)
        rw [he] at hX
        have HX := Lib.hid (And.intro hb hX)
        clear hb hX hBu hno hsz hnx hx hany e1 e2 he h0 hxs
        go_wp2_with fail
        refine (HX.out.2 _).mono ?_
        rintro e w1 ⟨rfl, h1⟩
        have HY := Lib.hid (below_call HX.out.1 h1)
        clear h1
        go_wp2_with fail
        go_ret2
        exact ⟨by rw [HE.out.1, HE.out.2]; rfl, HY.out⟩
      · have hmay : may x.data.toList := may_size.2 (by omega)
        have hX := wrap_any x (by omega)
        rw [wrapE_ok hmay] at hX
        have hss : (wrapS x).size ≤ 308 := by rw [wrapS_ok hmay, str_size, frm_length]; simp; omega
        have hsd : (wrapS x).data.toList = frm x.data.toList := by rw [wrapS_ok hmay, str_data]
        obtain ⟨S, hS⟩ : ∃ S, S = wrapS x := ⟨_, rfl⟩
        rw [← hS] at hX hss hsd
        have hnb : frms (bods (ss.take (i + 1))) = frms (bods (ss.take i)) ++ S.data.toList := by
          rw [hnx, hsd]; unfold bods; rw [List.map_append, List.map_singleton, frms_snoc]
        have hnn : anyNo (ss.take (i + 1)) = false := by
          rw [hnx]; unfold anyNo at *; rw [List.any_append, hno]; simp [h0]
        have HX := Lib.hid (And.intro hb (And.intro hX (And.intro hBu (And.intro hnb (And.intro hnn hsz)))))
        clear hb hX hBu hno hsz hnx hx hnb hnn h0 hS hsd hmay hxs
        go_wp2_with fail
        refine (HX.out.2.1 _).mono ?_
        rintro e w1 ⟨rfl, h1⟩
        have hB1 := HX.out.2.2.1.ca h1
        have hbb := below_call HX.out.1 h1
        have HY := Lib.hid (And.intro hB1 hbb)
        clear hB1 hbb h1
        go_wp2_with fail
        refine (writeString_any w.heap.size w.heap.size _ S _ HY.out.1 (by have := HX.out.2.2.2.2.2; omega) HY.out.2.size).mono ?_
        rintro e w2 ⟨rfl, h2, h3, -⟩
        have HZ := Lib.hid (And.intro h2 (HY.out.2.trans h3))
        clear h2 h3
        go_wp2_with fail
        go_roundw
        case rel => exact ⟨i + 1, by omega, by go_num, HZ.out.2, by rw [HX.out.2.2.2.1]; exact HZ.out.1, HX.out.2.2.2.2.1⟩
        case measure => simp [intOf]; omega
    · obtain rfl : i = n := by omega
      have hall : ss.take i = ss := List.take_of_length_le (by have := HT.out.2.2; omega)
      rw [hall] at hBu hno
      have e1 : wrapsS ss = str (frms (bods ss)) := by unfold wrapsS; rw [hno]; rfl
      have e2 : wrapsE ss = 0 := by unfold wrapsE; rw [hno]; rfl
      have HE := Lib.hid (And.intro e1 e2)
      have HX := Lib.hid (And.intro hBu hb)
      clear hBu hb hno hall e1 e2
      go_wp2_with fail
      refine (string_any w.heap.size w.heap.size _ _ HX.out.1 HX.out.2.size).mono ?_
      rintro e w1 ⟨rfl, -, h1, -⟩
      have HY := Lib.hid (HX.out.2.trans h1)
      clear h1
      go_wp2_with fail
      go_ret2
      exact ⟨by rw [HE.out.1, HE.out.2]; rfl, HY.out⟩
end Go.Proofs.Ytdmbombjkinboaa
