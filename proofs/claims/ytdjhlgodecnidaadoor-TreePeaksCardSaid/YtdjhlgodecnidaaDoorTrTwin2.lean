/- tree.Twin under digest.Sum, and the laws' Witnessed. -/
import Derived.Test.YtdjhlgodecnidaaDoorTrTwin
import Derived.Test.YtdjhlgodecnidaaDoorTrAwake
namespace Go.Proofs.YtdjhlgodecnidaaDoor
open Go.RowKit
open Tr

set_option maxRecDepth 100000 in
set_option maxHeartbeats 2000000 in
theorem bigTwin_any (ss : List ByteArray) (a0 : Option Addr) (cap : Nat) (w : World) (hG : Glob w) (hT : TextsAt w a0 ss) (hm : ss.length ≤ 1000000) (hs : ∀ j, j < ss.length → (gt ss j).size ≤ 100000) :
    Calls Tryd.prog 40 #[.slice a0 ss.length cap] w fun e w' => TwinE ss e ∧ Below w.heap.size w w' := by
  have H := Lib.hid (twin_any ss a0 cap w hG hT hm hs)
  obtain ⟨n, hn⟩ : ∃ n, n = ss.length := ⟨_, rfl⟩
  rw [← hn] at H ⊢
  clear hT hn hs hG hm
  go_enter Tryd.func40, Tryd.ntmps40
  go_wp2_with fail
  refine H.out.mono ?_
  rintro e w1 ⟨⟨a, b, is, rfl, h1, h2⟩, hb⟩
  have HH := Lib.hid (And.intro h1 (And.intro h2 hb))
  clear h1 h2 hb
  go_wp2_with fail
  go_ret3
  exact ⟨⟨a, b, is, rfl, HH.out.1, HH.out.2.1⟩, HH.out.2.2⟩
theorem mem_size {ss : List ByteArray} {a : ByteArray} (h : a ∈ ss) (hs : ∀ j, j < ss.length → (gt ss j).size ≤ 100000) : a.size ≤ 100000 := by
  obtain ⟨i, hi, rfl⟩ := List.mem_iff_getElem.1 h
  have := hs i hi
  unfold gt at this
  rw [List.getD_eq_getElem?_getD, List.getElem?_eq_getElem hi] at this
  exact this
set_option maxRecDepth 100000 in
set_option maxHeartbeats 2000000 in
theorem witnessed_any (ss : List ByteArray) (a0 : Option Addr) (cap : Nat) (w : World) (hG : Glob w) (hT : TextsAt w a0 ss) (hm : ss.length ≤ 1000000) (hs : ∀ j, j < ss.length → (gt ss j).size ≤ 100000) (hw : TwinIn ss) :
    Calls Tryd.prog 35 #[.slice a0 ss.length cap] w fun e w' => e = .returned (.bool true) ∧ Below w.heap.size w w' := by
  have H := Lib.hid (bigTwin_any ss a0 cap w hG hT hm hs)
  have HS := Lib.hid hs
  have HW := Lib.hid hw
  obtain ⟨n, hn⟩ : ∃ n, n = ss.length := ⟨_, rfl⟩
  rw [← hn] at H ⊢
  clear hT hn hs hG hm hw
  go_enter Tryd.func35, Tryd.ntmps35
  go_wp2_with fail
  refine H.out.mono ?_
  rintro e w1 ⟨⟨a, b, is, rfl, h1, h2⟩, hb⟩
  cases is with
  | false => exact ((h2 rfl).2.2 HW.out).elim
  | true =>
    obtain ⟨ha, hb2, hne, he⟩ := h1 rfl
    have za := mem_size ha HS.out
    have zb := mem_size hb2 HS.out
    have hbe : (a.toList == b.toList) = false := by rw [twin_beq]; exact decide_eq_false hne
    have ra := fun W => rsumref_any a (by omega) W
    have rb := fun W => rsumref_any b (by omega) W
    obtain ⟨d, hd⟩ : ∃ d, d = sumE a := ⟨_, rfl⟩
    rw [show str (sha a.data.toList) = d from hd.symm] at ra
    rw [show str (sha b.data.toList) = d from (hd.trans he).symm] at rb
    clear h1 h2 ha hb2 hne he za zb hd
    go_wp2_with (first
      | (refine (ra _).mono ?_; rintro e v ⟨rfl, hv⟩; replace hb := hb.trans (hv.mono hb.size); clear hv ra)
      | (refine (rb _).mono ?_; rintro e v ⟨rfl, hv⟩; replace hb := hb.trans (hv.mono hb.size); clear hv rb)
      | fail)
    go_ret
    exact ⟨rfl, hb⟩
end Go.Proofs.YtdjhlgodecnidaaDoor
