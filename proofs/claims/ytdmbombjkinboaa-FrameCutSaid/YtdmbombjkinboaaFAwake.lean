/- lockboxlaw11.awake; what is found of what was wrapped. -/
import Derived.Test.YtdmbombjkinboaaFFront
namespace Go.Proofs.Ytdmbombjkinboaa
open Go.RowKit
open Fr

theorem fr_frm {b : ByteArray} (h : may b.data.toList) (r : ByteArray) : frB (wrapS b ++ r) = b ∧ frR (wrapS b ++ r) = r ∧ frE (wrapS b ++ r) = 0 := by
  have hd : (wrapS b ++ r).data.toList = frm b.data.toList ++ r.data.toList := by rw [wrapS_ok h, str_cat', str_data]
  have hf := fst_frm b.data.toList r.data.toList h
  have hn : (wrapS b ++ r).size = 8 + b.size + r.size := by
    rw [ByteArray.size_append, wrapS_ok h, str_size, frm_length]; simp
  have hbl : b.data.toList.length = b.size := by simp
  have e1 := str_cut (wrapS b ++ r).data.toList 8 (8 + b.size)
  have e2 := str_cut (wrapS b ++ r).data.toList (8 + b.size) (8 + b.size + r.size)
  rw [str_of] at e1 e2
  refine ⟨?_, ?_, ?_⟩
  · unfold frB
    rw [hd, hf, if_pos rfl, hbl, e1, hd, List.drop_take, Nat.add_sub_cancel_left]
    have := frm_body b.data.toList r.data.toList
    rw [hbl] at this
    rw [this, str_of]
  · unfold frR
    rw [hd, hf, if_pos rfl, hbl, hn, e2, hd]
    have := frm_rest b.data.toList r.data.toList
    rw [hbl] at this
    rw [List.drop_take, this, List.take_of_length_le (by simp), str_of]
  · unfold frE; rw [hd, hf]; rfl
theorem aw_1 : (wrapS ⟨#[97]⟩).extract 0 4 = ⟨#[229, 0, 0, 1]⟩ := by decide +kernel
set_option maxHeartbeats 1000000 in
theorem awake_f (w : World) : Calls Try.prog 9 #[] w fun e w' => e = .returned (.bool true) ∧ Below w.heap.size w w' := by
  have hm : may (⟨#[97]⟩ : ByteArray).data.toList := may_size.2 ⟨by decide, by decide⟩
  have h1 := aw_1
  have hsz : (wrapS ⟨#[97]⟩).size = 9 := by rw [wrapS_ok hm, str_size, frm_length]; rfl
  obtain ⟨f1, f2, f3⟩ := fr_frm hm ⟨#[120]⟩
  have hX := wrap_any ⟨#[97]⟩ (by decide)
  rw [wrapE_ok hm] at hX
  have hY := front_any (wrapS ⟨#[97]⟩ ++ ⟨#[120]⟩) (by rw [ByteArray.size_append, hsz]; decide)
  rw [f1, f2, f3] at hY
  obtain ⟨S, hS⟩ : ∃ S, S = wrapS ⟨#[97]⟩ := ⟨_, rfl⟩
  rw [← hS] at hX hY h1 hsz
  clear f1 f2 f3 hm hS
  have HX := Lib.hid (And.intro hX hY)
  clear hX hY
  have hc : (⟨#[120]⟩ : ByteArray).size = 1 := rfl
  go_enter Try.func9, Try.ntmps9
  go_wp2_with fail
  refine (HX.out.1 _).mono ?_
  rintro e w1 ⟨rfl, h1'⟩
  have H1 := Lib.hid h1'
  clear h1'
  go_wp2_with fail
  refine (HX.out.2 _).mono ?_
  rintro e w2 ⟨rfl, h2'⟩
  have H2 := Lib.hid (below_call H1.out h2')
  clear h2'
  go_wp2_with fail
  go_ret
  exact ⟨rfl, H2.out⟩
end Go.Proofs.Ytdmbombjkinboaa
