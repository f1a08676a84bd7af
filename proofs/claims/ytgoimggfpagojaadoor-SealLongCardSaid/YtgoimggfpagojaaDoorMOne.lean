/- mac.Code of one text, mac.Check. -/
import Derived.Test.YtgoimggfpagojaaDoorMCode
namespace Go.Proofs.YtgoimggfpagojaaDoor
open Go.RowKit

theorem texts_new (W : World) (ss : List ByteArray) (cs : Array Value) (hcs : cs = (ss.map Value.string).toArray) : TextsAt (W.alloc (.cells cs 9)) (some ⟨W.heap.size, 0, none⟩) ss := fun j hj => by
  refine ⟨W.heap.size, 0, rfl, by simp, ?_⟩
  rw [Nat.zero_add, cell_of_row _ _ _ _ _ _ (heap_alloc_new _ _), hcs]
  simp [hj]

theorem cat1 (a : ByteArray) : (catN [a] [a].length).data.toList = a.data.toList := by
  have e : catN [a] [a].length = catN [a] 0 ++ a := rfl
  rw [e, data_append]
  rfl
theorem cat1_size (a : ByteArray) : (catN [a] [a].length).size = a.size := by
  have h := congrArg List.length (cat1 a)
  simpa using h
/-- mac.Code of one text that was laid ahead of the call. -/
theorem mcode1 (key text : ByteArray) (hs : key.size < 1099511627000) (ht : text.size < 1099511625000) (w W : World) (hG : Glob w) (hb : Below w.heap.size w W) :
    Calls Tryd.prog 35 #[.string key, .slice (some ⟨W.heap.size, 0, none⟩) 1 1] (W.alloc (.cells #[.string text] 9)) fun e w' => e = .returned (.string (str (code key.data.toList text.data.toList))) ∧ Below w.heap.size w w' := by
  have hB : Below w.heap.size w (W.alloc (.cells #[.string text] 9)) := hb.alloc hb.size _
  have h := mcode_any key hs [text] _ 1 _ (hG.below hB) (texts_new W [text] #[.string text] rfl) (show 1 ≤ maxLen by decide) (by rw [cat1_size]; exact ht)
  rw [cat1] at h
  exact h.mono fun e w' ⟨h1, h2⟩ => ⟨h1, below_trans' hB h2 hB.size⟩

set_option maxRecDepth 100000 in
set_option maxHeartbeats 400000 in
theorem check_any (key text c : ByteArray) (hs : key.size < 1099511627000) (ht : text.size < 1099511625000) (w : World) (hG : Glob w) :
    Calls Tryd.prog 53 #[.string key, .string text, .string c] w fun e w' => e = .returned (.bool ((str (code key.data.toList text.data.toList)).toList == c.toList)) ∧ Below w.heap.size w w' := by
  go_enter Tryd.func53, Tryd.ntmps53
  go_wp2_with fail
  refine (mcode1 key text hs ht w w hG (Below.refl _ _)).mono ?_
  rintro e w1 ⟨rfl, h1⟩
  go_wp2_with fail
  go_ret
  exact ⟨rfl, h1⟩
end Go.Proofs.YtgoimggfpagojaaDoor
