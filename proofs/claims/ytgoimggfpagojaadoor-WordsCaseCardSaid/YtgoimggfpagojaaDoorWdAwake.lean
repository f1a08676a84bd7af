/- lockboxlaw15.awake. -/
import Derived.Test.YtgoimggfpagojaaDoorWdTag
import Derived.Test.YtgoimggfpagojaaDoorWdOf
import Derived.Test.YtgoimggfpagojaaDoorFSame
namespace Go.Proofs.YtgoimggfpagojaaDoor
open Go.RowKit

theorem wbelow_call {A B C : World} (h : Below A.heap.size A B) (k : Below B.heap.size B C) : Below A.heap.size A C := h.trans (k.mono h.size)
def catText : ByteArray := ⟨#[84, 104, 101, 32, 99, 97, 116, 44, 32, 116, 104, 101, 32, 67, 65, 84, 45, 50, 33]⟩
def catWords : List ByteArray := [⟨#[50]⟩, ⟨#[99, 97, 116]⟩, ⟨#[116, 104, 101]⟩]
theorem cat_words : Wd.ofW catText.data.toList = catWords := by decide +kernel
theorem cat_word : Wd.norm (ByteArray.mk #[67, 65, 84]).data.toList = .ok [99, 97, 116] := by rfl
theorem tagT_size (key : ByteArray) (x : List UInt8) : (tagT key x).size = 32 := by rw [tagT, str_size, code_length]
theorem zkey_size : (str (List.replicate 32 0)).size = 32 := by rw [str_size, List.length_replicate]
set_option maxRecDepth 100000 in
set_option maxHeartbeats 1000000 in
theorem awake15_any (w : World) (hG : Glob w) : Calls Tryd.prog 12 #[] w fun e w' => e = .returned (.bool true) ∧ Below w.heap.size w w' := by
  obtain ⟨Z, hZ⟩ : ∃ Z, Z = str (List.replicate 32 0) := ⟨_, rfl⟩
  have hZs : Z.size = 32 := by rw [hZ]; exact zkey_size
  obtain ⟨w1, hmk, hown, hb1⟩ := pmake_bytes w 32 (by decide)
  have hmk2 : (Instr.makeSlice 42 (.int .i64 32) (.int .i64 32)).run Tryd.prog w = .ok (.slice (some ⟨w.heap.size, 0, none⟩) 32 32) w1 := hmk
  clear hmk
  have hcv := hown.conv
  rw [List.length_replicate, ← hZ] at hcv
  obtain ⟨T, hT⟩ : ∃ T, T = tagT Z [99, 97, 116] := ⟨_, rfl⟩
  have hTs : T.size = 32 := by rw [hT]; exact tagT_size _ _
  have htag := wtag_any Z ⟨#[67, 65, 84]⟩ (by decide) w1 (hG.below hb1)
  have htv : tagV (tagE Z ⟨#[67, 65, 84]⟩) = .tuple #[.string T, .int .i64 0] := by unfold tagE; rw [if_neg (by omega), cat_word, hT]; rfl
  rw [htv] at htag
  have hof := fun W : World => wof_any catText (by decide) W
  rw [cat_words] at hof
  have hH := Lib.hid (And.intro htag (And.intro hof (And.intro hb1 hZ)))
  have hsm := fun (W : World) (a : Option Addr) (cap : Nat) (h : TextsAt W a catWords) => rsame_any catWords a (some ⟨W.heap.size, 0, none⟩) cap 3 (W.alloc (.cells #[.string ⟨#[50]⟩, .string ⟨#[99, 97, 116]⟩, .string ⟨#[116, 104, 101]⟩] 9)) (h.below ((Below.refl _ _).alloc (Nat.le_refl _) _)) (texts_new W catWords #[.string ⟨#[50]⟩, .string ⟨#[99, 97, 116]⟩, .string ⟨#[116, 104, 101]⟩] rfl) (by decide)
  have hS := Lib.hid hsm
  clear htag hof htv hb1 hZ hT hown hsm
  go_enter Tryd.func12, Tryd.ntmps12
  go_wp2_with fail
  refine hH.out.1.mono ?_
  rintro e w2 ⟨rfl, h2⟩
  have H2 := Lib.hid (wbelow_call hH.out.2.2.1 h2)
  clear h2 hmk2 hcv
  go_wp2_with fail
  refine (hH.out.2.1 _).mono ?_
  rintro e w3 ⟨ad, cap, rfl, ho, h3⟩
  have H3 := Lib.hid (And.intro (wbelow_call H2.out h3) ho.texts)
  clear ho h3
  go_wp2_with fail
  refine (hS.out _ ad cap H3.out.2).mono ?_
  rintro e w4 ⟨rfl, h4⟩
  have H4 := Lib.hid (wbelow_call (H3.out.1.alloc H3.out.1.size _) h4)
  clear h4
  go_wp2_with fail
  go_ret
  exact ⟨rfl, H4.out⟩
end Go.Proofs.YtgoimggfpagojaaDoor
