/- The law's Extents: the texts that a disk reads. -/
import Derived.Test.YtefpfedpgedloaaDRef
namespace Go.Proofs.Ytefpfedpgedloaa
open Go.RowKit
open Dk

/-- What is read of each extent. -/
def extD (D : Disk) : List ByteArray := (List.range D.sure.length).map fun (k : Nat) => readD D (k : Int)
theorem extD_length (D : Disk) : (extD D).length = D.sure.length := by simp [extD]
theorem extD_take {D : Disk} {k : Nat} (h : k < D.sure.length) : (extD D).take (k + 1) = (extD D).take k ++ [readD D (k : Int)] := by
  rw [List.take_add_one, List.getElem?_eq_getElem (by rw [extD_length]; exact h), Option.toList_some]
  simp [extD]
set_option maxRecDepth 100000 in
set_option maxHeartbeats 2000000 in
theorem lext_any {w : World} {ρ : Nat → Nat} {b : Nat} {D : Disk} (h : DiskAt w ρ b D) :
    Calls Try.prog 22 #[.pointer (some ⟨b, 0, none⟩)] w fun e w' => ∃ a cap, e = .returned (.slice a D.sure.length cap) ∧ OwnX w.heap.size w' a cap (extD D) ∧ Below w.heap.size w w' := by
  obtain ⟨n, hN⟩ : ∃ n, n = D.sure.length := ⟨_, rfl⟩
  have hn : n ≤ 64 := by rw [hN]; exact h.ok.num
  have H := Lib.hid (And.intro h hN)
  rw [← hN]
  clear h hN
  go_enter Try.func22, Try.ntmps22
  go_wp2_with fail
  go_loopw [3, 4, 5, 6] (fun v i _ _ wr => ∃ (k : Nat) (ad : Option Addr) (cp : Nat), k ≤ n ∧ i = .int .i64 k ∧ v = .slice ad k cp ∧ OwnX w.heap.size wr ad cp ((extD D).take k) ∧ Below w.heap.size w wr) (fun _ i _ _ _ => n - (intOf i).toNat)
  case atStart => exact ⟨0, none, 0, by omega, rfl, rfl, OwnX.nil _ _, Below.refl _ _⟩
  case round =>
    obtain ⟨k, ad, cp, hk, rfl, rfl, ho, hb⟩ := hrel
    have hz := hb.size
    have HR := Lib.hid (And.intro ho (And.intro hb (show ((extD D).take k).length = k by rw [List.length_take, extD_length, ← H.out.2]; omega)))
    clear ho hb
    have hE := extents_any (H.out.1.below HR.out.2.1)
    rw [← H.out.2] at hE
    by_cases hlt : k < n
    · go_wp2_with fail
      refine hE.mono ?_
      rintro e w2 ⟨rfl, rfl⟩
      go_wp2_with fail
      refine (read_any (H.out.1.below HR.out.2.1) (k : Int)).mono ?_
      rintro e w2 ⟨rfl, rfl⟩
      clear hE
      go_wp2_with (at_builtin; (refine wpList_append_txt (w0 := w) rfl (.tmp 19) (.tmp 21) rfl (HR.out.1.below ((Below.refl _ _).alloc (Nat.le_refl _) _)) k HR.out.2.2 rfl wr.heap.size 1 (readD D (k : Int)) rfl (cell_of_row _ _ _ _ _ _ (heap_alloc_new wr _)) (by omega) (by simp; omega) (HR.out.2.1.alloc (by omega) _) ?_; intro g1 cap1 w4 hown1 hb1 hz1; have HX := Lib.hid (And.intro hown1 hb1); clear hown1 hb1 hz1))
      go_roundw
      case rel => exact ⟨k + 1, some ⟨g1, 0, none⟩, cap1, by omega, by go_num, rfl, by rw [extD_take (by rw [← H.out.2]; exact hlt)]; exact HX.out.1, HX.out.2⟩
      case measure => simp [intOf]; omega
    · obtain rfl : k = n := by omega
      go_wp2_with fail
      refine hE.mono ?_
      rintro e w2 ⟨rfl, rfl⟩
      clear hE
      go_wp2_with fail
      go_ret
      have h1 := HR.out.1
      rw [show (extD D).take k = extD D from List.take_of_length_le (by rw [extD_length, ← H.out.2]; exact Nat.le_refl _)] at h1
      exact ⟨_, _, rfl, h1, HR.out.2.1⟩
end Go.Proofs.Ytefpfedpgedloaa
