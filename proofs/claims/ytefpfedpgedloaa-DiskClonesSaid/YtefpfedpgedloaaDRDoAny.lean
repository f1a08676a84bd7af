/- The reference of disk: Do, of any change. -/
import Derived.Test.YtefpfedpgedloaaDRDoU0
import Derived.Test.YtefpfedpgedloaaDRDoU1
import Derived.Test.YtefpfedpgedloaaDRDoU2
import Derived.Test.YtefpfedpgedloaaDRDoL0
import Derived.Test.YtefpfedpgedloaaDRDoL1
import Derived.Test.YtefpfedpgedloaaDRDoL2
import Derived.Test.YtefpfedpgedloaaDRDoS0
import Derived.Test.YtefpfedpgedloaaDRDoS1
import Derived.Test.YtefpfedpgedloaaDRDoS2
namespace Go.Proofs.Ytefpfedpgedloaa
open Go.RowKit
open Dk

theorem rdo_any {w : World} {S : Nat → Prop} {cells : Array Value} {R : Disk} (h : RefIn w S cells R) (hS : ∀ g, w.heap.size ≤ g → S g) (ok : R.Ok) (hs : Small R) (hw : R.waits.length ≤ 999999) (kind : Nat) (hk : kind ≤ 2) (x long : Int) (text : ByteArray) (hlg : kind ≠ 1 → long = 0) :
    Calls Try.prog 32 #[.agg cells, .agg #[.int .i64 (kind : Int), .int .i64 x, .string text, .int .i64 long]] w fun e w' =>
      ∃ cells', e = .returned (.tuple #[.agg cells', .int .i64 (R.act kind x long text).2]) ∧ RefIn w' S cells' (R.act kind x long text).1 ∧ Below w.heap.size w w' := by
  have hw6 : R.waits.length ≤ 1000000 := by omega
  have hc0 := hs.changes0
  have hc1 := hs.changes1
  have hf0 := hs.falls0
  have hf1 := hs.falls1
  have ha1 := hs.after
  unfold Disk.act
  by_cases hr : R.refused kind x long text = 0
  · rw [if_pos hr]
    obtain ⟨hm, hF2⟩ := ok.may hk hr
    obtain ⟨hd, h0, h1, h2, h3⟩ := Disk.refused_zero hr
    have hl0 : 0 ≤ long := by
      by_cases e : kind = 1
      · exact (h2 e).1
      · rw [hlg e]; exact Int.le_refl _
    obtain ⟨m, rfl⟩ : ∃ m : Nat, x = m := ⟨x.toNat, by omega⟩
    obtain ⟨n, rfl⟩ : ∃ n : Nat, long = n := ⟨long.toNat, by omega⟩
    rw [Int.toNat_natCast, Int.toNat_natCast] at *
    have hm1 : m < R.sure.length := by omega
    have h2' : kind = 1 → n ≤ (exAt R.now m).size := fun e => by have := (h2 e).2; omega
    unfold Disk.puts
    by_cases hl : R.laid = true
    · by_cases ha : R.after ≤ 0
      · rw [if_pos ⟨hl, ha⟩]
        rcases (by omega : kind = 0 ∨ kind = 1 ∨ kind = 2) with e | e | e
        · exact rdo_struck0 h kind m n text hS ok.fits ok.num hw hd hm1 ok.room0 ok.room1 hc0 hc1 h3 hl ha hF2 hf0 hf1 e
        · exact rdo_struck1 h kind m n text hS ok.fits ok.num hw hd hm1 ok.room0 ok.room1 hc0 hc1 h2' hl ha hF2 hf0 hf1 e
        · exact rdo_struck2 h kind m n text hS ok.fits ok.num hw hd hm1 ok.room0 ok.room1 hc0 hc1 hl ha hF2 hf0 hf1 e
      · rw [if_neg (fun h => ha h.2), if_pos hl]
        have ha0 : 0 < R.after := by omega
        rcases (by omega : kind = 0 ∨ kind = 1 ∨ kind = 2) with e | e | e
        · exact rdo_laid0 h kind m n text hS ok.fits ok.num hw6 hd hm1 ok.room0 ok.room1 hc0 hc1 h3 hl ha0 ha1 e
        · exact rdo_laid1 h kind m n text hS ok.fits ok.num hw6 hd hm1 ok.room0 ok.room1 hc0 hc1 h2' hl ha0 ha1 e
        · exact rdo_laid2 h kind m n text hS ok.fits ok.num hw6 hd hm1 ok.room0 ok.room1 hc0 hc1 hl ha0 ha1 e
    · rw [if_neg (fun h => hl h.1), if_neg hl]
      have hl : R.laid = false := by simpa using hl
      rcases (by omega : kind = 0 ∨ kind = 1 ∨ kind = 2) with e | e | e
      · exact rdo_unlaid0 h kind m n text hS ok.fits ok.num hw6 hd hm1 ok.room0 ok.room1 hc0 hc1 h3 hl e
      · exact rdo_unlaid1 h kind m n text hS ok.fits ok.num hw6 hd hm1 ok.room0 ok.room1 hc0 hc1 h2' hl e
      · exact rdo_unlaid2 h kind m n text hS ok.fits ok.num hw6 hd hm1 ok.room0 ok.room1 hc0 hc1 hl e
  · rw [if_neg hr]
    unfold Disk.refused at hr ⊢
    cases hd : R.down with
    | true => simp only [if_true]; exact rdo_down h kind x long text hd
    | false =>
      simp only [hd, Bool.false_eq_true, if_false] at hr ⊢
      by_cases hx : x < 0 ∨ (R.sure.length : Int) ≤ x
      · rw [if_pos hx]; exact rdo_far h kind x long text hd ok.num hx
      · rw [if_neg hx] at hr ⊢
        obtain ⟨m, rfl⟩ : ∃ m : Nat, x = m := ⟨x.toNat, by omega⟩
        rw [Int.toNat_natCast] at hr ⊢
        have hm1 : m < R.sure.length := by omega
        by_cases h1 : kind = 1 ∧ (long < 0 ∨ ((exAt R.now m).size : Int) < long)
        · rw [if_pos h1]; exact rdo_late h kind m long text hS ok.fits ok.num hw6 hd hm1 ok.room0 ok.room1 1 (.inl ⟨h1.1, h1.2, rfl⟩)
        · rw [if_neg h1] at hr ⊢
          by_cases h2 : kind = 0 ∧ R.room - ((exAt R.now m).size : Int) < (text.size : Int)
          · rw [if_pos h2]; exact rdo_late h kind m long text hS ok.fits ok.num hw6 hd hm1 ok.room0 ok.room1 6 (.inr ⟨h2.1, h2.2, rfl⟩)
          · rw [if_neg h2] at hr; exact absurd rfl hr
end Go.Proofs.Ytefpfedpgedloaa
