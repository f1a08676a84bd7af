/- The law's 'do', at any act. -/
import Derived.Test.YtefpfedpgedloaaDLdo0
import Derived.Test.YtefpfedpgedloaaDLdo1
import Derived.Test.YtefpfedpgedloaaDLdo2
import Derived.Test.YtefpfedpgedloaaDLdo3
import Derived.Test.YtefpfedpgedloaaDLdo4
import Derived.Test.YtefpfedpgedloaaDLdo5
import Derived.Test.YtefpfedpgedloaaDLdo6
import Derived.Test.YtefpfedpgedloaaDLdo7
namespace Go.Proofs.Ytefpfedpgedloaa
open Go.RowKit
open Dk

theorem ldo_any {V : Nat → Prop} {w : World} {ρ : Nat → Nat} {b : Nat} {D R : Disk} {cells : Array Value} (x : Deed) (hd : DiskAt w ρ b D) (hr : RefIn w (fun g => ρ g = 0 ∧ V g) cells R) (hV : ∀ g, w.heap.size ≤ g → V g) (ok : R.Ok) (hsD : Small D) (hsR : Small R) (hw : R.waits.length ≤ 999999) :
    Calls Try.prog 14 #[.pointer (some ⟨b, 0, none⟩), .agg cells, .agg x.cells] w fun e w' => ∃ cells' t, e = .returned (.tuple #[.agg cells', .bool t]) ∧ (D = R → t = true) ∧ ∃ ρ', DiskAt w' ρ' b (deed D x).1 ∧ RefIn w' (fun g => ρ' g = 0 ∧ V g) cells' (deed R x).1 ∧ Touch RA ρ ρ' w w' := by
  by_cases h0 : x.kind = 0
  · have e : ∀ d, deed d x = d.act 0 x.x 0 x.s := fun d => by unfold deed; rw [if_pos h0]
    rw [e, e]; exact ldo0 hd hr hV ok hsD hsR hw h0
  by_cases h1 : x.kind = 1
  · have e : ∀ d, deed d x = d.act 1 x.x x.n ⟨#[]⟩ := fun d => by unfold deed; rw [if_neg h0, if_pos h1]
    rw [e, e]; exact ldo1 hd hr hV ok hsD hsR hw h1
  by_cases h2 : x.kind = 2
  · have e : ∀ d, deed d x = d.act 2 x.x 0 ⟨#[]⟩ := fun d => by unfold deed; rw [if_neg h0, if_neg h1, if_pos h2]
    rw [e, e]; exact ldo2 hd hr hV ok hsD hsR hw h2
  by_cases h3 : x.kind = 3
  · have e : ∀ d, deed d x = d.sync := fun d => by unfold deed; rw [if_neg h0, if_neg h1, if_neg h2, if_pos h3]
    rw [e, e]; exact ldo3 hd hr hV ok hsD hw h3
  by_cases h4 : x.kind = 4
  · have e : ∀ d, deed d x = (d.fail x.x x.n, 0) := fun d => by unfold deed; rw [if_neg h0, if_neg h1, if_neg h2, if_neg h3, if_pos h4]
    rw [e, e]; exact ldo4 hd hr hV hsD ok hsR hw h4
  by_cases h5 : x.kind = 5
  · have e : ∀ d, deed d x = (d.up, if d.down = true then 1 else 0) := fun d => by unfold deed; rw [if_neg h0, if_neg h1, if_neg h2, if_neg h3, if_neg h4, if_pos h5]
    rw [e, e]; exact ldo5 hd hr h5
  by_cases h6 : x.kind = 6
  · have e : ∀ d, deed d x = (d.lay x.after x.keep x.torn, 0) := fun d => by unfold deed; rw [if_neg h0, if_neg h1, if_neg h2, if_neg h3, if_neg h4, if_neg h5, if_pos h6]
    rw [e, e]; exact ldo6 hd hr h6
  have e : ∀ d, deed d x = (d, 0) := fun d => by unfold deed; rw [if_neg h0, if_neg h1, if_neg h2, if_neg h3, if_neg h4, if_neg h5, if_neg h6]
  rw [e, e]
  refine ldo7 hd hr (fun k hk => ?_)
  rcases (by omega : k = 0 ∨ k = 1 ∨ k = 2 ∨ k = 3 ∨ k = 4 ∨ k = 5 ∨ k = 6) with rfl | rfl | rfl | rfl | rfl | rfl | rfl <;> assumption
/-- What an act keeps. -/
theorem deed_ok {d : Disk} (h : d.Ok) (x : Deed) : (deed d x).1.Ok := by
  unfold deed
  split
  · exact h.act (by omega) _ _ _
  split
  · exact h.act (by omega) _ _ _
  split
  · exact h.act (by omega) _ _ _
  split
  · exact h.sync
  split
  · exact h.fail _ _
  split
  · exact h.up
  split
  · exact h.lay _ _ _
  · exact h
/-- A disk behind at most n acts. -/
structure Near (n : Nat) (d : Disk) : Prop where
  ok : d.Ok
  waits : d.waits.length ≤ n
  falls0 : 0 ≤ d.falls
  falls1 : d.falls ≤ n
  changes0 : 0 ≤ d.changes
  changes1 : d.changes ≤ n
  after : d.after ≤ 9223372036854775807
theorem Near.small {n : Nat} {d : Disk} (h : Near n d) (hn : n ≤ 1000) : Small d :=
  ⟨by have := h.waits; omega, h.falls0, by have := h.falls1; omega, h.changes0, by have := h.changes1; omega, h.after⟩
theorem Near.new {n : Nat} {room : Int} (hn : n ≤ 64) (h0 : 1 ≤ room) (h1 : room ≤ 65536) : Near 0 (Disk.new n room) :=
  ⟨Disk.Ok.new hn h0 h1, Nat.le_refl 0, Int.le_refl 0, Int.le_refl 0, Int.le_refl 0, Int.le_refl 0, by show (0 : Int) ≤ _; omega⟩
theorem Disk.fail_after {d : Disk} (keep torn : Int) : (d.fail keep torn).after = d.after := by unfold Disk.fail; split <;> rfl
theorem Disk.act_after {d : Disk} (kind : Nat) (x long : Int) (text : ByteArray) : (d.act kind x long text).1.after ≤ d.after := by
  unfold Disk.act
  split
  · unfold Disk.puts
    split
    · rw [Disk.fail_after]; exact Int.le_refl _
    · show (if d.laid = true then d.after - 1 else d.after) ≤ _; split <;> omega
  · exact Int.le_refl _
theorem Near.act {n : Nat} {d : Disk} (h : Near n d) {kind : Nat} (hk : kind ≤ 2) (x long : Int) (text : ByteArray) : Near (n + 1) (d.act kind x long text).1 := by
  have a := Disk.act_waits (d := d) kind x long text
  have b := Disk.act_changes (d := d) kind x long text
  have c := Disk.act_falls (d := d) kind x long text
  have e := Disk.act_after (d := d) kind x long text
  have := h.waits; have := h.falls0; have := h.falls1; have := h.changes0; have := h.changes1; have := h.after
  exact ⟨h.ok.act hk _ _ _, by omega, by omega, by omega, by omega, by omega, by omega⟩
theorem Near.step {n : Nat} {d : Disk} (h : Near n d) (x : Deed) (hx : x.Ok) : Near (n + 1) (deed d x).1 := by
  have h1 := h.waits; have h2 := h.falls0; have h3 := h.falls1; have h4 := h.changes0; have h5 := h.changes1; have h6 := h.after
  unfold deed
  split
  · exact h.act (by omega) _ _ _
  split
  · exact h.act (by omega) _ _ _
  split
  · exact h.act (by omega) _ _ _
  split
  · refine ⟨h.ok.sync, ?_, ?_, ?_, ?_, ?_, ?_⟩ <;> (unfold Disk.sync; split <;> simp <;> omega)
  split
  · have a := Disk.fail_waits (d := d) x.x x.n
    have b := Disk.fail_changes (d := d) x.x x.n
    have c := Disk.fail_falls (d := d) x.x x.n
    have e := Disk.fail_after (d := d) x.x x.n
    exact ⟨h.ok.fail _ _, by show (d.fail x.x x.n).waits.length ≤ _; omega, by show 0 ≤ (d.fail x.x x.n).falls; omega, by show (d.fail x.x x.n).falls ≤ _; omega, by show 0 ≤ (d.fail x.x x.n).changes; omega, by show (d.fail x.x x.n).changes ≤ _; omega, by show (d.fail x.x x.n).after ≤ _; omega⟩
  split
  · exact ⟨h.ok.up, by show d.waits.length ≤ _; omega, h2, by show d.falls ≤ _; omega, h4, by show d.changes ≤ _; omega, h6⟩
  split
  · exact ⟨h.ok.lay _ _ _, by show d.waits.length ≤ _; omega, h2, by show d.falls ≤ _; omega, h4, by show d.changes ≤ _; omega, hx.after.2⟩
  · exact ⟨h.ok, by show d.waits.length ≤ _; omega, h2, by show d.falls ≤ _; omega, h4, by show d.changes ≤ _; omega, h6⟩
end Go.Proofs.Ytefpfedpgedloaa
