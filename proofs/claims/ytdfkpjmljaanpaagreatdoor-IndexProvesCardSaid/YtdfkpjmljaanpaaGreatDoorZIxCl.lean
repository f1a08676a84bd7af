/- IxCl, what is wanted of it. -/
import Derived.Test.YtdfkpjmljaanpaaGreatDoorZTrCl2
import Derived.Test.YtdfkpjmljaanpaaGreatDoorZMX1
namespace Go.Proofs.YtdfkpjmljaanpaaGreatDoor
open Go.RowKit
open Tr
def clX (n i : Int) (d : ByteArray) (ws : List ByteArray) : ByteArray × List ByteArray × Int :=
  if 1 ≤ n ∧ n ≤ 4096 ∧ 0 ≤ i ∧ i < n then climbA n.toNat i.toNat d ws else (⟨#[]⟩, [], 1)
theorem clX_of (n i : Int) (d : ByteArray) (hd : d.size = 32) (ws : List ByteArray) : (∃ x, Ix.clI n i d ws = some x ∧ clX n i d ws = (x.1, x.2.1, 0)) ∨ (Ix.clI n i d ws = none ∧ ∃ e, clX n i d ws = (⟨#[]⟩, [], e) ∧ e ≠ 0) := by
  unfold Ix.clI clX
  by_cases h : 1 ≤ n ∧ n ≤ 4096 ∧ 0 ≤ i ∧ i < n
  · rw [if_pos h]
    unfold climbA
    cases hb : badB ws with
    | true =>
      have hd2 : ¬ (Ix.digB ws = true) := fun e => by
        have := badB_false.2 (Ix.digB_iff.1 e)
        rw [hb] at this; cases this
      rw [if_neg (fun h2 => hd2 h2.2.2.2.2), if_neg (fun h2 => by cases h2.2)]
      exact Or.inr ⟨rfl, 1, rfl, by decide⟩
    | false =>
      have hd2 : Ix.digB ws = true := Ix.digB_iff.2 (badB_false.1 hb)
      rw [if_pos ⟨h.1, h.2.1, h.2.2.1, h.2.2.2, hd2⟩, if_pos ⟨hd, rfl⟩]
      cases hc : climb i.toNat (n.toNat - 1) d ws with
      | none => exact Or.inr ⟨rfl, 12, rfl, by decide⟩
      | some x => exact Or.inl ⟨x, rfl, rfl⟩
  · rw [if_neg h, if_neg (fun h2 => h ⟨h2.1, h2.2.1, h2.2.2.1, h2.2.2.2.1⟩)]
    exact Or.inr ⟨rfl, 1, rfl, by decide⟩
set_option maxRecDepth 100000 in
set_option maxHeartbeats 2000000 in
theorem climbX_any (n i : Int) (d : ByteArray) (hd : d.size ≤ 100000) (ws : List ByteArray) (hws : ws.length ≤ 1000000) (b0 : Option Addr) (cap : Nat) (hcap : ws.length ≤ cap) (hmax : cap ≤ maxLen) (w : World) (hG : Glob w) (hT : TextsAt w b0 ws) :
    Calls Tryz.prog 163 #[.int .i64 n, .int .i64 i, .string d, .slice b0 ws.length cap] w fun e w' => ∃ a c, e = .returned (.tuple #[.string (clX n i d ws).1, .slice a (clX n i d ws).2.1.length c, .int .i64 (clX n i d ws).2.2]) ∧ OwnT w.heap.size w' a c (clX n i d ws).2.1 ∧ Below w.heap.size w w' := by
  by_cases h : 1 ≤ n ∧ n ≤ 4096 ∧ 0 ≤ i ∧ i < n
  · obtain ⟨m, rfl⟩ : ∃ m : Nat, n = m := ⟨n.toNat, by omega⟩
    obtain ⟨j, rfl⟩ : ∃ j : Nat, i = j := ⟨i.toNat, by omega⟩
    have := bigClimb_any m j (by omega) (by omega) (by omega) d hd ws hws b0 cap hcap hmax w hG hT
    have e : clX (m : Int) (j : Int) d ws = climbA m j d ws := by
      unfold clX
      rw [if_pos h, Int.toNat_natCast, Int.toNat_natCast]
    rw [e]
    exact this
  · have e : clX n i d ws = (⟨#[]⟩, [], 1) := if_neg h
    rw [e]
    obtain ⟨m, hm⟩ : ∃ m, m = ws.length := ⟨_, rfl⟩
    rw [← hm]
    clear e hm hws hcap hmax hG hT hd
    by_cases h1 : n < 1
    · clear h
      go_enter Tryz.func163, Tryz.ntmps163
      go_wp2_with fail
      go_ret3
      exact ⟨none, 0, rfl, OwnT.nil _ _, Below.refl _ _⟩
    by_cases h2 : 4096 < n
    · clear h
      go_enter Tryz.func163, Tryz.ntmps163
      go_wp2_with fail
      go_ret3
      exact ⟨none, 0, rfl, OwnT.nil _ _, Below.refl _ _⟩
    by_cases h3 : i < 0
    · clear h
      go_enter Tryz.func163, Tryz.ntmps163
      go_wp2_with fail
      go_ret3
      exact ⟨none, 0, rfl, OwnT.nil _ _, Below.refl _ _⟩
    · have h4 : n ≤ i := by omega
      clear h
      go_enter Tryz.func163, Tryz.ntmps163
      go_wp2_with fail
      go_ret3
      exact ⟨none, 0, rfl, OwnT.nil _ _, Below.refl _ _⟩
end Go.Proofs.YtdfkpjmljaanpaaGreatDoor
