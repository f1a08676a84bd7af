/- tree.leafText, nodeText, Leaf, Node, half; the reference's Leaf, Node, split. -/
import Derived.Test.YtdjhlgodecnidaaDoorTrMore
import Derived.Test.YtdjhlgodecnidaaDoorBitsLen
import Derived.Test.YtdjhlgodecnidaaDoorMH3
import Derived.Lib.BitFns
import Derived.IntWalk
namespace Go.Proofs.YtdjhlgodecnidaaDoor
open Go.RowKit
open Go.RowKit (wrap64)
open Tr

theorem leafT_size (s : ByteArray) : (leafT s).size = 1 + s.size := by unfold leafT; rw [ByteArray.size_append]; rfl
theorem nodeT_size (a b : ByteArray) : (nodeT a b).size = 1 + a.size + b.size := by unfold nodeT; rw [ByteArray.size_append, ByteArray.size_append]; rfl
set_option maxRecDepth 100000 in
theorem leafText_any (s : ByteArray) (hs : s.size ≤ 100000) (w : World) : Calls Tryd.prog 57 #[.string s] w fun e w' => e = .returned (.string (leafT s)) ∧ w' = w := by
  have h1 : (ByteArray.mk #[0]).size = 1 := rfl
  have h2 : (s.size : Int) ≤ 100000 := by omega
  go_enter Tryd.func57, Tryd.ntmps57
  go_wp2_with fail
  go_ret
  exact ⟨rfl, rfl⟩
set_option maxRecDepth 100000 in
theorem nodeText_any (a b : ByteArray) (ha : a.size ≤ 100000) (hb : b.size ≤ 100000) (w : World) : Calls Tryd.prog 58 #[.string a, .string b] w fun e w' => e = .returned (.string (nodeT a b)) ∧ w' = w := by
  have h1 : (ByteArray.mk #[1]).size = 1 := rfl
  have h2 : (a.size : Int) ≤ 100000 := by omega
  have h3 : (b.size : Int) ≤ 100000 := by omega
  go_enter Tryd.func58, Tryd.ntmps58
  go_wp2_with fail
  go_ret
  exact ⟨rfl, rfl⟩
set_option maxRecDepth 100000 in
theorem leaf_any (s : ByteArray) (hs : s.size ≤ 100000) (w : World) (hG : Glob w) : Calls Tryd.prog 17 #[.string s] w fun e w' => e = .returned (.string (leaf s)) ∧ Below w.heap.size w w' := by
  go_enter Tryd.func17, Tryd.ntmps17
  go_wp2_with fail
  refine (leafText_any s hs _).mono ?_
  rintro e w1 ⟨rfl, rfl⟩
  go_wp2_with fail
  refine (dsum_any (leafT s) (by rw [leafT_size]; omega) _ hG).mono ?_
  rintro e w2 ⟨rfl, hb⟩
  go_wp2_with fail
  go_ret
  exact ⟨rfl, hb⟩
set_option maxRecDepth 100000 in
theorem node_any (a b : ByteArray) (ha : a.size ≤ 100000) (hb : b.size ≤ 100000) (w : World) (hG : Glob w) : Calls Tryd.prog 19 #[.string a, .string b] w fun e w' => e = .returned (.string (node a b)) ∧ Below w.heap.size w w' := by
  go_enter Tryd.func19, Tryd.ntmps19
  go_wp2_with fail
  refine (nodeText_any a b ha hb _).mono ?_
  rintro e w1 ⟨rfl, rfl⟩
  go_wp2_with fail
  refine (dsum_any (nodeT a b) (by rw [nodeT_size]; omega) _ hG).mono ?_
  rintro e w2 ⟨rfl, hb⟩
  go_wp2_with fail
  go_ret
  exact ⟨rfl, hb⟩
set_option maxRecDepth 100000 in
theorem rleaf_any (s : ByteArray) (hs : s.size ≤ 100000) (w : World) : Calls Tryd.prog 18 #[.string s] w fun e w' => e = .returned (.string (leaf s)) ∧ Below w.heap.size w w' := by
  have h1 : (ByteArray.mk #[0]).size = 1 := rfl
  have h2 : (s.size : Int) ≤ 100000 := by omega
  go_enter Tryd.func18, Tryd.ntmps18
  go_wp2_with fail
  refine (rsumref_any (leafT s) (by rw [leafT_size]; omega) _).mono ?_
  rintro e w2 ⟨rfl, hb⟩
  go_wp2_with fail
  go_ret
  exact ⟨rfl, hb⟩
set_option maxRecDepth 100000 in
theorem rnode_any (a b : ByteArray) (ha : a.size ≤ 100000) (hb : b.size ≤ 100000) (w : World) : Calls Tryd.prog 20 #[.string a, .string b] w fun e w' => e = .returned (.string (node a b)) ∧ Below w.heap.size w w' := by
  have h1 : (ByteArray.mk #[1]).size = 1 := rfl
  have h2 : (a.size : Int) ≤ 100000 := by omega
  have h3 : (b.size : Int) ≤ 100000 := by omega
  go_enter Tryd.func20, Tryd.ntmps20
  go_wp2_with fail
  refine (rsumref_any (nodeT a b) (by rw [nodeT_size]; omega) _).mono ?_
  rintro e w2 ⟨rfl, hb⟩
  go_wp2_with fail
  go_ret
  exact ⟨rfl, hb⟩
theorem bitLen_log2 : ∀ (n x : Nat), x ≤ n → x < 2 ^ 64 → 1 ≤ x → Lib.bitLen x = Nat.log2 x + 1 := by
  intro n
  induction n with
  | zero => intro x h1 h2 h3; omega
  | succ n ih =>
    intro x h1 h2 h3
    by_cases hx : x = 1
    · subst hx; decide
    · rw [Lib.bitLen_half x (by omega) h2, ih (x / 2) (by omega) (by omega) (by omega), Nat.log2_def x, if_pos (by omega)]
      omega
set_option maxRecDepth 100000 in
theorem half_any (n : Nat) (h2 : 2 ≤ n) (hn : n ≤ 1000000) (w : World) : Calls Tryd.prog 60 #[.int .i64 n] w fun e w' => e = .returned (.int .i64 (hf n)) ∧ w' = w := by
  obtain ⟨L, hL⟩ : ∃ L, L = Nat.log2 (n - 1) := ⟨_, rfl⟩
  have hbl : Lib.bitLen (n - 1) = L + 1 := by rw [hL]; exact bitLen_log2 _ _ (Nat.le_refl _) (by omega) (by omega)
  have hL20 : L < 20 := by rw [hL]; exact (Nat.log2_lt (by omega)).2 (by omega)
  have hln := Tryd.bits_Len ((n - 1 : Nat) : Int) w (by omega) (by omega)
  rw [Int.toNat_natCast, hbl] at hln
  obtain ⟨p, hp⟩ : ∃ p : Nat, p = n - 1 := ⟨_, rfl⟩
  rw [← hp] at hln
  have e1 : IntKind.i64.wrap ((n : Int) - 1) = (p : Int) := by rw [show (n : Int) - 1 = ((p : Nat) : Int) by omega]; exact IntWalk.i64_in _ (by omega)
  have e2 : IntKind.u64.wrap (p : Int) = (p : Int) := IntWalk.u64_in _ (by omega)
  have e3 : IntKind.i64.wrap (((L + 1 : Nat) : Int) - 1) = (L : Int) := by rw [show ((L + 1 : Nat) : Int) - 1 = (L : Int) by omega]; exact IntWalk.i64_in _ (by omega)
  have H := Lib.hid (And.intro hln hL)
  clear hln hbl hp h2 hn
  go_enter Tryd.func60, Tryd.ntmps60
  go_wp2_with fail
  refine H.out.1.mono ?_
  rintro e w1 ⟨rfl, rfl⟩
  go_wp2_with fail
  have hw : wrap64 ((2 : Int) ^ (n - 1).log2) = ((hf n : Nat) : Int) := by
    have e : ((2 : Int) ^ (n - 1).log2) = ((hf n : Nat) : Int) := by unfold hf; rw [Int.natCast_pow]; rfl
    have hlt : hf n ≤ 2 ^ 20 := by unfold hf; exact Nat.pow_le_pow_right (by decide) (by rw [← H.out.2]; omega)
    rw [e]
    unfold wrap64
    omega
  go_ret
  exact ⟨by rw [← hw]; rfl, rfl⟩
end Go.Proofs.YtdjhlgodecnidaaDoor
