/- What the weights tell of points, in texts. -/
import Derived.Test.YtefpfedpgedloaaDoorPAwake
namespace Go.Proofs.YtefpfedpgedloaaDoor
open Go.RowKit
open Gf

theorem at_tell {l v : ByteArray} (h : pts l v = true) (x : UInt8) : atB l v x = tell l.data.toList (co v.data.toList) x := by
  obtain ⟨h1, _, h3⟩ := pts_true h
  unfold atB
  rw [if_pos h]
  unfold dot
  rw [if_pos (by rw [wgtB_size x h3]; exact h1), wgtB_size x h3]
  unfold dotN tell
  rw [data_len]
  refine sumX_congr _ (fun i hi => ?_)
  rw [show (wgtB l x).data.toList = wgts l.data.toList x by unfold wgtB; rw [if_pos h3, str_data], co_wgts _ _ _ (by rw [data_len]; exact hi)]
theorem at_val {l v p : ByteArray} (h : pts l v = true) (hp : p.size ≤ l.size) (hv : ∀ i, i < l.size → valB p (co l.data.toList i) = co v.data.toList i) (x : UInt8) : atB l v x = valB p x := by
  rw [at_tell h]
  exact tell_val (ulk_nodup (pts_true h).2.2) (by rw [data_len, data_len]; exact hp) _ (fun i hi => hv i (by rwa [data_len] at hi)) x
theorem thrB_facts {l v : ByteArray} (h : pts l v = true) : trimB (thrB l v) = thrB l v ∧ (thrB l v).size ≤ l.size ∧ ∀ i, i < l.size → valB (thrB l v) (co l.data.toList i) = co v.data.toList i := by
  unfold thrB
  rw [if_pos h]
  exact ⟨thr_trimmed l v _, (thr_sizes l v _).1, fun i hi => thr_through (ulk_nodup (pts_true h).2.2) l.size (Nat.le_refl _) i hi⟩
theorem few2_le {m : Nat} {a b : ByteArray} (h : few2 (m : Int) a b = true) : a.size ≤ m ∧ b.size ≤ m := by
  unfold few2 at h; simp only [Bool.and_eq_true, decide_eq_true_eq] at h; omega
theorem rvalue_still (s : ByteArray) (hs : s.size ≤ maxLen) (x : UInt8) (w : World) :
    Calls Tryd.prog 31 #[.string s, .int .u8 (x.toNat : Int)] w fun e w' => e = .returned (.int .u8 ((valB s x).toNat : Int)) ∧ w' = w :=
  (rvalue_any s hs x w).mono fun _ _ ⟨h, k⟩ => ⟨h, k.symm⟩
end Go.Proofs.YtefpfedpgedloaaDoor
