/- lockboxref21.Do, any kind. -/
import Derived.Test.YtnkkbinbeildmaaBkS
import Derived.Test.YtnkkbinbeildmaaBkS1
import Derived.Test.YtnkkbinbeildmaaBkS2
import Derived.Test.YtnkkbinbeildmaaBkS3
import Derived.Test.YtnkkbinbeildmaaBkT
namespace Go.Proofs.Ytnkkbinbeildmaa
open Go.RowKit
theorem rdo21_any (l : List En) (a0 : Option Addr) (cap : Nat) (a : Bk.Act) (hw : a.q.who.size ≤ maxLen) (hr : a.q.reason.size ≤ maxLen) (w : World) (hT : RecsAt 6 enCs w a0 l) (hm : l.length ≤ 1000000) (hst : ∀ x ∈ l, 1 ≤ x.st) :
    Calls Try.prog 26 #[.slice a0 l.length cap, raVal (nk a)] w fun e w' => RPost a0 w l (Bk.doI l (nk a)) e w' := by
  have hk := nk_kind a
  obtain ⟨k, hkk⟩ : ∃ k, k = (nk a).kind := ⟨_, rfl⟩
  have hn : nk a = ⟨k, a.q, a.id, a.who, a.now⟩ := by rw [hkk]; rfl
  rw [← hkk] at hk
  rw [hn]
  unfold raVal
  rcases (by omega : k = 0 ∨ k = 1 ∨ k = 2 ∨ k = 3) with rfl | rfl | rfl | rfl
  · exact rdo21_0 l a0 cap a.q a.id a.who a.now hw hr w hT hm hst
  · exact rdo21_1 l a0 cap a.q a.id a.who a.now w hT hm hst
  · exact rdo21_2 l a0 cap a.q a.id a.who a.now w hT hm hst
  · exact rdo21_3 l a0 cap a.q a.id a.who a.now w hT hm hst
/-- The document's list beside a book: where it lies. -/
def Apart (nb : Nat) (R : Option Nat) (ar : Option Addr) (w : World) : Prop := ∀ g o, ar = some ⟨g, o, none⟩ → g < w.heap.size ∧ g ≠ nb ∧ R ≠ some g
theorem Apart.nil (nb : Nat) (R : Option Nat) (w : World) : Apart nb R none w := fun _ _ h => by cases h
theorem Apart.below {nb : Nat} {R : Option Nat} {ar : Option Addr} {w w' : World} (h : Apart nb R ar w) (hb : Below w.heap.size w w') : Apart nb R ar w' := fun g o e => ⟨Nat.lt_of_lt_of_le (h g o e).1 hb.size, (h g o e).2⟩
theorem Apart.fresh {nb : Nat} {R : Option Nat} {ar ar' : Option Addr} {w0 w w' : World} (h : Apart nb R ar w0) (hb0 : Below w0.heap.size w0 w) (hb : Below w.heap.size w w') (hnb : nb < w0.heap.size) (hR : ∀ g, R = some g → g < w0.heap.size) (hfr : ar' = ar ∨ ∀ g o, ar' = some ⟨g, o, none⟩ → w.heap.size ≤ g ∧ g < w'.heap.size) : Apart nb R ar' w' := fun g o e => by
  rcases hfr with e2 | e2
  · subst e2
    have := h g o e
    exact ⟨by have := hb0.size; have := hb.size; omega, this.2⟩
  · have := e2 g o e
    have hs := hb0.size
    exact ⟨this.2, by omega, fun e3 => by have := hR g e3; omega⟩
theorem Apart.kept {nb : Nat} {R R' : Option Nat} {ar : Option Addr} {w w' : World} (h : Apart nb R ar w) (hk : w.heap.size ≤ w'.heap.size) (hR : R' = R ∨ ∀ g, R' = some g → w.heap.size ≤ g) : Apart nb R' ar w' := fun g o e => by
  have h1 := h g o e
  refine ⟨Nat.lt_of_lt_of_le h1.1 hk, h1.2.1, fun e2 => ?_⟩
  rcases hR with hR | hR
  · exact h1.2.2 (hR ▸ e2)
  · have := hR g e2; omega
theorem doI_code (l : List En) (a : Bk.Act) : 0 ≤ (Bk.doI l a).2 ∧ (Bk.doI l a).2 ≤ 13 := by
  unfold Bk.doI Bk.putI Bk.judI
  repeat' split
  all_goals first | omega | (constructor <;> decide) | skip
  all_goals (simp only; repeat' split)
  all_goals omega
theorem doI_none {l : List En} {a : Bk.Act} (h : (Bk.doI l a).2 ≠ 0) : Bk.after l a = l := by
  unfold Bk.after
  unfold Bk.doI Bk.putI at h ⊢
  repeat' split
  all_goals first | rfl | skip
  all_goals (simp_all)
end Go.Proofs.Ytnkkbinbeildmaa
