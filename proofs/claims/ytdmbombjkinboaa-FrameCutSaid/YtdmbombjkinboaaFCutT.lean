/- A slice of texts cut in two. -/
import Derived.Test.YtdmbombjkinboaaFApp
namespace Go.Proofs.Ytdmbombjkinboaa
open Go.RowKit

theorem OwnT.cap {B : Nat} {w : World} {a : Option Addr} {cap : Nat} {l : List ByteArray} (h : OwnT B w a cap l) : l.length ≤ cap := by
  rcases h.2 with ⟨e, hn⟩ | ⟨g, c, cur, e, hB, hg, hn, hc, hs, ht⟩
  · omega
  · injection e with e1 e2 e3
    subst e3
    omega
theorem run_head (a : Option Addr) (n m cap : Nat) (h : n ≤ cap) (W : World) : (Instr.slice 35 (.slice a m cap) none (some (.int .i64 (n : Int))) none).run Try.prog W = .ok (.slice a n cap) W := by
  have e := run_slice_h (P := Try.prog) W 35 a m cap Try.underlying35 .i64 (n : Int) (by omega) (by omega)
  rw [e]
  have hs : (sizeOf (Try.prog.elem 35)).run Try.prog W = .ok 1 W := Try.sizeOf9 W
  rw [hs]
  simp only [Result.andThen_ok, sliced, Int.toNat_natCast, Nat.sub_zero]
  congr 1
  congr 1
  cases a with
  | none => simp
  | some a => simp [Addr.add]
theorem run_tail (a : Option Addr) (n K cap : Nat) (h : n + K ≤ cap) : ∃ a2 c2, (∀ W : World, (Instr.slice 35 (.slice a (n + K) cap) (some (.int .i64 (n : Int))) none none).run Try.prog W = .ok (.slice a2 K c2) W) ∧
    ∀ (W : World) (ss ks : List ByteArray), ss.length = n → ks.length = K → TextsAt W a (ss ++ ks) → TextsAt W a2 ks := by
  refine ⟨if cap = n then a else a.map (·.add (n * 1)), cap - n, fun W => ?_, fun W ss ks hs hk hT j hj => ?_⟩
  · have e := run_slice_l (P := Try.prog) W 35 a (n + K) cap Try.underlying35 .i64 (n : Int) (by omega) (by omega)
    rw [e]
    have hs : (sizeOf (Try.prog.elem 35)).run Try.prog W = .ok 1 W := Try.sizeOf9 W
    rw [hs]
    simp only [Result.andThen_ok, sliced, Int.toNat_natCast, Nat.add_sub_cancel_left]
  · obtain ⟨b, off, rfl, hb, hc⟩ := hT (n + j) (by rw [List.length_append]; omega)
    rw [if_neg (by omega)]
    refine ⟨b, off + n, by simp [Addr.add], hb, ?_⟩
    rw [show off + n + j = off + (n + j) by omega, hc, List.getD_eq_getElem?_getD, List.getElem?_append_right (by omega), hs, Nat.add_sub_cancel_left, List.getD_eq_getElem?_getD]
theorem TextsAt.head {w : World} {a : Option Addr} {ss ks : List ByteArray} (h : TextsAt w a (ss ++ ks)) : TextsAt w a ss := fun j hj => by
  obtain ⟨b, off, e, hb, hc⟩ := h j (by rw [List.length_append]; omega)
  exact ⟨b, off, e, hb, by rw [hc, List.getD_eq_getElem?_getD, List.getElem?_append_left hj, List.getD_eq_getElem?_getD]⟩
/-- The texts of a slice that came in. -/
theorem texts_ofc {W : World} {a0 : Option Addr} {len cap : Nat} {H : Type} {enc : TypeId × Value → H} {d : DataW H} {p : List MemPlace} {fuel : Nat}
    (hf : DataW.trod enc Try.prog W 0 (fun _ => true) true fuel 35 [.slice a0 len cap] = some (d, p)) (hlt : ∀ x ∈ p, x.block < W.heap.size) :
    ∃ ss : List ByteArray, ss.length = len ∧ len ≤ maxLen ∧ len ≤ cap ∧ TextsAt W a0 ss := by
  rcases Go.ChangeShapes.open_strings Try.underlying35 Try.underlying9 cellsStr hf with ⟨hcs, hx⟩ | ⟨a, len', cap', ss, hcs, _, hl, hm, hz, hx, hcell, hws⟩
  · simp at hcs
    obtain ⟨rfl, rfl, rfl⟩ := hcs
    exact ⟨[], rfl, by decide, by decide, fun j hj => absurd hj (by simp)⟩
  · simp at hcs
    obtain ⟨rfl, rfl, rfl⟩ := hcs
    simp only [Prod.mk.injEq] at hx
    obtain ⟨_, rfl⟩ := hx
    simp only [if_true] at hz
    refine ⟨ss.take len, by rw [List.length_take]; omega, by omega, hl, fun j hj => ?_⟩
    rw [List.length_take] at hj
    obtain ⟨b, off, spot⟩ := a
    have hspot : spot = none := by simpa [Addr.add] using World.cell?_spot (hcell 0 (by omega))
    subst hspot
    refine ⟨b, off, rfl, hlt (.cell b off) (MemPlace.mem_row.2 ⟨0, by omega, by simp⟩), ?_⟩
    have := hcell j (by omega)
    rw [show (⟨b, off + j, none⟩ : Addr) = (⟨b, off, none⟩ : Addr).add j from (Go.WideShapes.add_plain b off j).symm, this, List.getD_eq_getElem?_getD, List.getD_eq_getElem?_getD, List.getElem?_take, if_pos (by omega)]
end Go.Proofs.Ytdmbombjkinboaa
