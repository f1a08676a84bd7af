/- Own rows of numbers; the law's Extents: the texts that a disk reads. -/
import Derived.Test.YtdmbombjkinboaaGreatYAwake
namespace Go.Proofs.YtdmbombjkinboaaGreat
open Go.RowKit
open Dk Sg Fr

def ncells (l : List Nat) : List Value := l.map fun (x : Nat) => Value.int .i64 (x : Int)
theorem ncells_length (l : List Nat) : (ncells l).length = l.length := by simp [ncells]
theorem Tryz.info_int : (Tryz.prog.info? 3).map (fun i => (i.zero, i.size, i.bytes)) = some (some (.int .i64 0), 1, 8) := by kernel_rfl
/-- A row of numbers that the call made itself. -/
def OwnN (B : Nat) (w : World) (a : Option Addr) (cap : Nat) (l : List Nat) : Prop := w.ownsRow B 3 1 (.slice a l.length cap) l.length (ncells l)
theorem OwnN.nil (B : Nat) (w : World) : OwnN B w none 0 [] := World.ownsRow_nil _ _ _ _
theorem OwnN.call {B : Nat} {w w' : World} {a : Option Addr} {cap : Nat} {l : List Nat} (h : OwnN B w a cap l) (hb : Below w.heap.size w w') : OwnN B w' a cap l := ownsRow_below h hb
theorem OwnN.at {B : Nat} {w : World} {a : Option Addr} {cap : Nat} {l : List Nat} (h : OwnN B w a cap l) {i x : Nat} (hx : l[i]? = some x) :
    ∃ g, a = some ⟨g, 0, none⟩ ∧ w.cell? ⟨g, i, none⟩ = some (.int .i64 (x : Int)) ∧ g < w.heap.size ∧ B ≤ g := by
  have hi : i < l.length := (List.getElem?_eq_some_iff.1 hx).1
  rcases h.2 with ⟨e, hn⟩ | ⟨g, c, cur, e, hB, hg, hn, hc, hs, ht⟩
  · omega
  · injection e with e1 e2 e3
    subst e1 e3
    have h1 := World.ownsRow.cellAt h i (by omega)
    refine ⟨g, rfl, h1.trans ?_, (World.ownsRow.lt h g rfl).2, hB⟩
    simp [ncells, hx]
theorem OwnN.cap {B : Nat} {w : World} {a : Option Addr} {cap : Nat} {l : List Nat} (h : OwnN B w a cap l) : l.length ≤ cap ∧ cap ≤ maxLen := by
  rcases h.2 with ⟨e, hn⟩ | ⟨g, c, cur, e, hB, hg, hn, hc, hs, ht⟩
  · injection e with _ _ e3
    subst e3
    exact ⟨by omega, Nat.zero_le _⟩
  · injection e with e1 e2 e3
    subst e3
    exact ⟨hn, hc⟩
/-- append of one number. -/
theorem wpList_append_num {ops : Array Oper} {rest : List Oper} {o : Oper} {act : Act} {Q : Exit → Act → World → Prop} {w : World} (hgd : o.guard = none) (s x : Operand)
    (ho : o.op = .call { callee := .builtin .append, args := #[s, x], argTypes := #[44, 44] })
    {B : Nat} {a : Option Addr} {cap0 : Nat} {l : List Nat} (hown : OwnN B w a cap0 l) (n : Nat) (hn : l.length = n) (hs : act.eval s = .slice a n cap0)
    (g c' : Nat) (c : Nat) (hx : act.eval x = .slice (some ⟨g, 0, none⟩) 1 c') (hc : w.heap[g]? = some (.cells #[.int .i64 (c : Int)] 3 (0, 0)))
    (hlen : n < 1000000) (hbase : B ≤ w.heap.size)
    (h : ∀ g cap w', OwnN B w' (some ⟨g, 0, none⟩) cap (l ++ [c]) → w.grownBy w' (Value.slice a l.length cap0).ownBlock → ((Value.slice a l.length cap0).ownBlock = some g ∨ g = w.heap.size) → wpList Tryz.prog ops Q rest (act.put o.dst (.slice (some ⟨g, 0, none⟩) (n + 1) cap)) w') : wpList Tryz.prog ops Q (o :: rest) act w := by
  subst hn
  obtain ⟨i0, hi0, hz0, hz1, hz2⟩ := info_parts Tryz.info_int
  refine wpList_append_lies w hgd s x 44 ho B 3 i0 _ 1 8 Tryz.underlying44 hi0 hz0 hz1 hz2 rfl (by decide) (.slice a l.length cap0) l.length (ncells l) hs hown ⟨g, 0, none⟩ 1 c' [.int .i64 (c : Int)] hx rfl
    (fun j u hj => ?_) (by simp [Value.oneCell']) (by decide) (by unfold maxLen; omega) (by omega) hbase w.heap.size rfl (fun g cap w' h1 h2 h3 _ => h g cap w' ?_ h2 h3)
  · rw [show (⟨g, 0, none⟩ : Addr).add j = ⟨g, j, none⟩ by unfold Addr.add; split <;> simp_all, cell_of_row _ _ _ _ _ _ hc]
    simpa using hj
  · unfold OwnN
    rw [show ncells (l ++ [c]) = ncells l ++ [.int .i64 (c : Int)] from List.map_append, List.length_append]; exact h1
/-- What is read of each extent of a disk that is up. -/
theorem readD_up {D : Disk} (hu : D.down = false) {k : Nat} (hk : k < D.sure.length) : readD D (k : Int) = exAt D.now k ∧ eerr D (k : Int) = 0 := by
  have he : eerr D (k : Int) = 0 := by unfold eerr; rw [if_neg (by rw [hu]; decide), if_neg (by omega)]
  unfold readD
  rw [if_pos he, Int.toNat_natCast]
  exact ⟨rfl, he⟩
set_option maxRecDepth 100000 in
set_option maxHeartbeats 2000000 in
theorem sext_any {w : World} {ρ : Nat → Nat} {b : Nat} {D : Disk} (h : DiskAt w ρ b D) (hu : D.down = false) :
    Calls Tryz.prog 18 #[.pointer (some ⟨b, 0, none⟩)] w fun e w' => ∃ a cap, e = .returned (.slice a D.now.length cap) ∧ OwnT w.heap.size w' a cap D.now ∧ Below w.heap.size w w' := by
  obtain ⟨n, hN⟩ : ∃ n, n = D.now.length := ⟨_, rfl⟩
  have hns : n = D.sure.length := by rw [hN, D.now_length]
  have hn : n ≤ 64 := by rw [hns]; exact h.ok.num
  have H := Lib.hid (And.intro h (And.intro hN (And.intro hns hu)))
  rw [← hN]
  clear h hN hns hu
  go_enter Tryz.func18, Tryz.ntmps18
  go_wp2_with fail
  go_loopw [3, 4, 5, 6] (fun v i _ _ wr => ∃ (k : Nat) (ad : Option Addr) (cp : Nat), k ≤ n ∧ i = .int .i64 k ∧ v = .slice ad k cp ∧ OwnT w.heap.size wr ad cp (D.now.take k) ∧ Below w.heap.size w wr) (fun _ i _ _ _ => n - (intOf i).toNat)
  case atStart => exact ⟨0, none, 0, by omega, rfl, rfl, OwnT.nil _ _, Below.refl _ _⟩
  case round =>
    obtain ⟨k, ad, cp, hk, rfl, rfl, ho, hb⟩ := hrel
    have hz := hb.size
    have HR := Lib.hid (And.intro ho (And.intro hb (show (D.now.take k).length = k by rw [List.length_take, ← H.out.2.1]; omega)))
    clear ho hb
    have hE := extents_any (H.out.1.below HR.out.2.1)
    rw [← H.out.2.2.1] at hE
    by_cases hlt : k < n
    · obtain ⟨r1, r2⟩ := readD_up (D := D) H.out.2.2.2 (k := k) (by rw [← H.out.2.2.1]; exact hlt)
      have hrd := read_any (H.out.1.below HR.out.2.1) (k : Int)
      rw [r1, r2] at hrd
      have hnx : D.now[k]? = some (exAt D.now k) := exAt_lt (by rw [← H.out.2.1]; exact hlt)
      obtain ⟨t, ht⟩ : ∃ t, t = exAt D.now k := ⟨_, rfl⟩
      rw [← ht] at hrd hnx
      have HT := Lib.hid (And.intro hrd hnx)
      clear hrd hnx ht r1 r2
      go_wp2_with fail
      refine hE.mono ?_
      rintro e w2 ⟨rfl, rfl⟩
      go_wp2_with fail
      refine HT.out.1.mono ?_
      rintro e w2 ⟨rfl, rfl⟩
      clear hE
      go_wp2_with (at_builtin; (refine wpList_append_text (w0 := w) rfl (.tmp 19) (.tmp 21) rfl (OwnT.call HR.out.1 ((Below.refl _ _).alloc (Nat.le_refl _) _)) k HR.out.2.2 rfl wr.heap.size 1 t rfl (by rw [cell_of_row _ _ _ _ _ _ (heap_alloc_new wr _)]; rfl) (by omega) (by simp; omega) (HR.out.2.1.alloc (by omega) _) ?_; intro g1 cap1 w4 hown1 hb1 hg1; have HX := Lib.hid (And.intro hown1 hb1); clear hown1 hb1 hg1))
      go_roundw
      case rel => exact ⟨k + 1, some ⟨g1, 0, none⟩, cap1, by omega, by go_num, rfl, by rw [List.take_add_one, HT.out.2]; exact HX.out.1, HX.out.2⟩
      case measure => simp [intOf]; omega
    · obtain rfl : k = n := by omega
      go_wp2_with fail
      refine hE.mono ?_
      rintro e w2 ⟨rfl, rfl⟩
      clear hE
      go_wp2_with fail
      go_ret
      have h1 := HR.out.1
      rw [H.out.2.1, List.take_length] at h1
      exact ⟨_, _, rfl, h1, HR.out.2.1⟩
end Go.Proofs.YtdmbombjkinboaaGreat
