/- lockboxlaw09.Refs, lockboxref09.Same: shares as the reference has them. -/
import Derived.Test.YtefpfedpgedloaaGreatDoorMV1
import Derived.Test.YtefpfedpgedloaaGreatDoorMB
import Derived.BigQuiet
namespace Go.Proofs.YtefpfedpgedloaaGreatDoor
open Go.RowKit
open Gf

theorem shs_snoc (l : List Shr) (c : Shr) : shs (l ++ [c]) = shs l ++ c.cells.toList := by simp [shs]
theorem Tryz.info_rsh : (Tryz.prog.info? 36).map (fun i => (i.zero, i.size, i.bytes)) = some (some (.agg #[.int .i64 0, .int .i64 0, .string ⟨#[]⟩]), 3, 32) := by kernel_rfl
theorem wpList_append_rsh {ops : Array Oper} {rest : List Oper} {o : Oper} {act : Act} {Q : Exit → Act → World → Prop} {w w0 : World} (hgd : o.guard = none) (s x : Operand)
    (ho : o.op = .call { callee := .builtin .append, args := #[s, x], argTypes := #[29, 29] })
    {B : Nat} {a : Option Addr} {cap : Nat} {l : List Shr} (hown : OwnS 36 B w a cap l) (n : Nat) (hn : l.length = n) (hs : act.eval s = .slice a n cap)
    (g c' : Nat) (c : Shr) (hx : act.eval x = .slice (some ⟨g, 0, none⟩) 1 c') (hc : w.heap[g]? = some (.cells c.cells 36 (0, 0)))
    (hlen : n < 100000000) (hbase : B ≤ w.heap.size) (hb0 : Below B w0 w)
    (h : ∀ g cap w', OwnS 36 B w' (some ⟨g, 0, none⟩) cap (l ++ [c]) → Below B w0 w' → w.heap.size ≤ w'.heap.size → wpList Tryz.prog ops Q rest (act.put o.dst (.slice (some ⟨g, 0, none⟩) (n + 1) cap)) w') : wpList Tryz.prog ops Q (o :: rest) act w := by
  subst hn
  obtain ⟨i0, hi0, hz0, hz1, hz2⟩ := info_parts Tryz.info_rsh
  refine wpList_append_src hgd s x 29 29 ho 36 i0 (.agg #[.int .i64 0, .int .i64 0, .string ⟨#[]⟩]) 3 32 Tryz.underlying29 hi0 hz0 hz1 hz2 rfl (.slice a l.length cap) l.length (shs l) hs hown.1 (.slice (some ⟨g, 0, none⟩) 1 c') 1 c.cells.toList hx
    (Src.ofSlice w Tryz.underlying29 ⟨g, 0, none⟩ 1 c' c.cells.toList rfl (World.news_of_block hc) (by intro u hu; exact shs_one [c] u (by simpa [shs] using hu))) (by omega) (by omega) (fun ad cap' w' h1 h2 h3 => ?_)
  rcases own_form h1 with ⟨-, h0, -⟩ | ⟨g', rfl, -, -⟩
  · omega
  · refine h g' cap' w' ⟨?_, fun k hk => ?_⟩ ?_ h2.size
    · rw [shs_snoc, List.length_append]; exact h1
    · have hk' : g' = k := by simpa [Value.ownBlock] using hk
      rcases h3 g' rfl with e | ⟨e, -⟩
      · have := hown.2 g' e; omega
      · omega
    · exact hb0.grown h2 hbase (fun k hk => hown.2 k hk)
set_option maxRecDepth 100000 in
set_option maxHeartbeats 1000000 in
theorem refs_any {w : World} {a0 : Option Addr} {l : List Shr} (hT : SharesAt w a0 l) (hl : l.length ≤ 1000000) (cap : Nat) :
    Calls Tryz.prog 9 #[.slice a0 l.length cap] w fun e w' => ∃ (a : Option Addr) (cp : Nat), e = .returned (.slice a l.length cp) ∧ OwnS 36 w.heap.size w' a cp l ∧ Below w.heap.size w w' := by
  obtain ⟨n, hN⟩ : ∃ n, n = l.length := ⟨_, rfl⟩
  have H := Lib.hid (And.intro hT hN)
  rw [← hN] at hl ⊢
  clear hT hN
  go_enter Tryz.func9, Tryz.ntmps9
  go_wp2_with fail
  go_loopw [3, 4] (fun v i wr => ∃ (k : Nat) (ad : Option Addr) (cp : Nat), k ≤ n ∧ i = .int .i64 (k : Int) ∧ v = .slice ad k cp ∧ OwnS 36 w.heap.size wr ad cp (l.take k) ∧ Below w.heap.size w wr) (fun _ i _ => n - (intOf i).toNat)
  case atStart => exact ⟨0, none, 0, by omega, rfl, rfl, by rw [List.take_zero]; exact Own.nil _ _ _ _, Below.refl _ _⟩
  case round =>
    obtain ⟨k, ad, cp, hk, rfl, rfl, ho, hb⟩ := hrel
    by_cases hlt : k < n
    · have hlen : (l.take k).length = k := by rw [List.length_take, ← H.out.2]; omega
      obtain ⟨s, hs⟩ : ∃ s, l[k]? = some s := ⟨_, List.getElem?_eq_getElem (by have := H.out.2; omega)⟩
      obtain ⟨b, off, rfl, hbl, c0, c1, c2⟩ := (H.out.1.below hb) k s hs
      have hsn : l.take (k + 1) = l.take k ++ [s] := by rw [List.take_add_one, hs]; rfl
      have hsz := hb.size
      have HS := Lib.hid (And.intro ho (And.intro hb (And.intro hlen hsn)))
      clear ho hb hlen hsn
      go_wp2_with (at_builtin; (refine wpList_append_rsh (w0 := w) rfl (.tmp 11) (.tmp 16) rfl (OwnS.below HS.out.1 ((Below.refl _ _).alloc (Nat.le_refl _) _)) k HS.out.2.2.1 rfl wr.heap.size 1 s rfl (heap_alloc_new wr _) (by omega) (by simp; omega) (HS.out.2.1.alloc hsz _) ?_; intro g1 cp1 w3 hown1 hb1' _; have H3 := Lib.hid (And.intro hown1 hb1'); clear hown1 hb1'))
      go_roundw
      case rel => exact ⟨k + 1, _, cp1, by omega, by go_num, rfl, by rw [HS.out.2.2.2]; exact H3.out.1, H3.out.2⟩
      case measure => simp [intOf]; omega
    · obtain rfl : k = n := by omega
      have HS := Lib.hid (And.intro ho hb)
      clear ho hb
      go_wp2_with fail
      go_ret
      refine ⟨ad, cp, rfl, ?_, HS.out.2⟩
      have := HS.out.1
      rwa [H.out.2, List.take_length] at this
end Go.Proofs.YtefpfedpgedloaaGreatDoor
