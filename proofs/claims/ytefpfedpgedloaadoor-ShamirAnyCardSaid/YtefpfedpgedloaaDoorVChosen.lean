/- lockboxlaw09.chosen: some of shares. -/
import Derived.Test.YtefpfedpgedloaaDoorVOrder
import Derived.Test.YtefpfedpgedloaaDoorAppS
import Derived.Deep.DeepCutAuto
namespace Go.Proofs.YtefpfedpgedloaaDoor
open Go.RowKit
open Gf

theorem shs_snoc (l : List Shr) (c : Shr) : shs (l ++ [c]) = shs l ++ c.cells.toList := by simp [shs]
theorem wpList_append_shr {ops : Array Oper} {rest : List Oper} {o : Oper} {act : Act} {Q : Exit → Act → World → Prop} {w w0 : World} (hgd : o.guard = none) (s x : Operand)
    (ho : o.op = .call { callee := .builtin .append, args := #[s, x], argTypes := #[25, 25] })
    {B : Nat} {a : Option Addr} {cap : Nat} {l : List Shr} (hown : OwnS 41 B w a cap l) (n : Nat) (hn : l.length = n) (hs : act.eval s = .slice a n cap)
    (g c' : Nat) (c : Shr) (hx : act.eval x = .slice (some ⟨g, 0, none⟩) 1 c') (hc : w.heap[g]? = some (.cells c.cells 41 (0, 0)))
    (hlen : n < 100000000) (hbase : B ≤ w.heap.size) (hb0 : Below B w0 w)
    (h : ∀ g cap w', OwnS 41 B w' (some ⟨g, 0, none⟩) cap (l ++ [c]) → Below B w0 w' → w.heap.size ≤ w'.heap.size → wpList Tryd.prog ops Q rest (act.put o.dst (.slice (some ⟨g, 0, none⟩) (n + 1) cap)) w') : wpList Tryd.prog ops Q (o :: rest) act w := by
  subst hn
  obtain ⟨i0, hi0, hz0, hz1, hz2⟩ := info_parts Tryd.info_shr
  refine wpList_append_src hgd s x 25 25 ho 41 i0 (.agg #[.int .i64 0, .int .i64 0, .string ⟨#[]⟩]) 3 32 Tryd.underlying25 hi0 hz0 hz1 hz2 rfl (.slice a l.length cap) l.length (shs l) hs hown.1 (.slice (some ⟨g, 0, none⟩) 1 c') 1 c.cells.toList hx
    (Src.ofSlice w Tryd.underlying25 ⟨g, 0, none⟩ 1 c' c.cells.toList rfl (World.news_of_block hc) (by intro u hu; exact shs_one [c] u (by simpa [shs] using hu))) (by omega) (by omega) (fun ad cap' w' h1 h2 h3 => ?_)
  rcases own_form h1 with ⟨-, h0, -⟩ | ⟨g', rfl, -, -⟩
  · omega
  · refine h g' cap' w' ⟨?_, fun k hk => ?_⟩ ?_ h2.size
    · rw [shs_snoc, List.length_append]; exact h1
    · have hk' : g' = k := by simpa [Value.ownBlock] using hk
      rcases h3 g' rfl with e | ⟨e, -⟩
      · have := hown.2 g' e; omega
      · omega
    · exact hb0.grown h2 hbase (fun k hk => hown.2 k hk)
/-- The state at the head of a round. -/
structure ChoS (w : World) (l : List Shr) (n : Nat) (least : Int) (k q : Nat) (ad : Option Addr) (cp : Nat) (c : List Shr) (wr : World) : Prop where
  own : OwnS 41 w.heap.size wr ad cp c
  len : c.length = q
  sub : c.Sublist (l.take k)
  le : q ≤ k
  more : least - q ≤ n - k
  below : Below w.heap.size w wr
set_option maxRecDepth 100000 in
set_option maxHeartbeats 1000000 in
theorem chosen_any {w : World} {a0 : Option Addr} {l : List Shr} (hT : SharesAt w a0 l) (hl : l.length ≤ 12) (cap : Nat) (bits least : Int) (_ : -9223372036854775808 ≤ bits) (_ : bits ≤ 9223372036854775807) (h1 : 1 ≤ least) (hle : least ≤ l.length) :
    Calls Tryd.prog 18 #[.slice a0 l.length cap, .int .i64 bits, .int .i64 least] w fun e w' => ∃ (a : Option Addr) (cp : Nat) (c : List Shr), e = .returned (.slice a c.length cp) ∧ OwnS 41 w.heap.size w' a cp c ∧ c.Sublist l ∧ least ≤ c.length ∧ Below w.heap.size w w' := by
  obtain ⟨n, hN⟩ : ∃ n, n = l.length := ⟨_, rfl⟩
  have H := Lib.hid (And.intro hT hN)
  rw [← hN] at hl hle ⊢
  clear hT hN
  have hni : (n : Int) ≤ 12 := by omega
  go_enter Tryd.func18, Tryd.ntmps18
  go_wp2_with fail
  go_loopw [7, 8] (fun v i wr => ∃ (k q : Nat) (ad : Option Addr) (cp : Nat) (c : List Shr), k ≤ n ∧ i = .int .i64 (k : Int) ∧ v = .slice ad q cp ∧ ChoS w l n least k q ad cp c wr) (fun _ i _ => n - (intOf i).toNat)
  case atStart => exact ⟨0, 0, none, 0, [], by omega, rfl, rfl, Own.nil _ _ _ _, rfl, by simp, by omega, by omega, Below.refl _ _⟩
  case round =>
    obtain ⟨k, q, ad, cp, c, hk, rfl, rfl, hS⟩ := hrel
    have hqk : (q : Int) ≤ k := by have := hS.le; omega
    by_cases hlt : k < n
    · have hk60 : (k : Int) < 60 := by omega
      have HS := Lib.hid hS
      clear hS
      obtain ⟨s, hs⟩ : ∃ s, l[k]? = some s := ⟨_, List.getElem?_eq_getElem (by have := H.out.2; omega)⟩
      obtain ⟨b, off, rfl, hbl, c0, c1, c2⟩ := (H.out.1.below HS.out.below) k s hs
      have hsz := HS.out.below.size
      cases hR : (Go.bits .and .i64 (bits / 2 ^ k) 1 == 1) with
      | true =>
        go_wp2_with (at_builtin; (refine wpList_append_shr (w0 := w) rfl (.tmp 36) (.tmp 41) rfl (OwnS.below HS.out.own ((Below.refl _ _).alloc (Nat.le_refl _) _)) q HS.out.len rfl wr.heap.size 1 s rfl (heap_alloc_new wr _) (by omega) (by simp; omega) (HS.out.below.alloc hsz _) ?_; intro g1 cp1 w3 hown1 hb1' _; have H3 := Lib.hid (And.intro hown1 hb1'); clear hown1 hb1'))
        go_roundw
        case rel =>
          refine ⟨k + 1, q + 1, _, cp1, c ++ [s], by omega, by go_num, rfl, H3.out.1, by rw [List.length_append, HS.out.len]; rfl, ?_, by omega, ?_, H3.out.2⟩
          · rw [List.take_add_one, hs]; exact HS.out.sub.append (List.Sublist.refl _)
          · have := HS.out.more
            omega
        case measure => simp [intOf]; omega
      | false =>
        by_cases hm : (n : Int) - k ≤ least - q
        · have hd : decide ((n : Int) - k ≤ least - q) = true := decide_eq_true hm
          go_wp2_with (at_builtin; (refine wpList_append_shr (w0 := w) rfl (.tmp 36) (.tmp 41) rfl (OwnS.below HS.out.own ((Below.refl _ _).alloc (Nat.le_refl _) _)) q HS.out.len rfl wr.heap.size 1 s rfl (heap_alloc_new wr _) (by omega) (by simp; omega) (HS.out.below.alloc hsz _) ?_; intro g1 cp1 w3 hown1 hb1' _; have H3 := Lib.hid (And.intro hown1 hb1'); clear hown1 hb1'))
          go_roundw
          case rel =>
            refine ⟨k + 1, q + 1, _, cp1, c ++ [s], by omega, by go_num, rfl, H3.out.1, by rw [List.length_append, HS.out.len]; rfl, ?_, by omega, ?_, H3.out.2⟩
            · rw [List.take_add_one, hs]; exact HS.out.sub.append (List.Sublist.refl _)
            · have := HS.out.more
              omega
          case measure => simp [intOf]; omega
        · have hd : decide ((n : Int) - k ≤ least - q) = false := decide_eq_false hm
          go_wp2_with fail
          go_roundw
          case rel =>
            refine ⟨k + 1, q, ad, cp, c, by omega, by go_num, rfl, HS.out.own, HS.out.len, ?_, by omega, by omega, HS.out.below⟩
            rw [List.take_add_one]
            exact HS.out.sub.trans (List.sublist_append_left _ _)
          case measure => simp [intOf]; omega
    · obtain rfl : k = n := by omega
      have HS := Lib.hid hS
      clear hS
      go_wp2_with fail
      go_ret
      have e := HS.out.len
      refine ⟨ad, cp, c, by rw [e]; rfl, HS.out.own, ?_, by have := HS.out.more; omega, HS.out.below⟩
      have := HS.out.sub
      rwa [H.out.2, List.take_length] at this
end Go.Proofs.YtefpfedpgedloaaDoor
