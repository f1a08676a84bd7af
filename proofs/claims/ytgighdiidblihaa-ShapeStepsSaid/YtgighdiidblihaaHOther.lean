/- lockboxlaw06.other; own lists of texts. -/
import Derived.Test.YtgighdiidblihaaHAwake
import Derived.Deep.RegionHeld3
namespace Go.Proofs.Ytgighdiidblihaa
open Go.RowKit

theorem at_snoc (l : List UInt8) (c : UInt8) (n : Nat) (h : l.length = n) : (l ++ [c]).length = n + 1 := by simp [h]
set_option maxRecDepth 100000 in
set_option maxHeartbeats 400000 in
theorem other_any (s from_ : ByteArray) (hs : s.size ≤ 1000) (w : World) :
    Calls Try.prog 24 #[.string s, .string from_] w fun e w' => ∃ t : ByteArray, e = .returned (.string t) ∧ t.size = s.size ∧ Below w.heap.size w w' := by
  have hs' : (s.size : Int) ≤ 1000 := by omega
  obtain ⟨n, hn⟩ : ∃ n, n = s.size := ⟨_, rfl⟩
  go_enter Try.func24, Try.ntmps24
  go_wp2_with fail
  go_loopw [5, 6, 7] (fun v i _ wr => ∃ (k : Nat) (ad : Option Addr) (cap : Nat) (l : List UInt8), k ≤ s.size ∧ i = .int .i64 k ∧ l.length = k ∧ v = .slice ad k cap ∧ OwnB w.heap.size wr ad cap l ∧ Below w.heap.size w wr) (fun _ i _ _ => s.size - (intOf i).toNat)
  case atStart => exact ⟨0, none, 0, [], by omega, rfl, rfl, rfl, OwnB.nil _ _, Below.refl _ _⟩
  case round =>
    obtain ⟨k, ad, cap, l, hk, rfl, hl, rfl, hown, hbw⟩ := hrel
    have H := Lib.hid (And.intro hown (And.intro hbw hl))
    have hsz := hbw.size
    clear hown hbw hl
    by_cases hlt : k < s.size
    · by_cases hf : k < from_.size
      · obtain ⟨c, hc⟩ : ∃ c, c = from_[k] := ⟨_, rfl⟩
        go_wp2_with (at_builtin; (rw [← hc]; refine wpList_append_byte' (w0 := w) rfl (.tmp 23) (.tmp 25) rfl (H.out.1.alloc _) k H.out.2.2 rfl wr.heap.size 1 c rfl (cell_new wr _ _) (by omega) (by simp; omega) (H.out.2.1.alloc hsz _) ?_; intro g1 cap1 w1 hown1 hb1; have H1 := Lib.hid (And.intro hown1 hb1); clear hown1 hb1))
        go_roundw
        case rel => exact ⟨k + 1, _, cap1, _, by omega, by go_num, at_snoc _ _ _ H.out.2.2, rfl, H1.out.1, H1.out.2⟩
        case measure => simp [intOf]; omega
      · obtain ⟨c, hc⟩ : ∃ c, c = UInt8.ofNat k := ⟨_, rfl⟩
        have hcn : (k : Int) % 256 = (c.toNat : Int) := by rw [hc, UInt8.toNat_ofNat']; omega
        clear hc
        go_wp2_with (at_builtin; (refine wpList_append_byte' (w0 := w) rfl (.tmp 23) (.tmp 25) rfl (H.out.1.alloc _) k H.out.2.2 rfl wr.heap.size 1 c rfl (cell_new wr _ _) (by omega) (by simp; omega) (H.out.2.1.alloc hsz _) ?_; intro g1 cap1 w1 hown1 hb1; have H1 := Lib.hid (And.intro hown1 hb1); clear hown1 hb1))
        go_roundw
        case rel => exact ⟨k + 1, _, cap1, _, by omega, by go_num, at_snoc _ _ _ H.out.2.2, rfl, H1.out.1, H1.out.2⟩
        case measure => simp [intOf]; omega
    · obtain rfl : k = s.size := by omega
      obtain ⟨L, hL⟩ : ∃ L, L = str l := ⟨_, rfl⟩
      have hcv := H.out.1.conv
      rw [H.out.2.2, ← hL] at hcv
      have HL := Lib.hid hL
      clear hL
      go_wp2_with fail
      go_ret
      exact ⟨L, rfl, by rw [HL.out, str_size, H.out.2.2], H.out.2.1⟩

/-- Texts as cells. -/
def scells (l : List ByteArray) : List Value := l.map Value.string
theorem scells_snoc (l : List ByteArray) (x : ByteArray) : scells (l ++ [x]) = scells l ++ [.string x] := by simp [scells]
theorem Try.info_str : (Try.prog.info? 9).map (fun i => (i.zero, i.size, i.bytes)) = some (some (.string ⟨#[]⟩), 1, 16) := by kernel_rfl
/-- A slice of texts that the call made itself (in a block from B on), or nil: what it holds. -/
def OwnT (B : Nat) (w : World) (a : Option Addr) (cap : Nat) (l : List ByteArray) : Prop :=
  w.ownsRow B 9 1 (.slice a l.length cap) l.length (scells l)
theorem OwnT.nil (B : Nat) (w : World) : OwnT B w none 0 [] := World.ownsRow_nil _ _ _ _
theorem OwnT.drew {B : Nat} {w : World} {a : Option Addr} {cap : Nat} {l : List ByteArray} (h : OwnT B w a cap l) : OwnT B w.drew a cap l := h
theorem OwnT.alloc {B : Nat} {w : World} {a : Option Addr} {cap : Nat} {l : List ByteArray} (h : OwnT B w a cap l) (o : Obj) : OwnT B (w.alloc o) a cap l := World.ownsRow.alloc h o
theorem OwnT.call {B : Nat} {w w' : World} {a : Option Addr} {cap : Nat} {l : List ByteArray} (h : OwnT B w a cap l) (hb : Below w.heap.size w w') : OwnT B w' a cap l := by
  obtain ⟨h1, h2⟩ := h
  refine ⟨h1, ?_⟩
  rcases h2 with h2 | ⟨g, c, cur, e, hB, hg, h3⟩
  · exact .inl h2
  · exact .inr ⟨g, c, cur, e, hB, (hb.block g (Array.getElem?_eq_some_iff.1 hg).1).trans hg, h3⟩
theorem OwnT.texts {B : Nat} {w : World} {a : Option Addr} {cap : Nat} {l : List ByteArray} (h : OwnT B w a cap l) : TextsAt w a l := fun j hj => by
  rcases h.2 with ⟨e, hn⟩ | ⟨g, c, cur, e, hB, hg, hn, hc, hs, ht⟩
  · omega
  · injection e with e1 e2 e3
    subst e1 e3
    refine ⟨g, 0, rfl, (World.ownsRow.lt h g rfl).2, ?_⟩
    have := World.ownsRow.cellAt h j (by simpa using hj)
    rw [Nat.zero_add, this]
    simp [scells, hj]
/-- append of one text, at a step of a region that draws its order. -/
theorem step_append_text {ops : Array Oper} {o : Oper} {act : Act} {K : Act → World → Prop} {Q : Exit → Act → World → Prop} {E : Prop} {w w0 : World} (hgd : o.guard = none) (s x : Operand)
    (ho : o.op = .call { callee := .builtin .append, args := #[s, x], argTypes := #[40, 40] })
    {B : Nat} {a : Option Addr} {cap : Nat} {l : List ByteArray} (hown : OwnT B w a cap l) (n : Nat) (hn : l.length = n) (hs : act.eval s = .slice a n cap)
    (g c' : Nat) (c : ByteArray) (hx : act.eval x = .slice (some ⟨g, 0, none⟩) 1 c') (hc : w.cell? ⟨g, 0, none⟩ = some (.string c))
    (hlen : n < 1000) (hbase : B ≤ w.heap.size) (hb0 : Below B w0 w)
    (h : ∀ g cap w', OwnT B w' (some ⟨g, 0, none⟩) cap (l ++ [c]) → Below B w0 w' → K (act.put o.dst (.slice (some ⟨g, 0, none⟩) (n + 1) cap)) w') :
    if Region.wanted o (yielded ops act.tmps) = true then Oper.wp Try.prog o act w K Q else E := by
  subst hn
  obtain ⟨i0, hi0, hz0, hz1, hz2⟩ := info_parts Try.info_str
  refine step_append_lies w hgd s x 40 ho B 9 i0 _ 1 16 Try.underlying40 hi0 hz0 hz1 hz2 rfl (by decide) (.slice a l.length cap) l.length (scells l) hs hown ⟨g, 0, none⟩ 1 c' [.string c] hx rfl
    (fun j u hj => ?_) (by simp [Value.oneCell']) (by decide) (by unfold maxLen; omega) (by omega) hbase w.heap.size rfl (fun g cap w' h1 h2 _ _ => h g cap w' ?_ ?_)
  · match j, hj with
    | 0, hj =>
      simp at hj
      subst hj
      rw [show (⟨g, 0, none⟩ : Addr).add 0 = ⟨g, 0, none⟩ from by simp [Addr.add]]
      exact hc
  · unfold OwnT
    rw [scells_snoc, List.length_append]; exact h1
  · exact hb0.grown h2 hbase (fun k hk => (World.ownsRow.lt hown k hk).1)
end Go.Proofs.Ytgighdiidblihaa
