/- The reference lockboxref04: Texts, Same. -/
import Derived.Test.YtnpdmkgefaobeaaDoorMTexts
import Derived.Test.YtnpdmkgefaobeaaDoorMRef
import Derived.BigQuiet
namespace Go.Proofs.YtnpdmkgefaobeaaDoor
open Go.RowKit

set_option maxRecDepth 100000 in
set_option maxHeartbeats 400000 in
theorem rsame_any (ss : List ByteArray) (a0 b0 : Option Addr) (cap cap' : Nat) (w : World) (hT : TextsAt w a0 ss) (hT2 : TextsAt w b0 ss) (hm : ss.length ≤ 20) :
    Calls Tryd.prog 14 #[.slice a0 ss.length cap, .slice b0 ss.length cap'] w fun e w' => e = .returned (.bool true) ∧ Below w.heap.size w w' := by
  obtain ⟨n, hn⟩ : ∃ n, n = ss.length := ⟨_, rfl⟩
  have HT := Lib.hid (And.intro hT (And.intro hT2 hn))
  rw [← hn] at hm ⊢
  clear hT hT2 hn
  go_enter Tryd.func14, Tryd.ntmps14
  go_wp2_with fail
  go_loopw [5] (fun c wr => ∃ i : Nat, i ≤ n ∧ c = .int .i64 i ∧ Below w.heap.size w wr) (fun c _ => n - (intOf c).toNat)
  case atStart => exact ⟨0, by omega, rfl, Below.refl _ _⟩
  case round =>
    obtain ⟨i, hi, rfl, hb⟩ := hrel
    by_cases hlt : i < n
    · obtain ⟨b, off, rfl, _, hc⟩ := HT.out.1.below hb i (by have := HT.out.2.2; omega)
      obtain ⟨b2, off2, rfl, _, hc2⟩ := HT.out.2.1.below hb i (by have := HT.out.2.2; omega)
      obtain ⟨x, hx⟩ : ∃ x, x = ss.getD i ByteArray.empty := ⟨_, rfl⟩
      rw [← hx] at hc hc2
      have hxx : (x.toList == x.toList) = true := by simp
      have HB := Lib.hid hb
      clear hb hx
      go_wp2_with fail
      go_quiet (fail)
      go_wp2_with fail
      go_roundw
      case rel => exact ⟨i + 1, by omega, by go_num, HB.out.trans ⟨rfl, rfl, rfl, Nat.le_refl _, fun _ _ => rfl⟩⟩
      case measure => simp [intOf]; omega
    · obtain rfl : i = n := by omega
      have HB := Lib.hid hb
      clear hb
      go_wp2_with fail
      go_ret
      exact ⟨rfl, HB.out⟩

/-- Texts as cells. -/
def scells (l : List ByteArray) : List Value := l.map Value.string
theorem scells_length (l : List ByteArray) : (scells l).length = l.length := by simp [scells]
theorem scells_snoc (l : List ByteArray) (x : ByteArray) : scells (l ++ [x]) = scells l ++ [.string x] := by simp [scells]
theorem Tryd.info_str : (Tryd.prog.info? 9).map (fun i => (i.zero, i.size, i.bytes)) = some (some (.string ⟨#[]⟩), 1, 16) := by kernel_rfl
/-- A slice of texts that the call made itself (in a block from B on), or nil: what it holds. -/
def OwnT (B : Nat) (w : World) (a : Option Addr) (cap : Nat) (l : List ByteArray) : Prop :=
  w.ownsRow B 9 1 (.slice a l.length cap) l.length (scells l)
theorem OwnT.nil (B : Nat) (w : World) : OwnT B w none 0 [] := World.ownsRow_nil _ _ _ _
theorem OwnT.alloc {B : Nat} {w : World} {a : Option Addr} {cap : Nat} {l : List ByteArray} (h : OwnT B w a cap l) (o : Obj) : OwnT B (w.alloc o) a cap l := World.ownsRow.alloc h o
theorem OwnT.call {B : Nat} {w w' : World} {a : Option Addr} {cap : Nat} {l : List ByteArray} (h : OwnT B w a cap l) (hb : Below w.heap.size w w') : OwnT B w' a cap l := by
  obtain ⟨h1, h2⟩ := h
  refine ⟨h1, ?_⟩
  rcases h2 with h2 | ⟨g, c, cur, e, hB, hg, h3⟩
  · exact .inl h2
  · exact .inr ⟨g, c, cur, e, hB, (hb.block g (Array.getElem?_eq_some_iff.1 hg).1).trans hg, h3⟩
theorem OwnT.texts {B : Nat} {w : World} {g cap : Nat} {l : List ByteArray} (h : OwnT B w (some ⟨g, 0, none⟩) cap l) : TextsAt w (some ⟨g, 0, none⟩) l := fun j hj => by
  refine ⟨g, 0, rfl, (World.ownsRow.lt h g rfl).2, ?_⟩
  have := World.ownsRow.cellAt h j (by simpa using hj)
  rw [Nat.zero_add, this]
  simp [scells, hj]
/-- append of one text. -/
theorem wpList_append_text {ops : Array Oper} {rest : List Oper} {o : Oper} {act : Act} {Q : Exit → Act → World → Prop} {w w0 : World} (hgd : o.guard = none) (s x : Operand)
    (ho : o.op = .call { callee := .builtin .append, args := #[s, x], argTypes := #[22, 22] })
    {B : Nat} {a : Option Addr} {cap : Nat} {l : List ByteArray} (hown : OwnT B w a cap l) (n : Nat) (hn : l.length = n) (hs : act.eval s = .slice a n cap)
    (g c' : Nat) (c : ByteArray) (hx : act.eval x = .slice (some ⟨g, 0, none⟩) 1 c') (hc : w.cell? ⟨g, 0, none⟩ = some (.string c))
    (hlen : n < 1000) (hbase : B ≤ w.heap.size) (hb0 : Below B w0 w)
    (h : ∀ g cap w', OwnT B w' (some ⟨g, 0, none⟩) cap (l ++ [c]) → Below B w0 w' → wpList Tryd.prog ops Q rest (act.put o.dst (.slice (some ⟨g, 0, none⟩) (n + 1) cap)) w') : wpList Tryd.prog ops Q (o :: rest) act w := by
  subst hn
  obtain ⟨i0, hi0, hz0, hz1, hz2⟩ := info_parts Tryd.info_str
  refine wpList_append_lies w hgd s x 22 ho B 9 i0 _ 1 16 Tryd.underlying22 hi0 hz0 hz1 hz2 rfl (by decide) (.slice a l.length cap) l.length (scells l) hs hown ⟨g, 0, none⟩ 1 c' [.string c] hx rfl
    (fun j u hj => ?_) (by simp [Value.oneCell']) (by decide) (by unfold maxLen; omega) (by omega) hbase w.heap.size rfl (fun g cap w' h1 h2 _ _ => h g cap w' ?_ ?_)
  · match j, hj with
    | 0, hj =>
      simp at hj
      subst hj
      rw [show (⟨g, 0, none⟩ : Addr).add 0 = ⟨g, 0, none⟩ from by simp [Addr.add]]
      exact hc
  · unfold OwnT
    rw [scells_snoc, List.length_append]; exact h1
  · exact hb0.grown h2 hbase (fun k hk => (World.ownsRow.lt hown k hk).1)

set_option maxRecDepth 100000 in
set_option maxHeartbeats 1000000 in
theorem rtexts_any (key t : ByteArray) (hs : key.size ≤ 300) (ht : t.size ≤ 4000) (w : World) :
    Calls Tryd.prog 16 #[.string key, .string t] w fun e w' => ∃ a cap, e = .returned (.slice a (textsOf key t).length cap) ∧ TextsAt w' a (textsOf key t) ∧ Below w.heap.size w w' := by
  obtain ⟨s1, hs1⟩ : ∃ s, s = str (padX key.data.toList 54) := ⟨_, rfl⟩
  obtain ⟨s2, hs2⟩ : ∃ s, s = str (padX key.data.toList 92) := ⟨_, rfl⟩
  have hl1 : s1.size = 64 := by rw [hs1, str_size, padX_length]
  have hl2 : s2.size = 64 := by rw [hs2, str_size, padX_length]
  obtain ⟨D, hD⟩ : ∃ D, D = str (sha (s1 ++ t).data.toList) := ⟨_, rfl⟩
  have hDs : D.size = 32 := by rw [hD, str_size, sha_length]
  have hi : innerT key t = s1 ++ t := by rw [innerT, hs1]
  have ho : outerT key t = s2 ++ D := by rw [outerT, hi, hs2, hD]
  have hsum := fun W => rsumref_any (s1 ++ t) (by rw [ByteArray.size_append]; omega) W
  rw [← hD] at hsum
  have hp1 := fun W => rpad_any key (by omega) 54 W
  have hp2 := fun W => rpad_any key (by omega) 92 W
  rw [← hs1] at hp1
  rw [← hs2] at hp2
  have b1 : (s1.size : Int) ≤ 64 := by omega
  have b2 : (t.size : Int) ≤ 4000 := by omega
  have b3 : (s2.size : Int) ≤ 64 := by omega
  have b4 : (D.size : Int) ≤ 32 := by omega
  have HS := Lib.hid (And.intro hsum (And.intro hp1 hp2))
  have HT := Lib.hid (And.intro hi ho)
  clear hsum hp1 hp2 hs1 hs2 hl1 hl2 hD hDs hi ho
  by_cases hbig : (64 : Int) < key.size
  · go_enter Tryd.func16, Tryd.ntmps16
    go_wp2_with (at_builtin; (refine wpList_append_text (w0 := w) (B := w.heap.size) (l := []) rfl (.tmp 9) (.tmp 11) rfl (OwnT.nil _ _) 0 rfl rfl w.heap.size 1 key rfl (cell_new w _ _) (by omega) (by simp) ((Below.refl _ _).alloc (Nat.le_refl _) _) ?_; intro g1 cap1 w1 hown1 hb1; have H1 := Lib.hid (And.intro hown1 hb1); clear hown1 hb1))
    refine (HS.out.2.1 _).mono ?_
    rintro e w2 ⟨rfl, hb2⟩
    have H2 := Lib.hid (And.intro (H1.out.1.call hb2) (below_trans' H1.out.2 hb2 H1.out.2.size))
    clear hb2
    go_wp2_with (at_builtin; (refine wpList_append_text (w0 := w) rfl (.tmp 13) (.tmp 18) rfl (H2.out.1.alloc _) 1 rfl rfl w2.heap.size 1 (s1 ++ t) rfl (cell_new w2 _ _) (by omega) (by have := H2.out.2.size; simp; omega) (H2.out.2.alloc H2.out.2.size _) ?_; intro g3 cap3 w3 hown3 hb3; have H3 := Lib.hid (And.intro hown3 hb3); clear hown3 hb3))
    refine (HS.out.2.2 _).mono ?_
    rintro e w4 ⟨rfl, hb4⟩
    have H4 := Lib.hid (And.intro (H3.out.1.call hb4) (below_trans' H3.out.2 hb4 H3.out.2.size))
    clear hb4
    go_wp2_with fail
    refine (HS.out.2.1 _).mono ?_
    rintro e w5 ⟨rfl, hb5⟩
    have H5 := Lib.hid (And.intro (H4.out.1.call hb5) (below_trans' H4.out.2 hb5 H4.out.2.size))
    clear hb5
    go_wp2_with fail
    refine (HS.out.1 _).mono ?_
    rintro e w6 ⟨rfl, hb6⟩
    have H6 := Lib.hid (And.intro (H5.out.1.call hb6) (below_trans' H5.out.2 hb6 H5.out.2.size))
    clear hb6
    go_wp2_with (at_builtin; (refine wpList_append_text (w0 := w) rfl (.tmp 20) (.tmp 29) rfl (H6.out.1.alloc _) 2 rfl rfl w6.heap.size 1 (s2 ++ D) rfl (cell_new w6 _ _) (by omega) (by have := H6.out.2.size; simp; omega) (H6.out.2.alloc H6.out.2.size _) ?_; intro g7 cap7 w7 hown7 hb7; have H7 := Lib.hid (And.intro hown7 hb7); clear hown7 hb7))
    go_ret
    have e1 : textsOf key t = [key, s1 ++ t, s2 ++ D] := by rw [textsOf, if_pos (by omega), HT.out.1, HT.out.2]
    rw [e1]
    exact ⟨_, _, rfl, H7.out.1.texts, H7.out.2⟩
  · go_enter Tryd.func16, Tryd.ntmps16
    go_wp2_with fail
    refine (HS.out.2.1 _).mono ?_
    rintro e w2 ⟨rfl, hb2⟩
    have H2 := Lib.hid hb2
    clear hb2
    go_wp2_with (at_builtin; (refine wpList_append_text (w0 := w) (B := w.heap.size) (l := []) rfl (.tmp 13) (.tmp 18) rfl (OwnT.nil _ _) 0 rfl rfl w2.heap.size 1 (s1 ++ t) rfl (cell_new w2 _ _) (by omega) (by have := H2.out.size; simp; omega) (H2.out.alloc H2.out.size _) ?_; intro g3 cap3 w3 hown3 hb3; have H3 := Lib.hid (And.intro hown3 hb3); clear hown3 hb3))
    refine (HS.out.2.2 _).mono ?_
    rintro e w4 ⟨rfl, hb4⟩
    have H4 := Lib.hid (And.intro (H3.out.1.call hb4) (below_trans' H3.out.2 hb4 H3.out.2.size))
    clear hb4
    go_wp2_with fail
    refine (HS.out.2.1 _).mono ?_
    rintro e w5 ⟨rfl, hb5⟩
    have H5 := Lib.hid (And.intro (H4.out.1.call hb5) (below_trans' H4.out.2 hb5 H4.out.2.size))
    clear hb5
    go_wp2_with fail
    refine (HS.out.1 _).mono ?_
    rintro e w6 ⟨rfl, hb6⟩
    have H6 := Lib.hid (And.intro (H5.out.1.call hb6) (below_trans' H5.out.2 hb6 H5.out.2.size))
    clear hb6
    go_wp2_with (at_builtin; (refine wpList_append_text (w0 := w) rfl (.tmp 20) (.tmp 29) rfl (H6.out.1.alloc _) 1 rfl rfl w6.heap.size 1 (s2 ++ D) rfl (cell_new w6 _ _) (by omega) (by have := H6.out.2.size; simp; omega) (H6.out.2.alloc H6.out.2.size _) ?_; intro g7 cap7 w7 hown7 hb7; have H7 := Lib.hid (And.intro hown7 hb7); clear hown7 hb7))
    go_ret
    have e1 : textsOf key t = [s1 ++ t, s2 ++ D] := by rw [textsOf, if_neg (by omega), HT.out.1, HT.out.2]
    rw [e1]
    exact ⟨_, _, rfl, H7.out.1.texts, H7.out.2⟩
end Go.Proofs.YtnpdmkgefaobeaaDoor
