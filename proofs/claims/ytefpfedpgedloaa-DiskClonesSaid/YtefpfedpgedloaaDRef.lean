/- The reference of disk in memory: lists of texts, of changes; Made. -/
import Derived.Test.YtefpfedpgedloaaDAwake
import Derived.Test.YtefpfedpgedloaaDPlain
namespace Go.Proofs.Ytefpfedpgedloaa
open Go.RowKit
open Dk

/-- A list of texts, all of it in a block of which S holds. -/
def TextsR (w : World) (S : Nat → Prop) (v : Value) (l : List ByteArray) : Prop :=
  ∃ a cap, v = .slice a l.length cap ∧ (l ≠ [] → ∃ g, a = some ⟨g, 0, none⟩ ∧ g < w.heap.size ∧ S g ∧ ∀ j, j < l.length → w.cell? ⟨g, j, none⟩ = some (.string (exAt l j)))
/-- What a change of the world asks of the blocks of S, to leave lists as they are. -/
def KeptS (S T : Nat → Prop) (w w' : World) : Prop := (∀ b, S b → b < w.heap.size → T b ∧ w'.heap[b]? = w.heap[b]?) ∧ w.heap.size ≤ w'.heap.size
theorem keptS_below {S : Nat → Prop} {w w' : World} (h : Below w.heap.size w w') : KeptS S S w w' := ⟨fun b hs hb => ⟨hs, h.block b hb⟩, h.size⟩
theorem TextsR.kept {w w' : World} {S T : Nat → Prop} {v : Value} {l : List ByteArray} (h : TextsR w S v l) (k : KeptS S T w w') : TextsR w' T v l := by
  obtain ⟨a, cap, e, hl⟩ := h
  refine ⟨a, cap, e, fun hne => ?_⟩
  obtain ⟨g, ha, hg, hs, hc⟩ := hl hne
  obtain ⟨h1, h2⟩ := k.1 g hs hg
  exact ⟨g, ha, Nat.lt_of_lt_of_le hg k.2, h1, fun j hj => (World.cell?_of_block (a := ⟨g, j, none⟩) h2).trans (hc j hj)⟩
theorem TextsR.at {w : World} {S : Nat → Prop} {a : Option Addr} {n cap : Nat} {l : List ByteArray} (h : TextsR w S (.slice a n cap) l) {j : Nat} (hj : j < l.length) : ∃ g, a = some ⟨g, 0, none⟩ ∧ g < w.heap.size ∧ w.cell? ⟨g, j, none⟩ = some (.string (exAt l j)) := by
  obtain ⟨a', cap', e, hl⟩ := h
  injection e with e1 e2 e3
  obtain ⟨g, ha, hg, hs, hc⟩ := hl (fun e => by subst e; exact absurd hj (by simp))
  exact ⟨g, e1.trans ha, hg, hc j hj⟩
theorem TextsR.form {w : World} {S : Nat → Prop} {v : Value} {l : List ByteArray} (h : TextsR w S v l) : ∃ a cap, v = .slice a l.length cap := by
  obtain ⟨a', cap', e, hl⟩ := h; exact ⟨a', cap', e⟩
/-- A change's cells, as the reference has them. -/
def rchgCells (c : Chg) : Array Value := #[.int .i64 (c.kind : Int), .int .i64 (c.x : Int), .string c.text, .int .i64 (c.long : Int)]
def ChgsR (w : World) (S : Nat → Prop) (v : Value) (cs : List Chg) : Prop :=
  ∃ a cap, v = .slice a cs.length cap ∧ (cs ≠ [] → ∃ g, a = some ⟨g, 0, none⟩ ∧ g < w.heap.size ∧ S g ∧ ∀ j c, cs[j]? = some c → ∀ k, k < 4 → w.cell? ⟨g, j * 4 + k, none⟩ = (rchgCells c)[k]?)
theorem ChgsR.kept {w w' : World} {S T : Nat → Prop} {v : Value} {l : List Chg} (h : ChgsR w S v l) (k : KeptS S T w w') : ChgsR w' T v l := by
  obtain ⟨a, cap, e, hl⟩ := h
  refine ⟨a, cap, e, fun hne => ?_⟩
  obtain ⟨g, ha, hg, hs, hc⟩ := hl hne
  obtain ⟨h1, h2⟩ := k.1 g hs hg
  exact ⟨g, ha, Nat.lt_of_lt_of_le hg k.2, h1, fun j c hj i hi => (World.cell?_of_block (a := ⟨g, _, none⟩) h2).trans (hc j c hj i hi)⟩
theorem ChgsR.at {w : World} {S : Nat → Prop} {a : Option Addr} {n cap : Nat} {l : List Chg} (h : ChgsR w S (.slice a n cap) l) {j : Nat} {c : Chg} (hj : l[j]? = some c) : ∃ g, a = some ⟨g, 0, none⟩ ∧ g < w.heap.size ∧ S g ∧
    w.cell? ⟨g, j * 4, none⟩ = some (.int .i64 (c.kind : Int)) ∧ w.cell? ⟨g, j * 4 + 1, none⟩ = some (.int .i64 (c.x : Int)) ∧ w.cell? ⟨g, j * 4 + 2, none⟩ = some (.string c.text) ∧ w.cell? ⟨g, j * 4 + 3, none⟩ = some (.int .i64 (c.long : Int)) := by
  obtain ⟨a', cap', e, hl⟩ := h
  injection e with e1 e2 e3
  obtain ⟨g, ha, hg, hs, hc⟩ := hl (fun e => by subst e; simp at hj)
  exact ⟨g, e1.trans ha, hg, hs, hc j c hj 0 (by omega), hc j c hj 1 (by omega), hc j c hj 2 (by omega), hc j c hj 3 (by omega)⟩
theorem ChgsR.form {w : World} {S : Nat → Prop} {v : Value} {l : List Chg} (h : ChgsR w S v l) : ∃ a cap, v = .slice a l.length cap := by
  obtain ⟨a', cap', e, hl⟩ := h; exact ⟨a', cap', e⟩
/-- The reference's disk, as cells. -/
def refCells (R : Disk) (sv wv : Value) : Array Value := #[.int .i64 R.room, sv, wv, .int .i64 R.changes, .int .i64 R.falls, .bool R.down, .int .i64 R.after, .int .i64 R.keep, .int .i64 R.torn, .bool R.laid]
def RefIn (w : World) (S : Nat → Prop) (cells : Array Value) (R : Disk) : Prop := ∃ sv wv, cells = refCells R sv wv ∧ TextsR w S sv R.sure ∧ ChgsR w S wv R.waits
theorem RefIn.kept {w w' : World} {S T : Nat → Prop} {cs : Array Value} {R : Disk} (h : RefIn w S cs R) (k : KeptS S T w w') : RefIn w' T cs R := by
  obtain ⟨sv, wv, e, h1, h2⟩ := h; exact ⟨sv, wv, e, h1.kept k, h2.kept k⟩

/-- Texts as cells. -/
def tcells (l : List ByteArray) : List Value := l.map Value.string
theorem tcells_snoc (l : List ByteArray) (x : ByteArray) : tcells (l ++ [x]) = tcells l ++ [.string x] := by simp [tcells]
theorem tcells_one (l : List ByteArray) : ∀ u ∈ tcells l, u.oneCell' = true := fun u hu => by
  simp only [tcells, List.mem_map] at hu
  obtain ⟨b, _, rfl⟩ := hu
  rfl
theorem Try.info_txt : (Try.prog.info? 9).map (fun i => (i.zero, i.size, i.bytes)) = some (some (.string ⟨#[]⟩), 1, 16) := by kernel_rfl
/-- A list of texts that the call made itself, in a block from B on (or nil). -/
def OwnX (B : Nat) (w : World) (a : Option Addr) (cap : Nat) (l : List ByteArray) : Prop :=
  w.ownsRow 0 9 1 (.slice a l.length cap) l.length (tcells l) ∧ ∀ g, (Value.slice a l.length cap).ownBlock = some g → B ≤ g
theorem OwnX.nil (B : Nat) (w : World) : OwnX B w none 0 [] := ⟨World.ownsRow_nil _ _ _ _, fun g hg => by simp [Value.ownBlock] at hg⟩
theorem OwnX.below {B : Nat} {w w' : World} {a : Option Addr} {cap : Nat} {l : List ByteArray} (h : OwnX B w a cap l) (hb : Below w.heap.size w w') : OwnX B w' a cap l :=
  ⟨ownsRow_same h.1 (fun g hg => hb.block g (h.1.lt g hg).2), h.2⟩
theorem OwnX.kept {B : Nat} {w w' : World} {a : Option Addr} {cap : Nat} {l : List ByteArray} (h : OwnX B w a cap l) (hb : ∀ g, (Value.slice a l.length cap).ownBlock = some g → w'.heap[g]? = w.heap[g]?) : OwnX B w' a cap l :=
  ⟨ownsRow_same h.1 hb, h.2⟩
theorem OwnX.texts {B : Nat} {w : World} {S : Nat → Prop} {a : Option Addr} {cap : Nat} {l : List ByteArray} (h : OwnX B w a cap l) (hS : ∀ g, B ≤ g → S g) : TextsR w S (.slice a l.length cap) l := by
  refine ⟨a, cap, rfl, fun hne => ?_⟩
  rcases own4_form h.1 with ⟨-, h0, -⟩ | ⟨g, rfl, -, -⟩
  · exact absurd (List.length_eq_zero_iff.1 h0) hne
  · refine ⟨g, rfl, (h.1.lt g rfl).2, hS g (h.2 g rfl), fun j hj => ?_⟩
    rw [World.ownsRow.cellAt h.1 j (by omega)]
    simp [tcells, exAt, hj]
/-- append of one text. -/
theorem wpList_append_txt {ops : Array Oper} {rest : List Oper} {o : Oper} {act : Act} {Q : Exit → Act → World → Prop} {w w0 : World} (hgd : o.guard = none) (s x : Operand)
    (ho : o.op = .call { callee := .builtin .append, args := #[s, x], argTypes := #[27, 27] })
    {B : Nat} {a : Option Addr} {cap : Nat} {l : List ByteArray} (hown : OwnX B w a cap l) (n : Nat) (hn : l.length = n) (hs : act.eval s = .slice a n cap)
    (g c' : Nat) (c : ByteArray) (hx : act.eval x = .slice (some ⟨g, 0, none⟩) 1 c') (hc : w.cell? ⟨g, 0, none⟩ = some (.string c))
    (hlen : n < 100000000) (hbase : B ≤ w.heap.size) (hb0 : Below B w0 w)
    (h : ∀ g cap w', OwnX B w' (some ⟨g, 0, none⟩) cap (l ++ [c]) → Below B w0 w' → w.heap.size ≤ w'.heap.size → wpList Try.prog ops Q rest (act.put o.dst (.slice (some ⟨g, 0, none⟩) (n + 1) cap)) w') : wpList Try.prog ops Q (o :: rest) act w := by
  subst hn
  obtain ⟨i0, hi0, hz0, hz1, hz2⟩ := info_parts Try.info_txt
  refine wpList_append_src hgd s x 27 27 ho 9 i0 (.string ⟨#[]⟩) 1 16 Try.underlying27 hi0 hz0 hz1 hz2 rfl (.slice a l.length cap) l.length (tcells l) hs hown.1 (.slice (some ⟨g, 0, none⟩) 1 c') 1 [.string c] hx
    (Src.ofSlice w Try.underlying27 ⟨g, 0, none⟩ 1 c' [.string c] rfl (fun j u hj => ?_) (by simp [Value.oneCell'])) (by omega) (by omega) (fun ad cap' w' h1 h2 h3 => ?_)
  · match j, hj with
    | 0, hj =>
      simp at hj
      subst hj
      rw [show (⟨g, 0, none⟩ : Addr).add 0 = ⟨g, 0, none⟩ from by simp [Addr.add]]
      exact hc
  · rcases own4_form h1 with ⟨-, h0, -⟩ | ⟨g', rfl, -, -⟩
    · omega
    · refine h g' cap' w' ⟨?_, fun k hk => ?_⟩ ?_ h2.size
      · rw [tcells_snoc, List.length_append]; exact h1
      · have hk' : g' = k := by simpa [Value.ownBlock] using hk
        rcases h3 g' rfl with e | ⟨e, -⟩
        · have := hown.2 g' e; omega
        · omega
      · exact hb0.grown h2 hbase (fun k hk => hown.2 k hk)

theorem made_at {l : List ByteArray} {c : Chg} {i : Nat} (hi : i < l.length) : (made l c).take (i + 1) = (made l c).take i ++ [exAt (made l c) i] := by
  rw [List.take_add_one, exAt_lt (by rw [made_length]; exact hi)]; rfl
set_option maxRecDepth 100000 in
set_option maxHeartbeats 2000000 in
theorem rmade_any {w : World} {S : Nat → Prop} {l : List ByteArray} {a : Option Addr} {cap : Nat} (h : TextsR w S (.slice a l.length cap) l) (c : Chg) (hk : c.kind ≤ 2) (hm : c.kind = 1 → c.long ≤ (exAt l c.x).size) (hn : l.length ≤ 64) (hz : Sz l) (hz2 : Sz (made l c)) :
    Calls Try.prog 35 #[.slice a l.length cap, .agg (rchgCells c)] w fun e w' => ∃ v, e = .returned v ∧ (∀ T : Nat → Prop, (∀ g, w.heap.size ≤ g → T g) → TextsR w' T v (made l c)) ∧ Below w.heap.size w w' := by
  obtain ⟨kind, x, long, text⟩ := c
  unfold rchgCells
  simp only at hk hm ⊢
  obtain ⟨n, hN⟩ : ∃ n, n = l.length := ⟨_, rfl⟩
  obtain ⟨M, hM⟩ : ∃ M, M = made l ⟨kind, x, long, text⟩ := ⟨_, rfl⟩
  have hMl : M.length = n := by rw [hM, made_length, hN]
  have hbox : (w.alloc (.cells #[.int .i64 (kind : Int), .int .i64 (x : Int), .string text, .int .i64 (long : Int)] 66)).heap[w.heap.size]? = some (.cells #[.int .i64 (kind : Int), .int .i64 (x : Int), .string text, .int .i64 (long : Int)] 66 (0, 0)) := heap_alloc_new _ _
  have hB : Below w.heap.size w (w.alloc (.cells #[.int .i64 (kind : Int), .int .i64 (x : Int), .string text, .int .i64 (long : Int)] 66)) := (Below.refl _ _).alloc (Nat.le_refl _) _
  have hB1 : Below (w.heap.size + 1) (w.alloc (.cells #[.int .i64 (kind : Int), .int .i64 (x : Int), .string text, .int .i64 (long : Int)] 66)) (w.alloc (.cells #[.int .i64 (kind : Int), .int .i64 (x : Int), .string text, .int .i64 (long : Int)] 66)) := Below.refl _ _
  have hsz0 : (w.alloc (.cells #[.int .i64 (kind : Int), .int .i64 (x : Int), .string text, .int .i64 (long : Int)] 66)).heap.size = w.heap.size + 1 := by simp
  rw [← hM] at hz2 ⊢
  rw [← hN] at hn ⊢
  have H := Lib.hid (And.intro h (And.intro hm (And.intro hz (And.intro hz2 (And.intro hN (And.intro hM hMl))))))
  clear h hm hz hz2 hN hM hMl
  go_enter Try.func35, Try.ntmps35
  go_wp2_with fail
  generalize w.alloc _ = wb at *
  have HB := Lib.hid (And.intro hB (And.intro hbox hsz0))
  have H1 := Lib.hid hB1
  clear hB hbox hB1 hsz0
  go_loopw [5, 6, 7] (fun o i _ wr => ∃ (k : Nat) (ad : Option Addr) (cp : Nat), k ≤ n ∧ i = .int .i64 k ∧ o = .slice ad k cp ∧ OwnX (w.heap.size + 1) wr ad cp (M.take k) ∧ Below (w.heap.size + 1) wb wr ∧ w.heap.size + 1 ≤ wr.heap.size) (fun _ i _ _ => n - (intOf i).toNat)
  case atStart => exact ⟨0, none, 0, by omega, rfl, rfl, OwnX.nil _ _, H1.out, by rw [HB.out.2.2]; exact Nat.le_refl _⟩
  case round =>
    clear H1
    obtain ⟨k, ad, cp, hk', rfl, rfl, ho, hb, hsz⟩ := hrel
    have hbox := (hb.block w.heap.size (by omega)).trans HB.out.2.1
    have hbw : Below w.heap.size w wr := HB.out.1.trans (hb.mono (by omega))
    by_cases hlt : k < n
    · have b0 : wr.cell? ⟨w.heap.size, 0, none⟩ = some (.int .i64 (kind : Int)) := by rw [cell_of_row _ _ _ _ _ _ hbox]; rfl
      have b1 : wr.cell? ⟨w.heap.size, 1, none⟩ = some (.int .i64 (x : Int)) := by rw [cell_of_row _ _ _ _ _ _ hbox]; rfl
      have b2 : wr.cell? ⟨w.heap.size, 2, none⟩ = some (.string text) := by rw [cell_of_row _ _ _ _ _ _ hbox]; rfl
      have b3 : wr.cell? ⟨w.heap.size, 3, none⟩ = some (.int .i64 (long : Int)) := by rw [cell_of_row _ _ _ _ _ _ hbox]; rfl
      have hkl : k < l.length := by have := H.out.2.2.2.2.1; omega
      obtain ⟨g, rfl, hg, q⟩ := (H.out.1.kept (keptS_below hbw)).at hkl
      have hml : (M.take k).length = k := by rw [List.length_take]; have := H.out.2.2.2.2.2.2; omega
      have hsn : M.take (k + 1) = M.take k ++ [exAt M k] := by rw [H.out.2.2.2.2.2.1]; exact made_at hkl
      have hMk : exAt M k = if k = x then made1 (exAt l k) ⟨kind, x, long, text⟩ else exAt l k := by
        rw [H.out.2.2.2.2.2.1]
        by_cases e : k = x
        · subst e; rw [if_pos rfl]; exact exAt_made_same (c := ⟨kind, k, long, text⟩) hkl
        · rw [if_neg e]; exact exAt_made_other (c := ⟨kind, x, long, text⟩) (fun e2 => e e2.symm)
      have hs0 := H.out.2.2.1.at k
      have hs1 := H.out.2.2.2.1.at k
      have hlg : kind = 1 → k = x → long ≤ (exAt l k).size := fun e1 e2 => by rw [e2]; exact H.out.2.1 e1
      obtain ⟨s, hs⟩ : ∃ s, s = exAt l k := ⟨_, rfl⟩
      rw [← hs] at q hMk hs0 hlg
      have HR := Lib.hid (And.intro ho (And.intro hb (And.intro hml (And.intro hsn hbw))))
      clear ho hb hml hsn hbw hs hbox
      have fin : ∀ t : ByteArray, exAt M k = t → ∀ (g1 cap1 : Nat) (w1 : World), OwnX (w.heap.size + 1) w1 (some ⟨g1, 0, none⟩) cap1 (M.take k ++ [t]) → Below (w.heap.size + 1) wb w1 → wr.heap.size + 1 ≤ w1.heap.size →
          OwnX (w.heap.size + 1) w1 (some ⟨g1, 0, none⟩) cap1 (M.take (k + 1)) ∧ Below (w.heap.size + 1) wb w1 ∧ w.heap.size + 1 ≤ w1.heap.size := fun t ht g1 cap1 w1 h1 h2 h3 => ⟨by rw [HR.out.2.2.2.1, ht]; exact h1, h2, by omega⟩
      have HFin := Lib.hid fin
      clear fin
      by_cases e : k = x
      · rw [if_pos e] at hMk
        have hkx : ((k : Int) == (x : Int)) = true := by rw [e]; simp
        rcases (by omega : kind = 0 ∨ kind = 1 ∨ kind = 2) with hk0 | hk0 | hk0
        · have hMk : exAt M k = s ++ text := by rw [hMk, made1, if_pos hk0]
          have HM := Lib.hid hMk
          have hs1' := hs1
          rw [hMk, ByteArray.size_append] at hs1'
          have hts : (s.size : Int) + text.size ≤ 65536 := by omega
          clear hs1'
          have k0 : ((kind : Int) == 0) = true := by rw [hk0]; rfl
          have k1 : ((kind : Int) == 1) = false := by rw [hk0]; rfl
          have k2 : ((kind : Int) == 2) = false := by rw [hk0]; rfl
          clear hk0
          clear hMk hlg e
          go_wp2_with (at_builtin; (refine wpList_append_txt (w0 := wb) rfl (.tmp 53) (.tmp 55) rfl (HR.out.1.below ((Below.refl _ _).alloc (Nat.le_refl _) _)) k HR.out.2.2.1 rfl wr.heap.size 1 (s ++ text) rfl (cell_new wr _ _) (by omega) (by simp; omega) (HR.out.2.1.alloc (by omega) _) ?_; intro g1 cap1 w1 hown1 hb1 hz1; have HX := Lib.hid (And.intro hown1 (And.intro hb1 hz1)); clear hown1 hb1 hz1))
          go_roundw
          case rel => exact ⟨k + 1, _, cap1, by omega, by go_num, rfl, HFin.out _ HM.out _ _ _ HX.out.1 HX.out.2.1 (by have := HX.out.2.2; simpa using this)⟩
          case measure => simp [intOf]; omega
        · have hMk : exAt M k = s.extract 0 long := by rw [hMk, made1, if_neg (show ¬ kind = 0 by omega), if_pos hk0]
          have HM := Lib.hid hMk
          have hlg1 := hlg hk0 e
          have hlgi : (long : Int) ≤ s.size := by omega
          have k0 : ((kind : Int) == 0) = false := by rw [hk0]; rfl
          have k1 : ((kind : Int) == 1) = true := by rw [hk0]; rfl
          have k2 : ((kind : Int) == 2) = false := by rw [hk0]; rfl
          clear hk0
          clear hMk hlg e
          go_wp2_with (at_builtin; (refine wpList_append_txt (w0 := wb) rfl (.tmp 53) (.tmp 55) rfl (HR.out.1.below ((Below.refl _ _).alloc (Nat.le_refl _) _)) k HR.out.2.2.1 rfl wr.heap.size 1 (s.extract 0 long) rfl (cell_new wr _ _) (by omega) (by simp; omega) (HR.out.2.1.alloc (by omega) _) ?_; intro g1 cap1 w1 hown1 hb1 hz1; have HX := Lib.hid (And.intro hown1 (And.intro hb1 hz1)); clear hown1 hb1 hz1))
          go_roundw
          case rel => exact ⟨k + 1, _, cap1, by omega, by go_num, rfl, HFin.out _ HM.out _ _ _ HX.out.1 HX.out.2.1 (by have := HX.out.2.2; simpa using this)⟩
          case measure => simp [intOf]; omega
        · have hMk : exAt M k = ⟨#[]⟩ := by rw [hMk, made1, if_neg (show ¬ kind = 0 by omega), if_neg (show ¬ kind = 1 by omega)]
          have HM := Lib.hid hMk
          have k0 : ((kind : Int) == 0) = false := by rw [hk0]; rfl
          have k1 : ((kind : Int) == 1) = false := by rw [hk0]; rfl
          have k2 : ((kind : Int) == 2) = true := by rw [hk0]; rfl
          clear hk0
          clear hMk hlg e
          go_wp2_with (at_builtin; (refine wpList_append_txt (w0 := wb) rfl (.tmp 53) (.tmp 55) rfl (HR.out.1.below ((Below.refl _ _).alloc (Nat.le_refl _) _)) k HR.out.2.2.1 rfl wr.heap.size 1 ⟨#[]⟩ rfl (cell_new wr _ _) (by omega) (by simp; omega) (HR.out.2.1.alloc (by omega) _) ?_; intro g1 cap1 w1 hown1 hb1 hz1; have HX := Lib.hid (And.intro hown1 (And.intro hb1 hz1)); clear hown1 hb1 hz1))
          go_roundw
          case rel => exact ⟨k + 1, _, cap1, by omega, by go_num, rfl, HFin.out _ HM.out _ _ _ HX.out.1 HX.out.2.1 (by have := HX.out.2.2; simpa using this)⟩
          case measure => simp [intOf]; omega
      · rw [if_neg e] at hMk
        have hkx : ((k : Int) == (x : Int)) = false := by rw [beq_eq_false_iff_ne]; omega
        have HM := Lib.hid hMk
        clear hMk hlg e
        go_wp2_with (at_builtin; (refine wpList_append_txt (w0 := wb) rfl (.tmp 53) (.tmp 55) rfl (HR.out.1.below ((Below.refl _ _).alloc (Nat.le_refl _) _)) k HR.out.2.2.1 rfl wr.heap.size 1 s rfl (cell_new wr _ _) (by omega) (by simp; omega) (HR.out.2.1.alloc (by omega) _) ?_; intro g1 cap1 w1 hown1 hb1 hz1; have HX := Lib.hid (And.intro hown1 (And.intro hb1 hz1)); clear hown1 hb1 hz1))
        go_roundw
        case rel => exact ⟨k + 1, _, cap1, by omega, by go_num, rfl, HFin.out _ HM.out _ _ _ HX.out.1 HX.out.2.1 (by have := HX.out.2.2; simpa using this)⟩
        case measure => simp [intOf]; omega
    · obtain rfl : k = n := by omega
      have HR := Lib.hid (And.intro ho hbw)
      clear ho hb hbw hbox
      go_wp2_with fail
      go_ret
      have hML := H.out.2.2.2.2.2.2
      refine ⟨_, rfl, fun T hT => ?_, HR.out.2⟩
      have := HR.out.1.texts (S := T) (fun g hg => hT g (by omega))
      rw [show M.take k = M by rw [← hML, List.take_length], hML] at this
      exact this
end Go.Proofs.Ytefpfedpgedloaa
