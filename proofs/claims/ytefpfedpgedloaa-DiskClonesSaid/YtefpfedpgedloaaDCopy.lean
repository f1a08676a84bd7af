/- disk: bytes.Clone, slices.Clone of changes, copied: rows in memory of their own. -/
import Derived.Test.YtefpfedpgedloaaDSettle
import Derived.WalkSpells
namespace Go.Proofs.Ytefpfedpgedloaa
open Go.RowKit
open Dk

theorem Try.info_u8 : (Try.prog.info? 5).map (fun i => (i.zero, i.size, i.bytes)) = some (some (.int .u8 0), 1, 1) := by kernel_rfl
theorem Try.info_row : (Try.prog.info? 69).map (fun i => (i.zero, i.size, i.bytes)) = some (some (.slice none 0 0), 1, 24) := by kernel_rfl
theorem Try.info_chg : (Try.prog.info? 74).map (fun i => (i.zero, i.size, i.bytes)) = some (some (.agg #[.int .i64 0, .int .i64 0, .int .i64 0, .string ⟨#[]⟩]), 4, 40) := by kernel_rfl
theorem own_cells {w : World} {e : TypeId} {k : Nat} {g n cap : Nat} {xs : List Value} (h : w.ownsRow 0 e k (.slice (some ⟨g, 0, none⟩) n cap) n xs) : ∀ j u, xs[j]? = some u → w.cell? ((⟨g, 0, none⟩ : Addr).add j) = some u := h.cells rfl
theorem bcells_one (l : List UInt8) : ∀ u ∈ bcells l, u.oneCell' = true := fun u hu => by
  simp only [bcells, List.mem_map] at hu
  obtain ⟨b, _, rfl⟩ := hu
  rfl
theorem chgs_one (cs : List Chg) : ∀ u ∈ chgsCells cs, u.oneCell' = true := fun u hu => by
  simp only [chgsCells, List.mem_flatMap, chgCells, List.mem_cons, List.not_mem_nil, or_false] at hu
  obtain ⟨c, _, rfl | rfl | rfl | rfl⟩ := hu <;> rfl
/-- A new row: in a block of the call's own. -/
def Fresh (w w' : World) (v : Value) : Prop := ∀ g, v.ownBlock = some g → w.heap.size ≤ g ∧ g < w'.heap.size
set_option maxRecDepth 100000 in
set_option maxHeartbeats 1000000 in
theorem bclone_any {w : World} (s : ByteArray) (a : Option Addr) (cap : Nat) (h : w.ownsRow 0 5 1 (.slice a s.size cap) s.size (bcells s.data.toList)) (hs : s.size ≤ 1000000) :
    Calls Try.prog 45 #[.slice a s.size cap] w fun e w' => ∃ a' cap', e = .returned (.slice a' s.size cap') ∧ w'.ownsRow 0 5 1 (.slice a' s.size cap') s.size (bcells s.data.toList) ∧ Fresh w w' (.slice a' s.size cap') ∧ Below w.heap.size w w' := by
  have q := fun (w : World) (a : Option Addr) (n c n' c' : Nat) => Lib.run_eql_slice_nil (P := Try.prog) w 69 5 a n c n' c' Try.underlying69
  obtain ⟨i0, hi0, hz0, hz1, hz2⟩ := info_parts Try.info_u8
  rcases own_form h with ⟨rfl, hn, rfl⟩ | ⟨g, rfl, hcap, hcapm⟩
  · have H := Lib.hid h
    rw [hn]
    rw [hn] at H
    clear h hn
    go_enter Try.func45, Try.ntmps45
    go_wp2_with fail
    go_ret
    exact ⟨none, 0, rfl, H.out, fun g hg => by simp [Value.ownBlock] at hg, Below.refl _ _⟩
  · have hg := (h.lt g rfl).2
    have hw1 : (w.alloc (.cells #[] 5)).heap[w.heap.size]? = some (.cells #[] 5 (0, 0)) := heap_alloc_new _ _
    have hA : Below w.heap.size w (w.alloc (.cells #[] 5)) := (Below.refl _ _).alloc (Nat.le_refl _) _
    have hz : (w.alloc (.cells #[] 5)).heap.size = w.heap.size + 1 := by simp
    have hown0 : (w.alloc (.cells #[] 5)).ownsRow 0 5 1 (.slice (some ⟨w.heap.size, 0, none⟩) 0 0) 0 [] := ⟨rfl, .inr ⟨w.heap.size, 0, #[], rfl, Nat.zero_le _, hw1, Nat.le_refl _, Nat.zero_le _, rfl, rfl⟩⟩
    have hsrc := Src.ofSlice (P := Try.prog) (size := 1) (tx := 69) (w.alloc (.cells #[] 5)) Try.underlying69 ⟨g, 0, none⟩ s.size cap (bcells s.data.toList) (by simp [bcells]) (own_cells (ownsRow_same h (fun g' e => by rw [← Option.some.inj e]; exact hA.block g hg))) (bcells_one _)
    have H := Lib.hid (And.intro hown0 (And.intro hsrc (And.intro hA hz)))
    clear h hw1 hA hz hown0 hsrc
    go_enter Try.func45, Try.ntmps45
    go_wp2_with (at_builtin; (refine wpList_append_src rfl (.tmp 5) (.tmp 6) 69 69 rfl 5 i0 (.int .u8 0) 1 1 Try.underlying69 hi0 hz0 hz1 hz2 rfl (.slice (some ⟨w.heap.size, 0, none⟩) 0 0) 0 [] rfl H.out.1 _ s.size _ rfl H.out.2.1 (by omega) (by omega) ?_; intro ad cap2 w2 ho2 hg2 hb2; have H2 := Lib.hid (And.intro ho2 (And.intro hg2 hb2)); clear ho2 hg2 hb2))
    go_ret
    obtain ⟨ho2, hg2, hb2⟩ := H2.out
    have hz := H.out.2.2.2
    have hgs := hg2.size
    rw [Nat.zero_add, List.nil_append] at ho2
    rw [Nat.zero_add] at hb2
    refine ⟨ad, cap2, rfl, ho2, fun g' e => ?_, H.out.2.2.1.grown hg2 (by omega) (fun k hk => ?_)⟩
    · rcases hb2 g' e with h | ⟨h, h2⟩
      · have : w.heap.size = g' := by simpa [Value.ownBlock] using h
        omega
      · omega
    · have : w.heap.size = k := by simpa [Value.ownBlock] using hk
      omega
set_option maxRecDepth 100000 in
set_option maxHeartbeats 1000000 in
theorem sclone_any {w : World} (cs : List Chg) (a : Option Addr) (cap : Nat) (h : w.ownsRow 0 74 4 (.slice a cs.length cap) cs.length (chgsCells cs)) (hs : cs.length ≤ 1000000000) :
    Calls Try.prog 40 #[.slice a cs.length cap] w fun e w' => ∃ a' cap', e = .returned (.slice a' cs.length cap') ∧ w'.ownsRow 0 74 4 (.slice a' cs.length cap') cs.length (chgsCells cs) ∧ Fresh w w' (.slice a' cs.length cap') ∧ Below w.heap.size w w' := by
  have q := fun (w : World) (a : Option Addr) (n c n' c' : Nat) => Lib.run_eql_slice_nil (P := Try.prog) w 60 74 a n c n' c' Try.underlying60
  obtain ⟨i0, hi0, hz0, hz1, hz2⟩ := info_parts Try.info_chg
  rcases own4_form h with ⟨rfl, hn, rfl⟩ | ⟨g, rfl, hcap, hcapm⟩
  · have H := Lib.hid h
    rw [hn]
    rw [hn] at H
    clear h hn
    go_enter Try.func40, Try.ntmps40
    go_wp2_with fail
    go_ret
    exact ⟨none, 0, rfl, H.out, fun g hg => by simp [Value.ownBlock] at hg, Below.refl _ _⟩
  · have hg := (h.lt g rfl).2
    have hw1 : (w.alloc (.cells #[] 74)).heap[w.heap.size]? = some (.cells #[] 74 (0, 0)) := heap_alloc_new _ _
    have hA : Below w.heap.size w (w.alloc (.cells #[] 74)) := (Below.refl _ _).alloc (Nat.le_refl _) _
    have hz : (w.alloc (.cells #[] 74)).heap.size = w.heap.size + 1 := by simp
    have hown0 : (w.alloc (.cells #[] 74)).ownsRow 0 74 4 (.slice (some ⟨w.heap.size, 0, none⟩) 0 0) 0 [] := ⟨rfl, .inr ⟨w.heap.size, 0, #[], rfl, Nat.zero_le _, hw1, Nat.le_refl _, Nat.zero_le _, rfl, rfl⟩⟩
    have hsrc := Src.ofSlice (P := Try.prog) (size := 4) (tx := 60) (w.alloc (.cells #[] 74)) Try.underlying60 ⟨g, 0, none⟩ cs.length cap (chgsCells cs) (chgsCells_length cs) (own_cells (ownsRow_same h (fun g' e => by rw [← Option.some.inj e]; exact hA.block g hg))) (chgs_one _)
    have H := Lib.hid (And.intro hown0 (And.intro hsrc (And.intro hA hz)))
    clear h hw1 hA hz hown0 hsrc
    go_enter Try.func40, Try.ntmps40
    go_wp2_with (at_builtin; (refine wpList_append_src rfl (.tmp 5) (.tmp 6) 60 60 rfl 74 i0 (.agg #[.int .i64 0, .int .i64 0, .int .i64 0, .string ⟨#[]⟩]) 4 40 Try.underlying60 hi0 hz0 hz1 hz2 rfl (.slice (some ⟨w.heap.size, 0, none⟩) 0 0) 0 [] rfl H.out.1 _ cs.length _ rfl H.out.2.1 (by omega) (by omega) ?_; intro ad cap2 w2 ho2 hg2 hb2; have H2 := Lib.hid (And.intro ho2 (And.intro hg2 hb2)); clear ho2 hg2 hb2))
    go_ret
    obtain ⟨ho2, hg2, hb2⟩ := H2.out
    have hz := H.out.2.2.2
    have hgs := hg2.size
    rw [Nat.zero_add, List.nil_append] at ho2
    rw [Nat.zero_add] at hb2
    refine ⟨ad, cap2, rfl, ho2, fun g' e => ?_, H.out.2.2.1.grown hg2 (by omega) (fun k hk => ?_)⟩
    · rcases hb2 g' e with h | ⟨h, h2⟩
      · have : w.heap.size = g' := by simpa [Value.ownBlock] using h
        omega
      · omega
    · have : w.heap.size = k := by simpa [Value.ownBlock] using hk
      omega
/-- The first i rows are there, the others are empty. -/
def part (l : List ByteArray) (i : Nat) : List ByteArray := l.take i ++ List.replicate (l.length - i) ⟨#[]⟩
theorem part_length (l : List ByteArray) (i : Nat) (h : i ≤ l.length) : (part l i).length = l.length := by simp [part]; omega
theorem part_all (l : List ByteArray) : part l l.length = l := by simp [part]
theorem part_set (l : List ByteArray) (i : Nat) (h : i < l.length) : (part l i).set i (exAt l i) = part l (i + 1) := by
  unfold part
  rw [List.set_append_right _ _ (by simp; omega), List.length_take, show i - min i l.length = 0 by omega, show l.length - i = (l.length - (i + 1)) + 1 by omega, List.replicate_succ, List.set_cons_zero, List.take_add_one, exAt_lt h, Option.toList_some, List.append_assoc]
  rfl
/-- Behind some rounds. -/
def Copied (w : World) (σ : Nat → Nat) (rt : Nat) (f : Nat → Nat) (t : Nat) (l : List ByteArray) (i : Nat) (wr : World) : Prop := ∃ σ', Tab wr σ' rt f t (part l i) ∧ Touch (fun _ => False) σ σ' w wr
theorem touch_new {R : Nat → Prop} {σ : Nat → Nat} {w w' : World} (g r : Nat) (h : Below w.heap.size w w') (h1 : w.heap.size ≤ g) (h2 : g < w'.heap.size) : Touch R σ (lay σ g r) w w' :=
  ⟨h.os, h.tape, h.output, h.size, fun k hk => lay_other (by omega), fun k hk _ => h.block k hk, fun k hk => lay_other (by omega)⟩
theorem copied_start {w w1 : World} {σ : Nat → Nat} {rt : Nat} {f : Nat → Nat} {l : List ByteArray} (hb : Below w.heap.size w w1) (ho : w1.ownsRow w.heap.size 69 1 (.slice (some ⟨w.heap.size, 0, none⟩) l.length l.length) l.length (madeCells (Value.slice none 0 0).cells (l.length * 1)).toList) :
    Copied w σ rt f w.heap.size l 0 w1 := by
  have hlt := (ho.lt _ rfl).2
  refine ⟨lay σ w.heap.size rt, ⟨lay_same _ _ _, ?_⟩, touch_new _ _ hb (Nat.le_refl _) hlt⟩
  rcases ho.2 with ⟨e, hn⟩ | ⟨g, c, cur, e, hB, hg, hn, hc, hs, ht⟩
  · simp at e
  · injection e with e1 e2 e3
    injection e1 with e1
    injection e1 with e1
    subst e1 e3
    refine ⟨cur, hg, by rw [part_length _ _ (Nat.zero_le _), hs, Nat.mul_one], fun i hi => ?_⟩
    rw [part_length _ _ (Nat.zero_le _)] at hi
    refine ⟨.slice none 0 0, ?_, ?_⟩
    · have hcur : cur.toList = List.replicate l.length (.slice none 0 0) := by
        rw [List.take_of_length_le (by rw [Array.length_toList, hs]; exact Nat.le_refl _)] at ht
        rw [ht, show (Value.slice none 0 0).cells = #[Value.slice none 0 0] from rfl, Nat.mul_one, toList_madeCells_one]
      rw [← Array.getElem?_toList, hcur]
      simp [hi]
    · rw [show exAt (part l 0) i = ⟨#[]⟩ by simp [exAt, part, hi]]
      exact BRow.nil _ _ _
theorem copied_step {w wr w3 w4 : World} {σ : Nat → Nat} {rt : Nat} {f : Nat → Nat} {t : Nat} {l : List ByteArray} {i : Nat} {a : Option Addr} {cap : Nat} (h : Copied w σ rt f t l i wr) (hi : i < l.length) (ht : w.heap.size ≤ t)
    (hb : Below wr.heap.size wr w3) (ho : w3.ownsRow 0 5 1 (.slice a (exAt l i).size cap) (exAt l i).size (bcells (exAt l i).data.toList)) (hf : Fresh wr w3 (.slice a (exAt l i).size cap)) (hfx : ∀ i, i < l.length → f i ≠ rt) (hw : w4 = w3.setCell ⟨t, i, none⟩ (.slice a (exAt l i).size cap)) : Copied w σ rt f t l (i + 1) w4 := by
  subst hw
  obtain ⟨σ', hT, hC⟩ := h
  have hpl := part_length l i (by omega)
  obtain ⟨σ2, r1, r2, r3⟩ : ∃ σ2 : Nat → Nat, (∀ g, g < wr.heap.size → σ2 g = σ' g) ∧ (∀ g, w3.heap.size ≤ g → σ2 g = σ' g) ∧ (∀ g, (Value.slice a (exAt l i).size cap).ownBlock = some g → σ2 g = f i) := by
    cases e : (Value.slice a (exAt l i).size cap).ownBlock with
    | none => exact ⟨σ', fun _ _ => rfl, fun _ _ => rfl, fun g hg => by simp at hg⟩
    | some g0 =>
      obtain ⟨h1, h2⟩ := hf g0 e
      exact ⟨lay σ' g0 (f i), fun g hg => lay_other (by omega), fun g hg => lay_other (by omega), fun g hg => by rw [← Option.some.inj hg]; exact lay_same _ _ _⟩
  have hk : ∀ r, KeptR r σ' σ2 wr w3 := fun r g hg e => ⟨(r1 g hg).trans e, hb.block g hg⟩
  have hS := hT.set (x := i) (by rw [hpl]; exact hi) (hk rt) (fun j _ _ => hk (f j)) rfl ⟨a, cap, rfl, ho, r3⟩ (fun j hj => hfx j (by rw [hpl] at hj; exact hj))
  rw [part_set l i hi] at hS
  have hss : (w3.setCell ⟨t, i, none⟩ (.slice a (exAt l i).size cap)).heap.size = w3.heap.size := by simp [World.setCell]
  have h1 := hC.size
  have h2 := hb.size
  refine ⟨σ2, hS, ⟨hb.os.trans hC.os, hb.tape.trans hC.tape, hb.output.trans hC.output, by rw [hss]; omega, fun g hg => (r1 g (by omega)).trans (hC.old g hg), fun g hg _ => ?_, fun g hg => (r2 g (by rw [hss] at hg; exact hg)).trans (hC.lab g (by rw [hss] at hg; omega))⟩⟩
  rw [heap_setCell_other w3 _ g _ (show g ≠ t by omega), hb.block g (by omega)]
  exact hC.same g hg (fun e => e)

set_option maxRecDepth 100000 in
set_option maxHeartbeats 1000000 in
theorem copied_any {w : World} {ρ : Nat → Nat} {rt : Nat} {f : Nat → Nat} {t : Nat} {l : List ByteArray} (h : Tab w ρ rt f t l) (hz : Sz l) (hn : l.length ≤ 64) (σ : Nat → Nat) (rt' : Nat) (f' : Nat → Nat) (hfx : ∀ i, i < l.length → f' i ≠ rt') :
    Calls Try.prog 39 #[.slice (some ⟨t, 0, none⟩) l.length l.length] w fun e w' => ∃ t' σ', e = .returned (.slice (some ⟨t', 0, none⟩) l.length l.length) ∧ Tab w' σ' rt' f' t' l ∧ Touch (fun _ => False) σ σ' w w' := by
  obtain ⟨i0, hi0, hz0, hz1, hz2⟩ := info_parts Try.info_row
  have hmk := run_makeSlice_full (P := Try.prog) w w.heap.size 59 69 i0 (.slice none 0 0) 1 Try.underlying59 hi0 hz0 hz1 .i64 .i64 l.length (by omega) (by rw [hz2]; omega) (by unfold maxLen; omega) (Nat.le_refl _)
  obtain ⟨w1, hrun, ho, hg⟩ := hmk
  have hb1 : Below w.heap.size w w1 := (Below.refl _ _).grown hg (Nat.le_refl _) (fun k hk => by cases hk)
  have hst := copied_start (σ := σ) (rt := rt') (f := f') hb1 ho
  obtain ⟨n, hN⟩ : ∃ n, n = l.length := ⟨_, rfl⟩
  obtain ⟨t', ht'⟩ : ∃ t', t' = w.heap.size := ⟨_, rfl⟩
  have H := Lib.hid (And.intro h (And.intro hz (And.intro hN (And.intro hfx (And.intro (show w.heap.size ≤ t' by omega) ht')))))
  have H0 := Lib.hid hst
  rw [← ht'] at hrun H0
  rw [← hN] at hrun hn ⊢
  clear h hz hN hfx ht' hst ho hg hb1 hi0 hz0 hz1 hz2
  have hni : (n : Int) ≤ 64 := by omega
  go_enter Try.func39, Try.ntmps39
  go_wp2_with fail
  clear hrun
  go_loopw [4, 5, 11, 13, 14, 15] (fun _ _ c _ _ _ wr => ∃ i : Nat, i ≤ n ∧ c = .int .i64 i ∧ Copied w σ rt' f' t' l i wr) (fun _ _ c _ _ _ _ => n - (intOf c).toNat)
  case atStart => exact ⟨0, by omega, rfl, H0.out⟩
  case round =>
    clear H0
    obtain ⟨i, hi, rfl, hc⟩ := hrel
    by_cases hlt : i < n
    · have hil : i < l.length := by have := H.out.2.2.1; omega
      have hsrc : Tab wr ρ rt f t l := by
        obtain ⟨σ', -, hC⟩ := hc
        exact H.out.1.kept (fun g hg e => ⟨e, hC.same g hg (fun e => e)⟩) (fun _ _ g hg e => ⟨e, hC.same g hg (fun e => e)⟩)
      obtain ⟨a, cap, q, ho, -, -⟩ := hsrc.at hil
      have hcl := bclone_any (w := wr) (exAt l i) a cap ho (by have := H.out.2.1.at i; omega)
      have htw : t' < wr.heap.size := by
        obtain ⟨σ', hT, -⟩ := hc
        exact hT.lt
      have qc : ∀ w3, Below wr.heap.size wr w3 → ∃ v, w3.cell? ⟨t', i, none⟩ = some v ∧ w3.frozen? ⟨t', i, none⟩ = false := fun w3 hb => by
        obtain ⟨σ', hT, -⟩ := hc
        obtain ⟨a, cap, q, -, -, fz⟩ := hT.at (x := i) (by rw [part_length _ _ (by omega)]; exact hil)
        exact ⟨_, (hb.cell (p := ⟨t', i, none⟩) htw).trans q, (hb.frozen (p := ⟨t', i, none⟩) htw).trans fz⟩
      have HR := Lib.hid (And.intro hc (And.intro hcl qc))
      clear hc hsrc ho hcl qc
      generalize hs0 : (exAt l i).size = sz at *
      have HS := Lib.hid hs0
      clear hs0
      go_wp2_with fail
      refine HR.out.2.1.mono ?_
      rintro e w3 ⟨a', cap', rfl, ho3, hf3, hb3⟩
      obtain ⟨v3, q3, f3⟩ := HR.out.2.2 w3 hb3
      have H3 := Lib.hid (And.intro ho3 (And.intro hf3 hb3))
      clear ho3 hf3 hb3 q
      go_wp2_with fail
      go_roundw
      case rel =>
        refine ⟨i + 1, by omega, by go_num, ?_⟩
        have ho3 := H3.out.1
        have hf3 := H3.out.2.1
        rw [← HS.out] at ho3 hf3
        exact copied_step (a := a') (cap := cap') HR.out.1 hil H.out.2.2.2.2.1 H3.out.2.2 ho3 hf3 H.out.2.2.2.1 (by rw [HS.out])
      case measure => simp [intOf]; omega
    · obtain rfl : i = n := by omega
      have HR := Lib.hid hc
      clear hc
      go_wp2_with fail
      go_ret
      obtain ⟨σ', hT, hC⟩ := HR.out
      rw [H.out.2.2.1, part_all] at hT
      exact ⟨t', σ', rfl, hT, hC⟩
end Go.Proofs.Ytefpfedpgedloaa
