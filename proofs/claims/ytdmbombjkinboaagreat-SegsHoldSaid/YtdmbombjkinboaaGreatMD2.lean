/- Merged by program: disk: settle: the first changes that wait are made for good. | disk: bytes.Clone, slices.Clone of changes, copied: rows in memory of their own. | disk: Fail: the power fails. -/
import Derived.Test.YtdmbombjkinboaaGreatMD1
import Derived.StillTailTactics
import Derived.WalkSpells
namespace Go.Proofs.YtdmbombjkinboaaGreat
open Go.RowKit
open Dk

/-- The head, and the rows that stand for good. -/
def RS (r : Nat) : Prop := r = 1 ∨ r = 2 ∨ ∃ i, r = fS i
theorem rs4 : ¬ RS 4 := fun h => by
  rcases h with h | h | ⟨i, h⟩
  · omega
  · omega
  · unfold fS at h; omega
theorem fS_ne (i : Nat) : fS i ≠ 2 := by unfold fS; omega
theorem fS_inj {i k : Nat} (h : i ≠ k) : fS i ≠ fS k := by unfold fS; omega
theorem fN_ne (i : Nat) : fN i ≠ 3 := by unfold fN; omega
theorem fN_inj {i k : Nat} (h : i ≠ k) : fN i ≠ fN k := by unfold fN; omega
/-- A change of the rows that stand for good. -/
theorem raw_sure {w w' : World} {ρ ρ' : Nat → Nat} {b : Nat} {D : Disk} {N L : List ByteArray} {ts tn : Nat} {wv : Value} {x : Nat} (hl : Lab ρ w) (hr : ρ b = 1) (hn : N.length = D.sure.length)
    (h1 : w.heap[b]? = some (.cells (headCells D ts tn wv) 63 (0, 0))) (hT : Tab w' ρ' 2 fS ts L) (hN : Tab w ρ 3 fN tn N) (hW : Waits w ρ 4 wv D.waits) (hL : L.length = D.sure.length)
    (t : Touch (fun r => r = 2 ∨ r = fS x) ρ ρ' w w') : Raw w' ρ' b { D with sure := L } N := by
  have hb := (Array.getElem?_eq_some_iff.1 h1).1
  obtain ⟨k1, k2⟩ := t.kept (r := 1) (fun e => by rcases e with e | e; omega; unfold fS at e; omega) b hb hr
  refine ⟨k1, hl.touch t, by rw [hn, ← hL], ts, tn, wv, ?_, hT, hN.kept (t.kept (fun e => by rcases e with e | e; omega; unfold fS at e; omega)) (fun i _ => t.kept (fun e => by rcases e with e | e; unfold fN at e; omega; unfold fN fS at e; omega)), hW.kept (t.kept (fun e => by rcases e with e | e; omega; unfold fS at e; omega))⟩
  rw [k2, h1]
  unfold headCells
  rw [hL]
theorem chg_cells_at {w : World} {g cap : Nat} {cs : List Chg} (h : w.ownsRow 0 71 4 (.slice (some ⟨g, 0, none⟩) cs.length cap) cs.length (chgsCells cs)) {i : Nat} {c : Chg} (hi : cs[i]? = some c) :
    w.cell? ⟨g, i * 4, none⟩ = some (.int .i64 ((c.kind : Int) + 1)) ∧ w.cell? ⟨g, i * 4 + 1, none⟩ = some (.int .i64 (c.x : Int)) ∧ w.cell? ⟨g, i * 4 + 2, none⟩ = some (.int .i64 (c.long : Int)) ∧ w.cell? ⟨g, i * 4 + 3, none⟩ = some (.string c.text) := by
  have hlt := (List.getElem?_eq_some_iff.1 hi).1
  have e : ∀ j, j < 4 → w.cell? ⟨g, i * 4 + j, none⟩ = (chgCells c)[j]? := fun j hj => by
    rw [World.ownsRow.cellAt h (i * 4 + j) (by omega)]
    exact chgsCells_at cs i c hi j hj
  exact ⟨e 0 (by omega), e 1 (by omega), e 2 (by omega), e 3 (by omega)⟩
theorem own4_form {w : World} {e : TypeId} {k : Nat} {a : Option Addr} {n cap : Nat} {xs : List Value} (h : w.ownsRow 0 e k (.slice a n cap) n xs) : (a = none ∧ n = 0 ∧ cap = 0) ∨ (∃ g, a = some ⟨g, 0, none⟩ ∧ n ≤ cap ∧ cap ≤ maxLen) := by
  rcases h.2 with ⟨e, hn⟩ | ⟨g, c, cur, e, hB, hg, hn, hc, hs, ht⟩
  · injection e with e1 e2 e3
    exact .inl ⟨e1, hn, e3⟩
  · injection e with e1 e2 e3
    subst e3
    exact .inr ⟨g, e1, hn, hc⟩
/-- Behind some rounds. -/
def Settled (w : World) (ρ : Nat → Nat) (b : Nat) (D : Disk) (N : List ByteArray) (i : Nat) (wr : World) : Prop := ∃ ρ', Raw wr ρ' b { D with sure := madeAll D.sure (D.waits.take i) } N ∧ Touch RS ρ ρ' w wr
theorem settle_end {w wr : World} {ρ : Nat → Nat} {b : Nat} {D : Disk} {N : List ByteArray} {k : Nat} (h : Settled w ρ b D N k wr) :
    ∃ ρ', Raw (wr.setCell ⟨b, 3, none⟩ (.slice none 0 0)) ρ' b { D with sure := madeAll D.sure (D.waits.take k), waits := [] } N ∧ Touch RS ρ ρ' w (wr.setCell ⟨b, 3, none⟩ (.slice none 0 0)) := by
  obtain ⟨ρ', hR, hT⟩ := h
  obtain ⟨ts, tn, wv, h1, hS, hN, hW⟩ := hR.body
  obtain ⟨r1, r2⟩ := raw_put (w2 := wr.setCell ⟨b, 3, none⟩ (.slice none 0 0)) (D' := { D with sure := madeAll D.sure (D.waits.take k), waits := [] }) (N' := N) hR.role hR.lab hR.num h1 rfl rfl hS hN (Waits.nil _ _ _)
  exact ⟨ρ', r1, hT.trans (r2.mono (fun _ e => .inl e))⟩

set_option maxRecDepth 100000 in
set_option maxHeartbeats 1000000 in
theorem settle_none {w : World} {ρ : Nat → Nat} {b : Nat} {D : Disk} {N : List ByteArray} (h : Raw w ρ b D N) (cap : Nat) (a : Option Addr) (hw : ∃ ts tn, w.heap[b]? = some (.cells (headCells D ts tn (.slice a D.waits.length cap)) 63 (0, 0))) (_ : D.waits.length ≤ 1000000000) :
    Calls Tryz.prog 31 #[.pointer (some ⟨b, 0, none⟩), .int .i64 0] w fun e w' => e = .returned (.tuple #[]) ∧ ∃ ρ', Raw w' ρ' b { D with sure := madeAll D.sure (D.waits.take 0), waits := [] } N ∧ Touch RS ρ ρ' w w' := by
  have hs0 : Settled w ρ b D N 0 w := ⟨ρ, by simpa [madeAll] using h, Touch.refl _ _ _⟩
  obtain ⟨ts, tn, h1⟩ := hw
  have q3 := (head_cells h1).2.2.2.1
  have f3 := head_free h1 3
  have H := Lib.hid hs0
  clear h h1 hs0
  go_enter Tryz.func31, Tryz.ntmps31
  go_wp2_with fail
  go_loop [13] (fun c => c = .int .i64 0) (fun _ => 0)
  case atStart => rfl
  case round =>
    subst hrel
    go_wp2_with fail
    go_end0
    exact ⟨rfl, settle_end H.out⟩

set_option maxRecDepth 100000 in
set_option maxHeartbeats 1000000 in
theorem settle_any {w : World} {ρ : Nat → Nat} {b : Nat} {D : Disk} {N : List ByteArray} (h : Raw w ρ b D N) (k : Nat) (hk : k ≤ D.waits.length) (hf : Fits D.sure (D.waits.take k)) (hlen : D.waits.length ≤ 1000000000) (hn : D.sure.length ≤ 64) :
    Calls Tryz.prog 31 #[.pointer (some ⟨b, 0, none⟩), .int .i64 (k : Int)] w fun e w' => e = .returned (.tuple #[]) ∧ ∃ ρ', Raw w' ρ' b { D with sure := madeAll D.sure (D.waits.take k), waits := [] } N ∧ Touch RS ρ ρ' w w' := by
  obtain ⟨ts, tn, wv, h1, hS, hN, a, cap, rfl, ho, hrole⟩ := h.body
  rcases own4_form ho with ⟨rfl, hw0, rfl⟩ | ⟨g, rfl, hcap, hcapm⟩
  · obtain rfl : k = 0 := by omega
    exact settle_none h _ _ ⟨ts, tn, h1⟩ hlen
  · have hs0 : Settled w ρ b D N 0 w := ⟨ρ, by simpa [madeAll] using h, Touch.refl _ _ _⟩
    have q3 := (head_cells h1).2.2.2.1
    have hkc : (k : Int) ≤ cap := by omega
    have hkb : (k : Int) ≤ 1000000000 := by omega
    unfold maxLen at hcapm
    have hcc : (cap : Int) ≤ 9223372036854775807 := by omega
    have hg := hrole g rfl
    have hgl := (ho.lt g rfl).2
    have H := Lib.hid (And.intro ho (And.intro hf (And.intro hg hgl)))
    have H0 := Lib.hid hs0
    clear h h1 hS hN ho hrole hs0 hf hg
    go_enter Tryz.func31, Tryz.ntmps31
    go_wp2_with fail
    clear q3
    go_loopw [5, 13, 15, 16, 17, 18, 19, 20, 21, 22] (fun _ c _ _ _ _ _ _ _ _ wr => ∃ i : Nat, i ≤ k ∧ c = .int .i64 i ∧ Settled w ρ b D N i wr) (fun _ c _ _ _ _ _ _ _ _ _ => k - (intOf c).toNat)
    case atStart => exact ⟨0, by omega, rfl, H0.out⟩
    case round =>
      clear H0
      obtain ⟨i, hi, rfl, hs⟩ := hrel
      by_cases hlt : i < k
      · obtain ⟨ρ', hR, hT⟩ := hs
        obtain ⟨ts, tn, wv, h1, hS, hN, hW⟩ := hR.body
        obtain ⟨c, hc⟩ : ∃ c, D.waits[i]? = some c := ⟨_, List.getElem?_eq_getElem (by omega)⟩
        have hgw : wr.heap[g]? = w.heap[g]? := hT.same g H.out.2.2.2 (by rw [H.out.2.2.1]; exact rs4)
        obtain ⟨c0, c1, c2, c3⟩ := chg_cells_at (ownsRow_same (w' := wr) H.out.1 (fun g' e => by rw [← Option.some.inj e]; exact hgw)) hc
        have HR := Lib.hid (And.intro hR (And.intro hT (And.intro h1 (And.intro hS (And.intro hN (And.intro hW hc))))))
        have hbl := hR.lt
        have qs := (head_cells h1).2.1
        clear hR hT h1 hS hN hW hc hgw
        go_wp2_with fail
        have hA := Below.refl wr.heap.size wr |>.alloc (Nat.le_refl _) (.cells #[.int .i64 ((c.kind : Int) + 1), .int .i64 c.x, .int .i64 c.long, .string c.text] 71)
        have hbox : (wr.alloc (.cells #[.int .i64 ((c.kind : Int) + 1), .int .i64 c.x, .int .i64 c.long, .string c.text] 71)).heap[wr.heap.size]? = some (.cells #[.int .i64 ((c.kind : Int) + 1), .int .i64 c.x, .int .i64 c.long, .string c.text] 71 (0, 0)) := heap_alloc_new _ _
        generalize wr.alloc _ = w1 at *
        have e0 : w1.cell? ⟨wr.heap.size, 0, none⟩ = some (.int .i64 ((c.kind : Int) + 1)) := by rw [cell_of_row _ _ _ _ _ _ hbox]; rfl
        have e1 : w1.cell? ⟨wr.heap.size, 1, none⟩ = some (.int .i64 c.x) := by rw [cell_of_row _ _ _ _ _ _ hbox]; rfl
        have e2 : w1.cell? ⟨wr.heap.size, 2, none⟩ = some (.int .i64 c.long) := by rw [cell_of_row _ _ _ _ _ _ hbox]; rfl
        have e3 : w1.cell? ⟨wr.heap.size, 3, none⟩ = some (.string c.text) := by rw [cell_of_row _ _ _ _ _ _ hbox]; rfl
        have es : w1.cell? ⟨b, 1, none⟩ = some (.slice (some ⟨ts, 0, none⟩) (madeAll D.sure (D.waits.take i)).length (madeAll D.sure (D.waits.take i)).length) := (hA.cell (p := ⟨b, 1, none⟩) hbl).trans qs
        obtain ⟨hR, hT, h1, hS, hN, hW, hc⟩ := HR.out
        have hA1 : Below wr.heap.size wr w1.drew := hA.drew
        have hci : (D.waits.take k)[i]? = some c := by rw [List.getElem?_take_of_lt hlt]; exact hc
        have hmay := H.out.2.1.may hci
        rw [List.take_take, Nat.min_eq_left (by omega)] at hmay
        have hsz := H.out.2.1.upto i
        rw [List.take_take, Nat.min_eq_left (by omega)] at hsz
        have hmk : madeAll D.sure (D.waits.take (i + 1)) = made (madeAll D.sure (D.waits.take i)) c := by rw [List.take_add_one, hc, Option.toList_some, madeAll_snoc]
        have hdo := do_any c _ ts 2 fS ρ' w1.drew (hS.kept (fun g hg e => ⟨e, hA1.block g hg⟩) (fun _ _ g hg e => ⟨e, hA1.block g hg⟩)) hmay hsz (fun h0 => H.out.2.1.text hci h0) (fun j _ => fS_ne j) (fun j hj => fS_inj hj) (by rw [madeAll_length]; exact hn)
        rw [← hmk] at hdo
        have hT1 := hT.trans (Touch.of_below (R := RS) ρ' hA1)
        have hR1 := hR.below hA1
        have HD := Lib.hid (And.intro hdo (And.intro hT1 (And.intro hR1 (And.intro h1 (And.intro hA1 (And.intro hN (And.intro hW hmk)))))))
        clear hA hbox qs hR hT h1 hS hN hW hc hA1 hci hmay hsz hdo hT1 hR1 hmk c0 c1 c2 c3 hbl
        go_still_tail 5, (by kernel_rfl)
        change wpList _ _ _ _ _ w1.drew
        generalize w1.drew = w2 at *
        clear e0 e1 e2 e3 es
        go_wp2_with fail
        refine HD.out.1.mono ?_
        rintro e w3 ⟨rfl, ρ2, hT2, ht2⟩
        have HE := Lib.hid (And.intro hT2 ht2)
        clear hT2 ht2
        go_wp2_with fail
        go_roundw
        case rel =>
          refine ⟨i + 1, by omega, by go_num, ρ2, ?_, ?_⟩
          · obtain ⟨-, -, hR1, h1, hA1, hN, hW, hmk⟩ := HD.out
            exact raw_sure (D := { D with sure := madeAll D.sure (D.waits.take i) }) hR1.lab hR1.role hR1.num ((hA1.block b ((Array.getElem?_eq_some_iff.1 h1).1)).trans h1) HE.out.1 (hN.kept (fun g hg e => ⟨e, hA1.block g hg⟩) (fun _ _ g hg e => ⟨e, hA1.block g hg⟩)) (hW.kept (fun g hg e => ⟨e, hA1.block g hg⟩)) (by rw [madeAll_length, madeAll_length]) HE.out.2
          · exact HD.out.2.1.trans (HE.out.2.mono (fun r e => by rcases e with e | e; exact .inr (.inl e); exact .inr (.inr ⟨_, e⟩)))
        case measure => simp [intOf]; omega
      · obtain rfl : i = k := by omega
        have hs2 := hs
        obtain ⟨ρ', hR, hT⟩ := hs
        obtain ⟨ts, tn, wv, h1, -⟩ := hR.body
        have q3 := (head_cells h1).2.2.2.1
        have f3 := head_free h1 3
        have HS := Lib.hid hs2
        clear hs2 hR hT h1
        go_wp2_with fail
        go_end0
        exact ⟨rfl, settle_end HS.out⟩
end Go.Proofs.YtdmbombjkinboaaGreat
namespace Go.Proofs.YtdmbombjkinboaaGreat
open Go.RowKit
open Dk

theorem Tryz.info_u8 : (Tryz.prog.info? 5).map (fun i => (i.zero, i.size, i.bytes)) = some (some (.int .u8 0), 1, 1) := by kernel_rfl
theorem Tryz.info_row : (Tryz.prog.info? 51).map (fun i => (i.zero, i.size, i.bytes)) = some (some (.slice none 0 0), 1, 24) := by kernel_rfl
theorem Tryz.info_chg : (Tryz.prog.info? 71).map (fun i => (i.zero, i.size, i.bytes)) = some (some (.agg #[.int .i64 0, .int .i64 0, .int .i64 0, .string ⟨#[]⟩]), 4, 40) := by kernel_rfl
theorem own_cells {w : World} {e : TypeId} {k : Nat} {g n cap : Nat} {xs : List Value} (h : w.ownsRow 0 e k (.slice (some ⟨g, 0, none⟩) n cap) n xs) : ∀ j u, xs[j]? = some u → w.cell? ((⟨g, 0, none⟩ : Addr).add j) = some u := h.cells rfl
theorem bcells_one (l : List UInt8) : ∀ u ∈ bcells l, u.oneCell' = true := fun u hu => by
  simp only [bcells, List.mem_map] at hu
  obtain ⟨b, _, rfl⟩ := hu
  rfl
theorem chgs_one (cs : List Chg) : ∀ u ∈ chgsCells cs, u.oneCell' = true := fun u hu => by
  simp only [chgsCells, List.mem_flatMap, chgCells, List.mem_cons, List.not_mem_nil, or_false] at hu
  obtain ⟨c, _, rfl | rfl | rfl | rfl⟩ := hu <;> rfl
/-- A new row: in a block of the call's own. -/
def Fresh (w w' : World) (v : Value) : Prop := ∀ g, v.ownBlock = some g → w.heap.size ≤ g ∧ g < w'.heap.size
set_option maxRecDepth 100000 in
set_option maxHeartbeats 1000000 in
theorem bclone_any {w : World} (s : ByteArray) (a : Option Addr) (cap : Nat) (h : w.ownsRow 0 5 1 (.slice a s.size cap) s.size (bcells s.data.toList)) (hs : s.size ≤ 1000000) :
    Calls Tryz.prog 56 #[.slice a s.size cap] w fun e w' => ∃ a' cap', e = .returned (.slice a' s.size cap') ∧ w'.ownsRow 0 5 1 (.slice a' s.size cap') s.size (bcells s.data.toList) ∧ Fresh w w' (.slice a' s.size cap') ∧ Below w.heap.size w w' := by
  have q := fun (w : World) (a : Option Addr) (n c n' c' : Nat) => Lib.run_eql_slice_nil (P := Tryz.prog) w 51 5 a n c n' c' Tryz.underlying51
  obtain ⟨i0, hi0, hz0, hz1, hz2⟩ := info_parts Tryz.info_u8
  rcases own_form h with ⟨rfl, hn, rfl⟩ | ⟨g, rfl, hcap, hcapm⟩
  · have H := Lib.hid h
    rw [hn]
    rw [hn] at H
    clear h hn
    go_enter Tryz.func56, Tryz.ntmps56
    go_wp2_with fail
    go_ret
    exact ⟨none, 0, rfl, H.out, fun g hg => by simp [Value.ownBlock] at hg, Below.refl _ _⟩
  · have hg := (h.lt g rfl).2
    have hw1 : (w.alloc (.cells #[] 5)).heap[w.heap.size]? = some (.cells #[] 5 (0, 0)) := heap_alloc_new _ _
    have hA : Below w.heap.size w (w.alloc (.cells #[] 5)) := (Below.refl _ _).alloc (Nat.le_refl _) _
    have hz : (w.alloc (.cells #[] 5)).heap.size = w.heap.size + 1 := by simp
    have hown0 : (w.alloc (.cells #[] 5)).ownsRow 0 5 1 (.slice (some ⟨w.heap.size, 0, none⟩) 0 0) 0 [] := ⟨rfl, .inr ⟨w.heap.size, 0, #[], rfl, Nat.zero_le _, hw1, Nat.le_refl _, Nat.zero_le _, rfl, rfl⟩⟩
    have hsrc := Src.ofSlice (P := Tryz.prog) (size := 1) (tx := 51) (w.alloc (.cells #[] 5)) Tryz.underlying51 ⟨g, 0, none⟩ s.size cap (bcells s.data.toList) (by simp [bcells]) (own_cells (ownsRow_same h (fun g' e => by rw [← Option.some.inj e]; exact hA.block g hg))) (bcells_one _)
    have H := Lib.hid (And.intro hown0 (And.intro hsrc (And.intro hA hz)))
    clear h hw1 hA hz hown0 hsrc
    go_enter Tryz.func56, Tryz.ntmps56
    go_wp2_with (at_builtin; (refine wpList_append_src rfl (.tmp 5) (.tmp 6) 51 51 rfl 5 i0 (.int .u8 0) 1 1 Tryz.underlying51 hi0 hz0 hz1 hz2 rfl (.slice (some ⟨w.heap.size, 0, none⟩) 0 0) 0 [] rfl H.out.1 _ s.size _ rfl H.out.2.1 (by omega) (by omega) ?_; intro ad cap2 w2 ho2 hg2 hb2; have H2 := Lib.hid (And.intro ho2 (And.intro hg2 hb2)); clear ho2 hg2 hb2))
    go_ret
    obtain ⟨ho2, hg2, hb2⟩ := H2.out
    have hz := H.out.2.2.2
    have hgs := hg2.size
    rw [Nat.zero_add, List.nil_append] at ho2
    rw [Nat.zero_add] at hb2
    refine ⟨ad, cap2, rfl, ho2, fun g' e => ?_, H.out.2.2.1.grown hg2 (by omega) (fun k hk => ?_)⟩
    · rcases hb2 g' e with h | ⟨h, h2⟩
      · have : w.heap.size = g' := by simpa [Value.ownBlock] using h
        omega
      · omega
    · have : w.heap.size = k := by simpa [Value.ownBlock] using hk
      omega
/-- The first i rows are there, the others are empty. -/
def part (l : List ByteArray) (i : Nat) : List ByteArray := l.take i ++ List.replicate (l.length - i) ⟨#[]⟩
theorem part_length (l : List ByteArray) (i : Nat) (h : i ≤ l.length) : (part l i).length = l.length := by simp [part]; omega
theorem part_all (l : List ByteArray) : part l l.length = l := by simp [part]
theorem part_set (l : List ByteArray) (i : Nat) (h : i < l.length) : (part l i).set i (exAt l i) = part l (i + 1) := by
  unfold part
  rw [List.set_append_right _ _ (by simp; omega), List.length_take, show i - min i l.length = 0 by omega, show l.length - i = (l.length - (i + 1)) + 1 by omega, List.replicate_succ, List.set_cons_zero, List.take_add_one, exAt_lt h, Option.toList_some, List.append_assoc]
  rfl
/-- Behind some rounds. -/
def Copied (w : World) (σ : Nat → Nat) (rt : Nat) (f : Nat → Nat) (t : Nat) (l : List ByteArray) (i : Nat) (wr : World) : Prop := ∃ σ', Tab wr σ' rt f t (part l i) ∧ Touch (fun _ => False) σ σ' w wr
theorem touch_new {R : Nat → Prop} {σ : Nat → Nat} {w w' : World} (g r : Nat) (h : Below w.heap.size w w') (h1 : w.heap.size ≤ g) (h2 : g < w'.heap.size) : Touch R σ (lay σ g r) w w' :=
  ⟨h.os, h.tape, h.output, h.size, fun k hk => lay_other (by omega), fun k hk _ => h.block k hk, fun k hk => lay_other (by omega)⟩
theorem copied_start {w w1 : World} {σ : Nat → Nat} {rt : Nat} {f : Nat → Nat} {l : List ByteArray} (hb : Below w.heap.size w w1) (ho : w1.ownsRow w.heap.size 51 1 (.slice (some ⟨w.heap.size, 0, none⟩) l.length l.length) l.length (madeCells (Value.slice none 0 0).cells (l.length * 1)).toList) :
    Copied w σ rt f w.heap.size l 0 w1 := by
  have hlt := (ho.lt _ rfl).2
  refine ⟨lay σ w.heap.size rt, ⟨lay_same _ _ _, ?_⟩, touch_new _ _ hb (Nat.le_refl _) hlt⟩
  rcases ho.2 with ⟨e, hn⟩ | ⟨g, c, cur, e, hB, hg, hn, hc, hs, ht⟩
  · simp at e
  · injection e with e1 e2 e3
    injection e1 with e1
    injection e1 with e1
    subst e1 e3
    refine ⟨cur, hg, by rw [part_length _ _ (Nat.zero_le _), hs, Nat.mul_one], fun i hi => ?_⟩
    rw [part_length _ _ (Nat.zero_le _)] at hi
    refine ⟨.slice none 0 0, ?_, ?_⟩
    · have hcur : cur.toList = List.replicate l.length (.slice none 0 0) := by
        rw [List.take_of_length_le (by rw [Array.length_toList, hs]; exact Nat.le_refl _)] at ht
        rw [ht, show (Value.slice none 0 0).cells = #[Value.slice none 0 0] from rfl, Nat.mul_one, toList_madeCells_one]
      rw [← Array.getElem?_toList, hcur]
      simp [hi]
    · rw [show exAt (part l 0) i = ⟨#[]⟩ by simp [exAt, part, hi]]
      exact BRow.nil _ _ _
theorem copied_step {w wr w3 w4 : World} {σ : Nat → Nat} {rt : Nat} {f : Nat → Nat} {t : Nat} {l : List ByteArray} {i : Nat} {a : Option Addr} {cap : Nat} (h : Copied w σ rt f t l i wr) (hi : i < l.length) (ht : w.heap.size ≤ t)
    (hb : Below wr.heap.size wr w3) (ho : w3.ownsRow 0 5 1 (.slice a (exAt l i).size cap) (exAt l i).size (bcells (exAt l i).data.toList)) (hf : Fresh wr w3 (.slice a (exAt l i).size cap)) (hfx : ∀ i, i < l.length → f i ≠ rt) (hw : w4 = w3.setCell ⟨t, i, none⟩ (.slice a (exAt l i).size cap)) : Copied w σ rt f t l (i + 1) w4 := by
  subst hw
  obtain ⟨σ', hT, hC⟩ := h
  have hpl := part_length l i (by omega)
  obtain ⟨σ2, r1, r2, r3⟩ : ∃ σ2 : Nat → Nat, (∀ g, g < wr.heap.size → σ2 g = σ' g) ∧ (∀ g, w3.heap.size ≤ g → σ2 g = σ' g) ∧ (∀ g, (Value.slice a (exAt l i).size cap).ownBlock = some g → σ2 g = f i) := by
    cases e : (Value.slice a (exAt l i).size cap).ownBlock with
    | none => exact ⟨σ', fun _ _ => rfl, fun _ _ => rfl, fun g hg => by simp at hg⟩
    | some g0 =>
      obtain ⟨h1, h2⟩ := hf g0 e
      exact ⟨lay σ' g0 (f i), fun g hg => lay_other (by omega), fun g hg => lay_other (by omega), fun g hg => by rw [← Option.some.inj hg]; exact lay_same _ _ _⟩
  have hk : ∀ r, KeptR r σ' σ2 wr w3 := fun r g hg e => ⟨(r1 g hg).trans e, hb.block g hg⟩
  have hS := hT.set (x := i) (by rw [hpl]; exact hi) (hk rt) (fun j _ _ => hk (f j)) rfl ⟨a, cap, rfl, ho, r3⟩ (fun j hj => hfx j (by rw [hpl] at hj; exact hj))
  rw [part_set l i hi] at hS
  have hss : (w3.setCell ⟨t, i, none⟩ (.slice a (exAt l i).size cap)).heap.size = w3.heap.size := by simp [World.setCell]
  have h1 := hC.size
  have h2 := hb.size
  refine ⟨σ2, hS, ⟨hb.os.trans hC.os, hb.tape.trans hC.tape, hb.output.trans hC.output, by rw [hss]; omega, fun g hg => (r1 g (by omega)).trans (hC.old g hg), fun g hg _ => ?_, fun g hg => (r2 g (by rw [hss] at hg; exact hg)).trans (hC.lab g (by rw [hss] at hg; omega))⟩⟩
  rw [heap_setCell_other w3 _ g _ (show g ≠ t by omega), hb.block g (by omega)]
  exact hC.same g hg (fun e => e)

set_option maxRecDepth 100000 in
set_option maxHeartbeats 1000000 in
theorem dcopied_any {w : World} {ρ : Nat → Nat} {rt : Nat} {f : Nat → Nat} {t : Nat} {l : List ByteArray} (h : Tab w ρ rt f t l) (hz : Sz l) (hn : l.length ≤ 64) (σ : Nat → Nat) (rt' : Nat) (f' : Nat → Nat) (hfx : ∀ i, i < l.length → f' i ≠ rt') :
    Calls Tryz.prog 32 #[.slice (some ⟨t, 0, none⟩) l.length l.length] w fun e w' => ∃ t' σ', e = .returned (.slice (some ⟨t', 0, none⟩) l.length l.length) ∧ Tab w' σ' rt' f' t' l ∧ Touch (fun _ => False) σ σ' w w' := by
  obtain ⟨i0, hi0, hz0, hz1, hz2⟩ := info_parts Tryz.info_row
  have hmk := run_makeSlice_full (P := Tryz.prog) w w.heap.size 60 51 i0 (.slice none 0 0) 1 Tryz.underlying60 hi0 hz0 hz1 .i64 .i64 l.length (by omega) (by rw [hz2]; omega) (by unfold maxLen; omega) (Nat.le_refl _)
  obtain ⟨w1, hrun, ho, hg⟩ := hmk
  have hb1 : Below w.heap.size w w1 := (Below.refl _ _).grown hg (Nat.le_refl _) (fun k hk => by cases hk)
  have hst := copied_start (σ := σ) (rt := rt') (f := f') hb1 ho
  obtain ⟨n, hN⟩ : ∃ n, n = l.length := ⟨_, rfl⟩
  obtain ⟨t', ht'⟩ : ∃ t', t' = w.heap.size := ⟨_, rfl⟩
  have H := Lib.hid (And.intro h (And.intro hz (And.intro hN (And.intro hfx (And.intro (show w.heap.size ≤ t' by omega) ht')))))
  have H0 := Lib.hid hst
  rw [← ht'] at hrun H0
  rw [← hN] at hrun hn ⊢
  clear h hz hN hfx ht' hst ho hg hb1 hi0 hz0 hz1 hz2
  have hni : (n : Int) ≤ 64 := by omega
  go_enter Tryz.func32, Tryz.ntmps32
  go_wp2_with fail
  clear hrun
  go_loopw [4, 5, 11, 13, 14, 15] (fun _ _ c _ _ _ wr => ∃ i : Nat, i ≤ n ∧ c = .int .i64 i ∧ Copied w σ rt' f' t' l i wr) (fun _ _ c _ _ _ _ => n - (intOf c).toNat)
  case atStart => exact ⟨0, by omega, rfl, H0.out⟩
  case round =>
    clear H0
    obtain ⟨i, hi, rfl, hc⟩ := hrel
    by_cases hlt : i < n
    · have hil : i < l.length := by have := H.out.2.2.1; omega
      have hsrc : Tab wr ρ rt f t l := by
        obtain ⟨σ', -, hC⟩ := hc
        exact H.out.1.kept (fun g hg e => ⟨e, hC.same g hg (fun e => e)⟩) (fun _ _ g hg e => ⟨e, hC.same g hg (fun e => e)⟩)
      obtain ⟨a, cap, q, ho, -, -⟩ := hsrc.at hil
      have hcl := bclone_any (w := wr) (exAt l i) a cap ho (by have := H.out.2.1.at i; omega)
      have htw : t' < wr.heap.size := by
        obtain ⟨σ', hT, -⟩ := hc
        exact hT.lt
      have qc : ∀ w3, Below wr.heap.size wr w3 → ∃ v, w3.cell? ⟨t', i, none⟩ = some v ∧ w3.frozen? ⟨t', i, none⟩ = false := fun w3 hb => by
        obtain ⟨σ', hT, -⟩ := hc
        obtain ⟨a, cap, q, -, -, fz⟩ := hT.at (x := i) (by rw [part_length _ _ (by omega)]; exact hil)
        exact ⟨_, (hb.cell (p := ⟨t', i, none⟩) htw).trans q, (hb.frozen (p := ⟨t', i, none⟩) htw).trans fz⟩
      have HR := Lib.hid (And.intro hc (And.intro hcl qc))
      clear hc hsrc ho hcl qc
      generalize hs0 : (exAt l i).size = sz at *
      have HS := Lib.hid hs0
      clear hs0
      go_wp2_with fail
      refine HR.out.2.1.mono ?_
      rintro e w3 ⟨a', cap', rfl, ho3, hf3, hb3⟩
      obtain ⟨v3, q3, f3⟩ := HR.out.2.2 w3 hb3
      have H3 := Lib.hid (And.intro ho3 (And.intro hf3 hb3))
      clear ho3 hf3 hb3 q
      go_wp2_with fail
      go_roundw
      case rel =>
        refine ⟨i + 1, by omega, by go_num, ?_⟩
        have ho3 := H3.out.1
        have hf3 := H3.out.2.1
        rw [← HS.out] at ho3 hf3
        exact copied_step (a := a') (cap := cap') HR.out.1 hil H.out.2.2.2.2.1 H3.out.2.2 ho3 hf3 H.out.2.2.2.1 (by rw [HS.out])
      case measure => simp [intOf]; omega
    · obtain rfl : i = n := by omega
      have HR := Lib.hid hc
      clear hc
      go_wp2_with fail
      go_ret
      obtain ⟨σ', hT, hC⟩ := HR.out
      rw [H.out.2.2.1, part_all] at hT
      exact ⟨t', σ', rfl, hT, hC⟩
end Go.Proofs.YtdmbombjkinboaaGreat
namespace Go.Proofs.YtdmbombjkinboaaGreat
open Go.RowKit
open Dk

def maxI (x y : Int) : Int := if y > x then y else x
theorem run_max_I {P : Program} {w : World} (ts : Array TypeId) (t : TypeId) (k k' : IntKind) (x y : Int) : (Builtin.max_ ts t #[.int k x, .int k' y]).run P w = .ok (.int k (maxI x y)) w := run_max_int2 w ts t k k' x y
def minI (x y : Int) : Int := if y < x then y else x
theorem run_min_I {P : Program} {w : World} (ts : Array TypeId) (t : TypeId) (k k' : IntKind) (x y : Int) : (Builtin.min_ ts t #[.int k x, .int k' y]).run P w = .ok (.int k (minI x y)) w := run_min_int2 w ts t k k' x y
theorem min_keep (n : Nat) (keep : Int) : minI (keep.toNat : Int) (n : Int) = (keepOf n keep : Int) := by unfold minI keepOf; split <;> omega
theorem min_torn (torn : Int) (h : 0 < torn) (n : Nat) : minI torn (n : Int) = ((min torn.toNat n : Nat) : Int) := by unfold minI; split <;> omega
attribute [local go_sem high] run_max_I run_min_I

theorem chgsCells_set {cs : List Chg} {k : Nat} {c : Chg} (hc : cs[k]? = some c) (t : ByteArray) : (chgsCells cs).set (k * 4 + 3) (.string t) = chgsCells (cs.set k { c with text := t }) := by
  have hk := (List.getElem?_eq_some_iff.1 hc).1
  apply List.ext_getElem?
  intro j
  by_cases hj : j < cs.length * 4
  · obtain ⟨i, r, rfl, hr⟩ : ∃ i r, j = i * 4 + r ∧ r < 4 := ⟨j / 4, j % 4, by omega, by omega⟩
    have hi : i < cs.length := by omega
    rw [List.getElem?_set]
    by_cases e : i = k
    · subst e
      rw [chgsCells_at (cs.set i { c with text := t }) i { c with text := t } (by rw [List.getElem?_set_self hk]) r hr]
      by_cases e2 : r = 3
      · subst e2
        rw [if_pos rfl, if_pos (by rw [chgsCells_length]; omega)]; rfl
      · rw [if_neg (by omega), chgsCells_at cs i c hc r hr]
        rcases (by omega : r = 0 ∨ r = 1 ∨ r = 2) with rfl | rfl | rfl <;> rfl
    · rw [if_neg (by omega), chgsCells_at _ i cs[i] (List.getElem?_eq_getElem hi) r hr, chgsCells_at _ i cs[i] (by rw [List.getElem?_set_ne (fun e2 => e e2.symm)]; exact List.getElem?_eq_getElem hi) r hr]
  · rw [List.getElem?_eq_none (by rw [List.length_set, chgsCells_length]; omega), List.getElem?_eq_none (by rw [chgsCells_length, List.length_set]; omega)]
/-- A text of those that wait is another. -/
theorem raw_text {w w2 : World} {ρ : Nat → Nat} {b : Nat} {D : Disk} {N : List ByteArray} {ts tn g cap k : Nat} {c : Chg} {t : ByteArray} (hl : Lab ρ w) (hr : ρ b = 1) (hn : N.length = D.sure.length)
    (h1 : w.heap[b]? = some (.cells (headCells D ts tn (.slice (some ⟨g, 0, none⟩) D.waits.length cap)) 63 (0, 0))) (hS : Tab w ρ 2 fS ts D.sure) (hN : Tab w ρ 3 fN tn N)
    (ho : w.ownsRow 0 71 4 (.slice (some ⟨g, 0, none⟩) D.waits.length cap) D.waits.length (chgsCells D.waits)) (hg : ρ g = 4) (hc : D.waits[k]? = some c) (hw : w2 = (w.setCell ⟨g, k * 4 + 3, none⟩ (.string t)).drew) :
    Raw w2 ρ b { D with waits := D.waits.set k { c with text := t } } N ∧ Touch (· = 4) ρ ρ w w2 := by
  subst hw
  have hsz : (w.setCell ⟨g, k * 4 + 3, none⟩ (.string t)).heap.size = w.heap.size := by simp [World.setCell]
  have ht : Touch (· = 4) ρ ρ w (w.setCell ⟨g, k * 4 + 3, none⟩ (.string t)) := ⟨rfl, rfl, rfl, by rw [hsz]; exact Nat.le_refl _, fun _ _ => rfl, fun k hk hne => heap_setCell_other w _ k _ (fun e => hne (by rw [e]; exact hg)), fun _ _ => rfl⟩
  refine ⟨raw_drew ⟨hr, fun g hg => hl g (by rw [hsz] at hg; exact hg), hn, ts, tn, .slice (some ⟨g, 0, none⟩) D.waits.length cap, ?_, hS.kept (ht.kept (by decide)) (fun i _ => ht.kept (by unfold fS; omega)), hN.kept (ht.kept (by decide)) (fun i _ => ht.kept (by unfold fN; omega)), ?_⟩, touch_drew ht⟩
  · exact (heap_setCell_other w _ b _ (fun e => by have : b = g := e; rw [this, hg] at hr; omega)).trans h1
  · refine ⟨some ⟨g, 0, none⟩, cap, by simp, ?_, fun g' e => by rw [← Option.some.inj e]; exact hg⟩
    have := (World.ownsRow.stored ho (k * 4 + 3) (.string t)).1
    rw [chgsCells_set hc] at this
    simp only [List.length_set]
    exact this
theorem kept_no {ws : List Chg} {keep torn : Int} (h : tornOf torn ws[keepOf ws.length keep]? = []) : kept ws keep torn = ws.take (keepOf ws.length keep) := by rw [kept, h, List.append_nil]
theorem kept_yes {ws : List Chg} {keep torn : Int} {c : Chg} (hc : ws[keepOf ws.length keep]? = some c) (h0 : c.kind = 0) (ht : 0 < torn) :
    (ws.set (keepOf ws.length keep) { c with text := c.text.extract 0 (min torn.toNat c.text.size) }).take (keepOf ws.length keep + 1) = kept ws keep torn := by
  have hk := (List.getElem?_eq_some_iff.1 hc).1
  rw [kept, hc, tornOf_yes ⟨h0, ht⟩, List.take_add_one, List.take_set_of_le (Nat.le_refl _), List.getElem?_set_self hk]; rfl
theorem down_raw {w : World} {ρ : Nat → Nat} {b : Nat} {D : Disk} {N : List ByteArray} (h : Raw w ρ b D N) : Calls Tryz.prog 29 #[.pointer (some ⟨b, 0, none⟩)] w fun e w' => e = .returned (.bool D.down) ∧ w = w' := by
  obtain ⟨ts, tn, wv, h1, -⟩ := h.body
  have q := (head_cells h1).2.2.2.2.2.2.1
  clear h h1
  go_enter Tryz.func29, Tryz.ntmps29
  go_wp2_with fail
  go_ret
  exact ⟨rfl, rfl⟩
def RA (r : Nat) : Prop := r ≠ 0
theorem rs_ra {r : Nat} (h : RS r) : RA r := by
  rcases h with h | h | ⟨i, h⟩
  · unfold RA; omega
  · unfold RA; omega
  · unfold RA; unfold fS at h; omega
/-- What stands when the changes are settled, and behind that. -/
theorem fail_end {w w1 w2 w3 w4 : World} {ρ ρ1 : Nat → Nat} {b : Nat} {D : Disk} {N L : List ByteArray} (ht1 : Touch RA ρ ρ1 w w1) {ρ3 : Nat → Nat} {t' : Nat} (hR : Raw w1 ρ1 b { D with sure := L, waits := [] } N) (hL : L.length = D.sure.length) (hd : D.Ok) (hz : Sz L)
    (hT : Tab w2 ρ3 3 fN t' L) (ht : Touch (fun _ => False) ρ1 ρ3 w1 w2) (h3 : w3 = w2.setCell ⟨b, 2, none⟩ (.slice (some ⟨t', 0, none⟩) L.length L.length)) (h4 : w4 = (w3.setCell ⟨b, 5, none⟩ (.int .i64 (D.falls + 1))).setCell ⟨b, 6, none⟩ (.bool true)) :
    ∃ ρ', DiskAt w4 ρ' b { D with sure := L, waits := [], falls := D.falls + 1, down := true } ∧ Touch RA ρ ρ' w w4 := by
  subst h3 h4
  have hR2 := hR.touch ht (fun _ _ e => e)
  obtain ⟨ts, tn, wv, h1, hS, hN, hW⟩ := hR2.body
  obtain ⟨r1, s1⟩ := raw_put (w2 := w2.setCell ⟨b, 2, none⟩ (.slice (some ⟨t', 0, none⟩) L.length L.length)) (D' := { D with sure := L, waits := [] }) (N' := L) hR2.role hR2.lab rfl h1 rfl rfl hS hT hW
  obtain ⟨ts, tn, wv, h1, hS, hN, hW⟩ := r1.body
  obtain ⟨r2, s2⟩ := raw_put (w2 := (w2.setCell ⟨b, 2, none⟩ (.slice (some ⟨t', 0, none⟩) L.length L.length)).setCell ⟨b, 5, none⟩ (.int .i64 (D.falls + 1))) (D' := { D with sure := L, waits := [], falls := D.falls + 1 }) (N' := L) r1.role r1.lab rfl h1 rfl rfl hS hN hW
  obtain ⟨ts, tn, wv, h1, hS, hN, hW⟩ := r2.body
  obtain ⟨r3, s3⟩ := raw_put (w2 := ((w2.setCell ⟨b, 2, none⟩ (.slice (some ⟨t', 0, none⟩) L.length L.length)).setCell ⟨b, 5, none⟩ (.int .i64 (D.falls + 1))).setCell ⟨b, 6, none⟩ (.bool true)) (D' := { D with sure := L, waits := [], falls := D.falls + 1, down := true }) (N' := L) r2.role r2.lab rfl h1 rfl rfl hS hN hW
  refine ⟨ρ3, ⟨r3, ⟨hd.room0, hd.room1, by rw [hL]; exact hd.num, hz⟩⟩, ht1.trans ((ht.mono (fun _ e => e.elim)).trans ((s1.trans (s2.trans s3)).mono (fun r e => by unfold RA; omega)))⟩

set_option maxRecDepth 100000 in
set_option maxHeartbeats 2000000 in
theorem fail_raw {w : World} {ρ : Nat → Nat} {b : Nat} {D : Disk} {N : List ByteArray} (h : Raw w ρ b D N) (hd : D.Ok) (hdn : D.down = false) (hlen : D.waits.length ≤ 1000000000) (hf0 : 0 ≤ D.falls) (hf1 : D.falls ≤ 1000000000000) (keep torn : Int) :
    Calls Tryz.prog 16 #[.pointer (some ⟨b, 0, none⟩), .int .i64 keep, .int .i64 torn] w fun e w' => e = .returned (.tuple #[]) ∧ ∃ ρ', DiskAt w' ρ' b (D.fail keep torn) ∧ Touch RA ρ ρ' w w' := by
  have hfd : D.fail keep torn = { D with sure := madeAll D.sure (kept D.waits keep torn), waits := [], falls := D.falls + 1, down := true } := by unfold Disk.fail; rw [if_neg (by rw [hdn]; decide)]
  rw [hfd]
  have hK := kept_fits hd.fits keep torn
  have hdw := down_raw h
  rw [hdn] at hdw
  obtain ⟨ts, tn, wv, h1, hS, hN, a, cap, rfl, ho, hrole⟩ := h.body
  obtain ⟨q0, q1, q2, q3, q4, q5, q6, q7, q8, q9, q10⟩ := head_cells h1
  obtain ⟨kp, m1, m2⟩ : ∃ kp : Nat, maxI keep 0 = (kp : Int) ∧ minI (kp : Int) (D.waits.length : Int) = (keepOf D.waits.length keep : Int) := ⟨keep.toNat, by unfold maxI; split <;> omega, min_keep _ _⟩
  have hk0 : keepOf D.waits.length keep ≤ D.waits.length := Nat.min_le_right _ _
  obtain ⟨k0, hk⟩ : ∃ k0, k0 = keepOf D.waits.length keep := ⟨_, rfl⟩
  rw [← hk] at m2 hk0
  obtain ⟨n, hn⟩ : ∃ n, n = D.waits.length := ⟨_, rfl⟩
  obtain ⟨L, hL⟩ : ∃ L, L = madeAll D.sure (kept D.waits keep torn) := ⟨_, rfl⟩
  have hLl : L.length = D.sure.length := by rw [hL, madeAll_length]
  have hz : Sz L := by rw [hL]; exact hK.all
  rw [← hL]
  rw [← hn] at q3 m2 hk0
  by_cases hyes : ∃ c, D.waits[k0]? = some c ∧ c.kind = 0 ∧ 0 < torn
  · obtain ⟨c, hc, hc0, ht0⟩ := hyes
    have hlt : k0 < n := by rw [hn]; exact (List.getElem?_eq_some_iff.1 hc).1
    rcases own4_form ho with ⟨rfl, hw0, rfl⟩ | ⟨g, rfl, hcap, hcapm⟩
    · omega
    · obtain ⟨c0, c1, c2, c3⟩ := chg_cells_at ho hc
      have hkd : ((c.kind : Int) + 1 == 1) = true := by rw [hc0]; rfl
      have hgf : w.frozen? ⟨g, k0 * 4 + 3, none⟩ = false := World.ownsRow.frozenAt ho _
      have m3 := min_torn torn ht0 c.text.size
      obtain ⟨tk, htk⟩ : ∃ tk, tk = min torn.toNat c.text.size := ⟨_, rfl⟩
      rw [← htk] at m3
      have htl : (tk : Int) ≤ c.text.size := by omega
      have hcl : c.text.size ≤ 65536 := hd.fits.text hc hc0
      have hset := raw_text (t := c.text.extract 0 tk) h.lab h.role h.num (by rw [← hn]; rw [← hn] at h1; exact h1) hS hN ho (hrole g rfl) hc rfl
      have hkt := kept_yes (by rw [← hk]; exact hc) hc0 ht0
      rw [← hk, ← htk] at hkt
      have hcap' : n ≤ cap := by omega
      have hn9 : n ≤ 1000000000 := by omega
      unfold maxLen at hcapm
      have H := Lib.hid (And.intro hset (And.intro hkt (And.intro hL (And.intro hLl (And.intro hz (And.intro hK (And.intro hdw (And.intro hn hd))))))))
      clear h h1 hS hN ho hrole hset hkt hL hLl hz hK hdw hn hk hc hfd hlen htk hc0 hdn hd
      go_enter Tryz.func16, Tryz.ntmps16
      go_wp2_with fail
      refine H.out.2.2.2.2.2.2.1.mono ?_
      rintro e w' ⟨rfl, rfl⟩
      go_wp2_with fail
      go_region
      have hs1 := H.out.1
      have hsa := settle_any hs1.1 (k0 + 1) (by simp only [List.length_set]; have := H.out.2.2.2.2.2.2.2.1; omega) (by rw [H.out.2.1]; exact H.out.2.2.2.2.2.1) (by simp only [List.length_set]; have := H.out.2.2.2.2.2.2.2.1; omega) H.out.2.2.2.2.2.2.2.2.num
      have ht1 := hs1.2.mono (R' := RA) (fun r e => by unfold RA; omega)
      rw [show ((k0 + 1 : Nat) : Int) = (k0 : Int) + 1 from rfl, H.out.2.1, ← H.out.2.2.1] at hsa
      generalize World.drew _ = w1 at *
      have HW := Lib.hid (And.intro hsa ht1)
      clear hs1 hsa ht1 q0 q1 q2 q3 q4 q5 q6 q7 q8 q9 q10 c0 c1 c2 c3 hgf m1 m2 m3
      go_wp2_with fail
      refine HW.out.1.mono ?_
      rintro e w2 ⟨rfl, ρ2, hR2, hT2⟩
      obtain ⟨ts2, tn2, wv2, h2, hS2, hN2, hW2⟩ := hR2.body
      have hcp := dcopied_any hS2 H.out.2.2.2.2.1 (by rw [H.out.2.2.2.1]; exact H.out.2.2.2.2.2.2.2.2.num) ρ2 3 fN (fun i _ => fN_ne i)
      have d1 := (head_cells h2).2.1
      have HT := Lib.hid (And.intro hcp (And.intro hR2 (And.intro hT2 h2)))
      clear hcp hR2 hT2 h2 hS2 hN2 hW2
      go_wp2_with fail
      refine HT.out.1.mono ?_
      rintro e w3 ⟨t', ρ3, rfl, hT3, ht3⟩
      have h3 := (ht3.same b HT.out.2.1.lt (fun e => e)).trans HT.out.2.2.2
      have d2 := (head_cells h3).2.2.1
      have d5 := (head_cells h3).2.2.2.2.2.1
      have d6 := (head_cells h3).2.2.2.2.2.2.1
      have f2 := head_free h3 2
      have f5 := head_free h3 5
      have f6 := head_free h3 6
      have HU := Lib.hid (And.intro hT3 ht3)
      clear hT3 ht3 h3
      go_wp2_with fail
      go_end0
      refine ⟨rfl, ?_⟩
      exact fail_end (HW.out.2.trans (HT.out.2.2.1.mono (fun r e => rs_ra e))) HT.out.2.1 H.out.2.2.2.1 H.out.2.2.2.2.2.2.2.2 H.out.2.2.2.2.1 HU.out.1 HU.out.2 rfl rfl
  · have hno : tornOf torn D.waits[k0]? = [] := by
      cases hc : D.waits[k0]? with
      | none => rfl
      | some c => exact tornOf_no (fun e => hyes ⟨c, hc, e.1, e.2⟩)
    have hkt : kept D.waits keep torn = D.waits.take k0 := by rw [hk]; exact kept_no (by rw [← hk]; exact hno)
    have hsa := settle_any h k0 (by omega) (by rw [← hkt]; exact hK) hlen hd.num
    rw [← hkt, ← hL] at hsa
    have ht1 : Touch RA ρ ρ w w := Touch.refl _ _ _
    have HW := Lib.hid (And.intro hsa ht1)
    rcases own4_form ho with ⟨rfl, hw0, rfl⟩ | ⟨g, rfl, hcap, hcapm⟩
    · have hk00 : ¬ k0 < n := by omega
      have H := Lib.hid (And.intro hyes (And.intro hL (And.intro hLl (And.intro hz (And.intro hK (And.intro hdw (And.intro hn hd)))))))
      have hn9 : n ≤ 1000000000 := by omega
      clear h h1 hS hN ho hrole hyes hL hLl hz hK hdw hn hk hfd hlen hdn hd hno hkt hsa ht1
      go_enter Tryz.func16, Tryz.ntmps16
      go_wp2_with fail
      refine H.out.2.2.2.2.2.1.mono ?_
      rintro e w' ⟨rfl, rfl⟩
      go_wp2_with fail
      clear q0 q1 q2 q3 q4 q5 q6 q7 q8 q9 q10 m1 m2
      refine HW.out.1.mono ?_
      rintro e w2 ⟨rfl, ρ2, hR2, hT2⟩
      obtain ⟨ts2, tn2, wv2, h2, hS2, hN2, hW2⟩ := hR2.body
      have hcp := dcopied_any hS2 H.out.2.2.2.1 (by rw [H.out.2.2.1]; exact H.out.2.2.2.2.2.2.2.num) ρ2 3 fN (fun i _ => fN_ne i)
      have d1 := (head_cells h2).2.1
      have HT := Lib.hid (And.intro hcp (And.intro hR2 (And.intro hT2 h2)))
      clear hcp hR2 hT2 h2 hS2 hN2 hW2
      go_wp2_with fail
      refine HT.out.1.mono ?_
      rintro e w3 ⟨t', ρ3, rfl, hT3, ht3⟩
      have h3 := (ht3.same b HT.out.2.1.lt (fun e => e)).trans HT.out.2.2.2
      have d2 := (head_cells h3).2.2.1
      have d5 := (head_cells h3).2.2.2.2.2.1
      have d6 := (head_cells h3).2.2.2.2.2.2.1
      have f2 := head_free h3 2
      have f5 := head_free h3 5
      have f6 := head_free h3 6
      have HU := Lib.hid (And.intro hT3 ht3)
      clear hT3 ht3 h3
      go_wp2_with fail
      go_end0
      refine ⟨rfl, ?_⟩
      exact fail_end (HW.out.2.trans (HT.out.2.2.1.mono (fun r e => rs_ra e))) HT.out.2.1 H.out.2.2.1 H.out.2.2.2.2.2.2.2 H.out.2.2.2.1 HU.out.1 HU.out.2 rfl rfl
    · by_cases hlt : k0 < n
      · obtain ⟨c, hc⟩ : ∃ c, D.waits[k0]? = some c := ⟨_, List.getElem?_eq_getElem (by omega)⟩
        obtain ⟨c0, c1, c2, c3⟩ := chg_cells_at ho hc
        have hn9 : n ≤ 1000000000 := by omega
        have hcap' : n ≤ cap := by omega
        unfold maxLen at hcapm
        by_cases hc0 : c.kind = 0
        · have hkd : ((c.kind : Int) + 1 == 1) = true := by rw [hc0]; rfl
          have ht0 : ¬ 0 < torn := fun e => hyes ⟨c, hc, hc0, e⟩
          have ht0' : decide (0 < torn) = false := by simpa using ht0
          have H := Lib.hid (And.intro hyes (And.intro hL (And.intro hLl (And.intro hz (And.intro hK (And.intro hdw (And.intro hn hd)))))))
          clear h h1 hS hN ho hrole hyes hL hLl hz hK hdw hn hk hfd hlen hdn hd hno hkt hsa ht1 hc hc0
          go_enter Tryz.func16, Tryz.ntmps16
          go_wp2_with fail
          refine H.out.2.2.2.2.2.1.mono ?_
          rintro e w' ⟨rfl, rfl⟩
          go_wp2_with fail
          clear q0 q1 q2 q3 q4 q5 q6 q7 q8 q9 q10 m1 m2 c0 c1 c2 c3
          refine HW.out.1.mono ?_
          rintro e w2 ⟨rfl, ρ2, hR2, hT2⟩
          obtain ⟨ts2, tn2, wv2, h2, hS2, hN2, hW2⟩ := hR2.body
          have hcp := dcopied_any hS2 H.out.2.2.2.1 (by rw [H.out.2.2.1]; exact H.out.2.2.2.2.2.2.2.num) ρ2 3 fN (fun i _ => fN_ne i)
          have d1 := (head_cells h2).2.1
          have HT := Lib.hid (And.intro hcp (And.intro hR2 (And.intro hT2 h2)))
          clear hcp hR2 hT2 h2 hS2 hN2 hW2
          go_wp2_with fail
          refine HT.out.1.mono ?_
          rintro e w3 ⟨t', ρ3, rfl, hT3, ht3⟩
          have h3 := (ht3.same b HT.out.2.1.lt (fun e => e)).trans HT.out.2.2.2
          have d2 := (head_cells h3).2.2.1
          have d5 := (head_cells h3).2.2.2.2.2.1
          have d6 := (head_cells h3).2.2.2.2.2.2.1
          have f2 := head_free h3 2
          have f5 := head_free h3 5
          have f6 := head_free h3 6
          have HU := Lib.hid (And.intro hT3 ht3)
          clear hT3 ht3 h3
          go_wp2_with fail
          go_end0
          refine ⟨rfl, ?_⟩
          exact fail_end (HW.out.2.trans (HT.out.2.2.1.mono (fun r e => rs_ra e))) HT.out.2.1 H.out.2.2.1 H.out.2.2.2.2.2.2.2 H.out.2.2.2.1 HU.out.1 HU.out.2 rfl rfl
        · have hkd : ((c.kind : Int) + 1 == 1) = false := by rw [beq_eq_false_iff_ne]; omega
          have H := Lib.hid (And.intro hyes (And.intro hL (And.intro hLl (And.intro hz (And.intro hK (And.intro hdw (And.intro hn hd)))))))
          clear h h1 hS hN ho hrole hyes hL hLl hz hK hdw hn hk hfd hlen hdn hd hno hkt hsa ht1 hc hc0
          go_enter Tryz.func16, Tryz.ntmps16
          go_wp2_with fail
          refine H.out.2.2.2.2.2.1.mono ?_
          rintro e w' ⟨rfl, rfl⟩
          go_wp2_with fail
          clear q0 q1 q2 q3 q4 q5 q6 q7 q8 q9 q10 m1 m2 c0 c1 c2 c3
          refine HW.out.1.mono ?_
          rintro e w2 ⟨rfl, ρ2, hR2, hT2⟩
          obtain ⟨ts2, tn2, wv2, h2, hS2, hN2, hW2⟩ := hR2.body
          have hcp := dcopied_any hS2 H.out.2.2.2.1 (by rw [H.out.2.2.1]; exact H.out.2.2.2.2.2.2.2.num) ρ2 3 fN (fun i _ => fN_ne i)
          have d1 := (head_cells h2).2.1
          have HT := Lib.hid (And.intro hcp (And.intro hR2 (And.intro hT2 h2)))
          clear hcp hR2 hT2 h2 hS2 hN2 hW2
          go_wp2_with fail
          refine HT.out.1.mono ?_
          rintro e w3 ⟨t', ρ3, rfl, hT3, ht3⟩
          have h3 := (ht3.same b HT.out.2.1.lt (fun e => e)).trans HT.out.2.2.2
          have d2 := (head_cells h3).2.2.1
          have d5 := (head_cells h3).2.2.2.2.2.1
          have d6 := (head_cells h3).2.2.2.2.2.2.1
          have f2 := head_free h3 2
          have f5 := head_free h3 5
          have f6 := head_free h3 6
          have HU := Lib.hid (And.intro hT3 ht3)
          clear hT3 ht3 h3
          go_wp2_with fail
          go_end0
          refine ⟨rfl, ?_⟩
          exact fail_end (HW.out.2.trans (HT.out.2.2.1.mono (fun r e => rs_ra e))) HT.out.2.1 H.out.2.2.1 H.out.2.2.2.2.2.2.2 H.out.2.2.2.1 HU.out.1 HU.out.2 rfl rfl
      · have H := Lib.hid (And.intro hyes (And.intro hL (And.intro hLl (And.intro hz (And.intro hK (And.intro hdw (And.intro hn hd)))))))
        have hn9 : n ≤ 1000000000 := by omega
        clear h h1 hS hN ho hrole hyes hL hLl hz hK hdw hn hk hfd hlen hdn hd hno hkt hsa ht1
        go_enter Tryz.func16, Tryz.ntmps16
        go_wp2_with fail
        refine H.out.2.2.2.2.2.1.mono ?_
        rintro e w' ⟨rfl, rfl⟩
        go_wp2_with fail
        clear q0 q1 q2 q3 q4 q5 q6 q7 q8 q9 q10 m1 m2
        refine HW.out.1.mono ?_
        rintro e w2 ⟨rfl, ρ2, hR2, hT2⟩
        obtain ⟨ts2, tn2, wv2, h2, hS2, hN2, hW2⟩ := hR2.body
        have hcp := dcopied_any hS2 H.out.2.2.2.1 (by rw [H.out.2.2.1]; exact H.out.2.2.2.2.2.2.2.num) ρ2 3 fN (fun i _ => fN_ne i)
        have d1 := (head_cells h2).2.1
        have HT := Lib.hid (And.intro hcp (And.intro hR2 (And.intro hT2 h2)))
        clear hcp hR2 hT2 h2 hS2 hN2 hW2
        go_wp2_with fail
        refine HT.out.1.mono ?_
        rintro e w3 ⟨t', ρ3, rfl, hT3, ht3⟩
        have h3 := (ht3.same b HT.out.2.1.lt (fun e => e)).trans HT.out.2.2.2
        have d2 := (head_cells h3).2.2.1
        have d5 := (head_cells h3).2.2.2.2.2.1
        have d6 := (head_cells h3).2.2.2.2.2.2.1
        have f2 := head_free h3 2
        have f5 := head_free h3 5
        have f6 := head_free h3 6
        have HU := Lib.hid (And.intro hT3 ht3)
        clear hT3 ht3 h3
        go_wp2_with fail
        go_end0
        refine ⟨rfl, ?_⟩
        exact fail_end (HW.out.2.trans (HT.out.2.2.1.mono (fun r e => rs_ra e))) HT.out.2.1 H.out.2.2.1 H.out.2.2.2.2.2.2.2 H.out.2.2.2.1 HU.out.1 HU.out.2 rfl rfl
end Go.Proofs.YtdmbombjkinboaaGreat
