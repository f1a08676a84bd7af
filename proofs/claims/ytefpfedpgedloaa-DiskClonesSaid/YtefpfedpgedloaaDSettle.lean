/- disk: settle: the first changes that wait are made for good. -/
import Derived.Test.YtefpfedpgedloaaDHead
import Derived.StillTailTactics
namespace Go.Proofs.Ytefpfedpgedloaa
open Go.RowKit
open Dk

/-- The head, and the rows that stand for good. -/
def RS (r : Nat) : Prop := r = 1 ∨ r = 2 ∨ ∃ i, r = fS i
theorem rs4 : ¬ RS 4 := fun h => by
  rcases h with h | h | ⟨i, h⟩
  · omega
  · omega
  · unfold fS at h; omega
theorem fS_ne (i : Nat) : fS i ≠ 2 := by unfold fS; omega
theorem fS_inj {i k : Nat} (h : i ≠ k) : fS i ≠ fS k := by unfold fS; omega
theorem fN_ne (i : Nat) : fN i ≠ 3 := by unfold fN; omega
theorem fN_inj {i k : Nat} (h : i ≠ k) : fN i ≠ fN k := by unfold fN; omega
/-- A change of the rows that stand for good. -/
theorem raw_sure {w w' : World} {ρ ρ' : Nat → Nat} {b : Nat} {D : Disk} {N L : List ByteArray} {ts tn : Nat} {wv : Value} {x : Nat} (hl : Lab ρ w) (hr : ρ b = 1) (hn : N.length = D.sure.length)
    (h1 : w.heap[b]? = some (.cells (headCells D ts tn wv) 62 (0, 0))) (hT : Tab w' ρ' 2 fS ts L) (hN : Tab w ρ 3 fN tn N) (hW : Waits w ρ 4 wv D.waits) (hL : L.length = D.sure.length)
    (t : Touch (fun r => r = 2 ∨ r = fS x) ρ ρ' w w') : Raw w' ρ' b { D with sure := L } N := by
  have hb := (Array.getElem?_eq_some_iff.1 h1).1
  obtain ⟨k1, k2⟩ := t.kept (r := 1) (fun e => by rcases e with e | e; omega; unfold fS at e; omega) b hb hr
  refine ⟨k1, hl.touch t, by rw [hn, ← hL], ts, tn, wv, ?_, hT, hN.kept (t.kept (fun e => by rcases e with e | e; omega; unfold fS at e; omega)) (fun i _ => t.kept (fun e => by rcases e with e | e; unfold fN at e; omega; unfold fN fS at e; omega)), hW.kept (t.kept (fun e => by rcases e with e | e; omega; unfold fS at e; omega))⟩
  rw [k2, h1]
  unfold headCells
  rw [hL]
theorem chg_cells_at {w : World} {g cap : Nat} {cs : List Chg} (h : w.ownsRow 0 74 4 (.slice (some ⟨g, 0, none⟩) cs.length cap) cs.length (chgsCells cs)) {i : Nat} {c : Chg} (hi : cs[i]? = some c) :
    w.cell? ⟨g, i * 4, none⟩ = some (.int .i64 ((c.kind : Int) + 1)) ∧ w.cell? ⟨g, i * 4 + 1, none⟩ = some (.int .i64 (c.x : Int)) ∧ w.cell? ⟨g, i * 4 + 2, none⟩ = some (.int .i64 (c.long : Int)) ∧ w.cell? ⟨g, i * 4 + 3, none⟩ = some (.string c.text) := by
  have hlt := (List.getElem?_eq_some_iff.1 hi).1
  have e : ∀ j, j < 4 → w.cell? ⟨g, i * 4 + j, none⟩ = (chgCells c)[j]? := fun j hj => by
    rw [World.ownsRow.cellAt h (i * 4 + j) (by omega)]
    exact chgsCells_at cs i c hi j hj
  exact ⟨e 0 (by omega), e 1 (by omega), e 2 (by omega), e 3 (by omega)⟩
theorem own4_form {w : World} {e : TypeId} {k : Nat} {a : Option Addr} {n cap : Nat} {xs : List Value} (h : w.ownsRow 0 e k (.slice a n cap) n xs) : (a = none ∧ n = 0 ∧ cap = 0) ∨ (∃ g, a = some ⟨g, 0, none⟩ ∧ n ≤ cap ∧ cap ≤ maxLen) := by
  rcases h.2 with ⟨e, hn⟩ | ⟨g, c, cur, e, hB, hg, hn, hc, hs, ht⟩
  · injection e with e1 e2 e3
    exact .inl ⟨e1, hn, e3⟩
  · injection e with e1 e2 e3
    subst e3
    exact .inr ⟨g, e1, hn, hc⟩
/-- Behind some rounds. -/
def Settled (w : World) (ρ : Nat → Nat) (b : Nat) (D : Disk) (N : List ByteArray) (i : Nat) (wr : World) : Prop := ∃ ρ', Raw wr ρ' b { D with sure := madeAll D.sure (D.waits.take i) } N ∧ Touch RS ρ ρ' w wr
theorem settle_end {w wr : World} {ρ : Nat → Nat} {b : Nat} {D : Disk} {N : List ByteArray} {k : Nat} (h : Settled w ρ b D N k wr) :
    ∃ ρ', Raw (wr.setCell ⟨b, 3, none⟩ (.slice none 0 0)) ρ' b { D with sure := madeAll D.sure (D.waits.take k), waits := [] } N ∧ Touch RS ρ ρ' w (wr.setCell ⟨b, 3, none⟩ (.slice none 0 0)) := by
  obtain ⟨ρ', hR, hT⟩ := h
  obtain ⟨ts, tn, wv, h1, hS, hN, hW⟩ := hR.body
  obtain ⟨r1, r2⟩ := raw_put (w2 := wr.setCell ⟨b, 3, none⟩ (.slice none 0 0)) (D' := { D with sure := madeAll D.sure (D.waits.take k), waits := [] }) (N' := N) hR.role hR.lab hR.num h1 rfl rfl hS hN (Waits.nil _ _ _)
  exact ⟨ρ', r1, hT.trans (r2.mono (fun _ e => .inl e))⟩

set_option maxRecDepth 100000 in
set_option maxHeartbeats 1000000 in
theorem settle_none {w : World} {ρ : Nat → Nat} {b : Nat} {D : Disk} {N : List ByteArray} (h : Raw w ρ b D N) (cap : Nat) (a : Option Addr) (hw : ∃ ts tn, w.heap[b]? = some (.cells (headCells D ts tn (.slice a D.waits.length cap)) 62 (0, 0))) (_ : D.waits.length ≤ 1000000000) :
    Calls Try.prog 38 #[.pointer (some ⟨b, 0, none⟩), .int .i64 0] w fun e w' => e = .returned (.tuple #[]) ∧ ∃ ρ', Raw w' ρ' b { D with sure := madeAll D.sure (D.waits.take 0), waits := [] } N ∧ Touch RS ρ ρ' w w' := by
  have hs0 : Settled w ρ b D N 0 w := ⟨ρ, by simpa [madeAll] using h, Touch.refl _ _ _⟩
  obtain ⟨ts, tn, h1⟩ := hw
  have q3 := (head_cells h1).2.2.2.1
  have f3 := head_free h1 3
  have H := Lib.hid hs0
  clear h h1 hs0
  go_enter Try.func38, Try.ntmps38
  go_wp2_with fail
  go_loop [13] (fun c => c = .int .i64 0) (fun _ => 0)
  case atStart => rfl
  case round =>
    subst hrel
    go_wp2_with fail
    go_end0
    exact ⟨rfl, settle_end H.out⟩

set_option maxRecDepth 100000 in
set_option maxHeartbeats 1000000 in
theorem settle_any {w : World} {ρ : Nat → Nat} {b : Nat} {D : Disk} {N : List ByteArray} (h : Raw w ρ b D N) (k : Nat) (hk : k ≤ D.waits.length) (hf : Fits D.sure (D.waits.take k)) (hlen : D.waits.length ≤ 1000000000) (hn : D.sure.length ≤ 64) :
    Calls Try.prog 38 #[.pointer (some ⟨b, 0, none⟩), .int .i64 (k : Int)] w fun e w' => e = .returned (.tuple #[]) ∧ ∃ ρ', Raw w' ρ' b { D with sure := madeAll D.sure (D.waits.take k), waits := [] } N ∧ Touch RS ρ ρ' w w' := by
  obtain ⟨ts, tn, wv, h1, hS, hN, a, cap, rfl, ho, hrole⟩ := h.body
  rcases own4_form ho with ⟨rfl, hw0, rfl⟩ | ⟨g, rfl, hcap, hcapm⟩
  · obtain rfl : k = 0 := by omega
    exact settle_none h _ _ ⟨ts, tn, h1⟩ hlen
  · have hs0 : Settled w ρ b D N 0 w := ⟨ρ, by simpa [madeAll] using h, Touch.refl _ _ _⟩
    have q3 := (head_cells h1).2.2.2.1
    have hkc : (k : Int) ≤ cap := by omega
    have hkb : (k : Int) ≤ 1000000000 := by omega
    unfold maxLen at hcapm
    have hcc : (cap : Int) ≤ 9223372036854775807 := by omega
    have hg := hrole g rfl
    have hgl := (ho.lt g rfl).2
    have H := Lib.hid (And.intro ho (And.intro hf (And.intro hg hgl)))
    have H0 := Lib.hid hs0
    clear h h1 hS hN ho hrole hs0 hf hg
    go_enter Try.func38, Try.ntmps38
    go_wp2_with fail
    clear q3
    go_loopw [5, 13, 15, 16, 17, 18, 19, 20, 21, 22] (fun _ c _ _ _ _ _ _ _ _ wr => ∃ i : Nat, i ≤ k ∧ c = .int .i64 i ∧ Settled w ρ b D N i wr) (fun _ c _ _ _ _ _ _ _ _ _ => k - (intOf c).toNat)
    case atStart => exact ⟨0, by omega, rfl, H0.out⟩
    case round =>
      clear H0
      obtain ⟨i, hi, rfl, hs⟩ := hrel
      by_cases hlt : i < k
      · obtain ⟨ρ', hR, hT⟩ := hs
        obtain ⟨ts, tn, wv, h1, hS, hN, hW⟩ := hR.body
        obtain ⟨c, hc⟩ : ∃ c, D.waits[i]? = some c := ⟨_, List.getElem?_eq_getElem (by omega)⟩
        have hgw : wr.heap[g]? = w.heap[g]? := hT.same g H.out.2.2.2 (by rw [H.out.2.2.1]; exact rs4)
        obtain ⟨c0, c1, c2, c3⟩ := chg_cells_at (ownsRow_same (w' := wr) H.out.1 (fun g' e => by rw [← Option.some.inj e]; exact hgw)) hc
        have HR := Lib.hid (And.intro hR (And.intro hT (And.intro h1 (And.intro hS (And.intro hN (And.intro hW hc))))))
        have hbl := hR.lt
        have qs := (head_cells h1).2.1
        clear hR hT h1 hS hN hW hc hgw
        go_wp2_with fail
        have hA := Below.refl wr.heap.size wr |>.alloc (Nat.le_refl _) (.cells #[.int .i64 ((c.kind : Int) + 1), .int .i64 c.x, .int .i64 c.long, .string c.text] 74)
        have hbox : (wr.alloc (.cells #[.int .i64 ((c.kind : Int) + 1), .int .i64 c.x, .int .i64 c.long, .string c.text] 74)).heap[wr.heap.size]? = some (.cells #[.int .i64 ((c.kind : Int) + 1), .int .i64 c.x, .int .i64 c.long, .string c.text] 74 (0, 0)) := heap_alloc_new _ _
        generalize wr.alloc _ = w1 at *
        have e0 : w1.cell? ⟨wr.heap.size, 0, none⟩ = some (.int .i64 ((c.kind : Int) + 1)) := by rw [cell_of_row _ _ _ _ _ _ hbox]; rfl
        have e1 : w1.cell? ⟨wr.heap.size, 1, none⟩ = some (.int .i64 c.x) := by rw [cell_of_row _ _ _ _ _ _ hbox]; rfl
        have e2 : w1.cell? ⟨wr.heap.size, 2, none⟩ = some (.int .i64 c.long) := by rw [cell_of_row _ _ _ _ _ _ hbox]; rfl
        have e3 : w1.cell? ⟨wr.heap.size, 3, none⟩ = some (.string c.text) := by rw [cell_of_row _ _ _ _ _ _ hbox]; rfl
        have es : w1.cell? ⟨b, 1, none⟩ = some (.slice (some ⟨ts, 0, none⟩) (madeAll D.sure (D.waits.take i)).length (madeAll D.sure (D.waits.take i)).length) := (hA.cell (p := ⟨b, 1, none⟩) hbl).trans qs
        obtain ⟨hR, hT, h1, hS, hN, hW, hc⟩ := HR.out
        have hA1 : Below wr.heap.size wr w1.drew := hA.drew
        have hci : (D.waits.take k)[i]? = some c := by rw [List.getElem?_take_of_lt hlt]; exact hc
        have hmay := H.out.2.1.may hci
        rw [List.take_take, Nat.min_eq_left (by omega)] at hmay
        have hsz := H.out.2.1.upto i
        rw [List.take_take, Nat.min_eq_left (by omega)] at hsz
        have hmk : madeAll D.sure (D.waits.take (i + 1)) = made (madeAll D.sure (D.waits.take i)) c := by rw [List.take_add_one, hc, Option.toList_some, madeAll_snoc]
        have hdo := do_any c _ ts 2 fS ρ' w1.drew (hS.kept (fun g hg e => ⟨e, hA1.block g hg⟩) (fun _ _ g hg e => ⟨e, hA1.block g hg⟩)) hmay hsz (fun h0 => H.out.2.1.text hci h0) (fun j _ => fS_ne j) (fun j hj => fS_inj hj) (by rw [madeAll_length]; exact hn)
        rw [← hmk] at hdo
        have hT1 := hT.trans (Touch.of_below (R := RS) ρ' hA1)
        have hR1 := hR.below hA1
        have HD := Lib.hid (And.intro hdo (And.intro hT1 (And.intro hR1 (And.intro h1 (And.intro hA1 (And.intro hN (And.intro hW hmk)))))))
        clear hA hbox qs hR hT h1 hS hN hW hc hA1 hci hmay hsz hdo hT1 hR1 hmk c0 c1 c2 c3 hbl
        go_still_tail 5, (by kernel_rfl)
        change wpList _ _ _ _ _ w1.drew
        generalize w1.drew = w2 at *
        clear e0 e1 e2 e3 es
        go_wp2_with fail
        refine HD.out.1.mono ?_
        rintro e w3 ⟨rfl, ρ2, hT2, ht2⟩
        have HE := Lib.hid (And.intro hT2 ht2)
        clear hT2 ht2
        go_wp2_with fail
        go_roundw
        case rel =>
          refine ⟨i + 1, by omega, by go_num, ρ2, ?_, ?_⟩
          · obtain ⟨-, -, hR1, h1, hA1, hN, hW, hmk⟩ := HD.out
            exact raw_sure (D := { D with sure := madeAll D.sure (D.waits.take i) }) hR1.lab hR1.role hR1.num ((hA1.block b ((Array.getElem?_eq_some_iff.1 h1).1)).trans h1) HE.out.1 (hN.kept (fun g hg e => ⟨e, hA1.block g hg⟩) (fun _ _ g hg e => ⟨e, hA1.block g hg⟩)) (hW.kept (fun g hg e => ⟨e, hA1.block g hg⟩)) (by rw [madeAll_length, madeAll_length]) HE.out.2
          · exact HD.out.2.1.trans (HE.out.2.mono (fun r e => by rcases e with e | e; exact .inr (.inl e); exact .inr (.inr ⟨_, e⟩)))
        case measure => simp [intOf]; omega
      · obtain rfl : i = k := by omega
        have hs2 := hs
        obtain ⟨ρ', hR, hT⟩ := hs
        obtain ⟨ts, tn, wv, h1, -⟩ := hR.body
        have q3 := (head_cells h1).2.2.2.1
        have f3 := head_free h1 3
        have HS := Lib.hid hs2
        clear hs2 hR hT h1
        go_wp2_with fail
        go_end0
        exact ⟨rfl, settle_end HS.out⟩
end Go.Proofs.Ytefpfedpgedloaa
