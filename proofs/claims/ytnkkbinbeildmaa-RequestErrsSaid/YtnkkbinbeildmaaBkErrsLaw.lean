/- PROVED HERE: for every list of acts, every act and every time the law RequestErrs returns true (a book that answers an error is as it was; a clone goes its own way; both are as the document says). No condition. -/
import Derived.Test.YtnkkbinbeildmaaBkU
import Derived.Test.YtnkkbinbeildmaaPyOpen
import Derived.Test.YtnkkbinbeildmaaRows
import Derived.ProofKit
import Derived.OpenShut
namespace Go.Proofs.Ytnkkbinbeildmaa
open Go.RowKit
theorem few_sizes {a : Bk.Act} (h : fewA a = true) : a.q.who.size ≤ 100 ∧ a.q.reason.size ≤ 300 ∧ a.who.size ≤ 100 := by
  simp only [fewA, fewQ, Bool.and_eq_true, decide_eq_true_eq] at h
  omega
theorem may_sizes {q : Py.Q} (h : Py.mayB q = true) : q.who.size ≤ 24 ∧ q.reason.size ≤ 120 := by
  simp only [Py.mayB, Py.nameB, Py.inB, Bool.and_eq_true, decide_eq_true_eq] at h
  omega
set_option maxRecDepth 100000 in
set_option maxHeartbeats 16000000 in
theorem berrs_law {w : World} (l : List Bk.Act) (a0 : Option Addr) (cap : Nat) (hT : RecsAt 9 acCs w a0 l) (hO : ∀ x ∈ l, x.Ok) (hm : l.length ≤ maxLen) (x : Bk.Act) (hx : x.Ok) (now : Int) (_ : -9223372036854775808 ≤ now) (_ : now ≤ 9223372036854775807) :
    Calls Try.prog 8 #[.slice a0 l.length cap, .agg (acCs x), .int .i64 now] w fun e w' => e = .returned (.bool true) ∧ Below w.heap.size w w' := by
  unfold maxLen at hm
  obtain ⟨w1, hw1⟩ : ∃ w1, w1 = w.alloc (.cells (acCs x) 57) := ⟨_, rfl⟩
  obtain ⟨gx, hgx⟩ : ∃ gx, gx = w.heap.size := ⟨_, rfl⟩
  have hbx := box_below hw1
  have a1 : w1.heap[gx]? = some (.cells (acCs x) 57 (0, 0)) := by rw [hw1, hgx]; exact heap_alloc_new _ _
  have hgxl := blt_of_heap a1
  obtain ⟨n, hn⟩ : ∃ n, n = l.length := ⟨_, rfl⟩
  rw [← hn] at hm ⊢
  obtain ⟨nb, hnb⟩ : ∃ nb, nb = w1.heap.size := ⟨_, rfl⟩
  have hnew := bnew_any w1
  rw [← hnb] at hnew
  have hsz : ∀ W, Below nb w1 W → nb ≤ W.heap.size := fun W h => Nat.le_trans (Nat.le_of_eq hnb) h.size
  have hin : ∀ W, Below nb w1 W → RecsAt 9 acCs W a0 l := fun W h => (hT.below hbx).below (by rw [← hnb]; exact h)
  have hbox : ∀ W, Below nb w1 W → W.heap[gx]? = some (.cells (acCs x) 57 (0, 0)) := fun W h => (h.block gx (by omega)).trans a1
  have hfin : ∀ W, Below nb w1 W → Below w.heap.size w W := fun W h => hbx.trans (by rw [hnb] at h; exact h.mono hbx.size)
  have hfx := fun W => few21_any x hx W
  unfold acVal at hfx
  have HN := Lib.hid (And.intro hnew (And.intro hfin (And.intro hfx (And.intro hO hn))))
  have HS := Lib.hid (And.intro hsz (And.intro hin hbox))
  clear hnew hnb hT hO hn hfin hsz hin hbox hbx hgxl a1 hfx
  unfold acCs at hw1 ⊢
  go_enter Try.func8, Try.ntmps8
  go_upto_region 1 with fail
  rw [← hw1, ← hgx]
  clear hw1 hgx
  go_wp2_with fail
  refine HN.out.1.mono ?_
  rintro e w2 ⟨rfl, hbk2, hb2, -⟩
  have HB2 := Lib.hid (And.intro hbk2 hb2)
  clear hbk2 hb2
  have X := HS.out.2.2 w2 (HB2.out.2)
  have d0 : w2.cell? ⟨gx, 0, none⟩ = some (.int .i64 x.kind) := by rw [cell_of_row _ _ _ _ _ _ X]; rfl
  have d1 : w2.cell? ⟨gx, 1, none⟩ = some (.int .i64 x.id) := by rw [cell_of_row _ _ _ _ _ _ X]; rfl
  have d2 : w2.cell? ⟨gx, 2, none⟩ = some (.int .i64 x.now) := by rw [cell_of_row _ _ _ _ _ _ X]; rfl
  have d3 : w2.cell? ⟨gx, 3, none⟩ = some (.int .i64 x.q.id) := by rw [cell_of_row _ _ _ _ _ _ X]; rfl
  have d4 : w2.cell? ⟨gx, 4, none⟩ = some (.string x.q.who) := by rw [cell_of_row _ _ _ _ _ _ X]; rfl
  have d5 : w2.cell? ⟨gx, 5, none⟩ = some (.int .i64 x.q.entry) := by rw [cell_of_row _ _ _ _ _ _ X]; rfl
  have d6 : w2.cell? ⟨gx, 6, none⟩ = some (.string x.q.reason) := by rw [cell_of_row _ _ _ _ _ _ X]; rfl
  have d7 : w2.cell? ⟨gx, 7, none⟩ = some (.int .i64 x.q.exp) := by rw [cell_of_row _ _ _ _ _ _ X]; rfl
  have d8 : w2.cell? ⟨gx, 8, none⟩ = some (.string x.who) := by rw [cell_of_row _ _ _ _ _ _ X]; rfl
  clear X
  cases hf : fewA x with
  | false =>
    rw [hf] at HN
    go_wp2_with fail
    refine (HN.out.2.2.1 _).mono ?_
    rintro e w3 ⟨rfl, hb3⟩
    have H3 := Lib.hid (HB2.out.2.trans (hb3.mono (HS.out.1 _ HB2.out.2)))
    clear hb3
    go_wp2_with fail
    refine (awake21_any _).mono ?_
    rintro e w4 ⟨rfl, hb4⟩
    have H4 := Lib.hid (H3.out.trans (hb4.mono (HS.out.1 _ H3.out)))
    clear hb4 d0 d1 d2 d3 d4 d5 d6 d7 d8
    have X := HS.out.2.2 w4 (H4.out)
    have d0 : w4.cell? ⟨gx, 0, none⟩ = some (.int .i64 x.kind) := by rw [cell_of_row _ _ _ _ _ _ X]; rfl
    have d1 : w4.cell? ⟨gx, 1, none⟩ = some (.int .i64 x.id) := by rw [cell_of_row _ _ _ _ _ _ X]; rfl
    have d2 : w4.cell? ⟨gx, 2, none⟩ = some (.int .i64 x.now) := by rw [cell_of_row _ _ _ _ _ _ X]; rfl
    have d3 : w4.cell? ⟨gx, 3, none⟩ = some (.int .i64 x.q.id) := by rw [cell_of_row _ _ _ _ _ _ X]; rfl
    have d4 : w4.cell? ⟨gx, 4, none⟩ = some (.string x.q.who) := by rw [cell_of_row _ _ _ _ _ _ X]; rfl
    have d5 : w4.cell? ⟨gx, 5, none⟩ = some (.int .i64 x.q.entry) := by rw [cell_of_row _ _ _ _ _ _ X]; rfl
    have d6 : w4.cell? ⟨gx, 6, none⟩ = some (.string x.q.reason) := by rw [cell_of_row _ _ _ _ _ _ X]; rfl
    have d7 : w4.cell? ⟨gx, 7, none⟩ = some (.int .i64 x.q.exp) := by rw [cell_of_row _ _ _ _ _ _ X]; rfl
    have d8 : w4.cell? ⟨gx, 8, none⟩ = some (.string x.who) := by rw [cell_of_row _ _ _ _ _ _ X]; rfl
    clear X
    go_wp2_with fail
    refine (HN.out.2.2.1 _).mono ?_
    rintro e w5 ⟨rfl, hb5⟩
    have H5 := Lib.hid (H4.out.trans (hb5.mono (HS.out.1 _ H4.out)))
    clear hb5
    go_wp2_with fail
    go_ret
    exact ⟨rfl, HN.out.2.1 _ H5.out⟩
  | true =>
    have hxs := few_sizes hf
    have HXS := Lib.hid hxs
    rw [hf] at HN
    clear hf hxs
    go_wp2_with fail
    refine (HN.out.2.2.1 _).mono ?_
    rintro e w3 ⟨rfl, hb3⟩
    have H3 := Lib.hid (And.intro (HB2.out.1.below hb3) (HB2.out.2.trans (hb3.mono (HS.out.1 _ HB2.out.2))))
    clear hb3
    go_wp2_with fail
    refine (awake21_any _).mono ?_
    rintro e w4 ⟨rfl, hb4⟩
    have HB4 := Lib.hid (And.intro (H3.out.1.below hb4) (H3.out.2.trans (hb4.mono (HS.out.1 _ H3.out.2))))
    clear hb4 d0 d1 d2 d3 d4 d5 d6 d7 d8
    go_wp2_with fail
    go_loopw [8, 9, 10, 11] (fun v8 v9 _ _ wr => ∃ (i : Nat) (R : Option Nat) (lst : List En) (ar : Option Addr) (cr : Nat), i ≤ n ∧ v9 = .int .i64 (i : Int) ∧ v8 = .slice ar lst.length cr ∧ BkAt nb wr nb R lst ∧ Bk.Good lst ∧ RecsAt 6 enCs wr ar lst ∧ Apart nb R ar wr ∧ Below nb w1 wr) (fun _ v9 _ _ _ => n - (intOf v9).toNat)
    case atStart => exact ⟨0, none, [], none, 0, by omega, rfl, rfl, HB4.out.1, Bk.Good.nil, RecsAt.nil _ _ _ _, Apart.nil _ _ _, HB4.out.2⟩
    case round =>
      obtain ⟨i, R, lst, ar, cr, hi, rfl, rfl, hbk, hgd, hrl, hap, hb⟩ := hrel
      have HR0 := Lib.hid (And.intro hbk (And.intro hgd (And.intro hrl (And.intro hap hb))))
      clear hbk hgd hrl hap hb
      by_cases hlt : i < n
      rotate_left
      · have hii : i = i := rfl
        clear hii
        have hcl := HR0.out.1.clone (by have := HR0.out.2.1.few; omega) (fun y hy => by have := may_sizes (HR0.out.2.1.may y hy); omega)
        have HC := Lib.hid hcl
        clear hcl
        go_wp2_with fail
        refine HC.out.mono ?_
        rintro e w5 ⟨gc, Rc, rfl, hcl5, hb5⟩
        have hb5n := HR0.out.2.2.2.2.trans (hb5.mono (HS.out.1 _ HR0.out.2.2.2.2))
        have hdo := do21_any hcl5 HR0.out.2.1.st HR0.out.2.1.few x (by have := HXS.out; omega) (by have := HXS.out; omega) (hb5.size)
        unfold acVal at hdo
        have H5 := Lib.hid (And.intro hcl5 (And.intro hb5 (And.intro hdo hb5n)))
        clear hcl5 hb5 hb5n hdo
        have X := HS.out.2.2 w5 (H5.out.2.2.2)
        have d0 : w5.cell? ⟨gx, 0, none⟩ = some (.int .i64 x.kind) := by rw [cell_of_row _ _ _ _ _ _ X]; rfl
        have d1 : w5.cell? ⟨gx, 1, none⟩ = some (.int .i64 x.id) := by rw [cell_of_row _ _ _ _ _ _ X]; rfl
        have d2 : w5.cell? ⟨gx, 2, none⟩ = some (.int .i64 x.now) := by rw [cell_of_row _ _ _ _ _ _ X]; rfl
        have d3 : w5.cell? ⟨gx, 3, none⟩ = some (.int .i64 x.q.id) := by rw [cell_of_row _ _ _ _ _ _ X]; rfl
        have d4 : w5.cell? ⟨gx, 4, none⟩ = some (.string x.q.who) := by rw [cell_of_row _ _ _ _ _ _ X]; rfl
        have d5 : w5.cell? ⟨gx, 5, none⟩ = some (.int .i64 x.q.entry) := by rw [cell_of_row _ _ _ _ _ _ X]; rfl
        have d6 : w5.cell? ⟨gx, 6, none⟩ = some (.string x.q.reason) := by rw [cell_of_row _ _ _ _ _ _ X]; rfl
        have d7 : w5.cell? ⟨gx, 7, none⟩ = some (.int .i64 x.q.exp) := by rw [cell_of_row _ _ _ _ _ _ X]; rfl
        have d8 : w5.cell? ⟨gx, 8, none⟩ = some (.string x.who) := by rw [cell_of_row _ _ _ _ _ _ X]; rfl
        clear X
        go_wp2_with fail
        refine H5.out.2.2.1.mono ?_
        rintro e w6 ⟨v6, R6, rfl, hE6, hcl6, hk6, hR6⟩
        have hlt := HR0.out.1.lt
        have hgc := H5.out.1.1
        have hnbw := HS.out.1 _ HR0.out.2.2.2.2
        have hrc := H5.out.1.row
        have hrb := HR0.out.1.row
        have hb6 := hk6.below (B := nb) H5.out.2.2.2 (HS.out.1 _ H5.out.2.2.2) (by omega) (fun g hg => by have := (hrc g hg).1; omega)
        have hbk6 := (HR0.out.1.below H5.out.2.1).kept hk6 (by omega) (fun e => by have := (hrc nb e).1; omega) (fun e => by have := (hrb gc e).2.1; omega) (by
          cases R with
          | none => exact .inl rfl
          | some g => exact .inr fun e => by have := (hrb g rfl).2.1; have := (hrc g e.symm).1; omega)
        have hrl6 := (HR0.out.2.2.1.below H5.out.2.1).kept (fun g o hg => by have := (HR0.out.2.2.2.1 g o hg).1; exact ⟨by omega, fun e => by have := (hrc g e).1; omega⟩) hk6
        have hgd6 := HR0.out.2.1.behind (nk_kind x)
        have hdc := doI_code lst (nk x)
        have hdn := fun h => doI_none (l := lst) (a := nk x) h
        have hsame := same21_any hbk6 HR0.out.2.1 ar cr hrl6 x.who now
        have hsameC := fun (W : World) (hb : Below w6.heap.size w6 W) (h : Bk.after lst (nk x) = lst) => same21_any (l := lst) (by rw [← h]; exact hcl6.below hb) HR0.out.2.1 ar cr (hrl6.below hb) x.who now
        have hrd := fun (W : World) (hb : Below w6.heap.size w6 W) => rdo21_any lst ar cr x (by have := HXS.out; unfold maxLen; omega) (by have := HXS.out; unfold maxLen; omega) W (hrl6.below hb) (by have := HR0.out.2.1.few; omega) (fun x hx => (HR0.out.2.1.st x hx).1)
        have hbase := fun (W : World) (hb : Below w6.heap.size w6 W) => hb6.trans (hb.mono (HS.out.1 _ hb6))
        obtain ⟨D, hD⟩ : ∃ D, D = (Bk.doI lst (nk x)).2 := ⟨_, rfl⟩
        rw [← hD] at hE6 hdc hdn
        have H6 := Lib.hid (And.intro hsame (And.intro hsameC (And.intro hrd (And.intro hbase (And.intro hgd6 (And.intro hcl6 (And.intro hdn (And.intro hdc (And.intro hE6 hD)))))))))
        clear hsame hsameC hrd hbase hgd6 hcl6 hdn hdc hk6 hR6 hlt hgc hnbw hrc hrb hbk6 hrl6 d0 d1 d2 d3 d4 d5 d6 d7 d8
        have hb6i := hb6
        have X := HS.out.2.2 w6 (hb6i)
        have d0 : w6.cell? ⟨gx, 0, none⟩ = some (.int .i64 x.kind) := by rw [cell_of_row _ _ _ _ _ _ X]; rfl
        have d1 : w6.cell? ⟨gx, 1, none⟩ = some (.int .i64 x.id) := by rw [cell_of_row _ _ _ _ _ _ X]; rfl
        have d2 : w6.cell? ⟨gx, 2, none⟩ = some (.int .i64 x.now) := by rw [cell_of_row _ _ _ _ _ _ X]; rfl
        have d3 : w6.cell? ⟨gx, 3, none⟩ = some (.int .i64 x.q.id) := by rw [cell_of_row _ _ _ _ _ _ X]; rfl
        have d4 : w6.cell? ⟨gx, 4, none⟩ = some (.string x.q.who) := by rw [cell_of_row _ _ _ _ _ _ X]; rfl
        have d5 : w6.cell? ⟨gx, 5, none⟩ = some (.int .i64 x.q.entry) := by rw [cell_of_row _ _ _ _ _ _ X]; rfl
        have d6 : w6.cell? ⟨gx, 6, none⟩ = some (.string x.q.reason) := by rw [cell_of_row _ _ _ _ _ _ X]; rfl
        have d7 : w6.cell? ⟨gx, 7, none⟩ = some (.int .i64 x.q.exp) := by rw [cell_of_row _ _ _ _ _ _ X]; rfl
        have d8 : w6.cell? ⟨gx, 8, none⟩ = some (.string x.who) := by rw [cell_of_row _ _ _ _ _ _ X]; rfl
        clear X
        clear hb6 hb6i
        rcases hE6 with ⟨hD0, rfl⟩ | ⟨hD0, fb, op, m, rfl, hfa⟩
        · clear hD
          go_wp2_with fail
          refine H6.out.1.mono ?_
          rintro e w7 ⟨rfl, hb7⟩
          have H7 := Lib.hid hb7
          clear hb7 d0 d1 d2 d3 d4 d5 d6 d7 d8
          have X := HS.out.2.2 w7 (H6.out.2.2.2.1 _ H7.out)
          have d0 : w7.cell? ⟨gx, 0, none⟩ = some (.int .i64 x.kind) := by rw [cell_of_row _ _ _ _ _ _ X]; rfl
          have d1 : w7.cell? ⟨gx, 1, none⟩ = some (.int .i64 x.id) := by rw [cell_of_row _ _ _ _ _ _ X]; rfl
          have d2 : w7.cell? ⟨gx, 2, none⟩ = some (.int .i64 x.now) := by rw [cell_of_row _ _ _ _ _ _ X]; rfl
          have d3 : w7.cell? ⟨gx, 3, none⟩ = some (.int .i64 x.q.id) := by rw [cell_of_row _ _ _ _ _ _ X]; rfl
          have d4 : w7.cell? ⟨gx, 4, none⟩ = some (.string x.q.who) := by rw [cell_of_row _ _ _ _ _ _ X]; rfl
          have d5 : w7.cell? ⟨gx, 5, none⟩ = some (.int .i64 x.q.entry) := by rw [cell_of_row _ _ _ _ _ _ X]; rfl
          have d6 : w7.cell? ⟨gx, 6, none⟩ = some (.string x.q.reason) := by rw [cell_of_row _ _ _ _ _ _ X]; rfl
          have d7 : w7.cell? ⟨gx, 7, none⟩ = some (.int .i64 x.q.exp) := by rw [cell_of_row _ _ _ _ _ _ X]; rfl
          have d8 : w7.cell? ⟨gx, 8, none⟩ = some (.string x.who) := by rw [cell_of_row _ _ _ _ _ _ X]; rfl
          clear X
          go_wp2_with fail
          have hlr := fun W => lref21_any x W
          unfold acVal at hlr
          refine (hlr _).mono ?_
          clear hlr
          rintro e w9 ⟨rfl, hb9⟩
          have H9 := Lib.hid (H7.out.trans (hb9.mono H7.out.size))
          clear hb9 d0 d1 d2 d3 d4 d5 d6 d7 d8
          go_wp2_with fail
          refine (H6.out.2.2.1 _ H9.out).mono ?_
          rintro e w10 ⟨ar', cr', rfl, hrl10, hb10, -⟩
          have hb10w := H9.out.trans (hb10.mono H9.out.size)
          have hsm := fun (W : World) (hb : Below w10.heap.size w10 W) => same21_any (l := Bk.after lst (nk x)) (H6.out.2.2.2.2.2.1.below (hb10w.trans (hb.mono hb10w.size))) H6.out.2.2.2.2.1 ar' cr' (hrl10.below hb) x.who now
          rw [← H6.out.2.2.2.2.2.2.2.2.2]
          have hlen : ((Bk.doI lst (nk x)).1.getD lst).length = (Bk.after lst (nk x)).length := rfl
          rw [hlen]
          have H10 := Lib.hid (And.intro hb10w hsm)
          clear hb10 hb10w hsm hrl10 hlen
          have X := HS.out.2.2 w10 (H6.out.2.2.2.1 _ H10.out.1)
          have d8 : w10.cell? ⟨gx, 8, none⟩ = some (.string x.who) := by rw [cell_of_row _ _ _ _ _ _ X]; rfl
          clear X
          go_wp2_with fail
          refine (H10.out.2 _ (Below.refl _ _)).mono ?_
          rintro e w11 ⟨rfl, hb11⟩
          have H11 := Lib.hid (H10.out.1.trans (hb11.mono H10.out.1.size))
          clear hb11 d8
          go_wp2_with fail
          refine (code_nil _).mono ?_
          rintro e w12 ⟨rfl, hww⟩
          cases hww
          subst hD0
          go_wp2_with fail
          go_ret
          exact ⟨rfl, HN.out.2.1 _ (H6.out.2.2.2.1 _ H11.out)⟩
        · have hcode := code_fault hfa (by have := H6.out.2.2.2.2.2.2.2.1; omega) H6.out.2.2.2.2.2.2.2.1.2
          have hsame2 := fun W (hb : Below w6.heap.size w6 W) => H6.out.2.1 W hb (H6.out.2.2.2.2.2.2.1 hD0)
          have hcodeW := fun W (hb : Below w6.heap.size w6 W) => code_fault (hfa.below hb) (by have := H6.out.2.2.2.2.2.2.2.1; omega) H6.out.2.2.2.2.2.2.2.1.2
          have HQ := Lib.hid (And.intro hsame2 hcodeW)
          clear hcode hsame2 hcodeW hfa hD hD0
          go_wp2_with fail
          refine H6.out.1.mono ?_
          rintro e w7 ⟨rfl, hb7⟩
          have H7 := Lib.hid hb7
          clear hb7 d0 d1 d2 d3 d4 d5 d6 d7 d8
          have X := HS.out.2.2 w7 (H6.out.2.2.2.1 _ H7.out)
          have d0 : w7.cell? ⟨gx, 0, none⟩ = some (.int .i64 x.kind) := by rw [cell_of_row _ _ _ _ _ _ X]; rfl
          have d1 : w7.cell? ⟨gx, 1, none⟩ = some (.int .i64 x.id) := by rw [cell_of_row _ _ _ _ _ _ X]; rfl
          have d2 : w7.cell? ⟨gx, 2, none⟩ = some (.int .i64 x.now) := by rw [cell_of_row _ _ _ _ _ _ X]; rfl
          have d3 : w7.cell? ⟨gx, 3, none⟩ = some (.int .i64 x.q.id) := by rw [cell_of_row _ _ _ _ _ _ X]; rfl
          have d4 : w7.cell? ⟨gx, 4, none⟩ = some (.string x.q.who) := by rw [cell_of_row _ _ _ _ _ _ X]; rfl
          have d5 : w7.cell? ⟨gx, 5, none⟩ = some (.int .i64 x.q.entry) := by rw [cell_of_row _ _ _ _ _ _ X]; rfl
          have d6 : w7.cell? ⟨gx, 6, none⟩ = some (.string x.q.reason) := by rw [cell_of_row _ _ _ _ _ _ X]; rfl
          have d7 : w7.cell? ⟨gx, 7, none⟩ = some (.int .i64 x.q.exp) := by rw [cell_of_row _ _ _ _ _ _ X]; rfl
          have d8 : w7.cell? ⟨gx, 8, none⟩ = some (.string x.who) := by rw [cell_of_row _ _ _ _ _ _ X]; rfl
          clear X
          go_wp2_with fail
          refine (HQ.out.1 _ H7.out).mono ?_
          rintro e w8 ⟨rfl, hb8⟩
          have H8 := Lib.hid (H7.out.trans (hb8.mono H7.out.size))
          clear hb8 d0 d1 d2 d3 d4 d5 d6 d7 d8
          have X := HS.out.2.2 w8 (H6.out.2.2.2.1 _ H8.out)
          have d0 : w8.cell? ⟨gx, 0, none⟩ = some (.int .i64 x.kind) := by rw [cell_of_row _ _ _ _ _ _ X]; rfl
          have d1 : w8.cell? ⟨gx, 1, none⟩ = some (.int .i64 x.id) := by rw [cell_of_row _ _ _ _ _ _ X]; rfl
          have d2 : w8.cell? ⟨gx, 2, none⟩ = some (.int .i64 x.now) := by rw [cell_of_row _ _ _ _ _ _ X]; rfl
          have d3 : w8.cell? ⟨gx, 3, none⟩ = some (.int .i64 x.q.id) := by rw [cell_of_row _ _ _ _ _ _ X]; rfl
          have d4 : w8.cell? ⟨gx, 4, none⟩ = some (.string x.q.who) := by rw [cell_of_row _ _ _ _ _ _ X]; rfl
          have d5 : w8.cell? ⟨gx, 5, none⟩ = some (.int .i64 x.q.entry) := by rw [cell_of_row _ _ _ _ _ _ X]; rfl
          have d6 : w8.cell? ⟨gx, 6, none⟩ = some (.string x.q.reason) := by rw [cell_of_row _ _ _ _ _ _ X]; rfl
          have d7 : w8.cell? ⟨gx, 7, none⟩ = some (.int .i64 x.q.exp) := by rw [cell_of_row _ _ _ _ _ _ X]; rfl
          have d8 : w8.cell? ⟨gx, 8, none⟩ = some (.string x.who) := by rw [cell_of_row _ _ _ _ _ _ X]; rfl
          clear X
          go_wp2_with fail
          have hlr := fun W => lref21_any x W
          unfold acVal at hlr
          refine (hlr _).mono ?_
          clear hlr
          rintro e w9 ⟨rfl, hb9⟩
          have H9 := Lib.hid (H8.out.trans (hb9.mono H8.out.size))
          clear hb9 d0 d1 d2 d3 d4 d5 d6 d7 d8
          go_wp2_with fail
          refine (H6.out.2.2.1 _ H9.out).mono ?_
          rintro e w10 ⟨ar', cr', rfl, hrl10, hb10, -⟩
          have hb10w := H9.out.trans (hb10.mono H9.out.size)
          have hsm := fun (W : World) (hb : Below w10.heap.size w10 W) => same21_any (l := Bk.after lst (nk x)) (H6.out.2.2.2.2.2.1.below (hb10w.trans (hb.mono hb10w.size))) H6.out.2.2.2.2.1 ar' cr' (hrl10.below hb) x.who now
          rw [← H6.out.2.2.2.2.2.2.2.2.2]
          have hlen : ((Bk.doI lst (nk x)).1.getD lst).length = (Bk.after lst (nk x)).length := rfl
          rw [hlen]
          have H10 := Lib.hid (And.intro hb10w hsm)
          clear hb10 hb10w hsm hrl10 hlen
          have X := HS.out.2.2 w10 (H6.out.2.2.2.1 _ H10.out.1)
          have d8 : w10.cell? ⟨gx, 8, none⟩ = some (.string x.who) := by rw [cell_of_row _ _ _ _ _ _ X]; rfl
          clear X
          go_wp2_with fail
          refine (H10.out.2 _ (Below.refl _ _)).mono ?_
          rintro e w11 ⟨rfl, hb11⟩
          have H11 := Lib.hid (H10.out.1.trans (hb11.mono H10.out.1.size))
          clear hb11 d8
          go_wp2_with fail
          refine (HQ.out.2 _ H11.out).mono ?_
          rintro e w12 ⟨rfl, hww⟩
          cases hww
          have hdd : (D == D) = true := by simp
          go_wp2_with fail
          go_ret
          exact ⟨rfl, HN.out.2.1 _ (H6.out.2.2.2.1 _ H11.out)⟩
      by_cases h50 : i < 50
      rotate_left
      · have hii : i = i := rfl
        clear hii
        have hcl := HR0.out.1.clone (by have := HR0.out.2.1.few; omega) (fun y hy => by have := may_sizes (HR0.out.2.1.may y hy); omega)
        have HC := Lib.hid hcl
        clear hcl
        go_wp2_with fail
        refine HC.out.mono ?_
        rintro e w5 ⟨gc, Rc, rfl, hcl5, hb5⟩
        have hb5n := HR0.out.2.2.2.2.trans (hb5.mono (HS.out.1 _ HR0.out.2.2.2.2))
        have hdo := do21_any hcl5 HR0.out.2.1.st HR0.out.2.1.few x (by have := HXS.out; omega) (by have := HXS.out; omega) (hb5.size)
        unfold acVal at hdo
        have H5 := Lib.hid (And.intro hcl5 (And.intro hb5 (And.intro hdo hb5n)))
        clear hcl5 hb5 hb5n hdo
        have X := HS.out.2.2 w5 (H5.out.2.2.2)
        have d0 : w5.cell? ⟨gx, 0, none⟩ = some (.int .i64 x.kind) := by rw [cell_of_row _ _ _ _ _ _ X]; rfl
        have d1 : w5.cell? ⟨gx, 1, none⟩ = some (.int .i64 x.id) := by rw [cell_of_row _ _ _ _ _ _ X]; rfl
        have d2 : w5.cell? ⟨gx, 2, none⟩ = some (.int .i64 x.now) := by rw [cell_of_row _ _ _ _ _ _ X]; rfl
        have d3 : w5.cell? ⟨gx, 3, none⟩ = some (.int .i64 x.q.id) := by rw [cell_of_row _ _ _ _ _ _ X]; rfl
        have d4 : w5.cell? ⟨gx, 4, none⟩ = some (.string x.q.who) := by rw [cell_of_row _ _ _ _ _ _ X]; rfl
        have d5 : w5.cell? ⟨gx, 5, none⟩ = some (.int .i64 x.q.entry) := by rw [cell_of_row _ _ _ _ _ _ X]; rfl
        have d6 : w5.cell? ⟨gx, 6, none⟩ = some (.string x.q.reason) := by rw [cell_of_row _ _ _ _ _ _ X]; rfl
        have d7 : w5.cell? ⟨gx, 7, none⟩ = some (.int .i64 x.q.exp) := by rw [cell_of_row _ _ _ _ _ _ X]; rfl
        have d8 : w5.cell? ⟨gx, 8, none⟩ = some (.string x.who) := by rw [cell_of_row _ _ _ _ _ _ X]; rfl
        clear X
        go_wp2_with fail
        refine H5.out.2.2.1.mono ?_
        rintro e w6 ⟨v6, R6, rfl, hE6, hcl6, hk6, hR6⟩
        have hlt := HR0.out.1.lt
        have hgc := H5.out.1.1
        have hnbw := HS.out.1 _ HR0.out.2.2.2.2
        have hrc := H5.out.1.row
        have hrb := HR0.out.1.row
        have hb6 := hk6.below (B := nb) H5.out.2.2.2 (HS.out.1 _ H5.out.2.2.2) (by omega) (fun g hg => by have := (hrc g hg).1; omega)
        have hbk6 := (HR0.out.1.below H5.out.2.1).kept hk6 (by omega) (fun e => by have := (hrc nb e).1; omega) (fun e => by have := (hrb gc e).2.1; omega) (by
          cases R with
          | none => exact .inl rfl
          | some g => exact .inr fun e => by have := (hrb g rfl).2.1; have := (hrc g e.symm).1; omega)
        have hrl6 := (HR0.out.2.2.1.below H5.out.2.1).kept (fun g o hg => by have := (HR0.out.2.2.2.1 g o hg).1; exact ⟨by omega, fun e => by have := (hrc g e).1; omega⟩) hk6
        have hgd6 := HR0.out.2.1.behind (nk_kind x)
        have hdc := doI_code lst (nk x)
        have hdn := fun h => doI_none (l := lst) (a := nk x) h
        have hsame := same21_any hbk6 HR0.out.2.1 ar cr hrl6 x.who now
        have hsameC := fun (W : World) (hb : Below w6.heap.size w6 W) (h : Bk.after lst (nk x) = lst) => same21_any (l := lst) (by rw [← h]; exact hcl6.below hb) HR0.out.2.1 ar cr (hrl6.below hb) x.who now
        have hrd := fun (W : World) (hb : Below w6.heap.size w6 W) => rdo21_any lst ar cr x (by have := HXS.out; unfold maxLen; omega) (by have := HXS.out; unfold maxLen; omega) W (hrl6.below hb) (by have := HR0.out.2.1.few; omega) (fun x hx => (HR0.out.2.1.st x hx).1)
        have hbase := fun (W : World) (hb : Below w6.heap.size w6 W) => hb6.trans (hb.mono (HS.out.1 _ hb6))
        obtain ⟨D, hD⟩ : ∃ D, D = (Bk.doI lst (nk x)).2 := ⟨_, rfl⟩
        rw [← hD] at hE6 hdc hdn
        have H6 := Lib.hid (And.intro hsame (And.intro hsameC (And.intro hrd (And.intro hbase (And.intro hgd6 (And.intro hcl6 (And.intro hdn (And.intro hdc (And.intro hE6 hD)))))))))
        clear hsame hsameC hrd hbase hgd6 hcl6 hdn hdc hk6 hR6 hlt hgc hnbw hrc hrb hbk6 hrl6 d0 d1 d2 d3 d4 d5 d6 d7 d8
        have hb6i := hb6
        have X := HS.out.2.2 w6 (hb6i)
        have d0 : w6.cell? ⟨gx, 0, none⟩ = some (.int .i64 x.kind) := by rw [cell_of_row _ _ _ _ _ _ X]; rfl
        have d1 : w6.cell? ⟨gx, 1, none⟩ = some (.int .i64 x.id) := by rw [cell_of_row _ _ _ _ _ _ X]; rfl
        have d2 : w6.cell? ⟨gx, 2, none⟩ = some (.int .i64 x.now) := by rw [cell_of_row _ _ _ _ _ _ X]; rfl
        have d3 : w6.cell? ⟨gx, 3, none⟩ = some (.int .i64 x.q.id) := by rw [cell_of_row _ _ _ _ _ _ X]; rfl
        have d4 : w6.cell? ⟨gx, 4, none⟩ = some (.string x.q.who) := by rw [cell_of_row _ _ _ _ _ _ X]; rfl
        have d5 : w6.cell? ⟨gx, 5, none⟩ = some (.int .i64 x.q.entry) := by rw [cell_of_row _ _ _ _ _ _ X]; rfl
        have d6 : w6.cell? ⟨gx, 6, none⟩ = some (.string x.q.reason) := by rw [cell_of_row _ _ _ _ _ _ X]; rfl
        have d7 : w6.cell? ⟨gx, 7, none⟩ = some (.int .i64 x.q.exp) := by rw [cell_of_row _ _ _ _ _ _ X]; rfl
        have d8 : w6.cell? ⟨gx, 8, none⟩ = some (.string x.who) := by rw [cell_of_row _ _ _ _ _ _ X]; rfl
        clear X
        clear hb6 hb6i
        rcases hE6 with ⟨hD0, rfl⟩ | ⟨hD0, fb, op, m, rfl, hfa⟩
        · clear hD
          go_wp2_with fail
          refine H6.out.1.mono ?_
          rintro e w7 ⟨rfl, hb7⟩
          have H7 := Lib.hid hb7
          clear hb7 d0 d1 d2 d3 d4 d5 d6 d7 d8
          have X := HS.out.2.2 w7 (H6.out.2.2.2.1 _ H7.out)
          have d0 : w7.cell? ⟨gx, 0, none⟩ = some (.int .i64 x.kind) := by rw [cell_of_row _ _ _ _ _ _ X]; rfl
          have d1 : w7.cell? ⟨gx, 1, none⟩ = some (.int .i64 x.id) := by rw [cell_of_row _ _ _ _ _ _ X]; rfl
          have d2 : w7.cell? ⟨gx, 2, none⟩ = some (.int .i64 x.now) := by rw [cell_of_row _ _ _ _ _ _ X]; rfl
          have d3 : w7.cell? ⟨gx, 3, none⟩ = some (.int .i64 x.q.id) := by rw [cell_of_row _ _ _ _ _ _ X]; rfl
          have d4 : w7.cell? ⟨gx, 4, none⟩ = some (.string x.q.who) := by rw [cell_of_row _ _ _ _ _ _ X]; rfl
          have d5 : w7.cell? ⟨gx, 5, none⟩ = some (.int .i64 x.q.entry) := by rw [cell_of_row _ _ _ _ _ _ X]; rfl
          have d6 : w7.cell? ⟨gx, 6, none⟩ = some (.string x.q.reason) := by rw [cell_of_row _ _ _ _ _ _ X]; rfl
          have d7 : w7.cell? ⟨gx, 7, none⟩ = some (.int .i64 x.q.exp) := by rw [cell_of_row _ _ _ _ _ _ X]; rfl
          have d8 : w7.cell? ⟨gx, 8, none⟩ = some (.string x.who) := by rw [cell_of_row _ _ _ _ _ _ X]; rfl
          clear X
          go_wp2_with fail
          have hlr := fun W => lref21_any x W
          unfold acVal at hlr
          refine (hlr _).mono ?_
          clear hlr
          rintro e w9 ⟨rfl, hb9⟩
          have H9 := Lib.hid (H7.out.trans (hb9.mono H7.out.size))
          clear hb9 d0 d1 d2 d3 d4 d5 d6 d7 d8
          go_wp2_with fail
          refine (H6.out.2.2.1 _ H9.out).mono ?_
          rintro e w10 ⟨ar', cr', rfl, hrl10, hb10, -⟩
          have hb10w := H9.out.trans (hb10.mono H9.out.size)
          have hsm := fun (W : World) (hb : Below w10.heap.size w10 W) => same21_any (l := Bk.after lst (nk x)) (H6.out.2.2.2.2.2.1.below (hb10w.trans (hb.mono hb10w.size))) H6.out.2.2.2.2.1 ar' cr' (hrl10.below hb) x.who now
          rw [← H6.out.2.2.2.2.2.2.2.2.2]
          have hlen : ((Bk.doI lst (nk x)).1.getD lst).length = (Bk.after lst (nk x)).length := rfl
          rw [hlen]
          have H10 := Lib.hid (And.intro hb10w hsm)
          clear hb10 hb10w hsm hrl10 hlen
          have X := HS.out.2.2 w10 (H6.out.2.2.2.1 _ H10.out.1)
          have d8 : w10.cell? ⟨gx, 8, none⟩ = some (.string x.who) := by rw [cell_of_row _ _ _ _ _ _ X]; rfl
          clear X
          go_wp2_with fail
          refine (H10.out.2 _ (Below.refl _ _)).mono ?_
          rintro e w11 ⟨rfl, hb11⟩
          have H11 := Lib.hid (H10.out.1.trans (hb11.mono H10.out.1.size))
          clear hb11 d8
          go_wp2_with fail
          refine (code_nil _).mono ?_
          rintro e w12 ⟨rfl, hww⟩
          cases hww
          subst hD0
          go_wp2_with fail
          go_ret
          exact ⟨rfl, HN.out.2.1 _ (H6.out.2.2.2.1 _ H11.out)⟩
        · have hcode := code_fault hfa (by have := H6.out.2.2.2.2.2.2.2.1; omega) H6.out.2.2.2.2.2.2.2.1.2
          have hsame2 := fun W (hb : Below w6.heap.size w6 W) => H6.out.2.1 W hb (H6.out.2.2.2.2.2.2.1 hD0)
          have hcodeW := fun W (hb : Below w6.heap.size w6 W) => code_fault (hfa.below hb) (by have := H6.out.2.2.2.2.2.2.2.1; omega) H6.out.2.2.2.2.2.2.2.1.2
          have HQ := Lib.hid (And.intro hsame2 hcodeW)
          clear hcode hsame2 hcodeW hfa hD hD0
          go_wp2_with fail
          refine H6.out.1.mono ?_
          rintro e w7 ⟨rfl, hb7⟩
          have H7 := Lib.hid hb7
          clear hb7 d0 d1 d2 d3 d4 d5 d6 d7 d8
          have X := HS.out.2.2 w7 (H6.out.2.2.2.1 _ H7.out)
          have d0 : w7.cell? ⟨gx, 0, none⟩ = some (.int .i64 x.kind) := by rw [cell_of_row _ _ _ _ _ _ X]; rfl
          have d1 : w7.cell? ⟨gx, 1, none⟩ = some (.int .i64 x.id) := by rw [cell_of_row _ _ _ _ _ _ X]; rfl
          have d2 : w7.cell? ⟨gx, 2, none⟩ = some (.int .i64 x.now) := by rw [cell_of_row _ _ _ _ _ _ X]; rfl
          have d3 : w7.cell? ⟨gx, 3, none⟩ = some (.int .i64 x.q.id) := by rw [cell_of_row _ _ _ _ _ _ X]; rfl
          have d4 : w7.cell? ⟨gx, 4, none⟩ = some (.string x.q.who) := by rw [cell_of_row _ _ _ _ _ _ X]; rfl
          have d5 : w7.cell? ⟨gx, 5, none⟩ = some (.int .i64 x.q.entry) := by rw [cell_of_row _ _ _ _ _ _ X]; rfl
          have d6 : w7.cell? ⟨gx, 6, none⟩ = some (.string x.q.reason) := by rw [cell_of_row _ _ _ _ _ _ X]; rfl
          have d7 : w7.cell? ⟨gx, 7, none⟩ = some (.int .i64 x.q.exp) := by rw [cell_of_row _ _ _ _ _ _ X]; rfl
          have d8 : w7.cell? ⟨gx, 8, none⟩ = some (.string x.who) := by rw [cell_of_row _ _ _ _ _ _ X]; rfl
          clear X
          go_wp2_with fail
          refine (HQ.out.1 _ H7.out).mono ?_
          rintro e w8 ⟨rfl, hb8⟩
          have H8 := Lib.hid (H7.out.trans (hb8.mono H7.out.size))
          clear hb8 d0 d1 d2 d3 d4 d5 d6 d7 d8
          have X := HS.out.2.2 w8 (H6.out.2.2.2.1 _ H8.out)
          have d0 : w8.cell? ⟨gx, 0, none⟩ = some (.int .i64 x.kind) := by rw [cell_of_row _ _ _ _ _ _ X]; rfl
          have d1 : w8.cell? ⟨gx, 1, none⟩ = some (.int .i64 x.id) := by rw [cell_of_row _ _ _ _ _ _ X]; rfl
          have d2 : w8.cell? ⟨gx, 2, none⟩ = some (.int .i64 x.now) := by rw [cell_of_row _ _ _ _ _ _ X]; rfl
          have d3 : w8.cell? ⟨gx, 3, none⟩ = some (.int .i64 x.q.id) := by rw [cell_of_row _ _ _ _ _ _ X]; rfl
          have d4 : w8.cell? ⟨gx, 4, none⟩ = some (.string x.q.who) := by rw [cell_of_row _ _ _ _ _ _ X]; rfl
          have d5 : w8.cell? ⟨gx, 5, none⟩ = some (.int .i64 x.q.entry) := by rw [cell_of_row _ _ _ _ _ _ X]; rfl
          have d6 : w8.cell? ⟨gx, 6, none⟩ = some (.string x.q.reason) := by rw [cell_of_row _ _ _ _ _ _ X]; rfl
          have d7 : w8.cell? ⟨gx, 7, none⟩ = some (.int .i64 x.q.exp) := by rw [cell_of_row _ _ _ _ _ _ X]; rfl
          have d8 : w8.cell? ⟨gx, 8, none⟩ = some (.string x.who) := by rw [cell_of_row _ _ _ _ _ _ X]; rfl
          clear X
          go_wp2_with fail
          have hlr := fun W => lref21_any x W
          unfold acVal at hlr
          refine (hlr _).mono ?_
          clear hlr
          rintro e w9 ⟨rfl, hb9⟩
          have H9 := Lib.hid (H8.out.trans (hb9.mono H8.out.size))
          clear hb9 d0 d1 d2 d3 d4 d5 d6 d7 d8
          go_wp2_with fail
          refine (H6.out.2.2.1 _ H9.out).mono ?_
          rintro e w10 ⟨ar', cr', rfl, hrl10, hb10, -⟩
          have hb10w := H9.out.trans (hb10.mono H9.out.size)
          have hsm := fun (W : World) (hb : Below w10.heap.size w10 W) => same21_any (l := Bk.after lst (nk x)) (H6.out.2.2.2.2.2.1.below (hb10w.trans (hb.mono hb10w.size))) H6.out.2.2.2.2.1 ar' cr' (hrl10.below hb) x.who now
          rw [← H6.out.2.2.2.2.2.2.2.2.2]
          have hlen : ((Bk.doI lst (nk x)).1.getD lst).length = (Bk.after lst (nk x)).length := rfl
          rw [hlen]
          have H10 := Lib.hid (And.intro hb10w hsm)
          clear hb10 hb10w hsm hrl10 hlen
          have X := HS.out.2.2 w10 (H6.out.2.2.2.1 _ H10.out.1)
          have d8 : w10.cell? ⟨gx, 8, none⟩ = some (.string x.who) := by rw [cell_of_row _ _ _ _ _ _ X]; rfl
          clear X
          go_wp2_with fail
          refine (H10.out.2 _ (Below.refl _ _)).mono ?_
          rintro e w11 ⟨rfl, hb11⟩
          have H11 := Lib.hid (H10.out.1.trans (hb11.mono H10.out.1.size))
          clear hb11 d8
          go_wp2_with fail
          refine (HQ.out.2 _ H11.out).mono ?_
          rintro e w12 ⟨rfl, hww⟩
          cases hww
          have hdd : (D == D) = true := by simp
          go_wp2_with fail
          go_ret
          exact ⟨rfl, HN.out.2.1 _ (H6.out.2.2.2.1 _ H11.out)⟩
      obtain ⟨y, hy⟩ : ∃ y, l[i]? = some y := ⟨_, List.getElem?_eq_getElem (by have := HN.out.2.2.2.2; omega)⟩
      have hyo := HN.out.2.2.2.1 y (List.mem_of_getElem? hy)
      obtain ⟨bb, off, rfl, hbl, hc⟩ := HS.out.2.1 wr HR0.out.2.2.2.2 i y hy
      have hfc := fun W => few21_any y hyo W
      unfold acVal at hfc
      have HX := Lib.hid (And.intro hyo hfc)
      have hcx := fun W (hb2 : Below wr.heap.size wr W) (m : Nat) (hm : m < 9) => (hb2.cell (p := ⟨bb, off + i * 9 + m, none⟩) hbl).trans (hc m hm)
      have HCX := Lib.hid hcx
      clear hy hyo hfc hcx hc hbl
      have c0 : wr.cell? ⟨bb, off + i * 9, none⟩ = some (.int .i64 y.kind) := HCX.out wr (Below.refl _ _) 0 (by omega)
      have c1 : wr.cell? ⟨bb, off + i * 9 + 1, none⟩ = some (.int .i64 y.id) := HCX.out wr (Below.refl _ _) 1 (by omega)
      have c2 : wr.cell? ⟨bb, off + i * 9 + 2, none⟩ = some (.int .i64 y.now) := HCX.out wr (Below.refl _ _) 2 (by omega)
      have c3 : wr.cell? ⟨bb, off + i * 9 + 3, none⟩ = some (.int .i64 y.q.id) := HCX.out wr (Below.refl _ _) 3 (by omega)
      have c4 : wr.cell? ⟨bb, off + i * 9 + 4, none⟩ = some (.string y.q.who) := HCX.out wr (Below.refl _ _) 4 (by omega)
      have c5 : wr.cell? ⟨bb, off + i * 9 + 5, none⟩ = some (.int .i64 y.q.entry) := HCX.out wr (Below.refl _ _) 5 (by omega)
      have c6 : wr.cell? ⟨bb, off + i * 9 + 6, none⟩ = some (.string y.q.reason) := HCX.out wr (Below.refl _ _) 6 (by omega)
      have c7 : wr.cell? ⟨bb, off + i * 9 + 7, none⟩ = some (.int .i64 y.q.exp) := HCX.out wr (Below.refl _ _) 7 (by omega)
      have c8 : wr.cell? ⟨bb, off + i * 9 + 8, none⟩ = some (.string y.who) := HCX.out wr (Below.refl _ _) 8 (by omega)
      cases hf : fewA y with
      | false =>
        rw [hf] at HX
        go_wp2_with fail
        refine (HX.out.2 _).mono ?_
        rintro e w3 ⟨rfl, hb3⟩
        have H3 := Lib.hid hb3
        clear hb3
        go_wp2_with fail
        go_roundw
        case rel => exact ⟨i + 1, R, lst, ar, cr, by omega, by go_num, rfl, HR0.out.1.below H3.out, HR0.out.2.1, HR0.out.2.2.1.below H3.out, HR0.out.2.2.2.1.below H3.out, HR0.out.2.2.2.2.trans (H3.out.mono (HS.out.1 _ HR0.out.2.2.2.2))⟩
        case measure => simp [intOf]; omega
      | true =>
        have hfs := few_sizes hf
        rw [hf] at HX
        have HF := Lib.hid hfs
        clear hf hfs
        go_wp2_with fail
        refine (HX.out.2 _).mono ?_
        rintro e w3 ⟨rfl, hb3⟩
        have H3 := Lib.hid hb3
        clear hb3 c0 c1 c2 c3 c4 c5 c6 c7 c8
        have c0 : w3.cell? ⟨bb, off + i * 9, none⟩ = some (.int .i64 y.kind) := HCX.out w3 (H3.out) 0 (by omega)
        have c1 : w3.cell? ⟨bb, off + i * 9 + 1, none⟩ = some (.int .i64 y.id) := HCX.out w3 (H3.out) 1 (by omega)
        have c2 : w3.cell? ⟨bb, off + i * 9 + 2, none⟩ = some (.int .i64 y.now) := HCX.out w3 (H3.out) 2 (by omega)
        have c3 : w3.cell? ⟨bb, off + i * 9 + 3, none⟩ = some (.int .i64 y.q.id) := HCX.out w3 (H3.out) 3 (by omega)
        have c4 : w3.cell? ⟨bb, off + i * 9 + 4, none⟩ = some (.string y.q.who) := HCX.out w3 (H3.out) 4 (by omega)
        have c5 : w3.cell? ⟨bb, off + i * 9 + 5, none⟩ = some (.int .i64 y.q.entry) := HCX.out w3 (H3.out) 5 (by omega)
        have c6 : w3.cell? ⟨bb, off + i * 9 + 6, none⟩ = some (.string y.q.reason) := HCX.out w3 (H3.out) 6 (by omega)
        have c7 : w3.cell? ⟨bb, off + i * 9 + 7, none⟩ = some (.int .i64 y.q.exp) := HCX.out w3 (H3.out) 7 (by omega)
        have c8 : w3.cell? ⟨bb, off + i * 9 + 8, none⟩ = some (.string y.who) := HCX.out w3 (H3.out) 8 (by omega)
        have hlr := fun W => lref21_any y W
        unfold acVal at hlr
        have HLR := Lib.hid hlr
        clear hlr
        go_wp2_with fail
        refine (HLR.out _).mono ?_
        rintro e w4 ⟨rfl, hb4⟩
        have hb34 := H3.out.trans (hb4.mono H3.out.size)
        have hdo := rdo21_any lst ar cr y (by have := HF.out; unfold maxLen; omega) (by have := HF.out; unfold maxLen; omega) w4 (HR0.out.2.2.1.below hb34) (by have := HR0.out.2.1.few; omega) (fun x hx => (HR0.out.2.1.st x hx).1)
        have H4 := Lib.hid (And.intro hdo hb34)
        clear hdo hb4 hb34
        go_wp2_with fail
        refine H4.out.1.mono ?_
        rintro e w5 ⟨ar', cr', rfl, hrl5, hb5, hfr⟩
        have hb35 := H4.out.2.trans (hb5.mono H4.out.2.size)
        have hbk5 := HR0.out.1.below hb35
        have hap5 := HR0.out.2.2.2.1.fresh H4.out.2 hb5 HR0.out.1.lt (fun g hg => (HR0.out.1.row g hg).2.1) hfr
        have hdo := do21_any hbk5 HR0.out.2.1.st HR0.out.2.1.few y (by have := HF.out; omega) (by have := HF.out; omega) (HS.out.1 _ (HR0.out.2.2.2.2.trans (hb35.mono (HS.out.1 _ HR0.out.2.2.2.2))))
        unfold acVal at hdo
        have hgd5 := HR0.out.2.1.behind (nk_kind y)
        have hro := fun (g : Nat) (hg : R = some g) => (HR0.out.1.row g hg).1
        obtain ⟨L, hL⟩ : ∃ L, L = Bk.after lst (nk y) := ⟨_, rfl⟩
        have hrl6 : RecsAt 6 enCs w5 ar' L := by rw [hL]; exact hrl5
        have hll : ((Bk.doI lst (nk y)).1.getD lst).length = L.length := by rw [hL]; rfl
        rw [← hL] at hgd5
        have H5 := Lib.hid (And.intro hdo (And.intro hgd5 (And.intro hrl6 (And.intro hap5 (And.intro hb35 (And.intro hL hro))))))
        rw [hll]
        clear hdo hgd5 hrl5 hrl6 hap5 hb35 hb5 hfr hbk5 hro hL hll
        clear c0 c1 c2 c3 c4 c5 c6 c7 c8
        have c0 : w5.cell? ⟨bb, off + i * 9, none⟩ = some (.int .i64 y.kind) := HCX.out w5 (H5.out.2.2.2.2.1) 0 (by omega)
        have c1 : w5.cell? ⟨bb, off + i * 9 + 1, none⟩ = some (.int .i64 y.id) := HCX.out w5 (H5.out.2.2.2.2.1) 1 (by omega)
        have c2 : w5.cell? ⟨bb, off + i * 9 + 2, none⟩ = some (.int .i64 y.now) := HCX.out w5 (H5.out.2.2.2.2.1) 2 (by omega)
        have c3 : w5.cell? ⟨bb, off + i * 9 + 3, none⟩ = some (.int .i64 y.q.id) := HCX.out w5 (H5.out.2.2.2.2.1) 3 (by omega)
        have c4 : w5.cell? ⟨bb, off + i * 9 + 4, none⟩ = some (.string y.q.who) := HCX.out w5 (H5.out.2.2.2.2.1) 4 (by omega)
        have c5 : w5.cell? ⟨bb, off + i * 9 + 5, none⟩ = some (.int .i64 y.q.entry) := HCX.out w5 (H5.out.2.2.2.2.1) 5 (by omega)
        have c6 : w5.cell? ⟨bb, off + i * 9 + 6, none⟩ = some (.string y.q.reason) := HCX.out w5 (H5.out.2.2.2.2.1) 6 (by omega)
        have c7 : w5.cell? ⟨bb, off + i * 9 + 7, none⟩ = some (.int .i64 y.q.exp) := HCX.out w5 (H5.out.2.2.2.2.1) 7 (by omega)
        have c8 : w5.cell? ⟨bb, off + i * 9 + 8, none⟩ = some (.string y.who) := HCX.out w5 (H5.out.2.2.2.2.1) 8 (by omega)
        go_wp2_with fail
        refine H5.out.1.mono ?_
        rintro e w6 ⟨v6, R6, rfl, hE6, hbk6, hk6, hR6⟩
        rw [← H5.out.2.2.2.2.2.1] at hbk6
        have hb6 := hk6.below (B := nb) (HR0.out.2.2.2.2.trans (H5.out.2.2.2.2.1.mono (HS.out.1 _ HR0.out.2.2.2.2))) (HS.out.1 _ (HR0.out.2.2.2.2.trans (H5.out.2.2.2.2.1.mono (HS.out.1 _ HR0.out.2.2.2.2)))) (Nat.le_refl _) H5.out.2.2.2.2.2.2
        have H6 := Lib.hid (And.intro hbk6 (And.intro (H5.out.2.2.1.kept (fun g o hg => (H5.out.2.2.2.1 g o hg).2) hk6) (And.intro (H5.out.2.2.2.1.kept hk6.size hR6) (And.intro hb6 hE6))))
        clear hE6 hbk6 hk6 hR6 hb6 c0 c1 c2 c3 c4 c5 c6 c7 c8
        go_wp2_with fail
        go_roundw
        case rel => exact ⟨i + 1, R6, L, ar', cr', by omega, by go_num, rfl, H6.out.1, H5.out.2.1, H6.out.2.1, H6.out.2.2.1, H6.out.2.2.2.1⟩
        case measure => simp [intOf]; omega
end Go.Proofs.Ytnkkbinbeildmaa

namespace Go.Proofs.Ytnkkbinbeildmaa.requestErrsLaw
open Go.ChangeShapes Go.WideShapes Go.ChangeAt Go.RowKit
open Go.ChangeMaps (open_string shut_string)

theorem own : ownKnob Try.prog.godebug = none := by kernel_rfl
set_option maxRecDepth 100000 in
theorem lifted (os : Os) (started : os.Started) (H : Type) (enc : TypeId × Value → H) :
    ReturnsInHanded {} Try.checked os 8 .any (Rows.requestErrsSpec.pre6 enc Try.prog Try.f8 Rows.requestErrsRow.domain false) (Rows.requestErrsSpec.post enc Try.prog Try.f8 false true false false) := by
  refine returnsInHanded_of_change (C := Try.checked) own started (by kernel_rfl) Try.func8
    (ChangeSpec.witness6 (enc := enc) (C := Try.checked) false ⟨#[], #[.slice none 0 0, .agg #[.int .i64 0, .int .i64 0, .int .i64 0, .int .i64 0, .string ⟨#[]⟩, .int .i64 0, .string ⟨#[]⟩, .int .i64 0, .string ⟨#[]⟩], .int .i64 0], []⟩ 8 (by kernel_rfl) (by kernel_rfl) (by kernel_rfl) (by kernel_rfl)) ?_
  intro W base args ds gs before hval0 hW hcnd _
  have hval : ∀ (j : Nat) t v, Try.f8.params[j]? = some t → args[j]? = some v → Value.okWide Try.prog W .any base t v := hval0
  have hW' := hW
  obtain ⟨p, q, hA0, hV, rfl, hfz, hnd⟩ := hW
  have hA : DataW.TrodAll enc Try.prog W 0 (fun _ => true) true Try.f8.params.toList args.toList ds p := hA0
  rw [Try.params8] at hA hval
  obtain ⟨v0, vs0, d0, ds0, p0, q0, hargs, rfl, rfl, h0, r0⟩ := trodAll_cons hA
  obtain ⟨v1, vs1, d1, ds1, p1, q1, rfl, rfl, rfl, h1, r1⟩ := trodAll_cons r0
  obtain ⟨v2, vs2, d2, ds2, p2, q2, rfl, rfl, rfl, h2, r2⟩ := trodAll_cons r1
  obtain ⟨rfl, rfl, rfl⟩ := trodAll_nil r2
  obtain rfl : args = #[v0, v1, v2] := by cases args; simp_all
  obtain ⟨rfl, rfl⟩ := trodVars_none hV
  obtain ⟨a0, len0, cap0, rfl⟩ := okWide_slice Try.underlying51 (hval 0 51 v0 rfl rfl)
  have hk0 := h0
  obtain ⟨fuel0, hf0⟩ := h0
  obtain ⟨cs1, rfl, hcs1⟩ := okWide_struct Try.underlying57 (hval 1 57 v1 rfl rfl)
  have hk1 := h1
  obtain ⟨fuel1, hf1⟩ := h1
  obtain ⟨n2, rfl, rfl, rfl, ws2⟩ := open_int Try.underlying3 (hval 2 3 v2 rfl rfl) h2
  have hbd2 := ws2
  simp only [Lit.wf, Bool.and_eq_true, decide_eq_true_eq] at hbd2
  clear hA0 hval0
  simp only [List.append_nil] at hW'
  have hlt0 : ∀ x ∈ p0, x.block < W.heap.size := fun x hx => by simpa using hW'.lt x (by simp [hx])
  obtain ⟨ss0, hlen0, hmax0, hT0, hO0⟩ := acts21_of hf0 hlt0
  subst hlen0
  have hlt1 : ∀ x ∈ p1, x.block < W.heap.size := fun x hx => by simpa using hW'.lt x (by simp [hx])
  obtain ⟨x1a, hit1, hf1a⟩ := open_act21 hf1
  obtain rfl : cs1 = acCs x1a := Array.toList_inj.1 hit1
  refine (berrs_law ss0 a0 cap0 hT0 hO0 hmax0 x1a hf1a n2 hbd2.1 hbd2.2 (w := W)).mono fun e W' ⟨he, hb⟩ => ?_
  subst he
  exact ⟨_, rfl, _, _, _, [], _, [], hW', trodAll_cons_mk (shut_bool Try.underlying4 _) trodAll_mk0, (trodAll_cons_mk (Below.trod laidOut (by kernel_rfl) (of_decide_eq_true (by kernel_rfl)) hk0 hb hlt0) (trodAll_cons_mk (Below.trod laidOut (by kernel_rfl) (of_decide_eq_true (by kernel_rfl)) hk1 hb hlt1) (trodAll_cons_mk (shut_int Try.underlying3 ws2) trodAll_mk0))), rfl, hb.frame _, fun h => by cases h⟩
theorem over : Rows.requestErrsRow.holds Try.pinned (OpenSpec.ofChange Rows.requestErrsSpec) :=
  OpenClaim.holds_of_wide 8 Try.f8 rfl rfl rfl rfl rfl rfl rfl ⟨rfl, rfl, rfl, rfl, rfl⟩ rfl rfl rfl rfl rfl (by kernel_rfl) Try.func8 (by kernel_rfl)
    (of_decide_eq_true (by kernel_rfl)) (by unfold Func.isWrapper; first | (rw [if_pos (by decide +kernel)]; kernel_rfl) | (rw [if_neg (by decide +kernel)]; exact ⟨rfl, rfl⟩))
    (fun os started H enc _ => lifted os started H enc)
end Go.Proofs.Ytnkkbinbeildmaa.requestErrsLaw

namespace Go.Proofs.Ytnkkbinbeildmaa
theorem requestErrs_said : Rows.RequestErrsSaid := requestErrsLaw.over
end Go.Proofs.Ytnkkbinbeildmaa
