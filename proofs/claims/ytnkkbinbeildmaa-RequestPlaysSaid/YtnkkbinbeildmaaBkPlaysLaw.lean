/- PROVED HERE: for every list of acts, every name and every time the law RequestPlays returns true (a book is what the document says, call by call: which requests are there, how each stands at any time, and the errors). No condition. -/
import Derived.Test.YtnkkbinbeildmaaBkU
import Derived.Test.YtnkkbinbeildmaaPyOpen
import Derived.Test.YtnkkbinbeildmaaRows
import Derived.ProofKit
import Derived.OpenShut
namespace Go.Proofs.Ytnkkbinbeildmaa
open Go.RowKit
theorem few_sizes {a : Bk.Act} (h : fewA a = true) : a.q.who.size ≤ 100 ∧ a.q.reason.size ≤ 300 ∧ a.who.size ≤ 100 := by
  simp only [fewA, fewQ, Bool.and_eq_true, decide_eq_true_eq] at h
  omega
theorem may_sizes {q : Py.Q} (h : Py.mayB q = true) : q.who.size ≤ 24 ∧ q.reason.size ≤ 120 := by
  simp only [Py.mayB, Py.nameB, Py.inB, Bool.and_eq_true, decide_eq_true_eq] at h
  omega
set_option maxRecDepth 100000 in
set_option maxHeartbeats 16000000 in
theorem bplays_law {w : World} (l : List Bk.Act) (a0 : Option Addr) (cap : Nat) (hT : RecsAt 9 acCs w a0 l) (hO : ∀ x ∈ l, x.Ok) (hm : l.length ≤ maxLen) (who : ByteArray) (hwl : who.size ≤ maxLen) (now : Int) (_ : -9223372036854775808 ≤ now) (_ : now ≤ 9223372036854775807) :
    Calls Try.prog 6 #[.slice a0 l.length cap, .string who, .int .i64 now] w fun e w' => e = .returned (.bool true) ∧ Below w.heap.size w w' := by
  unfold maxLen at hm hwl
  obtain ⟨w1, rfl⟩ : ∃ w1, w1 = w := ⟨_, rfl⟩
  obtain ⟨n, hn⟩ : ∃ n, n = l.length := ⟨_, rfl⟩
  rw [← hn] at hm ⊢
  obtain ⟨nb, hnb⟩ : ∃ nb, nb = w1.heap.size := ⟨_, rfl⟩
  have hnew := bnew_any w1
  rw [← hnb] at hnew ⊢
  have hsz : ∀ W, Below nb w1 W → nb ≤ W.heap.size := fun W h => Nat.le_trans (Nat.le_of_eq hnb) h.size
  have hin : ∀ W, Below nb w1 W → RecsAt 9 acCs W a0 l := fun W h => hT.below (by rw [← hnb]; exact h)
  have HN := Lib.hid (And.intro hnew (And.intro True.intro (And.intro True.intro (And.intro hO hn))))
  have hlow : ∀ j y, l[j]? = some y → ∀ b o, a0 = some ⟨b, o, none⟩ → b < nb := fun j y hy b o e => by
    obtain ⟨b2, o2, e2, h2, -⟩ := hT j y hy
    rw [e] at e2; injection e2 with e2; injection e2 with e3; omega
  have HS := Lib.hid (And.intro hsz (And.intro hin hlow))
  clear hnew hnb hT hO hn hsz hin hlow
  go_enter Try.func6, Try.ntmps6
  go_wp2_with fail
  refine HN.out.1.mono ?_
  rintro e w2 ⟨rfl, hbk2, hb2, -⟩
  have HB2 := Lib.hid (And.intro hbk2 hb2)
  clear hbk2 hb2
  by_cases hw100 : who.size ≤ 100
  rotate_left
  · have g100 : (100 : Int) < (who.size : Int) := by omega
    go_wp2_with fail
    refine (awake21_any _).mono ?_
    rintro e w4 ⟨rfl, hb4⟩
    have H4 := Lib.hid (HB2.out.2.trans (hb4.mono (HS.out.1 _ HB2.out.2)))
    clear hb4
    go_wp2_with fail
    go_ret
    exact ⟨rfl, H4.out⟩
  have g100 : ¬ ((100 : Int) < (who.size : Int)) := by omega
  clear hw100
  go_wp2_with fail
  refine (awake21_any _).mono ?_
  rintro e w4 ⟨rfl, hb4⟩
  have HB4 := Lib.hid (And.intro (HB2.out.1.below hb4) (HB2.out.2.trans (hb4.mono (HS.out.1 _ HB2.out.2))))
  clear hb4
  go_wp2_with fail
  go_loopw [8, 9, 10, 11, 12] (fun v8 v9 _ _ _ wr => ∃ (i : Nat) (R : Option Nat) (lst : List En) (ar : Option Addr) (cr : Nat), i ≤ n ∧ v9 = .int .i64 (i : Int) ∧ v8 = .slice ar lst.length cr ∧ BkAt nb wr nb R lst ∧ Bk.Good lst ∧ RecsAt 6 enCs wr ar lst ∧ Apart nb R ar wr ∧ Below nb w1 wr) (fun _ v9 _ _ _ _ => n - (intOf v9).toNat)
  case atStart => exact ⟨0, none, [], none, 0, by omega, rfl, rfl, HB4.out.1, Bk.Good.nil, RecsAt.nil _ _ _ _, Apart.nil _ _ _, HB4.out.2⟩
  case round =>
    obtain ⟨i, R, lst, ar, cr, hi, rfl, rfl, hbk, hgd, hrl, hap, hb⟩ := hrel
    have HR0 := Lib.hid (And.intro hbk (And.intro hgd (And.intro hrl (And.intro hap hb))))
    clear hbk hgd hrl hap hb
    by_cases hlt : i < n
    rotate_left
    · have hii : i = i := rfl
      clear hii
      have hno : Bk.findN lst (-1) = lst.length := Py.first_none fun y hy => by
        have := HR0.out.2.1.may y hy
        simp only [Py.mayB, Py.inB, Bool.and_eq_true, decide_eq_true_eq] at this
        simp; omega
      have hx0 : lst[Bk.findN lst (-1)]? = none := List.getElem?_eq_none (by omega)
      have hget := HR0.out.1.getNo (-1) hx0
      have hst := fun W (hb : Below wr.heap.size wr W) => (HR0.out.1.below hb).state (-1) now
      unfold Bk.stateI at hst
      rw [hx0] at hst
      simp only at hst
      have HG := Lib.hid (And.intro hget hst)
      clear hget hst hx0 hno
      go_wp2_with fail
      refine HG.out.1.mono ?_
      rintro e w5 ⟨rfl, hb5⟩
      have HB5 := Lib.hid (hb5.alloc hb5.size (.cells #[.int .i64 0, .string ⟨#[]⟩, .int .i64 0, .string ⟨#[]⟩, .int .i64 0] 24))
      clear hb5
      go_wp2_with fail
      refine (HG.out.2 _ HB5.out).mono ?_
      rintro e w7 ⟨rfl, hb7⟩
      have HB7 := Lib.hid (HB5.out.trans (hb7.mono HB5.out.size))
      clear hb7
      go_wp2_with fail
      go_ret
      exact ⟨rfl, HR0.out.2.2.2.2.trans (HB7.out.mono (HS.out.1 _ HR0.out.2.2.2.2))⟩
    by_cases h60 : i < 60
    rotate_left
    · have hii : i = i := rfl
      clear hii
      have hno : Bk.findN lst (-1) = lst.length := Py.first_none fun y hy => by
        have := HR0.out.2.1.may y hy
        simp only [Py.mayB, Py.inB, Bool.and_eq_true, decide_eq_true_eq] at this
        simp; omega
      have hx0 : lst[Bk.findN lst (-1)]? = none := List.getElem?_eq_none (by omega)
      have hget := HR0.out.1.getNo (-1) hx0
      have hst := fun W (hb : Below wr.heap.size wr W) => (HR0.out.1.below hb).state (-1) now
      unfold Bk.stateI at hst
      rw [hx0] at hst
      simp only at hst
      have HG := Lib.hid (And.intro hget hst)
      clear hget hst hx0 hno
      go_wp2_with fail
      refine HG.out.1.mono ?_
      rintro e w5 ⟨rfl, hb5⟩
      have HB5 := Lib.hid (hb5.alloc hb5.size (.cells #[.int .i64 0, .string ⟨#[]⟩, .int .i64 0, .string ⟨#[]⟩, .int .i64 0] 24))
      clear hb5
      go_wp2_with fail
      refine (HG.out.2 _ HB5.out).mono ?_
      rintro e w7 ⟨rfl, hb7⟩
      have HB7 := Lib.hid (HB5.out.trans (hb7.mono HB5.out.size))
      clear hb7
      go_wp2_with fail
      go_ret
      exact ⟨rfl, HR0.out.2.2.2.2.trans (HB7.out.mono (HS.out.1 _ HR0.out.2.2.2.2))⟩
    obtain ⟨y, hy⟩ : ∃ y, l[i]? = some y := ⟨_, List.getElem?_eq_getElem (by have := HN.out.2.2.2.2; omega)⟩
    have hyo := HN.out.2.2.2.1 y (List.mem_of_getElem? hy)
    obtain ⟨bb, off, rfl, hbl, hc⟩ := HS.out.2.1 wr HR0.out.2.2.2.2 i y hy
    have hfc := fun W => few21_any y hyo W
    unfold acVal at hfc
    have HX := Lib.hid (And.intro hyo hfc)
    have hbbn : bb < nb := HS.out.2.2 i y hy bb off rfl
    have HBB := Lib.hid hbbn
    clear hbbn
    have hcx := fun W (hb2 : Below wr.heap.size wr W) (m : Nat) (hm : m < 9) => (hb2.cell (p := ⟨bb, off + i * 9 + m, none⟩) hbl).trans (hc m hm)
    have HCX := Lib.hid hcx
    clear hy hyo hfc hcx hc hbl
    have c0 : wr.cell? ⟨bb, off + i * 9, none⟩ = some (.int .i64 y.kind) := HCX.out wr (Below.refl _ _) 0 (by omega)
    have c1 : wr.cell? ⟨bb, off + i * 9 + 1, none⟩ = some (.int .i64 y.id) := HCX.out wr (Below.refl _ _) 1 (by omega)
    have c2 : wr.cell? ⟨bb, off + i * 9 + 2, none⟩ = some (.int .i64 y.now) := HCX.out wr (Below.refl _ _) 2 (by omega)
    have c3 : wr.cell? ⟨bb, off + i * 9 + 3, none⟩ = some (.int .i64 y.q.id) := HCX.out wr (Below.refl _ _) 3 (by omega)
    have c4 : wr.cell? ⟨bb, off + i * 9 + 4, none⟩ = some (.string y.q.who) := HCX.out wr (Below.refl _ _) 4 (by omega)
    have c5 : wr.cell? ⟨bb, off + i * 9 + 5, none⟩ = some (.int .i64 y.q.entry) := HCX.out wr (Below.refl _ _) 5 (by omega)
    have c6 : wr.cell? ⟨bb, off + i * 9 + 6, none⟩ = some (.string y.q.reason) := HCX.out wr (Below.refl _ _) 6 (by omega)
    have c7 : wr.cell? ⟨bb, off + i * 9 + 7, none⟩ = some (.int .i64 y.q.exp) := HCX.out wr (Below.refl _ _) 7 (by omega)
    have c8 : wr.cell? ⟨bb, off + i * 9 + 8, none⟩ = some (.string y.who) := HCX.out wr (Below.refl _ _) 8 (by omega)
    cases hf : fewA y with
    | false =>
      rw [hf] at HX
      go_wp2_with fail
      refine (HX.out.2 _).mono ?_
      rintro e w3 ⟨rfl, hb3⟩
      have H3 := Lib.hid hb3
      clear hb3
      go_wp2_with fail
      go_roundw
      case rel => exact ⟨i + 1, R, lst, ar, cr, by omega, by go_num, rfl, HR0.out.1.below H3.out, HR0.out.2.1, HR0.out.2.2.1.below H3.out, HR0.out.2.2.2.1.below H3.out, HR0.out.2.2.2.2.trans (H3.out.mono (HS.out.1 _ HR0.out.2.2.2.2))⟩
      case measure => simp [intOf]; omega
    | true =>
      have hfs := few_sizes hf
      rw [hf] at HX
      have HF := Lib.hid hfs
      clear hf hfs
      go_wp2_with fail
      refine (HX.out.2 _).mono ?_
      rintro e w3 ⟨rfl, hb3⟩
      have H3 := Lib.hid hb3
      clear hb3 c0 c1 c2 c3 c4 c5 c6 c7 c8
      have c0 : w3.cell? ⟨bb, off + i * 9, none⟩ = some (.int .i64 y.kind) := HCX.out w3 (H3.out) 0 (by omega)
      have c1 : w3.cell? ⟨bb, off + i * 9 + 1, none⟩ = some (.int .i64 y.id) := HCX.out w3 (H3.out) 1 (by omega)
      have c2 : w3.cell? ⟨bb, off + i * 9 + 2, none⟩ = some (.int .i64 y.now) := HCX.out w3 (H3.out) 2 (by omega)
      have c3 : w3.cell? ⟨bb, off + i * 9 + 3, none⟩ = some (.int .i64 y.q.id) := HCX.out w3 (H3.out) 3 (by omega)
      have c4 : w3.cell? ⟨bb, off + i * 9 + 4, none⟩ = some (.string y.q.who) := HCX.out w3 (H3.out) 4 (by omega)
      have c5 : w3.cell? ⟨bb, off + i * 9 + 5, none⟩ = some (.int .i64 y.q.entry) := HCX.out w3 (H3.out) 5 (by omega)
      have c6 : w3.cell? ⟨bb, off + i * 9 + 6, none⟩ = some (.string y.q.reason) := HCX.out w3 (H3.out) 6 (by omega)
      have c7 : w3.cell? ⟨bb, off + i * 9 + 7, none⟩ = some (.int .i64 y.q.exp) := HCX.out w3 (H3.out) 7 (by omega)
      have c8 : w3.cell? ⟨bb, off + i * 9 + 8, none⟩ = some (.string y.who) := HCX.out w3 (H3.out) 8 (by omega)
      have hlr := fun W => lref21_any y W
      unfold acVal at hlr
      have HLR := Lib.hid hlr
      clear hlr
      go_wp2_with fail
      refine (HLR.out _).mono ?_
      rintro e w4 ⟨rfl, hb4⟩
      have hb34 := H3.out.trans (hb4.mono H3.out.size)
      have hdo := rdo21_any lst ar cr y (by have := HF.out; unfold maxLen; omega) (by have := HF.out; unfold maxLen; omega) w4 (HR0.out.2.2.1.below hb34) (by have := HR0.out.2.1.few; omega) (fun x hx => (HR0.out.2.1.st x hx).1)
      have H4 := Lib.hid (And.intro hdo hb34)
      clear hdo hb4 hb34
      go_wp2_with fail
      refine H4.out.1.mono ?_
      rintro e w5 ⟨ar', cr', rfl, hrl5, hb5, hfr⟩
      have hb35 := H4.out.2.trans (hb5.mono H4.out.2.size)
      have hbk5 := HR0.out.1.below hb35
      have hap5 := HR0.out.2.2.2.1.fresh H4.out.2 hb5 HR0.out.1.lt (fun g hg => (HR0.out.1.row g hg).2.1) hfr
      have hdo := do21_any hbk5 HR0.out.2.1.st HR0.out.2.1.few y (by have := HF.out; omega) (by have := HF.out; omega) (HS.out.1 _ (HR0.out.2.2.2.2.trans (hb35.mono (HS.out.1 _ HR0.out.2.2.2.2))))
      unfold acVal at hdo
      have hgd5 := HR0.out.2.1.behind (nk_kind y)
      have hro := fun (g : Nat) (hg : R = some g) => (HR0.out.1.row g hg).1
      obtain ⟨L, hL⟩ : ∃ L, L = Bk.after lst (nk y) := ⟨_, rfl⟩
      have hrl6 : RecsAt 6 enCs w5 ar' L := by rw [hL]; exact hrl5
      have hll : ((Bk.doI lst (nk y)).1.getD lst).length = L.length := by rw [hL]; rfl
      rw [← hL] at hgd5
      have H5 := Lib.hid (And.intro hdo (And.intro hgd5 (And.intro hrl6 (And.intro hap5 (And.intro hb35 (And.intro hL hro))))))
      rw [hll]
      clear hdo hgd5 hrl5 hrl6 hap5 hb35 hb5 hfr hbk5 hro hL hll
      clear c0 c1 c2 c3 c4 c5 c6 c7 c8
      have c0 : w5.cell? ⟨bb, off + i * 9, none⟩ = some (.int .i64 y.kind) := HCX.out w5 (H5.out.2.2.2.2.1) 0 (by omega)
      have c1 : w5.cell? ⟨bb, off + i * 9 + 1, none⟩ = some (.int .i64 y.id) := HCX.out w5 (H5.out.2.2.2.2.1) 1 (by omega)
      have c2 : w5.cell? ⟨bb, off + i * 9 + 2, none⟩ = some (.int .i64 y.now) := HCX.out w5 (H5.out.2.2.2.2.1) 2 (by omega)
      have c3 : w5.cell? ⟨bb, off + i * 9 + 3, none⟩ = some (.int .i64 y.q.id) := HCX.out w5 (H5.out.2.2.2.2.1) 3 (by omega)
      have c4 : w5.cell? ⟨bb, off + i * 9 + 4, none⟩ = some (.string y.q.who) := HCX.out w5 (H5.out.2.2.2.2.1) 4 (by omega)
      have c5 : w5.cell? ⟨bb, off + i * 9 + 5, none⟩ = some (.int .i64 y.q.entry) := HCX.out w5 (H5.out.2.2.2.2.1) 5 (by omega)
      have c6 : w5.cell? ⟨bb, off + i * 9 + 6, none⟩ = some (.string y.q.reason) := HCX.out w5 (H5.out.2.2.2.2.1) 6 (by omega)
      have c7 : w5.cell? ⟨bb, off + i * 9 + 7, none⟩ = some (.int .i64 y.q.exp) := HCX.out w5 (H5.out.2.2.2.2.1) 7 (by omega)
      have c8 : w5.cell? ⟨bb, off + i * 9 + 8, none⟩ = some (.string y.who) := HCX.out w5 (H5.out.2.2.2.2.1) 8 (by omega)
      go_wp2_with fail
      refine H5.out.1.mono ?_
      rintro e w6 ⟨v6, R6, rfl, hE6, hbk6, hk6, hR6⟩
      rw [← H5.out.2.2.2.2.2.1] at hbk6
      have hb6 := hk6.below (B := nb) (HR0.out.2.2.2.2.trans (H5.out.2.2.2.2.1.mono (HS.out.1 _ HR0.out.2.2.2.2))) (HS.out.1 _ (HR0.out.2.2.2.2.trans (H5.out.2.2.2.2.1.mono (HS.out.1 _ HR0.out.2.2.2.2)))) (Nat.le_refl _) H5.out.2.2.2.2.2.2
      have H6 := Lib.hid (And.intro hbk6 (And.intro (H5.out.2.2.1.kept (fun g o hg => (H5.out.2.2.2.1 g o hg).2) hk6) (And.intro (H5.out.2.2.2.1.kept hk6.size hR6) (And.intro hb6 hE6))))
      clear hE6 hbk6 hk6 hR6 hb6 c0 c1 c2 c3 c4 c5 c6 c7 c8
      have hbblt : bb < nb := HBB.out
      have hq6 : w6.cell? ⟨bb, off + i * 9 + 1, none⟩ = some (.int .i64 y.id) := by
        have h9 : wr.cell? ⟨bb, off + i * 9 + 1, none⟩ = some (.int .i64 y.id) := HCX.out wr (Below.refl _ _) 1 (by omega)
        rw [← h9]
        unfold World.cell?
        simp only
        rw [H6.out.2.2.2.1.block bb HBB.out, HR0.out.2.2.2.2.block bb HBB.out]
      have hbl6 : bb < w6.heap.size := Nat.lt_of_lt_of_le hbblt (HS.out.1 _ H6.out.2.2.2.1)
      obtain ⟨D, hD⟩ : ∃ D, D = (Bk.doI lst (nk y)).2 := ⟨_, rfl⟩
      obtain ⟨z, hz⟩ : ∃ z, z = Bk.stateI L y.id now := ⟨_, rfl⟩
      have hdc := doI_code lst (nk y)
      rw [← hD] at hdc
      have hE6 := H6.out.2.2.2.2
      rw [← hD] at hE6 ⊢
      have hcode := fun (W : World) (hb : Below w6.heap.size w6 W) => (code_any (hE6.below hb) hdc.1 hdc.2).mono (R' := fun e w' => e = .returned (.int .i64 D) ∧ Below W.heap.size W w') (by rintro e w' ⟨rfl, rfl⟩; exact ⟨rfl, Below.refl _ _⟩)
      have hsm := fun (W : World) (hb : Below w6.heap.size w6 W) => same21_any (H6.out.1.below hb) H5.out.2.1 ar' cr' (H6.out.2.1.below hb) who now
      have hs1 := fun (W : World) (hb : Below w6.heap.size w6 W) => (H6.out.1.below hb).state y.id now
      have hs2 := fun (W : World) (hb : Below w6.heap.size w6 W) => rstate_any L ar' cr' y.id now W (H6.out.2.1.below hb) (by have := H5.out.2.1.few; omega) (fun x hx => (H5.out.2.1.st x hx).1)
      rw [← hz] at hs1 hs2
      have HQ := Lib.hid (And.intro hcode (And.intro hsm (And.intro hs1 (And.intro hs2 (And.intro hq6 hbl6)))))
      clear hcode hsm hs1 hs2 hq6 hbl6 hD hz hdc hbblt
      have hDD : (D != D) = false := by simp
      have hzz : (z != z) = false := by simp
      rcases hE6 with ⟨hD0, rfl⟩ | ⟨hD0, fb, op, m, rfl, -⟩
      · have gD : (D == 0) = true := by simpa using hD0
        clear hD0
        go_wp2_with fail
        refine wp_region_held (S := fun W : World => (W.cell? ⟨bb, off + i * 9 + 1, none⟩ = some (.int .i64 y.id) ∧ bb < W.heap.size)) (by kernel_rfl) ?_
        change wpAnyH _ _ _ _ _ _ _ _ (World.drew _)
        generalize hv0 : World.drew _ = v0
        have E0 : (v0.cell? ⟨bb, off + i * 9 + 1, none⟩ = some (.int .i64 y.id) ∧ bb < v0.heap.size) := by rw [← hv0]; exact ⟨HQ.out.2.2.2.2.1, HQ.out.2.2.2.2.2⟩
        have F0 : Below w6.heap.size w6 v0 := by rw [← hv0]; exact ((Below.refl _ _).drew)
        clear hv0
        refine wpAnyH_take (i := 0) (v := ?_) rfl (by kernel_rfl) (by kernel_rfl) (by kernel_rfl) (fun _ _ _ h => h) (Or.inl ⟨by kernel_rfl, ?_⟩) E0 ?_
        rotate_left
        · (intro W hS; have k1 := hS.1; go_simp; try (with_reducible rfl))
        refine wpAnyH_take (i := 2) (v := ?_) rfl (by kernel_rfl) (by kernel_rfl) (by kernel_rfl) (fun _ _ _ h => h) (Or.inl ⟨by kernel_rfl, ?_⟩) E0 ?_
        rotate_left
        · (intro W hS; have k1 := hS.1; go_simp; try (with_reducible rfl))
        refine wpAnyH_ready (rs := [1]) (by kernel_rfl) (by simp) ?_
        refine AllReadyH.cons (i := 1) rfl (fun K hK => ?_) AllReadyH.nil
        go_simp
        refine (HQ.out.1 v0 F0).mono ?_
        rintro e v1 ⟨rfl, hb⟩
        have F1 := F0.trans (hb.mono F0.size)
        have E1 : (v1.cell? ⟨bb, off + i * 9 + 1, none⟩ = some (.int .i64 y.id) ∧ bb < v1.heap.size) := ⟨(hb.cell (p := ⟨bb, off + i * 9 + 1, none⟩) E0.2).trans E0.1, Nat.lt_of_lt_of_le E0.2 hb.size⟩
        refine hK.out _ _ E1 (fun _ => ?_)
        clear hK K hb
        refine wpAnyH_take (i := 3) (v := ?_) rfl (by kernel_rfl) (by kernel_rfl) (by kernel_rfl) (fun _ _ _ h => h) (Or.inl ⟨by kernel_rfl, ?_⟩) E1 ?_
        rotate_left
        · (intro W hS; have k1 := hS.1; go_simp; try (with_reducible rfl))
        refine wpAnyH_take (i := 4) (v := ?_) rfl (by kernel_rfl) (by kernel_rfl) (by kernel_rfl) (fun _ _ _ h => h) (Or.inl ⟨by kernel_rfl, ?_⟩) E1 ?_
        rotate_left
        · (intro W hS; have k1 := hS.1; go_simp; try (with_reducible rfl))
        refine wpAnyH_take (i := 5) (v := ?_) rfl (by kernel_rfl) (by kernel_rfl) (by kernel_rfl) (fun _ _ _ h => h) (Or.inl ⟨by kernel_rfl, ?_⟩) E1 ?_
        rotate_left
        · (intro W hS; have k1 := hS.1; go_simp; try (with_reducible rfl))
        refine wpAnyH_take (i := 6) (v := ?_) rfl (by kernel_rfl) (by kernel_rfl) (by kernel_rfl) (fun _ _ _ h => h) (Or.inl ⟨by kernel_rfl, ?_⟩) E1 ?_
        rotate_left
        · (intro W hS; have k1 := hS.1; go_simp; try (with_reducible rfl))
        refine wpAnyH_take (i := 7) (v := ?_) rfl (by kernel_rfl) (by kernel_rfl) (by kernel_rfl) (fun _ _ _ h => h) (Or.inl ⟨by kernel_rfl, ?_⟩) E1 ?_
        rotate_left
        · (intro W hS; have k1 := hS.1; go_simp; try (with_reducible rfl))
        refine wpAnyH_take (i := 8) (v := ?_) rfl (by kernel_rfl) (by kernel_rfl) (by kernel_rfl) (fun _ _ _ h => h) (Or.inl ⟨by kernel_rfl, ?_⟩) E1 ?_
        rotate_left
        · (intro W hS; have k1 := hS.1; go_simp; try (with_reducible rfl))
        refine wpAnyH_take (i := 9) (v := ?_) rfl (by kernel_rfl) (by kernel_rfl) (by kernel_rfl) (fun _ _ _ h => h) (Or.inl ⟨by kernel_rfl, ?_⟩) E1 ?_
        rotate_left
        · (intro W hS; have k1 := hS.1; go_simp; try (with_reducible rfl))
        refine wpAnyH_take (i := 10) (v := ?_) rfl (by kernel_rfl) (by kernel_rfl) (by kernel_rfl) (fun _ _ _ h => h) (Or.inl ⟨by kernel_rfl, ?_⟩) E1 ?_
        rotate_left
        · (intro W hS; have k1 := hS.1; go_simp; try (with_reducible rfl))
        refine wpAnyH_take (i := 11) (v := ?_) rfl (by kernel_rfl) (by kernel_rfl) (by kernel_rfl) (fun _ _ _ h => h) (Or.inl ⟨by kernel_rfl, ?_⟩) E1 ?_
        rotate_left
        · (intro W hS; have k1 := hS.1; go_simp; try (with_reducible rfl))
        refine wpAnyH_take (i := 12) (v := ?_) rfl (by kernel_rfl) (by kernel_rfl) (by kernel_rfl) (fun _ _ _ h => h) (Or.inl ⟨by kernel_rfl, ?_⟩) E1 ?_
        rotate_left
        · (intro W hS; have k1 := hS.1; go_simp; try (with_reducible rfl))
        refine wpAnyH_take (i := 13) (v := ?_) rfl (by kernel_rfl) (by kernel_rfl) (by kernel_rfl) (fun _ _ _ h => h) (Or.inl ⟨by kernel_rfl, ?_⟩) E1 ?_
        rotate_left
        · (intro W hS; have k1 := hS.1; go_simp; try (with_reducible rfl))
        refine wpAnyH_take (i := 14) (v := ?_) rfl (by kernel_rfl) (by kernel_rfl) (by kernel_rfl) (fun _ _ _ h => h) (Or.inl ⟨by kernel_rfl, ?_⟩) E1 ?_
        rotate_left
        · (intro W hS; have k1 := hS.1; go_simp; try (with_reducible rfl))
        refine wpAnyH_take (i := 15) (v := ?_) rfl (by kernel_rfl) (by kernel_rfl) (by kernel_rfl) (fun _ _ _ h => h) (Or.inl ⟨by kernel_rfl, ?_⟩) E1 ?_
        rotate_left
        · (intro W hS; have k1 := hS.1; go_simp; try (with_reducible rfl))
        refine wpAnyH_ready (rs := [16]) (by kernel_rfl) (by simp) ?_
        refine AllReadyH.cons (i := 16) rfl (fun K hK => ?_) AllReadyH.nil
        go_simp
        refine (HQ.out.2.1 v1 F1).mono ?_
        rintro e v2 ⟨rfl, hb⟩
        have F2 := F1.trans (hb.mono F1.size)
        have E2 : (v2.cell? ⟨bb, off + i * 9 + 1, none⟩ = some (.int .i64 y.id) ∧ bb < v2.heap.size) := ⟨(hb.cell (p := ⟨bb, off + i * 9 + 1, none⟩) E1.2).trans E1.1, Nat.lt_of_lt_of_le E1.2 hb.size⟩
        refine hK.out _ _ E2 (fun _ => ?_)
        clear hK K hb
        refine wpAnyH_take (i := 17) (v := ?_) rfl (by kernel_rfl) (by kernel_rfl) (by kernel_rfl) (fun _ _ _ h => h) (Or.inl ⟨by kernel_rfl, ?_⟩) E2 ?_
        rotate_left
        · (intro W hS; have k1 := hS.1; go_simp; try (with_reducible rfl))
        refine wpAnyH_take (i := 18) (v := ?_) rfl (by kernel_rfl) (by kernel_rfl) (by kernel_rfl) (fun _ _ _ h => h) (Or.inl ⟨by kernel_rfl, ?_⟩) E2 ?_
        rotate_left
        · (intro W hS; have k1 := hS.1; go_simp; try (with_reducible rfl))
        refine wpAnyH_take (i := 19) (v := ?_) rfl (by kernel_rfl) (by kernel_rfl) (by kernel_rfl) (fun _ _ _ h => h) (Or.inl ⟨by kernel_rfl, ?_⟩) E2 ?_
        rotate_left
        · (intro W hS; have k1 := hS.1; go_simp; try (with_reducible rfl))
        refine wpAnyH_take (i := 20) (v := ?_) rfl (by kernel_rfl) (by kernel_rfl) (by kernel_rfl) (fun _ _ _ h => h) (Or.inl ⟨by kernel_rfl, ?_⟩) E2 ?_
        rotate_left
        · (intro W hS; have k1 := hS.1; go_simp; try (with_reducible rfl))
        refine wpAnyH_take (i := 21) (v := ?_) rfl (by kernel_rfl) (by kernel_rfl) (by kernel_rfl) (fun _ _ _ h => h) (Or.inl ⟨by kernel_rfl, ?_⟩) E2 ?_
        rotate_left
        · (intro W hS; have k1 := hS.1; go_simp; try (with_reducible rfl))
        refine wpAnyH_take (i := 22) (v := ?_) rfl (by kernel_rfl) (by kernel_rfl) (by kernel_rfl) (fun _ _ _ h => h) (Or.inl ⟨by kernel_rfl, ?_⟩) E2 ?_
        rotate_left
        · (intro W hS; have k1 := hS.1; go_simp; try (with_reducible rfl))
        refine wpAnyH_take (i := 23) (v := ?_) rfl (by kernel_rfl) (by kernel_rfl) (by kernel_rfl) (fun _ _ _ h => h) (Or.inl ⟨by kernel_rfl, ?_⟩) E2 ?_
        rotate_left
        · (intro W hS; have k1 := hS.1; go_simp; try (with_reducible rfl))
        refine wpAnyH_take (i := 24) (v := ?_) rfl (by kernel_rfl) (by kernel_rfl) (by kernel_rfl) (fun _ _ _ h => h) (Or.inl ⟨by kernel_rfl, ?_⟩) E2 ?_
        rotate_left
        · (intro W hS; have k1 := hS.1; go_simp; try (with_reducible rfl))
        refine wpAnyH_take (i := 25) (v := ?_) rfl (by kernel_rfl) (by kernel_rfl) (by kernel_rfl) (fun _ _ _ h => h) (Or.inl ⟨by kernel_rfl, ?_⟩) E2 ?_
        rotate_left
        · (intro W hS; have k1 := hS.1; go_simp; try (with_reducible rfl))
        refine wpAnyH_take (i := 26) (v := ?_) rfl (by kernel_rfl) (by kernel_rfl) (by kernel_rfl) (fun _ _ _ h => h) (Or.inl ⟨by kernel_rfl, ?_⟩) E2 ?_
        rotate_left
        · (intro W hS; have k1 := hS.1; go_simp; try (with_reducible rfl))
        refine wpAnyH_take (i := 28) (v := ?_) rfl (by kernel_rfl) (by kernel_rfl) (by kernel_rfl) (fun _ _ _ h => h) (Or.inl ⟨by kernel_rfl, ?_⟩) E2 ?_
        rotate_left
        · (intro W hS; have k1 := hS.1; go_simp; try (with_reducible rfl))
        refine wpAnyH_take (i := 29) (v := ?_) rfl (by kernel_rfl) (by kernel_rfl) (by kernel_rfl) (fun _ _ _ h => h) (Or.inl ⟨by kernel_rfl, ?_⟩) E2 ?_
        rotate_left
        · (intro W hS; have k1 := hS.1; go_simp; try (with_reducible rfl))
        refine wpAnyH_take (i := 30) (v := ?_) rfl (by kernel_rfl) (by kernel_rfl) (by kernel_rfl) (fun _ _ _ h => h) (Or.inl ⟨by kernel_rfl, ?_⟩) E2 ?_
        rotate_left
        · (intro W hS; have k1 := hS.1; go_simp; try (with_reducible rfl))
        refine wpAnyH_take (i := 31) (v := ?_) rfl (by kernel_rfl) (by kernel_rfl) (by kernel_rfl) (fun _ _ _ h => h) (Or.inl ⟨by kernel_rfl, ?_⟩) E2 ?_
        rotate_left
        · (intro W hS; have k1 := hS.1; go_simp; try (with_reducible rfl))
        refine wpAnyH_take (i := 32) (v := ?_) rfl (by kernel_rfl) (by kernel_rfl) (by kernel_rfl) (fun _ _ _ h => h) (Or.inl ⟨by kernel_rfl, ?_⟩) E2 ?_
        rotate_left
        · (intro W hS; have k1 := hS.1; go_simp; try (with_reducible rfl))
        refine wpAnyH_take (i := 33) (v := ?_) rfl (by kernel_rfl) (by kernel_rfl) (by kernel_rfl) (fun _ _ _ h => h) (Or.inl ⟨by kernel_rfl, ?_⟩) E2 ?_
        rotate_left
        · (intro W hS; have k1 := hS.1; go_simp; try (with_reducible rfl))
        refine wpAnyH_take (i := 34) (v := ?_) rfl (by kernel_rfl) (by kernel_rfl) (by kernel_rfl) (fun _ _ _ h => h) (Or.inl ⟨by kernel_rfl, ?_⟩) E2 ?_
        rotate_left
        · (intro W hS; have k1 := hS.1; go_simp; try (with_reducible rfl))
        refine wpAnyH_ready (rs := [27]) (by kernel_rfl) (by simp) ?_
        refine AllReadyH.cons (i := 27) rfl (fun K hK => ?_) AllReadyH.nil
        go_simp
        refine (HQ.out.2.2.1 v2 F2).mono ?_
        rintro e v3 ⟨rfl, hb⟩
        have F3 := F2.trans (hb.mono F2.size)
        have E3 : (v3.cell? ⟨bb, off + i * 9 + 1, none⟩ = some (.int .i64 y.id) ∧ bb < v3.heap.size) := ⟨(hb.cell (p := ⟨bb, off + i * 9 + 1, none⟩) E2.2).trans E2.1, Nat.lt_of_lt_of_le E2.2 hb.size⟩
        refine hK.out _ _ E3 (fun _ => ?_)
        clear hK K hb
        refine wpAnyH_ready (rs := [35]) (by kernel_rfl) (by simp) ?_
        refine AllReadyH.cons (i := 35) rfl (fun K hK => ?_) AllReadyH.nil
        go_simp
        refine (HQ.out.2.2.2.1 v3 F3).mono ?_
        rintro e v4 ⟨rfl, hb⟩
        have F4 := F3.trans (hb.mono F3.size)
        have E4 : (v4.cell? ⟨bb, off + i * 9 + 1, none⟩ = some (.int .i64 y.id) ∧ bb < v4.heap.size) := ⟨(hb.cell (p := ⟨bb, off + i * 9 + 1, none⟩) E3.2).trans E3.1, Nat.lt_of_lt_of_le E3.2 hb.size⟩
        refine hK.out _ _ E4 (fun _ => ?_)
        clear hK K hb
        refine wpAnyH_take (i := 36) (v := ?_) rfl (by kernel_rfl) (by kernel_rfl) (by kernel_rfl) (fun _ _ _ h => h) (Or.inl ⟨by kernel_rfl, ?_⟩) E4 ?_
        rotate_left
        · (intro W hS; have k1 := hS.1; go_simp; try (with_reducible rfl))
        refine wpAnyH_take (i := 37) (v := ?_) rfl (by kernel_rfl) (by kernel_rfl) (by kernel_rfl) (fun _ _ _ h => h) (Or.inl ⟨by kernel_rfl, ?_⟩) E4 ?_
        rotate_left
        · (intro W hS; have k1 := hS.1; go_simp; try (with_reducible rfl))
        refine wpAnyH_done (by kernel_rfl) ?_ _
        go_simp
        have HE := Lib.hid F4
        clear F0 F4 E0 E1 E2 E3 E4
        go_wp2_with fail
        go_roundw
        case rel => exact ⟨i + 1, R6, L, ar', cr', by omega, by go_num, rfl, H6.out.1.below HE.out, H5.out.2.1, H6.out.2.1.below HE.out, H6.out.2.2.1.below HE.out, H6.out.2.2.2.1.trans (HE.out.mono (HS.out.1 _ H6.out.2.2.2.1))⟩
        case measure => simp [intOf]; omega
      · have gD : (D == 0) = false := by simpa using hD0
        clear hD0
        go_wp2_with fail
        refine wp_region_held (S := fun W : World => (W.cell? ⟨bb, off + i * 9 + 1, none⟩ = some (.int .i64 y.id) ∧ bb < W.heap.size)) (by kernel_rfl) ?_
        change wpAnyH _ _ _ _ _ _ _ _ (World.drew _)
        generalize hv0 : World.drew _ = v0
        have E0 : (v0.cell? ⟨bb, off + i * 9 + 1, none⟩ = some (.int .i64 y.id) ∧ bb < v0.heap.size) := by rw [← hv0]; exact ⟨HQ.out.2.2.2.2.1, HQ.out.2.2.2.2.2⟩
        have F0 : Below w6.heap.size w6 v0 := by rw [← hv0]; exact ((Below.refl _ _).drew)
        clear hv0
        refine wpAnyH_take (i := 0) (v := ?_) rfl (by kernel_rfl) (by kernel_rfl) (by kernel_rfl) (fun _ _ _ h => h) (Or.inl ⟨by kernel_rfl, ?_⟩) E0 ?_
        rotate_left
        · (intro W hS; have k1 := hS.1; go_simp; try (with_reducible rfl))
        refine wpAnyH_take (i := 2) (v := ?_) rfl (by kernel_rfl) (by kernel_rfl) (by kernel_rfl) (fun _ _ _ h => h) (Or.inl ⟨by kernel_rfl, ?_⟩) E0 ?_
        rotate_left
        · (intro W hS; have k1 := hS.1; go_simp; try (with_reducible rfl))
        refine wpAnyH_ready (rs := [1]) (by kernel_rfl) (by simp) ?_
        refine AllReadyH.cons (i := 1) rfl (fun K hK => ?_) AllReadyH.nil
        go_simp
        refine (HQ.out.1 v0 F0).mono ?_
        rintro e v1 ⟨rfl, hb⟩
        have F1 := F0.trans (hb.mono F0.size)
        have E1 : (v1.cell? ⟨bb, off + i * 9 + 1, none⟩ = some (.int .i64 y.id) ∧ bb < v1.heap.size) := ⟨(hb.cell (p := ⟨bb, off + i * 9 + 1, none⟩) E0.2).trans E0.1, Nat.lt_of_lt_of_le E0.2 hb.size⟩
        refine hK.out _ _ E1 (fun _ => ?_)
        clear hK K hb
        refine wpAnyH_take (i := 3) (v := ?_) rfl (by kernel_rfl) (by kernel_rfl) (by kernel_rfl) (fun _ _ _ h => h) (Or.inl ⟨by kernel_rfl, ?_⟩) E1 ?_
        rotate_left
        · (intro W hS; have k1 := hS.1; go_simp; try (with_reducible rfl))
        refine wpAnyH_take (i := 4) (v := ?_) rfl (by kernel_rfl) (by kernel_rfl) (by kernel_rfl) (fun _ _ _ h => h) (Or.inl ⟨by kernel_rfl, ?_⟩) E1 ?_
        rotate_left
        · (intro W hS; have k1 := hS.1; go_simp; try (with_reducible rfl))
        refine wpAnyH_take (i := 5) (v := ?_) rfl (by kernel_rfl) (by kernel_rfl) (by kernel_rfl) (fun _ _ _ h => h) (Or.inl ⟨by kernel_rfl, ?_⟩) E1 ?_
        rotate_left
        · (intro W hS; have k1 := hS.1; go_simp; try (with_reducible rfl))
        refine wpAnyH_take (i := 6) (v := ?_) rfl (by kernel_rfl) (by kernel_rfl) (by kernel_rfl) (fun _ _ _ h => h) (Or.inl ⟨by kernel_rfl, ?_⟩) E1 ?_
        rotate_left
        · (intro W hS; have k1 := hS.1; go_simp; try (with_reducible rfl))
        refine wpAnyH_take (i := 7) (v := ?_) rfl (by kernel_rfl) (by kernel_rfl) (by kernel_rfl) (fun _ _ _ h => h) (Or.inl ⟨by kernel_rfl, ?_⟩) E1 ?_
        rotate_left
        · (intro W hS; have k1 := hS.1; go_simp; try (with_reducible rfl))
        refine wpAnyH_take (i := 8) (v := ?_) rfl (by kernel_rfl) (by kernel_rfl) (by kernel_rfl) (fun _ _ _ h => h) (Or.inl ⟨by kernel_rfl, ?_⟩) E1 ?_
        rotate_left
        · (intro W hS; have k1 := hS.1; go_simp; try (with_reducible rfl))
        refine wpAnyH_take (i := 9) (v := ?_) rfl (by kernel_rfl) (by kernel_rfl) (by kernel_rfl) (fun _ _ _ h => h) (Or.inl ⟨by kernel_rfl, ?_⟩) E1 ?_
        rotate_left
        · (intro W hS; have k1 := hS.1; go_simp; try (with_reducible rfl))
        refine wpAnyH_take (i := 10) (v := ?_) rfl (by kernel_rfl) (by kernel_rfl) (by kernel_rfl) (fun _ _ _ h => h) (Or.inl ⟨by kernel_rfl, ?_⟩) E1 ?_
        rotate_left
        · (intro W hS; have k1 := hS.1; go_simp; try (with_reducible rfl))
        refine wpAnyH_take (i := 11) (v := ?_) rfl (by kernel_rfl) (by kernel_rfl) (by kernel_rfl) (fun _ _ _ h => h) (Or.inl ⟨by kernel_rfl, ?_⟩) E1 ?_
        rotate_left
        · (intro W hS; have k1 := hS.1; go_simp; try (with_reducible rfl))
        refine wpAnyH_take (i := 12) (v := ?_) rfl (by kernel_rfl) (by kernel_rfl) (by kernel_rfl) (fun _ _ _ h => h) (Or.inl ⟨by kernel_rfl, ?_⟩) E1 ?_
        rotate_left
        · (intro W hS; have k1 := hS.1; go_simp; try (with_reducible rfl))
        refine wpAnyH_take (i := 13) (v := ?_) rfl (by kernel_rfl) (by kernel_rfl) (by kernel_rfl) (fun _ _ _ h => h) (Or.inl ⟨by kernel_rfl, ?_⟩) E1 ?_
        rotate_left
        · (intro W hS; have k1 := hS.1; go_simp; try (with_reducible rfl))
        refine wpAnyH_take (i := 14) (v := ?_) rfl (by kernel_rfl) (by kernel_rfl) (by kernel_rfl) (fun _ _ _ h => h) (Or.inl ⟨by kernel_rfl, ?_⟩) E1 ?_
        rotate_left
        · (intro W hS; have k1 := hS.1; go_simp; try (with_reducible rfl))
        refine wpAnyH_take (i := 15) (v := ?_) rfl (by kernel_rfl) (by kernel_rfl) (by kernel_rfl) (fun _ _ _ h => h) (Or.inl ⟨by kernel_rfl, ?_⟩) E1 ?_
        rotate_left
        · (intro W hS; have k1 := hS.1; go_simp; try (with_reducible rfl))
        refine wpAnyH_ready (rs := [16]) (by kernel_rfl) (by simp) ?_
        refine AllReadyH.cons (i := 16) rfl (fun K hK => ?_) AllReadyH.nil
        go_simp
        refine (HQ.out.2.1 v1 F1).mono ?_
        rintro e v2 ⟨rfl, hb⟩
        have F2 := F1.trans (hb.mono F1.size)
        have E2 : (v2.cell? ⟨bb, off + i * 9 + 1, none⟩ = some (.int .i64 y.id) ∧ bb < v2.heap.size) := ⟨(hb.cell (p := ⟨bb, off + i * 9 + 1, none⟩) E1.2).trans E1.1, Nat.lt_of_lt_of_le E1.2 hb.size⟩
        refine hK.out _ _ E2 (fun _ => ?_)
        clear hK K hb
        refine wpAnyH_take (i := 17) (v := ?_) rfl (by kernel_rfl) (by kernel_rfl) (by kernel_rfl) (fun _ _ _ h => h) (Or.inl ⟨by kernel_rfl, ?_⟩) E2 ?_
        rotate_left
        · (intro W hS; have k1 := hS.1; go_simp; try (with_reducible rfl))
        refine wpAnyH_take (i := 18) (v := ?_) rfl (by kernel_rfl) (by kernel_rfl) (by kernel_rfl) (fun _ _ _ h => h) (Or.inl ⟨by kernel_rfl, ?_⟩) E2 ?_
        rotate_left
        · (intro W hS; have k1 := hS.1; go_simp; try (with_reducible rfl))
        refine wpAnyH_take (i := 19) (v := ?_) rfl (by kernel_rfl) (by kernel_rfl) (by kernel_rfl) (fun _ _ _ h => h) (Or.inl ⟨by kernel_rfl, ?_⟩) E2 ?_
        rotate_left
        · (intro W hS; have k1 := hS.1; go_simp; try (with_reducible rfl))
        refine wpAnyH_take (i := 20) (v := ?_) rfl (by kernel_rfl) (by kernel_rfl) (by kernel_rfl) (fun _ _ _ h => h) (Or.inl ⟨by kernel_rfl, ?_⟩) E2 ?_
        rotate_left
        · (intro W hS; have k1 := hS.1; go_simp; try (with_reducible rfl))
        refine wpAnyH_take (i := 21) (v := ?_) rfl (by kernel_rfl) (by kernel_rfl) (by kernel_rfl) (fun _ _ _ h => h) (Or.inl ⟨by kernel_rfl, ?_⟩) E2 ?_
        rotate_left
        · (intro W hS; have k1 := hS.1; go_simp; try (with_reducible rfl))
        refine wpAnyH_take (i := 22) (v := ?_) rfl (by kernel_rfl) (by kernel_rfl) (by kernel_rfl) (fun _ _ _ h => h) (Or.inl ⟨by kernel_rfl, ?_⟩) E2 ?_
        rotate_left
        · (intro W hS; have k1 := hS.1; go_simp; try (with_reducible rfl))
        refine wpAnyH_take (i := 23) (v := ?_) rfl (by kernel_rfl) (by kernel_rfl) (by kernel_rfl) (fun _ _ _ h => h) (Or.inl ⟨by kernel_rfl, ?_⟩) E2 ?_
        rotate_left
        · (intro W hS; have k1 := hS.1; go_simp; try (with_reducible rfl))
        refine wpAnyH_take (i := 24) (v := ?_) rfl (by kernel_rfl) (by kernel_rfl) (by kernel_rfl) (fun _ _ _ h => h) (Or.inl ⟨by kernel_rfl, ?_⟩) E2 ?_
        rotate_left
        · (intro W hS; have k1 := hS.1; go_simp; try (with_reducible rfl))
        refine wpAnyH_take (i := 25) (v := ?_) rfl (by kernel_rfl) (by kernel_rfl) (by kernel_rfl) (fun _ _ _ h => h) (Or.inl ⟨by kernel_rfl, ?_⟩) E2 ?_
        rotate_left
        · (intro W hS; have k1 := hS.1; go_simp; try (with_reducible rfl))
        refine wpAnyH_take (i := 26) (v := ?_) rfl (by kernel_rfl) (by kernel_rfl) (by kernel_rfl) (fun _ _ _ h => h) (Or.inl ⟨by kernel_rfl, ?_⟩) E2 ?_
        rotate_left
        · (intro W hS; have k1 := hS.1; go_simp; try (with_reducible rfl))
        refine wpAnyH_take (i := 28) (v := ?_) rfl (by kernel_rfl) (by kernel_rfl) (by kernel_rfl) (fun _ _ _ h => h) (Or.inl ⟨by kernel_rfl, ?_⟩) E2 ?_
        rotate_left
        · (intro W hS; have k1 := hS.1; go_simp; try (with_reducible rfl))
        refine wpAnyH_take (i := 29) (v := ?_) rfl (by kernel_rfl) (by kernel_rfl) (by kernel_rfl) (fun _ _ _ h => h) (Or.inl ⟨by kernel_rfl, ?_⟩) E2 ?_
        rotate_left
        · (intro W hS; have k1 := hS.1; go_simp; try (with_reducible rfl))
        refine wpAnyH_take (i := 30) (v := ?_) rfl (by kernel_rfl) (by kernel_rfl) (by kernel_rfl) (fun _ _ _ h => h) (Or.inl ⟨by kernel_rfl, ?_⟩) E2 ?_
        rotate_left
        · (intro W hS; have k1 := hS.1; go_simp; try (with_reducible rfl))
        refine wpAnyH_take (i := 31) (v := ?_) rfl (by kernel_rfl) (by kernel_rfl) (by kernel_rfl) (fun _ _ _ h => h) (Or.inl ⟨by kernel_rfl, ?_⟩) E2 ?_
        rotate_left
        · (intro W hS; have k1 := hS.1; go_simp; try (with_reducible rfl))
        refine wpAnyH_take (i := 32) (v := ?_) rfl (by kernel_rfl) (by kernel_rfl) (by kernel_rfl) (fun _ _ _ h => h) (Or.inl ⟨by kernel_rfl, ?_⟩) E2 ?_
        rotate_left
        · (intro W hS; have k1 := hS.1; go_simp; try (with_reducible rfl))
        refine wpAnyH_take (i := 33) (v := ?_) rfl (by kernel_rfl) (by kernel_rfl) (by kernel_rfl) (fun _ _ _ h => h) (Or.inl ⟨by kernel_rfl, ?_⟩) E2 ?_
        rotate_left
        · (intro W hS; have k1 := hS.1; go_simp; try (with_reducible rfl))
        refine wpAnyH_take (i := 34) (v := ?_) rfl (by kernel_rfl) (by kernel_rfl) (by kernel_rfl) (fun _ _ _ h => h) (Or.inl ⟨by kernel_rfl, ?_⟩) E2 ?_
        rotate_left
        · (intro W hS; have k1 := hS.1; go_simp; try (with_reducible rfl))
        refine wpAnyH_ready (rs := [27]) (by kernel_rfl) (by simp) ?_
        refine AllReadyH.cons (i := 27) rfl (fun K hK => ?_) AllReadyH.nil
        go_simp
        refine (HQ.out.2.2.1 v2 F2).mono ?_
        rintro e v3 ⟨rfl, hb⟩
        have F3 := F2.trans (hb.mono F2.size)
        have E3 : (v3.cell? ⟨bb, off + i * 9 + 1, none⟩ = some (.int .i64 y.id) ∧ bb < v3.heap.size) := ⟨(hb.cell (p := ⟨bb, off + i * 9 + 1, none⟩) E2.2).trans E2.1, Nat.lt_of_lt_of_le E2.2 hb.size⟩
        refine hK.out _ _ E3 (fun _ => ?_)
        clear hK K hb
        refine wpAnyH_ready (rs := [35]) (by kernel_rfl) (by simp) ?_
        refine AllReadyH.cons (i := 35) rfl (fun K hK => ?_) AllReadyH.nil
        go_simp
        refine (HQ.out.2.2.2.1 v3 F3).mono ?_
        rintro e v4 ⟨rfl, hb⟩
        have F4 := F3.trans (hb.mono F3.size)
        have E4 : (v4.cell? ⟨bb, off + i * 9 + 1, none⟩ = some (.int .i64 y.id) ∧ bb < v4.heap.size) := ⟨(hb.cell (p := ⟨bb, off + i * 9 + 1, none⟩) E3.2).trans E3.1, Nat.lt_of_lt_of_le E3.2 hb.size⟩
        refine hK.out _ _ E4 (fun _ => ?_)
        clear hK K hb
        refine wpAnyH_take (i := 36) (v := ?_) rfl (by kernel_rfl) (by kernel_rfl) (by kernel_rfl) (fun _ _ _ h => h) (Or.inl ⟨by kernel_rfl, ?_⟩) E4 ?_
        rotate_left
        · (intro W hS; have k1 := hS.1; go_simp; try (with_reducible rfl))
        refine wpAnyH_take (i := 37) (v := ?_) rfl (by kernel_rfl) (by kernel_rfl) (by kernel_rfl) (fun _ _ _ h => h) (Or.inl ⟨by kernel_rfl, ?_⟩) E4 ?_
        rotate_left
        · (intro W hS; have k1 := hS.1; go_simp; try (with_reducible rfl))
        refine wpAnyH_done (by kernel_rfl) ?_ _
        go_simp
        have HE := Lib.hid F4
        clear F0 F4 E0 E1 E2 E3 E4
        go_wp2_with fail
        go_roundw
        case rel => exact ⟨i + 1, R6, L, ar', cr', by omega, by go_num, rfl, H6.out.1.below HE.out, H5.out.2.1, H6.out.2.1.below HE.out, H6.out.2.2.1.below HE.out, H6.out.2.2.2.1.trans (HE.out.mono (HS.out.1 _ H6.out.2.2.2.1))⟩
        case measure => simp [intOf]; omega
end Go.Proofs.Ytnkkbinbeildmaa

namespace Go.Proofs.Ytnkkbinbeildmaa.requestPlaysLaw
open Go.ChangeShapes Go.WideShapes Go.ChangeAt Go.RowKit
open Go.ChangeMaps (open_string shut_string)

theorem own : ownKnob Try.prog.godebug = none := by kernel_rfl
set_option maxRecDepth 100000 in
theorem lifted (os : Os) (started : os.Started) (H : Type) (enc : TypeId × Value → H) :
    ReturnsInHanded {} Try.checked os 6 .any (Rows.requestPlaysSpec.pre6 enc Try.prog Try.f6 Rows.requestPlaysRow.domain false) (Rows.requestPlaysSpec.post enc Try.prog Try.f6 false true false false) := by
  refine returnsInHanded_of_change (C := Try.checked) own started (by kernel_rfl) Try.func6
    (ChangeSpec.witness6 (enc := enc) (C := Try.checked) false ⟨#[], #[.slice none 0 0, .string ⟨#[]⟩, .int .i64 0], []⟩ 8 (by kernel_rfl) (by kernel_rfl) (by kernel_rfl) (by kernel_rfl)) ?_
  intro W base args ds gs before hval0 hW hcnd _
  have hval : ∀ (j : Nat) t v, Try.f6.params[j]? = some t → args[j]? = some v → Value.okWide Try.prog W .any base t v := hval0
  have hW' := hW
  obtain ⟨p, q, hA0, hV, rfl, hfz, hnd⟩ := hW
  have hA : DataW.TrodAll enc Try.prog W 0 (fun _ => true) true Try.f6.params.toList args.toList ds p := hA0
  rw [Try.params6] at hA hval
  obtain ⟨v0, vs0, d0, ds0, p0, q0, hargs, rfl, rfl, h0, r0⟩ := trodAll_cons hA
  obtain ⟨v1, vs1, d1, ds1, p1, q1, rfl, rfl, rfl, h1, r1⟩ := trodAll_cons r0
  obtain ⟨v2, vs2, d2, ds2, p2, q2, rfl, rfl, rfl, h2, r2⟩ := trodAll_cons r1
  obtain ⟨rfl, rfl, rfl⟩ := trodAll_nil r2
  obtain rfl : args = #[v0, v1, v2] := by cases args; simp_all
  obtain ⟨rfl, rfl⟩ := trodVars_none hV
  obtain ⟨a0, len0, cap0, rfl⟩ := okWide_slice Try.underlying51 (hval 0 51 v0 rfl rfl)
  have hk0 := h0
  obtain ⟨fuel0, hf0⟩ := h0
  obtain ⟨s1, rfl, rfl, rfl, ws1⟩ := open_string Try.underlying9 (hval 1 9 v1 rfl rfl) h1
  obtain ⟨n2, rfl, rfl, rfl, ws2⟩ := open_int Try.underlying3 (hval 2 3 v2 rfl rfl) h2
  have hbd2 := ws2
  simp only [Lit.wf, Bool.and_eq_true, decide_eq_true_eq] at hbd2
  clear hA0 hval0
  simp only [List.append_nil] at hW'
  have hlt0 : ∀ x ∈ p0, x.block < W.heap.size := fun x hx => by simpa using hW'.lt x (by simp [hx])
  obtain ⟨ss0, hlen0, hmax0, hT0, hO0⟩ := acts21_of hf0 hlt0
  subst hlen0
  refine (bplays_law ss0 a0 cap0 hT0 hO0 hmax0 s1 (by simpa using ws1) n2 hbd2.1 hbd2.2 (w := W)).mono fun e W' ⟨he, hb⟩ => ?_
  subst he
  exact ⟨_, rfl, _, _, _, [], _, [], hW', trodAll_cons_mk (shut_bool Try.underlying4 _) trodAll_mk0, (trodAll_cons_mk (Below.trod laidOut (by kernel_rfl) (of_decide_eq_true (by kernel_rfl)) hk0 hb hlt0) (trodAll_cons_mk (shut_string Try.underlying9 ws1) (trodAll_cons_mk (shut_int Try.underlying3 ws2) trodAll_mk0))), rfl, hb.frame _, fun h => by cases h⟩
theorem over : Rows.requestPlaysRow.holds Try.pinned (OpenSpec.ofChange Rows.requestPlaysSpec) :=
  OpenClaim.holds_of_wide 6 Try.f6 rfl rfl rfl rfl rfl rfl rfl ⟨rfl, rfl, rfl, rfl, rfl⟩ rfl rfl rfl rfl rfl (by kernel_rfl) Try.func6 (by kernel_rfl)
    (of_decide_eq_true (by kernel_rfl)) (by unfold Func.isWrapper; first | (rw [if_pos (by decide +kernel)]; kernel_rfl) | (rw [if_neg (by decide +kernel)]; exact ⟨rfl, rfl⟩))
    (fun os started H enc _ => lifted os started H enc)
end Go.Proofs.Ytnkkbinbeildmaa.requestPlaysLaw

namespace Go.Proofs.Ytnkkbinbeildmaa
theorem requestPlays_said : Rows.RequestPlaysSaid := requestPlaysLaw.over
end Go.Proofs.Ytnkkbinbeildmaa
