/- lockboxref12.Last at what a store wrote. -/
import Derived.Test.YtdmbombjkinboaaGreatYParse
import Derived.Test.YtdmbombjkinboaaGreatFRScan
namespace Go.Proofs.YtdmbombjkinboaaGreat
open Go.RowKit
open Dk Sg Fr

namespace Sg
/-- The first list of the greatest epoch. -/
def pickS (l : List Ent) (c : Ent) : Ent := l.foldl (fun c e => if c.epoch < e.epoch then e else c) c
theorem pickS_snoc (l : List Ent) (e c : Ent) : pickS (l ++ [e]) c = if (pickS l c).epoch < e.epoch then e else pickS l c := by
  unfold pickS; rw [List.foldl_append]; rfl
theorem pickS_spec : ∀ (l : List Ent) (c : Ent), c.epoch ≤ (pickS l c).epoch ∧ (∀ e ∈ l, e.epoch ≤ (pickS l c).epoch) ∧ (pickS l c = c ∨ pickS l c ∈ l)
  | [], c => ⟨Nat.le_refl _, fun e h => (by cases h), .inl rfl⟩
  | e :: l, c => by
    obtain ⟨h1, h2, h3⟩ := pickS_spec l (if c.epoch < e.epoch then e else c)
    have hp : pickS (e :: l) c = pickS l (if c.epoch < e.epoch then e else c) := rfl
    rw [hp]
    by_cases hc : c.epoch < e.epoch
    · rw [if_pos hc] at h1 h2 h3 ⊢
      refine ⟨by omega, fun d hd => ?_, .inr ?_⟩
      · rcases List.mem_cons.1 hd with rfl | hd
        · exact h1
        · exact h2 d hd
      · rcases h3 with h3 | h3
        · rw [h3]; exact List.mem_cons_self ..
        · exact List.mem_cons_of_mem _ h3
    · rw [if_neg hc] at h1 h2 h3 ⊢
      refine ⟨h1, fun d hd => ?_, ?_⟩
      · rcases List.mem_cons.1 hd with rfl | hd
        · omega
        · exact h2 d hd
      · rcases h3 with h3 | h3
        · exact .inl h3
        · exact .inr (List.mem_cons_of_mem _ h3)
/-- What is the list of the greatest epoch, behind so many extents. -/
def lastE (Ls : Nat → List Ent) : Nat → Ent
  | 0 => ⟨0, []⟩
  | j + 1 => pickS (Ls j) (lastE Ls j)
theorem Img.last {n N : Nat} {X : List ByteArray} {Ls : Nat → List Ent} {c : Nat × Ent} {l : List (Nat × List ByteArray)} {T : List (Nat × Nat)} (h : Img n X N Ls c l T) : lastE Ls 2 = c.2 := by
  show pickS (Ls 1) (pickS (Ls 0) ⟨0, []⟩) = c.2
  obtain ⟨a1, a2, a3⟩ := pickS_spec (Ls 0) ⟨0, []⟩
  obtain ⟨b1, b2, b3⟩ := pickS_spec (Ls 1) (pickS (Ls 0) ⟨0, []⟩)
  have e0 := h.ents 0 (by decide)
  have e1 := h.ents 1 (by decide)
  have key : ∀ e, (e ∈ Ls 0 ∨ e ∈ Ls 1) → c.2.epoch ≤ e.epoch → e = c.2 := fun e he hc => by
    rcases he with he | he
    · have h1 := (e0 e he).2
      exact (h1.2 (Nat.le_antisymm h1.1 hc)).2
    · have h1 := (e1 e he).2
      exact (h1.2 (Nat.le_antisymm h1.1 hc)).2
  rcases h.cnt with hc | ⟨hc1, hc2⟩
  · have n0 : ∀ e ∈ Ls 0, False := fun e he => by have := (e0 e he).2.1; have h3 := (e0 e he).1.one; rw [hc] at this; exact absurd (Nat.le_trans h3 this) (by simp)
    have n1 : ∀ e ∈ Ls 1, False := fun e he => by have := (e1 e he).2.1; have h3 := (e1 e he).1.one; rw [hc] at this; exact absurd (Nat.le_trans h3 this) (by simp)
    rcases b3 with b3 | b3
    · rw [b3]
      rcases a3 with a3 | a3
      · rw [a3, hc]
      · exact (n0 _ a3).elim
    · exact (n1 _ b3).elim
  · have hge : c.2.epoch ≤ (pickS (Ls 1) (pickS (Ls 0) ⟨0, []⟩)).epoch := by
      have : c.1 = 0 ∨ c.1 = 1 := by omega
      rcases this with e | e
      · rw [e] at hc2; exact Nat.le_trans (a2 _ hc2) b1
      · rw [e] at hc2; exact b2 _ hc2
    have hone := (h.ents c.1 hc1 c.2 hc2).1.one
    rcases b3 with b3 | b3
    · rw [b3] at hge ⊢
      rcases a3 with a3 | a3
      · rw [a3] at hge
        exact absurd (Nat.le_trans hone hge) (by simp)
      · exact key _ (.inl a3) hge
    · exact key _ (.inr b3) hge
end Sg
/-- A box of a list: what it says, and its row of numbers. -/
def ListAt (w : World) (g B : Nat) (e : Ent) : Prop := ∃ a cap, w.heap[g]? = some (.cells #[.int .i64 (e.epoch : Int), .slice a e.exts.length cap] 46 (0, 0)) ∧ OwnN B w a cap e.exts
theorem ListAt.call {w w' : World} {g B : Nat} {e : Ent} (h : ListAt w g B e) (hb : Below w.heap.size w w') : ListAt w' g B e := by
  obtain ⟨a, cap, h1, h2⟩ := h
  exact ⟨a, cap, (hb.block g (Array.getElem?_eq_some_iff.1 h1).1).trans h1, h2.call hb⟩
set_option maxRecDepth 100000 in
set_option maxHeartbeats 4000000 in
theorem rlast_any {n N : Nat} {X : List ByteArray} {Ls : Nat → List Ent} {c : Nat × Ent} {l : List (Nat × List ByteArray)} (hi : Img n X N Ls c l []) (hz : Sz X) (a0 : Option Addr) (cap0 : Nat) (w : World) (hT : TextsAt w a0 X) :
    Calls Tryz.prog 19 #[.slice a0 X.length cap0] w fun r w' => ∃ a cap, r = .returned (.agg #[.int .i64 (c.2.epoch : Int), .slice a c.2.exts.length cap]) ∧ OwnN w.heap.size w' a cap c.2.exts ∧ Below w.heap.size w w' := by
  have hlen := hi.len
  have hn3 := hi.n3
  have hn64 := hi.n64
  rw [hlen]
  have H := Lib.hid (And.intro hi (And.intro hz (And.intro hT hlen)))
  clear hi hz hT hlen
  go_enter Tryz.func19, Tryz.ntmps19
  go_upto_region 2 with fail
  have hb1 : Below w.heap.size w ((w.alloc (.cells #[.int .i64 0, .slice none 0 0] 46)).alloc (.cells #[.int .i64 0, .slice none 0 0] 46)) := ((Below.refl _ _).alloc (Nat.le_refl _) _).alloc (by simp) _
  have hg2 : ((w.alloc (.cells #[.int .i64 0, .slice none 0 0] 46)).alloc (.cells #[.int .i64 0, .slice none 0 0] 46)).heap[w.heap.size]? = some (.cells #[.int .i64 0, .slice none 0 0] 46 (0, 0)) := (Below.heap_alloc _ _ _ (by simp)).trans (heap_alloc_new _ _)
  have hg3 : ((w.alloc (.cells #[.int .i64 0, .slice none 0 0] 46)).alloc (.cells #[.int .i64 0, .slice none 0 0] 46)).heap[w.heap.size + 1]? = some (.cells #[.int .i64 0, .slice none 0 0] 46 (0, 0)) := by
    have := heap_alloc_new (w.alloc (.cells #[.int .i64 0, .slice none 0 0] 46)) (.cells #[.int .i64 0, .slice none 0 0] 46)
    rwa [World.size_alloc] at this
  generalize World.alloc (World.alloc w _) _ = w1 at *
  have H1 := Lib.hid (And.intro hb1 (And.intro hg2 hg3))
  clear hb1 hg2 hg3
  go_wp2_with fail
  go_loopw [4, 5, 6, 7] (fun jv _ _ _ wr => ∃ j : Nat, j ≤ 2 ∧ jv = .int .i64 j ∧ wr.heap[w.heap.size]? = some (.cells #[.int .i64 0, .slice none 0 0] 46 (0, 0)) ∧ ListAt wr (w.heap.size + 1) (w.heap.size + 2) (lastE Ls j) ∧ Below w.heap.size w wr) (fun jv _ _ _ _ => 2 - (intOf jv).toNat)
  case atStart => exact ⟨0, by omega, rfl, H1.out.2.1, ⟨none, 0, H1.out.2.2, OwnN.nil _ _⟩, H1.out.1⟩
  case round =>
    obtain ⟨j, hj, rfl, hg2, hla, hb⟩ := hrel
    have hszr := (Array.getElem?_eq_some_iff.1 hg2).1
    have HR := Lib.hid (And.intro hg2 (And.intro hla hb))
    clear hg2 hla hb
    by_cases hlt : j < 2
    · have hjn : (j : Int) < (n : Int) := by omega
      have hjl : j < X.length := by have := H.out.2.2.2; omega
      obtain ⟨gt, ot, rfl, hgt, hct⟩ := (H.out.2.2.1.below HR.out.2.2) j hjl
      have hw := (H.out.1.lists j hlt).wh
      have hex : X.getD j ByteArray.empty = exAt X j := rfl
      rw [hex] at hct
      have hsc := rscan_any (exAt X j) (by have := H.out.2.1.at j; omega) _ _ _ hw.scan
      rw [List.length_map] at hsc
      obtain ⟨K, hK⟩ : ∃ K, K = (Ls j).length := ⟨_, rfl⟩
      obtain ⟨t, ht⟩ : ∃ t, t = exAt X j := ⟨_, rfl⟩
      obtain ⟨m, hm⟩ : ∃ m, m = (frms ((Ls j).map entB)).length := ⟨_, rfl⟩
      have hK9 : K ≤ 7281 := by
        have h1 := hw.scan.le
        have h2 := H.out.2.1.at j
        have h3 : (exAt X j).data.toList.length = (exAt X j).size := rfl
        rw [List.length_map, ← hK] at h1
        omega
      rw [← hK, ← ht, ← hm] at hsc
      rw [← ht] at hct
      have HT := Lib.hid (And.intro hsc (And.intro hK ht))
      clear hsc hK ht hw hex hm
      go_wp2_with fail
      refine (HT.out.1 _).mono ?_
      rintro r w2 ⟨ba, bc, rfl, hob, hb2⟩
      have hg2 := (hb2.block w.heap.size (by omega)).trans HR.out.1
      have hla := HR.out.2.1.call hb2
      have hb := HR.out.2.2.trans (hb2.mono HR.out.2.2.size)
      have hba : Below w2.heap.size w2 (w2.alloc (.cells #[.slice ba K bc, .int .i64 (m : Int), .int .i64 4] 78)) := (Below.refl _ _).alloc (Nat.le_refl _) _
      have hg5 := heap_alloc_new w2 (.cells #[.slice ba K bc, .int .i64 (m : Int), .int .i64 4] 78)
      have hsz2 := hb2.size
      have H2 := Lib.hid (And.intro hg2 (And.intro (hla.call hba) (And.intro (hb.trans (hba.mono hb.size)) (And.intro hg5 (And.intro (hob.call hba) ((hba.block w.heap.size (by omega)).trans hg2))))))
      clear hg2 hla hb hba hg5 hob hb2
      go_upto_region 6 with fail
      generalize World.alloc w2 _ = w3 at *
      have hg3l : w.heap.size + 1 < wr.heap.size := by obtain ⟨_, _, h, -⟩ := HR.out.2.1; exact (Array.getElem?_eq_some_iff.1 h).1
      go_wp2_with fail
      clear hct
      obtain ⟨W0, hW0⟩ : ∃ W0, W0 = wr := ⟨_, rfl⟩
      subst hW0
      go_loopw [6, 7] (fun iv _ wr => ∃ i : Nat, i ≤ K ∧ iv = .int .i64 i ∧ wr.heap[w.heap.size]? = some (.cells #[.int .i64 0, .slice none 0 0] 46 (0, 0)) ∧ ListAt wr (w.heap.size + 1) (w.heap.size + 2) (pickS ((Ls j).take i) (lastE Ls j)) ∧ Below w.heap.size w wr ∧ wr.heap[w2.heap.size]? = some (.cells #[.slice ba K bc, .int .i64 (m : Int), .int .i64 4] 78 (0, 0)) ∧ OwnT W0.heap.size wr ba bc (((Ls j).map entB).map str)) (fun iv _ _ => K - (intOf iv).toNat)
      case atStart => exact ⟨0, by omega, rfl, H2.out.2.2.2.2.2, H2.out.2.1, H2.out.2.2.1, H2.out.2.2.2.1, H2.out.2.2.2.2.1⟩
      case round =>
        obtain ⟨i, hi, rfl, hg2, hla, hb, hg5, hob⟩ := hrel
        have e5 : wr.cell? ⟨w2.heap.size, 0, none⟩ = some (.slice ba K bc) := by rw [cell_of_row _ _ _ _ _ _ hg5]; rfl
        have hg5l := (Array.getElem?_eq_some_iff.1 hg5).1
        have HI := Lib.hid (And.intro hg2 (And.intro hla (And.intro hb (And.intro hg5 hob))))
        clear hg2 hla hb hg5 hob
        by_cases hik : i < K
        · obtain ⟨e, he⟩ : ∃ e, (Ls j)[i]? = some e := ⟨_, List.getElem?_eq_getElem (by have := HT.out.2.1; omega)⟩
          have hblen : (((Ls j).map entB).map str).length = K := by rw [List.length_map, List.length_map]; exact HT.out.2.1.symm
          obtain ⟨gb, ob, rfl, hgb, hcb⟩ := HI.out.2.2.2.2.texts i (by rw [hblen]; exact hik)
          have hcv : (((Ls j).map entB).map str).getD i ByteArray.empty = str (entB e) := by
            rw [List.getD_eq_getElem?_getD, List.getElem?_map, List.getElem?_map, he]; rfl
          rw [hcv] at hcb
          have hok := (H.out.1.ents j hlt e (List.mem_of_getElem? he)).1
          have hpa := fun W => rparse_any e n hok W
          obtain ⟨text, htext⟩ : ∃ text, text = str (entB e) := ⟨_, rfl⟩
          rw [← htext] at hcb hpa
          obtain ⟨M, hM⟩ : ∃ M, M = e.exts.length := ⟨_, rfl⟩
          obtain ⟨ep, hep⟩ : ∃ ep, ep = e.epoch := ⟨_, rfl⟩
          rw [← hM, ← hep] at hpa
          have HE := Lib.hid (And.intro he (And.intro hpa (And.intro hM hep)))
          clear he hpa hM hep htext hcv hblen hok
          go_wp2_with fail
          refine (HE.out.2.1 _).mono ?_
          rintro r w5 ⟨a7, cap7, rfl, hon7, hb5⟩
          have hba : Below w5.heap.size w5 (w5.alloc (.cells #[.int .i64 (ep : Int), .slice a7 M cap7] 46)) := (Below.refl _ _).alloc (Nat.le_refl _) _
          have hg7 := heap_alloc_new w5 (.cells #[.int .i64 (ep : Int), .slice a7 M cap7] 46)
          have hbb := hb5.trans (hba.mono hb5.size)
          have hla := HI.out.2.1.call hbb
          obtain ⟨ao, co, ho3, hoo⟩ := id hla
          have hsz5 := hb5.size
          have hg3r : w.heap.size + 1 < wr.heap.size := by obtain ⟨_, _, h, -⟩ := HI.out.2.1; exact (Array.getElem?_eq_some_iff.1 h).1
          obtain ⟨o0, o1, of⟩ := box2 ho3
          obtain ⟨v0, v1, -⟩ := box2 hg7
          obtain ⟨oe, hoe⟩ : ∃ oe, oe = (pickS ((Ls j).take i) (lastE Ls j)).epoch := ⟨_, rfl⟩
          rw [← hoe] at o0
          have H5 := Lib.hid (And.intro (hon7.call hba) (And.intro hbb (And.intro hla (And.intro hg7 (And.intro hoe (And.intro ho3 hoo))))))
          clear hon7 hba hg7 hbb hla ho3 hoo hb5 hoe
          go_upto_region 10 with fail
          generalize World.alloc w5 _ = w6 at *
          have hpk : pickS ((Ls j).take (i + 1)) (lastE Ls j) = if (pickS ((Ls j).take i) (lastE Ls j)).epoch < e.epoch then e else pickS ((Ls j).take i) (lastE Ls j) := by
            rw [List.take_add_one, HE.out.1]
            show pickS ((Ls j).take i ++ [e]) (lastE Ls j) = _
            rw [pickS_snoc]
          rw [← HE.out.2.2.2, ← H5.out.2.2.2.2.1] at hpk
          have HP := Lib.hid hpk
          clear hpk
          have hg2' := (H5.out.2.1.block w.heap.size (by omega)).trans HI.out.1
          have hg5' := (H5.out.2.1.block w2.heap.size hg5l).trans HI.out.2.2.2.1
          have hob' := HI.out.2.2.2.2.call H5.out.2.1
          have hb' := HI.out.2.2.1.trans (H5.out.2.1.mono HI.out.2.2.1.size)
          have H6 := Lib.hid (And.intro hg2' (And.intro hg5' (And.intro hob' hb')))
          clear hg2' hg5' hob' hb'
          by_cases hgt : oe < ep
          · have hgtd : (oe : Int) < (ep : Int) := by omega
            go_wp2_with fail
            go_roundw
            case rel =>
              have hso : ∀ g, g ≠ w.heap.size + 1 → ((w6.setCell ⟨w.heap.size + 1, 0, none⟩ (.int .i64 (ep : Int))).setCell ⟨w.heap.size + 1, 1, none⟩ (.slice a7 M cap7)).heap[g]? = w6.heap[g]? := fun g hg => (heap_setCell_other _ _ g _ hg).trans (heap_setCell_other _ _ g _ hg)
              refine ⟨i + 1, by omega, by go_num, (hso _ (by omega)).trans H6.out.1, ?_, (H6.out.2.2.2.setCell (p := ⟨w.heap.size + 1, 0, none⟩) (Nat.le_succ _) _).setCell (p := ⟨w.heap.size + 1, 1, none⟩) (Nat.le_succ _) _, (hso _ (by omega)).trans H6.out.2.1, own_keep H6.out.2.2.1 fun g hg => hso g (fun ee => by have := (World.ownsRow.lt H6.out.2.2.1 g hg).1; omega)⟩
              rw [HP.out, if_pos hgt]
              refine ⟨a7, cap7, ?_, ?_⟩
              · rw [← HE.out.2.2.2, ← HE.out.2.2.1]
                exact heap_setCell_same _ _ 1 _ _ _ (heap_setCell_same _ _ 0 _ _ _ H5.out.2.2.2.2.2.1)
              · have hon := H5.out.1
                refine own_up (own_keep (ownsRow_base hon (Nat.zero_le _)) fun g hg => hso g (fun ee => ?_)) fun g hg => ?_
                · have := (World.ownsRow.lt hon g hg).1; omega
                · have := (World.ownsRow.lt hon g hg).1; omega
            case measure => simp [intOf]; omega
          · have hgtd : ¬ (oe : Int) < (ep : Int) := by omega
            go_wp2_with fail
            go_roundw
            case rel =>
              refine ⟨i + 1, by omega, by go_num, H6.out.1, ?_, H6.out.2.2.2, H6.out.2.1, H6.out.2.2.1⟩
              rw [HP.out, if_neg hgt]
              exact H5.out.2.2.1
            case measure => simp [intOf]; omega
        · obtain rfl : i = K := by omega
          go_wp2_with fail
          go_roundw
          case rel =>
            refine ⟨j + 1, by omega, by go_num, HI.out.1, ?_, HI.out.2.2.1⟩
            have := HI.out.2.1
            rw [HT.out.2.1, List.take_length] at this
            exact this
          case measure => simp [intOf]; omega
    · obtain rfl : j = 2 := by omega
      have hla := HR.out.2.1
      rw [H.out.1.last] at hla
      obtain ⟨ao, co, ho3, hoo⟩ := hla
      obtain ⟨M, hM⟩ : ∃ M, M = c.2.exts.length := ⟨_, rfl⟩
      obtain ⟨ep, hep⟩ : ∃ ep, ep = c.2.epoch := ⟨_, rfl⟩
      rw [← hM, ← hep] at ho3
      have HM := Lib.hid (And.intro hM hep)
      obtain ⟨o0, o1, -⟩ := box2 ho3
      obtain ⟨r0, r1, rf⟩ := box2 HR.out.1
      have HO := Lib.hid hoo
      clear hoo hM hep ho3
      go_wp2_with fail
      have hgE := heap_setCell_same _ _ 1 _ _ (.slice ao M co) (heap_setCell_same _ _ 0 _ _ (.int .i64 (ep : Int)) HR.out.1)
      have hoth : ∀ g, g ≠ w.heap.size → ((wr.setCell ⟨w.heap.size, 0, none⟩ (.int .i64 (ep : Int))).setCell ⟨w.heap.size, 1, none⟩ (.slice ao M co)).heap[g]? = wr.heap[g]? := fun g hg => (heap_setCell_other _ _ g _ hg).trans (heap_setCell_other _ _ g _ hg)
      have hbE : Below w.heap.size w ((wr.setCell ⟨w.heap.size, 0, none⟩ (.int .i64 (ep : Int))).setCell ⟨w.heap.size, 1, none⟩ (.slice ao M co)) := (HR.out.2.2.setCell (p := ⟨w.heap.size, 0, none⟩) (Nat.le_refl _) _).setCell (p := ⟨w.heap.size, 1, none⟩) (Nat.le_refl _) _
      generalize ((wr.setCell ⟨w.heap.size, 0, none⟩ (.int .i64 (ep : Int))).setCell ⟨w.heap.size, 1, none⟩ (.slice ao M co)) = wE at *
      obtain ⟨v0, v1, -⟩ := box2 (show wE.heap[w.heap.size]? = some (.cells #[.int .i64 (ep : Int), .slice ao M co] 46 (0, 0)) from hgE)
      refine bodyPost_ret (v := .agg #[.int .i64 (ep : Int), .slice ao M co]) (by simp [results, Tryz.results19, go_sem, v0, v1]) rfl ?_
      refine ⟨ao, co, by rw [HM.out.1, HM.out.2], ?_, hbE⟩
      refine own_up (own_keep (ownsRow_base HO.out (Nat.zero_le _)) fun g hg => hoth g (fun ee => ?_)) fun g hg => ?_
      · have := (World.ownsRow.lt HO.out g hg).1; omega
      · have := (World.ownsRow.lt HO.out g hg).1; omega
end Go.Proofs.YtdmbombjkinboaaGreat
