/- Merged by program: lockboxref12.Records at what a store wrote. | lockboxref12.Head. | lockboxref12.Right at what a store wrote. -/
import Derived.Test.YtdmbombjkinboaaGreatYLast
import Derived.Test.YtdmbombjkinboaaGreatCRefWrite
namespace Go.Proofs.YtdmbombjkinboaaGreat
open Go.RowKit
open Dk Sg Fr

/-- append of one text; where the row lies then. -/
theorem wpList_append_text3 {ops : Array Oper} {rest : List Oper} {o : Oper} {act : Act} {Q : Exit → Act → World → Prop} {w : World} (hgd : o.guard = none) (s x : Operand)
    (ho : o.op = .call { callee := .builtin .append, args := #[s, x], argTypes := #[30, 30] })
    {B : Nat} {a : Option Addr} {cap0 : Nat} {l : List ByteArray} (hown : OwnT B w a cap0 l) (n : Nat) (hn : l.length = n) (hs : act.eval s = .slice a n cap0)
    (g c' : Nat) (c : ByteArray) (hx : act.eval x = .slice (some ⟨g, 0, none⟩) 1 c') (hc : w.heap[g]? = some (.cells #[.string c] 9 (0, 0)))
    (hlen : n < 1000000) (hbase : B ≤ w.heap.size)
    (h : ∀ g cap w', OwnT B w' (some ⟨g, 0, none⟩) cap (l ++ [c]) → w.grownBy w' (Value.slice a l.length cap0).ownBlock → ((Value.slice a l.length cap0).ownBlock = some g ∨ g = w.heap.size) → wpList Tryz.prog ops Q rest (act.put o.dst (.slice (some ⟨g, 0, none⟩) (n + 1) cap)) w') : wpList Tryz.prog ops Q (o :: rest) act w := by
  subst hn
  obtain ⟨i0, hi0, hz0, hz1, hz2⟩ := info_parts Tryz.info_str
  refine wpList_append_lies w hgd s x 30 ho B 9 i0 _ 1 16 Tryz.underlying30 hi0 hz0 hz1 hz2 rfl (by decide) (.slice a l.length cap0) l.length (scells l) hs hown ⟨g, 0, none⟩ 1 c' [.string c] hx rfl
    (fun j u hj => ?_) (by simp [Value.oneCell']) (by decide) (by unfold maxLen; omega) (by omega) hbase w.heap.size rfl (fun g cap w' h1 h2 h3 _ => h g cap w' ?_ h2 h3)
  · rw [show (⟨g, 0, none⟩ : Addr).add j = ⟨g, j, none⟩ by unfold Addr.add; split <;> simp_all, cell_of_row _ _ _ _ _ _ hc]
    simpa using hj
  · unfold OwnT
    rw [scells_snoc, List.length_append]; exact h1

namespace Sg
theorem Img.seg {n N : Nat} {X : List ByteArray} {Ls : Nat → List Ent} {c : Nat × Ent} {l : List (Nat × List ByteArray)} (h : Img n X N Ls c l []) {i x : Nat} {rs : List ByteArray} (hi : l[i]? = some (x, rs)) :
    c.2.exts[i]? = some x ∧ x < n ∧ Wh (exAt X x) (headB i (ahead l i) :: rs.map (·.data.toList)) := by
  refine ⟨?_, (h.mem (List.mem_of_getElem? hi)).2, (h.segs i x rs hi).wh⟩
  rw [← h.exts, List.getElem?_map, hi]; rfl
theorem seg_texts (b : List UInt8) (rs : List ByteArray) : (b :: rs.map (·.data.toList)).map str = str b :: rs := by
  rw [List.map_cons, List.map_map]
  congr 1
  exact (List.map_congr_left (fun r _ => str_of r)).trans (List.map_id _)
theorem flat_next {l : List (Nat × List ByteArray)} {i x : Nat} {rs : List ByteArray} (h : l[i]? = some (x, rs)) : flat (l.take (i + 1)) = flat (l.take i) ++ rs := by
  rw [List.take_add_one, h]; exact flat_snoc _ _
theorem flat_take_le (l : List (Nat × List ByteArray)) (i : Nat) : (flat (l.take i)).length ≤ (flat l).length := by
  conv => rhs; rw [← List.take_append_drop i l]
  unfold flat; rw [List.flatMap_append, List.length_append]; omega
end Sg

set_option maxRecDepth 100000 in
set_option maxHeartbeats 4000000 in
theorem rrecs_any {n N : Nat} {X : List ByteArray} {Ls : Nat → List Ent} {c : Nat × Ent} {l : List (Nat × List ByteArray)} (hi : Img n X N Ls c l []) (hz : Sz X) (hf : (Sg.flat l).length ≤ 100000) (a0 : Option Addr) (cap0 : Nat) (w : World) (hT : TextsAt w a0 X) :
    Calls Tryz.prog 21 #[.slice a0 X.length cap0] w fun r w' => ∃ a cap, r = .returned (.slice a (Sg.flat l).length cap) ∧ OwnT w.heap.size w' a cap (Sg.flat l) ∧ Below w.heap.size w w' := by
  have hlen := hi.len
  have hn64 := hi.n64
  have hnum := hi.num
  have hMl : l.length = c.2.exts.length := by rw [← hi.exts, List.length_map]
  obtain ⟨M, hM⟩ : ∃ M, M = l.length := ⟨_, rfl⟩
  obtain ⟨ep, hep⟩ : ∃ ep, ep = c.2.epoch := ⟨_, rfl⟩
  have hla := rlast_any hi hz a0 cap0 w hT
  rw [hlen, ← hMl, ← hM, ← hep] at hla
  rw [hlen]
  have hMn : M ≤ 62 := by omega
  have H := Lib.hid (And.intro hi (And.intro hz (And.intro hT (And.intro hlen (And.intro hf (And.intro hla (And.intro hM hMl)))))))
  clear hi hz hT hlen hf hla hM hMl hep hnum
  go_enter Tryz.func21, Tryz.ntmps21
  go_wp2_with fail
  refine H.out.2.2.2.2.2.1.mono ?_
  rintro r w1 ⟨ao, co, rfl, hol, hb1⟩
  have hba : Below w1.heap.size w1 (w1.alloc (.cells #[.int .i64 (ep : Int), .slice ao M co] 46)) := (Below.refl _ _).alloc (Nat.le_refl _) _
  have hg := heap_alloc_new w1 (.cells #[.int .i64 (ep : Int), .slice ao M co] 46)
  have hb2 := hb1.trans (hba.mono hb1.size)
  have hol2 := hol.call hba
  have hT2 := H.out.2.2.1.below hb2
  have hsz2 : (w1.alloc (.cells #[.int .i64 (ep : Int), .slice ao M co] 46)).heap.size = w1.heap.size + 1 := by simp
  have H1 := Lib.hid (And.intro hg (And.intro hb2 (And.intro hol2 (And.intro hT2 hsz2))))
  clear hol hb1 hba hg hb2 hol2 hT2 hsz2
  go_upto_region 3 with fail
  generalize World.alloc w1 _ = w2 at *
  have hsz2 := H1.out.2.2.2.2
  go_wp2_with fail
  go_loopw [3, 5, 6, 7] (fun ov iv _ _ wr => ∃ (i : Nat) (ad : Option Addr) (cp : Nat), i ≤ M ∧ iv = .int .i64 i ∧ ov = .slice ad (Sg.flat (l.take i)).length cp ∧ OwnT w2.heap.size wr ad cp (Sg.flat (l.take i)) ∧ Below w2.heap.size w2 wr) (fun _ iv _ _ _ => M - (intOf iv).toNat)
  case atStart => exact ⟨0, none, 0, by omega, rfl, rfl, OwnT.nil _ _, Below.refl _ _⟩
  case round =>
    obtain ⟨i, ad, cp, hi, rfl, rfl, ho, hb⟩ := hrel
    obtain ⟨q, hq⟩ : ∃ q, q = (Sg.flat (l.take i)).length := ⟨_, rfl⟩
    rw [← hq]
    have hszr := hb.size
    have hg2 := (hb.block w1.heap.size (by omega)).trans H1.out.1
    obtain ⟨b0, b1, bf⟩ := box2 hg2
    have hol2 := H1.out.2.2.1.call hb
    have hT2 := H1.out.2.2.2.1.below hb
    have HR := Lib.hid (And.intro ho (And.intro hb (And.intro hg2 (And.intro hol2 (And.intro hT2 hq)))))
    clear ho hb hg2 hol2 hT2
    by_cases hlt : i < M
    · obtain ⟨⟨x, rs⟩, hs⟩ : ∃ s, l[i]? = some s := ⟨_, List.getElem?_eq_getElem (by have := H.out.2.2.2.2.2.2.1; omega)⟩
      obtain ⟨s1, s2, s3⟩ := H.out.1.seg hs
      obtain ⟨ga, rfl, hca, hga, -⟩ := HR.out.2.2.2.1.at s1
      have hxl : x < X.length := by have := H.out.2.2.2.1; omega
      obtain ⟨gt, ot, rfl, hgt, hct⟩ := HR.out.2.2.2.2.1 x hxl
      have hex : X.getD x ByteArray.empty = exAt X x := rfl
      rw [hex] at hct
      have hsc := rscan_any (exAt X x) (by have := H.out.2.1.at x; omega) _ _ _ s3.scan
      rw [List.length_cons, List.length_map, seg_texts] at hsc
      obtain ⟨K, hK⟩ : ∃ K, K = rs.length := ⟨_, rfl⟩
      obtain ⟨t, ht⟩ : ∃ t, t = exAt X x := ⟨_, rfl⟩
      obtain ⟨m, hm⟩ : ∃ m, m = (frms (headB i (ahead l i) :: rs.map (·.data.toList))).length := ⟨_, rfl⟩
      obtain ⟨hd, hhd⟩ : ∃ hd, hd = str (headB i (ahead l i)) := ⟨_, rfl⟩
      have hnx := flat_next hs
      have hqK : q + K ≤ 100000 := by
        have h1 := flat_take_le l (i + 1)
        rw [hnx, List.length_append, ← hq, ← hK] at h1
        have := H.out.2.2.2.2.1
        omega
      rw [← hK, ← ht, ← hm, ← hhd] at hsc
      rw [← ht] at hct
      have hxn : (x : Int) < (n : Int) := by omega
      have HT := Lib.hid (And.intro hsc (And.intro hK (And.intro ht hnx)))
      clear hsc hK ht s3 hex hm hhd hs s1 hnx hq
      go_wp2_with fail
      refine (HT.out.1 _).mono ?_
      rintro r w4 ⟨ba, bc, rfl, hob, hb4⟩
      have hba : Below w4.heap.size w4 (w4.alloc (.cells #[.slice ba (K + 1) bc, .int .i64 (m : Int), .int .i64 4] 78)) := (Below.refl _ _).alloc (Nat.le_refl _) _
      have hg5 := heap_alloc_new w4 (.cells #[.slice ba (K + 1) bc, .int .i64 (m : Int), .int .i64 4] 78)
      have hsz4 := hb4.size
      have hsz5 : (w4.alloc (.cells #[.slice ba (K + 1) bc, .int .i64 (m : Int), .int .i64 4] 78)).heap.size = w4.heap.size + 1 := by simp
      have hbb := hb4.trans (hba.mono hb4.size)
      have H5 := Lib.hid (And.intro hg5 (And.intro (hob.call hba) (And.intro hbb (And.intro (HR.out.1.call hbb) (And.intro (HR.out.2.1.trans (hbb.mono HR.out.2.1.size)) hsz5)))))
      clear hg5 hba hob hb4 hbb hsz5
      go_upto_region 7 with fail
      generalize World.alloc w4 _ = w5 at *
      have hsz5 := H5.out.2.2.2.2.2
      go_wp2_with fail
      clear hct hca b0 b1 bf hgt hga
      obtain ⟨W0, hW0⟩ : ∃ W0, W0 = wr := ⟨_, rfl⟩
      subst hW0
      go_loopw [3, 7] (fun ov kv wr => ∃ (k : Nat) (ad' : Option Addr) (cp' : Nat), k ≤ K ∧ kv = .int .i64 ((k + 1 : Nat) : Int) ∧ ov = .slice ad' (q + k) cp' ∧ OwnT w2.heap.size wr ad' cp' (Sg.flat (l.take i) ++ rs.take k) ∧ Below w2.heap.size w2 wr ∧ (∀ g, W0.heap.size ≤ g → g < w5.heap.size → wr.heap[g]? = w5.heap[g]?) ∧ w5.heap.size ≤ wr.heap.size ∧ (∀ g, (Value.slice ad' (Sg.flat (l.take i) ++ rs.take k).length cp').ownBlock = some g → g < W0.heap.size ∨ w5.heap.size ≤ g)) (fun _ kv _ => K + 1 - (intOf kv).toNat)
      case atStart =>
        refine ⟨0, ad, cp, Nat.zero_le _, rfl, rfl, ?_, H5.out.2.2.2.2.1, fun g _ _ => rfl, Nat.le_refl _, fun g hg => .inl ?_⟩
        · rw [List.take_zero, List.append_nil]; exact H5.out.2.2.2.1
        · rw [List.take_zero, List.append_nil] at hg; exact (OwnT.lt HR.out.1 hg).2
      case round =>
        obtain ⟨k, ad', cp', hk, rfl, rfl, ho, hb, hsm, hszw, how⟩ := hrel
        have hg6 := (hsm w4.heap.size (by omega) (by omega)).trans H5.out.1
        have e5 : wr.cell? ⟨w4.heap.size, 0, none⟩ = some (.slice ba (K + 1) bc) := by rw [cell_of_row _ _ _ _ _ _ hg6]; rfl
        have hob : OwnT W0.heap.size wr ba bc (hd :: rs) := own_keep H5.out.2.1 fun g hg => hsm g (OwnT.lt H5.out.2.1 hg).1 (OwnT.lt H5.out.2.1 hg).2
        have hLk : (Sg.flat (l.take i) ++ rs.take k).length = q + k := by
          rw [List.length_append, ← HR.out.2.2.2.2.2, List.length_take]; have := HT.out.2.1; omega
        have hbsz := hb.size
        have HI := Lib.hid (And.intro ho (And.intro hb (And.intro hsm (And.intro how (And.intro hob hLk)))))
        clear ho hb hsm how hob hLk hg6
        obtain ⟨kk, hkk⟩ : ∃ kk, kk = k + 1 := ⟨_, rfl⟩
        rw [← hkk]
        by_cases hik : k < K
        · obtain ⟨r, hr⟩ : ∃ r, rs[k]? = some r := ⟨_, List.getElem?_eq_getElem (by have := HT.out.2.1; omega)⟩
          obtain ⟨gb, ob, rfl, hgb, hcb⟩ := HI.out.2.2.2.2.1.texts kk (by rw [List.length_cons]; have := HT.out.2.1; omega)
          have hcv : (hd :: rs).getD kk ByteArray.empty = r := by
            rw [hkk, List.getD_cons_succ, List.getD_eq_getElem?_getD, hr]; rfl
          rw [hcv] at hcb
          have hkK : (kk : Int) < (K : Int) + 1 := by omega
          have hba : Below wr.heap.size wr (wr.alloc (.cells #[.string r] 9)) := (Below.refl _ _).alloc (Nat.le_refl _) _
          have HK := Lib.hid (And.intro hr (And.intro hba hkk))
          clear hr hcv hba hkk
          go_wp2_with (at_builtin; (refine wpList_append_text3 rfl (.tmp 33) (.tmp 39) rfl (OwnT.call HI.out.1 HK.out.2.1) (q + k) HI.out.2.2.2.2.2 rfl wr.heap.size 1 r rfl (heap_alloc_new wr _) (by omega) (by simp; omega) ?_; intro gn capn wn hon hgn hwn; have HN := Lib.hid (And.intro hon (And.intro hgn hwn)); clear hon hgn hwn))
          go_roundw
          case rel =>
            obtain ⟨hon, hgn, hwn⟩ := HN.out
            have hszn := hgn.size
            rw [World.size_alloc] at hszn
            refine ⟨k + 1, some ⟨gn, 0, none⟩, capn, by omega, by rw [HK.out.2.2]; go_num, by rw [Nat.add_assoc], ?_, ?_, ?_, by omega, ?_⟩
            · rw [List.take_add_one, HK.out.1, ← List.append_assoc]; exact hon
            · exact (HI.out.2.1.trans (HK.out.2.1.mono hbsz)).grown hgn (by rw [World.size_alloc]; omega) (fun g hg => (OwnT.lt HI.out.1 hg).1)
            · intro g h1 h2
              refine (hgn.block g (by rw [World.size_alloc]; omega) (fun ee => ?_)).trans ((HK.out.2.1.block g (by omega)).trans (HI.out.2.2.1 g h1 h2))
              rcases HI.out.2.2.2.1 g ee.symm with h3 | h3 <;> omega
            · intro g hg
              injection hg with hg
              subst hg
              rcases hwn with h3 | h3
              · exact HI.out.2.2.2.1 _ h3
              · right; rw [h3, World.size_alloc]; show w5.heap.size ≤ wr.heap.size + 1; omega
          case measure => simp [intOf]; omega
        · obtain rfl : k = K := by omega
          have hkK : ¬ (kk : Int) < (k : Int) + 1 := by omega
          clear hkk
          go_wp2_with fail
          go_roundw
          case rel =>
            refine ⟨i + 1, ad', cp', by omega, by go_num, ?_, ?_, HI.out.2.1⟩
            · rw [HT.out.2.2.2, List.length_append, ← HR.out.2.2.2.2.2, ← HT.out.2.1]
            · have := HI.out.1
              rw [HT.out.2.1, List.take_length] at this
              rw [HT.out.2.2.2]; exact this
          case measure => simp [intOf]; omega
    · obtain rfl : i = M := by omega
      go_wp2_with fail
      go_ret
      have h1 := HR.out.1
      have hq := HR.out.2.2.2.2.2
      have hll := H.out.2.2.2.2.2.2.1
      rw [hll, List.take_length] at h1 hq
      refine ⟨ad, cp, by rw [hq]; rfl, h1.base H1.out.2.1.size, H1.out.2.1.trans (HR.out.2.1.mono H1.out.2.1.size)⟩
end Go.Proofs.YtdmbombjkinboaaGreat
namespace Go.Proofs.YtdmbombjkinboaaGreat
open Go.RowKit
open Dk Sg Fr

def headC (n k : Nat) : Array Value := #[.int .i64 2, .int .i64 0, .string ⟨#[115, 101, 103]⟩, .slice none 0 0, .int .i64 1, .int .i64 (n : Int), .string ⟨#[]⟩, .slice none 0 0, .int .i64 1, .int .i64 (k : Int), .string ⟨#[]⟩, .slice none 0 0]
theorem headC_lies {w : World} {b n k : Nat} {t : TypeId} {S : Nat → Prop} (h : w.heap[b]? = some (.cells (headC n k) t (0, 0))) (hS : S b) : Lies w S (some ⟨b, 0, none⟩) [txtIt segT, numIt n, numIt k] := by
  refine ⟨by show 3 ≤ maxLen; unfold maxLen; decide, fun _ => ⟨b, 0, rfl, lt_of_heap h, hS, fun j x hx => ?_⟩⟩
  have hc : ∀ i, w.cell? ⟨b, i, none⟩ = (headC n k)[i]? := Lib.cell_of_heap h
  match j, hx with
  | 0, hx => injection hx with hx; subst hx; exact ⟨hc _, hc _, hc _, hc _⟩
  | 1, hx => injection hx with hx; subst hx; exact ⟨hc _, hc _, hc _, hc _⟩
  | 2, hx => injection hx with hx; subst hx; exact ⟨hc _, hc _, hc _, hc _⟩
  | j + 3, hx => simp at hx
theorem headIt_leaf (n k : Nat) : ∀ x ∈ [txtIt segT, numIt n, numIt k], Leaf x := fun x hx => by
  rcases List.mem_cons.1 hx with rfl | hx
  · exact txtIt_leaf (by decide)
  rcases List.mem_cons.1 hx with rfl | hx
  · exact numIt_leaf _
  rcases List.mem_singleton.1 hx with rfl
  exact numIt_leaf _
theorem rhead_write (n k b : Nat) (hn : n < 256) (hk : k < 256 ^ 4) (w : World) {t : TypeId} (h : w.heap[b]? = some (.cells (headC n k) t (0, 0))) :
    Calls Tryz.prog 61 #[.agg #[.int .i64 3, .int .i64 0, .string ⟨#[]⟩, .slice (some ⟨b, 0, none⟩) 3 3]] w fun e w' => e = .returned (.string (str (headB n k))) ∧ Below w.heap.size w w' := by
  have hl := head_len n k hn hk
  exact rwrite_any _ (.mk 3 0 ⟨#[]⟩ (some ⟨b, 0, none⟩) 3 [txtIt segT, numIt n, numIt k]) (Nat.le_refl _) (fun _ => True) 6 w ⟨Nat.zero_le _, headC_lies h trivial, leaf_all (headIt_leaf n k) _ _⟩ (may_head n k hn hk) (by show (headB n k).length ≤ 1000000; omega)
set_option maxRecDepth 100000 in
set_option maxHeartbeats 4000000 in
theorem rhead_any (n k : Nat) (hn : n < 256) (hk : k < 256 ^ 4) (w : World) :
    Calls Tryz.prog 37 #[.int .i64 (n : Int), .int .i64 (k : Int)] w fun e w' => e = .returned (.string (headS n k)) ∧ Below w.heap.size w w' := by
  obtain ⟨hl1, hl2⟩ := head_len n k hn hk
  have hwr := fun (w : World) (t : TypeId) (b : Nat) (h : w.heap[b]? = some (.cells (headC n k) t (0, 0))) => rhead_write n k b hn hk w h
  have hwp := fun w' => rwrap_any (str (headB n k)) (by rw [str_size]; omega) w'
  have hm : Fr.may (str (headB n k)).data.toList := ⟨hl1, by show (headB n k).length ≤ 32768; omega⟩
  rw [wrapS_ok hm, wrapE_ok hm] at hwp
  obtain ⟨hS, hhS⟩ : ∃ hS, hS = headS n k := ⟨_, rfl⟩
  rw [show str (frm (str (headB n k)).data.toList) = headS n k from rfl, ← hhS] at hwp
  rw [← hhS]
  obtain ⟨T, hT⟩ : ∃ T, T = str (headB n k) := ⟨_, rfl⟩
  rw [← hT] at hwr hwp
  have H := Lib.hid (And.intro hwr hwp)
  clear hwr hwp hm hl1 hl2 hhS hT
  go_enter Tryz.func37, Tryz.ntmps37
  go_wp2_with fail
  refine (H.out.1 _ 105 w.heap.size ((Below.heap_alloc _ _ _ (by simp)).trans (heap_alloc_new w _))).mono ?_
  rintro e w2 ⟨rfl, hb2⟩
  have hb := (((Below.refl w.heap.size w).alloc (Nat.le_refl _) _).alloc (by simp) _).trans (hb2.mono (by simp; omega))
  have HB := Lib.hid hb
  clear hb hb2
  go_wp2_with fail
  refine (H.out.2 _).mono ?_
  rintro e w3 ⟨rfl, hb3⟩
  have HC := Lib.hid (HB.out.trans (hb3.mono HB.out.size))
  clear hb3
  go_wp2_with fail
  go_ret
  exact ⟨rfl, HC.out⟩
end Go.Proofs.YtdmbombjkinboaaGreat
namespace Go.Proofs.YtdmbombjkinboaaGreat
open Go.RowKit
open Dk Sg Fr

namespace Sg
theorem Wh.front {t : ByteArray} {n k : Nat} {bs : List (List UInt8)} (h : Wh t (headB n k :: bs)) : (headS n k).size ≤ t.size ∧ t.extract 0 (headS n k).size = headS n k := by
  have hd : t.data.toList = frm (headB n k) ++ frms bs := by rw [h.1, frms_cons]
  have hs : (headS n k).size = (frm (headB n k)).length := by unfold headS; rw [str_size]
  constructor
  · rw [hs]
    have : t.size = t.data.toList.length := rfl
    rw [this, hd, List.length_append]; omega
  · apply ext_list
    rw [dextract_data, hd, hs, List.take_left]; rfl
end Sg

theorem field_why (a : Option Addr) (k c : Nat) (m e : Int) (W : World) : (Instr.field 78 (.agg #[.slice a k c, .int .i64 m, .int .i64 e]) 2).run Tryz.prog W = .ok (.int .i64 e) W := by kernel_rfl
attribute [local go_sem] field_why
set_option maxRecDepth 100000 in
set_option maxHeartbeats 4000000 in
theorem rright_any {n N : Nat} {X : List ByteArray} {Ls : Nat → List Ent} {c : Nat × Ent} {l : List (Nat × List ByteArray)} (hi : Img n X N Ls c l []) (hne : l ≠ []) (hz : Sz X) (hf : (Sg.flat l).length ≤ 100000) (a0 : Option Addr) (cap0 : Nat) (w : World) (hT : TextsAt w a0 X) :
    Calls Tryz.prog 20 #[.slice a0 X.length cap0] w fun r w' => r = .returned (.bool true) ∧ Below w.heap.size w w' := by
  have hlen := hi.len
  have hn64 := hi.n64
  have hn3 := hi.n3
  have hnum := hi.num
  have hMl : l.length = c.2.exts.length := by rw [← hi.exts, List.length_map]
  obtain ⟨M, hM⟩ : ∃ M, M = l.length := ⟨_, rfl⟩
  have hM0 : 0 < M := by rw [hM]; exact List.length_pos_iff.2 hne
  obtain ⟨ep, hep⟩ : ∃ ep, ep = c.2.epoch := ⟨_, rfl⟩
  have hla := rlast_any hi hz a0 cap0 w hT
  rw [hlen, ← hMl, ← hM, ← hep] at hla
  rw [hlen]
  have hMn : M ≤ 62 := by omega
  have H := Lib.hid (And.intro hi (And.intro hz (And.intro hT (And.intro hlen (And.intro hf (And.intro hla (And.intro hM hMl)))))))
  clear hi hz hT hlen hf hla hM hMl hep hnum hne
  go_enter Tryz.func20, Tryz.ntmps20
  go_wp2_with fail
  refine H.out.2.2.2.2.2.1.mono ?_
  rintro r w1 ⟨ao, co, rfl, hol, hb1⟩
  have hba : Below w1.heap.size w1 (w1.alloc (.cells #[.int .i64 (ep : Int), .slice ao M co] 46)) := (Below.refl _ _).alloc (Nat.le_refl _) _
  have hg := heap_alloc_new w1 (.cells #[.int .i64 (ep : Int), .slice ao M co] 46)
  have hb2 := hb1.trans (hba.mono hb1.size)
  have hol2 := hol.call hba
  have hT2 := H.out.2.2.1.below hb2
  have hsz2 : (w1.alloc (.cells #[.int .i64 (ep : Int), .slice ao M co] 46)).heap.size = w1.heap.size + 1 := by simp
  have H1 := Lib.hid (And.intro hg (And.intro hb2 (And.intro hol2 (And.intro hT2 hsz2))))
  clear hol hb1 hba hg hb2 hol2 hT2 hsz2
  go_upto_region 3 with fail
  generalize World.alloc w1 _ = w2 at *
  have hsz2 := H1.out.2.2.2.2
  go_wp2_with fail
  go_loopw [5] (fun jv wr => ∃ j : Nat, j ≤ 2 ∧ jv = .int .i64 j ∧ Below w2.heap.size w2 wr) (fun jv _ => 2 - (intOf jv).toNat)
  case atStart => exact ⟨0, by omega, rfl, Below.refl _ _⟩
  case round =>
    obtain ⟨j, hj, rfl, hb⟩ := hrel
    have HR := Lib.hid hb
    clear hb
    by_cases hlt : j < 2
    · have hjn : (j : Int) < (n : Int) := by omega
      have hjl : j < X.length := by have := H.out.2.2.2.1; omega
      obtain ⟨gt, ot, rfl, hgt, hct⟩ := (H1.out.2.2.2.1.below HR.out) j hjl
      have hw := (H.out.1.lists j hlt).wh
      have hex : X.getD j ByteArray.empty = exAt X j := rfl
      rw [hex] at hct
      have hsc := rscan_any (exAt X j) (by have := H.out.2.1.at j; omega) _ _ _ hw.scan
      rw [List.length_map] at hsc
      obtain ⟨K, hK⟩ : ∃ K, K = (Ls j).length := ⟨_, rfl⟩
      obtain ⟨t, ht⟩ : ∃ t, t = exAt X j := ⟨_, rfl⟩
      obtain ⟨m, hm⟩ : ∃ m, m = (frms ((Ls j).map entB)).length := ⟨_, rfl⟩
      rw [← hK, ← ht, ← hm] at hsc
      rw [← ht] at hct
      have HT := Lib.hid hsc
      clear hsc hK ht hw hex hm
      go_wp2_with fail
      refine (HT.out _).mono ?_
      rintro r w3 ⟨ba, bc, rfl, -, hb3⟩
      have HB := Lib.hid (HR.out.trans (hb3.mono HR.out.size))
      clear hb3 hct
      go_wp2_with fail
      go_roundw
      case rel => exact ⟨j + 1, by omega, by go_num, HB.out⟩
      case measure => simp [intOf]; omega
    · have hj2 : ¬ (j : Int) < 2 := by omega
      clear hlt
      go_wp2_with fail
      obtain ⟨W1, hW1⟩ : ∃ W1, W1 = wr := ⟨_, rfl⟩
      subst hW1
      go_loopw [3, 6, 7, 8] (fun nv iv _ _ wr => ∃ i : Nat, i ≤ M ∧ iv = .int .i64 i ∧ nv = .int .i64 (ahead l i : Nat) ∧ Below w2.heap.size w2 wr) (fun _ iv _ _ _ => M - (intOf iv).toNat)
      case atStart => exact ⟨0, by omega, rfl, rfl, HR.out⟩
      case round =>
        obtain ⟨i, hi, rfl, rfl, hb⟩ := hrel
        obtain ⟨A, hA⟩ : ∃ A, A = ahead l i := ⟨_, rfl⟩
        rw [← hA]
        have hszr := hb.size
        have hg2 := (hb.block w1.heap.size (by omega)).trans H1.out.1
        obtain ⟨b0, b1, bf⟩ := box2 hg2
        have HS := Lib.hid (And.intro hb (And.intro hg2 (And.intro (H1.out.2.2.1.call hb) (And.intro (H1.out.2.2.2.1.below hb) hA))))
        clear hb hg2 hA
        by_cases hlt : i < M
        · obtain ⟨⟨x, rs⟩, hs⟩ : ∃ s, l[i]? = some s := ⟨_, List.getElem?_eq_getElem (by have := H.out.2.2.2.2.2.2.1; omega)⟩
          obtain ⟨s1, s2, s3⟩ := H.out.1.seg hs
          obtain ⟨ga, rfl, hca, hga, -⟩ := HS.out.2.2.1.at s1
          have hxl : x < X.length := by have := H.out.2.2.2.1; omega
          obtain ⟨gt, ot, rfl, hgt, hct⟩ := HS.out.2.2.2.1 x hxl
          have hex : X.getD x ByteArray.empty = exAt X x := rfl
          rw [hex] at hct
          obtain ⟨hfs, hfe⟩ := s3.front
          have hsc := rscan_any (exAt X x) (by have := H.out.2.1.at x; omega) _ _ _ s3.scan
          rw [List.length_cons, List.length_map, seg_texts] at hsc
          obtain ⟨K, hK⟩ : ∃ K, K = rs.length := ⟨_, rfl⟩
          obtain ⟨t, ht⟩ : ∃ t, t = exAt X x := ⟨_, rfl⟩
          obtain ⟨m, hm⟩ : ∃ m, m = (frms (headB i (ahead l i) :: rs.map (·.data.toList))).length := ⟨_, rfl⟩
          obtain ⟨hd, hhd⟩ : ∃ hd, hd = str (headB i (ahead l i)) := ⟨_, rfl⟩
          have hnx := ahead_next hs
          have hA := HS.out.2.2.2.2
          have hAK : A + K ≤ 100000 := by
            have h1 := ahead_le l (i + 1)
            have h2 := H.out.2.2.2.2.1
            unfold Sg.flat at h2
            rw [hnx, ← hA, ← hK] at h1
            omega
          have hrh := fun w' => rhead_any i A (by omega) (by omega) w'
          rw [← hK, ← ht, ← hm, ← hhd] at hsc
          rw [← ht] at hct hfs hfe
          rw [← hA] at hfs hfe
          obtain ⟨hS, hhS⟩ : ∃ hS, hS = headS i A := ⟨_, rfl⟩
          rw [← hhS] at hfs hfe hrh
          have htz : t.size ≤ 65536 := by rw [ht]; exact H.out.2.1.at x
          have hxn : (x : Int) < (n : Int) := by omega
          rw [← hA, ← hK] at hnx
          have hT3 := HS.out.2.2.2.1
          have HT := Lib.hid (And.intro hsc (And.intro hrh (And.intro hnx (And.intro hfe (And.intro hct hca)))))
          clear hsc hK ht s3 hex hm hhd hs s1 hnx hfe hhS hrh hT3 hA
          go_wp2_with fail
          refine (HT.out.1 _).mono ?_
          rintro r w4 ⟨ba, bc, rfl, -, hb4⟩
          have hba : Below w4.heap.size w4 (w4.alloc (.cells #[.slice ba (K + 1) bc, .int .i64 (m : Int), .int .i64 4] 78)) := (Below.refl _ _).alloc (Nat.le_refl _) _
          have hg5 := heap_alloc_new w4 (.cells #[.slice ba (K + 1) bc, .int .i64 (m : Int), .int .i64 4] 78)
          have hsz4 := hb4.size
          have hsz5 : (w4.alloc (.cells #[.slice ba (K + 1) bc, .int .i64 (m : Int), .int .i64 4] 78)).heap.size = w4.heap.size + 1 := by simp
          have hbb := hb4.trans (hba.mono hb4.size)
          have H5 := Lib.hid (And.intro hg5 (And.intro hbb hsz5))
          clear hg5 hba hb4 hbb hsz5
          go_upto_region 12 with fail
          generalize World.alloc w4 _ = w5 at *
          have hsz5 := H5.out.2.2
          clear b0 b1 bf hct hca
          go_wp2_with fail
          refine (HT.out.2.1 _).mono ?_
          rintro r w6 ⟨rfl, hb6⟩
          have hbb6 := H5.out.2.1.trans (hb6.mono H5.out.2.1.size)
          have hb6w := HS.out.1.trans (hbb6.mono HS.out.1.size)
          have hg6 := (hbb6.block w1.heap.size (by omega)).trans HS.out.2.1
          have hs6 := (hb6.block w4.heap.size (by omega)).trans H5.out.1
          have hca6 := (hbb6.cell (p := ⟨ga, i, none⟩) hga).trans HT.out.2.2.2.2.2
          have hct6 := (hbb6.cell (p := ⟨gt, ot + x, none⟩) hgt).trans HT.out.2.2.2.2.1
          obtain ⟨b0, b1, bf⟩ := box2 hg6
          obtain ⟨c0, c1, c2, cf⟩ := box3 hs6
          have hfe := HT.out.2.2.2.1
          have HB := Lib.hid hb6w
          clear hb6 hbb6 hb6w hg6 hs6 hsz4
          have hk1 : ((K : Int) + 1 == 0) = false := by simp; omega
          go_wp2_with fail
          go_roundw
          case rel => exact ⟨i + 1, by omega, by go_num, by rw [HT.out.2.2.1]; congr 1; omega, HB.out⟩
          case measure => simp [intOf]; omega
        · obtain rfl : i = M := by omega
          go_wp2_with fail
          go_ret
          exact ⟨rfl, H1.out.2.1.trans (HS.out.1.mono H1.out.2.1.size)⟩
end Go.Proofs.YtdmbombjkinboaaGreat
