/- IxShow, what is wanted of it. -/
import Derived.Test.YtdfkpjmljaanpaaGreatDoorZIxShown
import Derived.Test.YtdfkpjmljaanpaaGreatDoorZMX3
import Derived.Deep.RegionHeld
namespace Go.Proofs.YtdfkpjmljaanpaaGreatDoor
open Go.RowKit
open Cn
/-- A row that is shown, and where its way lies. -/
abbrev ShW := Ix.Sh × Option Addr × Nat
def shCs (r : ShW) : Array Value := #[.int .i64 r.1.pl, .string r.1.row.tag, .int .i64 r.1.row.cnt, .int .i64 r.1.row.last, .slice r.2.1 r.1.way.length r.2.2]
theorem shCs_size (r : ShW) : (shCs r).size = 5 := rfl
theorem shCs_one (r : ShW) : ∀ u ∈ (shCs r).toList, u.oneCell' = true := fun u hu => by
  unfold shCs at hu
  simp only [List.mem_cons, List.not_mem_nil, or_false] at hu
  rcases hu with rfl | rfl | rfl | rfl | rfl <;> rfl
theorem rshown_rec : RecT 133 37 5 64 (.agg #[.int .i64 0, .string ⟨#[]⟩, .int .i64 0, .int .i64 0, .slice none 0 0]) := ⟨Tryz.underlying37, by kernel_rfl, rfl, by decide⟩
/-- An own slice of them holds the rows. -/
theorem shAt_own {T : TypeId} {B : Nat} {w w' : World} {a : Option Addr} {cap : Nat} {l : List ShW} (h : OwnR T 5 shCs B w' a cap l) (hb : Below w.heap.size w w') (hk : ∀ r ∈ l, r.1.way.length ≤ r.2.2 ∧ r.2.2 ≤ maxLen ∧ TextsAt w r.2.1 r.1.way) : ShAt w' a (l.map (·.1)) := fun j s hj => by
  rw [List.getElem?_map] at hj
  obtain ⟨r, hr, rfl⟩ := Option.map_eq_some_iff.1 hj
  obtain ⟨g, rfl, -, hl, hc⟩ := h.at shCs_size hr
  obtain ⟨k1, k2, k3⟩ := hk r (List.mem_of_getElem? hr)
  refine ⟨g, 0, r.2.1, r.2.2, rfl, hl, ?_, ?_, ?_, ?_, ?_, k1, k2, k3.below hb⟩
  · have := hc 0 (by decide); simpa [shCs] using this
  · have := hc 1 (by decide); simpa [shCs] using this
  · have := hc 2 (by decide); simpa [shCs] using this
  · have := hc 3 (by decide); simpa [shCs] using this
  · have := hc 4 (by decide); simpa [shCs] using this
set_option maxRecDepth 100000 in
set_option maxHeartbeats 4000000 in
theorem lshown18_any (l : List Ix.Sh) (a0 : Option Addr) (cap : Nat) (w : World) (hT : ShAt w a0 l) (hm : l.length ≤ 100000) :
    Calls Tryz.prog 17 #[.slice a0 l.length cap] w fun e w' => ∃ a c, e = .returned (.slice a l.length c) ∧ ShAt w' a l ∧ Below w.heap.size w w' := by
  obtain ⟨n, hn⟩ : ∃ n, n = l.length := ⟨_, rfl⟩
  have HT := Lib.hid (And.intro hT hn)
  rw [← hn] at hm ⊢
  clear hT hn
  go_enter Tryz.func17, Tryz.ntmps17
  go_wp2_with fail
  go_loopw [3, 4] (fun v c wr => ∃ (i : Nat) (a : Option Addr) (cp : Nat) (rs : List ShW), i ≤ n ∧ v = .slice a i cp ∧ c = .int .i64 i ∧ rs.map (·.1) = l.take i ∧ (∀ r ∈ rs, r.1.way.length ≤ r.2.2 ∧ r.2.2 ≤ maxLen ∧ TextsAt w r.2.1 r.1.way) ∧ OwnR 133 5 shCs w.heap.size wr a cp rs ∧ Below w.heap.size w wr) (fun _ c _ => n - (intOf c).toNat)
  case atStart => exact ⟨0, none, 0, [], by omega, rfl, rfl, rfl, fun r hr => by simp at hr, OwnR.nil _ _ _ _ _, Below.refl _ _⟩
  case round =>
    obtain ⟨i, a, cp, rs, hi, rfl, rfl, hrs, hk, hO, hb⟩ := hrel
    have hrl : rs.length = i := by
      have h := congrArg List.length hrs
      rw [List.length_map, List.length_take] at h
      have := HT.out.2
      omega
    by_cases hlt : i < n
    · obtain ⟨s, hs⟩ : ∃ s, l[i]? = some s := ⟨l[i]'(by have := HT.out.2; omega), List.getElem?_eq_getElem (by have := HT.out.2; omega)⟩
      obtain ⟨b, off, wa, wc, rfl, hbl, d0, d1, d2, d3, d4, h5, h6, h7⟩ := HT.out.1 i s hs
      have hnx : (rs ++ [((s, wa, wc) : ShW)]).map (·.1) = l.take (i + 1) := by rw [List.map_append, hrs, List.take_add_one, hs]; rfl
      have hk2 : ∀ r ∈ rs ++ [((s, wa, wc) : ShW)], r.1.way.length ≤ r.2.2 ∧ r.2.2 ≤ maxLen ∧ TextsAt w r.2.1 r.1.way := fun r hr => by
        rcases List.mem_append.1 hr with hr | hr
        · exact hk r hr
        · rw [List.mem_singleton.1 hr]; exact ⟨h5, h6, h7⟩
      obtain ⟨q, hq⟩ : ∃ q, q = s.way.length := ⟨_, rfl⟩
      have hcs : shCs (s, wa, wc) = #[.int .i64 s.pl, .string s.row.tag, .int .i64 s.row.cnt, .int .i64 s.row.last, .slice wa q wc] := by rw [hq]; rfl
      rw [← hq] at d4
      obtain ⟨x0, hx0⟩ : ∃ x, x = s.pl := ⟨_, rfl⟩
      obtain ⟨x1, hx1⟩ : ∃ x, x = s.row.tag := ⟨_, rfl⟩
      obtain ⟨x2, hx2⟩ : ∃ x, x = s.row.cnt := ⟨_, rfl⟩
      obtain ⟨x3, hx3⟩ : ∃ x, x = s.row.last := ⟨_, rfl⟩
      rw [← hx0] at d0 hcs
      rw [← hx1] at d1 hcs
      rw [← hx2] at d2 hcs
      rw [← hx3] at d3 hcs
      obtain ⟨SW, hSW⟩ : ∃ SW : ShW, SW = (s, wa, wc) := ⟨_, rfl⟩
      rw [← hSW] at hnx hk2 hcs
      have HM := Lib.hid (And.intro hnx (And.intro hk2 (And.intro hcs (And.intro hO (And.intro hb hrl)))))
      have EW : w.cell? ⟨b, off + i * 5, none⟩ = some (.int .i64 x0) ∧ w.cell? ⟨b, off + i * 5 + 1, none⟩ = some (.string x1) ∧ w.cell? ⟨b, off + i * 5 + 2, none⟩ = some (.int .i64 x2) ∧ w.cell? ⟨b, off + i * 5 + 3, none⟩ = some (.int .i64 x3) ∧ w.cell? ⟨b, off + i * 5 + 4, none⟩ = some (.slice wa q wc) := ⟨d0, d1, d2, d3, d4⟩
      have E9 : wr.cell? ⟨b, off + i * 5, none⟩ = some (.int .i64 x0) ∧ wr.cell? ⟨b, off + i * 5 + 1, none⟩ = some (.string x1) ∧ wr.cell? ⟨b, off + i * 5 + 2, none⟩ = some (.int .i64 x2) ∧ wr.cell? ⟨b, off + i * 5 + 3, none⟩ = some (.int .i64 x3) ∧ wr.cell? ⟨b, off + i * 5 + 4, none⟩ = some (.slice wa q wc) := ⟨(hb.cell (p := ⟨b, _, none⟩) hbl).trans d0, (hb.cell (p := ⟨b, _, none⟩) hbl).trans d1, (hb.cell (p := ⟨b, _, none⟩) hbl).trans d2, (hb.cell (p := ⟨b, _, none⟩) hbl).trans d3, (hb.cell (p := ⟨b, _, none⟩) hbl).trans d4⟩
      have hwb := hb.size
      clear hnx hk2 hcs hO hb hk hrs hs hq hx0 hx1 hx2 hx3 hSW d0 d1 d2 d3 d4 h5 h6 h7 EW
      obtain ⟨e0, e1, e2, e3, e4⟩ := id E9
      go_wp2_with fail
      clear e0 e1 e2 e3 e4
      refine wp_region_held (S := fun W : World => W.cell? ⟨b, off + i * 5, none⟩ = some (.int .i64 x0) ∧ W.cell? ⟨b, off + i * 5 + 1, none⟩ = some (.string x1) ∧ W.cell? ⟨b, off + i * 5 + 2, none⟩ = some (.int .i64 x2) ∧ W.cell? ⟨b, off + i * 5 + 3, none⟩ = some (.int .i64 x3) ∧ W.cell? ⟨b, off + i * 5 + 4, none⟩ = some (.slice wa q wc)) (by kernel_rfl) ?_
      have E0 : wr.drew.cell? ⟨b, off + i * 5, none⟩ = some (.int .i64 x0) ∧ wr.drew.cell? ⟨b, off + i * 5 + 1, none⟩ = some (.string x1) ∧ wr.drew.cell? ⟨b, off + i * 5 + 2, none⟩ = some (.int .i64 x2) ∧ wr.drew.cell? ⟨b, off + i * 5 + 3, none⟩ = some (.int .i64 x3) ∧ wr.drew.cell? ⟨b, off + i * 5 + 4, none⟩ = some (.slice wa q wc) := E9
      have F0 := HM.out.2.2.2.2.1.drew
      have O0 := HM.out.2.2.2.1.drew
      change wpAnyH _ _ _ _ _ _ _ _ (World.drew _)
      generalize World.drew _ = v0 at *
      refine wpAnyH_take (i := 0) (v := ?_) rfl (by kernel_rfl) (by kernel_rfl) (by kernel_rfl) (fun _ _ _ h => h) (Or.inl ⟨by kernel_rfl, ?_⟩) E0 ?_
      rotate_left
      · (intro W hS; obtain ⟨g0, g1, g2, g3, g4⟩ := hS; go_simp; try (with_reducible rfl))
      refine wpAnyH_take (i := 1) (v := ?_) rfl (by kernel_rfl) (by kernel_rfl) (by kernel_rfl) (fun _ _ _ h => h) (Or.inl ⟨by kernel_rfl, ?_⟩) E0 ?_
      rotate_left
      · (intro W hS; obtain ⟨g0, g1, g2, g3, g4⟩ := hS; go_simp; try (with_reducible rfl))
      refine wpAnyH_take (i := 2) (v := ?_) rfl (by kernel_rfl) (by kernel_rfl) (by kernel_rfl) (fun _ _ _ h => h) (Or.inl ⟨by kernel_rfl, ?_⟩) E0 ?_
      rotate_left
      · (intro W hS; obtain ⟨g0, g1, g2, g3, g4⟩ := hS; go_simp; try (with_reducible rfl))
      refine wpAnyH_take (i := 3) (v := ?_) rfl (by kernel_rfl) (by kernel_rfl) (by kernel_rfl) (fun _ _ _ h => h) (Or.inl ⟨by kernel_rfl, ?_⟩) E0 ?_
      rotate_left
      · (intro W hS; obtain ⟨g0, g1, g2, g3, g4⟩ := hS; go_simp; try (with_reducible rfl))
      refine wpAnyH_take (i := 4) (v := ?_) rfl (by kernel_rfl) (by kernel_rfl) (by kernel_rfl) (fun _ _ _ h => h) (Or.inl ⟨by kernel_rfl, ?_⟩) E0 ?_
      rotate_left
      · (intro W hS; obtain ⟨g0, g1, g2, g3, g4⟩ := hS; go_simp; try (with_reducible rfl))
      refine wpAnyH_take (i := 5) (v := ?_) rfl (by kernel_rfl) (by kernel_rfl) (by kernel_rfl) (fun _ _ _ h => h) (Or.inl ⟨by kernel_rfl, ?_⟩) E0 ?_
      rotate_left
      · (intro W hS; obtain ⟨g0, g1, g2, g3, g4⟩ := hS; go_simp; try (with_reducible rfl))
      refine wpAnyH_take (i := 6) (v := ?_) rfl (by kernel_rfl) (by kernel_rfl) (by kernel_rfl) (fun _ _ _ h => h) (Or.inl ⟨by kernel_rfl, ?_⟩) E0 ?_
      rotate_left
      · (intro W hS; obtain ⟨g0, g1, g2, g3, g4⟩ := hS; go_simp; try (with_reducible rfl))
      refine wpAnyH_take (i := 7) (v := ?_) rfl (by kernel_rfl) (by kernel_rfl) (by kernel_rfl) (fun _ _ _ h => h) (Or.inl ⟨by kernel_rfl, ?_⟩) E0 ?_
      rotate_left
      · (intro W hS; obtain ⟨g0, g1, g2, g3, g4⟩ := hS; go_simp; try (with_reducible rfl))
      refine wpAnyH_take (i := 8) (v := ?_) rfl (by kernel_rfl) (by kernel_rfl) (by kernel_rfl) (fun _ _ _ h => h) (Or.inl ⟨by kernel_rfl, ?_⟩) E0 ?_
      rotate_left
      · (intro W hS; obtain ⟨g0, g1, g2, g3, g4⟩ := hS; go_simp; try (with_reducible rfl))
      refine wpAnyH_take (i := 9) (v := ?_) rfl (by kernel_rfl) (by kernel_rfl) (by kernel_rfl) (fun _ _ _ h => h) (Or.inl ⟨by kernel_rfl, ?_⟩) E0 ?_
      rotate_left
      · (intro W hS; obtain ⟨g0, g1, g2, g3, g4⟩ := hS; go_simp; try (with_reducible rfl))
      refine wpAnyH_take (i := 10) (v := ?_) rfl (by kernel_rfl) (by kernel_rfl) (by kernel_rfl) (fun _ _ _ h => h) (Or.inl ⟨by kernel_rfl, ?_⟩) E0 ?_
      rotate_left
      · (intro W hS; obtain ⟨g0, g1, g2, g3, g4⟩ := hS; go_simp; try (with_reducible rfl))
      refine wpAnyH_take (i := 11) (v := ?_) rfl (by kernel_rfl) (by kernel_rfl) (by kernel_rfl) (fun _ _ _ h => h) (Or.inl ⟨by kernel_rfl, ?_⟩) E0 ?_
      rotate_left
      · (intro W hS; obtain ⟨g0, g1, g2, g3, g4⟩ := hS; go_simp; try (with_reducible rfl))
      refine wpAnyH_take (i := 12) (v := ?_) rfl (by kernel_rfl) (by kernel_rfl) (by kernel_rfl) (fun _ _ _ h => h) (Or.inl ⟨by kernel_rfl, ?_⟩) E0 ?_
      rotate_left
      · (intro W hS; obtain ⟨g0, g1, g2, g3, g4⟩ := hS; go_simp; try (with_reducible rfl))
      refine wpAnyH_take (i := 13) (v := ?_) rfl (by kernel_rfl) (by kernel_rfl) (by kernel_rfl) (fun _ _ _ h => h) (Or.inl ⟨by kernel_rfl, ?_⟩) E0 ?_
      rotate_left
      · (intro W hS; obtain ⟨g0, g1, g2, g3, g4⟩ := hS; go_simp; try (with_reducible rfl))
      refine wpAnyH_take (i := 14) (v := ?_) rfl (by kernel_rfl) (by kernel_rfl) (by kernel_rfl) (fun _ _ _ h => h) (Or.inl ⟨by kernel_rfl, ?_⟩) E0 ?_
      rotate_left
      · (intro W hS; obtain ⟨g0, g1, g2, g3, g4⟩ := hS; go_simp; try (with_reducible rfl))
      refine wpAnyH_take (i := 15) (v := ?_) rfl (by kernel_rfl) (by kernel_rfl) (by kernel_rfl) (fun _ _ _ h => h) (Or.inl ⟨by kernel_rfl, ?_⟩) E0 ?_
      rotate_left
      · (intro W hS; obtain ⟨g0, g1, g2, g3, g4⟩ := hS; go_simp; try (with_reducible rfl))
      refine wpAnyH_take (i := 16) (v := ?_) rfl (by kernel_rfl) (by kernel_rfl) (by kernel_rfl) (fun _ _ _ h => h) (Or.inl ⟨by kernel_rfl, ?_⟩) E0 ?_
      rotate_left
      · (intro W hS; obtain ⟨g0, g1, g2, g3, g4⟩ := hS; go_simp; try (with_reducible rfl))
      obtain ⟨v1, hv⟩ : ∃ v, v = v0.alloc (.cells #[.int .i64 x0, .string x1, .int .i64 x2, .int .i64 x3, .slice wa q wc] 133) := ⟨_, rfl⟩
      have hb : Below v0.heap.size v0 v1 := by rw [hv]; exact (Below.refl _ _).alloc (Nat.le_refl _) _
      have gp : v1.heap[v0.heap.size]? = some (.cells (shCs SW) 133 (0, 0)) := by rw [hv, HM.out.2.2.1]; exact heap_alloc_new _ _
      have hz0 := F0.size
      have F1 := F0.trans (hb.mono F0.size)
      have O1 := O0.call hb
      have E1 : v1.cell? ⟨b, off + i * 5, none⟩ = some (.int .i64 x0) ∧ v1.cell? ⟨b, off + i * 5 + 1, none⟩ = some (.string x1) ∧ v1.cell? ⟨b, off + i * 5 + 2, none⟩ = some (.int .i64 x2) ∧ v1.cell? ⟨b, off + i * 5 + 3, none⟩ = some (.int .i64 x3) ∧ v1.cell? ⟨b, off + i * 5 + 4, none⟩ = some (.slice wa q wc) := ⟨(hb.cell (p := ⟨b, _, none⟩) (show b < v0.heap.size by omega)).trans E0.1, (hb.cell (p := ⟨b, _, none⟩) (show b < v0.heap.size by omega)).trans E0.2.1, (hb.cell (p := ⟨b, _, none⟩) (show b < v0.heap.size by omega)).trans E0.2.2.1, (hb.cell (p := ⟨b, _, none⟩) (show b < v0.heap.size by omega)).trans E0.2.2.2.1, (hb.cell (p := ⟨b, _, none⟩) (show b < v0.heap.size by omega)).trans E0.2.2.2.2⟩
      clear hb
      refine wpAnyH_ready (rs := [17]) (by kernel_rfl) (by simp) ?_
      refine AllReadyH.cons (i := 17) (rs := []) (o := ?o1) ?h1 (fun K hK => ?_) AllReadyH.nil
      case h1 => (simp only [List.getElem?_toArray, List.getElem?_cons_succ]; exact rfl)
      go_simp
      rw [← hv]
      clear hv
      refine hK.out _ _ E1 (fun _ => ?_)
      clear hK K
      refine wpAnyH_ready (rs := [18]) (by kernel_rfl) (by simp) ?_
      refine AllReadyH.cons (i := 18) (rs := []) (o := ?o2) ?h2 (fun K hK => ?_) AllReadyH.nil
      case h2 => (simp only [List.getElem?_toArray, List.getElem?_cons_succ]; exact rfl)
      refine step_append_r rfl (.tmp 11) (.tmp 28) 37 rfl rshown_rec shCs_one shCs_size O1 _ HM.out.2.2.2.2.2 (by kernel_rfl) _ 1 SW (by kernel_rfl) gp (by omega) F1.size F1 ?_
      intro g2 cq vz ho hB hgr hat
      have hB1 : Below w.heap.size v1 vz := (Below.refl _ _).grown hgr F1.size (fun k hk => (O1.lt k (by rw [HM.out.2.2.2.2.2]; exact hk)).1)
      have E2 : vz.cell? ⟨b, off + i * 5, none⟩ = some (.int .i64 x0) ∧ vz.cell? ⟨b, off + i * 5 + 1, none⟩ = some (.string x1) ∧ vz.cell? ⟨b, off + i * 5 + 2, none⟩ = some (.int .i64 x2) ∧ vz.cell? ⟨b, off + i * 5 + 3, none⟩ = some (.int .i64 x3) ∧ vz.cell? ⟨b, off + i * 5 + 4, none⟩ = some (.slice wa q wc) := ⟨(hB1.cell (p := ⟨b, _, none⟩) (hbl)).trans E1.1, (hB1.cell (p := ⟨b, _, none⟩) (hbl)).trans E1.2.1, (hB1.cell (p := ⟨b, _, none⟩) (hbl)).trans E1.2.2.1, (hB1.cell (p := ⟨b, _, none⟩) (hbl)).trans E1.2.2.2.1, (hB1.cell (p := ⟨b, _, none⟩) (hbl)).trans E1.2.2.2.2⟩
      refine hK.out _ _ E2 (fun _ => ?_)
      clear hK K
      refine wpAnyH_take (i := 19) (v := ?_) rfl (by kernel_rfl) (by kernel_rfl) (by kernel_rfl) (fun _ _ _ h => h) (Or.inl ⟨by kernel_rfl, ?_⟩) E2 ?_
      rotate_left
      · (intro W hS; clear hS; go_simp; try (with_reducible rfl))
      refine wpAnyH_done (by kernel_rfl) ?_ _
      go_simp
      have HD := Lib.hid (And.intro ho hB)
      clear ho hB hB1 hgr hat E2 E1 E0 E9 F0 F1 O0 O1 gp hz0
      go_wp2_with fail
      go_roundw
      case rel => exact ⟨i + 1, _, cq, _, by omega, rfl, by go_num, HM.out.1, HM.out.2.1, HD.out.1, HD.out.2⟩
      case measure => simp [intOf]; omega
    · obtain rfl : n = i := by omega
      have H := Lib.hid (And.intro hrs (And.intro hk (And.intro hO hb)))
      clear hrs hk hO hb
      go_wp2_with fail
      go_ret
      have h2 := shAt_own H.out.2.2.1 H.out.2.2.2 H.out.2.1
      rw [H.out.1, List.take_of_length_le (by have := HT.out.2; omega)] at h2
      exact ⟨a, cp, rfl, h2, H.out.2.2.2⟩
end Go.Proofs.YtdfkpjmljaanpaaGreatDoor
