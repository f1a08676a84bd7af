/- segs: trim, mayBegin, begin, Open. -/
import Derived.Test.YtdmbombjkinboaaGreatYSegs1
import Derived.ScopeJumps
import Derived.StillTailTactics
namespace Go.Proofs.YtdmbombjkinboaaGreat
open Go.RowKit
open Dk Sg Fr

/-- What is torn is trimmed off. -/
def trimsS (D : Disk) (T : List (Nat × Nat)) : Disk × Int := T.foldl (fun r t => if r.2 = 0 then r.1.act 1 t.1 t.2 ⟨#[]⟩ else r) (D, 0)
theorem trimsS_snoc (D : Disk) (T : List (Nat × Nat)) (t : Nat × Nat) (h : (trimsS D T).2 = 0) : trimsS D (T ++ [t]) = (trimsS D T).1.act 1 t.1 t.2 ⟨#[]⟩ := by
  unfold trimsS at h ⊢
  rw [List.foldl_append]
  show (if _ then _ else _) = _
  rw [if_pos h]
theorem trims_stop : ∀ (T : List (Nat × Nat)) (r : Disk × Int), r.2 ≠ 0 → T.foldl (fun r t => if r.2 = 0 then r.1.act 1 t.1 t.2 ⟨#[]⟩ else r) r = r
  | [], _, _ => rfl
  | t :: T, r, h => by
    rw [List.foldl_cons, if_neg h]
    exact trims_stop T r h
theorem trimsS_stop {D : Disk} {T : List (Nat × Nat)} {k : Nat} (h : (trimsS D (T.take k)).2 ≠ 0) : trimsS D T = trimsS D (T.take k) := by
  have e : trimsS D T = (T.drop k).foldl (fun r t => if r.2 = 0 then r.1.act 1 t.1 t.2 ⟨#[]⟩ else r) (trimsS D (T.take k)) := by
    unfold trimsS
    rw [← List.foldl_append, List.take_append_drop]
  rw [e]
  exact trims_stop _ _ h
theorem bud_trims {n : Nat} {D : Disk} (h : Bud n D) (T : List (Nat × Nat)) : Bud (n + T.length) (trimsS D T).1 := by
  have key : ∀ (T : List (Nat × Nat)) (r : Disk × Int) (n : Nat), Bud n r.1 → Bud (n + T.length) (T.foldl (fun r t => if r.2 = 0 then r.1.act 1 t.1 t.2 ⟨#[]⟩ else r) r).1 := by
    intro T
    induction T with
    | nil => exact fun r n h => h
    | cons t T ih =>
      intro r n h
      rw [List.foldl_cons, List.length_cons, show n + (T.length + 1) = n + 1 + T.length by omega]
      refine ih _ _ ?_
      split
      · exact h.act (by decide) _ _ _
      · exact h.mono (by omega)
  exact key T (D, 0) n h
def beginS (D : Disk) (S : Stor) : Res := if S.segs = [] then turnS D S else syncS D S
def openS (D : Disk) (S : Stor) (T : List (Nat × Nat)) : Res := andS (trimsS D T) S fun D1 => beginS D1 S

theorem OwnR.at {B : Nat} {w : World} {a : Option Addr} {cap : Nat} {l : List (Nat × Nat)} (h : OwnR B w a cap l) {i : Nat} {x : Nat × Nat} (hx : l[i]? = some x) :
    ∃ g, a = some ⟨g, 0, none⟩ ∧ w.cell? ⟨g, i * 2, none⟩ = some (.int .i64 (x.1 : Int)) ∧ w.cell? ⟨g, i * 2 + 1, none⟩ = some (.int .i64 (x.2 : Int)) ∧ g < w.heap.size := by
  have hi : i < l.length := (List.getElem?_eq_some_iff.1 hx).1
  rcases h.2 with ⟨e, hn⟩ | ⟨g, c, cur, e, hB, hg, hn, hc, hs, ht⟩
  · omega
  · injection e with e1 e2 e3
    subst e1 e3
    have h1 := World.ownsRow.cellAt h (i * 2) (by omega)
    have h2 := World.ownsRow.cellAt h (i * 2 + 1) (by omega)
    obtain ⟨k1, k2⟩ := segCells_at l i x hx
    exact ⟨g, rfl, h1.trans k1, h2.trans k2, (World.ownsRow.lt h g rfl).2⟩
set_option maxRecDepth 100000 in
set_option maxHeartbeats 1000000 in
theorem strim_any {w : World} {ρ : Nat → Nat} {o s b n B : Nat} {D : Disk} {S : Stor} {vs vr : Value} {ta : Option Addr} {tc : Nat} {T : List (Nat × Nat)} (h : DiskAt w ρ b D) (hs : Bud n D) (hn : n + T.length ≤ 99999999)
    (hop : Op w o s (.slice ta T.length tc)) (hot : OwnR B w ta tc T) (hd : Hd w s b S vs vr) (r0 : ρ o = 0) (r1 : ρ s = 0) (r2 : ∀ g, (Value.slice ta T.length tc).ownBlock = some g → ρ g = 0) :
    Calls Tryz.prog 53 #[.pointer (some ⟨o, 0, none⟩)] w fun e w' => e = .returned (.int .i64 (trimsS D T).2) ∧ ∃ ρ', DiskAt w' ρ' b (trimsS D T).1 ∧ TouchX (fun _ => False) ρ ρ' w w' := by
  obtain ⟨K, hK⟩ : ∃ K, K = T.length := ⟨_, rfl⟩
  obtain ⟨-, o1, -⟩ := op_cells hop
  rw [← hK] at o1
  have hK9 : K ≤ 99999999 := by omega
  have H := Lib.hid (And.intro h (And.intro hs (And.intro hop (And.intro hot (And.intro hd (And.intro r0 (And.intro r1 (And.intro r2 (And.intro hK hn)))))))))
  clear h hs hop hot hd r0 r1 r2 hK hn
  go_enter Tryz.func53, Tryz.ntmps53
  go_wp2_with fail
  clear o1
  go_loopw [11, 4, 5] (fun iv _ _ wr => ∃ i : Nat, i ≤ K ∧ iv = .int .i64 i ∧ ∃ ρ', DiskAt wr ρ' b (trimsS D (T.take i)).1 ∧ (trimsS D (T.take i)).2 = 0 ∧ TouchX (fun _ => False) ρ ρ' w wr) (fun iv _ _ _ => K - (intOf iv).toNat)
  case atStart => exact ⟨0, by omega, rfl, ρ, H.out.1, rfl, TouchX.refl _ _ _⟩
  case round =>
    obtain ⟨i, hi, rfl, ρr, hD, hz, ht⟩ := hrel
    have HR := Lib.hid (And.intro hD (And.intro hz ht))
    clear hD hz ht
    by_cases hlt : i < K
    · obtain ⟨⟨x, m⟩, hx⟩ : ∃ y, T[i]? = some y := ⟨_, List.getElem?_eq_getElem (by have := H.out.2.2.2.2.2.2.2.2.1; omega)⟩
      have hop1 : Op wr o s (.slice ta T.length tc) := (HR.out.2.2.same o H.out.2.2.1.lt H.out.2.2.2.2.2.1 (fun k => k)).trans H.out.2.2.1
      have hot1 : OwnR B wr ta tc T := H.out.2.2.2.1.same fun g hg => HR.out.2.2.same g (World.ownsRow.lt H.out.2.2.2.1 g hg).2 (H.out.2.2.2.2.2.2.2.1 g hg) (fun k => k)
      have hd1 := HR.out.2.2.hd H.out.2.2.2.2.1 H.out.2.2.2.2.2.2.1 (fun k => k)
      obtain ⟨g, rfl, c0, c1, hg⟩ := hot1.at hx
      simp only at c0 c1
      obtain ⟨o0, -, -⟩ := op_cells hop1
      obtain ⟨q0, -⟩ := hd_cells hd1
      have hol := hop1.lt
      have hsl := hd1.lt
      have ha : Below wr.heap.size wr (wr.alloc (.cells #[.int .i64 (x : Int), .int .i64 (m : Int)] 131)) := (Below.refl _ _).alloc (Nat.le_refl _) _
      have hnx : T.take (i + 1) = T.take i ++ [(x, m)] := by rw [List.take_add_one, hx]; rfl
      have htr := trimsS_snoc D (T.take i) (x, m) HR.out.2.1
      rw [← hnx] at htr
      simp only at htr
      have hbud := bud_trims H.out.2.1 (T.take i)
      have hbs := hbud.small (by rw [List.length_take]; have := H.out.2.2.2.2.2.2.2.2.2; omega)
      have HX := Lib.hid (And.intro hx (And.intro htr (And.intro hbs ha)))
      clear hx hop1 hot1 hd1 hnx htr hbud hbs ha
      go_upto_region 4 with fail
      generalize hwa : World.alloc wr _ = wa at *
      have k0 : wa.cell? ⟨wr.heap.size, 0, none⟩ = some (.int .i64 (x : Int)) := by rw [← hwa, cell_of_row _ _ _ _ _ _ (heap_alloc_new _ _)]; rfl
      have k1 : wa.cell? ⟨wr.heap.size, 1, none⟩ = some (.int .i64 (m : Int)) := by rw [← hwa, cell_of_row _ _ _ _ _ _ (heap_alloc_new _ _)]; rfl
      replace o0 := (HX.out.2.2.2.cell (p := ⟨o, 0, none⟩) hol).trans o0
      replace q0 := (HX.out.2.2.2.cell (p := ⟨s, 0, none⟩) hsl).trans q0
      clear hwa c0 c1
      go_still_tail 11, (by kernel_rfl)
      change wpList _ _ _ _ _ wa.drew
      have hbd := HX.out.2.2.2.drew
      have htr2 := trim_any (HR.out.1.below hbd) HX.out.2.2.1 (x : Int) (m : Int)
      rw [← HX.out.2.1] at htr2
      generalize wa.drew = wd at *
      obtain ⟨q, hq⟩ : ∃ q, q = (trimsS D (T.take (i + 1))).2 := ⟨_, rfl⟩
      unfold Does at htr2
      rw [← hq] at htr2
      have HT := Lib.hid (And.intro htr2 hbd)
      clear htr2 hbd
      have HQ := Lib.hid hq
      clear hq
      go_wp2_with fail
      refine HT.out.1.mono ?_
      rintro e w3 ⟨rfl, ρ3, hD3, ht3⟩
      have H3 := Lib.hid (And.intro hD3 ((HR.out.2.2.trans (TouchX.below HT.out.2)).trans (TouchX.of ht3)))
      clear hD3 ht3
      by_cases hq0 : q = 0
      · subst hq0
        go_wp2_with fail
        go_roundw
        case rel => exact ⟨i + 1, by omega, by go_num, ρ3, H3.out.1, HQ.out.symm, H3.out.2⟩
        case measure => simp [intOf]; omega
      · have hq1 : (q == 0) = false := by simpa using hq0
        have HQ0 := Lib.hid hq0
        go_wp2_with fail
        go_ret
        have e := trimsS_stop (D := D) (T := T) (k := i + 1) (by rw [← HQ.out]; exact HQ0.out)
        rw [e, ← HQ.out]
        exact ⟨rfl, ρ3, H3.out.1, H3.out.2⟩
    · obtain rfl : i = K := by omega
      go_wp2_with fail
      go_ret
      obtain ⟨m1, m2, m3⟩ := HR.out
      rw [H.out.2.2.2.2.2.2.2.2.1, List.take_length] at m1 m2
      exact ⟨by rw [m2]; rfl, ρr, m1, m3⟩
end Go.Proofs.YtdmbombjkinboaaGreat
