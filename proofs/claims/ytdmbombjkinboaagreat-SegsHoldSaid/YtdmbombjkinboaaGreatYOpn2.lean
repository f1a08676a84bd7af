/- segs: mayBegin, begin. -/
import Derived.Test.YtdmbombjkinboaaGreatYOpn
namespace Go.Proofs.YtdmbombjkinboaaGreat
open Go.RowKit
open Dk Sg Fr

set_option maxRecDepth 100000 in
theorem mayBegin_any {w : World} {ρ : Nat → Nat} {o s b : Nat} {D : Disk} {S : Stor} {a : Option Addr} {cap : Nat} {vr tv : Value} (h : DiskAt w ρ b D) (hop : Op w o s tv) (hd : Hd w s b S (.slice a S.segs.length cap) vr) (hn : S.segs.length ≤ 1000000)
    (hm : S.segs = [] → mayTurnS D S = 0) :
    Calls Tryz.prog 52 #[.pointer (some ⟨o, 0, none⟩)] w fun e w' => e = .returned (.int .i64 0) ∧ Below w.heap.size w w' := by
  have hmt := mayTurn_any h hd hn
  obtain ⟨o0, -, -⟩ := op_cells hop
  obtain ⟨-, -, -, -, q4, -⟩ := hd_cells hd
  by_cases h0 : S.segs = []
  · rw [hm h0] at hmt
    rw [h0] at q4
    have H := Lib.hid hmt
    clear hmt h hop hd hn hm h0
    go_enter Tryz.func52, Tryz.ntmps52
    go_wp2_with fail
    refine H.out.mono ?_
    rintro e w1 ⟨rfl, hb⟩
    have HB := Lib.hid hb
    clear hb
    go_wp2_with fail
    go_ret
    exact ⟨rfl, HB.out⟩
  · obtain ⟨n, hn1⟩ : ∃ n, n = S.segs.length := ⟨_, rfl⟩
    have hn0 : (0 : Int) < n := by have := List.length_pos_iff.2 h0; omega
    rw [← hn1] at q4
    clear hmt h hop hd hn hm h0 hn1
    go_enter Tryz.func52, Tryz.ntmps52
    go_wp2_with fail
    go_ret
    exact ⟨rfl, Below.refl _ _⟩
/-- What the opening's last step says. -/
def BegunS (ρ : Nat → Nat) (s b : Nat) (a : Option Addr) (cap : Nat) (l : List (Nat × Nat)) (ar : Option Addr) (cr : Nat) (r : Res) (w : World) (e : Ending) (w' : World) : Prop :=
  e = .returned (.int .i64 r.2.2) ∧ ∃ ρ' a' cap', DiskAt w' ρ' b r.1 ∧ Hd w' s b r.2.1 (.slice a' r.2.1.segs.length cap') (.slice ar r.2.1.recs.length cr) ∧ OwnG w' a' cap' r.2.1.segs ∧
    (∀ g, (Value.slice a' r.2.1.segs.length cap').ownBlock = some g → ρ' g = 0 ∧ ((Value.slice a l.length cap).ownBlock = some g ∨ w.heap.size ≤ g)) ∧ TouchX (fun g => g = s ∨ (Value.slice a l.length cap).ownBlock = some g) ρ ρ' w w'
set_option maxRecDepth 100000 in
theorem begin_any {w : World} {ρ : Nat → Nat} {o s b n : Nat} {D : Disk} {S : Stor} {a ar : Option Addr} {cap cr : Nat} {tv : Value} (h : DiskAt w ρ b D) (hs : Bud n D) (hn : n ≤ 99999990) (hop : Op w o s tv) (hd : Hd w s b S (.slice a S.segs.length cap) (.slice ar S.recs.length cr)) (h0 : ρ s = 0) (ho : OwnG w a cap S.segs)
    (hx : ∀ x ∈ S.exts, x < 64) (hrow : ∀ g, (Value.slice a S.segs.length cap).ownBlock = some g → ρ g = 0) (hat : S.at_ ≤ 1) (he : S.epoch ≤ 1099511627776) (hl : S.segs.length ≤ 62) (hrn : S.recs.length ≤ 1000000) :
    Calls Tryz.prog 54 #[.pointer (some ⟨o, 0, none⟩)] w (BegunS ρ s b a cap S.segs ar cr (beginS D S) w) := by
  have htu := sturn_any h hs hn hd h0 ho hx hrow hat he hl hrn
  have hsy := ssync_any h (hs.small (by omega)) hd h0
  obtain ⟨o0, -, -⟩ := op_cells hop
  obtain ⟨-, -, -, -, q4, -⟩ := hd_cells hd
  unfold beginS
  by_cases e : S.segs = []
  · rw [if_pos e]
    rw [show S.segs.length = 0 by rw [e]; rfl] at q4
    have H := Lib.hid htu
    clear htu hsy h hop hd h0 ho hx hrow hat he hl hrn hs hn e
    go_enter Tryz.func54, Tryz.ntmps54
    go_wp2_with fail
    refine H.out.mono ?_
    rintro e w1 ⟨rfl, ρ', a', cap', h1, h2, h3, h4, h5, -⟩
    have HX := Lib.hid (And.intro h1 (And.intro h2 (And.intro h3 (And.intro h4 h5))))
    clear h1 h2 h3 h4 h5
    go_wp2_with fail
    go_ret
    exact ⟨rfl, ρ', a', cap', HX.out⟩
  · rw [if_neg e]
    obtain ⟨k, hk⟩ : ∃ k, k = S.segs.length := ⟨_, rfl⟩
    have hk0 : ((k : Int) == 0) = false := by have := List.length_pos_iff.2 e; simp; omega
    rw [← hk] at q4
    have H := Lib.hid (And.intro hsy (And.intro hd (And.intro ho (And.intro hrow (And.intro h0 hk)))))
    clear htu hsy h hop hd h0 ho hx hrow hat he hl hrn hs hn e hk
    go_enter Tryz.func54, Tryz.ntmps54
    go_wp2_with fail
    refine H.out.1.mono ?_
    rintro e w1 ⟨rfl, ρ', h1, h2, h3⟩
    have HX := Lib.hid (And.intro h1 (And.intro h2 h3))
    clear h1 h2 h3
    go_wp2_with fail
    go_ret
    obtain ⟨e1, e2, -⟩ := syncS_keeps D S
    have hne : ∀ g, (Value.slice a S.segs.length cap).ownBlock = some g → g ≠ s := fun g hg e => OwnG.ne H.out.2.1 H.out.2.2.1 (by rw [hg, e])
    refine ⟨rfl, ρ', a, cap, HX.out.1, ?_, ?_, fun g hg => ?_, HX.out.2.2.mono fun g _ e => .inl e⟩
    · rw [e1, e2]; exact HX.out.2.1
    · rw [e1]
      exact H.out.2.2.1.same fun g hg => HX.out.2.2.same g (World.ownsRow.lt H.out.2.2.1 g hg).2 (H.out.2.2.2.1 g hg) (hne g hg)
    · rw [e1] at hg
      exact ⟨(HX.out.2.2.old g (World.ownsRow.lt H.out.2.2.1 g hg).2).trans (H.out.2.2.2.1 g hg), .inl hg⟩
end Go.Proofs.YtdmbombjkinboaaGreat
