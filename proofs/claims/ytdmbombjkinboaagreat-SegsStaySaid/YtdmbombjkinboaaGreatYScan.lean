/- segs: what is read when a store is opened: mayHave, scan, isHead. -/
import Derived.Test.YtdmbombjkinboaaGreatYList2
import Derived.Test.YtdmbombjkinboaaGreatMC6
namespace Go.Proofs.YtdmbombjkinboaaGreat
open Go.RowKit
open Dk Sg Fr

set_option maxRecDepth 100000 in
theorem mayHave_any {w : World} {ρ : Nat → Nat} {b : Nat} {D : Disk} (h : DiskAt w ρ b D) (hu : D.down = false) (hn : 3 ≤ D.sure.length) (hr : 1024 ≤ D.room) :
    Calls Tryz.prog 49 #[.pointer (some ⟨b, 0, none⟩)] w fun e w' => e = .returned (.int .i64 0) ∧ w = w' := by
  have he : eerr D 0 = 0 := by unfold eerr; rw [if_neg (by rw [hu]; decide), if_neg (by omega)]
  have hrd := read_any h 0
  have hrm := droom_any h 0
  have hex := extents_any h
  rw [he] at hrd
  obtain ⟨t, ht⟩ : ∃ t, t = readD D 0 := ⟨_, rfl⟩
  have hte : t = exAt D.now 0 := by rw [ht]; unfold readD; rw [if_pos he]; rfl
  have hts : t.size ≤ 65536 := by rw [hte]; exact h.ok.fits.all.at 0
  have hrv : roomD D 0 = D.room - (t.size : Int) := by unfold roomD; rw [if_pos he, hte]; rfl
  rw [← ht] at hrd
  rw [hrv] at hrm
  have hr1 := h.ok.room1
  have hnum := h.ok.num
  have H := Lib.hid (And.intro hrd (And.intro hrm hex))
  clear hrd hrm hex ht hte hrv he h
  generalize D.sure.length = n at *
  generalize D.room = rm at *
  obtain ⟨x, hx⟩ : ∃ x, x = rm - (t.size : Int) := ⟨_, rfl⟩
  rw [← hx] at H
  have hxb : (-9223372036854775808 : Int) ≤ x ∧ x ≤ 65536 := by omega
  have hsum : IntKind.i64.wrap ((t.size : Int) + x) = rm := by rw [hx]; exact (IntWalk.i64_in _ (by omega)).trans (by omega)
  have d1 : decide ((n : Int) < 3) = false := decide_eq_false (by omega)
  have d2 : decide (rm < 1024) = false := decide_eq_false (by omega)
  clear hx hu
  go_enter Tryz.func49, Tryz.ntmps49
  go_wp2_with fail
  refine H.out.1.mono ?_
  rintro e w1 ⟨rfl, rfl⟩
  go_wp2_with fail
  refine H.out.2.2.mono ?_
  rintro e w1 ⟨rfl, rfl⟩
  go_wp2_with fail
  refine H.out.2.1.mono ?_
  rintro e w1 ⟨rfl, rfl⟩
  go_wp2_with fail
  go_ret
  exact ⟨rfl, rfl⟩
/-- A row of tears that the opening owns. -/
def OwnR (B : Nat) (w : World) (a : Option Addr) (cap : Nat) (l : List (Nat × Nat)) : Prop := w.ownsRow B 131 2 (.slice a l.length cap) l.length (segCells l)
theorem OwnR.same {B : Nat} {w w' : World} {a : Option Addr} {cap : Nat} {l : List (Nat × Nat)} (h : OwnR B w a cap l) (hs : ∀ g, (Value.slice a l.length cap).ownBlock = some g → w'.heap[g]? = w.heap[g]?) : OwnR B w' a cap l := by
  obtain ⟨h1, h2⟩ := h
  refine ⟨h1, ?_⟩
  rcases h2 with h2 | ⟨g, c, cur, e, hB, hg, h3⟩
  · exact .inl h2
  · exact .inr ⟨g, c, cur, e, hB, (hs g (by rw [e]; rfl)).trans hg, h3⟩
theorem OwnR.call {B : Nat} {w w' : World} {a : Option Addr} {cap : Nat} {l : List (Nat × Nat)} (h : OwnR B w a cap l) (hb : Below w.heap.size w w') : OwnR B w' a cap l := ownsRow_below h hb
theorem Tryz.info_tear : (Tryz.prog.info? 131).map (fun i => (i.zero, i.size, i.bytes)) = some (some (.agg #[.int .i64 0, .int .i64 0]), 2, 16) := by kernel_rfl
theorem wpList_append_tear {ops : Array Oper} {rest : List Oper} {o : Oper} {act : Act} {Q : Exit → Act → World → Prop} {w : World} (hgd : o.guard = none) (s x : Operand)
    (ho : o.op = .call { callee := .builtin .append, args := #[s, x], argTypes := #[92, 92] })
    {B : Nat} {a : Option Addr} {cap0 : Nat} {l : List (Nat × Nat)} (hown : OwnR B w a cap0 l) (n : Nat) (hn : l.length = n) (hs : act.eval s = .slice a n cap0)
    (g c' : Nat) (c : Nat × Nat) (hx : act.eval x = .slice (some ⟨g, 0, none⟩) 1 c') (hc : w.heap[g]? = some (.cells #[.int .i64 (c.1 : Int), .int .i64 (c.2 : Int)] 131 (0, 0)))
    (hlen : n < 1000000) (hbase : B ≤ w.heap.size)
    (h : ∀ g cap w', OwnR B w' (some ⟨g, 0, none⟩) cap (l ++ [c]) → w.grownBy w' (Value.slice a l.length cap0).ownBlock → ((Value.slice a l.length cap0).ownBlock = some g ∨ g = w.heap.size) → wpList Tryz.prog ops Q rest (act.put o.dst (.slice (some ⟨g, 0, none⟩) (n + 1) cap)) w') : wpList Tryz.prog ops Q (o :: rest) act w := by
  subst hn
  obtain ⟨i0, hi0, hz0, hz1, hz2⟩ := info_parts Tryz.info_tear
  refine wpList_append_lies w hgd s x 92 ho B 131 i0 _ 2 16 Tryz.underlying92 hi0 hz0 hz1 hz2 rfl (by decide) (.slice a l.length cap0) l.length (segCells l) hs hown ⟨g, 0, none⟩ 1 c' [.int .i64 (c.1 : Int), .int .i64 (c.2 : Int)] hx rfl
    (fun j u hj => ?_) (by simp [Value.oneCell']) (by decide) (by unfold maxLen; omega) (by omega) hbase w.heap.size rfl (fun g cap w' h1 h2 h3 _ => h g cap w' ?_ h2 h3)
  · rw [show (⟨g, 0, none⟩ : Addr).add j = ⟨g, j, none⟩ by unfold Addr.add; split <;> simp_all, cell_of_row _ _ _ _ _ _ hc]
    simpa using hj
  · unfold OwnR
    rw [segCells_snoc, List.length_append]; exact h1
/-- The opening's own cells. -/
def Op (w : World) (o s : Nat) (tv : Value) : Prop := w.heap[o]? = some (.cells #[.pointer (some ⟨s, 0, none⟩), tv] 94 (0, 0))
theorem Op.lt {w : World} {o s : Nat} {tv : Value} (h : Op w o s tv) : o < w.heap.size := (Array.getElem?_eq_some_iff.1 h).1
theorem op_cells {w : World} {o s : Nat} {tv : Value} (h : Op w o s tv) : w.cell? ⟨o, 0, none⟩ = some (.pointer (some ⟨s, 0, none⟩)) ∧ w.cell? ⟨o, 1, none⟩ = some tv ∧ w.frozen? ⟨o, 1, none⟩ = false := by
  unfold Op at h
  exact ⟨by rw [cell_of_row _ _ _ _ _ _ h]; rfl, by rw [cell_of_row _ _ _ _ _ _ h]; rfl, frozen_of_row _ _ _ _ _ h⟩
theorem OwnR.ne {B : Nat} {w : World} {o s : Nat} {tv : Value} {a : Option Addr} {cap : Nat} {l : List (Nat × Nat)} (hd : Op w o s tv) (h : OwnR B w a cap l) : (Value.slice a l.length cap).ownBlock ≠ some o := fun e => by
  rcases h.2 with ⟨e1, hn⟩ | ⟨g, c, cur, e1, hB, hg, -⟩
  · injection e1 with e2 _ _; subst e2; cases e
  · injection e1 with e2 _ _
    subst e2
    injection e with e
    have e : g = o := e
    subst e
    unfold Op at hd
    rw [hd] at hg
    injection hg with hg
    injection hg with _ hg _
    exact absurd hg (by decide)
/-- The tears behind a scan. -/
def tearsOf (er x m : Nat) (T : List (Nat × Nat)) : List (Nat × Nat) := if er = 7 then T ++ [(x, m)] else T
/-- What a scan of an extent leaves. -/
def Scanned (B o s : Nat) (ta : Option Addr) (tc : Nat) (T T' : List (Nat × Nat)) (l : List ByteArray) (w : World) (e : Ending) (w' : World) : Prop :=
  ∃ a cap ta' tc', e = .returned (.tuple #[.slice a l.length cap, .int .i64 0]) ∧ OwnT w.heap.size w' a cap l ∧ Op w' o s (.slice ta' T'.length tc') ∧ OwnR B w' ta' tc' T' ∧
    TouchX (fun g => g = o ∨ (Value.slice ta T.length tc).ownBlock = some g) (fun _ => 0) (fun _ => 0) w w'
set_option maxRecDepth 100000 in
set_option maxHeartbeats 1000000 in
theorem scanx_any {w : World} {ρ : Nat → Nat} {s o b B x : Nat} {D : Disk} {S : Stor} {vs vr : Value} {ta : Option Addr} {tc : Nat} {T : List (Nat × Nat)} (h : DiskAt w ρ b D) (hu : D.down = false) (hx : x < D.sure.length) (hd : Hd w s b S vs vr) (hop : Op w o s (.slice ta T.length tc)) (hot : OwnR B w ta tc T) (hB : B ≤ w.heap.size)
    (mt : Bool) (bs : List (List UInt8)) (m er : Nat) (hsc : Scans (exAt D.now x).data.toList bs m er) (her : er = 4 ∨ er = 7 ∧ mt = true) (hT : T.length ≤ 1000) :
    Calls Tryz.prog 74 #[.pointer (some ⟨o, 0, none⟩), .int .i64 (x : Int), .bool mt] w (Scanned B o s ta tc T (tearsOf er x m T) (bs.map str) w) := by
  have he : eerr D x = 0 := by unfold eerr; rw [if_neg (by rw [hu]; decide), if_neg (by omega)]
  have hrd := read_any h (x : Int)
  rw [he] at hrd
  obtain ⟨t, ht⟩ : ∃ t, t = readD D x := ⟨_, rfl⟩
  have hte : t = exAt D.now x := by rw [ht]; unfold readD; rw [if_pos he, Int.toNat_natCast]
  have hts : t.size ≤ 65536 := by rw [hte]; exact h.ok.fits.all.at x
  rw [← ht] at hrd
  rw [← hte] at hsc
  have hml := hsc.le.1
  have hms : m ≤ 65536 := by have : t.data.toList.length = t.size := rfl; omega
  have hsn := scan_any t (by omega) bs m er hsc w
  obtain ⟨o0, o1, o2⟩ := op_cells hop
  obtain ⟨q0, -⟩ := hd_cells hd
  have hx64 : x < 64 := by have := h.ok.num; omega
  obtain ⟨K, hK⟩ : ∃ K, K = T.length := ⟨_, rfl⟩
  obtain ⟨N, hN⟩ : ∃ N, N = bs.length := ⟨_, rfl⟩
  have hne := OwnR.ne hop hot
  have hK1 : K ≤ 1000 := by omega
  rw [← hK] at o1
  rw [← hN] at hsn
  have H := Lib.hid (And.intro hrd (And.intro hsn (And.intro hop (And.intro hot (And.intro hK (And.intro hN (And.intro hne hB)))))))
  clear hrd hsn hop hot hK hN hne hT h hu hd he ht hte hsc hml hx hB hts
  rcases her with rfl | ⟨rfl, rfl⟩
  · go_enter Tryz.func74, Tryz.ntmps74
    go_wp2_with fail
    refine H.out.1.mono ?_
    rintro e w1 ⟨rfl, rfl⟩
    go_wp2_with fail
    refine H.out.2.1.mono ?_
    rintro e w1 ⟨a, cap, rfl, ho1, hb1⟩
    have HB := Lib.hid (And.intro ho1 hb1)
    clear ho1 hb1
    go_wp2_with fail
    all_goals
      go_ret2
      refine ⟨a, cap, ta, tc, by rw [List.length_map, ← H.out.2.2.2.2.2.1]; rfl, HB.out.1, ?_, ?_, TouchX.below HB.out.2⟩
      · show Op w1 o s (.slice ta T.length tc)
        exact (HB.out.2.block _ H.out.2.2.1.lt).trans H.out.2.2.1
      · exact H.out.2.2.2.1.call HB.out.2
  · go_enter Tryz.func74, Tryz.ntmps74
    go_wp2_with fail
    refine H.out.1.mono ?_
    rintro e w1 ⟨rfl, rfl⟩
    go_wp2_with fail
    refine H.out.2.1.mono ?_
    rintro e w1 ⟨a, cap, rfl, ho1, hb1⟩
    have hop1 : Op w1 o s (.slice ta T.length tc) := (hb1.block _ H.out.2.2.1.lt).trans H.out.2.2.1
    have hot1 := H.out.2.2.2.1.call hb1
    obtain ⟨-, p1, p2⟩ := op_cells hop1
    rw [← H.out.2.2.2.2.1] at p1
    have hol : o < w1.heap.size := hop1.lt
    have HB := Lib.hid (And.intro ho1 (And.intro hb1 (And.intro hop1 hot1)))
    clear ho1 hb1 hop1 hot1 o0 o1 o2 q0
    go_wp2_with (at_builtin; (refine wpList_append_tear rfl (.tmp 44) (.tmp 48) rfl (HB.out.2.2.2.call ((Below.refl _ _).alloc (Nat.le_refl _) _)) K H.out.2.2.2.2.1.symm rfl w1.heap.size 1 (x, m) rfl (heap_alloc_new w1 _) (by omega) (by have := HB.out.2.1.size; have := H.out.2.2.2.2.2.2.2; simp; omega) ?_; intro g5 cap5 w5 ho5 hg5 hb5; have p15 : w5.cell? ⟨o, 1, none⟩ = some (.slice ta K tc) := (hg5.cell_far ⟨o, 1, none⟩ (by simp; omega) (fun e => OwnR.ne HB.out.2.2.1 HB.out.2.2.2 e.symm)).trans ((((Below.refl w1.heap.size w1).alloc (Nat.le_refl _) _).cell (p := ⟨o, 1, none⟩) hol).trans p1); have p25 : w5.frozen? ⟨o, 1, none⟩ = false := (hg5.frozen_far ⟨o, 1, none⟩ (by simp; omega) (fun e => OwnR.ne HB.out.2.2.1 HB.out.2.2.2 e.symm)).trans ((((Below.refl w1.heap.size w1).alloc (Nat.le_refl _) _).frozen (p := ⟨o, 1, none⟩) hol).trans p2); have H5 := Lib.hid (And.intro ho5 (And.intro hg5 hb5)); clear ho5 hg5 hb5))
    go_ret2
    have hba : Below w1.heap.size w1 (w1.alloc (.cells #[.int .i64 (x : Int), .int .i64 (m : Int)] 131)) := (Below.refl _ _).alloc (Nat.le_refl _) _
    have kp : ∀ g, g < w1.heap.size → (Value.slice ta T.length tc).ownBlock ≠ some g → w5.heap[g]? = w1.heap[g]? := fun g hg hn => (H5.out.2.1.block g (Nat.lt_of_lt_of_le hg hba.size) (fun e => hn e.symm)).trans (hba.block g hg)
    have hop5 : Op w5 o s (.slice ta T.length tc) := (kp o hol H.out.2.2.2.2.2.2.1).trans HB.out.2.2.1
    have hop6 : Op (w5.setCell ⟨o, 1, none⟩ (.slice (some ⟨g5, 0, none⟩) (K + 1) cap5)) o s (.slice (some ⟨g5, 0, none⟩) (K + 1) cap5) := heap_setCell_same _ _ 1 _ _ _ hop5
    have hlen : (tearsOf 7 x m T).length = K + 1 := by unfold tearsOf; rw [if_pos rfl, List.length_append, ← H.out.2.2.2.2.1]; rfl
    have hte : tearsOf 7 x m T = T ++ [(x, m)] := if_pos rfl
    have hTlt : ∀ g, (Value.slice ta T.length tc).ownBlock = some g → g < w.heap.size := fun g hg => (World.ownsRow.lt H.out.2.2.2.1 g hg).2
    refine ⟨a, cap, some ⟨g5, 0, none⟩, cap5, by rw [List.length_map, ← H.out.2.2.2.2.2.1]; rfl, ?_, ?_, ?_, ?_⟩
    · have ho := HB.out.1
      refine ⟨ho.1, ?_⟩
      rcases ho.2 with k | ⟨g, c, cur, e, hBg, hg, h3⟩
      · exact .inl k
      · refine .inr ⟨g, c, cur, e, hBg, ?_, h3⟩
        rw [heap_setCell_other _ _ g _ (fun e2 => by have := H.out.2.2.1.lt; have e2 : g = o := e2; omega), kp g (Array.getElem?_eq_some_iff.1 hg).1 (fun e2 => by have := hTlt g e2; omega)]
        exact hg
    · rw [hlen]; exact hop6
    · rw [hte]
      refine H5.out.1.same fun g hg => heap_setCell_other _ _ g _ (fun e2 => OwnR.ne hop5 H5.out.1 (by rw [hg, e2]))
    · exact ((TouchX.below HB.out.2.1).trans (touchX_grown hba H5.out.2.1 (fun k hk => .inr hk))).set _ _ (.inl rfl)
/-- Is a head the one of a segment? -/
theorem same_any_leaf (x y : It) (T : Nat → Prop) (w : World) (hx : x.In w T) (hy : y.In w T) : Calls Tryz.prog 97 #[x.val, y.val] w fun e w' => e = .returned (.bool (sameP x.pure y.pure)) ∧ Below w.heap.size w w' :=
  same_any x.sz x (Nat.le_refl _) T y w hx hy
end Go.Proofs.YtdmbombjkinboaaGreat
