/- lockboxlaw12.awake; a new disk; what a law may touch. -/
import Derived.Test.YtdmbombjkinboaaGreatYAgain
import Derived.Test.YtdmbombjkinboaaGreatFSame
namespace Go.Proofs.YtdmbombjkinboaaGreat
open Go.RowKit
open Dk Sg Fr

namespace Sg
theorem Img.new {n : Nat} {room : Int} (h3 : 3 ≤ n) (h64 : n ≤ 64) : Img n (Disk.new n room).sure 0 (fun _ => []) (0, ⟨0, []⟩) [] [] := by
  have he : ∀ j, exAt (Disk.new n room).sure j = ⟨#[]⟩ := fun j => by
    unfold exAt Disk.new
    rw [List.getD_eq_getElem?_getD, List.getElem?_replicate]
    split <;> rfl
  exact ⟨by simp [Disk.new], h3, h64, fun j _ => .of (by rw [he]; exact Wh.nil), fun j _ e h => (by cases h), .inl rfl, Nat.le_refl _, rfl, fun i x rs h => (by simp at h), fun s h => (by cases h), by simp, fun t h => (by cases h)⟩
/-- An append that wants no turn leaves what is sure as it is. -/
theorem appendS_sure {D : Disk} {S : Stor} {r : ByteArray} (h0 : ¬ r.size = 0) (h1 : ¬ 900 < r.size) (h2 : fellS D S = false) (h3 : ¬ roomD D S.last < (r.size : Int) + 8) (h4 : (appendS D S r).2.2.2 = 0) : (appendS D S r).1.sure = D.sure := by
  have hp : ∀ c : Chg, (D.puts c).2 = 0 → (D.puts c).1.sure = D.sure := fun c h => by
    unfold Disk.puts at h ⊢
    split at h
    · cases h
    · rename_i k; rw [if_neg k]
  have ha : ∀ x long text, (D.act 0 x long text).2 = 0 → (D.act 0 x long text).1.sure = D.sure := fun x long text h => by
    unfold Disk.act at h ⊢
    split at h
    · rename_i k; rw [if_pos k]; exact hp _ h
    · rename_i k; rw [if_neg k]
  unfold appendS at h4 ⊢
  rw [if_neg h0, if_neg h1, if_neg (by rw [h2]; decide), if_neg h3] at h4 ⊢
  simp only at h4 ⊢
  rw [if_neg (by decide)] at h4 ⊢
  by_cases e : (D.act 0 S.last 0 (str (frm r.data.toList))).2 = 0
  · rw [if_neg (by rw [e]; decide)] at h4 ⊢
    exact ha _ _ _ e
  · rw [if_pos e] at h4
    exact absurd h4 e
def oN : Res := openS (Disk.new 4 2048) (stS 0 (0, ⟨0, []⟩) [] 0) []
def aN : Disk × Stor × Int × Int := appendS oN.1 oN.2.1 ⟨#[97]⟩
def bN : Disk × Stor × Int × Int := appendS aN.1 aN.2.1 ⟨#[98]⟩
def sN : Res := syncPub bN.1 bN.2.1
def cN : Disk × Stor × Int × Int := appendS sN.1 sN.2.1 ⟨#[99]⟩
theorem oN_ok : oN.2.2 = 0 := by decide +kernel
theorem aN_ok : aN.2.2.1 = 0 ∧ aN.2.2.2 = 0 := by decide +kernel
theorem bN_ok : bN.2.2.1 = 1 ∧ bN.2.2.2 = 0 := by decide +kernel
theorem cN_ok : cN.2.2.1 = 2 ∧ cN.2.2.2 = 0 ∧ ¬ roomD sN.1 sN.2.1.last < 9 := by decide +kernel
theorem cN_laid : cN.1.laid = false := by decide +kernel
theorem oN_live : Live 4 1 oN.1 oN.2.1 ∧ oN.2.1.recs = [] := by
  have hz : Sz (Disk.new 4 2048).sure := (Disk.Ok.new (by decide) (by decide) (by decide)).fits
  rcases open_out (D := Disk.new 4 2048) rfl rfl (Img.new (by decide) (by decide)) hz (by decide) (by decide) with ⟨-, h1, h2, -⟩ | ⟨h1, -⟩
  · exact ⟨h1, h2⟩
  · have : oN.2.2 = 9 := h1
    rw [oN_ok] at this; exact absurd this (by decide)
theorem app_live {n N : Nat} {D : Disk} {S : Stor} (h : Live n N D S) (hok : D.Ok) (hN : N < 1099511627776) (r : ByteArray) (he : (appendS D S r).2.2.2 = 0) : Live n (N + 1) (appendS D S r).1 (appendS D S r).2.1 ∧ (appendS D S r).2.1.recs = S.recs ++ [r] := by
  rcases h.append hok hN r with ⟨-, e⟩ | ⟨-, e⟩ | ⟨-, -, ⟨-, -, e⟩ | ⟨e, -⟩ | ⟨-, -, e1, e2, -⟩⟩
  · rw [e] at he; exact absurd he (show ¬ (1 : Int) = 0 by decide)
  · rw [e] at he; exact absurd he (show ¬ (2 : Int) = 0 by decide)
  · rw [e] at he; exact absurd he (show ¬ (6 : Int) = 0 by decide)
  · rw [e] at he; exact absurd he (by decide)
  · exact ⟨e1, e2⟩
end Sg
/-- What a law leaves of all that was there ahead of it. -/
theorem TouchX.blw {ρ ρ' : Nat → Nat} {w w' : World} {B : Nat} (h : TouchX (fun _ => False) ρ ρ' w w') (hr : ∀ g, g < B → ρ g = 0) (hB : B ≤ w.heap.size) : Below B w w' :=
  ⟨h.os, h.tape, h.output, h.size, fun g hg => h.same g (Nat.lt_of_lt_of_le hg hB) (hr g hg) (fun k => k)⟩
theorem TouchX.from_ {X : Nat → Prop} {ρ ρ' : Nat → Nat} {w w' : World} {B : Nat} (h : TouchX X ρ ρ' w w') (hr : ∀ g, g < B → ρ g = 0) (hB : B ≤ w.heap.size) : ∀ g, g < B → ρ' g = 0 :=
  fun g hg => (h.old g (Nat.lt_of_lt_of_le hg hB)).trans (hr g hg)
/-- What was there ahead of a law is as it was, and no part of the disk or the store. -/
structure Ctx (B : Nat) (w0 w : World) (ρ : Nat → Nat) (U : Nat → Prop) : Prop where
  low : Below B w0 w
  base : B ≤ w0.heap.size
  rol : ∀ g, g < B → ρ g = 0
  own : ∀ g, g < B → ¬ U g
theorem Ctx.size {B : Nat} {w0 w : World} {ρ : Nat → Nat} {U : Nat → Prop} (h : Ctx B w0 w ρ U) : B ≤ w.heap.size := Nat.le_trans h.base h.low.size
theorem Ctx.move {B : Nat} {w0 w w' : World} {ρ ρ' : Nat → Nat} {U U' : Nat → Prop} (h : Ctx B w0 w ρ U) (m : Move ρ U ρ' U' w w') : Ctx B w0 w' ρ' U' := by
  have h1 := m.blw (fun g hg => ⟨h.rol g hg, h.own g hg⟩) h.size
  have h2 := m.from_ (fun g hg => ⟨h.rol g hg, h.own g hg⟩) h.size
  exact ⟨h.low.trans h1, h.base, fun g hg => (h2 g hg).1, fun g hg => (h2 g hg).2⟩
theorem Ctx.touch {B : Nat} {w0 w w' : World} {ρ ρ' : Nat → Nat} {U U' : Nat → Prop} (h : Ctx B w0 w ρ U) (t : TouchX (fun _ => False) ρ ρ' w w') (hU : ∀ g, g < B → ¬ U' g) : Ctx B w0 w' ρ' U' :=
  ⟨h.low.trans (t.blw h.rol h.size), h.base, t.from_ h.rol h.size, hU⟩
theorem Ctx.new {B : Nat} {w0 w w' : World} {ρ ρ' : Nat → Nat} {U U' : Nat → Prop} (h : Ctx B w0 w ρ U) (t : TouchX (fun _ => False) ρ ρ' w w') (hU : ∀ g, U' g → w.heap.size ≤ g) : Ctx B w0 w' ρ' U' :=
  h.touch t fun g hg e => by have := hU g e; have := h.size; omega
theorem Ctx.below {B : Nat} {w0 w w' : World} {ρ : Nat → Nat} {U : Nat → Prop} (h : Ctx B w0 w ρ U) (t : Below w.heap.size w w') : Ctx B w0 w' ρ U := ⟨h.low.trans (t.mono h.size), h.base, h.rol, h.own⟩
/-- A store whose disk has turned, by itself. -/
theorem sat_disk {w w' : World} {ρ ρ' : Nat → Nat} {U : Nat → Prop} {s b : Nat} {D D' : Disk} {S : Stor} (h : SAt w ρ U s b D S) (hD : DiskAt w' ρ' b D') (t : TouchX (fun _ => False) ρ ρ' w w') : SAt w' ρ' U s b D' S := by
  obtain ⟨a, cap, ar, cr, h1, h2, h3, h4, h5⟩ := h.body
  have kp : ∀ g, U g → w'.heap[g]? = w.heap[g]? := fun g hg => t.same g (h.off g hg).2 (h.off g hg).1 (fun k => k)
  exact ⟨hD, fun g hg => ⟨(t.old g (h.off g hg).2).trans (h.off g hg).1, Nat.lt_of_lt_of_le (h.off g hg).2 t.size⟩, h.us, a, cap, ar, cr, h1.same (kp s h.us), own_keep h2 fun g hg => kp g (h3 g hg), h3, own_keep h4 fun g hg => kp g (h5 g hg), h5⟩
theorem sat_all {w : World} {ρ : Nat → Nat} {U : Nat → Prop} {s b : Nat} {D : Disk} {S : Stor} (h : SAt w ρ U s b D S) (hn : S.recs.length ≤ 1000000) (hsz : ∀ x ∈ S.recs, x.size ≤ 281474976710656) :
    Calls Tryz.prog 14 #[.pointer (some ⟨s, 0, none⟩)] w fun e w' => ∃ g, e = .returned (.slice (some ⟨g, 0, none⟩) S.recs.length S.recs.length) ∧ OwnT w.heap.size w' (some ⟨g, 0, none⟩) S.recs.length S.recs ∧ Below w.heap.size w w' := by
  obtain ⟨a, cap, ar, cr, h1, h2, h3, h4, h5⟩ := h.body
  exact sall_any h1 h4 hn hsz
theorem sat_len {w : World} {ρ : Nat → Nat} {U : Nat → Prop} {s b : Nat} {D : Disk} {S : Stor} (h : SAt w ρ U s b D S) :
    Calls Tryz.prog 12 #[.pointer (some ⟨s, 0, none⟩)] w fun e w' => e = .returned (.int .i64 (S.recs.length : Int)) ∧ w = w' := by
  obtain ⟨a, cap, ar, cr, h1, h2, h3, h4, h5⟩ := h.body
  exact slen_any h1
theorem sat_sure {w : World} {ρ : Nat → Nat} {U : Nat → Prop} {s b : Nat} {D : Disk} {S : Stor} (h : SAt w ρ U s b D S) :
    Calls Tryz.prog 15 #[.pointer (some ⟨s, 0, none⟩)] w fun e w' => e = .returned (.int .i64 (S.sure : Int)) ∧ w = w' := by
  obtain ⟨a, cap, ar, cr, h1, h2, h3, h4, h5⟩ := h.body
  exact ssure_any h1
theorem sat_left {w : World} {ρ : Nat → Nat} {U : Nat → Prop} {s b : Nat} {D : Disk} {S : Stor} (h : SAt w ρ U s b D S) (hn : S.segs.length ≤ 1000000) :
    Calls Tryz.prog 22 #[.pointer (some ⟨s, 0, none⟩)] w fun e w' => e = .returned (.int .i64 (leftS D S)) ∧ Below w.heap.size w w' := by
  obtain ⟨a, cap, ar, cr, h1, h2, h3, h4, h5⟩ := h.body
  exact sleft_any h.disk h1 hn
theorem Sg.Live.small {n N : Nat} {D : Disk} {S : Stor} (h : Live n N D S) : ∀ x ∈ S.recs, 1 ≤ x.size ∧ x.size ≤ 900 := by
  obtain ⟨Ls, c, l, h1, h2, h3⟩ := h.img
  intro x hx
  rw [h2.recs] at hx
  obtain ⟨s, hs, hx⟩ := List.mem_flatMap.1 hx
  exact h1.recs s hs x hx
theorem bud_appendS {n : Nat} {D : Disk} {S : Stor} {r : ByteArray} (h : Bud n D) : Bud (n + 5) (appendS D S r).1 := by
  have ha : Bud (n + 4) (aheadS D S r).1 := by
    unfold aheadS
    split
    · exact bud_turnS h
    · exact h.mono (by omega)
  by_cases h0 : r.size = 0
  · rw [show appendS D S r = (D, S, 0, 1) from if_pos h0]; exact h.mono (by omega)
  by_cases h1 : 900 < r.size
  · rw [show appendS D S r = (D, S, 0, 2) from (if_neg h0).trans (if_pos h1)]; exact h.mono (by omega)
  by_cases h2 : fellS D S = true
  · rw [appendS_fell h0 h1 h2]; exact h.mono (by omega)
  rw [appendS_main h0 h1 (by simpa using h2)]
  unfold behindS
  split
  · exact ha.mono (by omega)
  split
  · exact ha.act (kind := 0) (by decide) _ _ _
  · exact ha.act (kind := 0) (by decide) _ _ _
/-- Open at the new disk of the page's example. -/
theorem open_new {w : World} {ρ : Nat → Nat} {b : Nat} (h : DiskAt w ρ b (Disk.new 4 2048)) : Calls Tryz.prog 28 #[.pointer (some ⟨b, 0, none⟩)] w fun e w' => ∃ s ρ' U', e = .returned (.tuple #[.pointer (some ⟨s, 0, none⟩), .int .i64 0]) ∧ SAt w' ρ' U' s b oN.1 oN.2.1 ∧ (∀ g, U' g → w.heap.size ≤ g) ∧ TouchX (fun _ => False) ρ ρ' w w' := by
  have he : ∀ j, exAt (Disk.new 4 2048).now j = ⟨#[]⟩ := fun j => by
    show exAt (List.replicate 4 (⟨#[]⟩ : ByteArray)) j = _
    unfold exAt
    rw [List.getD_eq_getElem?_getD, List.getElem?_replicate]
    split <;> rfl
  have ho := sopen_any (n := 4) (N := 0) h rfl rfl (by decide) (by decide) (Bud.new (by decide) (by decide) (by decide)) (by decide) (fun _ => ⟨[], 0, 4⟩) (fun j _ => ⟨by rw [he]; exact Scans.none, .inl rfl, fun e h => (by cases h)⟩) [] (fun _ => (0, 4)) rfl ⟨by decide, by decide, fun i x rs h => (by simp at h)⟩ (by decide) (by decide) (fun _ => by decide)
  refine ho.mono ?_
  rintro e w' (⟨-, s, ρ', U', h1, h2, h3, h4⟩ | ⟨q, -⟩)
  · exact ⟨s, ρ', U', h1, h2, h3, h4⟩
  · exact absurd oN_ok q
theorem Bud.oN : Bud 7 oN.1 := bud_openS (n := 0) (Bud.new (by decide) (by decide) (by decide)) (by decide)
set_option maxRecDepth 100000 in
set_option maxHeartbeats 2000000 in
theorem awake_s (w : World) : Calls Tryz.prog 9 #[] w fun e w' => e = .returned (.bool true) ∧ Below w.heap.size w w' := by
  have hnew := new_any 4 2048 (by decide) (by decide) (by decide) (by decide) w
  have H := Lib.hid hnew
  clear hnew
  go_enter Tryz.func9, Tryz.ntmps9
  go_wp2_with fail
  refine H.out.mono ?_
  rintro e w1 ⟨b, ρ, rfl, hD, hF, hb⟩
  have H1 := Lib.hid (And.intro (open_new hD) (And.intro hF hb))
  clear hD hF hb
  go_wp2_with fail
  refine H1.out.1.mono ?_
  rintro e w2 ⟨s, ρ2, U2, rfl, hs2, hU2, ht2⟩
  have hc2 : Ctx w.heap.size w w2 ρ2 U2 := Ctx.new (U := fun _ => False) ⟨H1.out.2.2, Nat.le_refl _, H1.out.2.1, fun _ _ k => k⟩ ht2 hU2
  have hap2 := sappend_any hs2 Bud.oN (by decide) (oN_live.1.fine hs2.disk.ok (by decide)) ⟨#[97]⟩ (by decide)
  rw [show (appendS oN.1 oN.2.1 ⟨#[97]⟩) = aN from rfl, aN_ok.1, aN_ok.2] at hap2
  have H2 := Lib.hid (And.intro hap2 (And.intro hs2 hc2))
  clear hap2 hs2 hU2 ht2 hc2
  go_wp2_with fail
  refine H2.out.1.mono ?_
  rintro e w3 ⟨rfl, ρ3, U3, hs3, hm3⟩
  have hl3 := app_live oN_live.1 H2.out.2.1.disk.ok (by decide) ⟨#[97]⟩ aN_ok.2
  change Live 4 2 aN.1 aN.2.1 ∧ aN.2.1.recs = _ at hl3
  have hap3 := sappend_any hs3 (bud_appendS Bud.oN) (by decide) (hl3.1.fine hs3.disk.ok (by decide)) ⟨#[98]⟩ (by decide)
  rw [show (appendS aN.1 aN.2.1 ⟨#[98]⟩) = bN from rfl, bN_ok.1, bN_ok.2] at hap3
  have H3 := Lib.hid (And.intro hap3 (And.intro hs3 (And.intro (H2.out.2.2.move hm3) hl3)))
  clear hap3 hs3 hm3 hl3
  go_wp2_with fail
  refine H3.out.1.mono ?_
  rintro e w4 ⟨rfl, ρ4, U4, hs4, hm4⟩
  have hl4 := app_live H3.out.2.2.2.1 H3.out.2.1.disk.ok (by decide) ⟨#[98]⟩ bN_ok.2
  change Live 4 3 bN.1 bN.2.1 ∧ bN.2.1.recs = _ at hl4
  have hsy := ssyncp_any hs4 (bud_appendS (r := ⟨#[98]⟩) (bud_appendS (r := ⟨#[97]⟩) Bud.oN)) (by decide)
  obtain ⟨y1, y2⟩ := hl4.1.sync
  rw [show (syncPub bN.1 bN.2.1) = sN from rfl] at hsy y1
  rw [show sN.2.2 = 0 by rw [y1]] at hsy
  have hb4 : Bud 17 bN.1 := bud_appendS (S := aN.2.1) (r := ⟨#[98]⟩) (bud_appendS (S := oN.2.1) (r := ⟨#[97]⟩) Bud.oN)
  have hb5 : Bud 17 sN.1 := by
    have h := hb4.sync
    rw [sync_err bN.1 hl4.1.up] at h
    rw [y1]; exact h
  have hl5 : Live 4 3 sN.1 sN.2.1 := by rw [y1]; exact y2
  have hr5 : sN.2.1.recs = [⟨#[97]⟩, ⟨#[98]⟩] := by rw [y1]; show bN.2.1.recs = _; rw [hl4.2, H3.out.2.2.2.2, oN_live.2]; rfl
  have he5 : sN.2.1.sure = 2 := by rw [y1]; show bN.2.1.recs.length = 2; rw [hl4.2, H3.out.2.2.2.2, oN_live.2]; rfl
  have H4 := Lib.hid (And.intro hsy (And.intro (H3.out.2.2.1.move hm4) (And.intro hb5 (And.intro hl5 (And.intro hr5 he5)))))
  clear hsy hs4 hm4 hl4 y1 y2 hb4 hb5 hl5 hr5 he5
  go_wp2_with fail
  refine H4.out.1.mono ?_
  rintro e w5 ⟨rfl, ρ5, hs5, hm5⟩
  have hap5 := sappend_any hs5 H4.out.2.2.1 (by decide) (H4.out.2.2.2.1.fine hs5.disk.ok (by decide)) ⟨#[99]⟩ (by decide)
  rw [show (appendS sN.1 sN.2.1 ⟨#[99]⟩) = cN from rfl, cN_ok.1, cN_ok.2.1] at hap5
  have H5 := Lib.hid (And.intro hap5 (And.intro hs5 (H4.out.2.1.move hm5)))
  clear hap5 hs5 hm5
  go_wp2_with fail
  refine H5.out.1.mono ?_
  rintro e w6 ⟨rfl, ρ6, U6, hs6, hm6⟩
  have hl6 := app_live H4.out.2.2.2.1 H5.out.2.1.disk.ok (by decide) ⟨#[99]⟩ cN_ok.2.1
  change Live 4 4 cN.1 cN.2.1 ∧ cN.2.1.recs = _ at hl6
  have hb6 : Bud 22 cN.1 := bud_appendS H4.out.2.2.1
  have hfd := failD_any hs6.disk (hb6.small (by decide)) 0 0
  have hsr : cN.1.sure = sN.1.sure := appendS_sure (by decide) (by decide) H4.out.2.2.2.1.fell cN_ok.2.2 cN_ok.2.1
  have hfs : (cN.1.fail 0 0).sure = sN.1.sure ∧ (cN.1.fail 0 0).waits = [] ∧ (cN.1.fail 0 0).room = cN.1.room := by
    unfold Disk.fail
    rw [if_neg (by rw [hl6.1.up]; decide)]
    refine ⟨?_, rfl, rfl⟩
    show madeAll cN.1.sure (kept cN.1.waits 0 0) = _
    have : kept cN.1.waits 0 0 = [] := by
      unfold kept keepOf
      rw [show min (0 : Int).toNat cN.1.waits.length = 0 by simp, List.take_zero, List.nil_append]
      unfold tornOf
      split
      · rw [if_neg (by omega)]
      · rfl
    rw [this, ← hsr]; rfl
  have hrc : Rec 4 3 [⟨#[97]⟩, ⟨#[98]⟩] (cN.1.fail 0 0).sure := by
    rw [hfs.1]
    obtain ⟨m, m1, m2, m3⟩ := H4.out.2.2.2.1.steady.first
    rw [H4.out.2.2.2.2.1] at m2 m3
    rw [H4.out.2.2.2.2.2] at m1
    have : m = 2 := by simp at m2; omega
    subst this
    exact m3
  have H6 := Lib.hid (And.intro hfd (And.intro hs6 (And.intro (H5.out.2.2.move hm6) (And.intro hb6 (And.intro hfs (And.intro hrc hl6.1.room))))))
  clear hfd hs6 hm6 hl6 hb6 hsr hfs hrc
  go_wp2_with fail
  refine H6.out.1.mono ?_
  rintro e w7 ⟨rfl, ρ7, hD7, ht7⟩
  have hc7 := H6.out.2.2.1.touch (TouchX.of ht7) H6.out.2.2.1.own
  have hup := up_any hD7
  have H7 := Lib.hid (And.intro hup (And.intro hc7 hD7))
  clear hup hc7 hD7 ht7
  go_wp2_with fail
  refine H7.out.1.mono ?_
  rintro e w8 ⟨rfl, hD8, ht8⟩
  have hc8 := H7.out.2.1.touch (TouchX.of (X := fun _ => False) (ht8.mono (R' := RA) fun r e => by rw [e]; unfold RA; decide)) H7.out.2.1.own
  have hop := sopen_out (R := [⟨#[97]⟩, ⟨#[98]⟩]) (n := 4) (N := 3) hD8 rfl H6.out.2.2.2.2.1.2.1 H6.out.2.2.2.2.2.1 (by show 1024 ≤ (cN.1.fail 0 0).room; rw [H6.out.2.2.2.2.1.2.2]; exact H6.out.2.2.2.2.2.2) (by decide) ((H6.out.2.2.2.1.fail 0 0).up) (by decide)
  have H8 := Lib.hid (And.intro hop hc8)
  clear hop hc8 hD8 ht8
  go_wp2_with fail
  refine H8.out.1.mono ?_
  rintro e w9 (⟨t, ρ9, U9, D9, S9, rfl, hst⟩ | ⟨ρ9, D9, rfl, -, -, q3, -⟩)
  · have hal := sat_all hst.at_ (by rw [hst.recs]; decide) (fun x hx => by have := hst.live.small x hx; omega)
    have hsu := sat_sure hst.at_
    rw [hst.recs] at hal
    rw [hst.sure] at hsu
    have H9 := Lib.hid (And.intro hal (And.intro hst (H8.out.2.new hst.touch hst.new)))
    clear hal hst hsu
    go_wp2_with fail
    refine H9.out.1.mono ?_
    rintro e wa ⟨g, rfl, ho, hb⟩
    have hca := H9.out.2.2.below hb
    have hsa := H9.out.2.1.at_.below hb
    have hbb : Below wa.heap.size wa (wa.alloc (.cells #[.string ⟨#[97]⟩, .string ⟨#[98]⟩] 9)) := (Below.refl _ _).alloc (Nat.le_refl _) _
    have hgl : g < wa.heap.size := (ho.lt rfl).2
    have ht1 : TextsAt (wa.alloc (.cells #[.string ⟨#[97]⟩, .string ⟨#[98]⟩] 9)) (some ⟨g, 0, none⟩) [⟨#[97]⟩, ⟨#[98]⟩] := (ho.call hbb).texts
    have ht2 : TextsAt (wa.alloc (.cells #[.string ⟨#[97]⟩, .string ⟨#[98]⟩] 9)) (some ⟨wa.heap.size, 0, none⟩) [⟨#[97]⟩, ⟨#[98]⟩] := fun j hj => by
      have hj : j < 2 := hj
      refine ⟨wa.heap.size, 0, rfl, by simp, ?_⟩
      rw [cell_of_row _ _ _ _ _ _ (heap_alloc_new wa _)]
      match j, hj with
      | 0, _ => rfl
      | 1, _ => rfl
    have hsm := rsame_any _ _ _ 2 2 _ ht1 ht2 (by decide)
    have Ha := Lib.hid (And.intro hsm (And.intro (hca.below hbb) (And.intro (hsa.below hbb) H9.out.2.1.sure)))
    clear hsm ht1 ht2 hca hsa hb ho
    go_wp2_with fail
    refine Ha.out.1.mono ?_
    rintro e wb ⟨rfl, hb⟩
    have hsu := sat_sure (Ha.out.2.2.1.below hb)
    rw [Ha.out.2.2.2] at hsu
    have Hb := Lib.hid (And.intro hsu (Ha.out.2.1.below hb))
    clear hsu hb hbb
    go_wp2_with fail
    refine Hb.out.1.mono ?_
    rintro e wc ⟨rfl, rfl⟩
    go_wp2_with fail
    go_ret
    exact ⟨rfl, Hb.out.2.low⟩
  · have h1 : (cN.1.fail 0 0).laid = true := q3.was
    have h2 : (cN.1.fail 0 0).laid = cN.1.laid := by unfold Disk.fail; split <;> rfl
    rw [h2, cN_laid] at h1
    cases h1
end Go.Proofs.YtdmbombjkinboaaGreat
