/- PROVED HERE: for every three texts the law GfDots returns true (the sum of the products of two texts' bytes is the reference's, or the error; it goes through sums). No condition. -/
import Derived.Test.YtcknmpcekmbcdaaGAwake
import Derived.Test.YtcknmpcekmbcdaaRows
import Derived.ProofKit
import Derived.OpenShut
import Derived.Deep.RegionHeld
namespace Go.Proofs.Ytcknmpcekmbcdaa
open Go.RowKit
open Gf

/-- The sums of the first k bytes. -/
def xorL (b c : List UInt8) : Nat → List UInt8
  | 0 => []
  | k + 1 => xorL b c k ++ [co b k ^^^ co c k]
theorem xorL_length (b c : List UInt8) : ∀ k, (xorL b c k).length = k
  | 0 => rfl
  | k + 1 => by rw [xorL, List.length_append, xorL_length b c k]; rfl
theorem co_app (p q : List UInt8) (i : Nat) : co (p ++ q) i = if i < p.length then co p i else co q (i - p.length) := by
  unfold co
  rw [List.getD_eq_getElem?_getD, List.getD_eq_getElem?_getD, List.getD_eq_getElem?_getD]
  split
  · next h => rw [List.getElem?_append_left h]
  · next h => rw [List.getElem?_append_right (by omega)]
theorem co_xorL (b c : List UInt8) : ∀ k i, i < k → co (xorL b c k) i = co b i ^^^ co c i
  | 0, i, h => absurd h (by omega)
  | k + 1, i, h => by
    rw [xorL, co_app, xorL_length]
    by_cases e : i < k
    · rw [if_pos e, co_xorL b c k i e]
    · obtain rfl : i = k := by omega
      rw [if_neg e, Nat.sub_self, co_zero]
theorem sumX_xor (f g : Nat → UInt8) : ∀ n, sumX (fun i => f i ^^^ g i) n = sumX f n ^^^ sumX g n
  | 0 => by simp [sumX]
  | n + 1 => by rw [sumX, sumX, sumX, sumX_xor f g n]; ac_rfl
theorem dotN_mix (a b c : List UInt8) (n : Nat) : dotN a (xorL b c n) n = dotN a b n ^^^ dotN a c n := by
  unfold dotN
  rw [← sumX_xor]
  exact sumX_congr n (fun i hi => by rw [co_xorL b c n i hi, mul_add])
theorem gtrans {w X Y : World} (h : Below w.heap.size w X) (k : Below X.heap.size X Y) : Below w.heap.size w Y := h.trans (k.mono h.size)
theorem dot_v {a b : ByteArray} {d : UInt8} {e : Int} (ha : a.size ≤ maxLen) (hd : d = dot a b) (he : e = derr a b) (w : World) :
    Calls Try.prog 23 #[.string a, .string b] w fun e' w' => e' = .returned (.tuple #[.int .u8 (d.toNat : Int), .int .i64 e]) ∧ Below w.heap.size w w' := hd ▸ he ▸ dot_any a b ha w
theorem rdot_v {a b : ByteArray} {d : UInt8} {e : Int} (ha : a.size ≤ maxLen) (hd : d = dot a b) (he : e = derr a b) (w : World) :
    Calls Try.prog 24 #[.string a, .string b] w fun e' w' => e' = .returned (.tuple #[.int .u8 (d.toNat : Int), .int .i64 e]) ∧ Below w.heap.size w w' := hd ▸ he ▸ rdot_any a b ha w
theorem add_v {a b s : UInt8} (h : s = a ^^^ b) (w : World) :
    Calls Try.prog 13 #[.int .u8 (a.toNat : Int), .int .u8 (b.toNat : Int)] w fun e w' => e = .returned (.int .u8 (s.toNat : Int)) ∧ w = w' := h ▸ add_any a b w
/-- The bytes stand where they stand. -/
structure DtS (w : World) (ad : Option Addr) (cap : Nat) (l : List UInt8) (W : World) : Prop where
  own : OwnB w.heap.size W ad cap l
  below : Below w.heap.size w W
theorem DtS.call {w : World} {ad : Option Addr} {cap : Nat} {l : List UInt8} {W W' : World} (h : DtS w ad cap l W) (hb : Below W.heap.size W W') : DtS w ad cap l W' := ⟨h.own.call hb, h.below.trans (hb.mono h.below.size)⟩
theorem DtS.conv {w : World} {ad : Option Addr} {cap : Nat} {l : List UInt8} {W : World} (h : DtS w ad cap l W) {n : Nat} (hn : l.length = n) {L : ByteArray} (hL : L = str l) :
    (convert 46 9 (.slice ad n cap)).run Try.prog W = .ok (.string L) W := by
  subst hn hL; exact h.own.conv
set_option maxRecDepth 100000 in
set_option maxHeartbeats 1000000 in
theorem dots_law {w : World} (a : ByteArray) (ha : a.size ≤ maxLen) (b : ByteArray) (_ : b.size ≤ maxLen) (c : ByteArray) (_ : c.size ≤ maxLen) :
    Calls Try.prog 8 #[.string a, .string b, .string c] w fun e w' => e = .returned (.bool true) ∧ Below w.heap.size w w' := by
  by_cases s1 : (1000 : Int) < a.size
  · clear ha
    go_enter Try.func8, Try.ntmps8
    go_wp2_with fail
    refine (awake_any _).mono ?_
    rintro e w1 ⟨rfl, h1⟩
    go_wp2_with fail
    go_ret
    exact ⟨rfl, h1⟩
  by_cases s2 : (1000 : Int) < b.size
  · clear ha
    go_enter Try.func8, Try.ntmps8
    go_wp2_with fail
    refine (awake_any _).mono ?_
    rintro e w1 ⟨rfl, h1⟩
    go_wp2_with fail
    go_ret
    exact ⟨rfl, h1⟩
  by_cases s3 : (1000 : Int) < c.size
  · clear ha
    go_enter Try.func8, Try.ntmps8
    go_wp2_with fail
    refine (awake_any _).mono ?_
    rintro e w1 ⟨rfl, h1⟩
    go_wp2_with fail
    go_ret
    exact ⟨rfl, h1⟩
  obtain ⟨d, hd⟩ : ∃ d, d = dot a b := ⟨_, rfl⟩
  obtain ⟨er, he⟩ : ∃ er, er = derr a b := ⟨_, rfl⟩
  have HD := Lib.hid (And.intro (dot_v ha hd he) (rdot_v ha hd he))
  by_cases t1 : a.size = b.size
  · by_cases t2 : b.size = c.size
    · obtain ⟨n, hn⟩ : ∃ n, n = a.size := ⟨_, rfl⟩
      have na : (a.size : Int) = n := by omega
      have nb : (b.size : Int) = n := by omega
      have nc : (c.size : Int) = n := by omega
      have hn1 : n ≤ 1000 := by omega
      have er0 : derr a c = 0 := if_pos (by omega)
      obtain ⟨x, hx⟩ : ∃ x, x = dot a c := ⟨_, rfl⟩
      obtain ⟨L, hL⟩ : ∃ L, L = str (xorL b.data.toList c.data.toList n) := ⟨_, rfl⟩
      have hLs : L.size = n := by rw [hL, str_size, xorL_length]
      obtain ⟨y, hy⟩ : ∃ y, y = dot a L := ⟨_, rfl⟩
      have hyx : y = d ^^^ x := by
        rw [hy, hd, hx]
        unfold dot
        rw [if_pos (by omega), if_pos (by omega), if_pos (by omega), hL, str_data, ← hn]
        exact dotN_mix _ _ _ _
      have HX := Lib.hid (And.intro (dot_v ha hx er0.symm) (And.intro (dot_v ha hy (show 0 = derr a L from (if_pos (by omega)).symm)) (And.intro (add_v hyx) hL)))
      have HS := Lib.hid (And.intro (show n = a.size from hn) (And.intro (show n = b.size by omega) (show n = c.size by omega)))
      have he0 : er = 0 := by rw [he]; exact if_pos t1
      subst he0
      clear hd he ha er0 hx hL hy hyx hn t1 t2 hLs s1 s2 s3
      go_enter Try.func8, Try.ntmps8
      go_wp2_with fail
      refine (HD.out.1 _).mono ?_
      rintro e w1 ⟨rfl, hb1⟩
      have HB1 := Lib.hid hb1
      clear hb1
      go_wp2_with fail
      refine (HD.out.2 _).mono ?_
      rintro e w2 ⟨rfl, hb2⟩
      have HB2 := Lib.hid (gtrans HB1.out hb2)
      clear hb2 HB1
      go_wp2_with fail
      go_loopw [11, 12] (fun v i wr => ∃ (k : Nat) (ad : Option Addr) (cap : Nat), k ≤ n ∧ i = .int .i64 k ∧ v = .slice ad k cap ∧ OwnB w.heap.size wr ad cap (xorL b.data.toList c.data.toList k) ∧ Below w.heap.size w wr) (fun _ i _ => n - (intOf i).toNat)
      case atStart => exact ⟨0, none, 0, by omega, rfl, rfl, OwnB.nil _ _, HB2.out⟩
      case round =>
        clear HB2
        obtain ⟨k, ad, cap, hk, rfl, rfl, hown, hbe⟩ := hrel
        have H := Lib.hid (And.intro hown (And.intro hbe (xorL_length b.data.toList c.data.toList k)))
        have hsz := hbe.size
        clear hown hbe
        by_cases hlt : k < n
        · have ib : k < b.size := by have := HS.out.2.1; omega
          have ic : k < c.size := by have := HS.out.2.2; omega
          obtain ⟨z, hz⟩ : ∃ z, z = b[k] ^^^ c[k] := ⟨_, rfl⟩
          have hzb : bits .xor .u8 (b[k].toNat : Int) (c[k].toNat : Int) = (z.toNat : Int) := by rw [u_xor, hz]
          have hms : xorL b.data.toList c.data.toList (k + 1) = xorL b.data.toList c.data.toList k ++ [z] := by rw [xorL, co_at b k ib, co_at c k ic, hz]
          have HM := Lib.hid hms
          clear hms hz
          go_wp2_with fail
          refine wp_region_any (by kernel_rfl) ?_
          change wpAny _ _ _ _ _ _ _ (World.drew _)
          refine wpAny_take (i := 0) (v := ?_) rfl (by kernel_rfl) (by kernel_rfl) (by kernel_rfl) (fun _ _ _ h => h) (Or.inl ⟨by kernel_rfl, ?_⟩) ?_
          rotate_left
          · (intro W; go_simp; try (with_reducible rfl))
          refine wpAny_take (i := 1) (v := ?_) rfl (by kernel_rfl) (by kernel_rfl) (by kernel_rfl) (fun _ _ _ h => h) (Or.inl ⟨by kernel_rfl, ?_⟩) ?_
          rotate_left
          · (intro W; go_simp; try (with_reducible rfl))
          refine wpAny_take (i := 2) (v := ?_) rfl (by kernel_rfl) (by kernel_rfl) (by kernel_rfl) (fun _ _ _ h => h) (Or.inl ⟨by kernel_rfl, ?_⟩) ?_
          rotate_left
          · (intro W; go_simp; try (with_reducible rfl))
          refine wpAny_take (i := 3) (v := ?_) rfl (by kernel_rfl) (by kernel_rfl) (by kernel_rfl) (fun _ _ _ h => h) (Or.inl ⟨by kernel_rfl, ?_⟩) ?_
          rotate_left
          · (intro W; go_simp; try (with_reducible rfl))
          refine wpAny_take (i := 4) (v := ?_) rfl (by kernel_rfl) (by kernel_rfl) (by kernel_rfl) (fun _ _ _ h => h) (Or.inl ⟨by kernel_rfl, ?_⟩) ?_
          rotate_left
          · (intro W; go_simp; try (with_reducible rfl))
          refine wpAny_take (i := 5) (v := ?_) rfl (by kernel_rfl) (by kernel_rfl) (by kernel_rfl) (fun _ _ _ h => h) (Or.inl ⟨by kernel_rfl, ?_⟩) ?_
          rotate_left
          · (intro W; go_simp; try (with_reducible rfl))
          refine wpAny_take (i := 6) (v := ?_) rfl (by kernel_rfl) (by kernel_rfl) (by kernel_rfl) (fun _ _ _ h => h) (Or.inl ⟨by kernel_rfl, ?_⟩) ?_
          rotate_left
          · (intro W; go_simp; try (with_reducible rfl))
          refine wpAny_take (i := 7) (v := ?_) rfl (by kernel_rfl) (by kernel_rfl) (by kernel_rfl) (fun _ _ _ h => h) (Or.inl ⟨by kernel_rfl, ?_⟩) ?_
          rotate_left
          · (intro W; go_simp; try (with_reducible rfl))
          refine wpAny_ready (rs := [8]) (by kernel_rfl) (by simp) ?_
          refine AllReady.cons rfl (fun K hK => ?_) AllReady.nil
          go_simp
          refine hK _ _ ?_
          clear hK K
          refine wpAny_ready (rs := [9]) (by kernel_rfl) (by simp) ?_
          refine AllReady.cons rfl (fun K hK => ?_) AllReady.nil
          refine step_append_byte (w0 := w) (by rfl) _ _ (by rfl) ((H.out.1.alloc _).drew) k H.out.2.2 (by rfl) wr.heap.size 1 z (by rfl) (cell_new wr _ _) (by omega) (by simp; omega) ((H.out.2.1.alloc hsz _).drew) ?_
          intro g cap1 w1 hown1 hb1
          try go_simp
          refine hK _ _ ?_
          clear hK K
          refine wpAny_take (i := 10) (v := ?_) rfl (by kernel_rfl) (by kernel_rfl) (by kernel_rfl) (fun _ _ _ h => h) (Or.inl ⟨by kernel_rfl, ?_⟩) ?_
          rotate_left
          · (intro W; go_simp; try (with_reducible rfl))
          refine wpAny_done (by kernel_rfl) ?_ _
          have H1 := Lib.hid (And.intro hown1 hb1)
          clear hown1 hb1
          go_wp2_with fail
          go_roundw
          case rel => exact ⟨k + 1, _, cap1, by omega, by go_num, rfl, by rw [HM.out]; exact H1.out.1, H1.out.2⟩
          case measure => simp [intOf]; omega
        · obtain rfl : k = n := by omega
          have C : DtS w ad cap (xorL b.data.toList c.data.toList k) wr := ⟨H.out.1, H.out.2.1⟩
          have HC := Lib.hid C
          clear C hsz
          go_wp2_with fail
          refine (HX.out.1 _).mono ?_
          rintro e w3 ⟨rfl, hb3⟩
          have C2 := HC.out.call hb3
          have hcv := C2.conv H.out.2.2 HX.out.2.2.2
          have HC2 := Lib.hid C2
          clear C2 hb3
          go_wp2_with fail
          refine (HX.out.2.1 _).mono ?_
          rintro e w4 ⟨rfl, hb4⟩
          have HB4 := Lib.hid (gtrans HC2.out.below hb4)
          clear hb4 hcv
          go_wp2_with fail
          refine (awake_any _).mono ?_
          rintro e w5 ⟨rfl, hb5⟩
          have HB5 := Lib.hid (gtrans HB4.out hb5)
          clear hb5
          go_wp2_with fail
          refine (HX.out.2.2.1 _).mono ?_
          rintro e w6 ⟨rfl, rfl⟩
          go_wp2_with fail
          go_ret
          exact ⟨rfl, HB5.out⟩
    · have hne : ((b.size : Int) != (c.size : Int)) = true := by
        have : (b.size : Int) ≠ (c.size : Int) := by omega
        simpa using this
      clear hd he ha
      go_enter Try.func8, Try.ntmps8
      go_wp2_with fail
      refine (HD.out.1 _).mono ?_
      rintro e w1 ⟨rfl, hb1⟩
      have HB1 := Lib.hid hb1
      clear hb1
      go_wp2_with fail
      refine (HD.out.2 _).mono ?_
      rintro e w2 ⟨rfl, hb2⟩
      have HB2 := Lib.hid (gtrans HB1.out hb2)
      clear hb2 HB1
      go_wp2_with fail
      refine (awake_any _).mono ?_
      rintro e w3 ⟨rfl, hb3⟩
      have HB3 := Lib.hid (gtrans HB2.out hb3)
      clear hb3
      go_wp2_with fail
      go_ret
      exact ⟨rfl, HB3.out⟩
  · have hne : ((a.size : Int) != (b.size : Int)) = true := by
      have : (a.size : Int) ≠ (b.size : Int) := by omega
      simpa using this
    clear hd he ha
    go_enter Try.func8, Try.ntmps8
    go_wp2_with fail
    refine (HD.out.1 _).mono ?_
    rintro e w1 ⟨rfl, hb1⟩
    have HB1 := Lib.hid hb1
    clear hb1
    go_wp2_with fail
    refine (HD.out.2 _).mono ?_
    rintro e w2 ⟨rfl, hb2⟩
    have HB2 := Lib.hid (gtrans HB1.out hb2)
    clear hb2 HB1
    go_wp2_with fail
    refine (awake_any _).mono ?_
    rintro e w3 ⟨rfl, hb3⟩
    have HB3 := Lib.hid (gtrans HB2.out hb3)
    clear hb3
    go_wp2_with fail
    go_ret
    exact ⟨rfl, HB3.out⟩
end Go.Proofs.Ytcknmpcekmbcdaa

namespace Go.Proofs.Ytcknmpcekmbcdaa.gfDotsLaw
open Go.ChangeShapes Go.WideShapes Go.ChangeAt Go.RowKit
open Go.ChangeMaps (open_string shut_string)

theorem own : ownKnob Try.prog.godebug = none := by kernel_rfl
set_option maxRecDepth 100000 in
theorem lifted (os : Os) (started : os.Started) (H : Type) (enc : TypeId × Value → H) :
    ReturnsInHanded {} Try.checked os 8 .any (Rows.gfDotsSpec.pre6 enc Try.prog Try.f8 Rows.gfDotsRow.domain false) (Rows.gfDotsSpec.post enc Try.prog Try.f8 false true false false) := by
  refine returnsInHanded_of_change (C := Try.checked) own started (by kernel_rfl) Try.func8
    (ChangeSpec.witness6 (enc := enc) (C := Try.checked) false ⟨#[], #[.string ⟨#[]⟩, .string ⟨#[]⟩, .string ⟨#[]⟩], []⟩ 8 (by kernel_rfl) (by kernel_rfl) (by kernel_rfl) (by kernel_rfl)) ?_
  intro W base args ds gs before hval0 hW hcnd _
  have hval : ∀ (j : Nat) t v, Try.f8.params[j]? = some t → args[j]? = some v → Value.okWide Try.prog W .any base t v := hval0
  have hW' := hW
  obtain ⟨p, q, hA0, hV, rfl, hfz, hnd⟩ := hW
  have hA : DataW.TrodAll enc Try.prog W 0 (fun _ => true) true Try.f8.params.toList args.toList ds p := hA0
  rw [Try.params8] at hA hval
  obtain ⟨v0, vs0, d0, ds0, p0, q0, hargs, rfl, rfl, h0, r0⟩ := trodAll_cons hA
  obtain ⟨v1, vs1, d1, ds1, p1, q1, rfl, rfl, rfl, h1, r1⟩ := trodAll_cons r0
  obtain ⟨v2, vs2, d2, ds2, p2, q2, rfl, rfl, rfl, h2, r2⟩ := trodAll_cons r1
  obtain ⟨rfl, rfl, rfl⟩ := trodAll_nil r2
  obtain rfl : args = #[v0, v1, v2] := by cases args; simp_all
  obtain ⟨rfl, rfl⟩ := trodVars_none hV
  obtain ⟨s0, rfl, rfl, rfl, ws0⟩ := open_string Try.underlying9 (hval 0 9 v0 rfl rfl) h0
  obtain ⟨s1, rfl, rfl, rfl, ws1⟩ := open_string Try.underlying9 (hval 1 9 v1 rfl rfl) h1
  obtain ⟨s2, rfl, rfl, rfl, ws2⟩ := open_string Try.underlying9 (hval 2 9 v2 rfl rfl) h2
  clear hA0 hval0
  simp only [List.append_nil] at hW'
  refine (dots_law s0 (by simpa using ws0) s1 (by simpa using ws1) s2 (by simpa using ws2) (w := W)).mono fun e W' ⟨he, hb⟩ => ?_
  subst he
  exact ⟨_, rfl, _, _, _, [], [], [], hW', trodAll_cons_mk (shut_bool Try.underlying4 _) trodAll_mk0, (trodAll_cons_mk (shut_string Try.underlying9 ws0) (trodAll_cons_mk (shut_string Try.underlying9 ws1) (trodAll_cons_mk (shut_string Try.underlying9 ws2) trodAll_mk0))), rfl, hb.frame _, fun h => by cases h⟩
theorem over : Rows.gfDotsRow.holds Try.pinned (OpenSpec.ofChange Rows.gfDotsSpec) :=
  OpenClaim.holds_of_wide 8 Try.f8 rfl rfl rfl rfl rfl rfl rfl ⟨rfl, rfl, rfl, rfl, rfl⟩ rfl rfl rfl rfl rfl (by kernel_rfl) Try.func8 (by kernel_rfl)
    (of_decide_eq_true (by kernel_rfl)) (by unfold Func.isWrapper; first | (rw [if_pos (by decide +kernel)]; kernel_rfl) | (rw [if_neg (by decide +kernel)]; exact ⟨rfl, rfl⟩))
    (fun os started H enc _ => lifted os started H enc)
end Go.Proofs.Ytcknmpcekmbcdaa.gfDotsLaw

namespace Go.Proofs.Ytcknmpcekmbcdaa
theorem gfDots_said : Rows.GfDotsSaid := gfDotsLaw.over
end Go.Proofs.Ytcknmpcekmbcdaa
