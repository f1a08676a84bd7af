/- PROVED HERE: for every three texts the law CrcMixes returns true (the sum of three texts of one length, put together bit by bit, is that of their sums put together so), and all read afterwards as they did. No condition. -/
import Derived.Test.YtnpdmkgefaobeaaZRef
import Derived.Test.YtnpdmkgefaobeaaBytes
import Derived.Test.YtnpdmkgefaobeaaRows
import Derived.ProofKit
import Derived.OpenShut
import Derived.StillTailTactics
import Derived.Deep.RegionWith
import Derived.Deep.RegionHeld3
import Derived.WalkLawsBesides
import Derived.Deep.QuietTactic
import Derived.BigQuiet
namespace Go.Proofs.Ytnpdmkgefaobeaa
open Go.RowKit

def mixL (a b c : List UInt8) (k : Nat) : List UInt8 := Zc.zip2 (Zc.zip2 (a.take k) (b.take k)) (c.take k)
theorem zip2_snoc {l k : List UInt8} (h : l.length = k.length) (x y : UInt8) : Zc.zip2 (l ++ [x]) (k ++ [y]) = Zc.zip2 l k ++ [x ^^^ y] := by
  unfold Zc.zip2; rw [List.zipWith_append h]; rfl
theorem zip2_length {l k : List UInt8} (h : l.length = k.length) : (Zc.zip2 l k).length = l.length := by
  unfold Zc.zip2; rw [List.length_zipWith, h, Nat.min_self]
theorem take_len (a : ByteArray) (k : Nat) (h : k ≤ a.size) : (a.data.toList.take k).length = k := by
  rw [List.length_take]; simp; omega
theorem mixL_length (a b c : ByteArray) (k : Nat) (ha : k ≤ a.size) (hb : k ≤ b.size) (hc : k ≤ c.size) : (mixL a.data.toList b.data.toList c.data.toList k).length = k := by
  have h1 : (a.data.toList.take k).length = (b.data.toList.take k).length := by rw [take_len a k ha, take_len b k hb]
  unfold mixL
  rw [zip2_length (by rw [zip2_length h1, take_len a k ha, take_len c k hc]), zip2_length h1, take_len a k ha]
theorem mixL_snoc (a b c : ByteArray) (k : Nat) (ha : k < a.size) (hb : k < b.size) (hc : k < c.size) :
    mixL a.data.toList b.data.toList c.data.toList (k + 1) = mixL a.data.toList b.data.toList c.data.toList k ++ [a[k] ^^^ b[k] ^^^ c[k]] := by
  have h1 : (a.data.toList.take k).length = (b.data.toList.take k).length := by rw [take_len a k (by omega), take_len b k (by omega)]
  unfold mixL
  rw [take_snoc a k ha, take_snoc b k hb, take_snoc c k hc, zip2_snoc h1, zip2_snoc (by rw [zip2_length h1, take_len a k (by omega), take_len c k (by omega)])]
theorem sum_mix (a b c : ByteArray) (n : Nat) (ha : n ≤ a.size) (hb : n ≤ b.size) (hc : n ≤ c.size) :
    Zc.sum (mixL a.data.toList b.data.toList c.data.toList n) = Zc.sum (a.data.toList.take n) ^^^ Zc.sum (b.data.toList.take n) ^^^ Zc.sum (c.data.toList.take n) := by
  have h1 : (a.data.toList.take n).length = (b.data.toList.take n).length := by rw [take_len a n ha, take_len b n hb]
  unfold Zc.sum Zc.more mixL
  generalize ~~~(0#32) = F
  have e : F = F ^^^ F ^^^ F := by rw [BitVec.xor_self, BitVec.zero_xor]
  conv => lhs; rw [e]
  rw [Zc.reg_xor _ _ _ _ (by rw [zip2_length h1, take_len a n ha, take_len c n hc]), Zc.reg_xor _ _ _ _ h1]
  generalize Zc.reg F _ = p
  generalize Zc.reg F _ = q
  generalize Zc.reg F _ = r
  rw [← BitVec.allOnes_xor, ← BitVec.allOnes_xor, ← BitVec.allOnes_xor, ← BitVec.allOnes_xor]
  generalize BitVec.allOnes 32 = o
  rw [show o ^^^ p ^^^ (o ^^^ q) ^^^ (o ^^^ r) = (o ^^^ o) ^^^ (o ^^^ (p ^^^ q ^^^ r)) from by ac_rfl, BitVec.xor_self, BitVec.zero_xor]
theorem take_extract (a : ByteArray) (n : Nat) : (a.extract 0 n).data.toList = a.data.toList.take n := by
  simp [ByteArray.data_extract]
theorem byte_xor8 (x y : UInt8) : bits .xor .u8 (x.toNat : Int) (y.toNat : Int) = ((x ^^^ y).toNat : Int) := by
  rw [u8_xor_nat _ _ x.toNat_lt y.toNat_lt, UInt8.toNat_xor]
/-- The least of four. -/
def min4 (x y z u : Int) : Int := if u < (if z < (if y < x then y else x) then z else (if y < x then y else x)) then u else (if z < (if y < x then y else x) then z else (if y < x then y else x))
theorem run_min_int4 {P : Program} {w : World} (ts : Array TypeId) (t : TypeId) (k k' k'' k3 : IntKind) (x y z u : Int) : (Builtin.min_ ts t #[.int k x, .int k' y, .int k'' z, .int k3 u]).run P w = .ok (.int k (min4 x y z u)) w := by
  unfold min4
  simp [Builtin.min_, Builtin.min2]
theorem min4_nat (x y z : Nat) : ∃ n : Nat, min4 x y z 3000 = (n : Int) ∧ n ≤ x ∧ n ≤ y ∧ n ≤ z ∧ n ≤ 3000 := by
  refine ⟨(min4 x y z 3000).toNat, ?_, ?_, ?_, ?_, ?_⟩ <;> (unfold min4; split <;> split <;> split <;> omega)
attribute [local go_sem] V_xor run_min_int4

/-- The bytes stand where they stand. -/
structure MixS (w : World) (ad : Option Addr) (cap : Nat) (l : List UInt8) (W : World) : Prop where
  own : OwnB w.heap.size W ad cap l
  below : Below w.heap.size w W
theorem MixS.call {w : World} {ad : Option Addr} {cap : Nat} {l : List UInt8} {W W' : World} (h : MixS w ad cap l W) (hb : Below W.heap.size W W') : MixS w ad cap l W' := ⟨h.own.call hb, below_call h.below hb⟩
theorem MixS.conv {w : World} {ad : Option Addr} {cap : Nat} {l : List UInt8} {W : World} (h : MixS w ad cap l W) (n : Nat) (hn : l.length = n) (L : ByteArray) (hL : L = str l) :
    (convert 29 9 (.slice ad n cap)).run Try.prog W = .ok (.string L) W := by
  subst hn hL; exact h.own.conv
set_option maxRecDepth 100000 in
set_option maxHeartbeats 1000000 in
theorem mixes_law (a : ByteArray) (ha : a.size ≤ maxLen) (b : ByteArray) (_ : b.size ≤ maxLen) (c : ByteArray) (_ : c.size ≤ maxLen) (w : World) :
    Calls Try.prog 9 #[.string a, .string b, .string c] w fun e w' => e = .returned (.bool true) ∧ Below w.heap.size w w' := by
  unfold maxLen at ha
  obtain ⟨n, hn, na, nb, nc, n3⟩ := min4_nat a.size b.size c.size
  go_enter Try.func9, Try.ntmps9
  go_wp2_with fail
  clear hn
  go_loopw [8, 9] (fun v i wr => ∃ (k : Nat) (ad : Option Addr) (cap : Nat), k ≤ n ∧ i = .int .i64 k ∧ v = .slice ad k cap ∧ OwnB w.heap.size wr ad cap (mixL a.data.toList b.data.toList c.data.toList k) ∧ Below w.heap.size w wr) (fun _ i _ => n - (intOf i).toNat)
  case atStart => exact ⟨0, none, 0, by omega, rfl, rfl, OwnB.nil _ _, Below.refl _ _⟩
  case round =>
    obtain ⟨k, ad, cap, hk, rfl, rfl, hown, hbe⟩ := hrel
    have hlen := mixL_length a b c k (by omega) (by omega) (by omega)
    have H := Lib.hid (And.intro hown (And.intro hbe hlen))
    have hsz := hbe.size
    clear hown hbe hlen
    by_cases hlt : k < n
    · have ia : k < a.size := by omega
      have ib : k < b.size := by omega
      have ic : k < c.size := by omega
      obtain ⟨x, hx⟩ : ∃ x, x = a[k] ^^^ b[k] := ⟨_, rfl⟩
      obtain ⟨y, hy⟩ : ∃ y, y = x ^^^ c[k] := ⟨_, rfl⟩
      have hxb : bits .xor .u8 (a[k].toNat : Int) (b[k].toNat : Int) = (x.toNat : Int) := by rw [byte_xor8, hx]
      have hyb : bits .xor .u8 (x.toNat : Int) (c[k].toNat : Int) = (y.toNat : Int) := by rw [byte_xor8, hy]
      have hms := mixL_snoc a b c k ia ib ic
      rw [← hx, ← hy] at hms
      have HS := Lib.hid hms
      clear hms hx hy
      go_wp2_with fail
      refine wp_region_any (by kernel_rfl) ?_
      change wpAny _ _ _ _ _ _ _ (World.drew _)
      refine wpAny_take (i := 0) (v := ?_) rfl (by kernel_rfl) (by kernel_rfl) (by kernel_rfl) (fun _ _ _ h => h) (Or.inl ⟨by kernel_rfl, ?_⟩) ?_
      rotate_left
      · (intro W; go_simp; try (with_reducible rfl))
      refine wpAny_take (i := 1) (v := ?_) rfl (by kernel_rfl) (by kernel_rfl) (by kernel_rfl) (fun _ _ _ h => h) (Or.inl ⟨by kernel_rfl, ?_⟩) ?_
      rotate_left
      · (intro W; go_simp; try (with_reducible rfl))
      refine wpAny_take (i := 2) (v := ?_) rfl (by kernel_rfl) (by kernel_rfl) (by kernel_rfl) (fun _ _ _ h => h) (Or.inl ⟨by kernel_rfl, ?_⟩) ?_
      rotate_left
      · (intro W; go_simp; try (with_reducible rfl))
      refine wpAny_take (i := 3) (v := ?_) rfl (by kernel_rfl) (by kernel_rfl) (by kernel_rfl) (fun _ _ _ h => h) (Or.inl ⟨by kernel_rfl, ?_⟩) ?_
      rotate_left
      · (intro W; go_simp; try (with_reducible rfl))
      refine wpAny_take (i := 4) (v := ?_) rfl (by kernel_rfl) (by kernel_rfl) (by kernel_rfl) (fun _ _ _ h => h) (Or.inl ⟨by kernel_rfl, ?_⟩) ?_
      rotate_left
      · (intro W; go_simp; try (with_reducible rfl))
      refine wpAny_take (i := 5) (v := ?_) rfl (by kernel_rfl) (by kernel_rfl) (by kernel_rfl) (fun _ _ _ h => h) (Or.inl ⟨by kernel_rfl, ?_⟩) ?_
      rotate_left
      · (intro W; go_simp; try (with_reducible rfl))
      refine wpAny_take (i := 6) (v := ?_) rfl (by kernel_rfl) (by kernel_rfl) (by kernel_rfl) (fun _ _ _ h => h) (Or.inl ⟨by kernel_rfl, ?_⟩) ?_
      rotate_left
      · (intro W; go_simp; try (with_reducible rfl))
      refine wpAny_take (i := 7) (v := ?_) rfl (by kernel_rfl) (by kernel_rfl) (by kernel_rfl) (fun _ _ _ h => h) (Or.inl ⟨by kernel_rfl, ?_⟩) ?_
      rotate_left
      · (intro W; go_simp; try (with_reducible rfl))
      refine wpAny_take (i := 8) (v := ?_) rfl (by kernel_rfl) (by kernel_rfl) (by kernel_rfl) (fun _ _ _ h => h) (Or.inl ⟨by kernel_rfl, ?_⟩) ?_
      rotate_left
      · (intro W; go_simp; try (with_reducible rfl))
      refine wpAny_take (i := 9) (v := ?_) rfl (by kernel_rfl) (by kernel_rfl) (by kernel_rfl) (fun _ _ _ h => h) (Or.inl ⟨by kernel_rfl, ?_⟩) ?_
      rotate_left
      · (intro W; go_simp; try (with_reducible rfl))
      refine wpAny_take (i := 10) (v := ?_) rfl (by kernel_rfl) (by kernel_rfl) (by kernel_rfl) (fun _ _ _ h => h) (Or.inl ⟨by kernel_rfl, ?_⟩) ?_
      rotate_left
      · (intro W; go_simp; try (with_reducible rfl))
      refine wpAny_take (i := 11) (v := ?_) rfl (by kernel_rfl) (by kernel_rfl) (by kernel_rfl) (fun _ _ _ h => h) (Or.inl ⟨by kernel_rfl, ?_⟩) ?_
      rotate_left
      · (intro W; go_simp; try (with_reducible rfl))
      refine wpAny_ready (rs := [12]) (by kernel_rfl) (by simp) ?_
      refine AllReady.cons rfl (fun K hK => ?_) AllReady.nil
      go_simp
      refine hK _ _ ?_
      clear hK K
      refine wpAny_ready (rs := [13]) (by kernel_rfl) (by simp) ?_
      refine AllReady.cons rfl (fun K hK => ?_) AllReady.nil
      refine step_append_byte (w0 := w) (by rfl) _ _ (by rfl) ((H.out.1.alloc _).drew) k H.out.2.2 (by rfl) wr.heap.size 1 y (by rfl) (cell_new wr _ _) (by omega) (by simp; omega) ((H.out.2.1.alloc hsz _).drew) ?_
      intro g cap1 w1 hown1 hb1
      try go_simp
      refine hK _ _ ?_
      clear hK K
      refine wpAny_take (i := 14) (v := ?_) rfl (by kernel_rfl) (by kernel_rfl) (by kernel_rfl) (fun _ _ _ h => h) (Or.inl ⟨by kernel_rfl, ?_⟩) ?_
      rotate_left
      · (intro W; go_simp; try (with_reducible rfl))
      refine wpAny_done (by kernel_rfl) ?_ _
      have H1 := Lib.hid (And.intro hown1 hb1)
      clear hown1 hb1
      go_wp2_with fail
      go_roundw
      case rel => exact ⟨k + 1, _, cap1, by omega, by go_num, rfl, by rw [HS.out]; exact H1.out.1, H1.out.2⟩
      case measure => simp [intOf]; omega
    · obtain rfl : k = n := by omega
      obtain ⟨L, hL⟩ : ∃ L, L = str (mixL a.data.toList b.data.toList c.data.toList k) := ⟨_, rfl⟩
      obtain ⟨sa, ha1⟩ : ∃ x, x = Zc.sum (a.extract 0 k).data.toList := ⟨_, rfl⟩
      obtain ⟨sb, hb1⟩ : ∃ x, x = Zc.sum (b.extract 0 k).data.toList := ⟨_, rfl⟩
      obtain ⟨sc, hc1⟩ : ∃ x, x = Zc.sum (c.extract 0 k).data.toList := ⟨_, rfl⟩
      have hsum : Zc.sum L.data.toList = sa ^^^ sb ^^^ sc := by
        rw [hL, str_data, sum_mix a b c k na nb nc, ha1, hb1, hc1, take_extract, take_extract, take_extract]
      have HX := Lib.hid (And.intro hL (And.intro hsum (And.intro ha1 (And.intro hb1 hc1))))
      have sL : L.size ≤ maxLen := by rw [hL, str_size, H.out.2.2]; unfold maxLen; omega
      have sA : (a.extract 0 k).size ≤ maxLen := by rw [ByteArray.size_extract]; unfold maxLen; omega
      have sB : (b.extract 0 k).size ≤ maxLen := by rw [ByteArray.size_extract]; unfold maxLen; omega
      have sC : (c.extract 0 k).size ≤ maxLen := by rw [ByteArray.size_extract]; unfold maxLen; omega
      have HZ := Lib.hid (And.intro sL (And.intro sA (And.intro sB sC)))
      clear sL sA sB sC hL hsum ha1 hb1 hc1
      go_wp2_with fail
      have C : MixS w ad cap (mixL a.data.toList b.data.toList c.data.toList k) wr.drew := ⟨H.out.1, H.out.2.1.drew⟩
      refine wp_region_held (S := MixS w ad cap (mixL a.data.toList b.data.toList c.data.toList k)) (by kernel_rfl) ?_
      change wpAnyH _ _ _ _ _ _ _ _ (World.drew _)
      generalize World.drew _ = wh at *
      refine wpAnyH_ready (rs := [0]) (by kernel_rfl) (by simp) ?_
      refine AllReadyH.cons rfl (fun K hK => ?_) AllReadyH.nil
      go_simp
      refine (awake_any _).mono ?_
      rintro e W1 ⟨rfl, hb⟩
      have C := C.call hb
      refine hK.out _ _ C (fun _ => ?_)
      clear hK K hb
      refine wpAnyH_take (i := 1) (v := ?_) rfl (by kernel_rfl) (by kernel_rfl) (by kernel_rfl) (fun _ _ _ h => h) (Or.inl ⟨by kernel_rfl, ?_⟩) C ?_
      rotate_left
      · (intro W hS; clear hS; go_simp; try (with_reducible rfl))
      refine wpAnyH_take (i := 2) (v := ?_) rfl (by kernel_rfl) (by kernel_rfl) (by kernel_rfl) (fun _ _ _ h => h) (Or.inl ⟨by kernel_rfl, ?_⟩) C ?_
      rotate_left
      · (intro W hS; clear hS; go_simp; try (with_reducible rfl))
      refine wpAnyH_take (i := 3) (v := ?_) rfl (by kernel_rfl) (by kernel_rfl) (by kernel_rfl) (fun _ _ _ h => h) (Or.inl ⟨by kernel_rfl, ?_⟩) C ?_
      rotate_left
      · (intro W hS; have hcv := hS.conv k H.out.2.2 L HX.out.1; clear hS; go_simp; try (with_reducible rfl))
      refine wpAnyH_take (i := 5) (v := ?_) rfl (by kernel_rfl) (by kernel_rfl) (by kernel_rfl) (fun _ _ _ h => h) (Or.inl ⟨by kernel_rfl, ?_⟩) C ?_
      rotate_left
      · (intro W hS; clear hS; go_simp; try (with_reducible rfl))
      refine wpAnyH_take (i := 6) (v := ?_) rfl (by kernel_rfl) (by kernel_rfl) (by kernel_rfl) (fun _ _ _ h => h) (Or.inl ⟨by kernel_rfl, ?_⟩) C ?_
      rotate_left
      · (intro W hS; clear hS; go_simp; try (with_reducible rfl))
      refine wpAnyH_take (i := 7) (v := ?_) rfl (by kernel_rfl) (by kernel_rfl) (by kernel_rfl) (fun _ _ _ h => h) (Or.inl ⟨by kernel_rfl, ?_⟩) C ?_
      rotate_left
      · (intro W hS; clear hS; go_simp; try (with_reducible rfl))
      refine wpAnyH_take (i := 9) (v := ?_) rfl (by kernel_rfl) (by kernel_rfl) (by kernel_rfl) (fun _ _ _ h => h) (Or.inl ⟨by kernel_rfl, ?_⟩) C ?_
      rotate_left
      · (intro W hS; clear hS; go_simp; try (with_reducible rfl))
      refine wpAnyH_take (i := 10) (v := ?_) rfl (by kernel_rfl) (by kernel_rfl) (by kernel_rfl) (fun _ _ _ h => h) (Or.inl ⟨by kernel_rfl, ?_⟩) C ?_
      rotate_left
      · (intro W hS; clear hS; go_simp; try (with_reducible rfl))
      refine wpAnyH_take (i := 11) (v := ?_) rfl (by kernel_rfl) (by kernel_rfl) (by kernel_rfl) (fun _ _ _ h => h) (Or.inl ⟨by kernel_rfl, ?_⟩) C ?_
      rotate_left
      · (intro W hS; clear hS; go_simp; try (with_reducible rfl))
      refine wpAnyH_take (i := 14) (v := ?_) rfl (by kernel_rfl) (by kernel_rfl) (by kernel_rfl) (fun _ _ _ h => h) (Or.inl ⟨by kernel_rfl, ?_⟩) C ?_
      rotate_left
      · (intro W hS; clear hS; go_simp; try (with_reducible rfl))
      refine wpAnyH_take (i := 15) (v := ?_) rfl (by kernel_rfl) (by kernel_rfl) (by kernel_rfl) (fun _ _ _ h => h) (Or.inl ⟨by kernel_rfl, ?_⟩) C ?_
      rotate_left
      · (intro W hS; clear hS; go_simp; try (with_reducible rfl))
      refine wpAnyH_take (i := 16) (v := ?_) rfl (by kernel_rfl) (by kernel_rfl) (by kernel_rfl) (fun _ _ _ h => h) (Or.inl ⟨by kernel_rfl, ?_⟩) C ?_
      rotate_left
      · (intro W hS; clear hS; go_simp; try (with_reducible rfl))
      refine wpAnyH_ready (rs := [4]) (by kernel_rfl) (by simp) ?_
      refine AllReadyH.cons rfl (fun K hK => ?_) AllReadyH.nil
      go_simp
      refine (sum_v HZ.out.1 HX.out.2.1.symm _).mono ?_
      rintro e W2 ⟨rfl, hb⟩
      have C := C.call hb
      refine hK.out _ _ C (fun _ => ?_)
      clear hK K hb
      refine wpAnyH_ready (rs := [8]) (by kernel_rfl) (by simp) ?_
      refine AllReadyH.cons rfl (fun K hK => ?_) AllReadyH.nil
      go_simp
      refine (sum_v HZ.out.2.1 HX.out.2.2.1 _).mono ?_
      rintro e W3 ⟨rfl, hb⟩
      have C := C.call hb
      refine hK.out _ _ C (fun _ => ?_)
      clear hK K hb
      refine wpAnyH_ready (rs := [12]) (by kernel_rfl) (by simp) ?_
      refine AllReadyH.cons rfl (fun K hK => ?_) AllReadyH.nil
      go_simp
      refine (sum_v HZ.out.2.2.1 HX.out.2.2.2.1 _).mono ?_
      rintro e W4 ⟨rfl, hb⟩
      have C := C.call hb
      refine hK.out _ _ C (fun _ => ?_)
      clear hK K hb
      refine wpAnyH_take (i := 13) (v := ?_) rfl (by kernel_rfl) (by kernel_rfl) (by kernel_rfl) (fun _ _ _ h => h) (Or.inl ⟨by kernel_rfl, ?_⟩) C ?_
      rotate_left
      · (intro W hS; clear hS; go_simp; try (with_reducible rfl))
      refine wpAnyH_ready (rs := [17]) (by kernel_rfl) (by simp) ?_
      refine AllReadyH.cons rfl (fun K hK => ?_) AllReadyH.nil
      go_simp
      refine (sum_v HZ.out.2.2.2 HX.out.2.2.2.2 _).mono ?_
      rintro e W5 ⟨rfl, hb⟩
      have C := C.call hb
      refine hK.out _ _ C (fun _ => ?_)
      clear hK K hb
      refine wpAnyH_take (i := 18) (v := ?_) rfl (by kernel_rfl) (by kernel_rfl) (by kernel_rfl) (fun _ _ _ h => h) (Or.inl ⟨by kernel_rfl, ?_⟩) C ?_
      rotate_left
      · (intro W hS; clear hS; go_simp; try (with_reducible rfl))
      refine wpAnyH_take (i := 19) (v := ?_) rfl (by kernel_rfl) (by kernel_rfl) (by kernel_rfl) (fun _ _ _ h => h) (Or.inl ⟨by kernel_rfl, ?_⟩) C ?_
      rotate_left
      · (intro W hS; clear hS; go_simp; try (with_reducible rfl))
      refine wpAnyH_take (i := 20) (v := ?_) rfl (by kernel_rfl) (by kernel_rfl) (by kernel_rfl) (fun _ _ _ h => h) (Or.inl ⟨by kernel_rfl, ?_⟩) C ?_
      rotate_left
      · (intro W hS; clear hS; go_simp; try (with_reducible rfl))
      refine wpAnyH_take (i := 21) (v := ?_) rfl (by kernel_rfl) (by kernel_rfl) (by kernel_rfl) (fun _ _ _ h => h) (Or.inl ⟨by kernel_rfl, ?_⟩) C ?_
      rotate_left
      · (intro W hS; clear hS; go_simp; try (with_reducible rfl))
      refine wpAnyH_done (by kernel_rfl) ?_ _
      go_wp2_with fail
      go_ret
      exact ⟨rfl, C.below⟩
end Go.Proofs.Ytnpdmkgefaobeaa

namespace Go.Proofs.Ytnpdmkgefaobeaa.crcMixesLaw
open Go.ChangeShapes Go.WideShapes Go.ChangeAt Go.RowKit
open Go.ChangeMaps (open_string shut_string)

theorem own : ownKnob Try.prog.godebug = none := by kernel_rfl
set_option maxRecDepth 100000 in
theorem lifted (os : Os) (started : os.Started) (H : Type) (enc : TypeId × Value → H) :
    ReturnsInHanded {} Try.checked os 9 .any (Rows.crcMixesSpec.pre6 enc Try.prog Try.f9 Rows.crcMixesRow.domain false) (Rows.crcMixesSpec.post enc Try.prog Try.f9 false true false false) := by
  refine returnsInHanded_of_change (C := Try.checked) own started (by kernel_rfl) Try.func9
    (ChangeSpec.witness6 (enc := enc) (C := Try.checked) false ⟨#[], #[.string ⟨#[]⟩, .string ⟨#[]⟩, .string ⟨#[]⟩], []⟩ 8 (by kernel_rfl) (by kernel_rfl) (by kernel_rfl) (by kernel_rfl)) ?_
  intro W base args ds gs before hval0 hW hcnd _
  have hval : ∀ (j : Nat) t v, Try.f9.params[j]? = some t → args[j]? = some v → Value.okWide Try.prog W .any base t v := hval0
  have hW' := hW
  obtain ⟨p, q, hA0, hV, rfl, hfz, hnd⟩ := hW
  have hA : DataW.TrodAll enc Try.prog W 0 (fun _ => true) true Try.f9.params.toList args.toList ds p := hA0
  rw [Try.params9] at hA hval
  obtain ⟨v0, vs0, d0, ds0, p0, q0, hargs, rfl, rfl, h0, r0⟩ := trodAll_cons hA
  obtain ⟨v1, vs1, d1, ds1, p1, q1, rfl, rfl, rfl, h1, r1⟩ := trodAll_cons r0
  obtain ⟨v2, vs2, d2, ds2, p2, q2, rfl, rfl, rfl, h2, r2⟩ := trodAll_cons r1
  obtain ⟨rfl, rfl, rfl⟩ := trodAll_nil r2
  obtain rfl : args = #[v0, v1, v2] := by cases args; simp_all
  obtain ⟨rfl, rfl⟩ := trodVars_none hV
  obtain ⟨s0, rfl, rfl, rfl, ws0⟩ := open_string Try.underlying9 (hval 0 9 v0 rfl rfl) h0
  obtain ⟨s1, rfl, rfl, rfl, ws1⟩ := open_string Try.underlying9 (hval 1 9 v1 rfl rfl) h1
  obtain ⟨s2, rfl, rfl, rfl, ws2⟩ := open_string Try.underlying9 (hval 2 9 v2 rfl rfl) h2
  clear hA0 hval0
  simp only [List.append_nil] at hW'
  refine (mixes_law s0 (by simpa using ws0) s1 (by simpa using ws1) s2 (by simpa using ws2) (w := W)).mono fun e W' ⟨he, hb⟩ => ?_
  subst he
  exact ⟨_, rfl, _, _, _, [], [], [], hW', trodAll_cons_mk (shut_bool Try.underlying4 _) trodAll_mk0, (trodAll_cons_mk (shut_string Try.underlying9 ws0) (trodAll_cons_mk (shut_string Try.underlying9 ws1) (trodAll_cons_mk (shut_string Try.underlying9 ws2) trodAll_mk0))), rfl, hb.frame _, fun h => by cases h⟩
theorem over : Rows.crcMixesRow.holds Try.pinned (OpenSpec.ofChange Rows.crcMixesSpec) :=
  OpenClaim.holds_of_wide 9 Try.f9 rfl rfl rfl rfl rfl rfl rfl ⟨rfl, rfl, rfl, rfl, rfl⟩ rfl rfl rfl rfl rfl (by kernel_rfl) Try.func9 (by kernel_rfl)
    (of_decide_eq_true (by kernel_rfl)) (by unfold Func.isWrapper; first | (rw [if_pos (by decide +kernel)]; kernel_rfl) | (rw [if_neg (by decide +kernel)]; exact ⟨rfl, rfl⟩))
    (fun os started H enc _ => lifted os started H enc)
end Go.Proofs.Ytnpdmkgefaobeaa.crcMixesLaw

namespace Go.Proofs.Ytnpdmkgefaobeaa
theorem crcMixes_said : Rows.CrcMixesSaid := crcMixesLaw.over
end Go.Proofs.Ytnpdmkgefaobeaa
