/- MH1, what is wanted of it. -/
import Derived.WalkKit
import Derived.Test.YtdfkpjmljaanpaaGreatDoorRows
import Derived.WalkSpells
import Derived.WalkLawsBesides
import Derived.Lib.Hide
import Derived.Test.YtdfkpjmljaanpaaGreatDoorZMB
import Derived.Laws.BytesArg
import Derived.Lib.AppendStr
namespace Go.Proofs.YtdfkpjmljaanpaaGreatDoor
open Go.RowKit
/-- The number of a word, closed to the walk. -/
def V (x : BitVec 32) : Int := (x.toNat : Int)
theorem V_add (x y : BitVec 32) : (V x + V y) % 4294967296 = V (x + y) := by
  unfold V; rw [BitVec.toNat_add]; omega
theorem V_add' (x y : BitVec 32) : IntKind.u32.wrap (V x + V y) = V (x + y) := by
  rw [IntKind.wrap_u32', V_add]
theorem V_xor (x y : BitVec 32) : bits .xor .u32 (V x) (V y) = V (x ^^^ y) := by
  unfold V; rw [u32_xor_nat _ _ x.isLt y.isLt, BitVec.toNat_xor]
theorem V_and (x y : BitVec 32) : bits .and .u32 (V x) (V y) = V (x &&& y) := by
  unfold V; rw [u32_and_nat _ _ x.isLt y.isLt, BitVec.toNat_and]
theorem V_or (x y : BitVec 32) : bits .or .u32 (V x) (V y) = V (x ||| y) := by
  unfold V; rw [u32_or_nat _ _ x.isLt y.isLt, BitVec.toNat_or]
theorem V_not (x : BitVec 32) : bits .xor .u32 4294967295 (V x) = V (~~~x) := by
  unfold V
  rw [show (4294967295 : Int) = ((4294967295 : Nat) : Int) from rfl, u32_xor_nat _ _ (by decide) x.isLt]
  rw [← BitVec.allOnes_xor, BitVec.toNat_xor]
  rfl
theorem V_not' (x : BitVec 32) : bits .xor .u32 (if IntKind.u32.signed = true then -1 else IntKind.u32.max) (V x) = V (~~~x) := V_not x
theorem V_shr (x : BitVec 32) (n : Nat) : V x / 2 ^ n = V (x >>> n) := by
  unfold V; rw [BitVec.toNat_ushiftRight, Nat.shiftRight_eq_div_pow]; simp
theorem V_div8 (x : BitVec 32) : V x / (8 : Int) = V (x >>> 3) := V_shr x 3
theorem V_div256 (x : BitVec 32) : V x / (256 : Int) = V (x >>> 8) := V_shr x 8
theorem V_div1024 (x : BitVec 32) : V x / (1024 : Int) = V (x >>> 10) := V_shr x 10
theorem V_div65536 (x : BitVec 32) : V x / (65536 : Int) = V (x >>> 16) := V_shr x 16
theorem V_div16777216 (x : BitVec 32) : V x / (16777216 : Int) = V (x >>> 24) := V_shr x 24
theorem V_shl (x : BitVec 32) (n : Nat) : IntKind.u32.wrap (V x * 2 ^ n) = V (x <<< n) := by
  unfold V; rw [BitVec.toNat_shiftLeft, Nat.shiftLeft_eq, IntKind.wrap_u32']
  simp
theorem V_shl' (x : BitVec 32) (n : Nat) : (V x * 2 ^ n) % 4294967296 = V (x <<< n) := by
  rw [← V_shl, IntKind.wrap_u32']
theorem V_num (n : Nat) (h : n < 4294967296) : V (BitVec.ofNat 32 n) = (n : Int) := by
  unfold V; rw [BitVec.toNat_ofNat, Nat.mod_eq_of_lt (by omega)]
/-- Turned right. -/
def ror (x : BitVec 32) (n : Nat) : BitVec 32 := x >>> n ||| x <<< (32 - n)
theorem ror_or (x : BitVec 32) (n : Nat) : x <<< (32 - n) ||| x >>> n = ror x n := BitVec.or_comm _ _
theorem ror_add (x : BitVec 32) (n : Nat) (h : n ≤ 32) : x >>> n + x <<< (32 - n) = ror x n := by
  unfold ror
  refine BitVec.add_eq_or_of_and_eq_zero _ _ ?_
  apply BitVec.eq_of_getLsbD_eq
  intro i hi
  simp only [BitVec.getLsbD_and, BitVec.getLsbD_ushiftRight, BitVec.getLsbD_shiftLeft, BitVec.getLsbD_zero]
  by_cases h1 : i < 32 - n
  · simp [h1]
  · rw [BitVec.getLsbD_of_ge x (n + i) (by omega)]; simp
/-! ### The sum, as the document defines it -/
/-- k0 to k63. -/
def kList : List Nat := [1116352408, 1899447441, 3049323471, 3921009573, 961987163, 1508970993, 2453635748, 2870763221, 3624381080, 310598401, 607225278, 1426881987, 1925078388, 2162078206, 2614888103, 3248222580, 3835390401, 4022224774, 264347078, 604807628, 770255983, 1249150122, 1555081692, 1996064986, 2554220882, 2821834349, 2952996808, 3210313671, 3336571891, 3584528711, 113926993, 338241895, 666307205, 773529912, 1294757372, 1396182291, 1695183700, 1986661051, 2177026350, 2456956037, 2730485921, 2820302411, 3259730800, 3345764771, 3516065817, 3600352804, 4094571909, 275423344, 430227734, 506948616, 659060556, 883997877, 958139571, 1322822218, 1537002063, 1747873779, 1955562222, 2024104815, 2227730452, 2361852424, 2428436474, 2756734187, 3204031479, 3329325298]
def kk (t : Nat) : BitVec 32 := BitVec.ofNat 32 (kList.getD t 0)
/-- h0 to h7. -/
def hList : List Nat := [1779033703, 3144134277, 1013904242, 2773480762, 1359893119, 2600822924, 528734635, 1541459225]
def hh (t : Nat) : BitVec 32 := BitVec.ofNat 32 (hList.getD t 0)
/-- Eight words. -/
structure St where
  a : BitVec 32
  b : BitVec 32
  c : BitVec 32
  d : BitVec 32
  e : BitVec 32
  f : BitVec 32
  g : BitVec 32
  h : BitVec 32
def uOf (s : St) (k x : BitVec 32) : BitVec 32 :=
  s.h + (ror s.e 6 ^^^ ror s.e 11 ^^^ ror s.e 25) + (s.e &&& s.f ^^^ ~~~s.e &&& s.g) + k + x
def vOf (s : St) : BitVec 32 :=
  (ror s.a 2 ^^^ ror s.a 13 ^^^ ror s.a 22) + (s.a &&& s.b ^^^ s.a &&& s.c ^^^ s.b &&& s.c)
def step (s : St) (k x : BitVec 32) : St :=
  { a := uOf s k x + vOf s, b := s.a, c := s.b, d := s.c, e := s.d + uOf s k x, f := s.e, g := s.f, h := s.g }
/-- The word behind those of l: of l's length 16 or more. -/
def nextWord (l : List (BitVec 32)) : BitVec 32 :=
  let n := l.length
  let x := l.getD (n - 15) 0
  let y := l.getD (n - 2) 0
  l.getD (n - 16) 0 + (ror x 7 ^^^ ror x 18 ^^^ x >>> 3) + l.getD (n - 7) 0 + (ror y 17 ^^^ ror y 19 ^^^ y >>> 10)
/-- The first n words of a block whose own sixteen are m. -/
def sched (m : Nat → BitVec 32) : Nat → List (BitVec 32)
  | 0 => []
  | n + 1 => sched m n ++ [if n < 16 then m n else nextWord (sched m n)]
def ww (m : Nat → BitVec 32) (t : Nat) : BitVec 32 := (sched m (t + 1)).getD t 0
/-- The copy behind n rounds. -/
def rounds (m : Nat → BitVec 32) (s : St) : Nat → St
  | 0 => s
  | n + 1 => step (rounds m s n) (kk n) (ww m n)
def St.add (s t : St) : St :=
  { a := s.a + t.a, b := s.b + t.b, c := s.c + t.c, d := s.d + t.d, e := s.e + t.e, f := s.f + t.f, g := s.g + t.g, h := s.h + t.h }
/-- A block taken in. -/
def take (s : St) (m : Nat → BitVec 32) : St := s.add (rounds m s 64)
def St.get (s : St) : Nat → BitVec 32
  | 0 => s.a | 1 => s.b | 2 => s.c | 3 => s.d | 4 => s.e | 5 => s.f | 6 => s.g | _ => s.h
def first : St := { a := hh 0, b := hh 1, c := hh 2, d := hh 3, e := hh 4, f := hh 5, g := hh 6, h := hh 7 }
theorem getD_left {α : Type} (l r : List α) (i : Nat) (d : α) (h : i < l.length) : (l ++ r).getD i d = l.getD i d := by
  simp [List.getD_eq_getElem?_getD, List.getElem?_append_left h]
theorem getD_end {α : Type} (l : List α) (x : α) (i : Nat) (d : α) (h : l.length = i) : (l ++ [x]).getD i d = x := by
  subst h; simp [List.getD_eq_getElem?_getD]
theorem St.ext_get {s t : St} (h : ∀ i, i < 8 → s.get i = t.get i) : s = t := by
  obtain ⟨a, b, c, d, e, f, g, k⟩ := s
  obtain ⟨a', b', c', d', e', f', g', k'⟩ := t
  have h0 : a = a' := h 0 (by omega)
  have h1 : b = b' := h 1 (by omega)
  have h2 : c = c' := h 2 (by omega)
  have h3 : d = d' := h 3 (by omega)
  have h4 : e = e' := h 4 (by omega)
  have h5 : f = f' := h 5 (by omega)
  have h6 : g = g' := h 6 (by omega)
  have h7 : k = k' := h 7 (by omega)
  subst h0 h1 h2 h3 h4 h5 h6 h7; rfl
theorem St.get_add (s t : St) (i : Nat) : (s.add t).get i = s.get i + t.get i := by
  match i with
  | 0 => rfl | 1 => rfl | 2 => rfl | 3 => rfl | 4 => rfl | 5 => rfl | 6 => rfl | n + 7 => rfl
theorem sched_length (m : Nat → BitVec 32) : ∀ n, (sched m n).length = n
  | 0 => rfl
  | n + 1 => by rw [sched, List.length_append, sched_length m n]; rfl
theorem sched_get (m : Nat → BitVec 32) : ∀ n t, t < n → (sched m n).getD t 0 = ww m t
  | 0, _, h => absurd h (by omega)
  | n + 1, t, h => by
    by_cases e : t = n
    · subst e; rfl
    · rw [sched, getD_left _ _ _ _ (by rw [sched_length]; omega)]
      exact sched_get m n t (by omega)
theorem ww_own (m : Nat → BitVec 32) (t : Nat) (h : t < 16) : ww m t = m t := by
  have hl := sched_length m t
  rw [ww, sched, if_pos h, getD_end _ _ _ _ hl]
theorem ww_next (m : Nat → BitVec 32) (t : Nat) (h : ¬ t < 16) :
    ww m t = ww m (t - 16) + (ror (ww m (t - 15)) 7 ^^^ ror (ww m (t - 15)) 18 ^^^ (ww m (t - 15)) >>> 3) + ww m (t - 7) + (ror (ww m (t - 2)) 17 ^^^ ror (ww m (t - 2)) 19 ^^^ (ww m (t - 2)) >>> 10) := by
  have hl := sched_length m t
  have e : ww m t = nextWord (sched m t) := by
    rw [ww, sched, if_neg h, getD_end _ _ _ _ hl]
  rw [e, nextWord]
  simp only [hl]
  rw [sched_get m t _ (by omega), sched_get m t _ (by omega), sched_get m t _ (by omega), sched_get m t _ (by omega)]
/-! ### Bytes -/
def w8 (b : UInt8) : BitVec 32 := BitVec.ofNat 32 b.toNat
theorem V_w8 (b : UInt8) : V (w8 b) = (b.toNat : Int) := V_num _ (by have := b.toNat_lt; omega)
theorem V_byte (b : UInt8) : (b.toNat : Int) % (4294967296 : Int) = V (w8 b) := by rw [V_w8]; have := b.toNat_lt; omega
theorem V_byte' (b : UInt8) : IntKind.u32.wrap (b.toNat : Int) = V (w8 b) := by rw [IntKind.wrap_u32', V_byte]
theorem V_mul24 (x : BitVec 32) : (V x * (16777216 : Int)) % (4294967296 : Int) = V (x <<< 24) := V_shl' x 24
theorem V_mul16 (x : BitVec 32) : (V x * (65536 : Int)) % (4294967296 : Int) = V (x <<< 16) := V_shl' x 16
theorem V_mul8 (x : BitVec 32) : (V x * (256 : Int)) % (4294967296 : Int) = V (x <<< 8) := V_shl' x 8
/-- Word i of the bytes f, the highest byte first. -/
def wordOf (f : Nat → UInt8) (i : Nat) : BitVec 32 := w8 (f (4 * i)) <<< 24 ||| w8 (f (4 * i + 1)) <<< 16 ||| w8 (f (4 * i + 2)) <<< 8 ||| w8 (f (4 * i + 3))
end Go.Proofs.YtdfkpjmljaanpaaGreatDoor
namespace Go.Proofs.YtdfkpjmljaanpaaGreatDoor
open Go.RowKit
attribute [local go_sem] V_add V_add' V_xor V_and V_or V_not V_shr V_shl V_shl'
theorem ret_int {k : IntKind} {a b : Int} (h : a = b) : Ending.returned (.int k a) = .returned (.int k b) := by rw [h]
theorem neg_and31 (n : Int) (h0 : 1 ≤ n) (h1 : n ≤ 31) : bits .and .u64 (IntKind.u64.wrap (-n)) 31 = 32 - n := by
  rw [IntKind.wrap_u64]
  obtain ⟨k, rfl⟩ := Int.eq_ofNat_of_zero_le (show 0 ≤ n by omega)
  have e : (-(k : Int)) % 18446744073709551616 = ((18446744073709551616 - k : Nat) : Int) := by omega
  rw [e, show (31 : Int) = ((31 : Nat) : Int) from rfl, u64_and_nat _ _ (by omega) (by omega)]
  have : (18446744073709551616 - k) &&& 31 = (18446744073709551616 - k) % 2 ^ 5 := Nat.and_two_pow_sub_one_eq_mod _ 5
  rw [this]; omega
theorem ror_int (x : BitVec 32) (n : Int) (h0 : 1 ≤ n) (h1 : n ≤ 31) : x <<< (32 - n).toNat ||| x >>> (32 - (32 - n)).toNat = ror x n.toNat := by
  rw [show (32 - n).toNat = 32 - n.toNat by omega, show (32 - (32 - n)).toNat = n.toNat by omega]; exact ror_or x _
set_option maxHeartbeats 400000 in
theorem rotl_any (x : BitVec 32) (n : Int) (h0 : 1 ≤ n) (h1 : n ≤ 31) (w : World) :
    Calls Tryz.prog 243 #[.int .u32 (V x), .int .i64 (-n)] w fun e w' => e = .returned (.int .u32 (V (ror x n.toNat))) ∧ w = w' := by
  have hr := neg_and31 n h0 h1
  go_enter Tryz.func243, Tryz.ntmps243
  go_wp2
  go_ret
  exact ⟨ret_int (by rw [ror_int x n h0 h1]), rfl⟩
set_option maxHeartbeats 400000 in
theorem right_any (x : BitVec 32) (n : Int) (h0 : 1 ≤ n) (h1 : n ≤ 31) (w : World) :
    Calls Tryz.prog 219 #[.int .u32 (V x), .int .i64 n] w fun e w' => e = .returned (.int .u32 (V (ror x n.toNat))) ∧ w = w' := by
  go_enter Tryz.func219, Tryz.ntmps219
  go_wp2_with (go_at_call 243; refine (rotl_any _ _ h0 h1 _).mono ?_; rintro e w' ⟨rfl, rfl⟩)
  go_ret
  exact ⟨rfl, rfl⟩
theorem right_still (x : BitVec 32) (n : Int) (h0 : 1 ≤ n) (h1 : n ≤ 31) (w : World) :
    Calls Tryz.prog 219 #[.int .u32 (V x), .int .i64 n] w fun e w' => e = .returned (.int .u32 (V (ror x n.toNat))) ∧ w' = w :=
  (right_any x n h0 h1 w).mono fun _ _ ⟨h, k⟩ => ⟨h, k.symm⟩
theorem ror_add' (x : BitVec 32) (n : Int) (h0 : 1 ≤ n) (h1 : n ≤ 31) : x >>> n.toNat + x <<< (32 - n).toNat = ror x n.toNat := by
  rw [show (32 - n).toNat = 32 - n.toNat by omega]; exact ror_add x _ (by omega)
set_option maxHeartbeats 400000 in
theorem rright_any (x : BitVec 32) (n : Int) (h0 : 1 ≤ n) (h1 : n ≤ 31) (w : World) :
    Calls Tryz.prog 198 #[.int .u32 (V x), .int .u64 n] w fun e w' => e = .returned (.int .u32 (V (ror x n.toNat))) ∧ w = w' := by
  have e1 := ror_add' x n h0 h1
  go_enter Tryz.func198, Tryz.ntmps198
  go_wp2
  go_ret
  exact ⟨rfl, rfl⟩
/-- How many blocks. -/
def blocksI (n : Int) : Int := if n < 0 then 0 else if n % 64 + 9 > 64 then n / 64 + 2 else n / 64 + 1
theorem blocksI_neg {n : Int} (h : n < 0) : blocksI n = 0 := if_pos h
theorem blocksI_two {n : Int} (h0 : 0 ≤ n) (h1 : n % 64 + 9 > 64) : blocksI n = n / 64 + 1 + 1 := by
  rw [blocksI, if_neg (by omega), if_pos h1]; omega
theorem blocksI_one {n : Int} (h0 : 0 ≤ n) (h1 : ¬ n % 64 + 9 > 64) : blocksI n = n / 64 + 1 := by
  rw [blocksI, if_neg (by omega), if_neg h1]
set_option maxHeartbeats 400000 in
theorem blocks_any (n : Int) (h : n ≤ 9223372036854775807) (w : World) :
    Calls Tryz.prog 220 #[.int .i64 n] w fun e w' => e = .returned (.int .i64 (blocksI n)) ∧ w = w' := by
  by_cases h0 : n < 0
  · go_enter Tryz.func220, Tryz.ntmps220
    go_wp2
    go_ret
    exact ⟨ret_int (blocksI_neg h0).symm, rfl⟩
  · have h0' : 0 ≤ n := by omega
    clear h0
    by_cases h1 : n % 64 + 9 > 64
    · have H := Lib.hid (blocksI_two h0' h1)
      have hd : decide (64 < n % 64 + 1 + 8) = true := by simp; omega
      go_enter Tryz.func220, Tryz.ntmps220
      go_wp2
      go_ret
      exact ⟨ret_int H.out.symm, rfl⟩
    · have H := Lib.hid (blocksI_one h0' h1)
      have hd : decide (64 < n % 64 + 1 + 8) = false := by simp; omega
      go_enter Tryz.func220, Tryz.ntmps220
      go_wp2
      go_ret
      exact ⟨ret_int H.out.symm, rfl⟩
end Go.Proofs.YtdfkpjmljaanpaaGreatDoor
namespace Go.Proofs.YtdfkpjmljaanpaaGreatDoor
open Go.RowKit
/-- The two tables lie where they lie. -/
def Glob (w : World) : Prop := (∀ i, i < 8 → w.cell? ⟨0, i, none⟩ = some (.int .u32 (V (hh i)))) ∧ (∀ i, i < 64 → w.cell? ⟨2, i, none⟩ = some (.int .u32 (V (kk i)))) ∧ 2 < w.heap.size
theorem Glob.below {w w' : World} (h : Glob w) (hb : Below w.heap.size w w') : Glob w' :=
  ⟨fun i hi => (hb.cell (p := ⟨0, i, none⟩) (by have := h.2.2; show 0 < _; omega)).trans (h.1 i hi), fun i hi => (hb.cell (p := ⟨2, i, none⟩) (by have := h.2.2; show 2 < _; omega)).trans (h.2.1 i hi), Nat.lt_of_lt_of_le h.2.2 hb.size⟩
theorem Glob.drewN {w : World} (h : Glob w) (n : Nat) : Glob (w.drewN n) := h.below (below_drewN (Below.refl _ _) n)
theorem Glob.alloc {w : World} (h : Glob w) (o : Obj) : Glob (w.alloc o) := h.below ((Below.refl _ _).alloc (Nat.le_refl _) o)
/-- The eight words as a value's cells. -/
def cells8 (s : St) : Array Value := #[.int .u32 (V s.a), .int .u32 (V s.b), .int .u32 (V s.c), .int .u32 (V s.d), .int .u32 (V s.e), .int .u32 (V s.f), .int .u32 (V s.g), .int .u32 (V s.h)]
theorem cells8_get (s : St) : ∀ i, i < 8 → (cells8 s)[i]? = some (.int .u32 (V (s.get i)))
  | 0, _ => rfl | 1, _ => rfl | 2, _ => rfl | 3, _ => rfl | 4, _ => rfl | 5, _ => rfl | 6, _ => rfl | 7, _ => rfl
  | n + 8, h => absurd h (by omega)
theorem cells8_of {a : Array Value} {s : St} (hz : a.size = 8) (h : ∀ i, i < 8 → a[i]? = some (.int .u32 (V (s.get i)))) : a = cells8 s := by
  refine Array.ext_getElem? fun i => ?_
  by_cases hi : i < 8
  · rw [h i hi, cells8_get s i hi]
  · rw [Array.getElem?_eq_none (by omega), Array.getElem?_eq_none (by show 8 ≤ i; omega)]
end Go.Proofs.YtdfkpjmljaanpaaGreatDoor
namespace Go.Proofs.YtdfkpjmljaanpaaGreatDoor
open Go.RowKit
def blocksN (n : Nat) : Nat := if n % 64 + 9 > 64 then n / 64 + 2 else n / 64 + 1
def padLen (n : Nat) : Nat := 64 * blocksN n - n
theorem blocksN_bd (n : Nat) : n + 9 ≤ 64 * blocksN n ∧ 64 * blocksN n ≤ n + 72 := by
  unfold blocksN; split <;> omega
theorem padLen_bd (n : Nat) : 9 ≤ padLen n ∧ padLen n ≤ 72 ∧ n + padLen n = 64 * blocksN n := by
  have := blocksN_bd n; unfold padLen; omega
def padAt (n j : Nat) : UInt8 := if j = 0 then 128 else if j + 8 < padLen n then 0 else UInt8.ofNat (8 * n / 256 ^ (padLen n - 1 - j))
def padL (n : Nat) : List UInt8 := (List.range (padLen n)).map (padAt n)
theorem padL_length (n : Nat) : (padL n).length = padLen n := by simp [padL]
theorem padL_get (n j : Nat) (h : j < padLen n) : (padL n)[j]? = some (padAt n j) := by simp [padL, h]
/-- n blocks of l taken into s. -/
def absorb (s : St) (l : List UInt8) : Nat → St
  | 0 => s
  | n + 1 => take (absorb s l n) (wordOf fun j => l.getD (64 * n + j) 0)
theorem wordOf_congr {f g : Nat → UInt8} {i : Nat} (h : ∀ j, j < 64 → f j = g j) (hi : i < 16) : wordOf f i = wordOf g i := by
  unfold wordOf; rw [h _ (by omega), h _ (by omega), h _ (by omega), h _ (by omega)]
theorem sched_congr {m m' : Nat → BitVec 32} (h : ∀ i, i < 16 → m i = m' i) : ∀ n, sched m n = sched m' n
  | 0 => rfl
  | n + 1 => by
    rw [sched, sched, sched_congr h n]
    by_cases e : n < 16
    · rw [if_pos e, if_pos e, h n e]
    · rw [if_neg e, if_neg e]
theorem rounds_congr {m m' : Nat → BitVec 32} (h : ∀ i, i < 16 → m i = m' i) (s : St) : ∀ n, rounds m s n = rounds m' s n
  | 0 => rfl
  | n + 1 => by rw [rounds, rounds, rounds_congr h s n, ww, ww, sched_congr h]
theorem take_congr {m m' : Nat → BitVec 32} (h : ∀ i, i < 16 → m i = m' i) (s : St) : take s m = take s m' := by
  rw [take, take, rounds_congr h]
theorem absorb_congr (s : St) {l l' : List UInt8} : ∀ n, (∀ j, j < 64 * n → l.getD j 0 = l'.getD j 0) → absorb s l n = absorb s l' n
  | 0, _ => rfl
  | n + 1, h => by
    rw [absorb, absorb, absorb_congr s n (fun j hj => h j (by omega))]
    exact take_congr (fun i hi => wordOf_congr (fun j hj => h _ (by omega)) hi) _
/-- The digest's words of a text. -/
def shaSt (l : List UInt8) : St := absorb first (l ++ padL l.length) (blocksN l.length)
/-- Byte i of the eight words. -/
def outAt (s : St) (i : Nat) : UInt8 := UInt8.ofNat ((s.get (i / 4) >>> (24 - i % 4 * 8)).toNat)
def outL (s : St) : List UInt8 := (List.range 32).map (outAt s)
theorem outL_length (s : St) : (outL s).length = 32 := by simp [outL]
/-- The digest of a text. -/
def sha (l : List UInt8) : List UInt8 := outL (shaSt l)
theorem sha_length (l : List UInt8) : (sha l).length = 32 := outL_length _
end Go.Proofs.YtdfkpjmljaanpaaGreatDoor
