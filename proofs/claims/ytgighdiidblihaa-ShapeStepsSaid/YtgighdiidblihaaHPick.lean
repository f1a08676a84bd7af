/- shape.Pick. -/
import Derived.Test.YtgighdiidblihaaHOrder
import Derived.Test.YtgighdiidblihaaBytes
namespace Go.Proofs.Ytgighdiidblihaa
open Go.RowKit

theorem make_bytes (w : World) (n : Nat) (hn : n ≤ 1000000) : ∃ w', (Instr.makeSlice 58 (.int .i64 (n : Int)) (.int .i64 (n : Int))).run Try.prog w = .ok (.slice (some ⟨w.heap.size, 0, none⟩) n n) w' ∧ OwnB w.heap.size w' (some ⟨w.heap.size, 0, none⟩) n (List.replicate n 0) ∧ Below w.heap.size w w' := by
  obtain ⟨i0, hi0, hz0, hz1, hz2⟩ := info_parts Try.info_byte
  obtain ⟨w', h1, h2, h3⟩ := run_makeSlice_full (P := Try.prog) w w.heap.size 58 5 i0 (.int .u8 0) 1 Try.underlying58 hi0 hz0 hz1 .i64 .i64 n (by omega) (by rw [hz2]; omega) (by unfold maxLen; omega) (Nat.le_refl _)
  refine ⟨w', h1, ?_, (Below.refl _ _).grown h3 (Nat.le_refl _) (fun k hk => by cases hk)⟩
  unfold OwnB
  rw [List.length_replicate]
  have e : bcells (List.replicate n 0) = (madeCells (Value.int IntKind.u8 0).cells (n * 1)).toList := by
    simp only [bcells, madeCells, Value.cells, List.map_replicate, Nat.mul_one]
    apply List.ext_getElem?
    intro i
    by_cases hi : i < n
    · simp [hi, Nat.mod_one]
    · simp [hi]
  rw [e]; exact h2
/-- A byte that the call may write. -/
theorem OwnB.cellAt {B : Nat} {w : World} {g cap : Nat} {l : List UInt8} (h : OwnB B w (some ⟨g, 0, none⟩) cap l) (j : Nat) (hj : j < l.length) : w.cell? ⟨g, j, none⟩ = some (.int .u8 ((l.getD j 0).toNat : Int)) := by
  rw [World.ownsRow.cellAt h j (by omega)]
  simp [bcells, List.getD_eq_getElem?_getD, hj]
theorem OwnB.frozenAt {B : Nat} {w : World} {g cap : Nat} {l : List UInt8} (h : OwnB B w (some ⟨g, 0, none⟩) cap l) (j : Nat) : w.frozen? ⟨g, j, none⟩ = false := World.ownsRow.frozenAt h j
theorem bcells_set (l : List UInt8) (j : Nat) (c : UInt8) : bcells (l.set j c) = (bcells l).set j (.int .u8 (c.toNat : Int)) := by
  simp [bcells, List.map_set]
theorem OwnB.put {B : Nat} {w : World} {g cap : Nat} {l : List UInt8} (h : OwnB B w (some ⟨g, 0, none⟩) cap l) (j : Nat) (c : UInt8) :
    OwnB B (w.setCell ⟨g, j, none⟩ (.int .u8 (c.toNat : Int))) (some ⟨g, 0, none⟩) cap (l.set j c) := by
  unfold OwnB
  rw [List.length_set, bcells_set]
  exact (World.ownsRow.stored h j _).1

/-- The first k bytes of a text, behind its end 0, and zeros up to n. -/
def pickN (l : List UInt8) (n k : Nat) : List UInt8 := (List.range n).map fun i => if i < k then at0 l i else 0
theorem pickN_length (l : List UInt8) (n k : Nat) : (pickN l n k).length = n := by simp [pickN]
theorem pickN_zero (l : List UInt8) (n : Nat) : pickN l n 0 = List.replicate n 0 := by
  unfold pickN
  apply List.ext_getElem?
  intro i
  by_cases hi : i < n
  · simp [hi]
  · simp [hi]
theorem pickN_step (l : List UInt8) (n k : Nat) : (pickN l n k).set k (at0 l k) = pickN l n (k + 1) := by
  apply List.ext_getElem?
  intro i
  unfold pickN
  rw [List.getElem?_set]
  by_cases hi : i < n
  · by_cases e : k = i
    · subst e; simp [hi]
    · rw [if_neg e]
      have : (i < k) = (i < k + 1) := by apply propext; omega
      simp [hi, this]
  · by_cases e : k = i
    · subst e; simp [hi]
    · simp [e, hi]
theorem pickN_all (l : List UInt8) (n : Nat) (h : l.length ≤ n) : (pickN l n n).take l.length = l := by
  unfold pickN
  apply List.ext_getElem?
  intro i
  rw [List.getElem?_take]
  by_cases hi : i < l.length
  · rw [if_pos hi]
    have h2 : i < n := by omega
    simp [h2, at0, hi]
  · rw [if_neg hi]; simp; omega
def pickB (first : Bool) (a b : ByteArray) : ByteArray := if first then a else b
theorem pick_byte (first : Bool) (x y : UInt8) : y ^^^ ((x ^^^ y) &&& maskU first) = if first then x else y := by
  cases first with
  | true =>
    rw [show maskU true = -1 from rfl, if_pos rfl, UInt8.and_neg_one, UInt8.xor_comm x y, ← UInt8.xor_assoc, UInt8.xor_self, UInt8.zero_xor]
  | false => rw [show maskU false = 0 from rfl, if_neg (by decide)]; simp
theorem at0_pick (first : Bool) (a b : ByteArray) (k : Nat) : (if first then at0 a.data.toList k else at0 b.data.toList k) = at0 (pickB first a b).data.toList k := by
  cases first <;> rfl
theorem wp_conv_take {B : Nat} {w : World} {g cap : Nat} {l : List UInt8} (h : OwnB B w (some ⟨g, 0, none⟩) cap l) (n : Nat) (hn : n ≤ l.length) :
    (convert 58 9 (.slice (some ⟨g, 0, none⟩) n cap)).run Try.prog w = .ok (.string (str (l.take n))) w := by
  rw [← strOfNums_nums]
  refine run_convert_bytes_arg (P := Try.prog) w 58 5 Try.underlying58 Try.underlying5 g 0 n cap (nums (l.take n)) (by simp [nums]; omega) (fun j hj => ?_) 9 Try.underlying9
  rw [Nat.zero_add, h.cellAt j (by omega)]
  have : j < l.length := by omega
  simp [nums, List.getD_eq_getElem?_getD, hj, this]

attribute [local go_sem high] run_max_I
set_option maxRecDepth 100000 in
set_option maxHeartbeats 400000 in
theorem pick_any (first : Bool) (a b : ByteArray) (ha : a.size ≤ 1000000) (hb : b.size ≤ 1000000) (w : World) :
    Calls Try.prog 19 #[.bool first, .string a, .string b] w fun e w' => e = .returned (.tuple #[.string (pickB first a b), .int .i64 (longer a b)]) ∧ Below w.heap.size w w' := by
  obtain ⟨n, hn⟩ : ∃ n, n = longer a b := ⟨_, rfl⟩
  have hm := max_size a b
  have hn2 : n ≤ 1000000 := by rw [hn]; exact longer_le ha hb
  have hna : a.size ≤ n := by rw [hn]; exact longer_left a b
  have hnb : b.size ≤ n := by rw [hn]; exact longer_right a b
  rw [← hn] at hm ⊢
  clear hn
  obtain ⟨w0, hmk, hown, hb0⟩ := make_bytes w n hn2
  obtain ⟨c, hc⟩ : ∃ c, c = pickB first a b := ⟨_, rfl⟩
  have hcn : c.size ≤ n := by rw [hc]; unfold pickB; split <;> assumption
  rw [← pickN_zero c.data.toList n] at hown
  rw [← hc]
  have H0 := Lib.hid (And.intro hown (And.intro hb0 hc))
  clear hown hb0 hc
  have hmc := mask_any first
  go_enter Try.func19, Try.ntmps19
  go_wp2_with fail
  refine (hmc _).mono ?_
  rintro e w' ⟨rfl, rfl⟩
  clear hmc
  go_wp2_with fail
  go_loopw [10, 11, 12, 23] (fun _ _ _ i wr => ∃ k : Nat, k ≤ n ∧ i = .int .i64 k ∧ OwnB w.heap.size wr (some ⟨w.heap.size, 0, none⟩) n (pickN c.data.toList n k) ∧ Below w.heap.size w wr) (fun _ _ _ i _ => n - (intOf i).toNat)
  case atStart => exact ⟨0, Nat.zero_le _, rfl, H0.out.1, H0.out.2.1⟩
  case round =>
    obtain ⟨k, hk, rfl, hown, hbw⟩ := hrel
    by_cases hlt : k < n
    · have c1 := byteAt_any a (by unfold maxLen; omega) k
      have c2 := byteAt_any b (by unfold maxLen; omega) k
      have hp := pick_byte first (at0 a.data.toList k) (at0 b.data.toList k)
      rw [at0_pick, ← H0.out.2.2] at hp
      have hput := hown.put k (at0 c.data.toList k)
      rw [pickN_step] at hput
      have hcell := hown.cellAt k (by rw [pickN_length]; exact hlt)
      have hfr := hown.frozenAt k
      generalize (pickN c.data.toList n k).getD k 0 = old at hcell
      generalize at0 c.data.toList k = r at *
      generalize at0 a.data.toList k = x at *
      generalize at0 b.data.toList k = y at *
      generalize maskU first = m at *
      obtain ⟨z, hz⟩ : ∃ z, z = x ^^^ y := ⟨_, rfl⟩
      obtain ⟨v, hv⟩ : ∃ v, v = z &&& m := ⟨_, rfl⟩
      rw [← hz, ← hv] at hp
      have h1 : bits .xor .u8 (x.toNat : Int) (y.toNat : Int) = (z.toNat : Int) := by rw [byte_xor8, hz]
      have h2 : bits .and .u8 (z.toNat : Int) (m.toNat : Int) = (v.toNat : Int) := by rw [byte_and8, hv]
      have h3 : bits .xor .u8 (y.toNat : Int) (v.toNat : Int) = (r.toNat : Int) := by rw [byte_xor8, hp]
      have HS := Lib.hid (And.intro c1 (And.intro c2 (And.intro hput (hbw.setCell (p := ⟨w.heap.size, k, none⟩) (Nat.le_refl _) (.int .u8 (r.toNat : Int))))))
      clear c1 c2 hput hbw hown hp hz hv
      go_wp2_with fail
      refine (HS.out.1 _).mono ?_
      rintro e w' ⟨rfl, rfl⟩
      go_wp2_with fail
      refine (HS.out.2.1 _).mono ?_
      rintro e w' ⟨rfl, rfl⟩
      go_wp2_with fail
      go_roundw
      case rel => exact ⟨k + 1, by omega, by go_num, HS.out.2.2.1, HS.out.2.2.2⟩
      case measure => simp [intOf]; omega
    · obtain rfl : k = n := by omega
      have hcv := wp_conv_take hown c.size (by rw [pickN_length]; exact hcn)
      rw [show c.size = c.data.toList.length from by simp, pickN_all c.data.toList k (by simpa using hcn), show c.data.toList.length = c.size from by simp, str_of] at hcv
      have HB := Lib.hid hbw
      clear hown hbw
      cases first with
      | true =>
        obtain rfl : c = a := H0.out.2.2
        go_wp2_with fail
        go_ret2
        exact ⟨rfl, HB.out⟩
      | false =>
        obtain rfl : c = b := H0.out.2.2
        go_wp2_with fail
        go_ret2
        exact ⟨rfl, HB.out⟩
end Go.Proofs.Ytgighdiidblihaa
