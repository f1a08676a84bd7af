/- MC2, what is wanted of it. -/
import Derived.Shelf.Strings.Builder1
import Derived.Shelf.Strings.BuilderF
import Derived.Shelf.Strings.BuilderK
import Derived.Test.YtdfkpjmljaanpaaGreatDoorZBitsLen
import Derived.Test.YtdfkpjmljaanpaaGreatDoorZMC1
import Derived.WalkKit
import Derived.Lib.Builder
import Derived.Lib.FrozenHead2
import Derived.Lib.OthersKept
import Derived.Lib.UnsafeStr
namespace Go.Proofs
open Go.Shelf
def Tryz.lays170_ren : Go.Shelf.Ren := ⟨fun | 170 => 167 | n => n, fun | 70 => 250 | 3 => 3 | 0 => 0 | 72 => 252 | 37 => 107 | 5 => 5 | n => n, fun | n => n⟩
theorem Tryz.lays170 : Go.Proofs.Lays.n170 Tryz.prog Tryz.lays170_ren := {
  mixed := by kernel_rfl
  f170 := Tryz.func167.trans (congrArg some (by kernel_rfl))
  t0 := Tryz.underlying0
  a0 := Tryz.isAgg0
  z0 := Tryz.sizeOf0
  v0 := Tryz.zeroValue0
  t3 := Tryz.underlying3
  a3 := Tryz.isAgg3
  z3 := Tryz.sizeOf3
  v3 := Tryz.zeroValue3
  t37 := Tryz.underlying107
  a37 := Tryz.isAgg107
  z37 := Tryz.sizeOf107
  v37 := Tryz.zeroValue107
  t70 := Tryz.underlying250
  a70 := Tryz.isAgg250
  z70 := Tryz.sizeOf250
  v70 := Tryz.zeroValue250
  t72 := Tryz.underlying252
  a72 := Tryz.isAgg252
  z72 := Tryz.sizeOf252
  v72 := Tryz.zeroValue252 }
def Tryz.lays169_ren : Go.Shelf.Ren := ⟨fun | 169 => 168 | n => n, fun | 70 => 250 | 9 => 9 | 0 => 0 | 72 => 252 | 37 => 107 | 127 => 285 | 3 => 3 | 5 => 5 | n => n, fun | n => n⟩
theorem Tryz.lays169 : Go.Proofs.Lays.n169 Tryz.prog Tryz.lays169_ren := {
  mixed := by kernel_rfl
  f169 := Tryz.func168.trans (congrArg some (by kernel_rfl))
  t0 := Tryz.underlying0
  a0 := Tryz.isAgg0
  z0 := Tryz.sizeOf0
  v0 := Tryz.zeroValue0
  t3 := Tryz.underlying3
  a3 := Tryz.isAgg3
  z3 := Tryz.sizeOf3
  v3 := Tryz.zeroValue3
  t9 := Tryz.underlying9
  a9 := Tryz.isAgg9
  z9 := Tryz.sizeOf9
  v9 := Tryz.zeroValue9
  t37 := Tryz.underlying107
  a37 := Tryz.isAgg107
  z37 := Tryz.sizeOf107
  v37 := Tryz.zeroValue107
  t70 := Tryz.underlying250
  a70 := Tryz.isAgg250
  z70 := Tryz.sizeOf250
  v70 := Tryz.zeroValue250
  t72 := Tryz.underlying252
  a72 := Tryz.isAgg252
  z72 := Tryz.sizeOf252
  v72 := Tryz.zeroValue252
  t127 := Tryz.underlying285
  a127 := Tryz.isAgg285
  z127 := Tryz.sizeOf285
  v127 := Tryz.zeroValue285 }
theorem Tryz.Builder_Extra_169 : Builder.Extra Tryz.prog Tryz.lays169_ren := {
  sizeBuilder := by kernel_rfl
  liesBuilder := by kernel_rfl
  t5 := Tryz.underlying5
  a5 := Tryz.isAgg5
  z5 := Tryz.sizeOf5
  v5 := Tryz.zeroValue5
  infoByte := by kernel_rfl
  cellsByte := by kernel_rfl
  sizeByte := by kernel_rfl
  neB5 := by decide }
open Go.RowKit in
theorem Tryz.Builder_Len_f (B b : Nat) (bs : List Value) (w : World) (h : Lib.IsBuilderF 252 5 B b bs w) :
    Calls Tryz.prog 167 #[.pointer (some ⟨b, 0, none⟩)] w fun e w' => e = .returned (.int .i64 bs.length) ∧ w' = w := Any.Builder_Len_f Tryz.lays170 B b bs w h
open Go.RowKit in
theorem Tryz.Builder_String_any_k (B b : Nat) (l : List UInt8) (w : World) (h : Lib.IsBuilderF 252 5 B b (Lib.byteCells l) w) (hBw : B ≤ w.heap.size) :
    Calls Tryz.prog 168 #[.pointer (some ⟨b, 0, none⟩)] w fun e w' => e = .returned (.string ⟨l.toArray⟩) ∧ (Lib.IsBuilderF 252 5 B b (Lib.byteCells l) w' ∧ Below B w w' ∧ Lib.OthersKept 5 (some b) w w') := Any.Builder_String_any_k Tryz.lays169 Tryz.Builder_Extra_169 B b l w h hBw
end Go.Proofs
namespace Go.Proofs.YtdfkpjmljaanpaaGreatDoor
open Go.RowKit
/-- A builder of the call's own that holds such bytes. -/
def Bu (B b : Nat) (l : List UInt8) (w : World) : Prop := Lib.IsBuilderF 252 5 B b (Lib.byteCells l) w
set_option maxRecDepth 100000 in
theorem copyCheck_fresh (b : Nat) (w : World) (h0 : w.cell? ⟨b, 0, none⟩ = some (.pointer none)) (hsh : w.shape? b = some (252, 2)) (hfz : w.frozen? ⟨b, 0, none⟩ = false) :
    Calls Tryz.prog 224 #[.pointer (some ⟨b, 0, none⟩)] w fun e w' => e = .returned (.tuple #[]) ∧ w' = w.setCell ⟨b, 0, none⟩ (.pointer (some ⟨b, 0, none⟩)) := by
  obtain ⟨j, hj, hjs⟩ := Option.map_eq_some_iff.1 (show (Tryz.prog.info? 252).map (·.size) = some 2 by kernel_rfl)
  go_enter Tryz.func224, Tryz.ntmps224
  go_wp2
  rw [Lib.run_to_unsafe w ⟨b, 0, none⟩ Tryz.underlying250 Tryz.underlying333 hj (by rw [hjs]; decide) hsh (Nat.zero_lt_succ 1)]
  simp only [Result.andThen]
  rw [Oper.upon_value]
  go_wp2
  rw [run_callFunc_extern Tryz.func246 (by kernel_rfl) (by kernel_rfl) (by kernel_rfl) (e := Extern.AbiNoEscape.same) (by kernel_rfl)]
  rw [Lib.run_noEscape]
  simp only [Result.andThen]
  rw [Oper.upon_value]
  go_wp2
  rw [Lib.run_from_unsafe w ⟨b, 0, none⟩ Tryz.underlying333 Tryz.underlying250 hj hsh (by kernel_rfl)]
  simp only [Result.andThen]
  rw [Oper.upon_value]
  go_wp2
  go_end0
  exact ⟨rfl, rfl⟩
set_option maxRecDepth 100000 in
theorem neq_ptr_self (b : Nat) (w : World) : (binOp .neq 250 (.pointer (some ⟨b, 0, none⟩)) (.pointer (some ⟨b, 0, none⟩))).run Tryz.prog w = .ok (.bool false) w := by
  obtain ⟨j, hj, hjs⟩ := Option.map_eq_some_iff.1 (show (Tryz.prog.info? 252).map (·.size) = some 2 by kernel_rfl)
  exact Lib.run_neq_ptr_same w ⟨b, 0, none⟩ Tryz.underlying250 hj
set_option maxRecDepth 100000 in
theorem copyCheck_used (b : Nat) (w : World) (h0 : w.cell? ⟨b, 0, none⟩ = some (.pointer (some ⟨b, 0, none⟩))) :
    Calls Tryz.prog 224 #[.pointer (some ⟨b, 0, none⟩)] w fun e w' => e = .returned (.tuple #[]) ∧ w' = w := by
  have hn := neq_ptr_self b
  go_enter Tryz.func224, Tryz.ntmps224
  go_wp2
  go_end0
  exact ⟨rfl, rfl⟩
set_option maxRecDepth 100000 in
theorem copyCheck_any (B b : Nat) (bs : List Value) (w : World) (h : Lib.IsBuilderF 252 5 B b bs w) :
    Calls Tryz.prog 224 #[.pointer (some ⟨b, 0, none⟩)] w fun e w' => e = .returned (.tuple #[]) ∧ (Lib.BuilderAtF 252 5 B b (.pointer (some ⟨b, 0, none⟩)) bs w' ∧ Below B w w' ∧ Lib.OthersKept 5 (some b) w w') := by
  rcases h with h | h
  · refine (copyCheck_fresh b w h.cell0 h.shape h.frozen0).mono ?_
    rintro e w' ⟨rfl, rfl⟩
    exact ⟨rfl, h.used _, (Below.refl B w).setCell (p := ⟨b, 0, none⟩) h.1 _, (Lib.OthersKept.refl _ _ w).setCell ⟨b, 0, none⟩ rfl _⟩
  · refine (copyCheck_used b w h.cell0).mono ?_
    rintro e w' ⟨rfl, rfl⟩
    exact ⟨rfl, h, Below.refl B _, Lib.OthersKept.refl _ _ _⟩
set_option maxRecDepth 100000 in
theorem info_u8 : (Tryz.prog.info? 5).map (fun i => (i.zero, i.size, i.bytes)) = some (some (.int .u8 0), 1, 1) := by kernel_rfl
set_option maxHeartbeats 2000000 in
set_option maxRecDepth 100000 in
theorem writeByte_cells (B b : Nat) (bs : List Value) (c : Int) (w : World) (h : Lib.IsBuilderF 252 5 B b bs w) (hlen : bs.length + 1 ≤ 140737488355328) (hBw : B ≤ w.heap.size) :
    Calls Tryz.prog 209 #[.pointer (some ⟨b, 0, none⟩), .int .u8 c] w fun e w' => e = .returned .nilIface ∧ (Lib.BuilderAtF 252 5 B b (.pointer (some ⟨b, 0, none⟩)) (bs ++ [.int .u8 c]) w' ∧ Below B w w' ∧ Lib.OthersKept 5 (some b) w w') := by
  obtain ⟨i0, hi, hz0, hz1, hz2⟩ := info_parts info_u8
  go_enter Tryz.func209, Tryz.ntmps209
  go_wp2_with (go_at_call 224; refine (copyCheck_any B b bs _ h).mono ?_)
  rintro e w1 ⟨rfl, h1, hb1, hk1⟩
  obtain ⟨hB, v, hbk, hown, hne⟩ := h1
  have c0 : w1.cell? ⟨b, 0, none⟩ = some (.pointer (some ⟨b, 0, none⟩)) := by rw [Lib.cell_of_heap hbk]; rfl
  have c1 : w1.cell? ⟨b, 1, none⟩ = some v := by rw [Lib.cell_of_heap hbk]; rfl
  go_wp2_with (at_builtin; refine wpList_append_ownF _ rfl _ _ 107 rfl B 5 i0 (.int .u8 0) 1 1 Tryz.underlying107 hi hz0 hz1 hz2 rfl (by decide) _ _ _ rfl (hown.alloc _) ⟨w1.heap.size, 0, none⟩ 1 1 [.int .u8 c] rfl rfl ?c1 ?c2 ?c3 ?c4 ?c5 ?_)
  case c1 =>
    intro j u hj
    match j, hj with
    | 0, hj => simp at hj; subst hj; simp [Addr.add]
  case c2 => intro u hu; simp at hu; subst hu; rfl
  case c3 => unfold maxLen; omega
  case c4 => omega
  case c5 => have := hb1.size; simp; omega
  intro v' w2 hown' hgrow _
  have hlt : b < w1.heap.size := by
    rcases Nat.lt_or_ge b w1.heap.size with h' | h'
    · exact h'
    · simp [Array.getElem?_eq_none h'] at hbk
  have hb2 : w2.heap[b]? = some (.cells #[.pointer (some ⟨b, 0, none⟩), v] 252 (0, 0)) := by
    rw [hgrow.block b (by simp; omega) (fun e => hne e.symm), Lib.alloc_old w1 _ b hlt]
    exact hbk
  have d0 : w2.cell? ⟨b, 0, none⟩ = some (.pointer (some ⟨b, 0, none⟩)) := by rw [Lib.cell_of_heap hb2]; rfl
  have d1 : w2.cell? ⟨b, 1, none⟩ = some v := by rw [Lib.cell_of_heap hb2]; rfl
  have f1 : w2.frozen? ⟨b, 1, none⟩ = false := Lib.frozen_of_heap hb2 1
  obtain ⟨g, cap, rfl⟩ : ∃ g cap, v' = .slice (some ⟨g, 0, none⟩) (bs.length + 1) cap := by
    rcases hown'.2 with ⟨_, h0⟩ | ⟨g, cap, cur, fz, hv, _⟩
    · omega
    · exact ⟨g, cap, hv⟩
  go_wp2
  go_ret
  refine ⟨rfl, ?_, ?_, ((hk1.alloc _).grown hgrow (Lib.ownsRowF_kind (hown.alloc _))).setCell ⟨b, 1, none⟩ rfl _⟩
  · exact Lib.BuilderAtF.put (T := 252) (e := 5) hB hb2 (bs' := bs ++ [.int .u8 c]) (by simpa using hown') (by decide)
  · exact ((hb1.alloc (by have := hb1.size; omega) _).grown hgrow (by have := hb1.size; simp; omega) (fun k hk => (hown.lt k hk).1)).setCell (p := ⟨b, 1, none⟩) hB _
set_option maxHeartbeats 2000000 in
set_option maxRecDepth 100000 in
theorem writeString_cells (B b : Nat) (bs : List Value) (s : ByteArray) (w : World) (h : Lib.IsBuilderF 252 5 B b bs w) (hlen : bs.length + s.size ≤ 140737488355328) (hBw : B ≤ w.heap.size) :
    Calls Tryz.prog 210 #[.pointer (some ⟨b, 0, none⟩), .string s] w fun e w' => e = .returned (.tuple #[.int .i64 s.size, .nilIface]) ∧ (Lib.BuilderAtF 252 5 B b (.pointer (some ⟨b, 0, none⟩)) (bs ++ Lib.strCells s) w' ∧ Below B w w' ∧ Lib.OthersKept 5 (some b) w w') := by
  obtain ⟨i0, hi, hz0, hz1, hz2⟩ := info_parts info_u8
  go_enter Tryz.func210, Tryz.ntmps210
  go_wp2_with (go_at_call 224; refine (copyCheck_any B b bs _ h).mono ?_)
  rintro e w1 ⟨rfl, h1, hb1, hk1⟩
  obtain ⟨hB, v, hbk, hown, hne⟩ := h1
  have c0 : w1.cell? ⟨b, 0, none⟩ = some (.pointer (some ⟨b, 0, none⟩)) := by rw [Lib.cell_of_heap hbk]; rfl
  have c1 : w1.cell? ⟨b, 1, none⟩ = some v := by rw [Lib.cell_of_heap hbk]; rfl
  go_wp2_with (at_builtin; refine Lib.wpList_append_own_stringF _ rfl _ _ 107 9 rfl B 5 i0 Tryz.underlying107 Tryz.underlying9 hi hz0 hz1 hz2 _ _ _ rfl hown s rfl ?c3 ?c4 ?c5 ?_)
  case c3 => unfold maxLen; omega
  case c4 => omega
  case c5 => have := hb1.size; omega
  intro v' w2 hown' hgrow _
  have hlt : b < w1.heap.size := by
    rcases Nat.lt_or_ge b w1.heap.size with h' | h'
    · exact h'
    · simp [Array.getElem?_eq_none h'] at hbk
  have hb2 : w2.heap[b]? = some (.cells #[.pointer (some ⟨b, 0, none⟩), v] 252 (0, 0)) := by
    rw [hgrow.block b hlt (fun e => hne e.symm)]
    exact hbk
  have d0 : w2.cell? ⟨b, 0, none⟩ = some (.pointer (some ⟨b, 0, none⟩)) := by rw [Lib.cell_of_heap hb2]; rfl
  have d1 : w2.cell? ⟨b, 1, none⟩ = some v := by rw [Lib.cell_of_heap hb2]; rfl
  have f1 : w2.frozen? ⟨b, 1, none⟩ = false := Lib.frozen_of_heap hb2 1
  obtain ⟨ao, n', cap, rfl⟩ : ∃ ao n' cap, v' = .slice ao n' cap := by
    rcases hown'.2 with ⟨hv, _⟩ | ⟨g, cap, cur, fz, hv, _⟩
    · exact ⟨_, _, _, hv⟩
    · exact ⟨_, _, _, hv⟩
  go_wp2
  go_ret2
  refine ⟨rfl, ?_, ?_, (hk1.grown hgrow (Lib.ownsRowF_kind hown)).setCell ⟨b, 1, none⟩ rfl _⟩
  · exact Lib.BuilderAtF.put (T := 252) (e := 5) hB hb2 (bs' := bs ++ Lib.strCells s) (by simpa [Lib.strCells_length] using hown') (by decide)
  · exact (hb1.grown hgrow (by have := hb1.size; omega) (fun k hk => (hown.lt k hk).1)).setCell (p := ⟨b, 1, none⟩) hB _
/-- The three calls, in bytes. What a call leaves: the builder, what lay below B, and all blocks but the builder's and rows of bytes. -/
def BuNext (B b : Nat) (l : List UInt8) (w w' : World) : Prop := Bu B b l w' ∧ Below B w w' ∧ Lib.OthersKept 5 (some b) w w'
set_option maxRecDepth 100000 in
theorem byteCells_append (a b : List UInt8) : Lib.byteCells (a ++ b) = Lib.byteCells a ++ Lib.byteCells b := by simp [Lib.byteCells]
set_option maxRecDepth 100000 in
theorem byteCells_len (a : List UInt8) : (Lib.byteCells a).length = a.length := by simp [Lib.byteCells]
set_option maxRecDepth 100000 in
theorem writeByte_any (B b : Nat) (l : List UInt8) (c : Int) (x : UInt8) (hc : c = x.toNat) (w : World) (h : Bu B b l w) (hlen : l.length < 200000) (hBw : B ≤ w.heap.size) :
    Calls Tryz.prog 209 #[.pointer (some ⟨b, 0, none⟩), .int .u8 c] w fun e w' => e = .returned .nilIface ∧ BuNext B b (l ++ [x]) w w' := by
  refine (writeByte_cells B b _ c w h (by rw [byteCells_len]; omega) hBw).mono ?_
  rintro e w' ⟨he, h1, h2, h3⟩
  refine ⟨he, Or.inr ?_, h2, h3⟩
  rw [byteCells_append]
  subst hc
  exact h1
set_option maxRecDepth 100000 in
theorem writeString_any (B b : Nat) (l : List UInt8) (s : ByteArray) (w : World) (h : Bu B b l w) (hlen : l.length + s.size < 400000) (hBw : B ≤ w.heap.size) :
    Calls Tryz.prog 210 #[.pointer (some ⟨b, 0, none⟩), .string s] w fun e w' => e = .returned (.tuple #[.int .i64 s.size, .nilIface]) ∧ BuNext B b (l ++ s.data.toList) w w' := by
  refine (writeString_cells B b _ s w h (by rw [byteCells_len]; omega) hBw).mono ?_
  rintro e w' ⟨he, h1, h2, h3⟩
  refine ⟨he, Or.inr ?_, h2, h3⟩
  rw [byteCells_append]
  exact h1
set_option maxRecDepth 100000 in
theorem len_any (B b : Nat) (l : List UInt8) (w : World) (h : Bu B b l w) :
    Calls Tryz.prog 167 #[.pointer (some ⟨b, 0, none⟩)] w fun e w' => e = .returned (.int .i64 l.length) ∧ w = w' := by
  refine (Tryz.Builder_Len_f B b _ w h).mono ?_
  rintro e w' ⟨he, hw⟩
  rw [byteCells_len] at he
  exact ⟨he, hw.symm⟩
set_option maxRecDepth 100000 in
theorem string_any (B b : Nat) (l : List UInt8) (w : World) (h : Bu B b l w) (hBw : B ≤ w.heap.size) :
    Calls Tryz.prog 168 #[.pointer (some ⟨b, 0, none⟩)] w fun e w' => e = .returned (.string ⟨l.toArray⟩) ∧ BuNext B b l w w' :=
  Tryz.Builder_String_any_k B b l w h hBw
set_option maxRecDepth 100000 in
theorem BuNext.trans {B b : Nat} {l m : List UInt8} {w w1 w2 : World} (h : BuNext B b l w w1) (k : BuNext B b m w1 w2) : BuNext B b m w w2 :=
  ⟨k.1, h.2.1.trans k.2.1, h.2.2.trans k.2.2⟩
set_option maxRecDepth 100000 in
theorem BuNext.size {B b : Nat} {l : List UInt8} {w w1 : World} (h : BuNext B b l w w1) : w.heap.size ≤ w1.heap.size := h.2.1.size
end Go.Proofs.YtdfkpjmljaanpaaGreatDoor
namespace Go.Proofs.YtdfkpjmljaanpaaGreatDoor
open Go.RowKit
open Cn
/-- What putNum's loop has laid. -/
def Laying (B b : Nat) (l : List UInt8) (n : Nat) (w wr : World) (m : Nat) : Prop := ∃ X, BuNext B b (l ++ UInt8.ofNat (width n) :: X) w wr ∧ X ++ be m n = be (width n) n ∧ X.length ≤ 8
theorem bitsLen_any (n : Nat) (hn : n < 2 ^ 63) (w : World) : Calls Tryz.prog 160 #[.int .u64 n] w fun e w' => e = .returned (.int .i64 (Lib.bitLen n)) ∧ w = w' := by
  refine (Tryz.bits_Len n w (by omega) (by omega)).mono ?_
  rintro e w' ⟨he, hw⟩
  exact ⟨he, hw.symm⟩
theorem Laying.next {B b : Nat} {l : List UInt8} {n : Nat} {w wr w' : World} {m : Nat} (h0 : 0 < m) (X : List UInt8) (h2 : X ++ be m n = be (width n) n)
    (h1 : BuNext B b (l ++ UInt8.ofNat (width n) :: X) w wr) (h : BuNext B b ((l ++ UInt8.ofNat (width n) :: X) ++ [UInt8.ofNat (n / 256 ^ (m - 1))]) wr w') (hw : width n ≤ 8) : Laying B b l n w w' (m - 1) := by
  have e : X ++ [UInt8.ofNat (n / 256 ^ (m - 1))] ++ be (m - 1) n = be (width n) n := by
    rw [← h2, show be m n = be (m - 1 + 1) n by rw [Nat.sub_add_cancel h0], be]
    simp
  refine ⟨X ++ [UInt8.ofNat (n / 256 ^ (m - 1))], ?_, e, ?_⟩
  · have := h1.trans h
    simpa using this
  · have := congrArg List.length e
    rw [List.length_append, be_length, be_length] at this
    omega
theorem byte_at (n m : Nat) : (n : Int) / 2 ^ (8 * (m - 1)) % 256 = ((UInt8.ofNat (n / 256 ^ (m - 1))).toNat : Int) := by
  rw [UInt8.toNat_ofNat', show (256 : Nat) ^ (m - 1) = 2 ^ (8 * (m - 1)) by rw [Nat.pow_mul]]
  rw [show (2 : Int) ^ (8 * (m - 1)) = ((2 ^ (8 * (m - 1)) : Nat) : Int) by rw [Int.natCast_pow]; rfl]
  generalize 2 ^ (8 * (m - 1)) = P
  rfl
set_option maxRecDepth 100000 in
set_option maxHeartbeats 400000 in
theorem putNum_any (B b : Nat) (l : List UInt8) (n : Nat) (w : World) (h : Bu B b l w) (hlen : l.length < 150000) (hn : n < 2 ^ 63) (hBw : B ≤ w.heap.size) :
    Calls Tryz.prog 208 #[.pointer (some ⟨b, 0, none⟩), .int .i64 n] w fun e w' => e = .returned (.tuple #[]) ∧ BuNext B b (l ++ num n) w w' := by
  have hn1 : (n : Int) ≤ 9223372036854775807 := by omega
  have hn0 : (0 : Int) ≤ (n : Int) := by omega
  have hw8 : width n ≤ 8 := width_le (k := 8) (Nat.lt_of_lt_of_le hn (by decide)) (by decide)
  have hbl : (Lib.bitLen n : Int) ≤ 64 := by unfold width at hw8; omega
  obtain ⟨bl, hbleq⟩ : ∃ x, x = Lib.bitLen n := ⟨_, rfl⟩
  rw [← hbleq] at hbl
  obtain ⟨k, hk⟩ : ∃ k, k = width n := ⟨_, rfl⟩
  have hkb : ((bl : Int) + 7) / 8 = (k : Int) := by rw [hk, hbleq]; unfold width; omega
  rw [← hk] at hw8
  have HK := Lib.hid (And.intro hbleq (And.intro hk hn))
  clear hbleq hk hn
  go_enter Tryz.func208, Tryz.ntmps208
  go_wp2_with fail
  refine (bitsLen_any n HK.out.2.2 _).mono ?_
  rintro e w' ⟨rfl, rfl⟩
  rw [← HK.out.1]
  go_wp2_with fail
  refine (writeByte_any B b l _ (UInt8.ofNat (width n)) (by rw [UInt8.toNat_ofNat', ← HK.out.2.1]; omega) _ h (by omega) hBw).mono ?_
  rintro e w1 ⟨rfl, hb1⟩
  have H1 : Hid (Laying B b l n w w1 k) := ⟨[], hb1, by rw [HK.out.2.1]; rfl, by simp⟩
  have HKB := Lib.hid hkb
  clear hb1 hkb
  go_wp2_with fail
  go_loopw [5] (fun c wr => ∃ m : Nat, m ≤ k ∧ c = .int .i64 ((m : Int) - 1) ∧ Laying B b l n w wr m) (fun c _ => (intOf c + 1).toNat)
  case atStart => exact ⟨k, by omega, congrArg (fun x => Value.int .i64 (x - 1)) HKB.out, H1.out⟩
  case round =>
    obtain ⟨m, hm, rfl, hL⟩ := hrel
    have HL := Lib.hid hL
    clear hL
    by_cases h0 : 0 < m
    · have h0i : 0 ≤ (m : Int) - 1 := by omega
      go_wp2_with fail
      obtain ⟨X, hX1, hX2, hX3⟩ := HL.out
      have HX := Lib.hid (And.intro hX1 hX2)
      clear hX1 hX2
      refine (writeByte_any B b _ _ _ (byte_at n m) _ HX.out.1.1 (by simp; omega) (Nat.le_trans hBw HX.out.1.size)).mono ?_
      rintro e w2 ⟨rfl, hb2⟩
      have H2 := Lib.hid (Laying.next h0 X HX.out.2 HX.out.1 hb2 (by rw [← HK.out.2.1]; exact hw8))
      clear hb2
      go_wp2_with fail
      go_roundw
      case rel => exact ⟨m - 1, by omega, by congr 1; omega, H2.out⟩
      case measure => simp [intOf]; omega
    · obtain rfl : m = 0 := by omega
      go_wp2_with fail
      go_end0
      obtain ⟨X, h1, h2, -⟩ := HL.out
      exact ⟨rfl, by rw [num, ← h2]; simpa [be] using h1⟩
end Go.Proofs.YtdfkpjmljaanpaaGreatDoor
namespace Go.Proofs.YtdfkpjmljaanpaaGreatDoor
open Go.RowKit
open Cn
/-- An item, and where its list lies (with what capacity). -/
inductive It where
  | mk (k n : Int) (s : ByteArray) (a : Option Addr) (cap : Nat) (l : List It)
namespace It
def k : It → Int | mk k _ _ _ _ _ => k
def n : It → Int | mk _ n _ _ _ _ => n
def s : It → ByteArray | mk _ _ s _ _ _ => s
def a : It → Option Addr | mk _ _ _ a _ _ => a
def cap : It → Nat | mk _ _ _ _ c _ => c
def l : It → List It | mk _ _ _ _ _ l => l
/-- The list's value. -/
def lv (x : It) : Value := .slice x.a x.l.length x.cap
def cells (x : It) : Array Value := #[.int .i64 x.k, .int .i64 x.n, .string x.s, .slice x.a x.l.length x.cap]
def val (x : It) : Value := .agg x.cells
mutual
def pure : It → Pt
  | mk k n s _ _ l => .mk k n s (pureAll l)
def pureAll : List It → List Pt
  | [] => []
  | x :: r => pure x :: pureAll r
end
mutual
def sz : It → Nat
  | mk _ _ _ _ _ l => 1 + szAll l
def szAll : List It → Nat
  | [] => 0
  | x :: r => sz x + szAll r
end
theorem pureAll_eq : ∀ l, pureAll l = l.map pure
  | [] => rfl
  | x :: r => by rw [pureAll, pureAll_eq r]; rfl
theorem pureAll_length (l : List It) : (pureAll l).length = l.length := by rw [pureAll_eq, List.length_map]
theorem pure_eq (x : It) : x.pure = .mk x.k x.n x.s (pureAll x.l) := by cases x; rfl
theorem sz_eq (x : It) : x.sz = 1 + szAll x.l := by cases x; rfl
theorem sz_mem : ∀ {l : List It} {x : It}, x ∈ l → sz x ≤ szAll l
  | y :: r, x, h => by
    rw [szAll]
    rcases List.mem_cons.1 h with rfl | h
    · omega
    · have := sz_mem h; omega
theorem sz_lt {x y : It} (h : y ∈ x.l) : y.sz < x.sz := by rw [sz_eq x]; have := sz_mem h; omega
end It
/-- The cells of a list of items, from an address on. -/
def RowAt (w : World) (b o : Nat) (l : List It) : Prop := ∀ j x, l[j]? = some x → w.cell? ⟨b, o + j * 4, none⟩ = some (.int .i64 x.k) ∧ w.cell? ⟨b, o + j * 4 + 1, none⟩ = some (.int .i64 x.n) ∧ w.cell? ⟨b, o + j * 4 + 2, none⟩ = some (.string x.s) ∧ w.cell? ⟨b, o + j * 4 + 3, none⟩ = some (.slice x.a x.l.length x.cap)
/-- A list lies where it says (or is empty). -/
def Lies (w : World) (S : Nat → Prop) (a : Option Addr) (l : List It) : Prop := l.length ≤ maxLen ∧ (l ≠ [] → ∃ b o, a = some ⟨b, o, none⟩ ∧ b < w.heap.size ∧ S b ∧ RowAt w b o l)
namespace It
mutual
/-- An item's lists lie in memory, all of them in blocks of which S holds. -/
def In (w : World) (S : Nat → Prop) : It → Prop
  | mk _ _ s a _ l => s.size ≤ maxLen ∧ Lies w S a l ∧ InAll w S l
def InAll (w : World) (S : Nat → Prop) : List It → Prop
  | [] => True
  | x :: r => In w S x ∧ InAll w S r
end
theorem in_eq (w : World) (S : Nat → Prop) (x : It) : x.In w S = (x.s.size ≤ maxLen ∧ Lies w S x.a x.l ∧ InAll w S x.l) := by cases x; rfl
theorem inAll_mem {w : World} {S : Nat → Prop} : ∀ {l : List It}, InAll w S l → ∀ x ∈ l, x.In w S
  | y :: r, h, x, hx => by
    rcases List.mem_cons.1 hx with rfl | hx
    · exact h.1
    · exact inAll_mem h.2 x hx
theorem inAll_of {w : World} {S : Nat → Prop} : ∀ {l : List It}, (∀ x ∈ l, x.In w S) → InAll w S l
  | [], _ => trivial
  | y :: r, h => ⟨h y (by simp), inAll_of fun x hx => h x (by simp [hx])⟩
end It
theorem RowAt.same {w w' : World} {b o : Nat} {l : List It} (h : RowAt w b o l) (hb : w'.heap[b]? = w.heap[b]?) : RowAt w' b o l := fun j x hx => by
  have e : ∀ i, w'.cell? ⟨b, i, none⟩ = w.cell? ⟨b, i, none⟩ := fun i => World.cell?_of_block (w := w) (a := ⟨b, i, none⟩) hb
  rw [e, e, e, e]
  exact h j x hx
/-- What a change of the world asks of the blocks of S, to leave items as they are. -/
def KeptS (S T : Nat → Prop) (w w' : World) : Prop := (∀ b, S b → b < w.heap.size → T b ∧ w'.heap[b]? = w.heap[b]?) ∧ w.heap.size ≤ w'.heap.size
theorem Lies.kept {w w' : World} {S T : Nat → Prop} {a : Option Addr} {l : List It} (h : Lies w S a l) (hk : KeptS S T w w') : Lies w' T a l := ⟨h.1, fun hl => by
  obtain ⟨b, o, ha, hb, hs, hr⟩ := h.2 hl
  obtain ⟨h1, h2⟩ := hk.1 b hs hb
  exact ⟨b, o, ha, Nat.lt_of_lt_of_le hb hk.2, h1, hr.same h2⟩⟩
mutual
theorem It.In.kept {w w' : World} {S T : Nat → Prop} (hk : KeptS S T w w') : ∀ x : It, x.In w S → x.In w' T
  | .mk _ _ _ _ _ l, h => ⟨h.1, h.2.1.kept hk, It.InAll.kept hk l h.2.2⟩
theorem It.InAll.kept {w w' : World} {S T : Nat → Prop} (hk : KeptS S T w w') : ∀ l : List It, It.InAll w S l → It.InAll w' T l
  | [], _ => trivial
  | x :: r, h => ⟨It.In.kept hk x h.1, It.InAll.kept hk r h.2⟩
end
theorem keptS_below {B : Nat} {w w' : World} (h : Below B w w') : KeptS (· < B) (· < B) w w' := ⟨fun b hb _ => ⟨hb, h.block b hb⟩, h.size⟩
theorem keptS_any {w w' : World} {S : Nat → Prop} (h : Below w.heap.size w w') : KeptS S S w w' := ⟨fun b hs hb => ⟨hs, h.block b hb⟩, h.size⟩
/-- The item at a place, and its four cells. -/
theorem Lies.at {w : World} {S : Nat → Prop} {a : Option Addr} {l : List It} (h : Lies w S a l) {j : Nat} (hj : j < l.length) : ∃ b o x, a = some ⟨b, o, none⟩ ∧ b < w.heap.size ∧ S b ∧ l[j]? = some x ∧ x ∈ l ∧ w.cell? ⟨b, o + j * 4, none⟩ = some (.int .i64 x.k) ∧ w.cell? ⟨b, o + j * 4 + 1, none⟩ = some (.int .i64 x.n) ∧ w.cell? ⟨b, o + j * 4 + 2, none⟩ = some (.string x.s) ∧ w.cell? ⟨b, o + j * 4 + 3, none⟩ = some (.slice x.a x.l.length x.cap) := by
  obtain ⟨b, o, ha, hb, hs, hr⟩ := h.2 (fun e => by subst e; exact absurd hj (by simp))
  obtain ⟨c1, c2, c3, c4⟩ := hr j l[j] (List.getElem?_eq_getElem hj)
  exact ⟨b, o, l[j], ha, hb, hs, List.getElem?_eq_getElem hj, List.getElem_mem hj, c1, c2, c3, c4⟩
/-- The type of items: four cells. -/
theorem info24 : (Tryz.prog.info? 184).map (fun i => (i.zero, i.size, i.bytes)) = some (some (.agg #[.int .i64 0, .int .i64 0, .string ⟨#[]⟩, .slice none 0 0]), 4, 56) := by kernel_rfl
end Go.Proofs.YtdfkpjmljaanpaaGreatDoor
namespace Go.Proofs.YtdfkpjmljaanpaaGreatDoor
open Go.RowKit
open Cn
theorem ret_bool {a b : Bool} (h : a = b) : Ending.returned (.bool a) = .returned (.bool b) := by rw [h]
theorem c_toList_data (s : ByteArray) : s.toList = s.data.toList := ByteArray.toList_eq s
theorem toList_nil (s : ByteArray) : s.toList = [] ↔ s.size = 0 := by
  rw [c_toList_data]; exact ⟨fun h => by have := congrArg List.length h; simpa using this, fun h => List.eq_nil_of_length_eq_zero (by simpa using h)⟩
theorem mayAll_mem {d : Nat} : ∀ {l : List Pt}, mayAll l d = true → ∀ x ∈ l, may x d = true
  | y :: r, h, x, hx => by
    rw [mayAll, Bool.and_eq_true] at h
    rcases List.mem_cons.1 hx with rfl | hx
    · exact h.1
    · exact mayAll_mem h.2 x hx
theorem may1_eq (n : Int) (s : ByteArray) (l : List It) (d : Nat) : may (.mk 1 n s (It.pureAll l)) d = true ↔ (0 ≤ n ∧ n ≤ 72057594037927935 ∧ s.size = 0 ∧ l.length = 0) := by
  simp [may, It.pureAll_length, and_assoc]
theorem may2_eq (n : Int) (s : ByteArray) (l : List It) (d : Nat) : may (.mk 2 n s (It.pureAll l)) d = true ↔ (n = 0 ∧ s.size ≤ 65536 ∧ l.length = 0) := by
  simp [may, It.pureAll_length, and_assoc]
theorem may3_eq (n : Int) (s : ByteArray) (l : List It) (d : Nat) : may (.mk 3 n s (It.pureAll l)) d = true ↔ (n = 0 ∧ s.size = 0 ∧ l.length ≤ 1024 ∧ 0 < d ∧ mayAll (It.pureAll l) (d - 1) = true) := by
  simp [may, It.pureAll_length, and_assoc]
theorem may0_eq {k n : Int} {s : ByteArray} {l : List Pt} {d : Nat} (h1 : k ≠ 1) (h2 : k ≠ 2) (h3 : k ≠ 3) : may (.mk k n s l) d = false := by
  simp [may, h1, h2, h3]
set_option maxRecDepth 100000 in
set_option maxHeartbeats 400000 in
theorem mayBe_flat (x : It) (d : Nat) (w : World) (h3 : x.k ≠ 3) :
    Calls Tryz.prog 207 #[x.val, .int .i64 (6 - d)] w fun e w' => e = .returned (.bool (may x.pure d)) ∧ Below w.heap.size w w' := by
  obtain ⟨k, n, s, a, cap, l⟩ := x
  simp only [It.k] at h3
  simp only [It.val, It.cells, It.k, It.n, It.s, It.a, It.cap, It.l]
  have hB : ∀ o, Below w.heap.size w (w.alloc o) := fun o => (Below.refl _ _).alloc (Nat.le_refl _) o
  obtain ⟨M, hM⟩ : ∃ M, M = may (It.mk k n s a cap l).pure d := ⟨_, rfl⟩
  rw [← hM]
  have HM := Lib.hid (show M = may (.mk k n s (It.pureAll l)) d from hM)
  clear hM
  by_cases h1 : k = 1
  · subst h1
    go_enter Tryz.func207, Tryz.ntmps207
    go_wp2_with fail
    all_goals
      go_ret
      refine ⟨ret_bool ?_, hB _⟩
      rw [Bool.eq_iff_iff, HM.out, may1_eq]
      simp only [beq_iff_eq, Bool.false_eq_true, false_iff]
      first
        | (have hs := (toList_nil s).1 ‹s.toList = []›; omega)
        | (have hs : ¬ s.size = 0 := fun h => (‹¬ s.toList = []› : ¬ s.toList = []) ((toList_nil s).2 h); omega)
        | omega
  · by_cases h2 : k = 2
    · subst h2
      go_enter Tryz.func207, Tryz.ntmps207
      go_wp2_with fail
      all_goals
        go_ret
        refine ⟨ret_bool ?_, hB _⟩
        rw [Bool.eq_iff_iff, HM.out, may2_eq]
        simp only [beq_iff_eq, Bool.false_eq_true, false_iff]
        omega
    · go_enter Tryz.func207, Tryz.ntmps207
      go_wp2_with fail
      go_ret
      refine ⟨ret_bool ?_, hB _⟩
      rw [HM.out, may0_eq h1 h2 h3]
set_option maxRecDepth 100000 in
set_option maxHeartbeats 400000 in
theorem mayBe_list (x : It) (d : Nat) (hd : d ≤ 6) (S : Nat → Prop) (w : World) (h3 : x.k = 3) (hin : x.In w S)
    (ih : ∀ y ∈ x.l, ∀ d' w', d' ≤ 6 → y.In w' S → Calls Tryz.prog 207 #[y.val, .int .i64 (6 - (d' : Nat))] w' fun e w'' => e = .returned (.bool (may y.pure d')) ∧ Below w'.heap.size w' w'') :
    Calls Tryz.prog 207 #[x.val, .int .i64 (6 - d)] w fun e w' => e = .returned (.bool (may x.pure d)) ∧ Below w.heap.size w w' := by
  obtain ⟨k, n, s, a, cap, l⟩ := x
  simp only [It.k] at h3
  subst h3
  simp only [It.val, It.cells, It.k, It.n, It.s, It.a, It.cap, It.l]
  have hB : ∀ o, Below w.heap.size w (w.alloc o) := fun o => (Below.refl _ _).alloc (Nat.le_refl _) o
  obtain ⟨M, hM⟩ : ∃ M, M = may (It.mk 3 n s a cap l).pure d := ⟨_, rfl⟩
  rw [← hM]
  have HM := Lib.hid (show M = may (.mk 3 n s (It.pureAll l)) d from hM)
  clear hM
  have HI := Lib.hid (And.intro hin ih)
  clear hin ih
  by_cases hd0 : 0 < d
  · have hd6 : ((6 - (d : Int)) == 6) = false := by simp; omega
    by_cases hg : n = 0 ∧ s.toList = [] ∧ l.length ≤ 1024
    · obtain ⟨rfl, hs, hl⟩ := hg
      have hli : (l.length : Int) ≤ 1024 := by omega
      have hld : decide (1024 < (l.length : Int)) = false := decide_eq_false (by omega)
      have hM2 : M = mayAll (It.pureAll l) (d - 1) := by
        rw [HM.out]
        simp [may, It.pureAll_length, (toList_nil s).1 hs, hl, hd0]
      have HM2 := Lib.hid hM2
      clear hM2
      have hdi : (6 : Int) - d + 1 = 6 - ((d - 1 : Nat) : Int) := by omega
      have HDI := Lib.hid hdi
      clear hdi
      obtain ⟨N, hN⟩ : ∃ N, N = l.length := ⟨_, rfl⟩
      rw [← hN] at hli hld ⊢
      have HN := Lib.hid (And.intro hN hl)
      clear hN hl
      go_enter Tryz.func207, Tryz.ntmps207
      go_wp2_with fail
      have hb1 := hB (Obj.cells #[Value.int IntKind.i64 3, Value.int IntKind.i64 0, Value.string s, Value.slice a N cap] 184)
      generalize World.alloc w _ = w1 at *
      go_loopw [70] (fun c wr => ∃ i : Nat, i ≤ N ∧ c = .int .i64 i ∧ Below w.heap.size w wr ∧ mayAll (It.pureAll (l.take i)) (d - 1) = true) (fun c _ => N - (intOf c).toNat)
      case atStart => exact ⟨0, by omega, rfl, hb1, rfl⟩
      case round =>
        clear hb1
        obtain ⟨i, hi, rfl, hb, hall⟩ := hrel
        have HA := Lib.hid (And.intro hb hall)
        clear hb hall
        by_cases hlt : i < N
        · have hin := It.In.kept (keptS_any HA.out.1) _ HI.out.1
          have hil : i < l.length := by have := HN.out.1; omega
          obtain ⟨b, o, x, ha, hbl, -, hx, hmem, c0, c1, c2, c3⟩ := hin.2.1.at hil
          have ha' : a = some ⟨b, o, none⟩ := ha
          subst ha'
          clear ha
          have HX := Lib.hid (And.intro hx (And.intro hmem hin))
          clear hx hmem hin
          have ihx := HI.out.2 x HX.out.2.1 (d - 1)
          rw [← HDI.out] at ihx
          have hc := fun w' (h : Below wr.heap.size wr w') => ihx w' (by omega) (It.In.kept (keptS_any h) _ (It.inAll_mem HX.out.2.2.2.2 x HX.out.2.1))
          obtain ⟨p, hp⟩ : ∃ p, p = x.pure := ⟨_, rfl⟩
          rw [← hp] at hc
          have HX2 := Lib.hid hp
          clear ihx hp
          obtain ⟨xk, xn, xs, xa, xc, xl⟩ := x
          simp only [It.val, It.cells, It.k, It.n, It.s, It.a, It.cap, It.l] at hc c0 c1 c2 c3
          have HC := Lib.hid hc
          clear hc
          go_wp2_with fail
          refine (HC.out _ (((Below.refl _ _).alloc (Nat.le_refl _) _))).mono ?_
          rintro e w2 ⟨rfl, hb2⟩
          obtain ⟨m, hm⟩ : ∃ m, m = may p (d - 1) := ⟨_, rfl⟩
          rw [← hm]
          have HB := Lib.hid (And.intro hm hb2)
          clear hm hb2
          have hb3 : Below w.heap.size w w2 := HA.out.1.trans ((((Below.refl _ wr).alloc (Nat.le_refl _) _).trans (HB.out.2.mono (by simp))).mono HA.out.1.size)
          cases m with
          | true =>
            have HB3 := Lib.hid hb3
            clear hb3
            go_wp2_with fail
            go_roundw
            case rel =>
              refine ⟨i + 1, by omega, by go_num, HB3.out, ?_⟩
              rw [List.take_add_one, HX.out.1, It.pureAll_eq, Option.toList_some, List.map_append, mayAll_append, ← It.pureAll_eq, HA.out.2, List.map_cons, List.map_nil, mayAll, mayAll, ← HX2.out, ← HB.out.1]
              rfl
            case measure => simp [intOf]; omega
          | false =>
            have hMf : M = false := by
              rw [HM2.out, Bool.eq_false_iff]
              intro h
              have h2 := mayAll_mem h _ (by rw [It.pureAll_eq]; exact List.mem_map_of_mem HX.out.2.1)
              rw [← HX2.out, ← HB.out.1] at h2
              exact absurd h2 (by simp)
            have HB3 := Lib.hid (And.intro hb3 hMf)
            clear hb3 hMf
            go_wp2_with fail
            go_ret
            exact ⟨ret_bool HB3.out.2.symm, HB3.out.1⟩
        · obtain rfl : i = N := by omega
          have hMt : M = true := by
            rw [HM2.out]
            have := HA.out.2
            rw [HN.out.1, List.take_length] at this
            exact this
          have HMt := Lib.hid hMt
          clear hMt
          go_wp2_with fail
          go_ret
          exact ⟨ret_bool HMt.out.symm, HA.out.1⟩
    · go_enter Tryz.func207, Tryz.ntmps207
      go_wp2_with fail
      all_goals first
        | (exfalso; exact hg ⟨‹_›, ‹_›, by omega⟩)
        | (go_ret
           refine ⟨ret_bool ?_, hB _⟩
           rw [Bool.eq_iff_iff, HM.out, may3_eq]
           simp only [Bool.false_eq_true, false_iff]
           first
             | (have hs : ¬ s.size = 0 := fun h => (‹¬ s.toList = []› : ¬ s.toList = []) ((toList_nil s).2 h); omega)
             | omega)
  · obtain rfl : d = 0 := by omega
    go_enter Tryz.func207, Tryz.ntmps207
    go_wp2_with fail
    all_goals
      go_ret
      refine ⟨ret_bool ?_, hB _⟩
      rw [Bool.eq_iff_iff, HM.out, may3_eq]
      simp only [Bool.false_eq_true, false_iff]
      omega
theorem mayBe_any (S : Nat → Prop) : ∀ (N : Nat) (x : It), x.sz ≤ N → ∀ (d : Nat) (w : World), d ≤ 6 → x.In w S →
    Calls Tryz.prog 207 #[x.val, .int .i64 (6 - d)] w fun e w' => e = .returned (.bool (may x.pure d)) ∧ Below w.heap.size w w'
  | 0, x, hx, d, w, hd, hin => by rw [It.sz_eq] at hx; omega
  | N + 1, x, hx, d, w, hd, hin => by
    by_cases h3 : x.k = 3
    · exact mayBe_list x d hd S w h3 hin fun y hy d' w' hd' hin' => mayBe_any S N y (by have := It.sz_lt hy; omega) d' w' hd' hin'
    · exact mayBe_flat x d w h3
set_option maxRecDepth 100000 in
theorem ccheck_any (S : Nat → Prop) (x : It) (w : World) (hin : x.In w S) :
    Calls Tryz.prog 165 #[x.val] w fun e w' => e = .returned (.bool (may x.pure 6)) ∧ Below w.heap.size w w' := by
  have h := fun w' (hb : Below w.heap.size w w') => mayBe_any S x.sz x (Nat.le_refl _) 6 w' (by decide) (It.In.kept (keptS_any hb) x hin)
  have H := Lib.hid h
  clear h hin
  obtain ⟨k, n, s, a, cap, l⟩ := x
  simp only [It.val, It.cells, It.k, It.n, It.s, It.a, It.cap, It.l] at H ⊢
  go_enter Tryz.func165, Tryz.ntmps165
  go_wp2_with fail
  refine (H.out _ ((Below.refl _ _).alloc (Nat.le_refl _) _)).mono ?_
  rintro e w2 ⟨rfl, hb2⟩
  go_wp2_with fail
  go_ret
  exact ⟨rfl, ((Below.refl _ _).alloc (Nat.le_refl _) _).trans (hb2.mono (by simp))⟩
end Go.Proofs.YtdfkpjmljaanpaaGreatDoor
