/- errors.Is and api.Code: numbers of errors, and faults that wrap one. -/
import Derived.Test.YtnkkbinbeildmaaMB
import Derived.LaidEql
import Derived.Stop.Asserts
import Derived.RowKitTokens
namespace Go.Proofs.Ytnkkbinbeildmaa
open Go.RowKit Go.Extern.Stop Go.Stop Go.Extern
section
variable {P : Program} (w : World)
theorem run_equalIn_iface_int (d : Nat) {ti tn : TypeId} {ms : Array (String × TypeId)} {i : TypeInfo} {k : IntKind} (a b : Int)
    (hi : P.underlying ti = some (.interface ms)) (hn : P.underlying tn = some (.int k)) (hinfo : P.info? tn = some i) (hcomp : i.comparable = true) :
    (Op.equalIn (d + 2) ti (.iface tn (.int k a)) (.iface tn (.int k b))).run P w = .ok (a == b) w := by
  simp [Op.equalIn, run_underlying hi, run_underlying hn, typeInfo, hinfo, hcomp]
/-- 'x == y', both interface values of one integer type: as the numbers are. -/
theorem run_eql_iface_int {ti tn : TypeId} {ms : Array (String × TypeId)} {i : TypeInfo} {k : IntKind} (a b : Int)
    (hi : P.underlying ti = some (.interface ms)) (hn : P.underlying tn = some (.int k)) (hinfo : P.info? tn = some i) (hcomp : i.comparable = true) :
    (binOp .eql ti (.iface tn (.int k a)) (.iface tn (.int k b))).run P w = .ok (.bool (a == b)) w := by
  simp only [binOp]
  simp [Op.equal, Op.maxDepth, run_equalIn_iface_int w 9998 a b hi hn hinfo hcomp]
end
/-- A fault in memory. -/
def FaultAt (w : World) (b : Nat) (op : ByteArray) (n c : Int) : Prop := w.heap[b]? = some (.cells #[.string op, .int .i64 n, .iface 38 (.int .i64 c)] 111 (0, 0))
/-- An error: nil (0), or a fault in memory that wraps a number. -/
def ErrAt (w : World) (v : Value) (c : Int) : Prop :=
  (c = 0 ∧ v = .nilIface) ∨ (c ≠ 0 ∧ ∃ b op n, v = .iface 109 (.pointer (some ⟨b, 0, none⟩)) ∧ FaultAt w b op n c)
theorem FaultAt.lt {w : World} {b : Nat} {op : ByteArray} {n c : Int} (h : FaultAt w b op n c) : b < w.heap.size := (Array.getElem?_eq_some_iff.1 h).1
theorem FaultAt.below {w w' : World} {b : Nat} {op : ByteArray} {n c : Int} (h : FaultAt w b op n c) (hb : Below w.heap.size w w') : FaultAt w' b op n c := (hb.block b h.lt).trans h
theorem ErrAt.below {w w' : World} {v : Value} {c : Int} (h : ErrAt w v c) (hb : Below w.heap.size w w') : ErrAt w' v c := by
  rcases h with h | ⟨h, b, op, n, e, hf⟩
  · exact .inl h
  · exact .inr ⟨h, b, op, n, e, hf.below hb⟩
/-! What the assertions and the types say -/
theorem Try.erTypeOf (v : Value) (w : World) : (Extern.ReflectliteType.typeOf #[.iface 38 v]).run Try.prog w = .ok (.iface 129 (.agg #[typeHandle Try.prog 38])) w := by kernel_rfl
theorem Try.erComparable (w : World) : (callFunc 111 #[.agg #[typeHandle Try.prog 38]]).run Try.prog w = .ok (.value (.bool true)) w := by
  have h32 := @run_callFunc_extern Try.prog 111 _ (Extern.ReflectliteType.method fun t => do Extern.Rtype.noPackHeld "Comparable" t; pure (.bool (← typeInfo t).comparable)) Try.func111 (by kernel_rfl) (by kernel_rfl) (by kernel_rfl) (by kernel_rfl)
  exact (h32 _ w).trans (by kernel_rfl)
theorem Try.erMethodComparable (F : Nat) (v : Value) (w : World) : (Go.method (F + 1) 129 v "Comparable").run Try.prog w = .ok (111, v) w := by kernel_rfl
theorem Try.erComp : (Try.prog.info? 38).map (·.comparable) = some true := by kernel_rfl
theorem Try.noIsN (v : Value) (xT : TypeId) (w : World) : (Instr.typeAssert (.iface 38 v) xT 131 true).run Try.prog w = .ok (.tuple #[.nilIface, .bool false]) w := run_typeAssert_lacksB Try.underlying131 (by kernel_rfl) (by kernel_rfl) v xT w
theorem Try.noUnwrapN (v : Value) (xT : TypeId) (w : World) : (Instr.typeAssert (.iface 38 v) xT 134 true).run Try.prog w = .ok (.tuple #[.nilIface, .bool false]) w := run_typeAssert_lacksB Try.underlying134 (by kernel_rfl) (by kernel_rfl) v xT w
theorem Try.noUnwrapsN (v : Value) (xT : TypeId) (w : World) : (Instr.typeAssert (.iface 38 v) xT 136 true).run Try.prog w = .ok (.tuple #[.nilIface, .bool false]) w := run_typeAssert_lacksB Try.underlying136 (by kernel_rfl) (by kernel_rfl) v xT w
theorem Try.noIsF (v : Value) (xT : TypeId) (w : World) : (Instr.typeAssert (.iface 109 v) xT 131 true).run Try.prog w = .ok (.tuple #[.nilIface, .bool false]) w := run_typeAssert_lacksB Try.underlying131 (by kernel_rfl) (by kernel_rfl) v xT w
theorem Try.hasUnwrapF (v : Value) (xT : TypeId) (w : World) : (Instr.typeAssert (.iface 109 v) xT 134 true).run Try.prog w = .ok (.tuple #[.iface 109 v, .bool true]) w := run_typeAssert_hasB Try.underlying134 (by kernel_rfl) v xT w
theorem Try.methodUnwrapF (F : Nat) (v : Value) (w : World) : (Go.method (F + 1) 109 v "Unwrap").run Try.prog w = .ok (107, v) w := by kernel_rfl


/-- (*Fault).Unwrap. -/
theorem unwrap_any {w : World} {b : Nat} {op : ByteArray} {n c : Int} (h : FaultAt w b op n c) :
    Calls Try.prog 107 #[.pointer (some ⟨b, 0, none⟩)] w fun e w' => e = .returned (.iface 38 (.int .i64 c)) ∧ w' = w := by
  have h2 : w.cell? ⟨b, 2, none⟩ = some (.iface 38 (.int .i64 c)) := by simp [World.cell?, show w.heap[b]? = _ from h]
  clear h
  go_enter Try.func107, Try.ntmps107
  go_wp2_with fail
  go_ret
  exact ⟨rfl, rfl⟩
/-- errors.is, two numbers. -/
theorem isin_no (n k : Int) (w : World) :
    Calls Try.prog 66 #[.iface 38 (.int .i64 n), .iface 38 (.int .i64 k), .bool true] w fun e w' => e = .returned (.bool (n == k)) ∧ w' = w := by
  obtain ⟨i, hi, hcmp⟩ := Option.map_eq_some_iff.1 Try.erComp
  have nI := Try.noIsN
  have nU := Try.noUnwrapN
  have nV := Try.noUnwrapsN
  have heq := run_eql_iface_int (P := Try.prog) w n k Try.underlying29 Try.underlying38 hi hcmp
  cases hb : n == k with
  | true =>
    rw [hb] at heq
    go_enter Try.func66, Try.ntmps66
    go_wp2
    refine wp_loop_rounds 1 ?_
    rw [rounds_succ]
    go_wp2
    go_ret
    exact ⟨rfl, rfl⟩
  | false =>
    rw [hb] at heq
    go_enter Try.func66, Try.ntmps66
    go_wp2
    refine wp_loop_rounds 1 ?_
    rw [rounds_succ]
    go_wp2
    go_ret
    exact ⟨rfl, rfl⟩
set_option maxRecDepth 100000 in
/-- errors.is, a fault and a number. -/
theorem isin_fault {w : World} {b : Nat} {op : ByteArray} {n c : Int} (h : FaultAt w b op n c) (k : Int) :
    Calls Try.prog 66 #[.iface 109 (.pointer (some ⟨b, 0, none⟩)), .iface 38 (.int .i64 k), .bool true] w fun e w' => e = .returned (.bool (c == k)) ∧ w' = w := by
  obtain ⟨i, hi, hcmp⟩ := Option.map_eq_some_iff.1 Try.erComp
  have nI := Try.noIsN
  have nU := Try.noUnwrapN
  have nV := Try.noUnwrapsN
  have nF := Try.noIsF
  have uF := Try.hasUnwrapF
  have mF := Try.methodUnwrapF
  have h2 : w.cell? ⟨b, 2, none⟩ = some (.iface 38 (.int .i64 c)) := by simp [World.cell?, show w.heap[b]? = _ from h]
  have hty := run_eql_iface_types (P := Try.prog) 109 38 (.pointer (some ⟨b, 0, none⟩)) (.int .i64 k) Try.underlying29 (by decide) w
  have heq := run_eql_iface_int (P := Try.prog) w c k Try.underlying29 Try.underlying38 hi hcmp
  clear h
  cases hb : c == k with
  | true =>
    rw [hb] at heq
    go_enter Try.func66, Try.ntmps66
    go_wp2
    refine wp_loop_rounds 2 ?_
    rw [rounds_succ]
    go_wp2
    rw [rounds_succ]
    go_wp2
    go_ret
    exact ⟨rfl, rfl⟩
  | false =>
    rw [hb] at heq
    go_enter Try.func66, Try.ntmps66
    go_wp2
    refine wp_loop_rounds 2 ?_
    rw [rounds_succ]
    go_wp2
    rw [rounds_succ]
    go_wp2
    go_ret
    exact ⟨rfl, rfl⟩
set_option maxRecDepth 100000 in
/-- errors.Is, two numbers; a fault and a number. -/
theorem is_no (n : Int) {w : World} (k : Int) :
    Calls Try.prog 42 #[.iface 38 (.int .i64 n), .iface 38 (.int .i64 k)] w fun e w' => e = .returned (.bool (n == k)) ∧ w' = w := by
  have h8 := @run_callFunc_extern Try.prog 65 _ Extern.ReflectliteType.typeOf Try.func65 (by kernel_rfl) (by kernel_rfl) (by kernel_rfl) (by kernel_rfl)
  have tT := Try.erTypeOf
  have cT := Try.erComparable
  have mR := Try.erMethodComparable
  go_enter Try.func42, Try.ntmps42
  go_wp2_with fail
  refine (isin_no _ _ _).mono ?_
  rintro e w1 ⟨rfl, rfl⟩
  go_wp2
  go_ret
  exact ⟨rfl, rfl⟩
set_option maxRecDepth 100000 in
theorem is_fault {w : World} {b : Nat} {op : ByteArray} {n c : Int} (h : FaultAt w b op n c) (k : Int) :
    Calls Try.prog 42 #[.iface 109 (.pointer (some ⟨b, 0, none⟩)), .iface 38 (.int .i64 k)] w fun e w' => e = .returned (.bool (c == k)) ∧ w' = w := by
  have h8 := @run_callFunc_extern Try.prog 65 _ Extern.ReflectliteType.typeOf Try.func65 (by kernel_rfl) (by kernel_rfl) (by kernel_rfl) (by kernel_rfl)
  have tT := Try.erTypeOf
  have cT := Try.erComparable
  have mR := Try.erMethodComparable
  go_enter Try.func42, Try.ntmps42
  go_wp2_with fail
  refine (isin_fault h _).mono ?_
  rintro e w1 ⟨rfl, rfl⟩
  go_wp2
  go_ret
  exact ⟨rfl, rfl⟩
set_option maxRecDepth 100000 in
theorem is_nil (k : Int) (w : World) :
    Calls Try.prog 42 #[.nilIface, .iface 38 (.int .i64 k)] w fun e w' => e = .returned (.bool false) ∧ w' = w := by
  have hn := run_eql_iface_nil_left (P := Try.prog) w 38 (.int .i64 k) Try.underlying29
  go_enter Try.func42, Try.ntmps42
  go_wp2
  go_ret
  exact ⟨rfl, rfl⟩
/-- errors.Is, an error of any kind and a number that is not 0. -/
theorem is_any {w : World} {v : Value} {c : Int} (h : ErrAt w v c) (k : Int) (hk : k ≠ 0) :
    Calls Try.prog 42 #[v, .iface 38 (.int .i64 k)] w fun e w' => e = .returned (.bool (c == k)) ∧ w' = w := by
  rcases h with ⟨rfl, rfl⟩ | ⟨hc, b, op, n, rfl, hf⟩
  · rw [show ((0 : Int) == k) = false by simpa using fun e : (0 : Int) = k => hk e.symm]
    exact is_nil k w
  · exact is_fault hf k
set_option maxRecDepth 100000 in
theorem code_nil (w : World) : Calls Try.prog 16 #[.nilIface] w fun e w' => e = .returned (.int .i64 0) ∧ w' = w := by
  go_enter Try.func16, Try.ntmps16
  go_wp2_with fail
  go_ret
  exact ⟨rfl, rfl⟩
set_option maxRecDepth 100000 in
theorem code_fault {w : World} {b : Nat} {op : ByteArray} {n c : Int} (h : FaultAt w b op n c) (h0 : 1 ≤ c) (h1 : c ≤ 13) :
    Calls Try.prog 16 #[.iface 109 (.pointer (some ⟨b, 0, none⟩))] w fun e w' => e = .returned (.int .i64 c) ∧ w' = w := by
  have hi := fun k => is_fault h k
  have H := Lib.hid hi
  clear hi h
  go_enter Try.func16, Try.ntmps16
  go_wp2_with fail
  go_loopw [3] (fun v wr => ∃ k : Int, 1 ≤ k ∧ k ≤ c ∧ v = .int .i64 k ∧ wr = w) (fun v _ => (14 - intOf v).toNat)
  case atStart => exact ⟨1, by omega, by omega, rfl, rfl⟩
  case round =>
    obtain ⟨k, hk0, hk, rfl, rfl⟩ := hrel
    have g13 : k ≤ 13 := by omega
    by_cases e : c = k
    · have hb : (c == k) = true := by simpa using e
      go_wp2_with fail
      refine (H.out k).mono ?_
      rintro e2 w1 ⟨rfl, rfl⟩
      rw [hb]
      clear hb
      go_wp2_with fail
      go_ret
      exact ⟨by rw [e]; rfl, rfl⟩
    · have hb : (c == k) = false := by simpa using e
      go_wp2_with fail
      refine (H.out k).mono ?_
      rintro e2 w1 ⟨rfl, rfl⟩
      rw [hb]
      clear hb
      go_wp2_with fail
      go_roundw
      case rel => exact ⟨k + 1, by omega, by omega, by go_num, by first | rfl | trivial⟩
      case measure => simp [intOf]; omega
theorem code_any {w : World} {v : Value} {c : Int} (h : ErrAt w v c) (h0 : 0 ≤ c) (h1 : c ≤ 13) :
    Calls Try.prog 16 #[v] w fun e w' => e = .returned (.int .i64 c) ∧ w' = w := by
  rcases h with ⟨rfl, rfl⟩ | ⟨hc, b, op, n, rfl, hf⟩
  · exact code_nil w
  · exact code_fault hf (by omega) h1
end Go.Proofs.Ytnkkbinbeildmaa
