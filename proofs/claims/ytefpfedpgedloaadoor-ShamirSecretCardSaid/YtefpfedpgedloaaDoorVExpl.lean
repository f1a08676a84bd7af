/- shamir.Explain. -/
import Derived.Test.YtefpfedpgedloaaDoorVMath
import Derived.Test.YtefpfedpgedloaaDoorVAlike2
import Derived.Test.YtefpfedpgedloaaDoorVThrough
import Derived.Test.YtefpfedpgedloaaDoorVOrder
import Derived.Test.YtefpfedpgedloaaDoorVRefs
import Derived.Test.YtefpfedpgedloaaDoorBytesB
namespace Go.Proofs.YtefpfedpgedloaaDoor
open Go.RowKit
open Gf

theorem val_at0 (c : UInt8) (l : List UInt8) : val (c :: l) 0 = c := by
  show c ^^^ mul 0 _ = c
  rw [zero_mul, UInt8.xor_zero]

/-- The secret, and the shares. -/
def whole (o : ByteArray) (l : List Shr) : List Shr := ⟨0, 0, o⟩ :: l
/-- The bytes that explain. -/
def expl (m n : Nat) (w : List Shr) : ByteArray := str ((List.range (n * m)).map fun t => co (pol (t % m) w).data.toList (t / m + 1))
theorem expl_size (m n : Nat) (w : List Shr) : (expl m n w).size = n * m := by unfold expl; rw [str_size]; simp
theorem co_expl {m n : Nat} {w : List Shr} {i k : Nat} (hi : i < m) (hk : k < n) : co (expl m n w).data.toList (i + k * m) = co (pol i w).data.toList (k + 1) := by
  have h1 : (k + 1) * m ≤ n * m := Nat.mul_le_mul (by omega) (Nat.le_refl m)
  rw [Nat.add_mul, Nat.one_mul] at h1
  unfold expl
  rw [str_data, co_range _ _ _ (by omega), Nat.add_mul_mod_self_right, Nat.mod_eq_of_lt hi, Nat.add_mul_div_right _ _ (by omega), Nat.div_eq_of_lt hi, Nat.zero_add]
theorem co_beyond {l : List UInt8} {j : Nat} (h : l.length ≤ j) : co l j = 0 := by unfold co; rw [List.getD_eq_getElem?_getD, List.getElem?_eq_none h]; rfl
section
variable {o : ByteArray} {n m : Nat} {need : Int} {l : List Shr}
theorem whole_bys (h : Alk need m l) : (bys (whole o l)).Nodup := by
  refine bys_nodup (fun u hu => ?_) ?_
  · rcases List.mem_cons.1 hu with rfl | hu
    · exact ⟨Int.le_refl _, by show (0 : Int) ≤ 255; decide⟩
    · have := (okS_iff.1 (h.ok u hu)).1; omega
  · unfold whole
    rw [List.map_cons, List.nodup_cons]
    refine ⟨fun hm => ?_, h.unlike⟩
    obtain ⟨u, hu, e⟩ := List.mem_map.1 hm
    have := (okS_iff.1 (h.ok u hu)).1
    have e' : u.x = 0 := e
    omega
theorem whole_goes (h : Alk need m l) (hl : l.length = n) (hn : n ≤ 254) (i : Nat) : Goes (n + 1) i (pol i (whole o l)) (whole o l) := by
  have := pol_goes (whole_bys (o := o) h) (by unfold whole; rw [List.length_cons]; omega) i
  rwa [show (whole o l).length = n + 1 by unfold whole; rw [List.length_cons, hl]] at this
theorem val_hide (h : Alk need m l) (hl : l.length = n) (hn : n ≤ 254) (ho : o.size = m) {i : Nat} (hi : i < m) (x : UInt8) :
    val (hideL o (expl m n (whole o l)) i n) x = valB (pol i (whole o l)) x := by
  have hg := whole_goes (o := o) h hl hn i
  have h0 : co (pol i (whole o l)).data.toList 0 = co o.data.toList i := by
    have h1 := hg.2 ⟨0, 0, o⟩ (by unfold whole; simp)
    rw [← h1]
    show _ = val _ 0
    cases hp : (pol i (whole o l)).data.toList with
    | nil => rfl
    | cons c p => rw [val_at0]; rfl
  refine val_same (fun j => ?_) x
  cases j with
  | zero => rw [h0]; rfl
  | succ j =>
    show co ((List.range n).map fun k => co (expl m n (whole o l)).data.toList (i + k * o.size)) j = _
    by_cases hj : j < n
    · rw [co_range _ _ _ hj, ho, co_expl hi hj]
    · rw [co_beyond (by simp; omega), co_beyond (by rw [data_len]; have := hg.1; omega)]
theorem expl_share (h : Alk need m l) (hl : l.length = n) (hn : n ≤ 254) (ho : o.size = m) {t : Shr} (ht : t ∈ l) : shY o (expl m n (whole o l)) n (bx t.x) = t.y := by
  have e : ((List.range o.size).map fun i => val (hideL o (expl m n (whole o l)) i n) (bx t.x)) = t.y.data.toList := by
    have hz := h.size t ht
    apply List.ext_getElem?
    intro i
    by_cases hi : i < m
    · rw [List.getElem?_map, List.getElem?_range (by omega)]
      show some (val (hideL o _ i n) _) = _
      rw [val_hide h hl hn ho hi, (whole_goes (o := o) h hl hn i).2 t (by unfold whole; simp [ht])]
      unfold co
      rw [List.getD_eq_getElem?_getD, List.getElem?_eq_getElem (by rw [data_len]; omega)]; rfl
    · rw [List.getElem?_eq_none (by simp; omega), List.getElem?_eq_none (by rw [data_len]; omega)]
  unfold shY
  rw [e]
  exact str_of _
end
/-- The run of shares from one on. -/
def runS (l : List Shr) (f n : Nat) : List Shr := (l.drop f).take n
theorem runS_sub (l : List Shr) (f n : Nat) : (runS l f n).Sublist l := (List.take_sublist _ _).trans (List.drop_sublist _ _)
theorem runS_length {l : List Shr} {f n : Nat} (h : f + n ≤ l.length) : (runS l f n).length = n := by unfold runS; rw [List.length_take, List.length_drop]; omega
theorem runS_get {l : List Shr} {f n j : Nat} (h : j < n) : (runS l f n)[j]? = l[f + j]? := by
  unfold runS; rw [List.getElem?_take, if_pos h, List.getElem?_drop]
theorem expl_may {s d o : ByteArray} {need : Int} {N : Nat} (h : mayP s d need N = true) (ho : o.size = s.size) (w : List Shr) : mayP o (expl s.size (need.toNat - 1) w) need N = true := by
  have hpm := mayP_iff.1 h
  rw [mayP_iff, ho, expl_size]
  refine ⟨hpm.1, hpm.2.1, hpm.2.2.1, hpm.2.2.2.1, ?_⟩
  rw [Int.natCast_mul]
  congr 1
  have := hpm.2.1
  omega
theorem expl_run {s d o : ByteArray} {need : Int} {N f : Nat} (h : mayP s d need N = true) (ho : o.size = s.size) (hf : f + (need.toNat - 1) ≤ N) :
    runS (splt o (expl s.size (need.toNat - 1) (whole o (runS (splt s d need N) f (need.toNat - 1)))) need N) f (need.toNat - 1) = runS (splt s d need N) f (need.toNat - 1) := by
  have hpm := mayP_iff.1 h
  have hA := (splt_alk h).sub (runS_sub (splt s d need N) f (need.toNat - 1))
  have hl := runS_length (l := splt s d need N) (f := f) (n := need.toNat - 1) (by rw [splt_length]; exact hf)
  apply List.ext_getElem?
  intro j
  by_cases hj : j < need.toNat - 1
  · rw [runS_get hj, runS_get hj, splt_get (by omega), splt_get (by omega)]
    have hm : (⟨((f + j : Nat) : Int) + 1, need, shY s d (need.toNat - 1) (bx (((f + j : Nat) : Int) + 1))⟩ : Shr) ∈ runS (splt s d need N) f (need.toNat - 1) :=
      List.mem_of_getElem? (i := j) (by rw [runS_get hj, splt_get (by omega)])
    have e := expl_share (o := o) hA hl (by omega) ho hm
    simp only at e
    rw [e]
  · rw [List.getElem?_eq_none (by rw [runS_length (by rw [splt_length]; exact hf)]; omega), List.getElem?_eq_none (by rw [hl]; omega)]
/-- The bytes that explain, as far as column i, row j. -/
def drS (m M : Nat) (w : List Shr) (i j : Nat) : List UInt8 := (List.range M).map fun t => if t % m < i ∨ (t % m = i ∧ t / m + 1 < j) then co (pol (t % m) w).data.toList (t / m + 1) else 0
theorem drS_length (m M : Nat) (w : List Shr) (i j : Nat) : (drS m M w i j).length = M := by simp [drS]
theorem drS_start (m M : Nat) (w : List Shr) : drS m M w 0 1 = List.replicate M 0 := by
  unfold drS
  apply List.ext_getElem?
  intro t
  by_cases ht : t < M
  · rw [List.getElem?_map, List.getElem?_range ht, List.getElem?_replicate_of_lt ht]
    show some (if _ then _ else _) = _
    rw [if_neg (fun h => by generalize t % m = a at h; generalize t / m = b at h; omega)]
  · rw [List.getElem?_eq_none (by simp; omega), List.getElem?_eq_none (by simp; omega)]
theorem drS_set {m M : Nat} {w : List Shr} {i j r : Nat} (hi : i < m) (h1 : 1 ≤ j) (hr : r = (j - 1) * m + i) (hM : r < M) : (drS m M w i j).set r (co (pol i w).data.toList j) = drS m M w i (j + 1) := by
  have e1 : r % m = i := by rw [hr, Nat.add_comm, Nat.add_mul_mod_self_right, Nat.mod_eq_of_lt hi]
  have e2 : r / m = j - 1 := by rw [hr, Nat.add_comm, Nat.add_mul_div_right _ _ (by omega), Nat.div_eq_of_lt hi, Nat.zero_add]
  apply List.ext_getElem?
  intro t
  by_cases ht : t < M
  · unfold drS
    by_cases e : r = t
    · subst e
      rw [List.getElem?_set_self (by simpa using hM), List.getElem?_map, List.getElem?_range ht]
      show _ = some (if _ then _ else _)
      rw [if_pos (.inr ⟨e1, by omega⟩), e1, e2, show j - 1 + 1 = j by omega]
    · rw [List.getElem?_set_ne e, List.getElem?_map, List.getElem?_map, List.getElem?_range ht]
      show some (if _ then _ else _) = some (if _ then _ else _)
      have hne : ¬ (t % m = i ∧ t / m = j - 1) := fun h => e (by rw [hr, ← Nat.div_add_mod t m, h.1, h.2, Nat.mul_comm])
      by_cases hc : t % m < i ∨ (t % m = i ∧ t / m + 1 < j)
      · rw [if_pos hc, if_pos (by generalize t % m = a at hc ⊢; generalize t / m = b at hc ⊢; omega)]
      · rw [if_neg hc, if_neg (by generalize t % m = a at hc hne ⊢; generalize t / m = b at hc hne ⊢; omega)]
  · rw [List.getElem?_eq_none (by rw [List.length_set, drS_length]; omega), List.getElem?_eq_none (by rw [drS_length]; omega)]
theorem drS_end {m M : Nat} {w : List Shr} {i j : Nat} (_ : 1 ≤ j) (h : (pol i w).size ≤ j) : drS m M w i j = drS m M w (i + 1) 1 := by
  unfold drS
  refine List.map_congr_left fun t _ => ?_
  by_cases hc : t % m < i ∨ (t % m = i ∧ t / m + 1 < j)
  · rw [if_pos hc, if_pos (by generalize t % m = a at hc ⊢; generalize t / m = b at hc ⊢; omega)]
  · rw [if_neg hc]
    by_cases hd : t % m < i + 1 ∨ (t % m = i + 1 ∧ t / m + 1 < 1)
    · rw [if_pos hd]
      have hti : t % m = i ∧ j ≤ t / m + 1 := by generalize t % m = a at hc hd ⊢; generalize t / m = b at hc hd ⊢; omega
      rw [hti.1, co_beyond (by rw [data_len]; exact Nat.le_trans h hti.2)]
    · rw [if_neg hd]
theorem drS_all {m n : Nat} (w : List Shr) (hm : 0 < m) : str (drS m (n * m) w m 1) = expl m n w := by
  unfold drS expl
  congr 1
  refine List.map_congr_left fun t _ => ?_
  rw [if_pos (.inl (Nat.mod_lt _ hm))]

theorem wpList_append_shares {ops : Array Oper} {rest : List Oper} {o : Oper} {act : Act} {Q : Exit → Act → World → Prop} {w w0 : World} (hgd : o.guard = none) (s x : Operand)
    (ho : o.op = .call { callee := .builtin .append, args := #[s, x], argTypes := #[25, 25] })
    {B : Nat} {a : Option Addr} {cap : Nat} {l : List Shr} (hown : OwnS 41 B w a cap l) (n : Nat) (hn : l.length = n) (hs : act.eval s = .slice a n cap)
    (b off c' n2 : Nat) (l2 : List Shr) (hn2 : l2.length = n2) (hx : act.eval x = .slice (some ⟨b, off, none⟩) n2 c') (h2 : SharesAt w (some ⟨b, off, none⟩) l2)
    (hpos : 0 < n2) (hlen : n + n2 < 100000000) (hbase : B ≤ w.heap.size) (hb0 : Below B w0 w)
    (h : ∀ g cap w', OwnS 41 B w' (some ⟨g, 0, none⟩) cap (l ++ l2) → Below B w0 w' → w.heap.size ≤ w'.heap.size → wpList Tryd.prog ops Q rest (act.put o.dst (.slice (some ⟨g, 0, none⟩) (n + n2) cap)) w') : wpList Tryd.prog ops Q (o :: rest) act w := by
  subst hn hn2
  obtain ⟨i0, hi0, hz0, hz1, hz2⟩ := info_parts Tryd.info_shr
  refine wpList_append_src hgd s x 25 25 ho 41 i0 (.agg #[.int .i64 0, .int .i64 0, .string ⟨#[]⟩]) 3 32 Tryd.underlying25 hi0 hz0 hz1 hz2 rfl (.slice a l.length cap) l.length (shs l) hs hown.1 (.slice (some ⟨b, off, none⟩) l2.length c') l2.length (shs l2) hx
    (Src.ofSlice w Tryd.underlying25 ⟨b, off, none⟩ l2.length c' (shs l2) (shs_length l2) h2.news (shs_one l2)) (by omega) (by omega) (fun ad cap' w' h1 h2 h3 => ?_)
  rcases own_form h1 with ⟨-, h0, -⟩ | ⟨g', rfl, -, -⟩
  · omega
  · refine h g' cap' w' ⟨?_, fun k hk => ?_⟩ ?_ h2.size
    · rw [shs_append, List.length_append]; exact h1
    · have hk' : g' = k := by simpa [Value.ownBlock] using hk
      rcases h3 g' rfl with e | ⟨e, -⟩
      · have := hown.2 g' e; omega
      · omega
    · exact hb0.grown h2 hbase (fun k hk => hown.2 k hk)
/-- What stands while the bytes are filled in. -/
structure ExS (w : World) (gd gx M cp : Nat) (L : List UInt8) (ps : List ByteArray) (W : World) : Prop where
  dr : OwnB w.heap.size W (some ⟨gd, 0, none⟩) M L
  xs : OwnX w.heap.size W (some ⟨gx, 0, none⟩) cp ps
  below : Below w.heap.size w W
theorem ExS.put {w W : World} {gd gx M cp : Nat} {L : List UInt8} {ps : List ByteArray} (h : ExS w gd gx M cp L ps W) (hg : gd ≠ gx) (hB : w.heap.size ≤ gd) (j : Nat) (c : UInt8) : ExS w gd gx M cp (L.set j c) ps (W.setCell ⟨gd, j, none⟩ (.int .u8 (c.toNat : Int))) :=
  ⟨h.dr.put j c, h.xs.other j _ hg, below_put h.below hB j _⟩
/-- A share that was just laid. -/
theorem own_lit (w : World) (o : ByteArray) : OwnS 41 w.heap.size (w.alloc (.cells #[.int .i64 0, .int .i64 0, .string o] 41)) (some ⟨w.heap.size, 0, none⟩) 1 [⟨0, 0, o⟩] := by
  refine ⟨World.ownsRow_lit (base := 0) (e := 41) (size := 3) w #[.int .i64 0, .int .i64 0, .string o] 1 (Nat.zero_le _) (by unfold maxLen; omega) rfl, fun g hg => ?_⟩
  have hg' : w.heap.size = g := by simpa [Value.ownBlock] using hg
  omega
set_option maxRecDepth 100000 in
set_option maxHeartbeats 1000000 in
theorem explain_any {w : World} {a0 : Option Addr} {l : List Shr} (hT : SharesAt w a0 l) {need : Int} {m n : Nat} (hA : Alk need m l) (hl : l.length = n) (hn : 1 ≤ n) (hn2 : n ≤ 11) (hneed : need = (n : Int) + 1) (o : ByteArray) (ho : o.size = m) (hm1 : 1 ≤ m) (hm : m ≤ 64) (cap : Nat) :
    Calls Tryd.prog 19 #[.slice a0 n cap, .string o] w fun e w' => e = .returned (.tuple #[.string (expl m n (whole o l)), .int .i64 0]) ∧ Below w.heap.size w w' := by
  have hal := alike_any hT (by omega) (fun s hs => by rw [hA.size s hs]; unfold maxLen; omega) cap
  rw [hA.alk, hl] at hal
  obtain ⟨s0, hs0⟩ : ∃ s, l[0]? = some s := ⟨_, List.getElem?_eq_getElem (by omega)⟩
  have hs0m : s0 ∈ l := List.mem_of_getElem? hs0
  have hsn : s0.need = need := hA.need s0 hs0m
  have hsy : (s0.y.size : Int) = (m : Int) := by have := hA.size s0 hs0m; omega
  obtain ⟨b, off, rfl, hbl, c0, c1, c2⟩ := hT 0 s0 hs0
  rw [hsn, hneed] at c1
  rw [Nat.zero_mul, Nat.add_zero] at c0 c1 c2
  have hos : (o.size : Int) = (m : Int) := by omega
  have hn1i : (1 : Int) ≤ n := by omega
  have hn2i : (n : Int) ≤ 11 := by omega
  have hn0 : ((n : Int) == 0) = false := by rw [beq_eq_false_iff_ne]; omega
  obtain ⟨M, hM⟩ : ∃ M : Nat, M = n * m := ⟨_, rfl⟩
  have hMm : (n : Int) * (m : Int) = (M : Int) := by rw [hM]; exact (Int.natCast_mul _ _).symm
  have hM2 : M ≤ 11 * 64 := by rw [hM]; exact Nat.mul_le_mul hn2 hm
  have hwm : IntKind.i64.wrap ((n : Int) * (m : Int)) = (M : Int) := by rw [hMm]; exact IntWalk.i64_in _ (by omega)
  have H := Lib.hid (And.intro hT (And.intro hA (And.intro hl (And.intro hal (And.intro hM (And.intro ho hs0))))))
  clear hT hA hl hal hM hs0 hs0m ho hsn
  go_enter Tryd.func19, Tryd.ntmps19
  go_wp2_with fail
  refine H.out.2.2.2.1.mono ?_
  rintro e w1 ⟨rfl, hb1⟩
  have p1 : w1.cell? ⟨b, off + 1, none⟩ = some (.int .i64 ((n : Int) + 1)) := (hb1.cell (p := ⟨b, off + 1, none⟩) hbl).trans c1
  have p2 : w1.cell? ⟨b, off + 2, none⟩ = some (.string s0.y) := (hb1.cell (p := ⟨b, off + 2, none⟩) hbl).trans c2
  obtain ⟨w2, hmk, hod, hb2⟩ := make_bytes w1 M (by omega)
  have hsz1 := hb1.size
  have H2 := Lib.hid (And.intro hb1 (And.intro hod (And.intro hb2 (hb1.trans (hb2.mono hsz1)))))
  clear hb1 hod hb2 c0 c1 c2
  have hsz2 := H2.out.2.2.2.size
  go_wp2_with (at_builtin; (refine wpList_append_shares (w0 := w2) rfl (.tmp 47) (.tmp 48) rfl (own_lit w2 o) 1 rfl rfl b off cap n l H.out.2.2.1 rfl ((H.out.1.below H2.out.2.2.2).below ((Below.refl _ _).alloc (Nat.le_refl _) _)) (by omega) (by omega) (by simp) ((Below.refl _ _).alloc (Nat.le_refl _) _) ?_; intro g3 cp3 w3 ho3 hb3 hz3; have H3 := Lib.hid (And.intro ho3 (And.intro hb3 hz3)); clear ho3 hb3 hz3))
  have hwl : (whole o l).length = 1 + n := by unfold whole; rw [List.length_cons, H.out.2.2.1]; omega
  have hth := through_shares (l := whole o l) H3.out.1.at (by omega) (by omega) m (fun u hu => by
    rcases List.mem_cons.1 hu with rfl | hu
    · exact H.out.2.2.2.2.2.1
    · exact H.out.2.1.size u hu) hm cp3
  rw [hwl] at hth
  have HT := Lib.hid hth
  clear hth hwl
  refine HT.out.mono ?_
  rintro e w4 ⟨a4, cp4, rfl, ho4, hb4⟩
  obtain ⟨gx, rfl, hgxB, hgxl, -, -⟩ := ho4.addr (by rw [polys_length]; omega)
  have hb24 := H3.out.2.1.trans (hb4.mono H3.out.2.1.size)
  have hbw4 := H2.out.2.2.2.trans (hb24.mono hsz2)
  have hz12 := H2.out.2.2.1.size
  have hdl : w1.heap.size < w2.heap.size := H2.out.2.1.size.2
  have hgne : w1.heap.size ≠ gx := by have := H3.out.2.1.size; omega
  have hE : ExS w w1.heap.size gx M cp4 (drS m M (whole o l) 0 1) (polys m (whole o l)) w4 := by
    rw [drS_start]
    exact ⟨OwnB.base (H2.out.2.1.call hb24) hsz1, Own.mono ho4 (by have := H3.out.2.1.size; omega), hbw4⟩
  have H4 := Lib.hid hE
  clear hE ho4 hb4 hb24 hbw4 p1 p2 hz12
  go_wp2_with fail
  go_loopw [53, 8, 9, 10] (fun c _ _ _ wr => ∃ i : Nat, i ≤ m ∧ c = .int .i64 (i : Int) ∧ ExS w w1.heap.size gx M cp4 (drS m M (whole o l) i 1) (polys m (whole o l)) wr) (fun c _ _ _ _ => m - (intOf c).toNat)
  case atStart => exact ⟨0, by omega, rfl, H4.out⟩
  case round =>
    clear H4
    obtain ⟨i, hi, rfl, hE⟩ := hrel
    by_cases hlt : i < m
    · obtain ⟨W0, hW0⟩ : ∃ W0, W0 = wr := ⟨_, rfl⟩
      subst hW0
      obtain ⟨P, hP⟩ : ∃ P, P = pol i (whole o l) := ⟨_, rfl⟩
      have hPs : P.size ≤ n + 1 := by rw [hP]; exact (whole_goes (o := o) H.out.2.1 H.out.2.2.1 (by omega) i).1
      have hpc : W0.cell? ⟨gx, i, none⟩ = some (.string P) := by
        rw [Own.cell hE.xs (j := i) (by rw [polys_length]; omega), hP]
        unfold tcells polys
        rw [List.getElem?_map, List.getElem?_map, List.getElem?_range hlt]; rfl
      have HE := Lib.hid (And.intro hE (And.intro hP hPs))
      clear hE hP
      have hPm : P.size ≤ 1000 := by omega
      go_wp2_with fail
      go_loopw [10] (fun c wr => ∃ j : Nat, 1 ≤ j ∧ (j = 1 ∨ j ≤ P.size) ∧ c = .int .i64 (j : Int) ∧ ExS w w1.heap.size gx M cp4 (drS m M (whole o l) i j) (polys m (whole o l)) wr) (fun c _ => 2000 - (intOf c).toNat)
      case atStart => exact ⟨1, by omega, .inl rfl, rfl, HE.out.1⟩
      case round =>
        obtain ⟨j, hj1, hjP, rfl, hE⟩ := hrel
        by_cases hjl : j < P.size
        · obtain ⟨c, hc⟩ : ∃ c, c = P[j] := ⟨_, rfl⟩
          have hcc : c = co (pol i (whole o l)).data.toList j := by rw [← HE.out.2.1, co_at P j hjl, hc]
          obtain ⟨q, hq⟩ : ∃ q : Nat, q = (j - 1) * m := ⟨_, rfl⟩
          have hqi : ((j : Int) - 1) * (m : Int) = (q : Int) := by rw [hq, Int.natCast_mul]; congr 1; omega
          have hq1 : q + m ≤ M := by
            have h1 : (j - 1 + 1) * m ≤ n * m := Nat.mul_le_mul (by omega) (Nat.le_refl m)
            rw [Nat.add_mul, Nat.one_mul, ← hq] at h1
            have := H.out.2.2.2.2.1
            omega
          have hset := drS_set (w := whole o l) (M := M) (r := q + i) hlt hj1 (by rw [hq]) (by omega)
          have hput := hE.put hgne hsz1 (q + i) c
          rw [hcc, hset, ← hcc] at hput
          have hdc := hE.dr.cellAt (q + i) (by rw [drS_length]; omega)
          have hdf := hE.dr.frozenAt (q + i)
          have hwq : IntKind.i64.wrap (((j : Int) - 1) * (m : Int)) = (q : Int) := by rw [hqi]; exact IntWalk.i64_in _ (by omega)
          have HQ := Lib.hid hput
          clear hput hset hE hcc hq
          go_wp2_with fail
          go_roundw
          case rel => exact ⟨j + 1, by omega, by omega, by go_num, by have h := HQ.out; rw [hc] at h; exact h⟩
          case measure => simp [intOf]; omega
        · have hend := drS_end (m := m) (M := M) (w := whole o l) (i := i) hj1 (by rw [← HE.out.2.1]; omega)
          rw [hend] at hE
          have HQ := Lib.hid hE
          clear hE hend
          go_wp2_with fail
          go_roundw
          case rel => exact ⟨i + 1, by omega, by go_num, HQ.out⟩
          case measure => simp [intOf]; omega
    · obtain rfl : i = m := by omega
      have hcv := hE.dr.conv
      rw [drS_length, H.out.2.2.2.2.1, drS_all _ (by omega), ← H.out.2.2.2.2.1] at hcv
      have HQ := Lib.hid hE.below
      clear hE
      go_wp2_with fail
      go_ret2
      exact ⟨rfl, HQ.out⟩
end Go.Proofs.YtefpfedpgedloaaDoor
