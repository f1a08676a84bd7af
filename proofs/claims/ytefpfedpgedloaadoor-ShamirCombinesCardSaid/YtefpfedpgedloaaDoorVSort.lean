/- shamir.inOrder: the same shares by their places (sort.Slice: the shelf's contract, laid at this program). -/
import Derived.Shelf.SlSortFuncK.WholeK
import Derived.Shelf.GgSortFunc.Tiny
import Derived.Test.YtefpfedpgedloaaDoorVAlike
namespace Go.Proofs
open Go.Shelf
def Tryd.sv6_ren : Go.Shelf.Ren := ⟨fun | 6 => 41 | 10 => 50 | 11 => 51 | 12 => 52 | 13 => 53 | 14 => 54 | 24 => 68 | 25 => 69 | 26 => 70 | 27 => 71 | 28 => 72 | 29 => 73 | 30 => 74 | 31 => 75 | 32 => 76 | 33 => 77 | 34 => 81 | 35 => 82 | 36 => 83 | 37 => 84 | 38 => 85 | 39 => 90 | n => n, fun | 0 => 0 | 3 => 3 | 4 => 4 | 5 => 5 | 9 => 9 | 12 => 12 | 17 => 17 | 20 => 20 | 26 => 79 | 32 => 85 | 33 => 86 | 35 => 88 | 37 => 90 | 41 => 66 | 44 => 96 | 49 => 104 | 51 => 106 | 53 => 108 | 54 => 109 | 58 => 113 | 60 => 118 | 64 => 122 | 66 => 129 | 67 => 130 | 75 => 150 | 76 => 151 | 77 => 152 | 78 => 153 | 79 => 154 | 80 => 155 | 82 => 157 | n => n, fun | n => n⟩
theorem Tryd.sv6 : Go.Proofs.LaysGg.n6 Tryd.prog Tryd.sv6_ren := {
  mixed := by kernel_rfl
  f6 := Tryd.func41.trans (congrArg some (by kernel_rfl))
  f10 := Tryd.func50.trans (congrArg some (by kernel_rfl))
  f11 := Tryd.func51.trans (congrArg some (by kernel_rfl))
  f12 := Tryd.func52.trans (congrArg some (by kernel_rfl))
  f13 := Tryd.func53.trans (congrArg some (by kernel_rfl))
  f14 := Tryd.func54.trans (congrArg some (by kernel_rfl))
  f24 := Tryd.func68.trans (congrArg some (by kernel_rfl))
  f25 := Tryd.func69.trans (congrArg some (by kernel_rfl))
  f26 := Tryd.func70.trans (congrArg some (by kernel_rfl))
  f27 := Tryd.func71.trans (congrArg some (by kernel_rfl))
  f28 := Tryd.func72.trans (congrArg some (by kernel_rfl))
  f29 := Tryd.func73.trans (congrArg some (by kernel_rfl))
  f30 := Tryd.func74.trans (congrArg some (by kernel_rfl))
  f31 := Tryd.func75.trans (congrArg some (by kernel_rfl))
  f32 := Tryd.func76.trans (congrArg some (by kernel_rfl))
  f33 := Tryd.func77.trans (congrArg some (by kernel_rfl))
  f34 := Tryd.func81.trans (congrArg some (by kernel_rfl))
  f35 := Tryd.func82.trans (congrArg some (by kernel_rfl))
  f36 := Tryd.func83.trans (congrArg some (by kernel_rfl))
  f37 := Tryd.func84.trans (congrArg some (by kernel_rfl))
  f38 := Tryd.func85.trans (congrArg some (by kernel_rfl))
  f39 := Tryd.func90.trans (congrArg some (by kernel_rfl))
  t0 := Tryd.underlying0
  a0 := Tryd.isAgg0
  z0 := Tryd.sizeOf0
  v0 := Tryd.zeroValue0
  i0 := by kernel_rfl
  t3 := Tryd.underlying3
  a3 := Tryd.isAgg3
  z3 := Tryd.sizeOf3
  v3 := Tryd.zeroValue3
  i3 := by kernel_rfl
  t4 := Tryd.underlying4
  a4 := Tryd.isAgg4
  z4 := Tryd.sizeOf4
  v4 := Tryd.zeroValue4
  i4 := by kernel_rfl
  t5 := Tryd.underlying5
  a5 := Tryd.isAgg5
  z5 := Tryd.sizeOf5
  v5 := Tryd.zeroValue5
  i5 := by kernel_rfl
  t9 := Tryd.underlying9
  a9 := Tryd.isAgg9
  z9 := Tryd.sizeOf9
  v9 := Tryd.zeroValue9
  i9 := by kernel_rfl
  t12 := Tryd.underlying12
  a12 := Tryd.isAgg12
  z12 := Tryd.sizeOf12
  v12 := Tryd.zeroValue12
  i12 := by kernel_rfl
  t17 := Tryd.underlying17
  a17 := Tryd.isAgg17
  z17 := Tryd.sizeOf17
  v17 := Tryd.zeroValue17
  i17 := by kernel_rfl
  t20 := Tryd.underlying20
  a20 := Tryd.isAgg20
  z20 := Tryd.sizeOf20
  v20 := Tryd.zeroValue20
  i20 := by kernel_rfl
  t26 := Tryd.underlying79
  a26 := Tryd.isAgg79
  z26 := Tryd.sizeOf79
  v26 := Tryd.zeroValue79
  i26 := by kernel_rfl
  t32 := Tryd.underlying85
  a32 := Tryd.isAgg85
  z32 := Tryd.sizeOf85
  v32 := Tryd.zeroValue85
  i32 := by kernel_rfl
  t33 := Tryd.underlying86
  a33 := Tryd.isAgg86
  z33 := Tryd.sizeOf86
  v33 := Tryd.zeroValue86
  i33 := by kernel_rfl
  t35 := Tryd.underlying88
  a35 := Tryd.isAgg88
  z35 := Tryd.sizeOf88
  v35 := Tryd.zeroValue88
  i35 := by kernel_rfl
  t37 := Tryd.underlying90
  a37 := Tryd.isAgg90
  z37 := Tryd.sizeOf90
  v37 := Tryd.zeroValue90
  i37 := by kernel_rfl
  t41 := Tryd.underlying66
  a41 := Tryd.isAgg66
  z41 := Tryd.sizeOf66
  v41 := Tryd.zeroValue66
  i41 := by kernel_rfl
  t44 := Tryd.underlying96
  a44 := Tryd.isAgg96
  z44 := Tryd.sizeOf96
  v44 := Tryd.zeroValue96
  i44 := by kernel_rfl
  t49 := Tryd.underlying104
  a49 := Tryd.isAgg104
  z49 := Tryd.sizeOf104
  v49 := Tryd.zeroValue104
  i49 := by kernel_rfl
  t51 := Tryd.underlying106
  a51 := Tryd.isAgg106
  z51 := Tryd.sizeOf106
  v51 := Tryd.zeroValue106
  i51 := by kernel_rfl
  t53 := Tryd.underlying108
  a53 := Tryd.isAgg108
  z53 := Tryd.sizeOf108
  v53 := Tryd.zeroValue108
  i53 := by kernel_rfl
  t54 := Tryd.underlying109
  a54 := Tryd.isAgg109
  z54 := Tryd.sizeOf109
  v54 := Tryd.zeroValue109
  i54 := by kernel_rfl
  t58 := Tryd.underlying113
  a58 := Tryd.isAgg113
  z58 := Tryd.sizeOf113
  v58 := Tryd.zeroValue113
  i58 := by kernel_rfl
  t60 := Tryd.underlying118
  a60 := Tryd.isAgg118
  z60 := Tryd.sizeOf118
  v60 := Tryd.zeroValue118
  i60 := by kernel_rfl
  t64 := Tryd.underlying122
  a64 := Tryd.isAgg122
  z64 := Tryd.sizeOf122
  v64 := Tryd.zeroValue122
  i64 := by kernel_rfl
  t66 := Tryd.underlying129
  a66 := Tryd.isAgg129
  z66 := Tryd.sizeOf129
  v66 := Tryd.zeroValue129
  i66 := by kernel_rfl
  t67 := Tryd.underlying130
  a67 := Tryd.isAgg130
  z67 := Tryd.sizeOf130
  v67 := Tryd.zeroValue130
  i67 := by kernel_rfl
  t75 := Tryd.underlying150
  a75 := Tryd.isAgg150
  z75 := Tryd.sizeOf150
  v75 := Tryd.zeroValue150
  i75 := by kernel_rfl
  t76 := Tryd.underlying151
  a76 := Tryd.isAgg151
  z76 := Tryd.sizeOf151
  v76 := Tryd.zeroValue151
  i76 := by kernel_rfl
  t77 := Tryd.underlying152
  a77 := Tryd.isAgg152
  z77 := Tryd.sizeOf152
  v77 := Tryd.zeroValue152
  i77 := by kernel_rfl
  t78 := Tryd.underlying153
  a78 := Tryd.isAgg153
  z78 := Tryd.sizeOf153
  v78 := Tryd.zeroValue153
  i78 := by kernel_rfl
  t79 := Tryd.underlying154
  a79 := Tryd.isAgg154
  z79 := Tryd.sizeOf154
  v79 := Tryd.zeroValue154
  i79 := by kernel_rfl
  t80 := Tryd.underlying155
  a80 := Tryd.isAgg155
  z80 := Tryd.sizeOf155
  v80 := Tryd.zeroValue155
  i80 := by kernel_rfl
  t82 := Tryd.underlying157
  a82 := Tryd.isAgg157
  z82 := Tryd.sizeOf157
  v82 := Tryd.zeroValue157
  i82 := by kernel_rfl }
noncomputable def Tryd.svT : TypeInfo := (Tryd.prog.info? 25).get (by kernel_rfl)
noncomputable def Tryd.svE : TypeInfo := (Tryd.prog.info? 41).get (by kernel_rfl)
theorem Tryd.svK (n : Nat) (h2 : 2 ≤ n) : Lib.swapperK n Tryd.svE 25 = 9 := by
  have a : Tryd.svE.hasPointers = true := by kernel_rfl
  have b : Tryd.svE.bytes = 32 := by kernel_rfl
  have c : (n == 0) = false := by simp; omega
  have d : (n == 1) = false := by simp; omega
  simp [Lib.swapperK, a, b, c, d]
end Go.Proofs
namespace Go.Proofs.YtefpfedpgedloaaDoor
open Go.RowKit
open Gf

instance : Inhabited Shr := ⟨zeroShr⟩
def encS (s : Shr) : List Value := [.int .i64 s.x, .int .i64 s.need, .string s.y]
def ltS (a b : Shr) : Bool := decide (a.x < b.x)
theorem swo_ltS : Go.Sort.SWO ltS where
  irrefl := fun x => by simp [ltS]
  trans := fun x y z h1 h2 => by simp [ltS] at *; omega
  ntrans := fun x y z h1 h2 => by simp [ltS] at *; omega
theorem arr_at {l : List Shr} {i : Nat} {s : Shr} (h : l[i]? = some s) : l.toArray[i]! = s := by
  have hi := (List.getElem?_eq_some_iff.1 h).1
  rw [getElem!_pos _ i (by simpa using hi)]
  obtain ⟨_, e⟩ := List.getElem?_eq_some_iff.1 h
  simpa using e
theorem arr_get {d : Array Shr} {i : Nat} {s : Shr} (h : d.toList[i]? = some s) : d[i]! = s := by
  have := arr_at h
  simpa using this
theorem holds_own {T : TypeId} {B : Nat} {w : World} {g cap : Nat} {l : List Shr} (h : OwnS T B w (some ⟨g, 0, none⟩) cap l) : Go.Sort.HoldsK encS 3 w g 0 l.toArray := by
  intro j hj
  rw [Go.Sort.size_flatK] at hj
  have hj' : j < l.length * 3 := by simpa using hj
  obtain ⟨q, r, hr, rfl⟩ : ∃ q r, r < 3 ∧ j = q * 3 + r := ⟨j / 3, j % 3, Nat.mod_lt _ (by decide), by omega⟩
  obtain ⟨s, hs⟩ : ∃ s, l[q]? = some s := ⟨_, List.getElem?_eq_getElem (by omega)⟩
  rw [Go.Sort.get_flatK _ _ _ _ hj, show (q * 3 + r) / 3 = q by omega, show (q * 3 + r) % 3 = r by omega, arr_at hs, Nat.zero_add]
  refine ⟨?_, World.ownsRow.frozenAt h.1 _⟩
  rw [Own.cell h hj', shs_at l q s hs r hr]
  rcases (by omega : r = 0 ∨ r = 1 ∨ r = 2) with rfl | rfl | rfl <;> rfl
theorem shares_of_holds {w : World} {g : Nat} {d : Array Shr} (h : Go.Sort.HoldsK encS 3 w g 0 d) (hg : g < w.heap.size) : SharesAt w (some ⟨g, 0, none⟩) d.toList := fun j s hj => by
  have hlt : j < d.size := by simpa using (List.getElem?_eq_some_iff.1 hj).1
  have e := arr_get hj
  refine ⟨g, 0, rfl, hg, ?_, ?_, ?_⟩
  · have := (h.cell (i := j) (c := 0) hlt (by omega)).1
    rw [e] at this; exact this
  · have := (h.cell (i := j) (c := 1) hlt (by omega)).1
    rw [e] at this; exact this
  · have := (h.cell (i := j) (c := 2) hlt (by omega)).1
    rw [e] at this; exact this
theorem grownBy_sortedS {w : World} {g n : Nat} {os : Array Obj} (d : Array Shr) : w.grownBy (Go.Sort.grow (Go.Sort.putRowK encS 3 (Go.Sort.ahead w n) g 0 d) os) (some g) := by
  refine ⟨rfl, rfl, rfl, by simp [Go.Sort.putRowK], fun k hk hne => ?_⟩
  rw [Go.Sort.heap_grow_old _ _ (by simpa [Go.Sort.putRowK] using hk)]
  have : g ≠ k := fun e => hne (by rw [e])
  simp [Go.Sort.putRowK, Go.Sort.putRow, Go.Sort.mapBlock, Go.Sort.ahead, Array.getElem?_modify, this]
set_option maxHeartbeats 2000000 in
/-- The closure. -/
theorem less_any (blk off c Bs size : Nat) (W : World) (G : Nat → Int) (hs : W.cell? ⟨Bs, 0, none⟩ = some (.slice (some ⟨blk, off, none⟩) size c))
    (hc : ∀ t, t < size → W.cell? ⟨blk, off + t * 3, none⟩ = some (.int .i64 (G t))) (i j : Nat) (hi : i < size) (hj : j < size) (_hsz : size < 4611686018427387904) :
    Calls Tryd.prog 42 #[.int .i64 i, .int .i64 j, .pointer (some ⟨Bs, 0, none⟩)] W fun e w' => e = .returned (.bool (decide (G i < G j))) ∧ ∃ q, w' = W.drewN q := by
  have ci := hc i hi
  have cj := hc j hj
  go_enter Tryd.func42, Tryd.ntmps42
  go_wp2_with fail
  go_quiet (fail)
  go_wp2_with fail
  go_ret
  exact ⟨rfl, nq, rfl⟩
theorem grownBy_below {B : Nat} {w w' : World} {g : Nat} (h : w.grownBy w' (some g)) (hg : B ≤ g) (hB : B ≤ w.heap.size) : Below B w w' := (Below.refl B w).grown h hB (fun k hk => by injection hk with hk; omega)
set_option maxRecDepth 100000 in
/-- sort.Slice as inOrder calls it. -/
theorem sort_any {B : Nat} {w : World} {blk cap Bs : Nat} {l : List Shr} (hO : OwnS 41 B w (some ⟨blk, 0, none⟩) cap l) (h1 : 1 ≤ l.length) (hl : l.length ≤ 1000000)
    (hBs : w.cell? ⟨Bs, 0, none⟩ = some (.slice (some ⟨blk, 0, none⟩) l.length cap)) (hB1 : Bs < w.heap.size) (hB2 : Bs ≠ blk) :
    Calls Tryd.prog 41 #[.iface 25 (.slice (some ⟨blk, 0, none⟩) l.length cap), .func (.func 42) #[] #[.pointer (some ⟨Bs, 0, none⟩)]] w fun e w' =>
      e = .returned (.tuple #[]) ∧ ∃ d : List Shr, d.Perm l ∧ SharesAt w' (some ⟨blk, 0, none⟩) d ∧ w.grownBy w' (some blk) := by
  have hblk : blk < w.heap.size := (World.ownsRow.lt hO.1 _ rfl).2
  by_cases h2 : 2 ≤ l.length
  · have hH := holds_own hO
    have hsz : l.toArray.size = l.length := by simp
    have hless : Go.Proofs.LessReadsK Tryd.prog 42 #[.pointer (some ⟨Bs, 0, none⟩)] encS 3 ltS blk 0 l.toArray.size w := by
      intro m os dk hs i j hi hj
      have e : Go.Proofs.sortWorldK encS 3 w blk 0 m dk os = Go.Sort.putRowK encS 3 (Go.Sort.grow (Go.Sort.ahead w m) os) blk 0 dk := by
        unfold Go.Proofs.sortWorldK; rw [Go.Sort.putRowK_grow _ _ (Go.Sort.ahead w m) _ blk 0 _ hblk]
      have hHg : Go.Sort.HoldsK encS 3 (Go.Sort.grow (Go.Sort.ahead w m) os) blk 0 l.toArray := Go.Sort.holdsK_grow _ _ _ _ blk 0 _ hblk (Go.Sort.holdsK_ahead _ _ _ _ _ _ _ hH)
      refine less_any blk 0 cap Bs l.toArray.size _ (fun t => dk[t]!.x) ?_ (fun t ht => ?_) i j hi hj (by rw [hsz]; omega)
      · rw [e, Go.Sort.cell?_putRowK_other _ _ _ blk 0 dk _ (by exact hB2), Go.Sort.cell?_grow _ _ _ (by exact hB1), hsz]; exact hBs
      · rw [e]; exact ((Go.Sort.holdsK_putRowK _ _ _ blk 0 _ dk hHg hs).cell (i := t) (c := 0) (by omega) (by omega)).1
    have hc := Any.sort_Slice_cells_sorted Tryd.sv6 25 41 Tryd.svT Tryd.svE (by kernel_rfl) (by kernel_rfl) (by kernel_rfl) (by kernel_rfl) 25 (fun _ => by kernel_rfl) encS 3 (fun _ => rfl) (by kernel_rfl) (fun _ => by kernel_rfl)
      (fun x v hv => by simp [encS] at hv; rcases hv with rfl | rfl | rfl <;> rfl) ltS swo_ltS 42 _
      (enters_of Tryd.func42 (by kernel_rfl) rfl) blk 0 cap l.toArray (by rw [hsz]; exact h2) (by rw [hsz]; omega) 67 (by rw [hsz, Tryd.svK _ h2]; kernel_rfl) false
      (fun args W => run_callFunc_extern Tryd.func67 (by kernel_rfl) (by kernel_rfl) (by kernel_rfl) (e := Extern.ReflectliteSwapper.swap false) (by kernel_rfl) args W) w hless hH hblk
    rw [hsz] at hc
    refine hc.mono ?_
    rintro e w' ⟨rfl, d', n, os, hp, -, rfl⟩
    obtain ⟨p1, -, p3⟩ := hp
    rw [hsz] at p1
    refine ⟨rfl, d'.toList, ?_, ?_, grownBy_sortedS d'⟩
    · have e1 : (d'.extract 0 l.length).toList = d'.toList := by rw [← p1]; simp
      have e2 : (l.toArray.extract 0 l.length).toList = l := by simp
      rw [e1, e2] at p3
      exact p3
    · refine shares_of_holds (Go.Sort.holdsK_grow _ _ _ _ blk 0 _ (by simpa [Go.Sort.putRowK] using hblk) (Go.Sort.holdsK_putRowK _ _ _ blk 0 _ d' (Go.Sort.holdsK_ahead _ _ w n blk 0 _ hH) (by rw [p1, hsz]))) ?_
      have := (grownBy_sortedS (w := w) (g := blk) (n := n) (os := os) d').size
      omega
  · have e1 : l.length = 1 := by omega
    rw [e1]
    have hc := Any.sort_Slice_tiny Tryd.sv6 25 41 Tryd.svT Tryd.svE (by kernel_rfl) (by kernel_rfl) (by kernel_rfl) (by kernel_rfl) 25 (fun _ => by kernel_rfl) (some ⟨blk, 0, none⟩) 1 cap (by decide) 60 (by kernel_rfl) (.func 42) #[] #[.pointer (some ⟨Bs, 0, none⟩)] w
    refine hc.mono ?_
    rintro e w' ⟨rfl, os, rfl⟩
    have hg : w.grownBy (Go.Sort.grow w os) (some blk) := ⟨rfl, rfl, rfl, by simp, fun k hk _ => Go.Sort.heap_grow_old _ _ hk⟩
    have hb : Below w.heap.size w (Go.Sort.grow w os) := ⟨rfl, rfl, rfl, by simp, fun k hk => Go.Sort.heap_grow_old _ _ hk⟩
    exact ⟨rfl, l, List.Perm.refl _, hO.at.below hb, hg⟩
end Go.Proofs.YtefpfedpgedloaaDoor
