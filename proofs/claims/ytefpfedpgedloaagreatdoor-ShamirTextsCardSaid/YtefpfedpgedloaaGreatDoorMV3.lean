/- Merged by program: shamir.inOrder: the same shares by their places (sort.Slice: the shelf's contract, laid at this program). | shamir.inOrder. -/
import Derived.Shelf.SlSortFuncK.WholeK
import Derived.Shelf.GgSortFunc.Tiny
import Derived.Test.YtefpfedpgedloaaGreatDoorMV2
namespace Go.Proofs
open Go.Shelf
def Tryz.sv6_ren : Go.Shelf.Ren := ⟨fun | 6 => 61 | 10 => 72 | 11 => 73 | 12 => 74 | 13 => 75 | 14 => 76 | 24 => 98 | 25 => 99 | 26 => 100 | 27 => 101 | 28 => 102 | 29 => 103 | 30 => 104 | 31 => 105 | 32 => 106 | 33 => 107 | 34 => 113 | 35 => 114 | 36 => 115 | 37 => 116 | 38 => 117 | 39 => 121 | n => n, fun | 0 => 0 | 3 => 3 | 4 => 4 | 5 => 5 | 9 => 9 | 12 => 12 | 17 => 17 | 20 => 20 | 26 => 114 | 32 => 123 | 33 => 126 | 35 => 128 | 37 => 130 | 41 => 78 | 44 => 135 | 49 => 105 | 51 => 108 | 53 => 152 | 54 => 153 | 58 => 157 | 60 => 161 | 64 => 165 | 66 => 170 | 67 => 171 | 75 => 195 | 76 => 196 | 77 => 197 | 78 => 111 | 79 => 198 | 80 => 199 | 82 => 201 | n => n, fun | n => n⟩
theorem Tryz.sv6 : Go.Proofs.LaysGg.n6 Tryz.prog Tryz.sv6_ren := {
  mixed := by kernel_rfl
  f6 := Tryz.func61.trans (congrArg some (by kernel_rfl))
  f10 := Tryz.func72.trans (congrArg some (by kernel_rfl))
  f11 := Tryz.func73.trans (congrArg some (by kernel_rfl))
  f12 := Tryz.func74.trans (congrArg some (by kernel_rfl))
  f13 := Tryz.func75.trans (congrArg some (by kernel_rfl))
  f14 := Tryz.func76.trans (congrArg some (by kernel_rfl))
  f24 := Tryz.func98.trans (congrArg some (by kernel_rfl))
  f25 := Tryz.func99.trans (congrArg some (by kernel_rfl))
  f26 := Tryz.func100.trans (congrArg some (by kernel_rfl))
  f27 := Tryz.func101.trans (congrArg some (by kernel_rfl))
  f28 := Tryz.func102.trans (congrArg some (by kernel_rfl))
  f29 := Tryz.func103.trans (congrArg some (by kernel_rfl))
  f30 := Tryz.func104.trans (congrArg some (by kernel_rfl))
  f31 := Tryz.func105.trans (congrArg some (by kernel_rfl))
  f32 := Tryz.func106.trans (congrArg some (by kernel_rfl))
  f33 := Tryz.func107.trans (congrArg some (by kernel_rfl))
  f34 := Tryz.func113.trans (congrArg some (by kernel_rfl))
  f35 := Tryz.func114.trans (congrArg some (by kernel_rfl))
  f36 := Tryz.func115.trans (congrArg some (by kernel_rfl))
  f37 := Tryz.func116.trans (congrArg some (by kernel_rfl))
  f38 := Tryz.func117.trans (congrArg some (by kernel_rfl))
  f39 := Tryz.func121.trans (congrArg some (by kernel_rfl))
  t0 := Tryz.underlying0
  a0 := Tryz.isAgg0
  z0 := Tryz.sizeOf0
  v0 := Tryz.zeroValue0
  i0 := by kernel_rfl
  t3 := Tryz.underlying3
  a3 := Tryz.isAgg3
  z3 := Tryz.sizeOf3
  v3 := Tryz.zeroValue3
  i3 := by kernel_rfl
  t4 := Tryz.underlying4
  a4 := Tryz.isAgg4
  z4 := Tryz.sizeOf4
  v4 := Tryz.zeroValue4
  i4 := by kernel_rfl
  t5 := Tryz.underlying5
  a5 := Tryz.isAgg5
  z5 := Tryz.sizeOf5
  v5 := Tryz.zeroValue5
  i5 := by kernel_rfl
  t9 := Tryz.underlying9
  a9 := Tryz.isAgg9
  z9 := Tryz.sizeOf9
  v9 := Tryz.zeroValue9
  i9 := by kernel_rfl
  t12 := Tryz.underlying12
  a12 := Tryz.isAgg12
  z12 := Tryz.sizeOf12
  v12 := Tryz.zeroValue12
  i12 := by kernel_rfl
  t17 := Tryz.underlying17
  a17 := Tryz.isAgg17
  z17 := Tryz.sizeOf17
  v17 := Tryz.zeroValue17
  i17 := by kernel_rfl
  t20 := Tryz.underlying20
  a20 := Tryz.isAgg20
  z20 := Tryz.sizeOf20
  v20 := Tryz.zeroValue20
  i20 := by kernel_rfl
  t26 := Tryz.underlying114
  a26 := Tryz.isAgg114
  z26 := Tryz.sizeOf114
  v26 := Tryz.zeroValue114
  i26 := by kernel_rfl
  t32 := Tryz.underlying123
  a32 := Tryz.isAgg123
  z32 := Tryz.sizeOf123
  v32 := Tryz.zeroValue123
  i32 := by kernel_rfl
  t33 := Tryz.underlying126
  a33 := Tryz.isAgg126
  z33 := Tryz.sizeOf126
  v33 := Tryz.zeroValue126
  i33 := by kernel_rfl
  t35 := Tryz.underlying128
  a35 := Tryz.isAgg128
  z35 := Tryz.sizeOf128
  v35 := Tryz.zeroValue128
  i35 := by kernel_rfl
  t37 := Tryz.underlying130
  a37 := Tryz.isAgg130
  z37 := Tryz.sizeOf130
  v37 := Tryz.zeroValue130
  i37 := by kernel_rfl
  t41 := Tryz.underlying78
  a41 := Tryz.isAgg78
  z41 := Tryz.sizeOf78
  v41 := Tryz.zeroValue78
  i41 := by kernel_rfl
  t44 := Tryz.underlying135
  a44 := Tryz.isAgg135
  z44 := Tryz.sizeOf135
  v44 := Tryz.zeroValue135
  i44 := by kernel_rfl
  t49 := Tryz.underlying105
  a49 := Tryz.isAgg105
  z49 := Tryz.sizeOf105
  v49 := Tryz.zeroValue105
  i49 := by kernel_rfl
  t51 := Tryz.underlying108
  a51 := Tryz.isAgg108
  z51 := Tryz.sizeOf108
  v51 := Tryz.zeroValue108
  i51 := by kernel_rfl
  t53 := Tryz.underlying152
  a53 := Tryz.isAgg152
  z53 := Tryz.sizeOf152
  v53 := Tryz.zeroValue152
  i53 := by kernel_rfl
  t54 := Tryz.underlying153
  a54 := Tryz.isAgg153
  z54 := Tryz.sizeOf153
  v54 := Tryz.zeroValue153
  i54 := by kernel_rfl
  t58 := Tryz.underlying157
  a58 := Tryz.isAgg157
  z58 := Tryz.sizeOf157
  v58 := Tryz.zeroValue157
  i58 := by kernel_rfl
  t60 := Tryz.underlying161
  a60 := Tryz.isAgg161
  z60 := Tryz.sizeOf161
  v60 := Tryz.zeroValue161
  i60 := by kernel_rfl
  t64 := Tryz.underlying165
  a64 := Tryz.isAgg165
  z64 := Tryz.sizeOf165
  v64 := Tryz.zeroValue165
  i64 := by kernel_rfl
  t66 := Tryz.underlying170
  a66 := Tryz.isAgg170
  z66 := Tryz.sizeOf170
  v66 := Tryz.zeroValue170
  i66 := by kernel_rfl
  t67 := Tryz.underlying171
  a67 := Tryz.isAgg171
  z67 := Tryz.sizeOf171
  v67 := Tryz.zeroValue171
  i67 := by kernel_rfl
  t75 := Tryz.underlying195
  a75 := Tryz.isAgg195
  z75 := Tryz.sizeOf195
  v75 := Tryz.zeroValue195
  i75 := by kernel_rfl
  t76 := Tryz.underlying196
  a76 := Tryz.isAgg196
  z76 := Tryz.sizeOf196
  v76 := Tryz.zeroValue196
  i76 := by kernel_rfl
  t77 := Tryz.underlying197
  a77 := Tryz.isAgg197
  z77 := Tryz.sizeOf197
  v77 := Tryz.zeroValue197
  i77 := by kernel_rfl
  t78 := Tryz.underlying111
  a78 := Tryz.isAgg111
  z78 := Tryz.sizeOf111
  v78 := Tryz.zeroValue111
  i78 := by kernel_rfl
  t79 := Tryz.underlying198
  a79 := Tryz.isAgg198
  z79 := Tryz.sizeOf198
  v79 := Tryz.zeroValue198
  i79 := by kernel_rfl
  t80 := Tryz.underlying199
  a80 := Tryz.isAgg199
  z80 := Tryz.sizeOf199
  v80 := Tryz.zeroValue199
  i80 := by kernel_rfl
  t82 := Tryz.underlying201
  a82 := Tryz.isAgg201
  z82 := Tryz.sizeOf201
  v82 := Tryz.zeroValue201
  i82 := by kernel_rfl }
noncomputable def Tryz.svT : TypeInfo := (Tryz.prog.info? 22).get (by kernel_rfl)
noncomputable def Tryz.svE : TypeInfo := (Tryz.prog.info? 32).get (by kernel_rfl)
theorem Tryz.svK (n : Nat) (h2 : 2 ≤ n) : Lib.swapperK n Tryz.svE 25 = 9 := by
  have a : Tryz.svE.hasPointers = true := by kernel_rfl
  have b : Tryz.svE.bytes = 32 := by kernel_rfl
  have c : (n == 0) = false := by simp; omega
  have d : (n == 1) = false := by simp; omega
  simp [Lib.swapperK, a, b, c, d]
end Go.Proofs
namespace Go.Proofs.YtefpfedpgedloaaGreatDoor
open Go.RowKit
open Gf

instance : Inhabited Shr := ⟨zeroShr⟩
def encS (s : Shr) : List Value := [.int .i64 s.x, .int .i64 s.need, .string s.y]
def ltS (a b : Shr) : Bool := decide (a.x < b.x)
theorem swo_ltS : Go.Sort.SWO ltS where
  irrefl := fun x => by simp [ltS]
  trans := fun x y z h1 h2 => by simp [ltS] at *; omega
  ntrans := fun x y z h1 h2 => by simp [ltS] at *; omega
theorem arr_at {l : List Shr} {i : Nat} {s : Shr} (h : l[i]? = some s) : l.toArray[i]! = s := by
  have hi := (List.getElem?_eq_some_iff.1 h).1
  rw [getElem!_pos _ i (by simpa using hi)]
  obtain ⟨_, e⟩ := List.getElem?_eq_some_iff.1 h
  simpa using e
theorem arr_get {d : Array Shr} {i : Nat} {s : Shr} (h : d.toList[i]? = some s) : d[i]! = s := by
  have := arr_at h
  simpa using this
theorem holds_own {T : TypeId} {B : Nat} {w : World} {g cap : Nat} {l : List Shr} (h : OwnS T B w (some ⟨g, 0, none⟩) cap l) : Go.Sort.HoldsK encS 3 w g 0 l.toArray := by
  intro j hj
  rw [Go.Sort.size_flatK] at hj
  have hj' : j < l.length * 3 := by simpa using hj
  obtain ⟨q, r, hr, rfl⟩ : ∃ q r, r < 3 ∧ j = q * 3 + r := ⟨j / 3, j % 3, Nat.mod_lt _ (by decide), by omega⟩
  obtain ⟨s, hs⟩ : ∃ s, l[q]? = some s := ⟨_, List.getElem?_eq_getElem (by omega)⟩
  rw [Go.Sort.get_flatK _ _ _ _ hj, show (q * 3 + r) / 3 = q by omega, show (q * 3 + r) % 3 = r by omega, arr_at hs, Nat.zero_add]
  refine ⟨?_, World.ownsRow.frozenAt h.1 _⟩
  rw [Own.cell h hj', shs_at l q s hs r hr]
  rcases (by omega : r = 0 ∨ r = 1 ∨ r = 2) with rfl | rfl | rfl <;> rfl
theorem shares_of_holds {w : World} {g : Nat} {d : Array Shr} (h : Go.Sort.HoldsK encS 3 w g 0 d) (hg : g < w.heap.size) : SharesAt w (some ⟨g, 0, none⟩) d.toList := fun j s hj => by
  have hlt : j < d.size := by simpa using (List.getElem?_eq_some_iff.1 hj).1
  have e := arr_get hj
  refine ⟨g, 0, rfl, hg, ?_, ?_, ?_⟩
  · have := (h.cell (i := j) (c := 0) hlt (by omega)).1
    rw [e] at this; exact this
  · have := (h.cell (i := j) (c := 1) hlt (by omega)).1
    rw [e] at this; exact this
  · have := (h.cell (i := j) (c := 2) hlt (by omega)).1
    rw [e] at this; exact this
theorem grownBy_sortedS {w : World} {g n : Nat} {os : Array Obj} (d : Array Shr) : w.grownBy (Go.Sort.grow (Go.Sort.putRowK encS 3 (Go.Sort.ahead w n) g 0 d) os) (some g) := by
  refine ⟨rfl, rfl, rfl, by simp [Go.Sort.putRowK], fun k hk hne => ?_⟩
  rw [Go.Sort.heap_grow_old _ _ (by simpa [Go.Sort.putRowK] using hk)]
  have : g ≠ k := fun e => hne (by rw [e])
  simp [Go.Sort.putRowK, Go.Sort.putRow, Go.Sort.mapBlock, Go.Sort.ahead, Array.getElem?_modify, this]
set_option maxHeartbeats 2000000 in
/-- The closure. -/
theorem less_any (blk off c Bs size : Nat) (W : World) (G : Nat → Int) (hs : W.cell? ⟨Bs, 0, none⟩ = some (.slice (some ⟨blk, off, none⟩) size c))
    (hc : ∀ t, t < size → W.cell? ⟨blk, off + t * 3, none⟩ = some (.int .i64 (G t))) (i j : Nat) (hi : i < size) (hj : j < size) (_hsz : size < 4611686018427387904) :
    Calls Tryz.prog 62 #[.int .i64 i, .int .i64 j, .pointer (some ⟨Bs, 0, none⟩)] W fun e w' => e = .returned (.bool (decide (G i < G j))) ∧ ∃ q, w' = W.drewN q := by
  have ci := hc i hi
  have cj := hc j hj
  go_enter Tryz.func62, Tryz.ntmps62
  go_wp2_with fail
  go_quiet (fail)
  go_wp2_with fail
  go_ret
  exact ⟨rfl, nq, rfl⟩
theorem grownBy_below {B : Nat} {w w' : World} {g : Nat} (h : w.grownBy w' (some g)) (hg : B ≤ g) (hB : B ≤ w.heap.size) : Below B w w' := (Below.refl B w).grown h hB (fun k hk => by injection hk with hk; omega)
set_option maxRecDepth 100000 in
/-- sort.Slice as inOrder calls it. -/
theorem sort_any {B : Nat} {w : World} {blk cap Bs : Nat} {l : List Shr} (hO : OwnS 32 B w (some ⟨blk, 0, none⟩) cap l) (h1 : 1 ≤ l.length) (hl : l.length ≤ 1000000)
    (hBs : w.cell? ⟨Bs, 0, none⟩ = some (.slice (some ⟨blk, 0, none⟩) l.length cap)) (hB1 : Bs < w.heap.size) (hB2 : Bs ≠ blk) :
    Calls Tryz.prog 61 #[.iface 22 (.slice (some ⟨blk, 0, none⟩) l.length cap), .func (.func 62) #[] #[.pointer (some ⟨Bs, 0, none⟩)]] w fun e w' =>
      e = .returned (.tuple #[]) ∧ ∃ d : List Shr, d.Perm l ∧ SharesAt w' (some ⟨blk, 0, none⟩) d ∧ w.grownBy w' (some blk) := by
  have hblk : blk < w.heap.size := (World.ownsRow.lt hO.1 _ rfl).2
  by_cases h2 : 2 ≤ l.length
  · have hH := holds_own hO
    have hsz : l.toArray.size = l.length := by simp
    have hless : Go.Proofs.LessReadsK Tryz.prog 62 #[.pointer (some ⟨Bs, 0, none⟩)] encS 3 ltS blk 0 l.toArray.size w := by
      intro m os dk hs i j hi hj
      have e : Go.Proofs.sortWorldK encS 3 w blk 0 m dk os = Go.Sort.putRowK encS 3 (Go.Sort.grow (Go.Sort.ahead w m) os) blk 0 dk := by
        unfold Go.Proofs.sortWorldK; rw [Go.Sort.putRowK_grow _ _ (Go.Sort.ahead w m) _ blk 0 _ hblk]
      have hHg : Go.Sort.HoldsK encS 3 (Go.Sort.grow (Go.Sort.ahead w m) os) blk 0 l.toArray := Go.Sort.holdsK_grow _ _ _ _ blk 0 _ hblk (Go.Sort.holdsK_ahead _ _ _ _ _ _ _ hH)
      refine less_any blk 0 cap Bs l.toArray.size _ (fun t => dk[t]!.x) ?_ (fun t ht => ?_) i j hi hj (by rw [hsz]; omega)
      · rw [e, Go.Sort.cell?_putRowK_other _ _ _ blk 0 dk _ (by exact hB2), Go.Sort.cell?_grow _ _ _ (by exact hB1), hsz]; exact hBs
      · rw [e]; exact ((Go.Sort.holdsK_putRowK _ _ _ blk 0 _ dk hHg hs).cell (i := t) (c := 0) (by omega) (by omega)).1
    have hc := Any.sort_Slice_cells_sorted Tryz.sv6 22 32 Tryz.svT Tryz.svE (by kernel_rfl) (by kernel_rfl) (by kernel_rfl) (by kernel_rfl) 25 (fun _ => by kernel_rfl) encS 3 (fun _ => rfl) (by kernel_rfl) (fun _ => by kernel_rfl)
      (fun x v hv => by simp [encS] at hv; rcases hv with rfl | rfl | rfl <;> rfl) ltS swo_ltS 62 _
      (enters_of Tryz.func62 (by kernel_rfl) rfl) blk 0 cap l.toArray (by rw [hsz]; exact h2) (by rw [hsz]; omega) 97 (by rw [hsz, Tryz.svK _ h2]; kernel_rfl) false
      (fun args W => run_callFunc_extern Tryz.func97 (by kernel_rfl) (by kernel_rfl) (by kernel_rfl) (e := Extern.ReflectliteSwapper.swap false) (by kernel_rfl) args W) w hless hH hblk
    rw [hsz] at hc
    refine hc.mono ?_
    rintro e w' ⟨rfl, d', n, os, hp, -, rfl⟩
    obtain ⟨p1, -, p3⟩ := hp
    rw [hsz] at p1
    refine ⟨rfl, d'.toList, ?_, ?_, grownBy_sortedS d'⟩
    · have e1 : (d'.extract 0 l.length).toList = d'.toList := by rw [← p1]; simp
      have e2 : (l.toArray.extract 0 l.length).toList = l := by simp
      rw [e1, e2] at p3
      exact p3
    · refine shares_of_holds (Go.Sort.holdsK_grow _ _ _ _ blk 0 _ (by simpa [Go.Sort.putRowK] using hblk) (Go.Sort.holdsK_putRowK _ _ _ blk 0 _ d' (Go.Sort.holdsK_ahead _ _ w n blk 0 _ hH) (by rw [p1, hsz]))) ?_
      have := (grownBy_sortedS (w := w) (g := blk) (n := n) (os := os) d').size
      omega
  · have e1 : l.length = 1 := by omega
    rw [e1]
    have hc := Any.sort_Slice_tiny Tryz.sv6 22 32 Tryz.svT Tryz.svE (by kernel_rfl) (by kernel_rfl) (by kernel_rfl) (by kernel_rfl) 25 (fun _ => by kernel_rfl) (some ⟨blk, 0, none⟩) 1 cap (by decide) 90 (by kernel_rfl) (.func 62) #[] #[.pointer (some ⟨Bs, 0, none⟩)] w
    refine hc.mono ?_
    rintro e w' ⟨rfl, os, rfl⟩
    have hg : w.grownBy (Go.Sort.grow w os) (some blk) := ⟨rfl, rfl, rfl, by simp, fun k hk _ => Go.Sort.heap_grow_old _ _ hk⟩
    have hb : Below w.heap.size w (Go.Sort.grow w os) := ⟨rfl, rfl, rfl, by simp, fun k hk => Go.Sort.heap_grow_old _ _ hk⟩
    exact ⟨rfl, l, List.Perm.refl _, hO.at.below hb, hg⟩
end Go.Proofs.YtefpfedpgedloaaGreatDoor
namespace Go.Proofs.YtefpfedpgedloaaGreatDoor
open Go.RowKit
open Gf

/-- The cells of shares in memory, as append reads them. -/
theorem SharesAt.news {w : World} {b off : Nat} {l : List Shr} (h : SharesAt w (some ⟨b, off, none⟩) l) : ∀ j u, (shs l)[j]? = some u → w.cell? ((⟨b, off, none⟩ : Addr).add j) = some u := fun j u hj => by
  have hlt : j < l.length * 3 := by rw [← shs_length]; exact (List.getElem?_eq_some_iff.1 hj).1
  obtain ⟨q, r, hr, rfl⟩ : ∃ q r, r < 3 ∧ j = q * 3 + r := ⟨j / 3, j % 3, Nat.mod_lt _ (by decide), by omega⟩
  obtain ⟨s, hs⟩ : ∃ s, l[q]? = some s := ⟨_, List.getElem?_eq_getElem (by omega)⟩
  obtain ⟨b', off', e, -, c0, c1, c2⟩ := h q s hs
  injection e with e
  injection e with e1 e2 _
  subst e1 e2
  rw [shs_at l q s hs r hr] at hj
  rw [show (⟨b, off, none⟩ : Addr).add (q * 3 + r) = ⟨b, off + (q * 3 + r), none⟩ from by unfold Addr.add; split <;> simp_all]
  rcases (by omega : r = 0 ∨ r = 1 ∨ r = 2) with rfl | rfl | rfl
  · injection hj with hj; subst hj; rw [← Nat.add_assoc]; exact c0
  · injection hj with hj; subst hj; rw [← Nat.add_assoc]; exact c1
  · injection hj with hj; subst hj; rw [← Nat.add_assoc]; exact c2
/-- Behind the append. -/
theorem order_mid {w w1 w3 : World} {l : List Shr} {n b off cap cp : Nat} {ad : Option Addr} (hN : n = l.length) (h1 : 1 ≤ n) (hg1 : w1.heap[w.heap.size]? = some (.cells #[.slice (some ⟨b, off, none⟩) n cap] 22 (0, 0))) (hz1 : w.heap.size < w1.heap.size)
    (o3 : w3.ownsRow 0 32 3 (.slice ad (0 + n) cp) (0 + n) ([] ++ shs l)) (g3 : w1.grownBy w3 (Value.slice none 0 0).ownBlock) (n3 : ∀ g, (Value.slice ad (0 + n) cp).ownBlock = some g → (Value.slice none 0 0).ownBlock = some g ∨ (g = w1.heap.size ∧ g < w3.heap.size)) :
    ∃ g, ad = some ⟨g, 0, none⟩ ∧ w.heap.size < g ∧ Below w1.heap.size w1 w3 ∧ OwnS 32 0 w3 (some ⟨g, 0, none⟩) cp l ∧ w3.cell? ⟨w.heap.size, 0, none⟩ = some (.slice (some ⟨b, off, none⟩) n cap) ∧ w3.frozen? ⟨w.heap.size, 0, none⟩ = false ∧ n ≤ cp ∧ cp ≤ maxLen := by
  rw [Nat.zero_add, List.nil_append, hN] at o3
  have hb3 : Below w1.heap.size w1 w3 := (Below.refl _ _).grown g3 (Nat.le_refl _) (fun k hk => by cases hk)
  have hg3 := (hb3.block _ hz1).trans hg1
  rcases own_form o3 with ⟨-, h0, -⟩ | ⟨g, rfl, hcp, hcm⟩
  · omega
  · rcases n3 g rfl with e | ⟨e, -⟩
    · cases e
    · exact ⟨g, rfl, by omega, hb3, ⟨o3, fun _ _ => Nat.zero_le _⟩, by rw [cell_of_row _ _ _ _ _ _ hg3]; rfl, frozen_of_row _ _ _ _ _ hg3, by omega, hcm⟩
set_option maxRecDepth 100000 in
set_option maxHeartbeats 1000000 in
theorem inorder_any {w : World} {a0 : Option Addr} {l : List Shr} (hT : SharesAt w a0 l) (h1 : 1 ≤ l.length) (hl : l.length ≤ 1000000) (cap : Nat) :
    Calls Tryz.prog 44 #[.slice a0 l.length cap] w fun e w' => ∃ (a : Option Addr) (cp : Nat) (d : List Shr), e = .returned (.slice a l.length cp) ∧ d.Perm l ∧ SharesAt w' a d ∧ Below w.heap.size w w' ∧ l.length ≤ cp ∧ cp ≤ maxLen := by
  obtain ⟨n, hN⟩ : ∃ n, n = l.length := ⟨_, rfl⟩
  obtain ⟨s0, hs0⟩ : ∃ s, l[0]? = some s := ⟨_, List.getElem?_eq_getElem (by omega)⟩
  obtain ⟨b, off, rfl, hb, -, -, -⟩ := hT 0 s0 hs0
  rw [← hN] at h1 hl ⊢
  obtain ⟨w1, hw1⟩ : ∃ w1, w1 = w.alloc (.cells #[.slice (some ⟨b, off, none⟩) n cap] 22) := ⟨_, rfl⟩
  have hb1 : Below w.heap.size w w1 := by rw [hw1]; exact (Below.refl _ _).alloc (Nat.le_refl _) _
  have hg1 : w1.heap[w.heap.size]? = some (.cells #[.slice (some ⟨b, off, none⟩) n cap] 22 (0, 0)) := by rw [hw1]; exact heap_alloc_new _ _
  have hz1 : w.heap.size < w1.heap.size := by rw [hw1]; simp
  have c0 : w1.cell? ⟨w.heap.size, 0, none⟩ = some (.slice (some ⟨b, off, none⟩) n cap) := by rw [cell_of_row _ _ _ _ _ _ hg1]; rfl
  obtain ⟨i0, hi0, hk0, hk1, hk2⟩ := info_parts Tryz.info_shr
  have hsrc := Src.ofSlice (P := Tryz.prog) (size := 3) w1 Tryz.underlying22 ⟨b, off, none⟩ n cap (shs l) (by rw [shs_length, hN]) (hT.below hb1).news (shs_one l)
  have HI := Lib.hid (And.intro hi0 (And.intro hk0 (And.intro hk1 hk2)))
  have H := Lib.hid (And.intro hT (And.intro hN (And.intro hb1 (And.intro hsrc (And.intro hg1 hz1)))))
  clear hT hN hb1 hsrc hi0 hk0 hk1 hk2 hs0 hg1 hz1
  go_enter Tryz.func44, Tryz.ntmps44
  go_upto_region 1 with fail
  rw [← hw1]
  clear hw1
  go_wp2_with (at_builtin; (refine wpList_append_src rfl (.const (.slice none 0 0)) (.tmp 3) 22 22 rfl 32 i0 (.agg #[.int .i64 0, .int .i64 0, .string ⟨#[]⟩]) 3 32 Tryz.underlying22 HI.out.1 HI.out.2.1 HI.out.2.2.1 HI.out.2.2.2 rfl (.slice none 0 0) 0 [] rfl (World.ownsRow_nil _ _ _ _) (.slice (some ⟨b, off, none⟩) n cap) n (shs l) rfl H.out.2.2.2.1 (by omega) (by omega) ?_; intro ad cp w3 o3 g3 n3; rw [Nat.zero_add]; obtain ⟨g, rfl, hgs, hb3, hO3, c3, f3, hcp, hcm⟩ := order_mid H.out.2.1 h1 H.out.2.2.2.2.1 H.out.2.2.2.2.2 o3 g3 n3; have c4 := World.cell?_setCell_same _ _ (Value.slice (some ⟨g, 0, none⟩) n cp) c3; have H3 := Lib.hid (And.intro hgs (And.intro hb3 (And.intro hO3 (And.intro hcp hcm)))); clear o3 g3 n3 hgs hb3 hO3 hcp hcm))
  obtain ⟨w4, hw4⟩ : ∃ w4, w4 = w3.setCell ⟨w.heap.size, 0, none⟩ (.slice (some ⟨g, 0, none⟩) n cp) := ⟨_, rfl⟩
  have hz3 := H3.out.2.1.size
  have hz1 := H.out.2.2.2.2.2
  have hb4 : Below w.heap.size w w4 := by rw [hw4]; exact below_put (H.out.2.2.1.trans (H3.out.2.1.mono H.out.2.2.1.size)) (Nat.le_refl _) _ _
  have hO4 : OwnS 32 0 w4 (some ⟨g, 0, none⟩) cp l := by
    rw [hw4]
    refine ⟨ownsRow_same H3.out.2.2.1.1 (fun k hk => ?_), fun _ _ => Nat.zero_le _⟩
    have hk' : g = k := by simpa [Value.ownBlock] using hk
    exact heap_setCell_other w3 _ k _ (fun e => by have e2 : k = w.heap.size := e; have := H3.out.1; omega)
  have hz4 : w.heap.size < w4.heap.size := by rw [hw4]; simp; omega
  have hsrt := sort_any (Bs := w.heap.size) hO4 (by have := H.out.2.1; omega) (by have := H.out.2.1; omega) (by rw [hw4, ← H.out.2.1]; exact c4) hz4 (by have := H3.out.1; omega)
  rw [← H.out.2.1] at hsrt
  rw [← hw4]
  have H4 := Lib.hid (And.intro hb4 (And.intro hsrt (And.intro hz4 (hw4 ▸ c4))))
  clear hb4 hO4 hsrt hz4 hw4 c4 c3 f3 c0 hz3 hz1
  refine H4.out.2.1.mono ?_
  rintro e w5 ⟨rfl, d, hp, hS5, hg5⟩
  have hgs := H3.out.1
  have hz1 := H.out.2.2.2.2.2
  have hz4 := H4.out.2.2.1
  have hb5 : Below w.heap.size w w5 := H4.out.1.trans (grownBy_below hg5 (by omega) (by omega))
  have c5 : w5.cell? ⟨w.heap.size, 0, none⟩ = some (.slice (some ⟨g, 0, none⟩) n cp) := (World.cell?_of_block (a := ⟨w.heap.size, 0, none⟩) (hg5.block w.heap.size H4.out.2.2.1 (fun e => by injection e with e; omega))).trans H4.out.2.2.2
  have H5 := Lib.hid (And.intro hp (And.intro hS5 hb5))
  clear hp hS5 hb5 hg5 hgs hz1 hz4
  go_wp2_with fail
  go_ret
  exact ⟨_, _, d, rfl, H5.out.1, H5.out.2.1, H5.out.2.2, H3.out.2.2.2.1, H3.out.2.2.2.2⟩
end Go.Proofs.YtefpfedpgedloaaGreatDoor
