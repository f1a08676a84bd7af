/- The leaf of bytes, without a program: what an item says. -/
import Derived.Test.YtgoimggfpagojaaCnF
import Derived.Test.YtgoimggfpagojaaLfMem
namespace Go.Proofs.Ytgoimggfpagojaa
open Go.RowKit
open Cn

def nndld : List UInt8 := [110, 110, 100, 108, 100]
def dnS : List UInt8 := [100, 110]
def tnS : List UInt8 := [116, 110]
theorem shape5 {x : Pt} {d : Nat} (hm : may x (d + 2) = true) (h : shapeP x nndld = true) :
    ∃ n k t ys z, x = lstT [numT n, numT k, txtT t, lstT ys, txtT z] ∧ t.size = 32 ∧ z.size = 32 ∧ ys.length ≤ 1024 ∧ mayAll ys d = true := by
  obtain ⟨l, rfl, -, hall, hf⟩ := shape_lst hm h
  unfold nndld at hf
  match l, hf, hall with
  | [], hf, _ => simp [fitAll] at hf
  | [_], hf, _ => simp [fitAll] at hf
  | [_, _], hf, _ => simp [fitAll] at hf
  | [_, _, _], hf, _ => simp [fitAll] at hf
  | [_, _, _, _], hf, _ => simp [fitAll] at hf
  | _ :: _ :: _ :: _ :: _ :: _ :: _, hf, _ => simp [fitAll] at hf
  | [a, b, c, e, f], hf, hall =>
    simp only [fitAll, Bool.and_eq_true] at hf
    obtain ⟨fa, fb, fc, fe, ff, -⟩ := hf
    have hmm := mayAll_mem hall
    obtain ⟨n, rfl, -⟩ := fit_num (hmm a (by simp)) fa
    obtain ⟨k, rfl, -⟩ := fit_num (hmm b (by simp)) fb
    obtain ⟨t, rfl, ht⟩ := fit_dig (hmm c (by simp)) fc
    obtain ⟨ys, rfl, hy1, hy2⟩ := fit_lst (hmm e (by simp)) fe
    obtain ⟨z, rfl, hz⟩ := fit_dig (hmm f (by simp)) ff
    exact ⟨n, k, t, ys, z, rfl, ht, hz, hy1, hy2⟩
theorem shape2 {x : Pt} {d : Nat} (hm : may x (d + 1) = true) (h : shapeP x dnS = true) : ∃ p, x = poT p ∧ p.tag.size = 32 := by
  obtain ⟨l, rfl, -, hall, hf⟩ := shape_lst hm h
  unfold dnS at hf
  match l, hf, hall with
  | [], hf, _ => simp [fitAll] at hf
  | [_], hf, _ => simp [fitAll] at hf
  | _ :: _ :: _ :: _, hf, _ => simp [fitAll] at hf
  | [a, b], hf, hall =>
    simp only [fitAll, Bool.and_eq_true] at hf
    obtain ⟨fa, fb, -⟩ := hf
    have hmm := mayAll_mem hall
    obtain ⟨t, rfl, ht⟩ := fit_dig (hmm a (by simp)) fa
    obtain ⟨n, rfl, -⟩ := fit_num (hmm b (by simp)) fb
    exact ⟨⟨t, n⟩, rfl, ht⟩
theorem shape2t {x : Pt} {d : Nat} (hm : may x (d + 1) = true) (h : shapeP x tnS = true) : ∃ p, x = poT p := by
  obtain ⟨l, rfl, -, hall, hf⟩ := shape_lst hm h
  unfold tnS at hf
  match l, hf, hall with
  | [], hf, _ => simp [fitAll] at hf
  | [_], hf, _ => simp [fitAll] at hf
  | _ :: _ :: _ :: _, hf, _ => simp [fitAll] at hf
  | [a, b], hf, hall =>
    simp only [fitAll, Bool.and_eq_true] at hf
    obtain ⟨fa, fb, -⟩ := hf
    have hmm := mayAll_mem hall
    obtain ⟨t, rfl⟩ := fit_txt (hmm a (by simp)) fa
    obtain ⟨n, rfl, -⟩ := fit_num (hmm b (by simp)) fb
    exact ⟨⟨t, n⟩, rfl⟩
theorem shape_po {p : Po} (h : p.tag.size = 32) : shapeP (poT p) dnS = true := by
  unfold poT
  rw [shape_of]
  simp [dnS, fitAll, fitP, txtT, numT, h]
theorem shape_pot (p : Po) : shapeP (poT p) tnS = true := by
  unfold poT
  rw [shape_of]
  simp [tnS, fitAll, fitP, txtT, numT]
theorem shape_lf {l : Lf} (hb : lfB l = true) : shapeP (lfT l) nndld = true := by
  obtain ⟨h1, -⟩ := lfB_iff.1 hb
  have h3 := headB_iff.1 h1
  unfold lfT
  rw [shape_of]
  simp [nndld, fitAll, fitP, txtT, numT, lstT, h3.2.2.1, h3.2.2.2.1]
/-- What is not decoded, or has another shape, is no leaf. -/
theorem rdL_err {s : ByteArray} {e : Int} (h : decR s.data.toList = .error e) : rdL s = (Lf.zero, 3) := by
  refine rdL_bad ?_
  rintro ⟨l, hb, rfl⟩
  rw [lfS_dec hb] at h; cases h
theorem rdL_shape {s : ByteArray} {x : Pt} (h : decR s.data.toList = .ok x) (hs : shapeP x nndld = false) : rdL s = (Lf.zero, 3) := by
  refine rdL_bad ?_
  rintro ⟨l, hb, rfl⟩
  rw [lfS_dec hb] at h
  injection h with h
  rw [← h, shape_lf hb] at hs; cases hs
theorem rdL_tag {s : ByteArray} {n k : Int} {t z : ByteArray} {ys : List Pt} (h : decR s.data.toList = .ok (lstT [numT n, numT k, txtT t, lstT ys, txtT z])) {y : Pt} (hy : y ∈ ys) (hs : shapeP y dnS = false) : rdL s = (Lf.zero, 3) := by
  refine rdL_bad ?_
  rintro ⟨l, hb, rfl⟩
  rw [lfS_dec hb] at h
  injection h with h
  unfold lfT lstT at h
  injection h with _ _ _ h
  simp only [List.cons.injEq] at h
  have h4 := h.2.2.2.1
  injection h4 with _ _ _ h4
  rw [← h4] at hy
  obtain ⟨p, hp, rfl⟩ := List.mem_map.1 hy
  rw [shape_po ((lfB_iff.1 hb).2.po hp).1] at hs; cases hs
/-- What has the shape of a leaf: that one, if it may be. -/
theorem rdL_is {s : ByteArray} {l : Lf} (h : decR s.data.toList = .ok (lfT l)) : rdL s = if lfB l = true then (l, 0) else (Lf.zero, 3) := by
  cases hb : lfB l with
  | true =>
    rw [if_pos rfl]
    have h1 := (decR_ok h).1
    have hs : lfS l = s := by
      unfold lfS
      rw [if_pos hb, h1]
    rw [← hs]
    exact rdL_ok hb
  | false =>
    rw [if_neg (by decide)]
    refine rdL_bad ?_
    rintro ⟨m, hm, rfl⟩
    rw [lfS_dec hm] at h
    injection h with h
    rw [← lfT_inj h, hm] at hb; cases hb
end Go.Proofs.Ytgoimggfpagojaa
