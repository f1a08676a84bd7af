/- Plain mathematics of shamir: shares, the polynomials that go through them, what they combine to. No walk. -/
import Derived.Test.YtefpfedpgedloaaDoorPLin
namespace Go.Proofs.YtefpfedpgedloaaDoor
open Go.RowKit
open Gf

/-- A share. -/
structure Shr where
  x : Int
  need : Int
  y : ByteArray
/-- May a secret be? -/
def mayS (s : ByteArray) : Bool := decide (1 ≤ s.size) && decide (s.size ≤ 64)
/-- May a share be? -/
def okS (s : Shr) : Bool := decide (1 ≤ s.x) && decide (s.x ≤ 255) && decide (1 ≤ s.need) && decide (s.need ≤ 255) && mayS s.y
theorem okS_iff {s : Shr} : okS s = true ↔ (1 ≤ s.x ∧ s.x ≤ 255) ∧ (1 ≤ s.need ∧ s.need ≤ 255) ∧ 1 ≤ s.y.size ∧ s.y.size ≤ 64 := by
  unfold okS mayS; simp only [Bool.and_eq_true, decide_eq_true_eq]; constructor
  · rintro ⟨⟨⟨⟨a, b⟩, c⟩, d⟩, e, f⟩; exact ⟨⟨a, b⟩, ⟨c, d⟩, e, f⟩
  · rintro ⟨⟨a, b⟩, ⟨c, d⟩, e, f⟩; exact ⟨⟨⟨⟨a, b⟩, c⟩, d⟩, e, f⟩
/-- A place as a byte. -/
def bx (x : Int) : UInt8 := UInt8.ofNat (x % 256).toNat
theorem bx_num {x : Int} (h0 : 0 ≤ x) (h1 : x ≤ 255) : ((bx x).toNat : Int) = x := by
  unfold bx; rw [UInt8.toNat_ofNat']; omega
theorem bx_inj {x y : Int} (h0 : 0 ≤ x) (h1 : x ≤ 255) (k0 : 0 ≤ y) (k1 : y ≤ 255) (h : bx x = bx y) : x = y := by
  rw [← bx_num h0 h1, ← bx_num k0 k1, h]
/-- Shares that are alike: all may be, of one number that is needed and as many bytes, at places that are unlike. -/
structure Alk (n : Int) (m : Nat) (l : List Shr) : Prop where
  ok : ∀ s ∈ l, okS s = true
  need : ∀ s ∈ l, s.need = n
  size : ∀ s ∈ l, s.y.size = m
  unlike : (l.map Shr.x).Nodup
def need0 : List Shr → Int
  | [] => 0
  | s :: _ => s.need
def len0 : List Shr → Nat
  | [] => 0
  | s :: _ => s.y.size
def alk (l : List Shr) : Bool := (l.all fun s => okS s && decide (s.need = need0 l) && decide (s.y.size = len0 l)) && decide (l.map Shr.x).Nodup
theorem alk_iff {l : List Shr} : alk l = true ↔ Alk (need0 l) (len0 l) l := by
  unfold alk
  simp only [Bool.and_eq_true, List.all_eq_true, decide_eq_true_eq]
  constructor
  · rintro ⟨h, k⟩; exact ⟨fun s hs => (h s hs).1.1, fun s hs => (h s hs).1.2, fun s hs => (h s hs).2, k⟩
  · rintro ⟨a, b, c, k⟩; exact ⟨fun s hs => ⟨⟨a s hs, b s hs⟩, c s hs⟩, k⟩
theorem Alk.perm {n : Int} {m : Nat} {l d : List Shr} (h : Alk n m l) (p : d.Perm l) : Alk n m d :=
  ⟨fun s hs => h.ok s (p.mem_iff.1 hs), fun s hs => h.need s (p.mem_iff.1 hs), fun s hs => h.size s (p.mem_iff.1 hs), (p.map Shr.x).nodup_iff.2 h.unlike⟩
theorem Alk.sub {n : Int} {m : Nat} {l d : List Shr} (h : Alk n m l) (p : d.Sublist l) : Alk n m d :=
  ⟨fun s hs => h.ok s (p.subset hs), fun s hs => h.need s (p.subset hs), fun s hs => h.size s (p.subset hs), (p.map Shr.x).nodup h.unlike⟩
theorem Alk.need0 {n : Int} {m : Nat} {l : List Shr} (h : Alk n m l) (hne : l ≠ []) : need0 l = n := by
  match l, hne with
  | s :: l, _ => exact h.need s (by simp)
theorem Alk.len0 {n : Int} {m : Nat} {l : List Shr} (h : Alk n m l) (hne : l ≠ []) : len0 l = m := by
  match l, hne with
  | s :: l, _ => exact h.size s (by simp)
theorem Alk.alk {n : Int} {m : Nat} {l : List Shr} (h : Alk n m l) : alk l = true := by
  rw [alk_iff]
  by_cases e : l = []
  · subst e; exact ⟨fun s hs => by simp at hs, fun s hs => by simp at hs, fun s hs => by simp at hs, by simp⟩
  · rw [h.need0 e, h.len0 e]; exact h
/-- The places, and a column of bytes. -/
def bys (l : List Shr) : List UInt8 := l.map fun s => bx s.x
def colm (i : Nat) (l : List Shr) : List UInt8 := l.map fun s => co s.y.data.toList i
theorem bys_length (l : List Shr) : (bys l).length = l.length := by simp [bys]
theorem colm_length (i : Nat) (l : List Shr) : (colm i l).length = l.length := by simp [colm]
theorem bys_nodup {l : List Shr} (h : ∀ s ∈ l, 0 ≤ s.x ∧ s.x ≤ 255) (hn : (l.map Shr.x).Nodup) : (bys l).Nodup := by
  induction l with
  | nil => simp [bys]
  | cons s l ih =>
    simp only [bys, List.map_cons, List.nodup_cons] at hn ⊢
    refine ⟨fun hm => hn.1 ?_, ih (fun t ht => h t (by simp [ht])) hn.2⟩
    obtain ⟨t, ht, e⟩ := List.mem_map.1 hm
    have a := h s (by simp)
    have b := h t (by simp [ht])
    rw [List.mem_map]
    exact ⟨t, ht, bx_inj b.1 b.2 a.1 a.2 e⟩
theorem Alk.bys {n : Int} {m : Nat} {l : List Shr} (h : Alk n m l) : (bys l).Nodup :=
  bys_nodup (fun s hs => by have := (okS_iff.1 (h.ok s hs)).1; omega) h.unlike
/-- What goes through a column. -/
def pol (i : Nat) (l : List Shr) : ByteArray := thrB (str (bys l)) (str (colm i l))
def polys (m : Nat) (l : List Shr) : List ByteArray := (List.range m).map fun i => pol i l
theorem polys_length (m : Nat) (l : List Shr) : (polys m l).length = m := by simp [polys]
def vals (ps : List ByteArray) (x : UInt8) : ByteArray := str (ps.map fun p => valB p x)
theorem vals_size (ps : List ByteArray) (x : UInt8) : (vals ps x).size = ps.length := by unfold vals; rw [str_size, List.length_map]
def Goes (N i : Nat) (p : ByteArray) (d : List Shr) : Prop := p.size ≤ N ∧ ∀ s ∈ d, valB p (bx s.x) = co s.y.data.toList i
theorem Goes.sub {N i : Nat} {p : ByteArray} {d l : List Shr} (h : Goes N i p l) (k : ∀ s ∈ d, s ∈ l) : Goes N i p d := ⟨h.1, fun s hs => h.2 s (k s hs)⟩
theorem pol_goes {d : List Shr} (hn : (bys d).Nodup) (hl : d.length ≤ 255) (i : Nat) : Goes d.length i (pol i d) d := by
  have hp : pts (str (bys d)) (str (colm i d)) = true := by
    unfold pts ulk
    rw [str_size, str_size, bys_length, colm_length, str_data]
    simp [hn, hl]
  obtain ⟨-, h2, h3⟩ := thrB_facts hp
  rw [str_size, bys_length] at h2
  refine ⟨h2, fun s hs => ?_⟩
  obtain ⟨k, hk, rfl⟩ := List.mem_iff_getElem.1 hs
  have := h3 k (by rw [str_size, bys_length]; exact hk)
  rw [str_data, str_data] at this
  have e1 : co (Go.Proofs.YtefpfedpgedloaaDoor.bys d) k = bx d[k].x := by unfold co Go.Proofs.YtefpfedpgedloaaDoor.bys; rw [List.getD_eq_getElem?_getD, List.getElem?_map, List.getElem?_eq_getElem hk]; rfl
  have e2 : co (colm i d) k = co d[k].y.data.toList i := by unfold co colm; rw [List.getD_eq_getElem?_getD, List.getElem?_map, List.getElem?_eq_getElem hk]; rfl
  rw [e1, e2] at this
  exact this
theorem goes_one {N i : Nat} {p q : ByteArray} {d : List Shr} (hn : (bys d).Nodup) (hN : N ≤ d.length) (hp : Goes N i p d) (hq : Goes N i q d) (x : UInt8) : valB p x = valB q x := by
  refine val_same (agree hn (by rw [bys_length, data_len]; exact Nat.le_trans hp.1 hN) (by rw [bys_length, data_len]; exact Nat.le_trans hq.1 hN) (fun r hr => ?_)) x
  obtain ⟨s, hs, rfl⟩ := List.mem_map.1 hr
  exact (hp.2 s hs).trans (hq.2 s hs).symm
/-- Do all shares lie on what goes through the first ones? -/
def fits (N m : Nat) (d : List Shr) : Bool := decide (∀ i, i < m → ∀ s ∈ d, valB (pol i (d.take N)) (bx s.x) = co s.y.data.toList i)
theorem fits_iff {n : Int} {m N : Nat} {d : List Shr} (h : Alk n m d) (hN : N ≤ d.length) (h255 : N ≤ 255) : fits N m d = true ↔ ∀ i, i < m → ∃ p, Goes N i p d := by
  unfold fits
  rw [decide_eq_true_iff]
  have ht : (d.take N).length = N := by rw [List.length_take]; omega
  have hg := fun i => pol_goes (d := d.take N) (h.sub (List.take_sublist _ _)).bys (by omega) i
  rw [ht] at hg
  constructor
  · intro k i hi
    exact ⟨_, (hg i).1, k i hi⟩
  · intro k i hi s hs
    obtain ⟨p, hp⟩ := k i hi
    rw [goes_one (h.sub (List.take_sublist N d)).bys (by omega) (hg i) (hp.sub (fun t ht => List.mem_of_mem_take ht)) (bx s.x)]
    exact hp.2 s hs
theorem pol_val {n : Int} {m N i : Nat} {d : List Shr} {p : ByteArray} (h : Alk n m d) (hN : N ≤ d.length) (h255 : N ≤ 255) (hp : Goes N i p d) (x : UInt8) : valB (pol i (d.take N)) x = valB p x := by
  have ht : (d.take N).length = N := by rw [List.length_take]; omega
  have hg := pol_goes (d := d.take N) (h.sub (List.take_sublist _ _)).bys (by omega) i
  rw [ht] at hg
  exact goes_one (h.sub (List.take_sublist N d)).bys (by omega) hg (hp.sub (fun t ht => List.mem_of_mem_take ht)) x
/-- What shares make at a place, and the error. -/
def outc (l : List Shr) (x : UInt8) : ByteArray × Int :=
  if alk l = false then (⟨#[]⟩, 1) else if l = [] ∨ (l.length : Int) < need0 l then (⟨#[]⟩, 4)
  else if fits (need0 l).toNat (len0 l) l = true then (vals (polys (len0 l) (l.take (need0 l).toNat)) x, 0) else (⟨#[]⟩, 12)
theorem outc_perm {d l : List Shr} (p : d.Perm l) (h : alk l = true) (x : UInt8) : outc d x = outc l x := by
  have hl := alk_iff.1 h
  have hd := hl.perm p
  have hlen := p.length_eq
  unfold outc
  rw [hd.alk, h, if_neg (show ¬ (true = false) by decide), if_neg (show ¬ (true = false) by decide)]
  by_cases e : l = []
  · subst e
    obtain rfl := List.perm_nil.1 p
    rfl
  have e2 : d ≠ [] := fun e2 => e (by subst e2; exact List.perm_nil.1 p.symm)
  rw [hd.need0 e2, hd.len0 e2]
  by_cases hs : (l.length : Int) < need0 l
  · rw [if_pos (show d = [] ∨ (d.length : Int) < need0 l from .inr (by rw [hlen]; exact hs)), if_pos (show l = [] ∨ (l.length : Int) < need0 l from .inr hs)]
  · rw [if_neg (show ¬ (d = [] ∨ (d.length : Int) < need0 l) from fun k => k.elim e2 (fun k => hs (by rw [← hlen]; exact k))), if_neg (show ¬ (l = [] ∨ (l.length : Int) < need0 l) from fun k => k.elim e hs)]
    have hok : 1 ≤ need0 l ∧ need0 l ≤ 255 := by
      match l, e with
      | s :: l, _ => exact (okS_iff.1 (hl.ok s (by simp))).2.1
    have hN : (need0 l).toNat ≤ l.length := by omega
    have f1 := fits_iff hl hN (by omega)
    have f2 := fits_iff hd (hlen ▸ hN) (by omega)
    have f3 : fits (need0 l).toNat (len0 l) d = true ↔ fits (need0 l).toNat (len0 l) l = true := by
      rw [f1, f2]
      constructor
      · intro k i hi; obtain ⟨q, hq⟩ := k i hi; exact ⟨q, hq.sub fun s hs => p.mem_iff.2 hs⟩
      · intro k i hi; obtain ⟨q, hq⟩ := k i hi; exact ⟨q, hq.sub fun s hs => p.mem_iff.1 hs⟩
    by_cases hf : fits (need0 l).toNat (len0 l) l = true
    · rw [if_pos hf, if_pos (f3.2 hf)]
      have e3 : vals (polys (len0 l) (d.take (need0 l).toNat)) x = vals (polys (len0 l) (l.take (need0 l).toNat)) x := by
        unfold vals polys
        rw [List.map_map, List.map_map]
        congr 1
        refine List.map_congr_left fun i hi => ?_
        obtain ⟨q, hq⟩ := f1.1 hf i (by simpa using hi)
        show valB _ x = valB _ x
        rw [pol_val hl hN (by omega) hq, pol_val hd (hlen ▸ hN) (by omega) (hq.sub fun s hs => p.mem_iff.1 hs)]
      rw [e3]
    · rw [if_neg hf, if_neg (fun k => hf (f3.1 k))]
/-- What is to be known of shares on which polynomials go. -/
theorem outc_goes {n : Int} {m : Nat} {l : List Shr} (h : Alk n m l) (hne : l ≠ []) (hN : n ≤ l.length) (g : ∀ i, i < m → ∃ p, Goes n.toNat i p l) (x : UInt8) (f : Nat → UInt8) (hf : ∀ i, i < m → ∀ p, Goes n.toNat i p l → valB p x = f i) : outc l x = (str ((List.range m).map f), 0) := by
  have hok : 1 ≤ n ∧ n ≤ 255 := by
    match l, hne with
    | s :: l, _ => have := (okS_iff.1 (h.ok s (by simp))).2.1; rw [h.need s (by simp)] at this; exact this
  unfold outc
  rw [h.alk, if_neg (show ¬ (true = false) by decide), h.need0 hne, h.len0 hne, if_neg (show ¬ (l = [] ∨ (l.length : Int) < n) from fun k => k.elim hne (fun k => by omega)), if_pos ((fits_iff h (by omega) (by omega)).2 g)]
  congr 1
  unfold vals polys
  rw [List.map_map]
  congr 1
  refine List.map_congr_left fun i hi => ?_
  obtain ⟨p, hp⟩ := g i (by simpa using hi)
  show valB _ x = _
  rw [pol_val h (by omega) (by omega) hp]
  exact hf i (by simpa using hi) p hp

/-- The first so many are these, the others those. -/
def upTo {α : Type} (f g : Nat → α) (n k : Nat) : List α := (List.range n).map fun i => if i < k then f i else g i
theorem upTo_length {α : Type} (f g : Nat → α) (n k : Nat) : (upTo f g n k).length = n := by simp [upTo]
theorem upTo_zero {α : Type} (f g : Nat → α) (n : Nat) : upTo f g n 0 = (List.range n).map g := by
  unfold upTo; refine List.map_congr_left fun i _ => ?_; rw [if_neg (by omega)]
theorem upTo_rep {α : Type} (f : Nat → α) (d : α) (n : Nat) : upTo f (fun _ => d) n 0 = List.replicate n d := by
  rw [upTo_zero]; apply List.ext_getElem?; intro i
  by_cases h : i < n
  · simp [h]
  · simp [h]
theorem upTo_step {α : Type} (f g : Nat → α) {n k : Nat} (_h : k < n) : (upTo f g n k).set k (f k) = upTo f g n (k + 1) := by
  apply List.ext_getElem?
  intro i
  unfold upTo
  by_cases hi : i < n
  · by_cases e : k = i
    · subst e
      rw [List.getElem?_set_self (by simpa using hi)]
      simp [hi]
    · rw [List.getElem?_set_ne e]
      simp only [List.getElem?_map, List.getElem?_range hi, Option.map_some, Option.some.injEq]
      by_cases h2 : i < k
      · rw [if_pos h2, if_pos (by omega)]
      · rw [if_neg h2, if_neg (by omega)]
  · rw [List.getElem?_eq_none (by simp; omega), List.getElem?_eq_none (by simp; omega)]
theorem upTo_all {α : Type} (f g : Nat → α) (n : Nat) : upTo f g n n = (List.range n).map f := by
  unfold upTo; refine List.map_congr_left fun i hi => ?_; rw [if_pos (List.mem_range.1 hi)]
theorem upTo_get {α : Type} (f g : Nat → α) {n k i : Nat} (h : i < n) : (upTo f g n k)[i]? = some (if i < k then f i else g i) := by
  unfold upTo; rw [List.getElem?_map, List.getElem?_range h]; rfl
/-- The polynomial that hides a byte, as far as so many drawn bytes. -/
def hideL (s d : ByteArray) (i n : Nat) : List UInt8 := co s.data.toList i :: (List.range n).map fun k => co d.data.toList (i + k * s.size)
theorem hideL_length (s d : ByteArray) (i n : Nat) : (hideL s d i n).length = n + 1 := by simp [hideL]
theorem hideL_snoc (s d : ByteArray) (i n : Nat) : hideL s d i (n + 1) = hideL s d i n ++ [co d.data.toList (i + n * s.size)] := by
  unfold hideL; rw [List.range_succ, List.map_append]; rfl
/-- A share's bytes. -/
def shY (s d : ByteArray) (q : Nat) (x : UInt8) : ByteArray := str ((List.range s.size).map fun i => val (hideL s d i q) x)
theorem shY_size (s d : ByteArray) (q : Nat) (x : UInt8) : (shY s d q x).size = s.size := by unfold shY; rw [str_size]; simp
theorem co_range (n : Nat) (f : Nat → UInt8) (i : Nat) (h : i < n) : co ((List.range n).map f) i = f i := by
  unfold co; rw [List.getD_eq_getElem?_getD, List.getElem?_map, List.getElem?_range h]; rfl
theorem co_shY (s d : ByteArray) (q : Nat) (x : UInt8) (i : Nat) (h : i < s.size) : co (shY s d q x).data.toList i = val (hideL s d i q) x := by
  unfold shY; rw [str_data, co_range _ _ _ h]
/-- The shares of a secret. -/
def splt (s d : ByteArray) (need : Int) (n : Nat) : List Shr := (List.range n).map fun (k : Nat) => ⟨(k : Int) + 1, need, shY s d (need.toNat - 1) (bx ((k : Int) + 1))⟩
theorem splt_length (s d : ByteArray) (need : Int) (n : Nat) : (splt s d need n).length = n := by simp [splt]
theorem splt_get {s d : ByteArray} {need : Int} {n k : Nat} (h : k < n) : (splt s d need n)[k]? = some ⟨(k : Int) + 1, need, shY s d (need.toNat - 1) (bx ((k : Int) + 1))⟩ := by
  unfold splt; rw [List.getElem?_map, List.getElem?_range h]; rfl
theorem mem_splt {s d : ByteArray} {need : Int} {n : Nat} {t : Shr} (h : t ∈ splt s d need n) : ∃ k, k < n ∧ t = ⟨(k : Int) + 1, need, shY s d (need.toNat - 1) (bx ((k : Int) + 1))⟩ := by
  obtain ⟨k, hk, e⟩ := List.mem_map.1 h
  exact ⟨k, by simpa using hk, e.symm⟩
/-- May a secret be split so? -/
def mayP (s d : ByteArray) (need n : Int) : Bool := mayS s && decide (1 ≤ need) && decide (need ≤ n) && decide (n ≤ 255) && decide ((d.size : Int) = (need - 1) * (s.size : Int))
theorem mayP_iff {s d : ByteArray} {need n : Int} : mayP s d need n = true ↔ (1 ≤ s.size ∧ s.size ≤ 64) ∧ 1 ≤ need ∧ need ≤ n ∧ n ≤ 255 ∧ (d.size : Int) = (need - 1) * (s.size : Int) := by
  unfold mayP mayS; simp only [Bool.and_eq_true, decide_eq_true_eq]; constructor
  · rintro ⟨⟨⟨⟨⟨a, b⟩, c⟩, d⟩, e⟩, f⟩; exact ⟨⟨a, b⟩, c, d, e, f⟩
  · rintro ⟨⟨a, b⟩, c, d, e, f⟩; exact ⟨⟨⟨⟨⟨a, b⟩, c⟩, d⟩, e⟩, f⟩
theorem nodup_xs (n : Nat) : ((List.range n).map fun (k : Nat) => (k : Int) + 1).Nodup := by
  induction n with
  | zero => simp
  | succ n ih =>
    rw [List.range_succ, List.map_append, List.nodup_append]
    refine ⟨ih, by simp, fun a ha b hb => ?_⟩
    obtain ⟨k, hk, rfl⟩ := List.mem_map.1 ha
    simp at hk hb
    omega
theorem splt_alk {s d : ByteArray} {need : Int} {n : Nat} (h : mayP s d need n = true) : Alk need s.size (splt s d need n) := by
  obtain ⟨⟨a, b⟩, c, e, f, g⟩ := mayP_iff.1 h
  refine ⟨fun t ht => ?_, fun t ht => ?_, fun t ht => ?_, ?_⟩
  · obtain ⟨k, hk, rfl⟩ := mem_splt ht
    rw [okS_iff]
    refine ⟨⟨?_, ?_⟩, ⟨c, by show need ≤ 255; omega⟩, ?_⟩
    · show (1 : Int) ≤ (k : Int) + 1; omega
    · show (k : Int) + 1 ≤ 255; omega
    · show 1 ≤ (shY _ _ _ _).size ∧ (shY _ _ _ _).size ≤ 64; rw [shY_size]; exact ⟨a, b⟩
  · obtain ⟨k, hk, rfl⟩ := mem_splt ht; rfl
  · obtain ⟨k, hk, rfl⟩ := mem_splt ht; exact shY_size _ _ _ _
  · unfold splt; rw [List.map_map]; exact nodup_xs n
theorem splt_goes {s d : ByteArray} {need : Int} {n i : Nat} (_h : 1 ≤ need) (hi : i < s.size) : Goes need.toNat i (str (hideL s d i (need.toNat - 1))) (splt s d need n) := by
  refine ⟨by rw [str_size, hideL_length]; omega, fun t ht => ?_⟩
  obtain ⟨k, hk, rfl⟩ := mem_splt ht
  show valB _ _ = co (shY _ _ _ _).data.toList i
  rw [co_shY _ _ _ _ _ hi]; rfl
end Go.Proofs.YtefpfedpgedloaaDoor
