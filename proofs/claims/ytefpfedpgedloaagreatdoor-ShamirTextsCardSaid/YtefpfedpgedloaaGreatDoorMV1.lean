/- Merged by program: Plain mathematics of shamir: shares, the polynomials that go through them, what they combine to. No walk. | What shares are joined to: plain facts. | Shares and lists of texts in memory. | shamir.values: what polynomials are at one place. | shamir.mayBeSplit, spread, Split. | shamir.Split. -/
import Derived.Test.YtefpfedpgedloaaGreatDoorMP2
import Derived.Test.YtefpfedpgedloaaGreatDoorMB
import Derived.Test.YtefpfedpgedloaaGreatDoorMP1
namespace Go.Proofs.YtefpfedpgedloaaGreatDoor
open Go.RowKit
open Gf

/-- A share. -/
structure Shr where
  x : Int
  need : Int
  y : ByteArray
/-- May a secret be? -/
def mayS (s : ByteArray) : Bool := decide (1 ≤ s.size) && decide (s.size ≤ 64)
/-- May a share be? -/
def okS (s : Shr) : Bool := decide (1 ≤ s.x) && decide (s.x ≤ 255) && decide (1 ≤ s.need) && decide (s.need ≤ 255) && mayS s.y
theorem okS_iff {s : Shr} : okS s = true ↔ (1 ≤ s.x ∧ s.x ≤ 255) ∧ (1 ≤ s.need ∧ s.need ≤ 255) ∧ 1 ≤ s.y.size ∧ s.y.size ≤ 64 := by
  unfold okS mayS; simp only [Bool.and_eq_true, decide_eq_true_eq]; constructor
  · rintro ⟨⟨⟨⟨a, b⟩, c⟩, d⟩, e, f⟩; exact ⟨⟨a, b⟩, ⟨c, d⟩, e, f⟩
  · rintro ⟨⟨a, b⟩, ⟨c, d⟩, e, f⟩; exact ⟨⟨⟨⟨a, b⟩, c⟩, d⟩, e, f⟩
/-- A place as a byte. -/
def bx (x : Int) : UInt8 := UInt8.ofNat (x % 256).toNat
theorem bx_num {x : Int} (h0 : 0 ≤ x) (h1 : x ≤ 255) : ((bx x).toNat : Int) = x := by
  unfold bx; rw [UInt8.toNat_ofNat']; omega
theorem bx_inj {x y : Int} (h0 : 0 ≤ x) (h1 : x ≤ 255) (k0 : 0 ≤ y) (k1 : y ≤ 255) (h : bx x = bx y) : x = y := by
  rw [← bx_num h0 h1, ← bx_num k0 k1, h]
/-- Shares that are alike: all may be, of one number that is needed and as many bytes, at places that are unlike. -/
structure Alk (n : Int) (m : Nat) (l : List Shr) : Prop where
  ok : ∀ s ∈ l, okS s = true
  need : ∀ s ∈ l, s.need = n
  size : ∀ s ∈ l, s.y.size = m
  unlike : (l.map Shr.x).Nodup
def need0 : List Shr → Int
  | [] => 0
  | s :: _ => s.need
def len0 : List Shr → Nat
  | [] => 0
  | s :: _ => s.y.size
def alk (l : List Shr) : Bool := (l.all fun s => okS s && decide (s.need = need0 l) && decide (s.y.size = len0 l)) && decide (l.map Shr.x).Nodup
theorem alk_iff {l : List Shr} : alk l = true ↔ Alk (need0 l) (len0 l) l := by
  unfold alk
  simp only [Bool.and_eq_true, List.all_eq_true, decide_eq_true_eq]
  constructor
  · rintro ⟨h, k⟩; exact ⟨fun s hs => (h s hs).1.1, fun s hs => (h s hs).1.2, fun s hs => (h s hs).2, k⟩
  · rintro ⟨a, b, c, k⟩; exact ⟨fun s hs => ⟨⟨a s hs, b s hs⟩, c s hs⟩, k⟩
theorem Alk.perm {n : Int} {m : Nat} {l d : List Shr} (h : Alk n m l) (p : d.Perm l) : Alk n m d :=
  ⟨fun s hs => h.ok s (p.mem_iff.1 hs), fun s hs => h.need s (p.mem_iff.1 hs), fun s hs => h.size s (p.mem_iff.1 hs), (p.map Shr.x).nodup_iff.2 h.unlike⟩
theorem Alk.sub {n : Int} {m : Nat} {l d : List Shr} (h : Alk n m l) (p : d.Sublist l) : Alk n m d :=
  ⟨fun s hs => h.ok s (p.subset hs), fun s hs => h.need s (p.subset hs), fun s hs => h.size s (p.subset hs), (p.map Shr.x).nodup h.unlike⟩
theorem Alk.need0 {n : Int} {m : Nat} {l : List Shr} (h : Alk n m l) (hne : l ≠ []) : need0 l = n := by
  match l, hne with
  | s :: l, _ => exact h.need s (by simp)
theorem Alk.len0 {n : Int} {m : Nat} {l : List Shr} (h : Alk n m l) (hne : l ≠ []) : len0 l = m := by
  match l, hne with
  | s :: l, _ => exact h.size s (by simp)
theorem Alk.alk {n : Int} {m : Nat} {l : List Shr} (h : Alk n m l) : alk l = true := by
  rw [alk_iff]
  by_cases e : l = []
  · subst e; exact ⟨fun s hs => by simp at hs, fun s hs => by simp at hs, fun s hs => by simp at hs, by simp⟩
  · rw [h.need0 e, h.len0 e]; exact h
/-- The places, and a column of bytes. -/
def bys (l : List Shr) : List UInt8 := l.map fun s => bx s.x
def colm (i : Nat) (l : List Shr) : List UInt8 := l.map fun s => co s.y.data.toList i
theorem bys_length (l : List Shr) : (bys l).length = l.length := by simp [bys]
theorem colm_length (i : Nat) (l : List Shr) : (colm i l).length = l.length := by simp [colm]
theorem bys_nodup {l : List Shr} (h : ∀ s ∈ l, 0 ≤ s.x ∧ s.x ≤ 255) (hn : (l.map Shr.x).Nodup) : (bys l).Nodup := by
  induction l with
  | nil => simp [bys]
  | cons s l ih =>
    simp only [bys, List.map_cons, List.nodup_cons] at hn ⊢
    refine ⟨fun hm => hn.1 ?_, ih (fun t ht => h t (by simp [ht])) hn.2⟩
    obtain ⟨t, ht, e⟩ := List.mem_map.1 hm
    have a := h s (by simp)
    have b := h t (by simp [ht])
    rw [List.mem_map]
    exact ⟨t, ht, bx_inj b.1 b.2 a.1 a.2 e⟩
theorem Alk.bys {n : Int} {m : Nat} {l : List Shr} (h : Alk n m l) : (bys l).Nodup :=
  bys_nodup (fun s hs => by have := (okS_iff.1 (h.ok s hs)).1; omega) h.unlike
/-- What goes through a column. -/
def pol (i : Nat) (l : List Shr) : ByteArray := thrB (str (bys l)) (str (colm i l))
def polys (m : Nat) (l : List Shr) : List ByteArray := (List.range m).map fun i => pol i l
theorem polys_length (m : Nat) (l : List Shr) : (polys m l).length = m := by simp [polys]
def vals (ps : List ByteArray) (x : UInt8) : ByteArray := str (ps.map fun p => valB p x)
theorem vals_size (ps : List ByteArray) (x : UInt8) : (vals ps x).size = ps.length := by unfold vals; rw [str_size, List.length_map]
def Goes (N i : Nat) (p : ByteArray) (d : List Shr) : Prop := p.size ≤ N ∧ ∀ s ∈ d, valB p (bx s.x) = co s.y.data.toList i
theorem Goes.sub {N i : Nat} {p : ByteArray} {d l : List Shr} (h : Goes N i p l) (k : ∀ s ∈ d, s ∈ l) : Goes N i p d := ⟨h.1, fun s hs => h.2 s (k s hs)⟩
theorem pol_goes {d : List Shr} (hn : (bys d).Nodup) (hl : d.length ≤ 255) (i : Nat) : Goes d.length i (pol i d) d := by
  have hp : pts (str (bys d)) (str (colm i d)) = true := by
    unfold pts ulk
    rw [str_size, str_size, bys_length, colm_length, str_data]
    simp [hn, hl]
  obtain ⟨-, h2, h3⟩ := thrB_facts hp
  rw [str_size, bys_length] at h2
  refine ⟨h2, fun s hs => ?_⟩
  obtain ⟨k, hk, rfl⟩ := List.mem_iff_getElem.1 hs
  have := h3 k (by rw [str_size, bys_length]; exact hk)
  rw [str_data, str_data] at this
  have e1 : co (Go.Proofs.YtefpfedpgedloaaGreatDoor.bys d) k = bx d[k].x := by unfold co Go.Proofs.YtefpfedpgedloaaGreatDoor.bys; rw [List.getD_eq_getElem?_getD, List.getElem?_map, List.getElem?_eq_getElem hk]; rfl
  have e2 : co (colm i d) k = co d[k].y.data.toList i := by unfold co colm; rw [List.getD_eq_getElem?_getD, List.getElem?_map, List.getElem?_eq_getElem hk]; rfl
  rw [e1, e2] at this
  exact this
theorem goes_one {N i : Nat} {p q : ByteArray} {d : List Shr} (hn : (bys d).Nodup) (hN : N ≤ d.length) (hp : Goes N i p d) (hq : Goes N i q d) (x : UInt8) : valB p x = valB q x := by
  refine val_same (agree hn (by rw [bys_length, data_len]; exact Nat.le_trans hp.1 hN) (by rw [bys_length, data_len]; exact Nat.le_trans hq.1 hN) (fun r hr => ?_)) x
  obtain ⟨s, hs, rfl⟩ := List.mem_map.1 hr
  exact (hp.2 s hs).trans (hq.2 s hs).symm
/-- Do all shares lie on what goes through the first ones? -/
def fits (N m : Nat) (d : List Shr) : Bool := decide (∀ i, i < m → ∀ s ∈ d, valB (pol i (d.take N)) (bx s.x) = co s.y.data.toList i)
theorem fits_iff {n : Int} {m N : Nat} {d : List Shr} (h : Alk n m d) (hN : N ≤ d.length) (h255 : N ≤ 255) : fits N m d = true ↔ ∀ i, i < m → ∃ p, Goes N i p d := by
  unfold fits
  rw [decide_eq_true_iff]
  have ht : (d.take N).length = N := by rw [List.length_take]; omega
  have hg := fun i => pol_goes (d := d.take N) (h.sub (List.take_sublist _ _)).bys (by omega) i
  rw [ht] at hg
  constructor
  · intro k i hi
    exact ⟨_, (hg i).1, k i hi⟩
  · intro k i hi s hs
    obtain ⟨p, hp⟩ := k i hi
    rw [goes_one (h.sub (List.take_sublist N d)).bys (by omega) (hg i) (hp.sub (fun t ht => List.mem_of_mem_take ht)) (bx s.x)]
    exact hp.2 s hs
theorem pol_val {n : Int} {m N i : Nat} {d : List Shr} {p : ByteArray} (h : Alk n m d) (hN : N ≤ d.length) (h255 : N ≤ 255) (hp : Goes N i p d) (x : UInt8) : valB (pol i (d.take N)) x = valB p x := by
  have ht : (d.take N).length = N := by rw [List.length_take]; omega
  have hg := pol_goes (d := d.take N) (h.sub (List.take_sublist _ _)).bys (by omega) i
  rw [ht] at hg
  exact goes_one (h.sub (List.take_sublist N d)).bys (by omega) hg (hp.sub (fun t ht => List.mem_of_mem_take ht)) x
/-- What shares make at a place, and the error. -/
def outc (l : List Shr) (x : UInt8) : ByteArray × Int :=
  if alk l = false then (⟨#[]⟩, 1) else if l = [] ∨ (l.length : Int) < need0 l then (⟨#[]⟩, 4)
  else if fits (need0 l).toNat (len0 l) l = true then (vals (polys (len0 l) (l.take (need0 l).toNat)) x, 0) else (⟨#[]⟩, 12)
theorem outc_perm {d l : List Shr} (p : d.Perm l) (h : alk l = true) (x : UInt8) : outc d x = outc l x := by
  have hl := alk_iff.1 h
  have hd := hl.perm p
  have hlen := p.length_eq
  unfold outc
  rw [hd.alk, h, if_neg (show ¬ (true = false) by decide), if_neg (show ¬ (true = false) by decide)]
  by_cases e : l = []
  · subst e
    obtain rfl := List.perm_nil.1 p
    rfl
  have e2 : d ≠ [] := fun e2 => e (by subst e2; exact List.perm_nil.1 p.symm)
  rw [hd.need0 e2, hd.len0 e2]
  by_cases hs : (l.length : Int) < need0 l
  · rw [if_pos (show d = [] ∨ (d.length : Int) < need0 l from .inr (by rw [hlen]; exact hs)), if_pos (show l = [] ∨ (l.length : Int) < need0 l from .inr hs)]
  · rw [if_neg (show ¬ (d = [] ∨ (d.length : Int) < need0 l) from fun k => k.elim e2 (fun k => hs (by rw [← hlen]; exact k))), if_neg (show ¬ (l = [] ∨ (l.length : Int) < need0 l) from fun k => k.elim e hs)]
    have hok : 1 ≤ need0 l ∧ need0 l ≤ 255 := by
      match l, e with
      | s :: l, _ => exact (okS_iff.1 (hl.ok s (by simp))).2.1
    have hN : (need0 l).toNat ≤ l.length := by omega
    have f1 := fits_iff hl hN (by omega)
    have f2 := fits_iff hd (hlen ▸ hN) (by omega)
    have f3 : fits (need0 l).toNat (len0 l) d = true ↔ fits (need0 l).toNat (len0 l) l = true := by
      rw [f1, f2]
      constructor
      · intro k i hi; obtain ⟨q, hq⟩ := k i hi; exact ⟨q, hq.sub fun s hs => p.mem_iff.2 hs⟩
      · intro k i hi; obtain ⟨q, hq⟩ := k i hi; exact ⟨q, hq.sub fun s hs => p.mem_iff.1 hs⟩
    by_cases hf : fits (need0 l).toNat (len0 l) l = true
    · rw [if_pos hf, if_pos (f3.2 hf)]
      have e3 : vals (polys (len0 l) (d.take (need0 l).toNat)) x = vals (polys (len0 l) (l.take (need0 l).toNat)) x := by
        unfold vals polys
        rw [List.map_map, List.map_map]
        congr 1
        refine List.map_congr_left fun i hi => ?_
        obtain ⟨q, hq⟩ := f1.1 hf i (by simpa using hi)
        show valB _ x = valB _ x
        rw [pol_val hl hN (by omega) hq, pol_val hd (hlen ▸ hN) (by omega) (hq.sub fun s hs => p.mem_iff.1 hs)]
      rw [e3]
    · rw [if_neg hf, if_neg (fun k => hf (f3.1 k))]
/-- What is to be known of shares on which polynomials go. -/
theorem outc_goes {n : Int} {m : Nat} {l : List Shr} (h : Alk n m l) (hne : l ≠ []) (hN : n ≤ l.length) (g : ∀ i, i < m → ∃ p, Goes n.toNat i p l) (x : UInt8) (f : Nat → UInt8) (hf : ∀ i, i < m → ∀ p, Goes n.toNat i p l → valB p x = f i) : outc l x = (str ((List.range m).map f), 0) := by
  have hok : 1 ≤ n ∧ n ≤ 255 := by
    match l, hne with
    | s :: l, _ => have := (okS_iff.1 (h.ok s (by simp))).2.1; rw [h.need s (by simp)] at this; exact this
  unfold outc
  rw [h.alk, if_neg (show ¬ (true = false) by decide), h.need0 hne, h.len0 hne, if_neg (show ¬ (l = [] ∨ (l.length : Int) < n) from fun k => k.elim hne (fun k => by omega)), if_pos ((fits_iff h (by omega) (by omega)).2 g)]
  congr 1
  unfold vals polys
  rw [List.map_map]
  congr 1
  refine List.map_congr_left fun i hi => ?_
  obtain ⟨p, hp⟩ := g i (by simpa using hi)
  show valB _ x = _
  rw [pol_val h (by omega) (by omega) hp]
  exact hf i (by simpa using hi) p hp

/-- The first so many are these, the others those. -/
def upTo {α : Type} (f g : Nat → α) (n k : Nat) : List α := (List.range n).map fun i => if i < k then f i else g i
theorem upTo_length {α : Type} (f g : Nat → α) (n k : Nat) : (upTo f g n k).length = n := by simp [upTo]
theorem upTo_zero {α : Type} (f g : Nat → α) (n : Nat) : upTo f g n 0 = (List.range n).map g := by
  unfold upTo; refine List.map_congr_left fun i _ => ?_; rw [if_neg (by omega)]
theorem upTo_rep {α : Type} (f : Nat → α) (d : α) (n : Nat) : upTo f (fun _ => d) n 0 = List.replicate n d := by
  rw [upTo_zero]; apply List.ext_getElem?; intro i
  by_cases h : i < n
  · simp [h]
  · simp [h]
theorem upTo_step {α : Type} (f g : Nat → α) {n k : Nat} (_h : k < n) : (upTo f g n k).set k (f k) = upTo f g n (k + 1) := by
  apply List.ext_getElem?
  intro i
  unfold upTo
  by_cases hi : i < n
  · by_cases e : k = i
    · subst e
      rw [List.getElem?_set_self (by simpa using hi)]
      simp [hi]
    · rw [List.getElem?_set_ne e]
      simp only [List.getElem?_map, List.getElem?_range hi, Option.map_some, Option.some.injEq]
      by_cases h2 : i < k
      · rw [if_pos h2, if_pos (by omega)]
      · rw [if_neg h2, if_neg (by omega)]
  · rw [List.getElem?_eq_none (by simp; omega), List.getElem?_eq_none (by simp; omega)]
theorem upTo_all {α : Type} (f g : Nat → α) (n : Nat) : upTo f g n n = (List.range n).map f := by
  unfold upTo; refine List.map_congr_left fun i hi => ?_; rw [if_pos (List.mem_range.1 hi)]
theorem upTo_get {α : Type} (f g : Nat → α) {n k i : Nat} (h : i < n) : (upTo f g n k)[i]? = some (if i < k then f i else g i) := by
  unfold upTo; rw [List.getElem?_map, List.getElem?_range h]; rfl
/-- The polynomial that hides a byte, as far as so many drawn bytes. -/
def hideL (s d : ByteArray) (i n : Nat) : List UInt8 := co s.data.toList i :: (List.range n).map fun k => co d.data.toList (i + k * s.size)
theorem hideL_length (s d : ByteArray) (i n : Nat) : (hideL s d i n).length = n + 1 := by simp [hideL]
theorem hideL_snoc (s d : ByteArray) (i n : Nat) : hideL s d i (n + 1) = hideL s d i n ++ [co d.data.toList (i + n * s.size)] := by
  unfold hideL; rw [List.range_succ, List.map_append]; rfl
/-- A share's bytes. -/
def shY (s d : ByteArray) (q : Nat) (x : UInt8) : ByteArray := str ((List.range s.size).map fun i => val (hideL s d i q) x)
theorem shY_size (s d : ByteArray) (q : Nat) (x : UInt8) : (shY s d q x).size = s.size := by unfold shY; rw [str_size]; simp
theorem co_range (n : Nat) (f : Nat → UInt8) (i : Nat) (h : i < n) : co ((List.range n).map f) i = f i := by
  unfold co; rw [List.getD_eq_getElem?_getD, List.getElem?_map, List.getElem?_range h]; rfl
theorem co_shY (s d : ByteArray) (q : Nat) (x : UInt8) (i : Nat) (h : i < s.size) : co (shY s d q x).data.toList i = val (hideL s d i q) x := by
  unfold shY; rw [str_data, co_range _ _ _ h]
/-- The shares of a secret. -/
def splt (s d : ByteArray) (need : Int) (n : Nat) : List Shr := (List.range n).map fun (k : Nat) => ⟨(k : Int) + 1, need, shY s d (need.toNat - 1) (bx ((k : Int) + 1))⟩
theorem splt_length (s d : ByteArray) (need : Int) (n : Nat) : (splt s d need n).length = n := by simp [splt]
theorem splt_get {s d : ByteArray} {need : Int} {n k : Nat} (h : k < n) : (splt s d need n)[k]? = some ⟨(k : Int) + 1, need, shY s d (need.toNat - 1) (bx ((k : Int) + 1))⟩ := by
  unfold splt; rw [List.getElem?_map, List.getElem?_range h]; rfl
theorem mem_splt {s d : ByteArray} {need : Int} {n : Nat} {t : Shr} (h : t ∈ splt s d need n) : ∃ k, k < n ∧ t = ⟨(k : Int) + 1, need, shY s d (need.toNat - 1) (bx ((k : Int) + 1))⟩ := by
  obtain ⟨k, hk, e⟩ := List.mem_map.1 h
  exact ⟨k, by simpa using hk, e.symm⟩
/-- May a secret be split so? -/
def mayP (s d : ByteArray) (need n : Int) : Bool := mayS s && decide (1 ≤ need) && decide (need ≤ n) && decide (n ≤ 255) && decide ((d.size : Int) = (need - 1) * (s.size : Int))
theorem mayP_iff {s d : ByteArray} {need n : Int} : mayP s d need n = true ↔ (1 ≤ s.size ∧ s.size ≤ 64) ∧ 1 ≤ need ∧ need ≤ n ∧ n ≤ 255 ∧ (d.size : Int) = (need - 1) * (s.size : Int) := by
  unfold mayP mayS; simp only [Bool.and_eq_true, decide_eq_true_eq]; constructor
  · rintro ⟨⟨⟨⟨⟨a, b⟩, c⟩, d⟩, e⟩, f⟩; exact ⟨⟨a, b⟩, c, d, e, f⟩
  · rintro ⟨⟨a, b⟩, c, d, e, f⟩; exact ⟨⟨⟨⟨⟨a, b⟩, c⟩, d⟩, e⟩, f⟩
theorem nodup_xs (n : Nat) : ((List.range n).map fun (k : Nat) => (k : Int) + 1).Nodup := by
  induction n with
  | zero => simp
  | succ n ih =>
    rw [List.range_succ, List.map_append, List.nodup_append]
    refine ⟨ih, by simp, fun a ha b hb => ?_⟩
    obtain ⟨k, hk, rfl⟩ := List.mem_map.1 ha
    simp at hk hb
    omega
theorem splt_alk {s d : ByteArray} {need : Int} {n : Nat} (h : mayP s d need n = true) : Alk need s.size (splt s d need n) := by
  obtain ⟨⟨a, b⟩, c, e, f, g⟩ := mayP_iff.1 h
  refine ⟨fun t ht => ?_, fun t ht => ?_, fun t ht => ?_, ?_⟩
  · obtain ⟨k, hk, rfl⟩ := mem_splt ht
    rw [okS_iff]
    refine ⟨⟨?_, ?_⟩, ⟨c, by show need ≤ 255; omega⟩, ?_⟩
    · show (1 : Int) ≤ (k : Int) + 1; omega
    · show (k : Int) + 1 ≤ 255; omega
    · show 1 ≤ (shY _ _ _ _).size ∧ (shY _ _ _ _).size ≤ 64; rw [shY_size]; exact ⟨a, b⟩
  · obtain ⟨k, hk, rfl⟩ := mem_splt ht; rfl
  · obtain ⟨k, hk, rfl⟩ := mem_splt ht; exact shY_size _ _ _ _
  · unfold splt; rw [List.map_map]; exact nodup_xs n
theorem splt_goes {s d : ByteArray} {need : Int} {n i : Nat} (_h : 1 ≤ need) (hi : i < s.size) : Goes need.toNat i (str (hideL s d i (need.toNat - 1))) (splt s d need n) := by
  refine ⟨by rw [str_size, hideL_length]; omega, fun t ht => ?_⟩
  obtain ⟨k, hk, rfl⟩ := mem_splt ht
  show valB _ _ = co (shY _ _ _ _).data.toList i
  rw [co_shY _ _ _ _ _ hi]; rfl
end Go.Proofs.YtefpfedpgedloaaGreatDoor
namespace Go.Proofs.YtefpfedpgedloaaGreatDoor
open Go.RowKit
open Gf

theorem str_ext {a b : ByteArray} (h : a.data.toList = b.data.toList) : a = b := by
  apply ByteArray.ext; apply Array.ext'; exact h
theorem bytes_ext {a b : ByteArray} (h1 : a.size = b.size) (h : ∀ i, i < b.size → co a.data.toList i = co b.data.toList i) : a = b := by
  refine str_ext (List.ext_getElem (by rw [data_len, data_len]; exact h1) (fun i h2 h3 => ?_))
  have := h i (by rw [← data_len]; exact h3)
  unfold co at this
  rw [List.getD_eq_getElem?_getD, List.getD_eq_getElem?_getD, List.getElem?_eq_getElem h2, List.getElem?_eq_getElem h3] at this
  exact this
theorem co_vals (m : Nat) (e : List Shr) (x : UInt8) (i : Nat) (h : i < m) : co (vals (polys m e) x).data.toList i = valB (pol i e) x := by
  unfold vals polys
  rw [str_data, List.map_map]
  exact co_range m (fun i => valB (pol i e) x) i h
theorem vals_eq_iff {m : Nat} {e : List Shr} {x : UInt8} {y : ByteArray} (h : y.size = m) : vals (polys m e) x = y ↔ ∀ i, i < m → valB (pol i e) x = co y.data.toList i := by
  constructor
  · intro k i hi
    rw [← k, co_vals m e x i hi]
  · intro k
    refine bytes_ext (by rw [vals_size, polys_length, h]) (fun i hi => ?_)
    rw [co_vals m e x i (by omega)]
    exact k i (by omega)
theorem fits_rest {n : Int} {m N : Nat} {d : List Shr} (h : Alk n m d) (hN : N ≤ d.length) (h255 : N ≤ 255) : fits N m d = true ↔ ∀ s ∈ d.drop N, vals (polys m (d.take N)) (bx s.x) = s.y := by
  unfold fits
  rw [decide_eq_true_iff]
  constructor
  · intro k s hs
    have hm := List.mem_of_mem_drop hs
    exact (vals_eq_iff (h.size s hm)).2 (fun i hi => k i hi s hm)
  · intro k i hi s hs
    rw [← List.take_append_drop N d, List.mem_append] at hs
    rcases hs with hs | hs
    · have ht : (d.take N).length = N := by rw [List.length_take]; omega
      exact (pol_goes (d := d.take N) (h.sub (List.take_sublist _ _)).bys (by omega) i).2 s hs
    · exact (vals_eq_iff (h.size s (List.mem_of_mem_drop hs))).1 (k s hs) i hi
theorem polys_small {n : Int} {m N : Nat} {d : List Shr} (h : Alk n m d) (hN : N ≤ d.length) (h255 : N ≤ 255) : ∀ p ∈ polys m (d.take N), p.size ≤ 255 := fun p hp => by
  obtain ⟨i, -, rfl⟩ := List.mem_map.1 hp
  have ht : (d.take N).length = N := by rw [List.length_take]; omega
  have := (pol_goes (d := d.take N) (h.sub (List.take_sublist _ _)).bys (by omega) i).1
  omega
/-- What join says. -/
def JoinE (l : List Shr) (own : Option Addr → Nat → List ByteArray → Prop) (e : Ending) : Prop :=
  (alk l = false ∧ e = .returned (.tuple #[.slice none 0 0, .int .i64 1])) ∨
  (alk l = true ∧ (l = [] ∨ (l.length : Int) < need0 l) ∧ e = .returned (.tuple #[.slice none 0 0, .int .i64 4])) ∨
  (alk l = true ∧ l ≠ [] ∧ need0 l ≤ l.length ∧ ∃ d : List Shr, d.Perm l ∧ ((fits (need0 l).toNat (len0 l) d = false ∧ e = .returned (.tuple #[.slice none 0 0, .int .i64 12])) ∨
    (fits (need0 l).toNat (len0 l) d = true ∧ ∃ a cp, e = .returned (.tuple #[.slice a (len0 l) cp, .int .i64 0]) ∧ own a cp (polys (len0 l) (d.take (need0 l).toNat)))))
end Go.Proofs.YtefpfedpgedloaaGreatDoor
namespace Go.Proofs.YtefpfedpgedloaaGreatDoor
open Go.RowKit
open Gf

theorem ownsRow_same {w w' : World} {e : TypeId} {k : Nat} {v : Value} {n : Nat} {xs : List Value} (h : w.ownsRow 0 e k v n xs) (hs : ∀ g, v.ownBlock = some g → w'.heap[g]? = w.heap[g]?) : w'.ownsRow 0 e k v n xs := by
  obtain ⟨h1, h2⟩ := h
  refine ⟨h1, ?_⟩
  rcases h2 with h2 | ⟨g, c, cur, rfl, hB, hg, h3⟩
  · exact .inl h2
  · exact .inr ⟨g, c, cur, rfl, hB, (hs g rfl).trans hg, h3⟩
theorem own_form {w : World} {e : TypeId} {k : Nat} {a : Option Addr} {n cap : Nat} {xs : List Value} (h : w.ownsRow 0 e k (.slice a n cap) n xs) : (a = none ∧ n = 0 ∧ cap = 0) ∨ (∃ g, a = some ⟨g, 0, none⟩ ∧ n ≤ cap ∧ cap ≤ maxLen) := by
  rcases h.2 with ⟨e, hn⟩ | ⟨g, c, cur, e, hB, hg, hn, hc, hs, ht⟩
  · injection e with e1 e2 e3
    exact .inl ⟨e1, hn, e3⟩
  · injection e with e1 e2 e3
    subst e3
    exact .inr ⟨g, e1, hn, hc⟩
/-- A row that the call made itself, in a block from B on (or nil). -/
def Own (T : TypeId) (k : Nat) (B : Nat) (w : World) (a : Option Addr) (n cap : Nat) (xs : List Value) : Prop :=
  w.ownsRow 0 T k (.slice a n cap) n xs ∧ ∀ g, (Value.slice a n cap).ownBlock = some g → B ≤ g
theorem Own.nil (T : TypeId) (k B : Nat) (w : World) : Own T k B w none 0 0 [] := ⟨World.ownsRow_nil _ _ _ _, fun g hg => by simp [Value.ownBlock] at hg⟩
theorem Own.below {T : TypeId} {k B : Nat} {w w' : World} {a : Option Addr} {n cap : Nat} {xs : List Value} (h : Own T k B w a n cap xs) (hb : Below w.heap.size w w') : Own T k B w' a n cap xs :=
  ⟨ownsRow_same h.1 (fun g hg => hb.block g (h.1.lt g hg).2), h.2⟩
theorem Own.mono {T : TypeId} {k B B' : Nat} {w : World} {a : Option Addr} {n cap : Nat} {xs : List Value} (h : Own T k B w a n cap xs) (hb : B' ≤ B) : Own T k B' w a n cap xs := ⟨h.1, fun g hg => Nat.le_trans hb (h.2 g hg)⟩
theorem Own.len {T : TypeId} {k B : Nat} {w : World} {a : Option Addr} {n cap : Nat} {xs : List Value} (h : Own T k B w a n cap xs) : xs.length = n * k := h.1.1
theorem Own.addr {T : TypeId} {k B : Nat} {w : World} {a : Option Addr} {n cap : Nat} {xs : List Value} (h : Own T k B w a n cap xs) (hn : 0 < n) : ∃ g, a = some ⟨g, 0, none⟩ ∧ B ≤ g ∧ g < w.heap.size ∧ n ≤ cap ∧ ∀ j, w.frozen? ⟨g, j, none⟩ = false := by
  rcases own_form h.1 with ⟨-, h0, -⟩ | ⟨g, rfl, hc, -⟩
  · omega
  · exact ⟨g, rfl, h.2 g rfl, (h.1.lt g rfl).2, hc, fun j => World.ownsRow.frozenAt h.1 j⟩
theorem Own.cell {T : TypeId} {k B : Nat} {w : World} {g n cap : Nat} {xs : List Value} (h : Own T k B w (some ⟨g, 0, none⟩) n cap xs) {j : Nat} (hj : j < n * k) : w.cell? ⟨g, j, none⟩ = xs[j]? := World.ownsRow.cellAt h.1 j hj
/-- A cell is another now. -/
theorem Own.put {T : TypeId} {k B : Nat} {w : World} {g n cap : Nat} {xs : List Value} (h : Own T k B w (some ⟨g, 0, none⟩) n cap xs) (j : Nat) (v : Value) : Own T k B (w.setCell ⟨g, j, none⟩ v) (some ⟨g, 0, none⟩) n cap (xs.set j v) :=
  ⟨(World.ownsRow.stored h.1 j v).1, h.2⟩
theorem below_put {B : Nat} {w0 w : World} {g : Nat} (hb : Below B w0 w) (hg : B ≤ g) (j : Nat) (v : Value) : Below B w0 (w.setCell ⟨g, j, none⟩ v) :=
  hb.trans ⟨rfl, rfl, rfl, by simp, fun k hk => heap_setCell_other w _ k v (fun e => by have e2 : k = g := e; omega)⟩
/-- Texts as cells; a list of texts of the call's own. -/
def tcells (l : List ByteArray) : List Value := l.map Value.string
theorem Tryz.info_txt : (Tryz.prog.info? 9).map (fun i => (i.zero, i.size, i.bytes)) = some (some (.string ⟨#[]⟩), 1, 16) := by kernel_rfl
def OwnX (B : Nat) (w : World) (a : Option Addr) (cap : Nat) (l : List ByteArray) : Prop := Own 9 1 B w a l.length cap (tcells l)
theorem OwnX.at {B : Nat} {w : World} {a : Option Addr} {cap : Nat} {l : List ByteArray} (h : OwnX B w a cap l) : TextsAt w a l := fun j hj => by
  obtain ⟨g, rfl, -, h2, -⟩ := Own.addr h (by omega)
  refine ⟨g, 0, rfl, h2, ?_⟩
  rw [Nat.zero_add, Own.cell h (by omega)]
  simp [tcells, List.getD_eq_getElem?_getD, hj]
theorem OwnX.put {B : Nat} {w : World} {g cap : Nat} {l : List ByteArray} (h : OwnX B w (some ⟨g, 0, none⟩) cap l) (j : Nat) (s : ByteArray) : OwnX B (w.setCell ⟨g, j, none⟩ (.string s)) (some ⟨g, 0, none⟩) cap (l.set j s) := by
  unfold OwnX
  rw [List.length_set, show tcells (l.set j s) = (tcells l).set j (.string s) by unfold tcells; rw [List.map_set]]
  exact Own.put h j _
theorem make_texts (w : World) (n : Nat) (hn : n ≤ 1000000) : ∃ w', (Instr.makeSlice 53 (.int .i64 (n : Int)) (.int .i64 (n : Int))).run Tryz.prog w = .ok (.slice (some ⟨w.heap.size, 0, none⟩) n n) w' ∧ OwnX w.heap.size w' (some ⟨w.heap.size, 0, none⟩) n (List.replicate n ⟨#[]⟩) ∧ Below w.heap.size w w' := by
  obtain ⟨i0, hi0, hz0, hz1, hz2⟩ := info_parts Tryz.info_txt
  obtain ⟨w', h1, h2, h3⟩ := run_makeSlice_full (P := Tryz.prog) w 0 53 9 i0 (.string ⟨#[]⟩) 1 Tryz.underlying53 hi0 hz0 hz1 .i64 .i64 n (by omega) (by rw [hz2]; omega) (by unfold maxLen; omega) (Nat.zero_le _)
  refine ⟨w', h1, ?_, (Below.refl _ _).grown h3 (Nat.le_refl _) (fun k hk => by cases hk)⟩
  unfold OwnX
  rw [List.length_replicate]
  have e : tcells (List.replicate n ⟨#[]⟩) = (madeCells (Value.string ⟨#[]⟩).cells (n * 1)).toList := by
    simp only [tcells, madeCells, Value.cells, List.map_replicate, Nat.mul_one]
    apply List.ext_getElem?
    intro i
    by_cases hi : i < n
    · simp [hi, Nat.mod_one]
    · simp [hi]
  rw [e]; exact ⟨h2, fun g hg => by simp [Value.ownBlock] at hg; omega⟩
/-- Shares as cells. -/
def Shr.cells (s : Shr) : Array Value := #[.int .i64 s.x, .int .i64 s.need, .string s.y]
def shs (l : List Shr) : List Value := l.flatMap fun s => s.cells.toList
theorem shs_length : ∀ l : List Shr, (shs l).length = l.length * 3
  | [] => rfl
  | s :: l => by
    have ih := shs_length l
    simp only [shs, List.flatMap_cons, List.length_append, List.length_cons] at ih ⊢
    rw [ih]; simp [Shr.cells]; omega
theorem shs_append (l d : List Shr) : shs (l ++ d) = shs l ++ shs d := by simp [shs]
theorem shs_at : ∀ (l : List Shr) (k : Nat) (s : Shr), l[k]? = some s → ∀ j, j < 3 → (shs l)[k * 3 + j]? = s.cells[j]?
  | [], k, s, h, j, _ => by simp at h
  | d :: l, 0, s, h, j, hj => by
    simp only [List.getElem?_cons_zero, Option.some.injEq] at h
    subst h
    simp only [shs, List.flatMap_cons]
    rw [List.getElem?_append_left (by simp [Shr.cells]; omega)]
    simp
  | d :: l, k + 1, s, h, j, hj => by
    have ih := shs_at l k s (by simpa using h) j hj
    simp only [shs, List.flatMap_cons] at ih ⊢
    rw [List.getElem?_append_right (by simp [Shr.cells]; omega), ← ih]
    congr 1
    simp [Shr.cells]
    omega
theorem shs_one (l : List Shr) : ∀ u ∈ shs l, u.oneCell' = true := fun u hu => by
  simp only [shs, List.mem_flatMap, Shr.cells, List.mem_cons, List.not_mem_nil, or_false] at hu
  obtain ⟨s, _, rfl | rfl | rfl⟩ := hu <;> rfl
/-- Shares in memory. -/
def SharesAt (w : World) (a0 : Option Addr) (l : List Shr) : Prop :=
  ∀ j s, l[j]? = some s → ∃ b off, a0 = some ⟨b, off, none⟩ ∧ b < w.heap.size ∧ w.cell? ⟨b, off + j * 3, none⟩ = some (.int .i64 s.x) ∧ w.cell? ⟨b, off + j * 3 + 1, none⟩ = some (.int .i64 s.need) ∧ w.cell? ⟨b, off + j * 3 + 2, none⟩ = some (.string s.y)
theorem SharesAt.below {w w' : World} {a0 : Option Addr} {l : List Shr} (h : SharesAt w a0 l) (hb : Below w.heap.size w w') : SharesAt w' a0 l := fun j s hj => by
  obtain ⟨b, off, rfl, hbl, h1, h2, h3⟩ := h j s hj
  exact ⟨b, off, rfl, Nat.lt_of_lt_of_le hbl hb.size, by rw [hb.cell (p := ⟨b, _, none⟩) hbl]; exact h1, by rw [hb.cell (p := ⟨b, _, none⟩) hbl]; exact h2, by rw [hb.cell (p := ⟨b, _, none⟩) hbl]; exact h3⟩
theorem SharesAt.take {w : World} {a0 : Option Addr} {l : List Shr} (h : SharesAt w a0 l) (n : Nat) : SharesAt w a0 (l.take n) := fun j s hj => by
  rw [List.getElem?_take] at hj
  split at hj
  · exact h j s hj
  · cases hj
theorem SharesAt.drop {w : World} {b off : Nat} {l : List Shr} (h : SharesAt w (some ⟨b, off, none⟩) l) (n : Nat) : SharesAt w (some ⟨b, off + n * 3, none⟩) (l.drop n) := fun j s hj => by
  rw [List.getElem?_drop] at hj
  obtain ⟨b', off', e, hbl, h1, h2, h3⟩ := h (n + j) s hj
  injection e with e; injection e with e1 e2; subst e1 e2
  exact ⟨b, off + n * 3, rfl, hbl, by rw [show off + n * 3 + j * 3 = off + (n + j) * 3 by omega]; exact h1, by rw [show off + n * 3 + j * 3 = off + (n + j) * 3 by omega]; exact h2, by rw [show off + n * 3 + j * 3 = off + (n + j) * 3 by omega]; exact h3⟩
theorem SharesAt.nil (w : World) (a0 : Option Addr) : SharesAt w a0 [] := fun j s hj => by simp at hj
/-- A list of shares of the call's own (T: api's, or the reference's). -/
def OwnS (T : TypeId) (B : Nat) (w : World) (a : Option Addr) (cap : Nat) (l : List Shr) : Prop := Own T 3 B w a l.length cap (shs l)
theorem OwnS.at {T : TypeId} {B : Nat} {w : World} {a : Option Addr} {cap : Nat} {l : List Shr} (h : OwnS T B w a cap l) : SharesAt w a l := fun j s hj => by
  have hlt := (List.getElem?_eq_some_iff.1 hj).1
  obtain ⟨g, rfl, -, h2, -⟩ := Own.addr h (by omega)
  have e : ∀ k, k < 3 → w.cell? ⟨g, j * 3 + k, none⟩ = s.cells[k]? := fun k hk => by
    rw [Own.cell h (by omega)]
    exact shs_at l j s hj k hk
  exact ⟨g, 0, rfl, h2, by rw [Nat.zero_add]; exact e 0 (by omega), by rw [Nat.zero_add]; exact e 1 (by omega), by rw [Nat.zero_add]; exact e 2 (by omega)⟩
theorem OwnS.cells {T : TypeId} {B : Nat} {w : World} {g cap : Nat} {l : List Shr} (h : OwnS T B w (some ⟨g, 0, none⟩) cap l) {j : Nat} {s : Shr} (hj : l[j]? = some s) :
    w.cell? ⟨g, j * 3, none⟩ = some (.int .i64 s.x) ∧ w.cell? ⟨g, j * 3 + 1, none⟩ = some (.int .i64 s.need) ∧ w.cell? ⟨g, j * 3 + 2, none⟩ = some (.string s.y) ∧ ∀ k, w.frozen? ⟨g, k, none⟩ = false := by
  have hlt := (List.getElem?_eq_some_iff.1 hj).1
  have e : ∀ k, k < 3 → w.cell? ⟨g, j * 3 + k, none⟩ = s.cells[k]? := fun k hk => by
    rw [Own.cell h (by omega)]
    exact shs_at l j s hj k hk
  exact ⟨e 0 (by omega), e 1 (by omega), e 2 (by omega), fun k => World.ownsRow.frozenAt h.1 k⟩
theorem OwnS.below {T : TypeId} {B : Nat} {w w' : World} {a : Option Addr} {cap : Nat} {l : List Shr} (h : OwnS T B w a cap l) (hb : Below w.heap.size w w') : OwnS T B w' a cap l := Own.below h hb
theorem OwnX.below {B : Nat} {w w' : World} {a : Option Addr} {cap : Nat} {l : List ByteArray} (h : OwnX B w a cap l) (hb : Below w.heap.size w w') : OwnX B w' a cap l := Own.below h hb
theorem shs_set3 {l : List Shr} {j : Nat} (hj : j < l.length) (s : Shr) : (((shs l).set (j * 3) (.int .i64 s.x)).set (j * 3 + 1) (.int .i64 s.need)).set (j * 3 + 2) (.string s.y) = shs (l.set j s) := by
  apply List.ext_getElem?
  intro i
  have hlen := shs_length l
  by_cases hi : i < l.length * 3
  · obtain ⟨q, r, hr, rfl⟩ : ∃ q r, r < 3 ∧ i = q * 3 + r := ⟨i / 3, i % 3, Nat.mod_lt _ (by decide), by omega⟩
    have hq : q < l.length := by omega
    obtain ⟨t, ht⟩ : ∃ t, (l.set j s)[q]? = some t := ⟨_, List.getElem?_eq_getElem (by rw [List.length_set]; exact hq)⟩
    rw [shs_at _ q t ht r hr]
    by_cases e : q = j
    · subst e
      rw [List.getElem?_set_self hq, Option.some.injEq] at ht
      subst ht
      simp only [List.getElem?_set, List.length_set]
      rcases (by omega : r = 0 ∨ r = 1 ∨ r = 2) with rfl | rfl | rfl
      · rw [if_neg (by omega), if_neg (by omega), if_pos (by omega), if_pos (by omega)]; rfl
      · rw [if_neg (by omega), if_pos (by omega), if_pos (by omega)]; rfl
      · rw [if_pos (by omega), if_pos (by omega)]; rfl
    · rw [List.getElem?_set_ne (fun e2 => e e2.symm)] at ht
      simp only [List.getElem?_set, List.length_set]
      rw [if_neg (by omega), if_neg (by omega), if_neg (by omega)]
      exact shs_at l q t ht r hr
  · rw [List.getElem?_eq_none (by simp only [List.length_set]; omega), List.getElem?_eq_none (by rw [shs_length, List.length_set]; omega)]
/-- A share is another now. -/
theorem OwnS.put {T : TypeId} {B : Nat} {w : World} {g cap : Nat} {l : List Shr} (h : OwnS T B w (some ⟨g, 0, none⟩) cap l) {j : Nat} (hj : j < l.length) (s : Shr) :
    OwnS T B (((w.setCell ⟨g, j * 3, none⟩ (.int .i64 s.x)).setCell ⟨g, j * 3 + 1, none⟩ (.int .i64 s.need)).setCell ⟨g, j * 3 + 2, none⟩ (.string s.y)) (some ⟨g, 0, none⟩) cap (l.set j s) := by
  unfold OwnS
  rw [List.length_set, ← shs_set3 hj s]
  exact Own.put (Own.put (Own.put h _ _) _ _) _ _
theorem shs_setY {l : List Shr} {j : Nat} {t : Shr} (hj : l[j]? = some t) (y : ByteArray) : (shs l).set (j * 3 + 2) (.string y) = shs (l.set j ⟨t.x, t.need, y⟩) := by
  have hlt := (List.getElem?_eq_some_iff.1 hj).1
  rw [← shs_set3 hlt]
  have e0 := shs_at l j t hj 0 (by omega)
  have e1 := shs_at l j t hj 1 (by omega)
  congr 1
  apply List.ext_getElem?
  intro i
  simp only [List.getElem?_set, List.length_set]
  have hlen := shs_length l
  by_cases h1 : j * 3 + 1 = i
  · subst h1; rw [if_pos rfl, if_pos (by omega), e1]; rfl
  · rw [if_neg h1]
    by_cases h0 : j * 3 = i
    · subst h0; rw [if_pos rfl, if_pos (by omega)]; exact e0
    · rw [if_neg h0]
/-- A share's bytes are others now. -/
theorem OwnS.putY {T : TypeId} {B : Nat} {w : World} {g cap : Nat} {l : List Shr} (h : OwnS T B w (some ⟨g, 0, none⟩) cap l) {j : Nat} {t : Shr} (hj : l[j]? = some t) (y : ByteArray) :
    OwnS T B (w.setCell ⟨g, j * 3 + 2, none⟩ (.string y)) (some ⟨g, 0, none⟩) cap (l.set j ⟨t.x, t.need, y⟩) := by
  unfold OwnS
  rw [List.length_set, ← shs_setY hj y]
  exact Own.put h _ _
theorem Tryz.info_shr : (Tryz.prog.info? 32).map (fun i => (i.zero, i.size, i.bytes)) = some (some (.agg #[.int .i64 0, .int .i64 0, .string ⟨#[]⟩]), 3, 32) := by kernel_rfl
def zeroShr : Shr := ⟨0, 0, ⟨#[]⟩⟩
theorem make_shares (w : World) (n : Nat) (hn : n ≤ 1000000) : ∃ w', (Instr.makeSlice 22 (.int .i64 (n : Int)) (.int .i64 (n : Int))).run Tryz.prog w = .ok (.slice (some ⟨w.heap.size, 0, none⟩) n n) w' ∧ OwnS 32 w.heap.size w' (some ⟨w.heap.size, 0, none⟩) n (List.replicate n zeroShr) ∧ Below w.heap.size w w' := by
  obtain ⟨i0, hi0, hz0, hz1, hz2⟩ := info_parts Tryz.info_shr
  obtain ⟨w', h1, h2, h3⟩ := run_makeSlice_full (P := Tryz.prog) w 0 22 32 i0 (.agg #[.int .i64 0, .int .i64 0, .string ⟨#[]⟩]) 3 Tryz.underlying22 hi0 hz0 hz1 .i64 .i64 n (by omega) (by rw [hz2]; omega) (by unfold maxLen; omega) (Nat.zero_le _)
  refine ⟨w', h1, ?_, (Below.refl _ _).grown h3 (Nat.le_refl _) (fun k hk => by cases hk)⟩
  unfold OwnS
  rw [List.length_replicate]
  have e : shs (List.replicate n zeroShr) = (madeCells (Value.agg #[.int .i64 0, .int .i64 0, .string ⟨#[]⟩]).cells (n * 3)).toList := by
    have hl := shs_length (List.replicate n zeroShr)
    rw [List.length_replicate] at hl
    apply List.ext_getElem?
    intro i
    by_cases hi : i < n * 3
    · obtain ⟨q, r, hr, rfl⟩ : ∃ q r, r < 3 ∧ i = q * 3 + r := ⟨i / 3, i % 3, Nat.mod_lt _ (by decide), by omega⟩
      rw [shs_at _ q zeroShr (by rw [List.getElem?_replicate, if_pos (by omega)]) r hr]
      simp only [madeCells, Value.cells, Array.getElem?_toList]
      rcases (by omega : r = 0 ∨ r = 1 ∨ r = 2) with rfl | rfl | rfl
      · have hi' : q * 3 < n * 3 := by omega
        simp [hi', Shr.cells, zeroShr]
      · simp [hi, Shr.cells, zeroShr, Nat.add_mod]
      · simp [hi, Shr.cells, zeroShr, Nat.add_mod]
    · rw [List.getElem?_eq_none (by omega), List.getElem?_eq_none (by simp [madeCells]; omega)]
  rw [e]; exact ⟨h2, fun g hg => by simp [Value.ownBlock] at hg; omega⟩
end Go.Proofs.YtefpfedpgedloaaGreatDoor
namespace Go.Proofs.YtefpfedpgedloaaGreatDoor
open Go.RowKit
open Gf

theorem wrap_bx (x : Int) : IntKind.u8.wrap x = ((bx x).toNat : Int) := by
  rw [IntKind.wrap_u8]; unfold bx; rw [UInt8.toNat_ofNat']; omega
theorem vals_upTo (ps : List ByteArray) (x : UInt8) : str (upTo (fun i => valB (ps.getD i ByteArray.empty) x) (fun _ => 0) ps.length ps.length) = vals ps x := by
  rw [upTo_all]
  unfold vals
  congr 1
  apply List.ext_getElem?
  intro i
  by_cases h : i < ps.length
  · simp [h]
  · simp [h]
set_option maxRecDepth 100000 in
set_option maxHeartbeats 1000000 in
theorem values_any {w : World} {a0 : Option Addr} {ps : List ByteArray} (hT : TextsAt w a0 ps) (hn : ps.length ≤ 1000) (hs : ∀ p ∈ ps, p.size ≤ maxLen) (cap : Nat) (x : Int) :
    Calls Tryz.prog 24 #[.slice a0 ps.length cap, .int .i64 x] w fun e w' => e = .returned (.string (vals ps (bx x))) ∧ Below w.heap.size w w' := by
  have hwx := wrap_bx x
  obtain ⟨X, hX⟩ : ∃ X, X = bx x := ⟨_, rfl⟩
  rw [← hX] at hwx ⊢
  obtain ⟨n, hN⟩ : ∃ n, n = ps.length := ⟨_, rfl⟩
  have hall := vals_upTo ps X
  obtain ⟨R, hR⟩ : ∃ R, R = vals ps X := ⟨_, rfl⟩
  rw [← hR] at hall ⊢
  obtain ⟨f, hf⟩ : ∃ f, f = fun i => valB (ps.getD i ByteArray.empty) X := ⟨_, rfl⟩
  rw [← hf, ← hN] at hall
  rw [← hN] at hn ⊢
  obtain ⟨w2, hmk, hown, hb2⟩ := make_bytes w n (by omega)
  rw [← upTo_rep f 0 n] at hown
  have H0 := Lib.hid (And.intro hT (And.intro hN (And.intro hs (And.intro hf (And.intro hall (And.intro hown hb2))))))
  clear hT hN hs hX hf hall hR hown hb2
  go_enter Tryz.func24, Tryz.ntmps24
  go_wp2_with fail
  clear hmk
  go_loopw [6, 7, 13] (fun _ _ i wr => ∃ k : Nat, k ≤ n ∧ i = .int .i64 (k : Int) ∧ OwnB w.heap.size wr (some ⟨w.heap.size, 0, none⟩) n (upTo f (fun _ => 0) n k) ∧ Below w.heap.size w wr) (fun _ _ i _ => n - (intOf i).toNat)
  case atStart => exact ⟨0, by omega, rfl, H0.out.2.2.2.2.2.1, H0.out.2.2.2.2.2.2⟩
  case round =>
    obtain ⟨k, hk, rfl, ho, hb⟩ := hrel
    by_cases hlt : k < n
    · obtain ⟨tb, off, rfl, htb, hc⟩ := (H0.out.1.below hb) k (by have := H0.out.2.1; omega)
      have hpm : (ps.getD k ByteArray.empty).size ≤ maxLen := by
        rw [List.getD_eq_getElem?_getD, List.getElem?_eq_getElem (by have := H0.out.2.1; omega)]
        exact H0.out.2.2.1 _ (List.getElem_mem _)
      have hfk : f k = valB (ps.getD k ByteArray.empty) X := by rw [H0.out.2.2.2.1]
      obtain ⟨p, hp⟩ : ∃ p, p = ps.getD k ByteArray.empty := ⟨_, rfl⟩
      rw [← hp] at hc hpm hfk
      have hv := fun W => value_any p hpm X W
      rw [← hfk] at hv
      have H := Lib.hid (And.intro ho (And.intro hb hv))
      clear ho hb hv hpm hfk hp
      go_wp2_with fail
      refine (H.out.2.2 _).mono ?_
      rintro e w3 ⟨rfl, hb3⟩
      have ho3 := H.out.1.call hb3
      have hb4 := H.out.2.1.trans (hb3.mono H.out.2.1.size)
      have c1 := ho3.cellAt k (by rw [upTo_length]; exact hlt)
      have f1 := ho3.frozenAt k
      generalize ((upTo f (fun _ => 0) n k).getD k 0).toNat = old at c1
      have hput := ho3.put k (f k)
      rw [upTo_step f _ hlt] at hput
      have hbp := below_put hb4 (Nat.le_refl _) k (.int .u8 ((f k).toNat : Int))
      have H3 := Lib.hid (And.intro hput hbp)
      clear ho3 hb4 hb3 hput hbp
      go_wp2_with fail
      go_roundw
      case rel => exact ⟨k + 1, by omega, by go_num, H3.out.1, H3.out.2⟩
      case measure => simp [intOf]; omega
    · obtain rfl : k = n := by omega
      have hcv := ho.conv
      rw [upTo_length, H0.out.2.2.2.2.1] at hcv
      have HB := Lib.hid hb
      clear ho hb
      go_wp2_with fail
      go_ret
      exact ⟨rfl, HB.out⟩
end Go.Proofs.YtefpfedpgedloaaGreatDoor
namespace Go.Proofs.YtefpfedpgedloaaGreatDoor
open Go.RowKit
open Gf

theorem mayBeSplit_any (s : ByteArray) (hs : s.size ≤ maxLen) (w : World) :
    Calls Tryz.prog 35 #[.string s] w fun e w' => e = .returned (.bool (mayS s)) ∧ w' = w := by
  unfold maxLen at hs
  unfold mayS
  by_cases h1 : (1 : Int) ≤ s.size
  · by_cases h2 : (s.size : Int) ≤ 64
    · rw [decide_eq_true (show 1 ≤ s.size by omega), decide_eq_true (show s.size ≤ 64 by omega)]
      go_enter Tryz.func35, Tryz.ntmps35
      go_wp2_with fail
      go_ret
      exact ⟨rfl, rfl⟩
    · rw [decide_eq_true (show 1 ≤ s.size by omega), decide_eq_false (show ¬ s.size ≤ 64 by omega)]
      go_enter Tryz.func35, Tryz.ntmps35
      go_wp2_with fail
      go_ret
      exact ⟨rfl, rfl⟩
  · rw [decide_eq_false (show ¬ 1 ≤ s.size by omega), Bool.false_and]
    go_enter Tryz.func35, Tryz.ntmps35
    go_wp2_with fail
    go_ret
    exact ⟨rfl, rfl⟩
/-- The polynomial that hides byte i, as a text. -/
def hideB (s d : ByteArray) (q i : Nat) : ByteArray := str (hideL s d i q)
set_option maxRecDepth 100000 in
set_option maxHeartbeats 1000000 in
theorem spread_any (s d : ByteArray) (q : Nat) (h1 : 1 ≤ s.size) (h64 : s.size ≤ 64) (hd : d.size = q * s.size) (hq : q ≤ 255) (w : World) :
    Calls Tryz.prog 36 #[.string s, .string d] w fun e w' => ∃ a cap, e = .returned (.slice a s.size cap) ∧ OwnX w.heap.size w' a cap ((List.range s.size).map (hideB s d q)) ∧ Below w.heap.size w w' := by
  have hds : d.size ≤ 255 * 64 := by rw [hd]; exact Nat.mul_le_mul hq h64
  obtain ⟨n, hN⟩ : ∃ n, n = s.size := ⟨_, rfl⟩
  rw [← hN] at hd
  obtain ⟨w2, hmk, hown, hb2⟩ := make_texts w n (by omega)
  rw [← upTo_rep (hideB s d q) ⟨#[]⟩ n] at hown
  have hall := upTo_all (hideB s d q) (fun _ => ⟨#[]⟩) n
  have H0 := Lib.hid (And.intro hd (And.intro hN (And.intro hown (And.intro hb2 hall))))
  have hni : (n : Int) ≤ 64 := by omega
  have hsn : (s.size : Int) = n := by omega
  have hsz : s.size = n := hN.symm
  clear hd hN hown hb2 hall
  rw [hsz]
  go_enter Tryz.func36, Tryz.ntmps36
  go_wp2_with fail
  clear hmk
  go_loopw [6, 7, 8, 14] (fun _ _ _ i wr => ∃ k : Nat, k ≤ n ∧ i = .int .i64 (k : Int) ∧ OwnX w.heap.size wr (some ⟨w.heap.size, 0, none⟩) n (upTo (hideB s d q) (fun _ => ⟨#[]⟩) n k) ∧ Below w.heap.size w wr) (fun _ _ _ i _ => n - (intOf i).toNat)
  case atStart => exact ⟨0, by omega, rfl, H0.out.2.2.1, H0.out.2.2.2.1⟩
  case round =>
    obtain ⟨k, hk, rfl, ho, hb⟩ := hrel
    by_cases hlt : k < n
    · have hks : k < s.size := by omega
      obtain ⟨W0, hW0⟩ : ∃ W0, W0 = wr := ⟨_, rfl⟩
      subst hW0
      have hz := hb.size
      have hown1 : OwnB W0.heap.size (W0.alloc (.cells #[.int .u8 (s[k].toNat : Int)] 5)) (some ⟨W0.heap.size, 0, none⟩) 1 (hideL s d k 0) := by
        have hL : hideL s d k 0 = [s[k]] := by unfold hideL; rw [co_at s k hks]; rfl
        rw [hL]
        exact World.ownsRow_lit W0 #[.int .u8 (s[k].toNat : Int)] 1 (Nat.le_refl _) (by decide) rfl
      have hb1 : Below W0.heap.size W0 (W0.alloc (.cells #[.int .u8 (s[k].toNat : Int)] 5)) := (Below.refl _ _).alloc (Nat.le_refl _) _
      have H1 := Lib.hid (And.intro ho (And.intro hb (And.intro hown1 (And.intro hb1 hz))))
      clear ho hb hown1 hb1 hz
      go_wp2_with fail
      go_loopw [7, 8] (fun p j W => ∃ (m J : Nat) (ad : Option Addr) (cp : Nat), m ≤ q ∧ J = k + m * n ∧ p = .slice ad (m + 1) cp ∧ j = .int .i64 (J : Int) ∧ OwnB W0.heap.size W ad cp (hideL s d k m) ∧ Below W0.heap.size W0 W) (fun _ j _ => d.size + 64 - (intOf j).toNat)
      case atStart => exact ⟨0, k, _, _, by omega, by omega, rfl, rfl, H1.out.2.2.1, H1.out.2.2.2.1⟩
      case round =>
        obtain ⟨m, J, ad, cp, hm, hJ, rfl, rfl, hoB, hbB⟩ := hrel
        have hdq := H0.out.1
        by_cases hj : J < d.size
        · have hmq : m < q := Nat.lt_of_mul_lt_mul_right (a := n) (by omega)
          have hnx : hideL s d k (m + 1) = hideL s d k m ++ [d[J]] := by rw [hideL_snoc, hsz, ← hJ, co_at d J hj]
          have hJn : J + n = k + (m + 1) * n := by rw [Nat.add_mul]; omega
          have hJi : (J : Int) ≤ 20000 := by omega
          have H2 := Lib.hid (And.intro hoB (And.intro hbB (And.intro hnx (And.intro hJn hmq))))
          have hz2 := hbB.size
          clear hoB hbB hnx hJn hmq hJ hm hdq
          go_wp2_with (at_builtin; (refine wpList_append_byte' (w0 := W0) rfl (.tmp 30) (.tmp 34) rfl (H2.out.1.alloc _) (m + 1) (hideL_length _ _ _ _) rfl _ 1 d[J] rfl (cell_new _ _ _) (by have := H2.out.2.2.2.2; omega) (by simp; omega) (H2.out.2.1.alloc hz2 _) ?_; intro g1 cap1 w3 hown1 hb1; have H3 := Lib.hid (And.intro hown1 hb1); clear hown1 hb1))
          go_roundw
          case rel => exact ⟨m + 1, J + n, _, cap1, by have := H2.out.2.2.2.2; omega, H2.out.2.2.2.1, by rfl, by go_num, by rw [H2.out.2.2.1]; exact H3.out.1, H3.out.2⟩
          case measure => simp [intOf]; omega
        · have hmq : q < m + 1 := Nat.lt_of_mul_lt_mul_right (a := n) (by rw [Nat.add_mul]; omega)
          obtain rfl : m = q := by omega
          have hcv := hoB.conv
          rw [hideL_length] at hcv
          change (convert _ _ _).run _ _ = Result.ok (.string (hideB s d m k)) _ at hcv
          have hoX := Own.below H1.out.1 (hbB.mono (Nat.le_refl _))
          have hbX := H1.out.2.1.trans (hbB.mono H1.out.2.2.2.2)
          have hoX' : OwnX w.heap.size wr (some ⟨w.heap.size, 0, none⟩) n (upTo (hideB s d m) (fun _ => ⟨#[]⟩) n k) := hoX
          have hlen := upTo_length (hideB s d m) (fun _ => (⟨#[]⟩ : ByteArray)) n k
          obtain ⟨old, hold⟩ : ∃ old, (upTo (hideB s d m) (fun _ => (⟨#[]⟩ : ByteArray)) n k)[k]? = some old := ⟨_, upTo_get _ _ hlt⟩
          have c1 : wr.cell? ⟨w.heap.size, k, none⟩ = some (.string old) := by
            rw [Own.cell hoX (by rw [hlen]; omega)]
            unfold tcells
            rw [List.getElem?_map, hold]; rfl
          have f1 : wr.frozen? ⟨w.heap.size, k, none⟩ = false := World.ownsRow.frozenAt hoX.1 k
          have hput := hoX'.put k (hideB s d m k)
          rw [upTo_step _ _ hlt] at hput
          have hbp := below_put hbX (Nat.le_refl _) k (.string (hideB s d m k))
          have HP := Lib.hid (And.intro hput hbp)
          clear hoX hoX' hbX hput hbp hoB hbB hold hlen hmq hdq H1 hJ hm
          go_wp2_with fail
          go_roundw
          case rel => exact ⟨k + 1, by omega, by go_num, HP.out.1, HP.out.2⟩
          case measure => simp [intOf]; omega
    · obtain rfl : k = n := by omega
      have h5 := H0.out.2.2.2.2
      rw [h5] at ho
      have HB := Lib.hid (And.intro ho hb)
      clear ho hb h5
      go_wp2_with fail
      go_ret
      exact ⟨_, _, rfl, HB.out.1, HB.out.2⟩
end Go.Proofs.YtefpfedpgedloaaGreatDoor
namespace Go.Proofs.YtefpfedpgedloaaGreatDoor
open Go.RowKit
open Gf

/-- The share at place k + 1. -/
def shK (s d : ByteArray) (need : Int) (k : Nat) : Shr := ⟨(k : Int) + 1, need, shY s d (need.toNat - 1) (bx ((k : Int) + 1))⟩
theorem vals_hide (s d : ByteArray) (q : Nat) (x : UInt8) : vals ((List.range s.size).map (hideB s d q)) x = shY s d q x := by
  unfold vals shY; rw [List.map_map]; rfl
theorem mayP_size {s d : ByteArray} {need n : Int} (h : mayP s d need n = true) : d.size = (need.toNat - 1) * s.size := by
  obtain ⟨⟨a, b⟩, c, e, f, g⟩ := mayP_iff.1 h
  have : need - 1 = ((need.toNat - 1 : Nat) : Int) := by omega
  rw [this] at g
  exact_mod_cast g
set_option maxRecDepth 100000 in
set_option maxHeartbeats 1000000 in
theorem split_good (s d : ByteArray) (need : Int) (N : Nat) (h : mayP s d need N = true) (w : World) :
    Calls Tryz.prog 17 #[.string s, .int .i64 need, .int .i64 (N : Int), .string d] w fun e w' => ∃ a cap, e = .returned (.tuple #[.slice a N cap, .int .i64 0]) ∧ OwnS 32 w.heap.size w' a cap (splt s d need N) ∧ Below w.heap.size w w' := by
  obtain ⟨⟨p1, p2⟩, p3, p4, p5, p6⟩ := mayP_iff.1 h
  have hq := mayP_size h
  have hmay := mayBeSplit_any s (by unfold maxLen; omega)
  rw [show mayS s = true by unfold mayS; rw [decide_eq_true p1, decide_eq_true p2]; rfl] at hmay
  have hspr := spread_any s d (need.toNat - 1) p1 p2 hq (by omega)
  obtain ⟨nm, hnm⟩ : ∃ nm, nm = need - 1 := ⟨_, rfl⟩
  have hsub : IntKind.i64.wrap (need - 1) = nm := by rw [hnm]; exact IntWalk.i64_in _ (by omega)
  have hds : (d.size : Int) ≤ 16320 := by
    have : d.size ≤ 255 * 64 := by rw [hq]; exact Nat.mul_le_mul (by omega) p2
    omega
  have hmul : IntKind.i64.wrap (nm * (s.size : Int)) = (d.size : Int) := by rw [hnm, ← p6]; exact IntWalk.i64_in _ (by omega)
  have hp1 : (1 : Int) ≤ s.size := by omega
  have hp2 : (s.size : Int) ≤ 64 := by omega
  have HM := Lib.hid (And.intro hmay (And.intro hspr (And.intro hq p1)))
  clear hmay hspr hq h p6 hnm p1 p2
  go_enter Tryz.func17, Tryz.ntmps17
  go_wp2_with fail
  refine (HM.out.1 _).mono ?_
  rintro e w1 ⟨rfl, rfl⟩
  go_wp2_with fail
  refine (HM.out.2.1 _).mono ?_
  rintro e w2 ⟨a2, cp2, rfl, hx2, hb2⟩
  obtain ⟨w3, hmk, hown, hb3⟩ := make_shares w2 N (by omega)
  rw [← upTo_rep (shK s d need) zeroShr N] at hown
  have H0 := Lib.hid (And.intro hx2.at (And.intro hb2 (And.intro hown (And.intro hb3 hb2.size))))
  clear hx2 hb2 hown hb3 hsub hmul hds
  go_wp2_with fail
  clear hmk
  go_loopw [12, 46] (fun _ i wr => ∃ k : Nat, k ≤ N ∧ i = .int .i64 (k : Int) ∧ OwnS 32 w2.heap.size wr (some ⟨w2.heap.size, 0, none⟩) N (upTo (shK s d need) (fun _ => zeroShr) N k) ∧ Below w2.heap.size w2 wr) (fun _ i _ => N - (intOf i).toNat)
  case atStart => exact ⟨0, by omega, rfl, H0.out.2.2.1, H0.out.2.2.2.1⟩
  case round =>
    obtain ⟨k, hk, rfl, ho, hb⟩ := hrel
    by_cases hlt : k < N
    · have hv := fun (W : World) (hW : Below w2.heap.size w2 W) => values_any (H0.out.1.below hW) (by simp; have := HM.out.2.2.2; omega) (fun p hp => by
        obtain ⟨i, hi, rfl⟩ := List.mem_map.1 hp
        unfold hideB
        rw [str_size, hideL_length]
        unfold maxLen; omega) cp2 ((k : Int) + 1)
      rw [vals_hide, List.length_map, List.length_range] at hv
      obtain ⟨y, hy⟩ : ∃ y, y = shY s d (need.toNat - 1) (bx ((k : Int) + 1)) := ⟨_, rfl⟩
      rw [← hy] at hv
      have H := Lib.hid (And.intro ho (And.intro hb (And.intro hv hy)))
      clear ho hb hv hy
      go_wp2_with fail
      refine (H.out.2.2.1 _ H.out.2.1).mono ?_
      rintro e w5 ⟨rfl, hb5⟩
      have ho5 := H.out.1.below hb5
      have hb6 := H.out.2.1.trans (hb5.mono H.out.2.1.size)
      obtain ⟨old, hold⟩ : ∃ old, (upTo (shK s d need) (fun _ => zeroShr) N k)[k]? = some old := ⟨_, upTo_get _ _ hlt⟩
      obtain ⟨c0, c1, c2, f1⟩ := ho5.cells hold
      have hsk : shK s d need k = ⟨(k : Int) + 1, need, y⟩ := by unfold shK; rw [H.out.2.2.2]
      have hput := ho5.put (j := k) (by rw [upTo_length]; exact hlt) ⟨(k : Int) + 1, need, y⟩
      rw [← hsk, upTo_step _ _ hlt, hsk] at hput
      have hbp := below_put (below_put (below_put hb6 (Nat.le_refl _) (k * 3) (.int .i64 ((k : Int) + 1))) (Nat.le_refl _) (k * 3 + 1) (.int .i64 need)) (Nat.le_refl _) (k * 3 + 2) (.string y)
      have HP := Lib.hid (And.intro hput hbp)
      clear ho5 hb6 hb5 hput hbp hold hsk
      go_wp2_with fail
      go_roundw
      case rel => exact ⟨k + 1, by omega, by go_num, HP.out.1, HP.out.2⟩
      case measure => simp [intOf]; omega
    · obtain rfl : k = N := by omega
      have hall := upTo_all (shK s d need) (fun _ => zeroShr) k
      rw [hall] at ho
      have HB := Lib.hid (And.intro ho hb)
      clear ho hb hall
      go_wp2_with fail
      go_ret2
      refine ⟨_, _, rfl, Own.mono HB.out.1 H0.out.2.2.2.2, H0.out.2.1.trans (HB.out.2.mono H0.out.2.2.2.2)⟩
set_option maxRecDepth 100000 in
set_option maxHeartbeats 1000000 in
theorem split_bad (s d : ByteArray) (need n : Int) (hs : s.size ≤ maxLen) (h : mayP s d need n = false) (w : World) :
    Calls Tryz.prog 17 #[.string s, .int .i64 need, .int .i64 n, .string d] w fun e w' => e = .returned (.tuple #[.slice none 0 0, .int .i64 1]) ∧ w' = w := by
  have hmay := mayBeSplit_any s hs
  cases hm : mayS s with
  | false =>
    rw [hm] at hmay
    have HM := Lib.hid hmay
    clear hmay hm h
    go_enter Tryz.func17, Tryz.ntmps17
    go_wp2_with fail
    refine (HM.out _).mono ?_
    rintro e w1 ⟨rfl, rfl⟩
    go_wp2_with fail
    go_ret2
    exact ⟨rfl, rfl⟩
  | true =>
    rw [hm] at hmay
    have HM := Lib.hid hmay
    clear hmay
    by_cases h1 : need < 1
    · clear h hm
      go_enter Tryz.func17, Tryz.ntmps17
      go_wp2_with fail
      refine (HM.out _).mono ?_
      rintro e w1 ⟨rfl, rfl⟩
      go_wp2_with fail
      go_ret2
      exact ⟨rfl, rfl⟩
    by_cases h2 : n < need
    · clear h hm
      go_enter Tryz.func17, Tryz.ntmps17
      go_wp2_with fail
      refine (HM.out _).mono ?_
      rintro e w1 ⟨rfl, rfl⟩
      go_wp2_with fail
      go_ret2
      exact ⟨rfl, rfl⟩
    by_cases h3 : 255 < n
    · clear h hm
      go_enter Tryz.func17, Tryz.ntmps17
      go_wp2_with fail
      refine (HM.out _).mono ?_
      rintro e w1 ⟨rfl, rfl⟩
      go_wp2_with fail
      go_ret2
      exact ⟨rfl, rfl⟩
    have hsz : 1 ≤ s.size ∧ s.size ≤ 64 := by
      unfold mayS at hm; simp only [Bool.and_eq_true, decide_eq_true_eq] at hm; exact hm
    have hne : ¬ ((d.size : Int) = (need - 1) * (s.size : Int)) := fun e => by
      have := (mayP_iff (s := s) (d := d) (need := need) (n := n)).2 ⟨hsz, by omega, by omega, by omega, e⟩
      rw [h] at this; cases this
    obtain ⟨nm, hnm⟩ : ∃ nm, nm = need - 1 := ⟨_, rfl⟩
    have hsub : IntKind.i64.wrap (need - 1) = nm := by rw [hnm]; exact IntWalk.i64_in _ (by omega)
    obtain ⟨P, hP⟩ : ∃ P, P = nm * (s.size : Int) := ⟨_, rfl⟩
    have hP0 : 0 ≤ P := by rw [hP]; exact Int.mul_nonneg (by omega) (by omega)
    have hP1 : P ≤ 16320 := by
      rw [hP]
      have := Int.mul_le_mul (show nm ≤ 255 by omega) (show (s.size : Int) ≤ 64 by omega) (by omega) (by omega)
      omega
    have hmul : IntKind.i64.wrap (nm * (s.size : Int)) = P := by rw [← hP]; exact IntWalk.i64_in _ (by omega)
    rw [← hnm, ← hP] at hne
    have hb1 : ((d.size : Int) == P) = false := by simpa using hne
    have hb2 : ((d.size : Int) != P) = true := by simpa using hne
    clear h hm hsz hne hnm hP
    go_enter Tryz.func17, Tryz.ntmps17
    go_wp2_with fail
    refine (HM.out _).mono ?_
    rintro e w1 ⟨rfl, rfl⟩
    go_wp2_with fail
    go_ret2
    exact ⟨rfl, rfl⟩
end Go.Proofs.YtefpfedpgedloaaGreatDoor
