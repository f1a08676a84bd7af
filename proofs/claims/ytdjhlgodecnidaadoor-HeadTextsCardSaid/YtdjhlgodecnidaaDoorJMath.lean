/- Heads, without a program: which may be, what is signed of one, its bytes, the head of bytes; which could be signed behind another one. -/
import Derived.Test.YtdjhlgodecnidaaDoorCTxt
import Derived.Test.YtdjhlgodecnidaaDoorMC6
import Derived.Test.YtdjhlgodecnidaaDoorMBlock
namespace Go.Proofs.YtdjhlgodecnidaaDoor
open Go.RowKit
open Cn

structure Hd where
  n : Int
  r : ByteArray
  t : Int
  c : ByteArray
def Hd.cs (h : Hd) : Array Value := #[.int .i64 h.n, .string h.r, .int .i64 h.t, .string h.c]
def Hd.zero : Hd := ⟨0, ⟨#[]⟩, 0, ⟨#[]⟩⟩
def bodyB (h : Hd) : Bool := decide (0 ≤ h.n) && decide (h.n ≤ 4096) && decide (h.r.size = 32) && decide (0 ≤ h.t) && decide (h.t ≤ 1099511627776)
def mayB (h : Hd) : Bool := bodyB h && decide (h.c.size = 32)
theorem bodyB_iff {h : Hd} : bodyB h = true ↔ (0 ≤ h.n ∧ h.n ≤ 4096) ∧ h.r.size = 32 ∧ 0 ≤ h.t ∧ h.t ≤ 1099511627776 := by
  unfold bodyB; simp only [Bool.and_eq_true, decide_eq_true_eq]; constructor
  · rintro ⟨⟨⟨⟨a, b⟩, c⟩, d⟩, e⟩; exact ⟨⟨a, b⟩, c, d, e⟩
  · rintro ⟨⟨a, b⟩, c, d, e⟩; exact ⟨⟨⟨⟨a, b⟩, c⟩, d⟩, e⟩
theorem mayB_iff {h : Hd} : mayB h = true ↔ bodyB h = true ∧ h.c.size = 32 := by
  unfold mayB; simp only [Bool.and_eq_true, decide_eq_true_eq]
def headT : ByteArray := ⟨#[104, 101, 97, 100]⟩
/-- What is signed, as an item. -/
def sgT (h : Hd) : Pt := .mk 3 0 ⟨#[]⟩ [.mk 2 0 headT [], .mk 1 h.n ⟨#[]⟩ [], .mk 2 0 h.r [], .mk 1 h.t ⟨#[]⟩ []]
/-- A head as an item. -/
def hdT (h : Hd) : Pt := .mk 3 0 ⟨#[]⟩ [.mk 1 h.n ⟨#[]⟩ [], .mk 2 0 h.r [], .mk 1 h.t ⟨#[]⟩ [], .mk 2 0 h.c []]
def sgS (h : Hd) : ByteArray := if bodyB h = true then ⟨(Cn.bytes (sgT h)).toArray⟩ else ⟨#[]⟩
def hdS (h : Hd) : ByteArray := if mayB h = true then ⟨(Cn.bytes (hdT h)).toArray⟩ else ⟨#[]⟩
theorem num_few {n : Int} {k : Nat} (h : n.toNat < 256 ^ k) (hk : k ≤ 8) : (num n.toNat).length ≤ k + 1 := by
  rw [num_length]
  have := width_le h hk
  omega
theorem sgT_may {h : Hd} (hb : bodyB h = true) : may (sgT h) 6 = true := by
  have h1 := bodyB_iff.1 hb
  have hz : (ByteArray.mk #[]).size = 0 := rfl
  have hz2 : headT.size = 4 := rfl
  unfold sgT
  simp [may, mayAll, hz, hz2]
  omega
theorem hdT_may {h : Hd} (hb : mayB h = true) : may (hdT h) 6 = true := by
  have h0 := mayB_iff.1 hb
  have h1 := bodyB_iff.1 h0.1
  have hz : (ByteArray.mk #[]).size = 0 := rfl
  unfold hdT
  simp [may, mayAll, hz]
  omega
theorem small_len (s : ByteArray) (h : s.size ≤ 32) : (num ((s.size : Int)).toNat).length ≤ 2 := num_few (k := 1) (by omega) (by decide)
theorem sgT_len {h : Hd} (hb : bodyB h = true) : (Cn.bytes (sgT h)).length ≤ 1000 := by
  have h1 := bodyB_iff.1 hb
  have a1 := num_few (n := h.n) (k := 2) (by omega) (by decide)
  have a2 := num_few (n := h.t) (k := 6) (by omega) (by decide)
  have a3 := small_len h.r (by omega)
  have a5 := small_len headT (by decide)
  rw [Int.toNat_natCast] at a3 a5
  have a4 : (num (0 + 1 + 1 + 1 + 1)).length ≤ 2 := num_few (n := 4) (k := 1) (by decide) (by decide)
  have hl : ∀ s : ByteArray, s.data.toList.length = s.size := fun s => by simp
  have hz2 : headT.size = 4 := rfl
  unfold sgT
  rw [bytes_list, bytesAll, bytesAll, bytesAll, bytesAll, bytesAll, bytes_num, bytes_num, bytes_text, bytes_text]
  simp only [List.length_cons, List.length_append, List.length_nil, hl]
  omega
theorem hdT_len {h : Hd} (hm : mayB h = true) : (Cn.bytes (hdT h)).length ≤ 1000 := by
  have h0 := mayB_iff.1 hm
  have h1 := bodyB_iff.1 h0.1
  have a1 := num_few (n := h.n) (k := 2) (by omega) (by decide)
  have a2 := num_few (n := h.t) (k := 6) (by omega) (by decide)
  have a3 := small_len h.r (by omega)
  have a5 := small_len h.c (by omega)
  rw [Int.toNat_natCast] at a3 a5
  have a4 : (num (0 + 1 + 1 + 1 + 1)).length ≤ 2 := num_few (n := 4) (k := 1) (by decide) (by decide)
  have hl : ∀ s : ByteArray, s.data.toList.length = s.size := fun s => by simp
  unfold hdT
  rw [bytes_list, bytesAll, bytesAll, bytesAll, bytesAll, bytesAll, bytes_num, bytes_num, bytes_text, bytes_text]
  simp only [List.length_cons, List.length_append, List.length_nil, hl]
  omega
theorem sgS_size (h : Hd) : (sgS h).size ≤ 1000 := by
  unfold sgS
  by_cases hb : bodyB h = true
  · rw [if_pos hb, size_toArray]; exact sgT_len hb
  · rw [if_neg hb]; decide
theorem hdS_size (h : Hd) : (hdS h).size ≤ 1000 := by
  unfold hdS
  by_cases hb : mayB h = true
  · rw [if_pos hb, size_toArray]; exact hdT_len hb
  · rw [if_neg hb]; decide
theorem sgS_code (h : Hd) (c : ByteArray) : sgS { h with c := c } = sgS h := rfl
theorem sgS_enc {h : Hd} (hb : bodyB h = true) : c_encS (sgT h) = sgS h := by
  unfold c_encS sgS
  rw [if_pos ⟨sgT_may hb, Nat.le_trans (sgT_len hb) (by decide)⟩, if_pos hb]
theorem hdS_enc {h : Hd} (hb : mayB h = true) : c_encS (hdT h) = hdS h := by
  unfold c_encS hdS
  rw [if_pos ⟨hdT_may hb, Nat.le_trans (hdT_len hb) (by decide)⟩, if_pos hb]
theorem hdT_pos (h : Hd) : Cn.bytes (hdT h) ≠ [] := fun e => by
  have := bytes_pos (hdT h)
  rw [e] at this
  simp at this
theorem hdS_empty {h : Hd} : (hdS h).size = 0 ↔ mayB h = false := by
  unfold hdS
  cases hb : mayB h with
  | false => rw [if_neg (by decide)]; simp; rfl
  | true =>
    rw [if_pos rfl, size_toArray]
    constructor
    · intro e; exact absurd (List.length_eq_zero_iff.1 e) (hdT_pos h)
    · intro e; cases e
def ndnd : List UInt8 := [110, 100, 110, 100]
/-- The head that an item says. -/
def hdOf : Pt → Hd
  | .mk _ _ _ [.mk _ n _ _, .mk _ _ r _, .mk _ t _ _, .mk _ _ c _] => ⟨n, r, t, c⟩
  | _ => Hd.zero
def rdE : Except Int Pt → Hd × Int
  | .error _ => (Hd.zero, 3)
  | .ok x => if shapeP x ndnd = true ∧ mayB (hdOf x) = true then (hdOf x, 0) else (Hd.zero, 3)
/-- The head of bytes, and the error. -/
def rdH (t : ByteArray) : Hd × Int := rdE (decR t.data.toList)
theorem rdH_ref (t : ByteArray) : rdE (rdecR t.data.toList) = rdH t := rdecR_same rdE (fun _ _ => rfl) _
theorem shape_four {x : Pt} (hs : shapeP x ndnd = true) : ∃ k n s a b c d, x = .mk k n s [a, b, c, d] := by
  obtain ⟨k, n, s, l⟩ := x
  unfold shapeP ndnd at hs
  match l, hs with
  | [], hs => simp [fitAll] at hs
  | [a], hs => simp [fitAll] at hs
  | [a, b], hs => simp [fitAll] at hs
  | [a, b, c], hs => simp [fitAll] at hs
  | a :: b :: c :: d :: f :: e, hs => simp [fitAll] at hs
  | [a, b, c, d], _ => exact ⟨k, n, s, a, b, c, d, rfl⟩
theorem num_of {x : Pt} {d : Nat} (hm : may x d = true) (hf : fitP x 110 = true) : ∃ n, x = .mk 1 n ⟨#[]⟩ [] := by
  rcases may_cases hm with ⟨n, rfl, -, -⟩ | ⟨s, rfl, -⟩ | ⟨l, rfl, -, -, -⟩
  · exact ⟨n, rfl⟩
  · simp [fitP] at hf
  · simp [fitP] at hf
theorem dig_of {x : Pt} {d : Nat} (hm : may x d = true) (hf : fitP x 100 = true) : ∃ s, x = .mk 2 0 s [] ∧ s.size = 32 := by
  rcases may_cases hm with ⟨n, rfl, -, -⟩ | ⟨s, rfl, -⟩ | ⟨l, rfl, -, -, -⟩
  · simp [fitP] at hf
  · exact ⟨s, rfl, by simpa [fitP] using hf⟩
  · simp [fitP] at hf
theorem shape_may {x : Pt} (hs : shapeP x ndnd = true) (hm : may x 6 = true) : x = hdT (hdOf x) ∧ (hdOf x).r.size = 32 ∧ (hdOf x).c.size = 32 := by
  obtain ⟨k, n, s, a, b, c, d, rfl⟩ := shape_four hs
  rcases may_cases hm with ⟨n, e, -, -⟩ | ⟨s, e, -⟩ | ⟨l, e, -, -, hl⟩
  · cases e
  · cases e
  · injection e with e1 e2 e3 e4
    subst e1 e2 e3 e4
    simp only [mayAll, Bool.and_eq_true] at hl
    obtain ⟨ma, mb, mc, md, -⟩ := hl
    simp only [shapeP, ndnd, fitAll, Bool.and_eq_true] at hs
    obtain ⟨-, fa, fb, fc, fd, -⟩ := hs
    obtain ⟨n1, rfl⟩ := num_of ma fa
    obtain ⟨s1, rfl, h1⟩ := dig_of mb fb
    obtain ⟨n2, rfl⟩ := num_of mc fc
    obtain ⟨s2, rfl, h2⟩ := dig_of md fd
    exact ⟨rfl, h1, h2⟩
/-- What is written is read as it was. -/
theorem rdH_txt {h : Hd} (hm : mayB h = true) : rdH (hdS h) = (h, 0) := by
  unfold rdH hdS
  rw [if_pos hm, show (ByteArray.mk (Cn.bytes (hdT h)).toArray).data.toList = Cn.bytes (hdT h) from by simp, decR_bytes (hdT_may hm) (Nat.le_trans (hdT_len hm) (by decide))]
  unfold rdE
  simp only
  have e1 : hdOf (hdT h) = h := rfl
  have hsz := (mayB_iff.1 hm).2
  have hsr := (bodyB_iff.1 (mayB_iff.1 hm).1).2.1
  rw [e1, if_pos ⟨by unfold hdT; simp [shapeP, ndnd, fitAll, fitP, hsz, hsr], hm⟩]
/-- What is read, written again, are the bytes. -/
theorem txt_rdH {t : ByteArray} (h : (rdH t).2 = 0) : hdS (rdH t).1 = t := by
  unfold rdH at h ⊢
  cases hd : decR t.data.toList with
  | error e => rw [hd] at h; exact absurd (show (3 : Int) = 0 from h) (by decide)
  | ok x =>
    rw [hd] at h
    unfold rdE at h ⊢
    simp only at h ⊢
    by_cases hc : shapeP x ndnd = true ∧ mayB (hdOf x) = true
    · rw [if_pos hc]
      simp only
      obtain ⟨e1, e2, e3⟩ := decR_ok hd
      unfold hdS
      rw [if_pos hc.2, ← (shape_may hc.1 e2).1]
      apply Go.WideShapes.bytes_inj
      rw [e1]
    · rw [if_neg hc] at h; exact absurd (show (3 : Int) = 0 from h) (by decide)
/-- The head that a key signs, and the error. -/
def signP (key : ByteArray) (h : Hd) : Hd × Int :=
  if key.size ≠ 32 then (Hd.zero, 13) else if bodyB h = false then (Hd.zero, 1) else ({ h with c := str (code key.data.toList (sgS h).data.toList) }, 0)
/-- What is wrong with a head. -/
def checkP (key : ByteArray) (h : Hd) : Int :=
  if key.size ≠ 32 then 13 else if mayB h = false then 1 else if str (code key.data.toList (sgS h).data.toList) = h.c then 0 else 8
def laterP (a b : Hd) : Bool := decide (b.n ≥ a.n) && decide (b.t ≥ a.t) && (decide (b.n > a.n) || decide (b.r = a.r))
theorem str_code_size (k t : List UInt8) : (str (code k t)).size = 32 := by rw [str_size, code_length]
theorem sign_may {key : ByteArray} {h : Hd} (hk : key.size = 32) (hb : bodyB h = true) : mayB (signP key h).1 = true := by
  unfold signP
  rw [if_neg (by omega), if_neg (by rw [hb]; decide), mayB_iff]
  exact ⟨hb, str_code_size _ _⟩
end Go.Proofs.YtdjhlgodecnidaaDoor
