/- Sealed texts, without a program: the keys, the bytes, what bytes are opened. -/
import Derived.Test.YtgoimggfpagojaaDoorCnT
import Derived.Test.YtgoimggfpagojaaDoorMC6
import Derived.Test.YtgoimggfpagojaaDoorMKey
import Derived.Test.YtgoimggfpagojaaDoorQTwice
namespace Go.Proofs.YtgoimggfpagojaaDoor
open Go.RowKit
open Cn

def hideL : ByteArray := ⟨#[104, 105, 100, 101]⟩
def tellL : ByteArray := ⟨#[116, 101, 108, 108]⟩
/-- The key of a key, for a label and a number. -/
def keyS (key lab : ByteArray) (n : Int) : ByteArray := str (keyL key.data.toList lab.data.toList (n % 18446744073709551616).toNat)
theorem keyS_size (key lab : ByteArray) (n : Int) : (keyS key lab n).size = 32 := by
  unfold keyS keyL
  rw [str_size]
  exact expand_length _ _ _
/-- The nonce of a number. -/
def nonS (n : Int) : ByteArray := str (0 :: 0 :: 0 :: 0 :: numB (n % 18446744073709551616).toNat)
theorem nonS_size (n : Int) : (nonS n).size = 12 := by unfold nonS numB; rw [str_size]; simp
/-- A text, turned. -/
def trnP (key : ByteArray) (n : Int) (t : ByteArray) : ByteArray := trnS (keyS key hideL n) (nonS n) 1 t
theorem chk_good (key : ByteArray) (n : Int) {t : ByteArray} (h : t.size ≤ 1500) : chkE (keyS key hideL n).size (nonS n).size 1 t.size = 0 := by
  rw [keyS_size, nonS_size]
  unfold chkE
  rw [askE_ok ⟨rfl, rfl⟩ (by decide), if_neg (by decide), if_neg (by omega), if_neg (by omega)]
theorem trnP_size (key : ByteArray) (n : Int) {t : ByteArray} (h : t.size ≤ 1500) : (trnP key n t).size = t.size := trnS_size (chk_good key n h)
theorem trnP_twice (key : ByteArray) (n : Int) {t : ByteArray} (h : t.size ≤ 1500) : trnP key n (trnP key n t) = t := trnS_twice (chk_good key n h)
/-- What the code is of, and a sealed text, as items. -/
def cdT (n : Int) (t : ByteArray) : Pt := lstT [numT n, txtT t]
def slT (n : Int) (t c : ByteArray) : Pt := lstT [numT n, txtT t, txtT c]
def cdS (n : Int) (t : ByteArray) : ByteArray := str (Cn.bytes (cdT n t))
def codP (key : ByteArray) (n : Int) (t : ByteArray) : ByteArray := str (code (keyS key tellL n).data.toList (cdS n t).data.toList)
theorem codP_size (key : ByteArray) (n : Int) (t : ByteArray) : (codP key n t).size = 32 := by unfold codP; rw [str_size, code_length]
def slS (n : Int) (t c : ByteArray) : ByteArray := str (Cn.bytes (slT n t c))
def numOk (n : Int) : Prop := 0 ≤ n ∧ n ≤ 72057594037927935
instance (n : Int) : Decidable (numOk n) := inferInstanceAs (Decidable (_ ∧ _))
theorem cdT_may {n : Int} {t : ByteArray} (hn : numOk n) (ht : t.size ≤ 65536) : may (cdT n t) 6 = true := by
  refine may_lst (by simp) ?_
  rw [mayAll, mayAll, mayAll, may_num hn.1 hn.2, may_txt ht]; rfl
theorem slT_may {n : Int} {t c : ByteArray} (hn : numOk n) (ht : t.size ≤ 65536) (hc : c.size ≤ 65536) : may (slT n t c) 6 = true := by
  refine may_lst (by simp) ?_
  rw [mayAll, mayAll, mayAll, mayAll, may_num hn.1 hn.2, may_txt ht, may_txt hc]; rfl
theorem cdT_len {n : Int} {t : ByteArray} (hn : numOk n) (ht : t.size ≤ 1500) : (Cn.bytes (cdT n t)).length ≤ 2000 := by
  have a1 := num_few' (n := n.toNat) (k := 7) (by have := hn.2; omega) (by decide)
  have a2 := num_few' (n := t.size) (k := 2) (by omega) (by decide)
  have a4 : (num (0 + 1 + 1)).length ≤ 2 := num_few' (k := 1) (by decide) (by decide)
  have hl : t.data.toList.length = t.size := by simp
  unfold cdT
  rw [bytes_lstT, bytesAll, bytesAll, bytesAll, bytes_txtT, bytes_numT]
  simp only [List.length_cons, List.length_append, List.length_nil, hl]
  omega
theorem slT_len {n : Int} {t c : ByteArray} (hn : numOk n) (ht : t.size ≤ 1500) (hc : c.size ≤ 32) : (Cn.bytes (slT n t c)).length ≤ 3000 := by
  have a1 := num_few' (n := n.toNat) (k := 7) (by have := hn.2; omega) (by decide)
  have a2 := num_few' (n := t.size) (k := 2) (by omega) (by decide)
  have a3 := num_few' (n := c.size) (k := 1) (by omega) (by decide)
  have a4 : (num (0 + 1 + 1 + 1)).length ≤ 2 := num_few' (k := 1) (by decide) (by decide)
  have hl : t.data.toList.length = t.size := by simp
  have hl2 : c.data.toList.length = c.size := by simp
  unfold slT
  rw [bytes_lstT, bytesAll, bytesAll, bytesAll, bytesAll, bytes_txtT, bytes_txtT, bytes_numT]
  simp only [List.length_cons, List.length_append, List.length_nil, hl, hl2]
  omega
/-- What hinders a call. -/
def askP (key : ByteArray) (n : Int) : Int := if key.size ≠ 32 then 13 else if numOk n then 0 else 1
/-- The sealed text, and the error. -/
def sealP (key : ByteArray) (n : Int) (p : ByteArray) : ByteArray := slS n (trnP key n p) (codP key n (trnP key n p))
def sealE (key : ByteArray) (n : Int) (p : ByteArray) : ByteArray × Int :=
  if askP key n ≠ 0 then (⟨#[]⟩, askP key n) else if 1024 < p.size then (⟨#[]⟩, 2) else (sealP key n p, 0)
def ntd : List UInt8 := [110, 116, 100]
/-- The parts of a sealed text, as an item has them. -/
def slOf : Pt → Int × ByteArray × ByteArray
  | .mk _ _ _ [.mk _ n _ _, .mk _ _ t _, .mk _ _ c _] => (n, t, c)
  | _ => (0, ⟨#[]⟩, ⟨#[]⟩)
def rdSE : Except Int Pt → Option (Int × ByteArray × ByteArray)
  | .error _ => none
  | .ok x => if shapeP x ntd = true ∧ (slOf x).2.1.size ≤ 1024 then some (slOf x) else none
/-- The parts of a sealed text, of bytes. -/
def rdS (s : ByteArray) : Option (Int × ByteArray × ByteArray) := rdSE (decR s.data.toList)
theorem rdS_ref (s : ByteArray) : rdSE (rdecR s.data.toList) = rdS s := rdecR_same rdSE (fun _ _ => rfl) _
theorem rdS_of {n : Int} {t c : ByteArray} (hn : numOk n) (ht : t.size ≤ 1024) (hc : c.size = 32) : rdS (slS n t c) = some (n, t, c) := by
  unfold rdS slS
  rw [str_data, decR_bytes (slT_may hn (by omega) (by omega)) (Nat.le_trans (slT_len hn (by omega) (by omega)) (by decide))]
  unfold rdSE
  have hs : shapeP (slT n t c) ntd = true := by
    unfold slT lstT numT txtT shapeP ntd
    simp [fitAll, fitP, hc]
  show (if _ then some (n, t, c) else none) = _
  rw [if_pos ⟨hs, ht⟩]
theorem rdS_inv {s : ByteArray} {n : Int} {t c : ByteArray} (h : rdS s = some (n, t, c)) : numOk n ∧ t.size ≤ 1024 ∧ c.size = 32 ∧ slS n t c = s := by
  unfold rdS at h
  cases hd : decR s.data.toList with
  | error e => rw [hd] at h; cases h
  | ok x =>
    rw [hd] at h
    obtain ⟨h1, h2, h3⟩ := decR_ok hd
    unfold rdSE at h
    simp only at h
    split at h
    · rename_i hsh
      obtain ⟨hs, hl⟩ := hsh
      injection h with h
      rcases may_cases h2 with ⟨m, rfl, -, -⟩ | ⟨u, rfl, -⟩ | ⟨l, rfl, -, -, hall⟩
      · simp [shapeP] at hs
      · simp [shapeP] at hs
      · unfold shapeP ntd at hs
        match l, hs, h, hl, hall, h1 with
        | [], hs, _, _, _, _ => simp [fitAll] at hs
        | [_], hs, _, _, _, _ => simp [fitAll] at hs
        | [_, _], hs, _, _, _, _ => simp [fitAll] at hs
        | _ :: _ :: _ :: _ :: _, hs, _, _, _, _ => simp [fitAll] at hs
        | [a, b, d], hs, h, hl, hall, h1 =>
          simp only [mayAll, Bool.and_eq_true] at hall
          obtain ⟨ma, mb, md, -⟩ := hall
          simp only [fitAll, Bool.and_eq_true] at hs
          obtain ⟨-, fa, fb, fd, -⟩ := hs
          rcases may_cases ma with ⟨n1, rfl, k1, k2⟩ | ⟨u, rfl, -⟩ | ⟨u, rfl, -, -, -⟩
          rotate_left
          · simp [fitP] at fa
          · simp [fitP] at fa
          rcases may_cases mb with ⟨u, rfl, -, -⟩ | ⟨t1, rfl, -⟩ | ⟨u, rfl, -, -, -⟩
          · simp [fitP] at fb
          rotate_left
          · simp [fitP] at fb
          rcases may_cases md with ⟨u, rfl, -, -⟩ | ⟨c1, rfl, -⟩ | ⟨u, rfl, -, -, -⟩
          · simp [fitP] at fd
          rotate_left
          · simp [fitP] at fd
          have hc : c1.size = 32 := by simpa [fitP] using fd
          have h' : (n1, t1, c1) = (n, t, c) := h
          simp only [Prod.mk.injEq] at h'
          obtain ⟨rfl, rfl, rfl⟩ := h'
          refine ⟨⟨k1, k2⟩, hl, hc, ?_⟩
          unfold slS
          rw [show Cn.bytes (slT n1 t1 c1) = s.data.toList from h1]
          exact str_of s
    · cases h
/-- What bytes are opened, and the error. -/
def openE (key : ByteArray) (n : Int) (s : ByteArray) : ByteArray × Int :=
  if askP key n ≠ 0 then (⟨#[]⟩, askP key n) else match rdS s with
  | none => (⟨#[]⟩, 3)
  | some x => if x.1 ≠ n then (⟨#[]⟩, 3) else if codP key n x.2.1 ≠ x.2.2 then (⟨#[]⟩, 8) else (trnP key n x.2.1, 0)
/-- Which number bytes tell, and the error. -/
def numE' (s : ByteArray) : Int × Int := match rdS s with
  | none => (0, 3)
  | some x => (x.1, 0)
theorem askP_ok {key : ByteArray} {n : Int} (h : askP key n = 0) : key.size = 32 ∧ numOk n := by
  unfold askP at h
  split at h
  · cases h
  · split at h
    · rename_i h1 h2
      exact ⟨Decidable.byContradiction h1, h2⟩
    · cases h
/-- WHAT IS SEALED IS OPENED. -/
theorem open_seal {key : ByteArray} {n : Int} {p : ByteArray} (h : askP key n = 0) (hp : p.size ≤ 1024) : openE key n (sealP key n p) = (p, 0) ∧ numE' (sealP key n p) = (n, 0) := by
  obtain ⟨hk, hn⟩ := askP_ok h
  have hr : rdS (sealP key n p) = some (n, trnP key n p, codP key n (trnP key n p)) := rdS_of hn (by rw [trnP_size key n (by omega)]; exact hp) (codP_size _ _ _)
  unfold openE numE'
  rw [hr, if_neg (fun e => e h)]
  refine ⟨?_, rfl⟩
  simp only
  rw [if_neg (fun e => e rfl), if_neg (fun e => e rfl), trnP_twice key n (by omega)]
/-- What can be opened, sealed again, is what it was. -/
theorem seal_open {key : ByteArray} {n : Int} {s p : ByteArray} (h : openE key n s = (p, 0)) : sealE key n p = (s, 0) := by
  unfold openE at h
  split at h
  · rename_i h1
    simp only [Prod.mk.injEq] at h
    exact absurd h.2 h1
  · rename_i h1
    have ha : askP key n = 0 := Decidable.byContradiction h1
    cases hr : rdS s with
    | none => rw [hr] at h; simp only [Prod.mk.injEq] at h; exact absurd h.2 (by decide)
    | some x =>
      obtain ⟨m, t, c⟩ := x
      rw [hr] at h
      simp only at h
      split at h
      · simp only [Prod.mk.injEq] at h; exact absurd h.2 (by decide)
      · rename_i h2
        split at h
        · simp only [Prod.mk.injEq] at h; exact absurd h.2 (by decide)
        · rename_i h3
          have hm : m = n := Decidable.byContradiction h2
          have hc : codP key n t = c := Decidable.byContradiction h3
          subst hm hc
          simp only [Prod.mk.injEq] at h
          obtain ⟨rfl, -⟩ := h
          obtain ⟨hn, ht, -, hs⟩ := rdS_inv hr
          unfold sealE sealP
          rw [if_neg (fun e => e ha), if_neg (by rw [trnP_size key m (by omega)]; omega), trnP_twice key m (by omega), hs]
end Go.Proofs.YtgoimggfpagojaaDoor
