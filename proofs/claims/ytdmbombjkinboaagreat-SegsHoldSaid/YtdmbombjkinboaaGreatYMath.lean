/- Plain mathematics of segs: the bytes of lists and heads; what the calls of a store make of it and of its disk. No walk. -/
import Derived.Test.YtdmbombjkinboaaGreatMD3
import Derived.Test.YtdmbombjkinboaaGreatMF1
import Derived.Test.YtdmbombjkinboaaGreatMC1
import Derived.Test.YtdmbombjkinboaaGreatMB
import Derived.Test.YtdmbombjkinboaaGreatMF2
namespace Go.Proofs.YtdmbombjkinboaaGreat
open Dk Fr
namespace Sg

def numP (n : Nat) : Cn.Pt := .mk 1 n ⟨#[]⟩ []
def txtP (s : ByteArray) : Cn.Pt := .mk 2 0 s []
def lstP (l : List Cn.Pt) : Cn.Pt := .mk 3 0 ⟨#[]⟩ l
def segT : ByteArray := ⟨#[115, 101, 103]⟩
def seqT : ByteArray := ⟨#[115, 101, 113]⟩
/-- What a list says: its epoch, and the extents. -/
structure Ent where
  epoch : Nat
  exts : List Nat
def entP (e : Ent) : Cn.Pt := lstP (txtP seqT :: numP e.epoch :: e.exts.map numP)
def headP (n k : Nat) : Cn.Pt := lstP [txtP segT, numP n, numP k]
def entB (e : Ent) : List UInt8 := Cn.bytes (entP e)
def headB (n k : Nat) : List UInt8 := Cn.bytes (headP n k)
/-- The frames of a list, and of a head. -/
def entS (e : Ent) : ByteArray := str (frm (entB e))
def headS (n k : Nat) : ByteArray := str (frm (headB n k))

theorem num_len {n k : Nat} (h : n < 256 ^ k) (hk : k ≤ 8) : (Cn.num n).length ≤ k + 1 := by
  rw [Cn.num_length]; have := Cn.width_le h hk; omega
theorem num_len1 {n : Nat} (h : n < 256) : (Cn.num n).length ≤ 2 := num_len (k := 1) (by simpa using h) (by decide)
theorem bytes_numP (n : Nat) : Cn.bytes (numP n) = Cn.num n := Cn.bytes_num n
theorem bytes_txtP (s : ByteArray) : (Cn.bytes (txtP s)).length = 1 + (Cn.num s.size).length + s.size := by
  unfold txtP; rw [Cn.bytes_text]; simp; omega
theorem nums_len : ∀ l : List Nat, (∀ x ∈ l, x < 256) → (Cn.bytesAll (l.map numP)).length ≤ 2 * l.length
  | [], _ => Nat.zero_le _
  | x :: l, h => by
    have h1 := num_len1 (h x (List.mem_cons_self ..))
    have h2 := nums_len l fun y hy => h y (List.mem_cons_of_mem _ hy)
    rw [List.map_cons, Cn.bytesAll, List.length_append, bytes_numP, List.length_cons]; omega
theorem ent_len (e : Ent) (he : e.epoch < 256 ^ 6) (hx : ∀ x ∈ e.exts, x < 256) (hl : e.exts.length ≤ 64) : 1 ≤ (entB e).length ∧ (entB e).length ≤ 160 := by
  unfold entB entP lstP
  rw [Cn.bytes_list]
  have h1 := nums_len e.exts hx
  have h2 := num_len he (by decide)
  have h3 := bytes_txtP seqT
  have h4 : seqT.size = 3 := rfl
  have h5 : (Cn.num 3).length ≤ 2 := num_len1 (by decide)
  rw [h4] at h3
  have h6 : (Cn.num (txtP seqT :: numP e.epoch :: e.exts.map numP).length).length ≤ 2 := num_len1 (by simp; omega)
  rw [List.length_cons, List.length_append, Cn.bytesAll, Cn.bytesAll, List.length_append, List.length_append, bytes_numP]
  omega
theorem head_len (n k : Nat) (hn : n < 256) (hk : k < 256 ^ 4) : 1 ≤ (headB n k).length ∧ (headB n k).length ≤ 20 := by
  unfold headB headP lstP
  rw [Cn.bytes_list]
  have h1 := num_len1 hn
  have h2 := num_len hk (by decide)
  have h3 := bytes_txtP segT
  have h4 : segT.size = 3 := rfl
  have h5 : (Cn.num 3).length ≤ 2 := num_len1 (by decide)
  rw [h4] at h3
  have h6 : (Cn.num 3).length ≤ 2 := num_len1 (by decide)
  rw [List.length_cons, List.length_append, Cn.bytesAll, Cn.bytesAll, Cn.bytesAll, Cn.bytesAll, List.length_append, List.length_append, List.length_append, bytes_numP, bytes_numP]
  show 1 ≤ (Cn.num 3).length + _ + 1 ∧ (Cn.num 3).length + _ + 1 ≤ 20
  simp only [List.length_nil]
  omega
theorem may_num {n : Nat} (h : n ≤ 72057594037927935) (d : Nat) : Cn.may (numP n) d = true := by
  unfold numP
  rw [Cn.may, if_pos rfl, decide_eq_true (by omega), decide_eq_true (by omega)]; rfl
theorem may_txt {s : ByteArray} (h : s.size ≤ 65536) (d : Nat) : Cn.may (txtP s) d = true := by
  unfold txtP
  rw [Cn.may, if_neg (by decide), if_pos rfl, decide_eq_true h]; rfl
theorem may_lst {l : List Cn.Pt} {d : Nat} (hl : l.length ≤ 1024) (h : Cn.mayAll l d = true) : Cn.may (lstP l) (d + 1) = true := by
  unfold lstP
  rw [Cn.may, if_neg (by decide), if_neg (by decide), if_pos rfl, decide_eq_true hl, decide_eq_true (Nat.succ_pos d), Nat.add_sub_cancel, h]; rfl
theorem mayAll_nums : ∀ (l : List Nat) (d : Nat), (∀ x ∈ l, x ≤ 72057594037927935) → Cn.mayAll (l.map numP) d = true
  | [], _, _ => rfl
  | x :: l, d, h => by
    rw [List.map_cons, Cn.mayAll, may_num (h x (List.mem_cons_self ..)), mayAll_nums l d fun y hy => h y (List.mem_cons_of_mem _ hy)]; rfl
theorem may_ent (e : Ent) (he : e.epoch < 256 ^ 6) (hx : ∀ x ∈ e.exts, x < 256) (hl : e.exts.length ≤ 64) : Cn.may (entP e) 6 = true := by
  refine may_lst (by simp; omega) ?_
  rw [Cn.mayAll, Cn.mayAll, may_txt (by decide), may_num (by omega), mayAll_nums _ _ fun x hxm => Nat.le_trans (Nat.le_of_lt (hx x hxm)) (by decide)]; rfl
theorem may_head (n k : Nat) (hn : n < 256) (hk : k < 256 ^ 4) : Cn.may (headP n k) 6 = true := by
  refine may_lst (by simp) ?_
  rw [Cn.mayAll, Cn.mayAll, Cn.mayAll, Cn.mayAll, may_txt (by decide), may_num (by omega), may_num (by omega)]; rfl

/-- What a store has. -/
structure Stor where
  falls : Int
  at_ : Nat
  epoch : Nat
  segs : List (Nat × Nat)
  recs : List ByteArray
  sure : Nat
def Stor.exts (S : Stor) : List Nat := S.segs.map (·.1)
def Stor.ent (S : Stor) : Ent := ⟨S.epoch, S.exts⟩
abbrev Res := Disk × Stor × Int
/-- What follows if there was no error. -/
def andS (r : Disk × Int) (S : Stor) (k : Disk → Res) : Res := if r.2 = 0 then k r.1 else (r.1, S, r.2)
def syncS (D : Disk) (S : Stor) : Res := andS D.sync S fun D1 => (D1, { S with sure := S.recs.length }, 0)
def putS (D : Disk) (S : Stor) (x : Nat) (t : ByteArray) : Res := andS (D.act 2 x 0 ⟨#[]⟩) S fun D1 => andS (D1.act 0 x 0 t) S fun D2 => syncS D2 S
def layS (D : Disk) (S : Stor) : Res :=
  if roomD D S.at_ < ((entS S.ent).size : Int) then putS D { S with at_ := 1 - S.at_ } (1 - S.at_) (entS S.ent)
  else andS (D.act 0 S.at_ 0 (entS S.ent)) S fun D1 => syncS D1 S
def leftS (D : Disk) (S : Stor) : Int := (D.sure.length : Int) - 2 - (S.segs.length : Int)
/-- The least extent from x on that is none of these. -/
def freeN (l : List Nat) : Nat → Nat → Nat
  | 0, x => x
  | f + 1, x => if x ∈ l then freeN l f (x + 1) else x
def Stor.free (S : Stor) : Nat := freeN S.exts 64 2
def Stor.last (S : Stor) : Nat := (S.segs.getLastD (0, 0)).1
def mayTurnS (D : Disk) (S : Stor) : Int := if leftS D S = 0 ∨ S.epoch = 1099511627776 then 6 else 0
/-- What follows behind a call of a store. -/
def thenS (r : Res) (k : Disk → Stor → Res) : Res := if r.2.2 = 0 then k r.1 r.2.1 else r
def turnS (D : Disk) (S : Stor) : Res :=
  if mayTurnS D S ≠ 0 then (D, S, mayTurnS D S)
  else thenS (putS D S S.free (headS S.segs.length S.recs.length)) fun D1 S1 =>
    layS D1 { S1 with segs := S1.segs ++ [(S.free, S.recs.length)], epoch := S1.epoch + 1 }
def fellS (D : Disk) (S : Stor) : Bool := D.down || (D.falls != S.falls)
/-- A store's record is appended: the disk, the store, its number, the error. -/
def appendS (D : Disk) (S : Stor) (r : ByteArray) : Disk × Stor × Int × Int :=
  if r.size = 0 then (D, S, 0, 1) else if 900 < r.size then (D, S, 0, 2) else if fellS D S = true then (D, S, 0, 9)
  else
    let t := if roomD D S.last < (r.size : Int) + 8 then turnS D S else (D, S, 0)
    if t.2.2 ≠ 0 then (t.1, S, 0, t.2.2)
    else
      let a := t.1.act 0 t.2.1.last 0 (str (frm r.data.toList))
      if a.2 ≠ 0 then (a.1, S, 0, a.2) else (a.1, { t.2.1 with recs := t.2.1.recs ++ [r] }, t.2.1.recs.length, 0)

theorem sync_err (D : Disk) (h : D.down = false) : D.sync = ({ D with sure := D.now, waits := [] }, 0) := by
  unfold Disk.sync; rw [h]; rfl
theorem andS_ok {r : Disk × Int} {S : Stor} {k : Disk → Res} (h : r.2 = 0) : andS r S k = k r.1 := if_pos h
theorem andS_no {r : Disk × Int} {S : Stor} {k : Disk → Res} (h : r.2 ≠ 0) : andS r S k = (r.1, S, r.2) := if_neg h
theorem thenS_ok {r : Res} {k : Disk → Stor → Res} (h : r.2.2 = 0) : thenS r k = k r.1 r.2.1 := if_pos h
theorem thenS_no {r : Res} {k : Disk → Stor → Res} (h : r.2.2 ≠ 0) : thenS r k = r := if_neg h
/-- What no call but a turn changes of a store. -/
theorem putS_keeps (D : Disk) (S : Stor) (x : Nat) (t : ByteArray) : (putS D S x t).2.1.segs = S.segs ∧ (putS D S x t).2.1.recs = S.recs ∧ (putS D S x t).2.1.epoch = S.epoch ∧ (putS D S x t).2.1.at_ = S.at_ ∧ (putS D S x t).2.1.falls = S.falls := by
  unfold putS
  by_cases h1 : (D.act 2 x 0 ⟨#[]⟩).2 = 0
  · rw [andS_ok h1]
    by_cases h2 : ((D.act 2 x 0 ⟨#[]⟩).1.act 0 x 0 t).2 = 0
    · rw [andS_ok h2]
      unfold syncS andS; split <;> exact ⟨rfl, rfl, rfl, rfl, rfl⟩
    · rw [andS_no h2]; exact ⟨rfl, rfl, rfl, rfl, rfl⟩
  · rw [andS_no h1]; exact ⟨rfl, rfl, rfl, rfl, rfl⟩

/-- A disk behind at most n acts. -/
structure Bud (n : Nat) (d : Disk) : Prop where
  ok : d.Ok
  waits : d.waits.length ≤ n
  falls0 : 0 ≤ d.falls
  falls1 : d.falls ≤ n
  changes0 : 0 ≤ d.changes
  changes1 : d.changes ≤ n
  after : d.after ≤ 9223372036854775807
theorem Bud.small {n : Nat} {d : Disk} (h : Bud n d) (hn : n ≤ 999999999) : Small d :=
  ⟨by have := h.waits; omega, h.falls0, by have := h.falls1; omega, h.changes0, by have := h.changes1; omega, h.after⟩
theorem Bud.mono {n m : Nat} {d : Disk} (h : Bud n d) (hn : n ≤ m) : Bud m d :=
  ⟨h.ok, by have := h.waits; omega, h.falls0, by have := h.falls1; omega, h.changes0, by have := h.changes1; omega, h.after⟩
theorem Bud.new {n : Nat} {room : Int} (hn : n ≤ 64) (h0 : 1 ≤ room) (h1 : room ≤ 65536) : Bud 0 (Disk.new n room) :=
  ⟨Disk.Ok.new hn h0 h1, Nat.le_refl 0, Int.le_refl 0, Int.le_refl 0, Int.le_refl 0, Int.le_refl 0, by show (0 : Int) ≤ _; omega⟩
theorem dfail_after {d : Disk} (keep torn : Int) : (d.fail keep torn).after = d.after := by unfold Disk.fail; split <;> rfl
theorem dact_after {d : Disk} (kind : Nat) (x long : Int) (text : ByteArray) : (d.act kind x long text).1.after ≤ d.after := by
  unfold Disk.act
  split
  · unfold Disk.puts
    split
    · rw [dfail_after]; exact Int.le_refl _
    · show (if d.laid = true then d.after - 1 else d.after) ≤ _; split <;> omega
  · exact Int.le_refl _
theorem Bud.act {n : Nat} {d : Disk} (h : Bud n d) {kind : Nat} (hk : kind ≤ 2) (x long : Int) (text : ByteArray) : Bud (n + 1) (d.act kind x long text).1 := by
  have a := Disk.act_waits (d := d) kind x long text
  have b := Disk.act_changes (d := d) kind x long text
  have c := Disk.act_falls (d := d) kind x long text
  have e := dact_after (d := d) kind x long text
  have := h.waits; have := h.falls0; have := h.falls1; have := h.changes0; have := h.changes1; have := h.after
  exact ⟨h.ok.act hk _ _ _, by omega, by omega, by omega, by omega, by omega, by omega⟩
theorem Bud.sync {n : Nat} {d : Disk} (h : Bud n d) : Bud n d.sync.1 := by
  have h1 := h.waits; have h2 := h.falls0; have h3 := h.falls1; have h4 := h.changes0; have h5 := h.changes1; have h6 := h.after
  refine ⟨h.ok.sync, ?_, ?_, ?_, ?_, ?_, ?_⟩ <;> (unfold Disk.sync; split <;> simp <;> omega)
theorem Bud.fail {n : Nat} {d : Disk} (h : Bud n d) (x m : Int) : Bud (n + 1) (d.fail x m) := by
  have h1 := h.waits; have h2 := h.falls0; have h3 := h.falls1; have h4 := h.changes0; have h5 := h.changes1; have h6 := h.after
  have a := Disk.fail_waits (d := d) x m
  have b := Disk.fail_changes (d := d) x m
  have c := Disk.fail_falls (d := d) x m
  have e := dfail_after (d := d) x m
  exact ⟨h.ok.fail _ _, by omega, by omega, by omega, by omega, by omega, by omega⟩
theorem Bud.up {n : Nat} {d : Disk} (h : Bud n d) : Bud n d.up := ⟨h.ok.up, h.waits, h.falls0, h.falls1, h.changes0, h.changes1, h.after⟩
theorem Bud.lay {n : Nat} {d : Disk} (h : Bud n d) (a k t : Int) (ha : a ≤ 9223372036854775807) : Bud n (d.lay a k t) := ⟨h.ok.lay _ _ _, h.waits, h.falls0, h.falls1, h.changes0, h.changes1, ha⟩
theorem layS_keeps (D : Disk) (S : Stor) : (layS D S).2.1.segs = S.segs ∧ (layS D S).2.1.recs = S.recs ∧ (layS D S).2.1.epoch = S.epoch ∧ (layS D S).2.1.falls = S.falls := by
  unfold layS
  split
  · have h := putS_keeps D { S with at_ := 1 - S.at_ } (1 - S.at_) (entS S.ent)
    exact ⟨h.1, h.2.1, h.2.2.1, h.2.2.2.2⟩
  · by_cases h1 : (D.act 0 S.at_ 0 (entS S.ent)).2 = 0
    · rw [andS_ok h1]
      unfold syncS andS; split <;> exact ⟨rfl, rfl, rfl, rfl⟩
    · rw [andS_no h1]; exact ⟨rfl, rfl, rfl, rfl⟩
theorem turnS_keeps (D : Disk) (S : Stor) : (turnS D S).2.1.recs = S.recs ∧ (turnS D S).2.1.falls = S.falls ∧ ((turnS D S).2.1.segs = S.segs ∨ (turnS D S).2.1.segs = S.segs ++ [(S.free, S.recs.length)]) := by
  unfold turnS
  split
  · exact ⟨rfl, rfl, .inl rfl⟩
  · have k := putS_keeps D S S.free (headS S.segs.length S.recs.length)
    by_cases h1 : (putS D S S.free (headS S.segs.length S.recs.length)).2.2 = 0
    · rw [thenS_ok h1]
      have h := layS_keeps (putS D S S.free (headS S.segs.length S.recs.length)).1 { (putS D S S.free (headS S.segs.length S.recs.length)).2.1 with segs := (putS D S S.free (headS S.segs.length S.recs.length)).2.1.segs ++ [(S.free, S.recs.length)], epoch := (putS D S S.free (headS S.segs.length S.recs.length)).2.1.epoch + 1 }
      exact ⟨h.2.1.trans k.2.1, h.2.2.2.trans k.2.2.2.2, .inr (h.1.trans (by show _ ++ _ = _; rw [k.1]))⟩
    · rw [thenS_no h1]; exact ⟨k.2.1, k.2.2.2.2, .inl k.1⟩
theorem bud_putS {n : Nat} {D : Disk} {S : Stor} {x : Nat} {t : ByteArray} (h : Bud n D) : Bud (n + 2) (putS D S x t).1 := by
  unfold putS
  by_cases h1 : (D.act 2 x 0 ⟨#[]⟩).2 = 0
  · rw [andS_ok h1]
    have b1 := h.act (kind := 2) (by decide) (x : Int) 0 ⟨#[]⟩
    by_cases h2 : ((D.act 2 x 0 ⟨#[]⟩).1.act 0 x 0 t).2 = 0
    · rw [andS_ok h2]
      have b2 := b1.act (kind := 0) (by decide) (x : Int) 0 t
      unfold syncS andS; split <;> exact b2.sync
    · rw [andS_no h2]; exact b1.act (kind := 0) (by decide) (x : Int) 0 t
  · rw [andS_no h1]; exact (h.act (kind := 2) (by decide) (x : Int) 0 ⟨#[]⟩).mono (by omega)
theorem bud_layS {n : Nat} {D : Disk} {S : Stor} (h : Bud n D) : Bud (n + 2) (layS D S).1 := by
  unfold layS
  split
  · exact bud_putS h
  · have b1 := h.act (kind := 0) (by decide) (S.at_ : Int) 0 (entS S.ent)
    by_cases h1 : (D.act 0 S.at_ 0 (entS S.ent)).2 = 0
    · rw [andS_ok h1]
      unfold syncS andS; split <;> exact b1.sync.mono (by omega)
    · rw [andS_no h1]; exact b1.mono (by omega)
theorem bud_turnS {n : Nat} {D : Disk} {S : Stor} (h : Bud n D) : Bud (n + 4) (turnS D S).1 := by
  unfold turnS
  split
  · exact h.mono (by omega)
  · have b1 := bud_putS (S := S) (x := S.free) (t := headS S.segs.length S.recs.length) h
    by_cases h1 : (putS D S S.free (headS S.segs.length S.recs.length)).2.2 = 0
    · rw [thenS_ok h1]; exact bud_layS b1
    · rw [thenS_no h1]; exact b1.mono (by omega)
theorem freeN_le (l : List Nat) : ∀ f x, freeN l f x ≤ x + f
  | 0, x => Nat.le_refl _
  | f + 1, x => by
    rw [freeN]
    split
    · have := freeN_le l f (x + 1); omega
    · omega
theorem freeN_not {l : List Nat} (h : ∀ x ∈ l, x < 64) : ∀ f x, 64 ≤ x + f → freeN l f x ∉ l
  | 0, x, hx => fun hm => by have := h _ hm; rw [freeN] at this; omega
  | f + 1, x, hx => by
    rw [freeN]
    split
    · exact freeN_not h f (x + 1) (by omega)
    · assumption
theorem freeN_ge (l : List Nat) : ∀ f x, x ≤ freeN l f x
  | 0, x => Nat.le_refl _
  | f + 1, x => by
    rw [freeN]
    split
    · have := freeN_ge l f (x + 1); omega
    · omega
end Sg
end Go.Proofs.YtdmbombjkinboaaGreat
