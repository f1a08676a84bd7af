/- Plain mathematics of disk: what changes make of extents; what is left behind a loss of power. No program. -/
import Derived.Lib.Hide
namespace Go.Proofs.Ytefpfedpgedloaa
namespace Dk

/-- A change: kind 0 appends, 1 trims, 2 empties. -/
structure Chg where
  kind : Nat
  x : Nat
  long : Nat
  text : ByteArray
/-- What is read of an extent. -/
def exAt (l : List ByteArray) (x : Nat) : ByteArray := l.getD x ⟨#[]⟩
/-- An extent behind a change. -/
def made1 (s : ByteArray) (c : Chg) : ByteArray := if c.kind = 0 then s ++ c.text else if c.kind = 1 then s.extract 0 c.long else ⟨#[]⟩
/-- All extents behind a change. -/
def made (l : List ByteArray) (c : Chg) : List ByteArray := l.set c.x (made1 (exAt l c.x) c)
def madeAll (l : List ByteArray) (cs : List Chg) : List ByteArray := cs.foldl made l
theorem made_length (l : List ByteArray) (c : Chg) : (made l c).length = l.length := by simp [made]
theorem madeAll_length : ∀ (cs : List Chg) (l : List ByteArray), (madeAll l cs).length = l.length
  | [], _ => rfl
  | c :: cs, l => (madeAll_length cs (made l c)).trans (made_length l c)
theorem madeAll_snoc (l : List ByteArray) (cs : List Chg) (c : Chg) : madeAll l (cs ++ [c]) = made (madeAll l cs) c := by simp [madeAll]
theorem exAt_lt {l : List ByteArray} {x : Nat} (h : x < l.length) : l[x]? = some (exAt l x) := by simp [exAt, h]
theorem exAt_set_same {l : List ByteArray} {x : Nat} (h : x < l.length) (s : ByteArray) : exAt (l.set x s) x = s := by simp [exAt, h]
theorem exAt_set_other {l : List ByteArray} {x k : Nat} (h : x ≠ k) (s : ByteArray) : exAt (l.set x s) k = exAt l k := by simp [exAt, h]
theorem exAt_made_same {l : List ByteArray} {c : Chg} (h : c.x < l.length) : exAt (made l c) c.x = made1 (exAt l c.x) c := exAt_set_same h _
theorem exAt_made_other {l : List ByteArray} {c : Chg} {k : Nat} (h : c.x ≠ k) : exAt (made l c) k = exAt l k := exAt_set_other h _
theorem extract_size (s : ByteArray) (n : Nat) (h : n ≤ s.size) : (s.extract 0 n).size = n := by simp; omega
/-- No extent is longer than there may be. -/
def Sz (l : List ByteArray) : Prop := ∀ s ∈ l, s.size ≤ 65536
theorem Sz.at {l : List ByteArray} (h : Sz l) (x : Nat) : (exAt l x).size ≤ 65536 := by
  by_cases hx : x < l.length
  · exact h _ (List.mem_of_getElem? (exAt_lt hx))
  · rw [show exAt l x = ⟨#[]⟩ by simp [exAt, hx]]; exact Nat.zero_le _
/-- A change may be made of extents. -/
def May (l : List ByteArray) (c : Chg) : Prop := c.x < l.length ∧ c.kind ≤ 2 ∧ (c.kind = 1 → c.long ≤ (exAt l c.x).size)
/-- Changes may be made of extents, one behind the other. -/
def Fits : List ByteArray → List Chg → Prop
  | l, [] => Sz l
  | l, c :: cs => Sz l ∧ May l c ∧ Fits (made l c) cs
theorem Fits.sz : ∀ {cs : List Chg} {l : List ByteArray}, Fits l cs → Sz l
  | [], _, h => h
  | _ :: _, _, h => h.1
theorem Fits.all : ∀ {cs : List Chg} {l : List ByteArray}, Fits l cs → Sz (madeAll l cs)
  | [], _, h => h
  | _ :: cs, _, h => Fits.all (cs := cs) h.2.2
theorem Fits.take : ∀ {cs : List Chg} {l : List ByteArray} (k : Nat), Fits l cs → Fits l (cs.take k)
  | [], _, k, h => by simpa using h
  | _ :: _, _, 0, h => h.1
  | _ :: cs, _, k + 1, h => ⟨h.1, h.2.1, Fits.take (cs := cs) k h.2.2⟩
theorem Fits.snoc : ∀ {cs : List Chg} {l : List ByteArray} {c : Chg}, Fits l cs → May (madeAll l cs) c → Sz (made (madeAll l cs) c) → Fits l (cs ++ [c])
  | [], _, _, h, hm, hs => ⟨h, hm, hs⟩
  | _ :: cs, _, _, h, hm, hs => ⟨h.1, h.2.1, Fits.snoc (cs := cs) h.2.2 hm hs⟩
theorem Fits.may : ∀ {cs : List Chg} {l : List ByteArray} {k : Nat} {c : Chg}, Fits l cs → cs[k]? = some c → May (madeAll l (cs.take k)) c
  | [], _, _, _, _, h => by simp at h
  | _ :: _, _, 0, _, h, hc => by
    simp only [List.getElem?_cons_zero, Option.some.injEq] at hc
    subst hc
    exact h.2.1
  | _ :: cs, _, k + 1, _, h, hc => Fits.may (cs := cs) (k := k) h.2.2 (by simpa using hc)
theorem Fits.upto {cs : List Chg} {l : List ByteArray} (h : Fits l cs) (k : Nat) : Sz (madeAll l (cs.take k)) := (h.take k).all
theorem sz_made {l : List ByteArray} {c : Chg} (h : Sz l) (hc : (made1 (exAt l c.x) c).size ≤ 65536) : Sz (made l c) := fun s hs => by
  rcases List.mem_or_eq_of_mem_set hs with hs | rfl
  · exact h s hs
  · exact hc

/-- A disk. -/
structure Disk where
  room : Int
  sure : List ByteArray
  waits : List Chg
  changes : Int
  falls : Int
  down : Bool
  laid : Bool
  after : Int
  keep : Int
  torn : Int
/-- What is read. -/
def Disk.now (d : Disk) : List ByteArray := madeAll d.sure d.waits
theorem Disk.now_length (d : Disk) : d.now.length = d.sure.length := madeAll_length _ _
/-- What becomes of the change behind those that are kept. -/
def tornOf (torn : Int) : Option Chg → List Chg
  | some c => if c.kind = 0 ∧ 0 < torn then [{ c with text := c.text.extract 0 (min torn.toNat c.text.size) }] else []
  | none => []
/-- How many changes are kept whole. -/
def keepOf (n : Nat) (keep : Int) : Nat := min keep.toNat n
/-- The changes that are made for good where the power fails. -/
def kept (ws : List Chg) (keep torn : Int) : List Chg := ws.take (keepOf ws.length keep) ++ tornOf torn ws[keepOf ws.length keep]?
/-- The power fails. -/
def Disk.fail (d : Disk) (keep torn : Int) : Disk :=
  if d.down = true then d else { d with sure := madeAll d.sure (kept d.waits keep torn), waits := [], falls := d.falls + 1, down := true }
/-- Why a change may not be made. -/
def Disk.refused (d : Disk) (kind : Nat) (x long : Int) (text : ByteArray) : Int :=
  if d.down = true then 9 else if x < 0 ∨ (d.sure.length : Int) ≤ x then 1
  else if kind = 1 ∧ (long < 0 ∨ ((exAt d.now x.toNat).size : Int) < long) then 1
  else if kind = 0 ∧ d.room - ((exAt d.now x.toNat).size : Int) < (text.size : Int) then 6 else 0
/-- A change that may be made. -/
def Disk.puts (d : Disk) (c : Chg) : Disk × Int :=
  if d.laid = true ∧ d.after ≤ 0 then ({ d with waits := d.waits ++ [c], laid := false }.fail d.keep d.torn, 9)
  else ({ d with waits := d.waits ++ [c], changes := d.changes + 1, after := if d.laid = true then d.after - 1 else d.after }, 0)
/-- A change. -/
def Disk.act (d : Disk) (kind : Nat) (x long : Int) (text : ByteArray) : Disk × Int :=
  if d.refused kind x long text = 0 then d.puts ⟨kind, x.toNat, long.toNat, text⟩ else (d, d.refused kind x long text)
def Disk.sync (d : Disk) : Disk × Int := if d.down = true then (d, 9) else ({ d with sure := d.now, waits := [] }, 0)
def Disk.up (d : Disk) : Disk := { d with down := false }
def Disk.lay (d : Disk) (after keep torn : Int) : Disk := { d with laid := true, after := after, keep := keep, torn := torn }
/-- A disk that is new. -/
def Disk.new (n : Nat) (room : Int) : Disk := ⟨room, List.replicate n ⟨#[]⟩, [], 0, 0, false, false, 0, 0, 0⟩
/-- What holds of each disk. -/
structure Disk.Ok (d : Disk) : Prop where
  room0 : 1 ≤ d.room
  room1 : d.room ≤ 65536
  num : d.sure.length ≤ 64
  fits : Fits d.sure d.waits
theorem Fits.text {cs : List Chg} {l : List ByteArray} {k : Nat} {c : Chg} (h : Fits l cs) (hc : cs[k]? = some c) (h0 : c.kind = 0) : c.text.size ≤ 65536 := by
  have hm := h.may hc
  have hn := (h.upto (k + 1)).at c.x
  rw [List.take_add_one, hc, Option.toList_some, madeAll_snoc, exAt_made_same hm.1] at hn
  simp only [made1, h0, if_true, ByteArray.size_append] at hn
  omega
theorem madeAll_append (l : List ByteArray) (a b : List Chg) : madeAll l (a ++ b) = madeAll (madeAll l a) b := by simp [madeAll]
theorem tornOf_none (t : Int) : tornOf t none = [] := rfl
theorem tornOf_yes {t : Int} {c : Chg} (h : c.kind = 0 ∧ 0 < t) : tornOf t (some c) = [{ c with text := c.text.extract 0 (min t.toNat c.text.size) }] := if_pos h
theorem tornOf_no {t : Int} {c : Chg} (h : ¬ (c.kind = 0 ∧ 0 < t)) : tornOf t (some c) = [] := if_neg h
theorem kept_fits {l : List ByteArray} {ws : List Chg} (h : Fits l ws) (keep torn : Int) : Fits l (kept ws keep torn) := by
  unfold kept
  cases hc : ws[keepOf ws.length keep]? with
  | none => simpa [tornOf] using h.take _
  | some c =>
    have hm := h.may hc
    by_cases hk : c.kind = 0 ∧ 0 < torn
    · rw [tornOf_yes hk]
      refine (h.take _).snoc ⟨hm.1, hm.2.1, fun e => by simp [hk.1] at e⟩ (sz_made (h.upto _) ?_)
      have hn := (h.upto (keepOf ws.length keep + 1)).at c.x
      rw [List.take_add_one, hc, Option.toList_some, madeAll_snoc, exAt_made_same hm.1] at hn
      simp only [made1, hk.1, if_true, ByteArray.size_append] at hn ⊢
      rw [ByteArray.size_extract]
      omega
    · rw [tornOf_no hk]; simpa using h.take _
theorem kept_length (ws : List Chg) (keep torn : Int) : (kept ws keep torn).length ≤ ws.length := by
  unfold kept
  have hk : keepOf ws.length keep ≤ ws.length := Nat.min_le_right _ _
  cases hc : ws[keepOf ws.length keep]? with
  | none => simp [tornOf]; omega
  | some c =>
    have := (List.getElem?_eq_some_iff.1 hc).1
    by_cases hk : c.kind = 0 ∧ 0 < torn
    · rw [tornOf_yes hk]; simp; omega
    · rw [tornOf_no hk]; simp; omega
theorem Disk.Ok.fail {d : Disk} (h : d.Ok) (keep torn : Int) : (d.fail keep torn).Ok := by
  unfold Disk.fail
  split
  · exact h
  · exact ⟨h.room0, h.room1, by simpa [madeAll_length] using h.num, (kept_fits h.fits keep torn).all⟩
theorem Disk.refused_zero {d : Disk} {kind : Nat} {x long : Int} {text : ByteArray} (h : d.refused kind x long text = 0) : d.down = false ∧ 0 ≤ x ∧ x < d.sure.length ∧
    (kind = 1 → 0 ≤ long ∧ long ≤ (exAt d.now x.toNat).size) ∧ (kind = 0 → (text.size : Int) ≤ d.room - (exAt d.now x.toNat).size) := by
  unfold Disk.refused at h
  split at h
  · omega
  · next h1 =>
    split at h
    · omega
    · next h2 =>
      split at h
      · omega
      · next h3 =>
        split at h
        · omega
        · next h4 =>
          refine ⟨by simpa using h1, by omega, by omega, fun e => ?_, fun e => ?_⟩
          · by_cases hl : long < 0
            · exact absurd ⟨e, .inl hl⟩ h3
            · by_cases hl2 : ((exAt d.now x.toNat).size : Int) < long
              · exact absurd ⟨e, .inr hl2⟩ h3
              · omega
          · by_cases hl : d.room - ((exAt d.now x.toNat).size : Int) < (text.size : Int)
            · exact absurd ⟨e, hl⟩ h4
            · omega
theorem Disk.Ok.may {d : Disk} (h : d.Ok) {kind : Nat} (hk : kind ≤ 2) {x long : Int} {text : ByteArray} (hr : d.refused kind x long text = 0) :
    May d.now ⟨kind, x.toNat, long.toNat, text⟩ ∧ Fits d.sure (d.waits ++ [⟨kind, x.toNat, long.toNat, text⟩]) := by
  obtain ⟨-, h0, h1, h2, h3⟩ := Disk.refused_zero hr
  have hm : May d.now ⟨kind, x.toNat, long.toNat, text⟩ := ⟨by rw [d.now_length]; show x.toNat < _; omega, hk, fun e => by have := h2 e; show long.toNat ≤ (exAt d.now x.toNat).size; omega⟩
  refine ⟨hm, h.fits.snoc hm (sz_made h.fits.all ?_)⟩
  have hs := h.fits.all.at x.toNat
  have hr1 := h.room1
  show (made1 (exAt d.now x.toNat) _).size ≤ 65536
  change (exAt d.now x.toNat).size ≤ 65536 at hs
  unfold made1
  split
  · next e => have := h3 e; rw [ByteArray.size_append]; show _ + text.size ≤ _; omega
  · split
    · rw [ByteArray.size_extract]; omega
    · exact Nat.zero_le _
theorem Disk.Ok.act {d : Disk} (h : d.Ok) {kind : Nat} (hk : kind ≤ 2) (x long : Int) (text : ByteArray) : (d.act kind x long text).1.Ok := by
  unfold Disk.act
  split
  · next hr =>
    have hf := (h.may hk hr).2
    unfold Disk.puts
    split
    · exact Disk.Ok.fail (d := { d with waits := d.waits ++ [⟨kind, x.toNat, long.toNat, text⟩], laid := false }) ⟨h.room0, h.room1, h.num, hf⟩ _ _
    · exact ⟨h.room0, h.room1, h.num, hf⟩
  · exact h
theorem Disk.Ok.sync {d : Disk} (h : d.Ok) : d.sync.1.Ok := by
  unfold Disk.sync
  split
  · exact h
  · exact ⟨h.room0, h.room1, by simpa [Disk.now_length] using h.num, h.fits.all⟩
theorem Disk.Ok.up {d : Disk} (h : d.Ok) : d.up.Ok := ⟨h.room0, h.room1, h.num, h.fits⟩
theorem Disk.Ok.lay {d : Disk} (h : d.Ok) (a k t : Int) : (d.lay a k t).Ok := ⟨h.room0, h.room1, h.num, h.fits⟩
theorem Disk.Ok.new {n : Nat} {room : Int} (hn : n ≤ 64) (h0 : 1 ≤ room) (h1 : room ≤ 65536) : (Disk.new n room).Ok :=
  ⟨h0, h1, by simpa [Disk.new] using hn, fun s hs => by simp [Disk.new] at hs; rw [hs.2]; exact Nat.zero_le _⟩
theorem Disk.fail_waits {d : Disk} (keep torn : Int) : (d.fail keep torn).waits.length ≤ d.waits.length := by
  unfold Disk.fail; split
  · exact Nat.le_refl _
  · exact Nat.zero_le _
theorem Disk.act_waits {d : Disk} (kind : Nat) (x long : Int) (text : ByteArray) : (d.act kind x long text).1.waits.length ≤ d.waits.length + 1 := by
  unfold Disk.act
  split
  · unfold Disk.puts
    split
    · exact Nat.le_trans (Disk.fail_waits _ _) (by simp)
    · simp
  · simp
theorem Disk.fail_changes' {d : Disk} (keep torn : Int) : (d.fail keep torn).changes = d.changes := by
  unfold Disk.fail; split <;> rfl
theorem Disk.act_changes {d : Disk} (kind : Nat) (x long : Int) (text : ByteArray) : d.changes ≤ (d.act kind x long text).1.changes ∧ (d.act kind x long text).1.changes ≤ d.changes + 1 := by
  unfold Disk.act
  split
  · unfold Disk.puts
    split
    · rw [Disk.fail_changes']; exact ⟨Int.le_refl _, by show d.changes ≤ d.changes + 1; omega⟩
    · exact ⟨by show d.changes ≤ d.changes + 1; omega, Int.le_refl _⟩
  · exact ⟨Int.le_refl _, by show d.changes ≤ d.changes + 1; omega⟩
theorem Disk.fail_changes {d : Disk} (keep torn : Int) : (d.fail keep torn).changes = d.changes := by
  unfold Disk.fail; split <;> rfl
theorem Disk.fail_falls {d : Disk} (keep torn : Int) : d.falls ≤ (d.fail keep torn).falls ∧ (d.fail keep torn).falls ≤ d.falls + 1 := by
  unfold Disk.fail; split <;> simp <;> omega
theorem Disk.act_falls {d : Disk} (kind : Nat) (x long : Int) (text : ByteArray) : d.falls ≤ (d.act kind x long text).1.falls ∧ (d.act kind x long text).1.falls ≤ d.falls + 1 := by
  unfold Disk.act
  split
  · unfold Disk.puts
    split
    · exact Disk.fail_falls (d := { d with waits := _, laid := false }) _ _
    · simp; omega
  · constructor <;> simp <;> omega
theorem Disk.fail_room {d : Disk} (keep torn : Int) : (d.fail keep torn).room = d.room ∧ (d.fail keep torn).sure.length = d.sure.length := by
  unfold Disk.fail; split
  · exact ⟨rfl, rfl⟩
  · exact ⟨rfl, madeAll_length _ _⟩
theorem Disk.act_room {d : Disk} (kind : Nat) (x long : Int) (text : ByteArray) : (d.act kind x long text).1.room = d.room ∧ (d.act kind x long text).1.sure.length = d.sure.length := by
  unfold Disk.act
  split
  · unfold Disk.puts
    split
    · exact Disk.fail_room (d := { d with waits := _, laid := false }) _ _
    · exact ⟨rfl, rfl⟩
  · exact ⟨rfl, rfl⟩
end Dk
end Go.Proofs.Ytefpfedpgedloaa
