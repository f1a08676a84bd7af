/- Merged by program: Plain mathematics of disk: what changes make of extents; what is left behind a loss of power. No program. | Plain mathematics of disk, for the laws: what was synced stays; appends; what the document's loss of power makes, change by change. No program. | Disks in memory: which block has which role; extents, changes that wait, the head. | disk.change.do: a change is made of extents. | disk.change.do: a change that trims, or empties. | disk: what is read of a disk (Down, extent, Read, Room, Extents, Waits, Changes, Falls), refuses. | disk: refuses, strikes, Up, Lay. -/
import Derived.Lib.Hide
import Derived.Test.YtdmbombjkinboaaGreatMB
import Derived.Deep.RegionLaw
import Derived.Deep.RegionHeld3
import Derived.RegionTactic
import Derived.BigQuiet
namespace Go.Proofs.YtdmbombjkinboaaGreat
namespace Dk

/-- A change: kind 0 appends, 1 trims, 2 empties. -/
structure Chg where
  kind : Nat
  x : Nat
  long : Nat
  text : ByteArray
/-- What is read of an extent. -/
def exAt (l : List ByteArray) (x : Nat) : ByteArray := l.getD x ⟨#[]⟩
/-- An extent behind a change. -/
def made1 (s : ByteArray) (c : Chg) : ByteArray := if c.kind = 0 then s ++ c.text else if c.kind = 1 then s.extract 0 c.long else ⟨#[]⟩
/-- All extents behind a change. -/
def made (l : List ByteArray) (c : Chg) : List ByteArray := l.set c.x (made1 (exAt l c.x) c)
def madeAll (l : List ByteArray) (cs : List Chg) : List ByteArray := cs.foldl made l
theorem made_length (l : List ByteArray) (c : Chg) : (made l c).length = l.length := by simp [made]
theorem madeAll_length : ∀ (cs : List Chg) (l : List ByteArray), (madeAll l cs).length = l.length
  | [], _ => rfl
  | c :: cs, l => (madeAll_length cs (made l c)).trans (made_length l c)
theorem madeAll_snoc (l : List ByteArray) (cs : List Chg) (c : Chg) : madeAll l (cs ++ [c]) = made (madeAll l cs) c := by simp [madeAll]
theorem exAt_lt {l : List ByteArray} {x : Nat} (h : x < l.length) : l[x]? = some (exAt l x) := by simp [exAt, h]
theorem exAt_set_same {l : List ByteArray} {x : Nat} (h : x < l.length) (s : ByteArray) : exAt (l.set x s) x = s := by simp [exAt, h]
theorem exAt_set_other {l : List ByteArray} {x k : Nat} (h : x ≠ k) (s : ByteArray) : exAt (l.set x s) k = exAt l k := by simp [exAt, h]
theorem exAt_made_same {l : List ByteArray} {c : Chg} (h : c.x < l.length) : exAt (made l c) c.x = made1 (exAt l c.x) c := exAt_set_same h _
theorem exAt_made_other {l : List ByteArray} {c : Chg} {k : Nat} (h : c.x ≠ k) : exAt (made l c) k = exAt l k := exAt_set_other h _
theorem extract_size (s : ByteArray) (n : Nat) (h : n ≤ s.size) : (s.extract 0 n).size = n := by simp; omega
/-- No extent is longer than there may be. -/
def Sz (l : List ByteArray) : Prop := ∀ s ∈ l, s.size ≤ 65536
theorem Sz.at {l : List ByteArray} (h : Sz l) (x : Nat) : (exAt l x).size ≤ 65536 := by
  by_cases hx : x < l.length
  · exact h _ (List.mem_of_getElem? (exAt_lt hx))
  · rw [show exAt l x = ⟨#[]⟩ by simp [exAt, hx]]; exact Nat.zero_le _
/-- A change may be made of extents. -/
def May (l : List ByteArray) (c : Chg) : Prop := c.x < l.length ∧ c.kind ≤ 2 ∧ (c.kind = 1 → c.long ≤ (exAt l c.x).size)
/-- Changes may be made of extents, one behind the other. -/
def Fits : List ByteArray → List Chg → Prop
  | l, [] => Sz l
  | l, c :: cs => Sz l ∧ May l c ∧ Fits (made l c) cs
theorem Fits.sz : ∀ {cs : List Chg} {l : List ByteArray}, Fits l cs → Sz l
  | [], _, h => h
  | _ :: _, _, h => h.1
theorem Fits.all : ∀ {cs : List Chg} {l : List ByteArray}, Fits l cs → Sz (madeAll l cs)
  | [], _, h => h
  | _ :: cs, _, h => Fits.all (cs := cs) h.2.2
theorem Fits.take : ∀ {cs : List Chg} {l : List ByteArray} (k : Nat), Fits l cs → Fits l (cs.take k)
  | [], _, k, h => by simpa using h
  | _ :: _, _, 0, h => h.1
  | _ :: cs, _, k + 1, h => ⟨h.1, h.2.1, Fits.take (cs := cs) k h.2.2⟩
theorem Fits.snoc : ∀ {cs : List Chg} {l : List ByteArray} {c : Chg}, Fits l cs → May (madeAll l cs) c → Sz (made (madeAll l cs) c) → Fits l (cs ++ [c])
  | [], _, _, h, hm, hs => ⟨h, hm, hs⟩
  | _ :: cs, _, _, h, hm, hs => ⟨h.1, h.2.1, Fits.snoc (cs := cs) h.2.2 hm hs⟩
theorem Fits.may : ∀ {cs : List Chg} {l : List ByteArray} {k : Nat} {c : Chg}, Fits l cs → cs[k]? = some c → May (madeAll l (cs.take k)) c
  | [], _, _, _, _, h => by simp at h
  | _ :: _, _, 0, _, h, hc => by
    simp only [List.getElem?_cons_zero, Option.some.injEq] at hc
    subst hc
    exact h.2.1
  | _ :: cs, _, k + 1, _, h, hc => Fits.may (cs := cs) (k := k) h.2.2 (by simpa using hc)
theorem Fits.upto {cs : List Chg} {l : List ByteArray} (h : Fits l cs) (k : Nat) : Sz (madeAll l (cs.take k)) := (h.take k).all
theorem sz_made {l : List ByteArray} {c : Chg} (h : Sz l) (hc : (made1 (exAt l c.x) c).size ≤ 65536) : Sz (made l c) := fun s hs => by
  rcases List.mem_or_eq_of_mem_set hs with hs | rfl
  · exact h s hs
  · exact hc

/-- A disk. -/
structure Disk where
  room : Int
  sure : List ByteArray
  waits : List Chg
  changes : Int
  falls : Int
  down : Bool
  laid : Bool
  after : Int
  keep : Int
  torn : Int
/-- What is read. -/
def Disk.now (d : Disk) : List ByteArray := madeAll d.sure d.waits
theorem Disk.now_length (d : Disk) : d.now.length = d.sure.length := madeAll_length _ _
/-- What becomes of the change behind those that are kept. -/
def tornOf (torn : Int) : Option Chg → List Chg
  | some c => if c.kind = 0 ∧ 0 < torn then [{ c with text := c.text.extract 0 (min torn.toNat c.text.size) }] else []
  | none => []
/-- How many changes are kept whole. -/
def keepOf (n : Nat) (keep : Int) : Nat := min keep.toNat n
/-- The changes that are made for good where the power fails. -/
def kept (ws : List Chg) (keep torn : Int) : List Chg := ws.take (keepOf ws.length keep) ++ tornOf torn ws[keepOf ws.length keep]?
/-- The power fails. -/
def Disk.fail (d : Disk) (keep torn : Int) : Disk :=
  if d.down = true then d else { d with sure := madeAll d.sure (kept d.waits keep torn), waits := [], falls := d.falls + 1, down := true }
/-- Why a change may not be made. -/
def Disk.refused (d : Disk) (kind : Nat) (x long : Int) (text : ByteArray) : Int :=
  if d.down = true then 9 else if x < 0 ∨ (d.sure.length : Int) ≤ x then 1
  else if kind = 1 ∧ (long < 0 ∨ ((exAt d.now x.toNat).size : Int) < long) then 1
  else if kind = 0 ∧ d.room - ((exAt d.now x.toNat).size : Int) < (text.size : Int) then 6 else 0
/-- A change that may be made. -/
def Disk.puts (d : Disk) (c : Chg) : Disk × Int :=
  if d.laid = true ∧ d.after ≤ 0 then ({ d with waits := d.waits ++ [c], laid := false }.fail d.keep d.torn, 9)
  else ({ d with waits := d.waits ++ [c], changes := d.changes + 1, after := if d.laid = true then d.after - 1 else d.after }, 0)
/-- A change. -/
def Disk.act (d : Disk) (kind : Nat) (x long : Int) (text : ByteArray) : Disk × Int :=
  if d.refused kind x long text = 0 then d.puts ⟨kind, x.toNat, long.toNat, text⟩ else (d, d.refused kind x long text)
def Disk.sync (d : Disk) : Disk × Int := if d.down = true then (d, 9) else ({ d with sure := d.now, waits := [] }, 0)
def Disk.up (d : Disk) : Disk := { d with down := false }
def Disk.lay (d : Disk) (after keep torn : Int) : Disk := { d with laid := true, after := after, keep := keep, torn := torn }
/-- A disk that is new. -/
def Disk.new (n : Nat) (room : Int) : Disk := ⟨room, List.replicate n ⟨#[]⟩, [], 0, 0, false, false, 0, 0, 0⟩
/-- What holds of each disk. -/
structure Disk.Ok (d : Disk) : Prop where
  room0 : 1 ≤ d.room
  room1 : d.room ≤ 65536
  num : d.sure.length ≤ 64
  fits : Fits d.sure d.waits
theorem Fits.text {cs : List Chg} {l : List ByteArray} {k : Nat} {c : Chg} (h : Fits l cs) (hc : cs[k]? = some c) (h0 : c.kind = 0) : c.text.size ≤ 65536 := by
  have hm := h.may hc
  have hn := (h.upto (k + 1)).at c.x
  rw [List.take_add_one, hc, Option.toList_some, madeAll_snoc, exAt_made_same hm.1] at hn
  simp only [made1, h0, if_true, ByteArray.size_append] at hn
  omega
theorem madeAll_append (l : List ByteArray) (a b : List Chg) : madeAll l (a ++ b) = madeAll (madeAll l a) b := by simp [madeAll]
theorem tornOf_none (t : Int) : tornOf t none = [] := rfl
theorem tornOf_yes {t : Int} {c : Chg} (h : c.kind = 0 ∧ 0 < t) : tornOf t (some c) = [{ c with text := c.text.extract 0 (min t.toNat c.text.size) }] := if_pos h
theorem tornOf_no {t : Int} {c : Chg} (h : ¬ (c.kind = 0 ∧ 0 < t)) : tornOf t (some c) = [] := if_neg h
theorem kept_fits {l : List ByteArray} {ws : List Chg} (h : Fits l ws) (keep torn : Int) : Fits l (kept ws keep torn) := by
  unfold kept
  cases hc : ws[keepOf ws.length keep]? with
  | none => simpa [tornOf] using h.take _
  | some c =>
    have hm := h.may hc
    by_cases hk : c.kind = 0 ∧ 0 < torn
    · rw [tornOf_yes hk]
      refine (h.take _).snoc ⟨hm.1, hm.2.1, fun e => by simp [hk.1] at e⟩ (sz_made (h.upto _) ?_)
      have hn := (h.upto (keepOf ws.length keep + 1)).at c.x
      rw [List.take_add_one, hc, Option.toList_some, madeAll_snoc, exAt_made_same hm.1] at hn
      simp only [made1, hk.1, if_true, ByteArray.size_append] at hn ⊢
      rw [ByteArray.size_extract]
      omega
    · rw [tornOf_no hk]; simpa using h.take _
theorem kept_length (ws : List Chg) (keep torn : Int) : (kept ws keep torn).length ≤ ws.length := by
  unfold kept
  have hk : keepOf ws.length keep ≤ ws.length := Nat.min_le_right _ _
  cases hc : ws[keepOf ws.length keep]? with
  | none => simp [tornOf]; omega
  | some c =>
    have := (List.getElem?_eq_some_iff.1 hc).1
    by_cases hk : c.kind = 0 ∧ 0 < torn
    · rw [tornOf_yes hk]; simp; omega
    · rw [tornOf_no hk]; simp; omega
theorem Disk.Ok.fail {d : Disk} (h : d.Ok) (keep torn : Int) : (d.fail keep torn).Ok := by
  unfold Disk.fail
  split
  · exact h
  · exact ⟨h.room0, h.room1, by simpa [madeAll_length] using h.num, (kept_fits h.fits keep torn).all⟩
theorem Disk.refused_zero {d : Disk} {kind : Nat} {x long : Int} {text : ByteArray} (h : d.refused kind x long text = 0) : d.down = false ∧ 0 ≤ x ∧ x < d.sure.length ∧
    (kind = 1 → 0 ≤ long ∧ long ≤ (exAt d.now x.toNat).size) ∧ (kind = 0 → (text.size : Int) ≤ d.room - (exAt d.now x.toNat).size) := by
  unfold Disk.refused at h
  split at h
  · omega
  · next h1 =>
    split at h
    · omega
    · next h2 =>
      split at h
      · omega
      · next h3 =>
        split at h
        · omega
        · next h4 =>
          refine ⟨by simpa using h1, by omega, by omega, fun e => ?_, fun e => ?_⟩
          · by_cases hl : long < 0
            · exact absurd ⟨e, .inl hl⟩ h3
            · by_cases hl2 : ((exAt d.now x.toNat).size : Int) < long
              · exact absurd ⟨e, .inr hl2⟩ h3
              · omega
          · by_cases hl : d.room - ((exAt d.now x.toNat).size : Int) < (text.size : Int)
            · exact absurd ⟨e, hl⟩ h4
            · omega
theorem Disk.Ok.may {d : Disk} (h : d.Ok) {kind : Nat} (hk : kind ≤ 2) {x long : Int} {text : ByteArray} (hr : d.refused kind x long text = 0) :
    May d.now ⟨kind, x.toNat, long.toNat, text⟩ ∧ Fits d.sure (d.waits ++ [⟨kind, x.toNat, long.toNat, text⟩]) := by
  obtain ⟨-, h0, h1, h2, h3⟩ := Disk.refused_zero hr
  have hm : May d.now ⟨kind, x.toNat, long.toNat, text⟩ := ⟨by rw [d.now_length]; show x.toNat < _; omega, hk, fun e => by have := h2 e; show long.toNat ≤ (exAt d.now x.toNat).size; omega⟩
  refine ⟨hm, h.fits.snoc hm (sz_made h.fits.all ?_)⟩
  have hs := h.fits.all.at x.toNat
  have hr1 := h.room1
  show (made1 (exAt d.now x.toNat) _).size ≤ 65536
  change (exAt d.now x.toNat).size ≤ 65536 at hs
  unfold made1
  split
  · next e => have := h3 e; rw [ByteArray.size_append]; show _ + text.size ≤ _; omega
  · split
    · rw [ByteArray.size_extract]; omega
    · exact Nat.zero_le _
theorem Disk.Ok.act {d : Disk} (h : d.Ok) {kind : Nat} (hk : kind ≤ 2) (x long : Int) (text : ByteArray) : (d.act kind x long text).1.Ok := by
  unfold Disk.act
  split
  · next hr =>
    have hf := (h.may hk hr).2
    unfold Disk.puts
    split
    · exact Disk.Ok.fail (d := { d with waits := d.waits ++ [⟨kind, x.toNat, long.toNat, text⟩], laid := false }) ⟨h.room0, h.room1, h.num, hf⟩ _ _
    · exact ⟨h.room0, h.room1, h.num, hf⟩
  · exact h
theorem Disk.Ok.sync {d : Disk} (h : d.Ok) : d.sync.1.Ok := by
  unfold Disk.sync
  split
  · exact h
  · exact ⟨h.room0, h.room1, by simpa [Disk.now_length] using h.num, h.fits.all⟩
theorem Disk.Ok.up {d : Disk} (h : d.Ok) : d.up.Ok := ⟨h.room0, h.room1, h.num, h.fits⟩
theorem Disk.Ok.lay {d : Disk} (h : d.Ok) (a k t : Int) : (d.lay a k t).Ok := ⟨h.room0, h.room1, h.num, h.fits⟩
theorem Disk.Ok.new {n : Nat} {room : Int} (hn : n ≤ 64) (h0 : 1 ≤ room) (h1 : room ≤ 65536) : (Disk.new n room).Ok :=
  ⟨h0, h1, by simpa [Disk.new] using hn, fun s hs => by simp [Disk.new] at hs; rw [hs.2]; exact Nat.zero_le _⟩
theorem Disk.fail_waits {d : Disk} (keep torn : Int) : (d.fail keep torn).waits.length ≤ d.waits.length := by
  unfold Disk.fail; split
  · exact Nat.le_refl _
  · exact Nat.zero_le _
theorem Disk.act_waits {d : Disk} (kind : Nat) (x long : Int) (text : ByteArray) : (d.act kind x long text).1.waits.length ≤ d.waits.length + 1 := by
  unfold Disk.act
  split
  · unfold Disk.puts
    split
    · exact Nat.le_trans (Disk.fail_waits _ _) (by simp)
    · simp
  · simp
theorem Disk.fail_changes' {d : Disk} (keep torn : Int) : (d.fail keep torn).changes = d.changes := by
  unfold Disk.fail; split <;> rfl
theorem Disk.act_changes {d : Disk} (kind : Nat) (x long : Int) (text : ByteArray) : d.changes ≤ (d.act kind x long text).1.changes ∧ (d.act kind x long text).1.changes ≤ d.changes + 1 := by
  unfold Disk.act
  split
  · unfold Disk.puts
    split
    · rw [Disk.fail_changes']; exact ⟨Int.le_refl _, by show d.changes ≤ d.changes + 1; omega⟩
    · exact ⟨by show d.changes ≤ d.changes + 1; omega, Int.le_refl _⟩
  · exact ⟨Int.le_refl _, by show d.changes ≤ d.changes + 1; omega⟩
theorem Disk.fail_changes {d : Disk} (keep torn : Int) : (d.fail keep torn).changes = d.changes := by
  unfold Disk.fail; split <;> rfl
theorem Disk.fail_falls {d : Disk} (keep torn : Int) : d.falls ≤ (d.fail keep torn).falls ∧ (d.fail keep torn).falls ≤ d.falls + 1 := by
  unfold Disk.fail; split <;> simp <;> omega
theorem Disk.act_falls {d : Disk} (kind : Nat) (x long : Int) (text : ByteArray) : d.falls ≤ (d.act kind x long text).1.falls ∧ (d.act kind x long text).1.falls ≤ d.falls + 1 := by
  unfold Disk.act
  split
  · unfold Disk.puts
    split
    · exact Disk.fail_falls (d := { d with waits := _, laid := false }) _ _
    · simp; omega
  · constructor <;> simp <;> omega
theorem Disk.fail_room {d : Disk} (keep torn : Int) : (d.fail keep torn).room = d.room ∧ (d.fail keep torn).sure.length = d.sure.length := by
  unfold Disk.fail; split
  · exact ⟨rfl, rfl⟩
  · exact ⟨rfl, madeAll_length _ _⟩
theorem Disk.act_room {d : Disk} (kind : Nat) (x long : Int) (text : ByteArray) : (d.act kind x long text).1.room = d.room ∧ (d.act kind x long text).1.sure.length = d.sure.length := by
  unfold Disk.act
  split
  · unfold Disk.puts
    split
    · exact Disk.fail_room (d := { d with waits := _, laid := false }) _ _
    · exact ⟨rfl, rfl⟩
  · exact ⟨rfl, rfl⟩
end Dk
end Go.Proofs.YtdmbombjkinboaaGreat
namespace Go.Proofs.YtdmbombjkinboaaGreat
namespace Dk

theorem keepOf_take {ws : List Chg} {i : Nat} (hi : i ≤ ws.length) (keep : Int) : keepOf (ws.take i).length keep = min keep.toNat i := by
  unfold keepOf; rw [List.length_take]; omega
theorem kept_take_lt {ws : List Chg} {i : Nat} (hi : i ≤ ws.length) (keep torn : Int) (h : i ≤ keep.toNat) : kept (ws.take i) keep torn = ws.take i := by
  unfold kept
  rw [keepOf_take hi, show min keep.toNat i = i by omega, List.getElem?_eq_none (by rw [List.length_take]; omega), tornOf_none, List.append_nil, List.take_take, Nat.min_self]
theorem kept_take_ge {ws : List Chg} {i : Nat} (hi : i ≤ ws.length) (keep torn : Int) (h : keep.toNat < i) : kept (ws.take i) keep torn = ws.take keep.toNat ++ tornOf torn ws[keep.toNat]? := by
  unfold kept
  rw [keepOf_take hi, show min keep.toNat i = keep.toNat by omega, List.getElem?_take_of_lt h, List.take_take, show min keep.toNat i = keep.toNat by omega]
theorem kept_zero (ws : List Chg) (keep torn : Int) : kept (ws.take 0) keep torn = [] := by simp [kept, keepOf, tornOf]
theorem kept_all (ws : List Chg) (keep torn : Int) : kept (ws.take ws.length) keep torn = kept ws keep torn := by rw [List.take_length]
/-- One change more: it is kept whole. -/
theorem kept_whole {ws : List Chg} {i : Nat} {c : Chg} (hc : ws[i]? = some c) (l : List ByteArray) {keep : Int} (torn : Int) (h : (i : Int) < keep) :
    madeAll l (kept (ws.take (i + 1)) keep torn) = made (madeAll l (kept (ws.take i) keep torn)) c := by
  have hi := (List.getElem?_eq_some_iff.1 hc).1
  rw [kept_take_lt (by omega) keep torn (by omega), kept_take_lt (by omega) keep torn (by omega), List.take_add_one, hc, Option.toList_some, madeAll_snoc]
/-- It is torn. -/
theorem kept_torn {ws : List Chg} {i : Nat} {c : Chg} (hc : ws[i]? = some c) (l : List ByteArray) {keep torn : Int} (h : ¬ (i : Int) < keep) (h1 : (i : Int) = keep ∨ (i = 0 ∧ keep < 0)) (h2 : 0 < torn) (h3 : c.kind = 0) :
    madeAll l (kept (ws.take (i + 1)) keep torn) = made (madeAll l (kept (ws.take i) keep torn)) { c with text := c.text.extract 0 (min torn.toNat c.text.size) } := by
  have hi := (List.getElem?_eq_some_iff.1 hc).1
  have hk : keep.toNat = i := by omega
  rw [kept_take_ge (by omega) keep torn (by omega), kept_take_lt (by omega) keep torn (by omega), hk, hc, tornOf_yes ⟨h3, h2⟩, madeAll_snoc]
/-- Nothing becomes of it. -/
theorem kept_none {ws : List Chg} {i : Nat} {c : Chg} (hc : ws[i]? = some c) (l : List ByteArray) {keep torn : Int} (h : ¬ (i : Int) < keep) (h1 : ¬ (((i : Int) = keep ∨ (i = 0 ∧ keep < 0)) ∧ 0 < torn ∧ c.kind = 0)) :
    madeAll l (kept (ws.take (i + 1)) keep torn) = madeAll l (kept (ws.take i) keep torn) := by
  have hi := (List.getElem?_eq_some_iff.1 hc).1
  by_cases hk : keep.toNat = i
  · rw [kept_take_ge (by omega) keep torn (by omega), kept_take_lt (by omega) keep torn (by omega), hk, hc, tornOf_no (fun e => h1 ⟨by omega, e.2, e.1⟩), List.append_nil]
  · rw [kept_take_ge (by omega) keep torn (by omega), kept_take_ge (by omega) keep torn (by omega)]

/-- A text begins with another. -/
def Pre (a b : ByteArray) : Prop := a.data.toList <+: b.data.toList
theorem Pre.refl (a : ByteArray) : Pre a a := List.prefix_refl _
theorem Pre.nil (b : ByteArray) : Pre ⟨#[]⟩ b := List.nil_prefix
theorem Pre.size {a b : ByteArray} (h : Pre a b) : a.size ≤ b.size := by simpa using h.length_le
theorem Pre.trans {a b c : ByteArray} (h : Pre a b) (k : Pre b c) : Pre a c := List.IsPrefix.trans h k
theorem pre_append (a b : ByteArray) : Pre a (a ++ b) := by unfold Pre; simp
theorem dextract_data (s : ByteArray) (n : Nat) : (s.extract 0 n).data.toList = s.data.toList.take n := by
  rw [ByteArray.data_extract]; simp
theorem ext_list {a b : ByteArray} (h : a.data.toList = b.data.toList) : a = b := by
  cases a; cases b; simp at h; rw [ByteArray.mk.injEq]; exact Array.toList_inj.1 (by simpa using h)
theorem pre_extract (s : ByteArray) (n : Nat) : Pre (s.extract 0 n) s := by unfold Pre; rw [dextract_data]; exact List.take_prefix _ _
theorem Pre.extract {a b : ByteArray} (h : Pre a b) : b.extract 0 a.size = a := by
  apply ext_list
  rw [dextract_data]
  have := List.prefix_iff_eq_take.1 h
  rw [Array.length_toList] at this
  exact this.symm
/-- What was synced is there: each extent begins with it, and all changes that wait append, or nothing is asked. -/
def Stays (S : List ByteArray) (d : Disk) : Prop := ∀ k, exAt S k = ⟨#[]⟩ ∨ (Pre (exAt S k) (exAt d.sure k) ∧ ∀ c ∈ d.waits, c.x = k → c.kind = 0)
theorem pre_made {s : ByteArray} {l : List ByteArray} {c : Chg} {k : Nat} (h : Pre s (exAt l k)) (hc : c.x = k → c.kind = 0) (hx : c.x < l.length) : Pre s (exAt (made l c) k) := by
  by_cases e : c.x = k
  · have h0 := hc e
    subst e
    rw [exAt_made_same hx, made1, if_pos h0]
    exact h.trans (pre_append _ _)
  · rw [exAt_made_other e]; exact h
theorem pre_madeAll {s : ByteArray} {k : Nat} : ∀ {cs : List Chg} {l : List ByteArray}, Pre s (exAt l k) → (∀ c ∈ cs, c.x = k → c.kind = 0) → (∀ c ∈ cs, c.x < l.length) → Pre s (exAt (madeAll l cs) k)
  | [], _, h, _, _ => h
  | c :: cs, l, h, hc, hx => pre_madeAll (cs := cs) (l := made l c) (pre_made h (hc c (by simp)) (hx c (by simp))) (fun d hd => hc d (by simp [hd])) (fun d hd => by rw [made_length]; exact hx d (by simp [hd]))
theorem Fits.mem : ∀ {cs : List Chg} {l : List ByteArray} {c : Chg}, Fits l cs → c ∈ cs → c.x < l.length
  | d :: cs, l, c, h, hc => by
    rcases List.mem_cons.1 hc with rfl | hc
    · exact h.2.1.1
    · have := Fits.mem (cs := cs) h.2.2 hc
      rwa [made_length] at this
theorem Stays.now {S : List ByteArray} {d : Disk} (h : Stays S d) (ho : d.Ok) (k : Nat) : Pre (exAt S k) (exAt d.now k) := by
  rcases h k with h | ⟨h1, h2⟩
  · rw [h]; exact Pre.nil _
  · exact pre_madeAll h1 h2 (fun c hc => ho.fits.mem hc)
theorem mem_kept {ws : List Chg} {keep torn : Int} {c : Chg} (h : c ∈ kept ws keep torn) : ∃ c' ∈ ws, c'.x = c.x ∧ c'.kind = c.kind := by
  unfold kept at h
  rcases List.mem_append.1 h with h | h
  · exact ⟨c, List.mem_of_mem_take h, rfl, rfl⟩
  · cases hc : ws[keepOf ws.length keep]? with
    | none => rw [hc, tornOf_none] at h; simp at h
    | some c' =>
      rw [hc] at h
      by_cases hk : c'.kind = 0 ∧ 0 < torn
      · rw [tornOf_yes hk] at h
        obtain rfl := List.mem_singleton.1 h
        exact ⟨c', List.mem_of_getElem? hc, rfl, rfl⟩
      · rw [tornOf_no hk] at h; simp at h
theorem Stays.fail {S : List ByteArray} {d : Disk} (h : Stays S d) (ho : d.Ok) (keep torn : Int) : Stays S (d.fail keep torn) := by
  unfold Disk.fail
  split
  · exact h
  · intro k
    rcases h k with h | ⟨h1, h2⟩
    · exact .inl h
    · refine .inr ⟨pre_madeAll h1 (fun c hc e => ?_) (fun c hc => ?_), fun c hc => by simp at hc⟩
      · obtain ⟨c', m, e1, e2⟩ := mem_kept hc
        rw [← e2]; exact h2 c' m (by rw [e1]; exact e)
      · obtain ⟨c', m, e1, -⟩ := mem_kept hc
        rw [← e1]; exact ho.fits.mem m
theorem Stays.sync (d : Disk) : Stays d.now d.sync.1 ∨ d.down = true := by
  unfold Disk.sync
  split
  · exact .inr ‹_›
  · exact .inl fun k => .inr ⟨Pre.refl _, fun c hc => by simp at hc⟩
theorem Stays.down {S : List ByteArray} {d : Disk} (h : Stays S d) (hd : d.down = true) : Stays S d.sync.1 := by
  unfold Disk.sync; rw [if_pos hd]; exact h
theorem Stays.up {S : List ByteArray} {d : Disk} (h : Stays S d) : Stays S d.up := h
theorem Stays.lay {S : List ByteArray} {d : Disk} (h : Stays S d) (a k t : Int) : Stays S (d.lay a k t) := h
/-- A change: of the extent that is trimmed or emptied nothing is asked any more. -/
theorem Stays.act {S S' : List ByteArray} {d : Disk} (h : Stays S d) (ho : d.Ok) {kind : Nat} (hk : kind ≤ 2) (x long : Int) (text : ByteArray)
    (hS : ∀ k : Nat, (k : Int) ≠ x → exAt S' k = exAt S k ∨ exAt S' k = ⟨#[]⟩) (hx : ∀ k : Nat, (k : Int) = x → k < d.sure.length → exAt S' k = ⟨#[]⟩ ∨ (kind = 0 ∧ exAt S' k = exAt S k)) (hl : ∀ k, d.sure.length ≤ k → exAt S' k = ⟨#[]⟩) : Stays S' (d.act kind x long text).1 := by
  have hSS : ∀ k, exAt S' k = exAt S k ∨ exAt S' k = ⟨#[]⟩ := fun k => by
    by_cases e : (k : Int) = x
    · by_cases e2 : k < d.sure.length
      · rcases hx k e e2 with h | h
        · exact .inr h
        · exact .inl h.2
      · exact .inr (hl k (by omega))
    · exact hS k e
  have hSt : Stays S' d := fun k => by
    rcases hSS k with e | e
    · rw [e]; exact h k
    · exact .inl e
  unfold Disk.act
  split
  · next hr =>
    have hf := (ho.may hk hr).2
    obtain ⟨-, h0, h1, -, -⟩ := Disk.refused_zero hr
    have hw : ∀ (l2 : Bool), Stays S' { d with waits := d.waits ++ [⟨kind, x.toNat, long.toNat, text⟩], laid := l2 } := fun l2 k => by
      rcases hSt k with e | ⟨e1, e2⟩
      · exact .inl e
      · by_cases ek : (k : Int) = x
        · rcases hx k ek (by omega) with e | ⟨e, -⟩
          · exact .inl e
          · refine .inr ⟨e1, fun c hc hck => ?_⟩
            rcases List.mem_append.1 hc with hc | hc
            · exact e2 c hc hck
            · rw [List.mem_singleton.1 hc]; exact e
        · refine .inr ⟨e1, fun c hc hck => ?_⟩
          rcases List.mem_append.1 hc with hc | hc
          · exact e2 c hc hck
          · rw [List.mem_singleton.1 hc] at hck
            have : x.toNat = k := hck
            omega
    unfold Disk.puts
    split
    · exact Stays.fail (hw false) ⟨ho.room0, ho.room1, ho.num, hf⟩ _ _
    · exact hw d.laid
  · exact hSt
end Dk
end Go.Proofs.YtdmbombjkinboaaGreat
namespace Go.Proofs.YtdmbombjkinboaaGreat
namespace Dk
/-- Appends to the first extent. -/
def appC (t : ByteArray) : Chg := ⟨0, 0, 0, t⟩
def cat (l : List ByteArray) : ByteArray := l.foldl (· ++ ·) ⟨#[]⟩
theorem foldl_cat (l : List ByteArray) (s : ByteArray) : l.foldl (· ++ ·) s = s ++ cat l := by
  unfold cat
  induction l generalizing s with
  | nil => exact ext_list (by simp)
  | cons t l ih => rw [List.foldl_cons, ih, List.foldl_cons, ih (⟨#[]⟩ ++ t)]; exact ext_list (by simp)
theorem cat_snoc (l : List ByteArray) (t : ByteArray) : cat (l ++ [t]) = cat l ++ t := by simp [cat]
theorem cat_append (a b : List ByteArray) : cat (a ++ b) = cat a ++ cat b := by unfold cat; rw [List.foldl_append, foldl_cat]; rfl
theorem cat_size : ∀ (l : List ByteArray), (cat l).size = (l.map ByteArray.size).sum
  | [] => rfl
  | t :: l => by
    have h : cat (t :: l) = t ++ cat l := by
      show l.foldl (· ++ ·) (⟨#[]⟩ ++ t) = _
      rw [foldl_cat, show (⟨#[]⟩ : ByteArray) ++ t = t from ext_list (by simp)]
    rw [h, ByteArray.size_append, cat_size l, List.map_cons, List.sum_cons]
theorem madeAll_app : ∀ (l : List ByteArray) (s : ByteArray), madeAll [s] (l.map appC) = [l.foldl (· ++ ·) s]
  | [], _ => rfl
  | t :: l, s => by
    rw [List.map_cons]
    show madeAll (made [s] (appC t)) (l.map appC) = _
    rw [show made [s] (appC t) = [s ++ t] from rfl, madeAll_app l]; rfl
theorem made_app (s t : ByteArray) : made [s] (appC t) = [s ++ t] := rfl
theorem nil_cat (s : ByteArray) : (⟨#[]⟩ : ByteArray) ++ s = s := ext_list (by simp)
theorem cat_nil (s : ByteArray) : s ++ (⟨#[]⟩ : ByteArray) = s := ext_list (by simp)
/-- The part that is torn off the change behind those that are kept. -/
def tornT (torn : Int) : Option ByteArray → ByteArray
  | some t => if 0 < torn then t.extract 0 (min torn.toNat t.size) else ⟨#[]⟩
  | none => ⟨#[]⟩
theorem madeAll_kept (l : List ByteArray) (keep torn : Int) : madeAll [⟨#[]⟩] (kept (l.map appC) keep torn) = [cat (l.take (keepOf l.length keep)) ++ tornT torn l[keepOf l.length keep]?] := by
  unfold kept
  rw [List.length_map, madeAll_append, ← List.map_take, madeAll_app, foldl_cat, nil_cat, List.getElem?_map]
  cases hc : l[keepOf l.length keep]? with
  | none => show [_] = [_ ++ (⟨#[]⟩ : ByteArray)]; rw [cat_nil]
  | some t =>
    rw [Option.map_some]
    by_cases h : 0 < torn
    · rw [tornOf_yes (c := appC t) ⟨rfl, h⟩, tornT, if_pos h]; rfl
    · rw [tornOf_no (fun e => h e.2), tornT, if_neg h, cat_nil]; rfl
/-- The disk behind some appends. -/
def appD (room : Int) (l : List ByteArray) (ch : Int) (laid : Bool) (after keep torn : Int) : Disk := ⟨room, [⟨#[]⟩], l.map appC, ch, 0, false, laid, after, keep, torn⟩
theorem appD_new (room : Int) : Disk.new 1 room = appD room [] 0 false 0 0 0 := rfl
theorem appD_lay (room : Int) (l : List ByteArray) (ch : Int) (b : Bool) (x y z a k t : Int) : (appD room l ch b x y z).lay a k t = appD room l ch true a k t := rfl
theorem appD_now (room : Int) (l : List ByteArray) (ch : Int) (laid : Bool) (a k t : Int) : (appD room l ch laid a k t).now = [cat l] := by
  show madeAll [⟨#[]⟩] (l.map appC) = _
  rw [madeAll_app, foldl_cat, nil_cat]
theorem appD_free {room : Int} {l : List ByteArray} {ch : Int} {laid : Bool} {a k t : Int} {s : ByteArray} (h : ((cat l).size : Int) + s.size ≤ room) : (appD room l ch laid a k t).refused 0 0 0 s = 0 := by
  unfold Disk.refused
  rw [appD_now]
  rw [if_neg (by simp [appD]), if_neg (by simp [appD]), if_neg (by simp), if_neg]
  show ¬ (0 = 0 ∧ room - ((exAt [cat l] (0 : Int).toNat).size : Int) < _)
  show ¬ (0 = 0 ∧ room - ((cat l).size : Int) < _)
  omega
theorem appD_act {room : Int} {l : List ByteArray} {ch : Int} {laid : Bool} {a k t : Int} {s : ByteArray} (h : ((cat l).size : Int) + s.size ≤ room) (h2 : laid = true → 0 < a) :
    (appD room l ch laid a k t).act 0 0 0 s = (appD room (l ++ [s]) (ch + 1) laid (if laid = true then a - 1 else a) k t, 0) := by
  unfold Disk.act
  rw [if_pos (appD_free h)]
  unfold Disk.puts
  rw [if_neg (fun e => by have := h2 e.1; have := e.2; simp [appD] at this; omega)]
  cases laid <;> simp [appD, appC]
theorem appD_strike {room : Int} {l : List ByteArray} {ch : Int} {a k t : Int} {s : ByteArray} (h : ((cat l).size : Int) + s.size ≤ room) (h2 : a ≤ 0) :
    (appD room l ch true a k t).act 0 0 0 s = ((appD room (l ++ [s]) ch false a k t).fail k t, 9) := by
  unfold Disk.act
  rw [if_pos (appD_free h)]
  unfold Disk.puts
  rw [if_pos ⟨rfl, h2⟩]
  simp [appD, appC]
theorem appD_fail (room : Int) (l : List ByteArray) (ch : Int) (laid : Bool) (a k t keep torn : Int) :
    (appD room l ch laid a k t).fail keep torn = ⟨room, [cat (l.take (keepOf l.length keep)) ++ tornT torn l[keepOf l.length keep]?], [], ch, 1, true, laid, a, k, t⟩ := by
  unfold Disk.fail
  rw [if_neg (by simp [appD])]
  show Disk.mk room (madeAll [⟨#[]⟩] (kept (l.map appC) keep torn)) [] ch _ true laid a k t = _
  rw [madeAll_kept]; rfl
theorem pre_left (a : ByteArray) {b c : ByteArray} (h : Pre b c) : Pre (a ++ b) (a ++ c) := by
  unfold Pre at h ⊢
  simp only [ByteArray.data_append, Array.toList_append]
  exact (List.prefix_append_right_inj _).2 h
theorem tornT_pre (torn : Int) (l : List ByteArray) (k : Nat) : Pre (tornT torn l[k]?) (cat (l.drop k)) := by
  cases hc : l[k]? with
  | none => exact Pre.nil _
  | some t =>
    have hk := (List.getElem?_eq_some_iff.1 hc)
    have e : cat (l.drop k) = t ++ cat (l.drop (k + 1)) := by
      rw [List.drop_eq_getElem_cons hk.1, hk.2, show t :: l.drop (k + 1) = [t] ++ l.drop (k + 1) from rfl, cat_append]
      exact congrArg (· ++ _) (nil_cat t)
    rw [e]
    by_cases h : 0 < torn
    · rw [tornT, if_pos h]; exact (pre_extract _ _).trans (pre_append _ _)
    · rw [tornT, if_neg h]; exact Pre.nil _
/-- WHAT IS LEFT IS A BEGINNING OF ALL, no shorter than what is kept. -/
theorem left_pre (l : List ByteArray) (k : Nat) (torn : Int) : Pre (cat (l.take k) ++ tornT torn l[k]?) (cat l) := by
  have h : cat l = cat (l.take k) ++ cat (l.drop k) := by rw [← cat_append, List.take_append_drop]
  rw [h]
  exact pre_left _ (tornT_pre torn l k)
end Dk
end Go.Proofs.YtdmbombjkinboaaGreat
namespace Go.Proofs.YtdmbombjkinboaaGreat
open Go.RowKit
open Dk

/-- A change of the world: blocks whose role is R may be written, new blocks may have any role; no other block has turned. -/
structure Touch (R : Nat → Prop) (ρ ρ' : Nat → Nat) (w w' : World) : Prop where
  os : w'.os = w.os
  tape : w'.tape = w.tape
  output : w'.output = w.output
  size : w.heap.size ≤ w'.heap.size
  old : ∀ g, g < w.heap.size → ρ' g = ρ g
  same : ∀ g, g < w.heap.size → ¬ R (ρ g) → w'.heap[g]? = w.heap[g]?
  lab : ∀ g, w'.heap.size ≤ g → ρ' g = ρ g
theorem Touch.refl (R : Nat → Prop) (ρ : Nat → Nat) (w : World) : Touch R ρ ρ w w := ⟨rfl, rfl, rfl, Nat.le_refl _, fun _ _ => rfl, fun _ _ _ => rfl, fun _ _ => rfl⟩
theorem Touch.trans {R : Nat → Prop} {ρ ρ' ρ'' : Nat → Nat} {a b c : World} (h : Touch R ρ ρ' a b) (k : Touch R ρ' ρ'' b c) : Touch R ρ ρ'' a c :=
  ⟨k.os.trans h.os, k.tape.trans h.tape, k.output.trans h.output, Nat.le_trans h.size k.size, fun g hg => (k.old g (Nat.lt_of_lt_of_le hg h.size)).trans (h.old g hg),
    fun g hg hr => (k.same g (Nat.lt_of_lt_of_le hg h.size) (by rw [h.old g hg]; exact hr)).trans (h.same g hg hr), fun g hg => (k.lab g hg).trans (h.lab g (Nat.le_trans k.size hg))⟩
theorem Touch.mono {R R' : Nat → Prop} {ρ ρ' : Nat → Nat} {a b : World} (h : Touch R ρ ρ' a b) (hr : ∀ r, R r → R' r) : Touch R' ρ ρ' a b :=
  ⟨h.os, h.tape, h.output, h.size, h.old, fun g hg k => h.same g hg (fun e => k (hr _ e)), h.lab⟩
theorem Touch.of_below {R : Nat → Prop} (ρ : Nat → Nat) {a b : World} (h : Below a.heap.size a b) : Touch R ρ ρ a b :=
  ⟨h.os, h.tape, h.output, h.size, fun _ _ => rfl, fun g hg _ => h.block g hg, fun _ _ => rfl⟩
/-- No labelled block lies beyond the heap. -/
def Lab (ρ : Nat → Nat) (w : World) : Prop := ∀ g, w.heap.size ≤ g → ρ g = 0
theorem Lab.touch {R : Nat → Prop} {ρ ρ' : Nat → Nat} {a b : World} (h : Lab ρ a) (t : Touch R ρ ρ' a b) : Lab ρ' b := fun g hg => (t.lab g hg).trans (h g (Nat.le_trans t.size hg))
theorem Lab.below {ρ : Nat → Nat} {a b : World} (h : Lab ρ a) (t : a.heap.size ≤ b.heap.size) : Lab ρ b := fun g hg => h g (Nat.le_trans t hg)
/-- All that has a role lies from B on. -/
def From (B : Nat) (ρ : Nat → Nat) : Prop := ∀ g, g < B → ρ g = 0
theorem Touch.below {B : Nat} {R : Nat → Prop} {ρ ρ' : Nat → Nat} {a b : World} (t : Touch R ρ ρ' a b) (h : From B ρ) (hR : ¬ R 0) (hB : B ≤ a.heap.size) : Below B a b :=
  ⟨t.os, t.tape, t.output, t.size, fun g hg => t.same g (by omega) (by rw [h g hg]; exact hR)⟩
theorem From.touch {B : Nat} {R : Nat → Prop} {ρ ρ' : Nat → Nat} {a b : World} (h : From B ρ) (t : Touch R ρ ρ' a b) (hB : B ≤ a.heap.size) : From B ρ' := fun g hg => (t.old g (by omega)).trans (h g hg)
/-- A new role for a new block. -/
def lay (ρ : Nat → Nat) (g r : Nat) : Nat → Nat := fun k => if k = g then r else ρ k
theorem lay_same (ρ : Nat → Nat) (g r : Nat) : lay ρ g r g = r := if_pos rfl
theorem lay_other {ρ : Nat → Nat} {g r k : Nat} (h : k ≠ g) : lay ρ g r k = ρ k := if_neg h
/-- What a change of the world asks of blocks of a role. -/
def KeptR (r : Nat) (ρ ρ' : Nat → Nat) (w w' : World) : Prop := ∀ g, g < w.heap.size → ρ g = r → ρ' g = r ∧ w'.heap[g]? = w.heap[g]?
theorem Touch.kept {R : Nat → Prop} {ρ ρ' : Nat → Nat} {a b : World} (t : Touch R ρ ρ' a b) {r : Nat} (h : ¬ R r) : KeptR r ρ ρ' a b :=
  fun g hg e => ⟨(t.old g hg).trans e, t.same g hg (by rw [e]; exact h)⟩

/-- A row of bytes of a role (or nil). -/
def BRow (w : World) (ρ : Nat → Nat) (r : Nat) (v : Value) (s : ByteArray) : Prop :=
  ∃ a cap, v = .slice a s.size cap ∧ w.ownsRow 0 5 1 (.slice a s.size cap) s.size (bcells s.data.toList) ∧ ∀ g, (Value.slice a s.size cap).ownBlock = some g → ρ g = r
theorem ownsRow_same {w w' : World} {e : TypeId} {k : Nat} {v : Value} {n : Nat} {xs : List Value} (h : w.ownsRow 0 e k v n xs) (hs : ∀ g, v.ownBlock = some g → w'.heap[g]? = w.heap[g]?) : w'.ownsRow 0 e k v n xs := by
  obtain ⟨h1, h2⟩ := h
  refine ⟨h1, ?_⟩
  rcases h2 with h2 | ⟨g, c, cur, rfl, hB, hg, h3⟩
  · exact .inl h2
  · exact .inr ⟨g, c, cur, rfl, hB, (hs g rfl).trans hg, h3⟩
theorem BRow.kept {w w' : World} {ρ ρ' : Nat → Nat} {r : Nat} {v : Value} {s : ByteArray} (h : BRow w ρ r v s) (k : KeptR r ρ ρ' w w') : BRow w' ρ' r v s := by
  obtain ⟨a, cap, e, ho, hr⟩ := h
  refine ⟨a, cap, e, ownsRow_same ho fun g hg => (k g (ho.lt g hg).2 (hr g hg)).2, fun g hg => (k g (ho.lt g hg).2 (hr g hg)).1⟩
theorem BRow.nil (w : World) (ρ : Nat → Nat) (r : Nat) : BRow w ρ r (.slice none 0 0) ⟨#[]⟩ := ⟨none, 0, rfl, World.ownsRow_nil _ _ _ _, fun g hg => by simp [Value.ownBlock] at hg⟩
/-- Extents: a row of rows of bytes. -/
structure Tab (w : World) (ρ : Nat → Nat) (rt : Nat) (f : Nat → Nat) (t : Nat) (l : List ByteArray) : Prop where
  role : ρ t = rt
  row : ∃ cur : Array Value, w.heap[t]? = some (.cells cur 51 (0, 0)) ∧ cur.size = l.length ∧ ∀ i, i < l.length → ∃ v, cur[i]? = some v ∧ BRow w ρ (f i) v (exAt l i)
theorem Tab.lt {w : World} {ρ : Nat → Nat} {rt : Nat} {f : Nat → Nat} {t : Nat} {l : List ByteArray} (h : Tab w ρ rt f t l) : t < w.heap.size := by
  obtain ⟨cur, h1, -⟩ := h.row
  exact (Array.getElem?_eq_some_iff.1 h1).1
theorem Tab.kept {w w' : World} {ρ ρ' : Nat → Nat} {rt : Nat} {f : Nat → Nat} {t : Nat} {l : List ByteArray} (h : Tab w ρ rt f t l) (k : KeptR rt ρ ρ' w w') (kf : ∀ i, i < l.length → KeptR (f i) ρ ρ' w w') : Tab w' ρ' rt f t l := by
  obtain ⟨k1, k2⟩ := k t h.lt h.role
  obtain ⟨cur, h1, h2, h3⟩ := h.row
  exact ⟨k1, cur, k2.trans h1, h2, fun i hi => by
    obtain ⟨v, e, hb⟩ := h3 i hi
    exact ⟨v, e, hb.kept (kf i hi)⟩⟩
/-- A change's cells. -/
def chgCells (c : Chg) : List Value := [.int .i64 ((c.kind : Int) + 1), .int .i64 (c.x : Int), .int .i64 (c.long : Int), .string c.text]
def chgsCells (cs : List Chg) : List Value := cs.flatMap chgCells
theorem chgsCells_length : ∀ cs : List Chg, (chgsCells cs).length = cs.length * 4
  | [] => rfl
  | c :: cs => by
    have ih := chgsCells_length cs
    simp only [chgsCells, List.flatMap_cons, List.length_append, List.length_cons] at ih ⊢
    rw [ih]; simp [chgCells]; omega
theorem chgsCells_snoc (cs : List Chg) (c : Chg) : chgsCells (cs ++ [c]) = chgsCells cs ++ chgCells c := by simp [chgsCells]
theorem chgsCells_at : ∀ (cs : List Chg) (k : Nat) (c : Chg), cs[k]? = some c → ∀ j, j < 4 → (chgsCells cs)[k * 4 + j]? = (chgCells c)[j]?
  | [], k, c, h, j, _ => by simp at h
  | d :: cs, 0, c, h, j, hj => by
    simp only [List.getElem?_cons_zero, Option.some.injEq] at h
    subst h
    simp only [chgsCells, List.flatMap_cons]
    rw [List.getElem?_append_left (by simp [chgCells]; omega)]
    simp
  | d :: cs, k + 1, c, h, j, hj => by
    have ih := chgsCells_at cs k c (by simpa using h) j hj
    simp only [chgsCells, List.flatMap_cons] at ih ⊢
    rw [List.getElem?_append_right (by simp [chgCells]; omega), ← ih]
    congr 1
    simp [chgCells]
    omega
/-- The changes that wait. -/
def Waits (w : World) (ρ : Nat → Nat) (r : Nat) (v : Value) (cs : List Chg) : Prop :=
  ∃ a cap, v = .slice a cs.length cap ∧ w.ownsRow 0 71 4 (.slice a cs.length cap) cs.length (chgsCells cs) ∧ ∀ g, (Value.slice a cs.length cap).ownBlock = some g → ρ g = r
theorem Waits.kept {w w' : World} {ρ ρ' : Nat → Nat} {r : Nat} {v : Value} {cs : List Chg} (h : Waits w ρ r v cs) (k : KeptR r ρ ρ' w w') : Waits w' ρ' r v cs := by
  obtain ⟨a, cap, e, ho, hr⟩ := h
  exact ⟨a, cap, e, ownsRow_same ho fun g hg => (k g (ho.lt g hg).2 (hr g hg)).2, fun g hg => (k g (ho.lt g hg).2 (hr g hg)).1⟩
theorem Waits.nil (w : World) (ρ : Nat → Nat) (r : Nat) : Waits w ρ r (.slice none 0 0) [] := ⟨none, 0, rfl, World.ownsRow_nil _ _ _ _, fun g hg => by simp [Value.ownBlock] at hg⟩
/-- The roles of the rows of the extents for good, and of those that are read. -/
def fS (i : Nat) : Nat := 5 + 2 * i
def fN (i : Nat) : Nat := 6 + 2 * i
/-- The head's cells. -/
def headCells (D : Disk) (ts tn : Nat) (wv : Value) : Array Value :=
  #[.int .i64 D.room, .slice (some ⟨ts, 0, none⟩) D.sure.length D.sure.length, .slice (some ⟨tn, 0, none⟩) D.sure.length D.sure.length, wv, .int .i64 D.changes, .int .i64 D.falls, .bool D.down, .bool D.laid, .int .i64 D.after, .int .i64 D.keep, .int .i64 D.torn]
/-- A disk in memory: what stands for good, and what is read. -/
structure Raw (w : World) (ρ : Nat → Nat) (b : Nat) (D : Disk) (N : List ByteArray) : Prop where
  role : ρ b = 1
  lab : Lab ρ w
  num : N.length = D.sure.length
  body : ∃ ts tn wv, w.heap[b]? = some (.cells (headCells D ts tn wv) 63 (0, 0)) ∧ Tab w ρ 2 fS ts D.sure ∧ Tab w ρ 3 fN tn N ∧ Waits w ρ 4 wv D.waits
structure DiskAt (w : World) (ρ : Nat → Nat) (b : Nat) (D : Disk) : Prop where
  raw : Raw w ρ b D D.now
  ok : D.Ok
theorem DiskAt.body {w : World} {ρ : Nat → Nat} {b : Nat} {D : Disk} (h : DiskAt w ρ b D) : ∃ ts tn wv, w.heap[b]? = some (.cells (headCells D ts tn wv) 63 (0, 0)) ∧ Tab w ρ 2 fS ts D.sure ∧ Tab w ρ 3 fN tn D.now ∧ Waits w ρ 4 wv D.waits := h.raw.body
theorem Raw.touch {R : Nat → Prop} {w w' : World} {ρ ρ' : Nat → Nat} {b : Nat} {D : Disk} {N : List ByteArray} (h : Raw w ρ b D N) (t : Touch R ρ ρ' w w') (hR : ∀ r, r ≠ 0 → ¬ R r) : Raw w' ρ' b D N := by
  obtain ⟨ts, tn, wv, h1, h2, h3, h4⟩ := h.body
  have hb := (Array.getElem?_eq_some_iff.1 h1).1
  obtain ⟨k1, k2⟩ := t.kept (hR 1 (by decide)) b hb h.role
  exact ⟨k1, h.lab.touch t, h.num, ts, tn, wv, k2.trans h1, h2.kept (t.kept (hR 2 (by decide))) (fun i _ => t.kept (hR _ (by unfold fS; omega))), h3.kept (t.kept (hR 3 (by decide))) (fun i _ => t.kept (hR _ (by unfold fN; omega))), h4.kept (t.kept (hR 4 (by decide)))⟩
theorem DiskAt.touch {R : Nat → Prop} {w w' : World} {ρ ρ' : Nat → Nat} {b : Nat} {D : Disk} (h : DiskAt w ρ b D) (t : Touch R ρ ρ' w w') (hR : ∀ r, r ≠ 0 → ¬ R r) : DiskAt w' ρ' b D := ⟨h.raw.touch t hR, h.ok⟩
theorem Raw.below {w w' : World} {ρ : Nat → Nat} {b : Nat} {D : Disk} {N : List ByteArray} (h : Raw w ρ b D N) (hb : Below w.heap.size w w') : Raw w' ρ b D N :=
  h.touch (R := fun _ => False) (Touch.of_below ρ hb) (fun _ _ e => e)
theorem DiskAt.below {w w' : World} {ρ : Nat → Nat} {b : Nat} {D : Disk} (h : DiskAt w ρ b D) (hb : Below w.heap.size w w') : DiskAt w' ρ b D := ⟨h.raw.below hb, h.ok⟩
theorem Raw.lt {w : World} {ρ : Nat → Nat} {b : Nat} {D : Disk} {N : List ByteArray} (h : Raw w ρ b D N) : b < w.heap.size := by
  obtain ⟨_, _, _, h1, _⟩ := h.body
  exact (Array.getElem?_eq_some_iff.1 h1).1
/-- A cell of the head is another now. -/
theorem raw_put {w w2 : World} {ρ : Nat → Nat} {b : Nat} {D D' : Disk} {N' : List ByteArray} {ts tn ts' tn' : Nat} {wv wv' v : Value} {j : Nat} (hr : ρ b = 1) (hl : Lab ρ w) (hn : N'.length = D'.sure.length)
    (h1 : w.heap[b]? = some (.cells (headCells D ts tn wv) 63 (0, 0))) (hw : w2 = w.setCell ⟨b, j, none⟩ v) (hc : (headCells D ts tn wv).setIfInBounds j v = headCells D' ts' tn' wv')
    (hS : Tab w ρ 2 fS ts' D'.sure) (hN : Tab w ρ 3 fN tn' N') (hW : Waits w ρ 4 wv' D'.waits) : Raw w2 ρ b D' N' ∧ Touch (· = 1) ρ ρ w w2 := by
  subst hw
  have hsz : (w.setCell ⟨b, j, none⟩ v).heap.size = w.heap.size := by simp [World.setCell]
  have ht : Touch (· = 1) ρ ρ w (w.setCell ⟨b, j, none⟩ v) := ⟨rfl, rfl, rfl, by rw [hsz]; exact Nat.le_refl _, fun _ _ => rfl, fun g hg hne => heap_setCell_other w _ g v (fun e => hne (by rw [e]; exact hr)), fun _ _ => rfl⟩
  refine ⟨⟨hr, fun g hg => hl g (by rw [hsz] at hg; exact hg), hn, ts', tn', wv', ?_, hS.kept (ht.kept (by decide)) (fun i _ => ht.kept (by unfold fS; omega)), hN.kept (ht.kept (by decide)) (fun i _ => ht.kept (by unfold fN; omega)), hW.kept (ht.kept (by decide))⟩, ht⟩
  rw [← hc]
  exact heap_setCell_same _ _ _ _ _ _ h1
theorem touch_drew {R : Nat → Prop} {ρ ρ' : Nat → Nat} {a b : World} (h : Touch R ρ ρ' a b) : Touch R ρ ρ' a b.drew := ⟨h.os, h.tape, h.output, h.size, h.old, h.same, h.lab⟩
theorem tab_drew {w : World} {ρ : Nat → Nat} {rt : Nat} {f : Nat → Nat} {t : Nat} {l : List ByteArray} (h : Tab w ρ rt f t l) : Tab w.drew ρ rt f t l := ⟨h.role, h.row⟩
theorem raw_drew {w : World} {ρ : Nat → Nat} {b : Nat} {D : Disk} {N : List ByteArray} (h : Raw w ρ b D N) : Raw w.drew ρ b D N := by
  obtain ⟨ts, tn, wv, h1, h2, h3, h4⟩ := h.body
  exact ⟨h.role, h.lab, h.num, ts, tn, wv, h1, tab_drew h2, tab_drew h3, h4⟩
end Go.Proofs.YtdmbombjkinboaaGreat
namespace Go.Proofs.YtdmbombjkinboaaGreat
open Go.RowKit
open Dk

/-- One extent's cell: where it lies, what it holds. -/
theorem Tab.at {w : World} {ρ : Nat → Nat} {rt : Nat} {f : Nat → Nat} {t : Nat} {l : List ByteArray} (h : Tab w ρ rt f t l) {x : Nat} (hx : x < l.length) :
    ∃ a cap, w.cell? ⟨t, x, none⟩ = some (.slice a (exAt l x).size cap) ∧ w.ownsRow 0 5 1 (.slice a (exAt l x).size cap) (exAt l x).size (bcells (exAt l x).data.toList) ∧ (∀ g, (Value.slice a (exAt l x).size cap).ownBlock = some g → ρ g = f x) ∧ w.frozen? ⟨t, x, none⟩ = false := by
  obtain ⟨cur, h1, h2, h3⟩ := h.row
  obtain ⟨v, e, a, cap, rfl, ho, hr⟩ := h3 x hx
  exact ⟨a, cap, by rw [cell_of_row _ _ _ _ _ _ h1]; exact e, ho, hr, frozen_of_row _ _ _ _ _ h1⟩
/-- One extent is another row now. -/
theorem Tab.set {w w' w2 : World} {ρ ρ' : Nat → Nat} {rt : Nat} {f : Nat → Nat} {t : Nat} {l : List ByteArray} (h : Tab w ρ rt f t l) {x : Nat} (hx : x < l.length) {s : ByteArray} {v : Value}
    (kt : KeptR rt ρ ρ' w w') (kf : ∀ i, i < l.length → i ≠ x → KeptR (f i) ρ ρ' w w') (hw : w2 = w'.setCell ⟨t, x, none⟩ v) (hv : BRow w' ρ' (f x) v s) (hfx : ∀ i, i < l.length → f i ≠ rt) : Tab w2 ρ' rt f t (l.set x s) := by
  subst hw
  obtain ⟨k1, k2⟩ := kt t h.lt h.role
  obtain ⟨cur, h1, h2, h3⟩ := h.row
  have hk : ∀ r, r ≠ rt → KeptR r ρ' ρ' w' (w'.setCell ⟨t, x, none⟩ v) := fun r hr g hg e => ⟨e, heap_setCell_other w' _ g v (fun e2 => hr (by rw [← e, e2]; exact k1))⟩
  refine ⟨k1, cur.setIfInBounds x v, heap_setCell_same _ _ _ _ _ _ (k2.trans h1), by simpa using h2, fun i hi => ?_⟩
  rw [List.length_set] at hi
  by_cases e : i = x
  · subst e
    refine ⟨v, by rw [Array.getElem?_setIfInBounds_self_of_lt (by omega)], ?_⟩
    rw [exAt_set_same hx]
    exact hv.kept (hk _ (hfx i hi))
  · obtain ⟨u, e1, e2⟩ := h3 i hi
    refine ⟨u, by rw [Array.getElem?_setIfInBounds_ne (fun e3 => e e3.symm)]; exact e1, ?_⟩
    rw [exAt_set_other (fun e3 => e e3.symm)]
    exact (e2.kept (kf i hi e)).kept (hk _ (hfx i hi))

/-- What stands behind a store of a row into an extent's place. -/
theorem tab_put {w w1 w2 : World} {ρ : Nat → Nat} {rt : Nat} {f : Nat → Nat} {t : Nat} {l : List ByteArray} {x : Nat} {s : ByteArray} {row : Option Nat} {ad : Option Addr} {cap : Nat}
    (hT : Tab w ρ rt f t l) (hx : x < l.length) (hA : Below w.heap.size w w1) (hg : w1.grownBy w2 row) (hrow : ∀ g, row = some g → ρ g = f x ∧ g < w.heap.size)
    (ho : w2.ownsRow 0 5 1 (.slice ad s.size cap) s.size (bcells s.data.toList)) (hb : ∀ g, (Value.slice ad s.size cap).ownBlock = some g → row = some g ∨ (w.heap.size ≤ g ∧ g < w2.heap.size))
    (hfx : ∀ i, i < l.length → f i ≠ rt) (hff : ∀ i, i ≠ x → f i ≠ f x) :
    ∃ ρ', Tab (w2.setCell ⟨t, x, none⟩ (.slice ad s.size cap)) ρ' rt f t (l.set x s) ∧ Touch (fun r => r = rt ∨ r = f x) ρ ρ' w (w2.setCell ⟨t, x, none⟩ (.slice ad s.size cap)) := by
  have hsz1 := hA.size
  have hsz2 := hg.size
  have hss : (w2.setCell ⟨t, x, none⟩ (.slice ad s.size cap)).heap.size = w2.heap.size := by simp [World.setCell]
  obtain ⟨ρ', r1, r2, r3⟩ : ∃ ρ' : Nat → Nat, (∀ g, g < w.heap.size → ρ' g = ρ g) ∧ (∀ g, w2.heap.size ≤ g → ρ' g = ρ g) ∧ (∀ g, (Value.slice ad s.size cap).ownBlock = some g → ρ' g = f x) := by
    cases e : (Value.slice ad s.size cap).ownBlock with
    | none => exact ⟨ρ, fun _ _ => rfl, fun _ _ => rfl, fun g hg => by simp at hg⟩
    | some g0 =>
      rcases hb g0 e with h | ⟨h1, h2⟩
      · exact ⟨ρ, fun _ _ => rfl, fun _ _ => rfl, fun g hg => by rw [← Option.some.inj hg]; exact (hrow g0 h).1⟩
      · exact ⟨lay ρ g0 (f x), fun g hg => lay_other (by omega), fun g hg => lay_other (by omega), fun g hg => by rw [← Option.some.inj hg]; exact lay_same _ _ _⟩
  have hkeep : ∀ g, g < w.heap.size → ρ g ≠ f x → w2.heap[g]? = w.heap[g]? := fun g hg' hn => (hg.block g (by omega) (fun e => hn (hrow g e.symm).1)).trans (hA.block g hg')
  refine ⟨ρ', hT.set hx (fun g hg e => ⟨(r1 g hg).trans e, hkeep g hg (by rw [e]; exact (hfx x hx).symm)⟩) (fun i hi hne g hg e => ⟨(r1 g hg).trans e, hkeep g hg (by rw [e]; exact hff i hne)⟩) rfl ⟨ad, cap, rfl, ho, r3⟩ hfx, ?_⟩
  refine ⟨hg.os.trans hA.os, hg.tape.trans hA.tape, hg.output.trans hA.output, by rw [hss]; omega, r1, fun g hg' hR => ?_, fun g hg' => r2 g (by rw [hss] at hg'; exact hg')⟩
  rw [heap_setCell_other w2 _ g _ (fun e => hR (.inl (by rw [e]; exact hT.role)))]
  exact hkeep g hg' (fun e => hR (.inr e))
theorem grown_drew {w1 w2 : World} {row : Option Nat} (h : w1.drew.grownBy w2 row) : w1.grownBy w2 row := ⟨h.os, h.tape, h.output, h.size, h.block⟩
theorem bcells_append (a b : ByteArray) : bcells a.data.toList ++ byteCells b = bcells (a ++ b).data.toList := by
  simp [bcells, byteCells]
theorem do_app_fin {w w1 w2 : World} {ρ : Nat → Nat} {rt : Nat} {f : Nat → Nat} {t : Nat} {l : List ByteArray} {x : Nat} {s text : ByteArray} {a ad : Option Addr} {cap cap2 : Nat} {long : Nat}
    (hT : Tab w ρ rt f t l) (hx : x < l.length) (hA : Below w.heap.size w w1) (hg : w1.drew.grownBy w2 (Value.slice a s.size cap).ownBlock) (ho0 : w.ownsRow 0 5 1 (.slice a s.size cap) s.size (bcells s.data.toList))
    (hr : ∀ g, (Value.slice a s.size cap).ownBlock = some g → ρ g = f x) (hs : s = exAt l x)
    (ho : w2.ownsRow 0 5 1 (.slice ad (s.size + text.size) cap2) (s.size + text.size) (bcells s.data.toList ++ byteCells text)) (hb : ∀ g, (Value.slice ad (s.size + text.size) cap2).ownBlock = some g → (Value.slice a s.size cap).ownBlock = some g ∨ (g = w1.drew.heap.size ∧ g < w2.heap.size))
    (hfx : ∀ i, i < l.length → f i ≠ rt) (hff : ∀ i, i ≠ x → f i ≠ f x) :
    ∃ ρ', Tab (w2.setCell ⟨t, x, none⟩ (.slice ad (s.size + text.size) cap2)) ρ' rt f t (made l ⟨0, x, long, text⟩) ∧ Touch (fun r => r = rt ∨ r = f x) ρ ρ' w (w2.setCell ⟨t, x, none⟩ (.slice ad (s.size + text.size) cap2)) := by
  have h1 := hA.size
  have := tab_put (s := s ++ text) (ad := ad) (cap := cap2) hT hx hA (grown_drew hg) (fun g e => ⟨hr g e, (ho0.lt g e).2⟩) (by rw [ByteArray.size_append, ← bcells_append]; exact ho)
    (fun g e => by
      rw [ByteArray.size_append] at e
      rcases hb g e with h | ⟨h, h2⟩
      · exact .inl h
      · exact .inr ⟨by rw [h]; exact h1, h2⟩) hfx hff
  rw [ByteArray.size_append] at this
  rw [made, made1, if_pos rfl]
  show ∃ ρ', Tab _ ρ' rt f t (l.set x (exAt l x ++ text)) ∧ _
  rw [← hs]
  exact this

set_option maxRecDepth 100000 in
set_option maxHeartbeats 1000000 in
theorem do_app (c : Chg) (hk : c.kind = 0) (l : List ByteArray) (t rt : Nat) (f : Nat → Nat) (ρ : Nat → Nat) (w : World) (hT : Tab w ρ rt f t l) (hm : May l c) (hz : Sz l) (hs : c.text.size ≤ 65536) (hfx : ∀ i, i < l.length → f i ≠ rt) (hff : ∀ i, i ≠ c.x → f i ≠ f c.x) (hn : l.length ≤ 64) :
    Calls Tryz.prog 55 #[.agg (chgCells c).toArray, .slice (some ⟨t, 0, none⟩) l.length l.length] w fun e w' => e = .returned (.tuple #[]) ∧ ∃ ρ', Tab w' ρ' rt f t (made l c) ∧ Touch (fun r => r = rt ∨ r = f c.x) ρ ρ' w w' := by
  obtain ⟨a, cap, hc, ho, hr, hfz⟩ := hT.at hm.1
  have hlt := hT.lt
  have hxl : (c.x : Int) < l.length := by have := hm.1; omega
  have hxl2 := hm.1
  obtain ⟨kind, x, long, text⟩ := c
  simp only at hk
  subst hk
  simp only [chgCells] at *
  have hsz := hz.at x
  obtain ⟨s, hs0⟩ : ∃ s, s = exAt l x := ⟨_, rfl⟩
  rw [← hs0] at hc ho hr hsz
  have H := Lib.hid (And.intro hT (And.intro hm (And.intro ho (And.intro hr (And.intro hs0 (And.intro hfx hff))))))
  clear hT hm ho hr hs0 hfx hff hz
  have hl64 : (l.length : Int) ≤ 64 := by omega
  have hx0 : ((0:Nat):Int) + 1 = 1 := rfl
  go_enter Tryz.func55, Tryz.ntmps55
  go_wp2_with fail
  have hA := Below.refl w.heap.size w |>.alloc (Nat.le_refl _) (.cells #[.int .i64 1, .int .i64 x, .int .i64 long, .string text] 71)
  have hbox : (w.alloc (.cells #[.int .i64 1, .int .i64 x, .int .i64 long, .string text] 71)).heap[w.heap.size]? = some (.cells #[.int .i64 1, .int .i64 x, .int .i64 long, .string text] 71 (0, 0)) := heap_alloc_new _ _
  have b1 : w.heap.size < (w.alloc (.cells #[.int .i64 1, .int .i64 x, .int .i64 long, .string text] 71)).heap.size := by simp
  generalize w.alloc _ = w1 at *
  have q1 : w1.cell? ⟨w.heap.size, 1, none⟩ = some (.int .i64 x) := by rw [cell_of_row _ _ _ _ _ _ hbox]; rfl
  have q3 : w1.cell? ⟨w.heap.size, 3, none⟩ = some (.string text) := by rw [cell_of_row _ _ _ _ _ _ hbox]; rfl
  have qt : w1.cell? ⟨t, x, none⟩ = some (.slice a s.size cap) := (hA.cell (p := ⟨t, x, none⟩) hlt).trans hc
  have qf : w1.frozen? ⟨t, x, none⟩ = false := (hA.frozen (p := ⟨t, x, none⟩) hlt).trans hfz
  have ho1 := ownsRow_same H.out.2.2.1 (fun g hg => hA.block g (H.out.2.2.1.lt g hg).2)
  have hnt : ∀ g, (Value.slice a s.size cap).ownBlock = some g → g ≠ t := fun g hg e => H.out.2.2.2.2.2.1 x (by omega) (by rw [← H.out.2.2.2.1 g hg, e]; exact H.out.1.role)
  have hnb : ∀ g, (Value.slice a s.size cap).ownBlock = some g → g ≠ w.heap.size := fun g hg e => by have := (H.out.2.2.1.lt g hg).2; omega
  have HA := Lib.hid (And.intro hA (And.intro ho1 (And.intro hnt (And.intro hnb b1))))
  have hlt1 : t < w1.heap.size := by omega
  clear hA ho1 hnt hnb hc hfz hbox
  go_region_law (refine step_append_str rfl (.tmp 32) (.tmp 34) rfl (.slice a s.size cap) s.size _ (by simp [Act.eval]) HA.out.2.1 text (by simp [Act.eval]) (by omega) ?_; intro ad cap2 w2 ho2 hg2 hb2; have q2 : w2.cell? ⟨t, x, none⟩ = some (.slice a s.size cap) := (hg2.cell_far ⟨t, x, none⟩ (by simpa using hlt1) (fun e => HA.out.2.2.1 t e.symm rfl)).trans (by simpa using qt); have qf2 : w2.frozen? ⟨t, x, none⟩ = false := (hg2.frozen_far ⟨t, x, none⟩ (by simpa using hlt1) (fun e => HA.out.2.2.1 t e.symm rfl)).trans (by simpa using qf); have qb2 : w2.cell? ⟨w.heap.size, 1, none⟩ = some (.int .i64 x) := (hg2.cell_far ⟨w.heap.size, 1, none⟩ (by simpa using b1) (fun e => HA.out.2.2.2.1 w.heap.size e.symm rfl)).trans (by simpa using q1); have H2 := Lib.hid (And.intro ho2 (And.intro hg2 hb2)); clear ho2 hg2 hb2)
  all_goals (go_wp2_with fail; go_end0; refine ⟨rfl, ?_⟩; exact do_app_fin H.out.1 hxl2 HA.out.1 H2.out.2.1 H.out.2.2.1 H.out.2.2.2.1 H.out.2.2.2.2.1 H2.out.1 H2.out.2.2 H.out.2.2.2.2.2.1 H.out.2.2.2.2.2.2)
end Go.Proofs.YtdmbombjkinboaaGreat
namespace Go.Proofs.YtdmbombjkinboaaGreat
open Go.RowKit
open Dk
theorem own_take {w : World} {e : TypeId} {a : Option Addr} {n cap : Nat} {xs : List Value} (h : w.ownsRow 0 e 1 (.slice a n cap) n xs) (k : Nat) (hk : k ≤ n) : w.ownsRow 0 e 1 (.slice a k cap) k (xs.take k) := by
  have hl := h.1
  refine ⟨by rw [List.length_take]; omega, ?_⟩
  rcases h.2 with ⟨e, hn⟩ | ⟨g, c, cur, e, hB, hg, hn, hc, hs, ht⟩
  · injection e with e1 e2 e3
    subst e1 e3
    exact .inl ⟨by rw [show k = 0 by omega], by omega⟩
  · injection e with e1 e2 e3
    subst e1 e3
    refine .inr ⟨g, cap, cur, rfl, hB, hg, by omega, hc, hs, ?_⟩
    rw [← ht, List.take_take]; congr 1; omega
theorem own_form {w : World} {e : TypeId} {a : Option Addr} {n cap : Nat} {xs : List Value} (h : w.ownsRow 0 e 1 (.slice a n cap) n xs) : (a = none ∧ n = 0 ∧ cap = 0) ∨ (∃ g, a = some ⟨g, 0, none⟩ ∧ n ≤ cap ∧ cap ≤ maxLen) := by
  rcases h.2 with ⟨e, hn⟩ | ⟨g, c, cur, e, hB, hg, hn, hc, hs, ht⟩
  · injection e with e1 e2 e3
    exact .inl ⟨e1, hn, e3⟩
  · injection e with e1 e2 e3
    subst e3
    exact .inr ⟨g, e1, hn, hc⟩
theorem bcells_take (s : ByteArray) (k : Nat) : (bcells s.data.toList).take k = bcells (s.extract 0 k).data.toList := by
  rw [dextract_data]; simp [bcells, List.map_take]
/-- What stands behind a trim. -/
theorem do_trim_fin {w w1 w2 : World} {ρ : Nat → Nat} {rt : Nat} {f : Nat → Nat} {t : Nat} {l : List ByteArray} {x : Nat} {s : ByteArray} {a : Option Addr} {cap k : Nat} {c : Chg}
    (hT : Tab w ρ rt f t l) (hx : x < l.length) (hA : Below w.heap.size w w1) (ho0 : w.ownsRow 0 5 1 (.slice a s.size cap) s.size (bcells s.data.toList))
    (hr : ∀ g, (Value.slice a s.size cap).ownBlock = some g → ρ g = f x) (hk : k ≤ s.size) (hc : made l c = l.set x (s.extract 0 k)) (hw : w2 = (w1.setCell ⟨t, x, none⟩ (.slice a k cap)).drew)
    (hfx : ∀ i, i < l.length → f i ≠ rt) (hff : ∀ i, i ≠ x → f i ≠ f x) :
    ∃ ρ', Tab w2 ρ' rt f t (made l c) ∧ Touch (fun r => r = rt ∨ r = f x) ρ ρ' w w2 := by
  subst hw
  rw [hc]
  have hsz : (s.extract 0 k).size = k := by rw [ByteArray.size_extract]; omega
  have ho1 := ownsRow_same ho0 (fun g hg => hA.block g (ho0.lt g hg).2)
  have ho2 := own_take ho1 k hk
  rw [bcells_take] at ho2
  have hob : (Value.slice a k cap).ownBlock = (Value.slice a s.size cap).ownBlock := by cases a <;> rfl
  have := tab_put (s := s.extract 0 k) (ad := a) (cap := cap) (row := (Value.slice a s.size cap).ownBlock) hT hx hA (w2 := w1) ⟨rfl, rfl, rfl, Nat.le_refl _, fun _ _ _ => rfl⟩ (fun g e => ⟨hr g e, (ho0.lt g e).2⟩) (by rw [hsz]; exact ho2)
    (fun g e => by rw [hsz, hob] at e; exact .inl e) hfx hff
  rw [hsz] at this
  obtain ⟨ρ', h1, h2⟩ := this
  exact ⟨ρ', ⟨h1.role, h1.row⟩, ⟨h2.os, h2.tape, h2.output, h2.size, h2.old, h2.same, h2.lab⟩⟩
theorem made_trim {l : List ByteArray} {x long : Nat} {text : ByteArray} : made l ⟨1, x, long, text⟩ = l.set x ((exAt l x).extract 0 long) := by rw [made, made1, if_neg (show ¬ (1 : Nat) = 0 by decide), if_pos rfl]
theorem made_empty {l : List ByteArray} {x long : Nat} {text : ByteArray} : made l ⟨2, x, long, text⟩ = l.set x ((exAt l x).extract 0 0) := by
  rw [made, made1, if_neg (show ¬ (2 : Nat) = 0 by decide), if_neg (show ¬ (2 : Nat) = 1 by decide)]
  congr 1
  exact (ext_list (by rw [dextract_data]; rfl)).symm

set_option maxRecDepth 100000 in
set_option maxHeartbeats 1000000 in
theorem do_trim (c : Chg) (hk : c.kind = 1) (l : List ByteArray) (t rt : Nat) (f : Nat → Nat) (ρ : Nat → Nat) (w : World) (hT : Tab w ρ rt f t l) (hm : May l c) (hz : Sz l) (hfx : ∀ i, i < l.length → f i ≠ rt) (hff : ∀ i, i ≠ c.x → f i ≠ f c.x) (hn : l.length ≤ 64) :
    Calls Tryz.prog 55 #[.agg (chgCells c).toArray, .slice (some ⟨t, 0, none⟩) l.length l.length] w fun e w' => e = .returned (.tuple #[]) ∧ ∃ ρ', Tab w' ρ' rt f t (made l c) ∧ Touch (fun r => r = rt ∨ r = f c.x) ρ ρ' w w' := by
  obtain ⟨a, cap, hc, ho, hr, hfz⟩ := hT.at hm.1
  have hlt := hT.lt
  have hxl : (c.x : Int) < l.length := by have := hm.1; omega
  have hxl2 := hm.1
  have hll := hm.2.2 hk
  obtain ⟨kind, x, long, text⟩ := c
  simp only at hk
  subst hk
  simp only [chgCells] at *
  have hsz := hz.at x
  obtain ⟨s, hs0⟩ : ∃ s, s = exAt l x := ⟨_, rfl⟩
  rw [← hs0] at hc ho hr hsz hll
  have H := Lib.hid (And.intro hT (And.intro hm (And.intro ho (And.intro hr (And.intro hs0 (And.intro hfx hff))))))
  clear hT hm hr hs0 hfx hff hz
  have hl64 : (l.length : Int) ≤ 64 := by omega
  rcases own_form ho with ⟨rfl, h0, rfl⟩ | ⟨g, rfl, hcap, hcapm⟩
  · obtain rfl : long = 0 := by omega
    clear ho
    go_enter Tryz.func55, Tryz.ntmps55
    go_wp2_with fail
    have hA := Below.refl w.heap.size w |>.alloc (Nat.le_refl _) (.cells #[.int .i64 2, .int .i64 x, .int .i64 0, .string text] 71)
    have hbox : (w.alloc (.cells #[.int .i64 2, .int .i64 x, .int .i64 0, .string text] 71)).heap[w.heap.size]? = some (.cells #[.int .i64 2, .int .i64 x, .int .i64 0, .string text] 71 (0, 0)) := heap_alloc_new _ _
    generalize w.alloc _ = w1 at *
    have q1 : w1.cell? ⟨w.heap.size, 1, none⟩ = some (.int .i64 x) := by rw [cell_of_row _ _ _ _ _ _ hbox]; rfl
    have q2 : w1.cell? ⟨w.heap.size, 2, none⟩ = some (.int .i64 0) := by rw [cell_of_row _ _ _ _ _ _ hbox]; rfl
    have qt : w1.cell? ⟨t, x, none⟩ = some (.slice none s.size 0) := (hA.cell (p := ⟨t, x, none⟩) hlt).trans hc
    have qf : w1.frozen? ⟨t, x, none⟩ = false := (hA.frozen (p := ⟨t, x, none⟩) hlt).trans hfz
    have HA := Lib.hid hA
    clear hA hc hfz hbox
    go_region
    go_wp2_with fail
    go_end0
    refine ⟨rfl, ?_⟩
    exact do_trim_fin (k := 0) H.out.1 hxl2 HA.out H.out.2.2.1 H.out.2.2.2.1 (by omega) (by rw [made_trim, ← H.out.2.2.2.2.1]) rfl H.out.2.2.2.2.2.1 H.out.2.2.2.2.2.2
  · clear ho
    have hlc : (long : Int) ≤ cap := by omega
    go_enter Tryz.func55, Tryz.ntmps55
    go_wp2_with fail
    have hA := Below.refl w.heap.size w |>.alloc (Nat.le_refl _) (.cells #[.int .i64 2, .int .i64 x, .int .i64 long, .string text] 71)
    have hbox : (w.alloc (.cells #[.int .i64 2, .int .i64 x, .int .i64 long, .string text] 71)).heap[w.heap.size]? = some (.cells #[.int .i64 2, .int .i64 x, .int .i64 long, .string text] 71 (0, 0)) := heap_alloc_new _ _
    generalize w.alloc _ = w1 at *
    have q1 : w1.cell? ⟨w.heap.size, 1, none⟩ = some (.int .i64 x) := by rw [cell_of_row _ _ _ _ _ _ hbox]; rfl
    have q2 : w1.cell? ⟨w.heap.size, 2, none⟩ = some (.int .i64 long) := by rw [cell_of_row _ _ _ _ _ _ hbox]; rfl
    have qt : w1.cell? ⟨t, x, none⟩ = some (.slice (some ⟨g, 0, none⟩) s.size cap) := (hA.cell (p := ⟨t, x, none⟩) hlt).trans hc
    have qf : w1.frozen? ⟨t, x, none⟩ = false := (hA.frozen (p := ⟨t, x, none⟩) hlt).trans hfz
    have HA := Lib.hid hA
    clear hA hc hfz hbox
    go_region
    go_wp2_with fail
    go_end0
    refine ⟨rfl, ?_⟩
    exact do_trim_fin (k := long) H.out.1 hxl2 HA.out H.out.2.2.1 H.out.2.2.2.1 (by omega) (by rw [made_trim, ← H.out.2.2.2.2.1]) rfl H.out.2.2.2.2.2.1 H.out.2.2.2.2.2.2
set_option maxRecDepth 100000 in
set_option maxHeartbeats 1000000 in
theorem do_empty (c : Chg) (hk : c.kind = 2) (l : List ByteArray) (t rt : Nat) (f : Nat → Nat) (ρ : Nat → Nat) (w : World) (hT : Tab w ρ rt f t l) (hm : May l c) (hz : Sz l) (hfx : ∀ i, i < l.length → f i ≠ rt) (hff : ∀ i, i ≠ c.x → f i ≠ f c.x) (hn : l.length ≤ 64) :
    Calls Tryz.prog 55 #[.agg (chgCells c).toArray, .slice (some ⟨t, 0, none⟩) l.length l.length] w fun e w' => e = .returned (.tuple #[]) ∧ ∃ ρ', Tab w' ρ' rt f t (made l c) ∧ Touch (fun r => r = rt ∨ r = f c.x) ρ ρ' w w' := by
  obtain ⟨a, cap, hc, ho, hr, hfz⟩ := hT.at hm.1
  have hlt := hT.lt
  have hxl : (c.x : Int) < l.length := by have := hm.1; omega
  have hxl2 := hm.1
  obtain ⟨kind, x, long, text⟩ := c
  simp only at hk
  subst hk
  simp only [chgCells] at *
  have hsz := hz.at x
  obtain ⟨s, hs0⟩ : ∃ s, s = exAt l x := ⟨_, rfl⟩
  rw [← hs0] at hc ho hr hsz
  have H := Lib.hid (And.intro hT (And.intro hm (And.intro ho (And.intro hr (And.intro hs0 (And.intro hfx hff))))))
  clear hT hm hr hs0 hfx hff hz
  have hl64 : (l.length : Int) ≤ 64 := by omega
  rcases own_form ho with ⟨rfl, h0, rfl⟩ | ⟨g, rfl, hcap, hcapm⟩
  · clear ho
    go_enter Tryz.func55, Tryz.ntmps55
    go_wp2_with fail
    have hA := Below.refl w.heap.size w |>.alloc (Nat.le_refl _) (.cells #[.int .i64 3, .int .i64 x, .int .i64 0, .string text] 71)
    have hbox : (w.alloc (.cells #[.int .i64 3, .int .i64 x, .int .i64 0, .string text] 71)).heap[w.heap.size]? = some (.cells #[.int .i64 3, .int .i64 x, .int .i64 0, .string text] 71 (0, 0)) := heap_alloc_new _ _
    generalize w.alloc _ = w1 at *
    have q1 : w1.cell? ⟨w.heap.size, 1, none⟩ = some (.int .i64 x) := by rw [cell_of_row _ _ _ _ _ _ hbox]; rfl
    have q2 : w1.cell? ⟨w.heap.size, 2, none⟩ = some (.int .i64 0) := by rw [cell_of_row _ _ _ _ _ _ hbox]; rfl
    have qt : w1.cell? ⟨t, x, none⟩ = some (.slice none s.size 0) := (hA.cell (p := ⟨t, x, none⟩) hlt).trans hc
    have qf : w1.frozen? ⟨t, x, none⟩ = false := (hA.frozen (p := ⟨t, x, none⟩) hlt).trans hfz
    have HA := Lib.hid hA
    clear hA hc hfz hbox
    go_region
    go_wp2_with fail
    go_end0
    refine ⟨rfl, ?_⟩
    exact do_trim_fin (k := 0) H.out.1 hxl2 HA.out H.out.2.2.1 H.out.2.2.2.1 (by omega) (by rw [made_empty, ← H.out.2.2.2.2.1]) rfl H.out.2.2.2.2.2.1 H.out.2.2.2.2.2.2
  · clear ho
    go_enter Tryz.func55, Tryz.ntmps55
    go_wp2_with fail
    have hA := Below.refl w.heap.size w |>.alloc (Nat.le_refl _) (.cells #[.int .i64 3, .int .i64 x, .int .i64 0, .string text] 71)
    have hbox : (w.alloc (.cells #[.int .i64 3, .int .i64 x, .int .i64 0, .string text] 71)).heap[w.heap.size]? = some (.cells #[.int .i64 3, .int .i64 x, .int .i64 0, .string text] 71 (0, 0)) := heap_alloc_new _ _
    generalize w.alloc _ = w1 at *
    have q1 : w1.cell? ⟨w.heap.size, 1, none⟩ = some (.int .i64 x) := by rw [cell_of_row _ _ _ _ _ _ hbox]; rfl
    have q2 : w1.cell? ⟨w.heap.size, 2, none⟩ = some (.int .i64 0) := by rw [cell_of_row _ _ _ _ _ _ hbox]; rfl
    have qt : w1.cell? ⟨t, x, none⟩ = some (.slice (some ⟨g, 0, none⟩) s.size cap) := (hA.cell (p := ⟨t, x, none⟩) hlt).trans hc
    have qf : w1.frozen? ⟨t, x, none⟩ = false := (hA.frozen (p := ⟨t, x, none⟩) hlt).trans hfz
    have HA := Lib.hid hA
    clear hA hc hfz hbox
    go_region
    go_wp2_with fail
    go_end0
    refine ⟨rfl, ?_⟩
    exact do_trim_fin (k := 0) H.out.1 hxl2 HA.out H.out.2.2.1 H.out.2.2.2.1 (by omega) (by rw [made_empty, ← H.out.2.2.2.2.1]) rfl H.out.2.2.2.2.2.1 H.out.2.2.2.2.2.2
/-- A CHANGE IS MADE. -/
theorem do_any (c : Chg) (l : List ByteArray) (t rt : Nat) (f : Nat → Nat) (ρ : Nat → Nat) (w : World) (hT : Tab w ρ rt f t l) (hm : May l c) (hz : Sz l) (hs : c.kind = 0 → c.text.size ≤ 65536) (hfx : ∀ i, i < l.length → f i ≠ rt) (hff : ∀ i, i ≠ c.x → f i ≠ f c.x) (hn : l.length ≤ 64) :
    Calls Tryz.prog 55 #[.agg (chgCells c).toArray, .slice (some ⟨t, 0, none⟩) l.length l.length] w fun e w' => e = .returned (.tuple #[]) ∧ ∃ ρ', Tab w' ρ' rt f t (made l c) ∧ Touch (fun r => r = rt ∨ r = f c.x) ρ ρ' w w' := by
  have h2 := hm.2.1
  by_cases h0 : c.kind = 0
  · exact do_app c h0 l t rt f ρ w hT hm hz (hs h0) hfx hff hn
  · by_cases h1 : c.kind = 1
    · exact do_trim c h1 l t rt f ρ w hT hm hz hfx hff hn
    · exact do_empty c (by omega) l t rt f ρ w hT hm hz hfx hff hn
end Go.Proofs.YtdmbombjkinboaaGreat
namespace Go.Proofs.YtdmbombjkinboaaGreat
open Go.RowKit
open Dk

theorem head_cells {w : World} {b : Nat} {D : Disk} {ts tn : Nat} {wv : Value} (h : w.heap[b]? = some (.cells (headCells D ts tn wv) 63 (0, 0))) :
    w.cell? ⟨b, 0, none⟩ = some (.int .i64 D.room) ∧ w.cell? ⟨b, 1, none⟩ = some (.slice (some ⟨ts, 0, none⟩) D.sure.length D.sure.length) ∧ w.cell? ⟨b, 2, none⟩ = some (.slice (some ⟨tn, 0, none⟩) D.sure.length D.sure.length) ∧
    w.cell? ⟨b, 3, none⟩ = some wv ∧ w.cell? ⟨b, 4, none⟩ = some (.int .i64 D.changes) ∧ w.cell? ⟨b, 5, none⟩ = some (.int .i64 D.falls) ∧ w.cell? ⟨b, 6, none⟩ = some (.bool D.down) ∧ w.cell? ⟨b, 7, none⟩ = some (.bool D.laid) ∧
    w.cell? ⟨b, 8, none⟩ = some (.int .i64 D.after) ∧ w.cell? ⟨b, 9, none⟩ = some (.int .i64 D.keep) ∧ w.cell? ⟨b, 10, none⟩ = some (.int .i64 D.torn) := by
  refine ⟨?_, ?_, ?_, ?_, ?_, ?_, ?_, ?_, ?_, ?_, ?_⟩ <;> (rw [cell_of_row _ _ _ _ _ _ h]; rfl)
theorem head_free {w : World} {b : Nat} {cs : Array Value} {t : TypeId} (h : w.heap[b]? = some (.cells cs t (0, 0))) (j : Nat) : w.frozen? ⟨b, j, none⟩ = false := frozen_of_row _ _ _ _ _ h
set_option maxRecDepth 100000 in
theorem down_any {w : World} {ρ : Nat → Nat} {b : Nat} {D : Disk} (h : DiskAt w ρ b D) : Calls Tryz.prog 29 #[.pointer (some ⟨b, 0, none⟩)] w fun e w' => e = .returned (.bool D.down) ∧ w = w' := by
  obtain ⟨ts, tn, wv, h1, -⟩ := h.body
  have q := (head_cells h1).2.2.2.2.2.2.1
  clear h h1
  go_enter Tryz.func29, Tryz.ntmps29
  go_wp2_with fail
  go_ret
  exact ⟨rfl, rfl⟩
theorem down_nil (w : World) : Calls Tryz.prog 29 #[.pointer none] w fun e w' => e = .returned (.bool true) ∧ w = w' := by
  go_enter Tryz.func29, Tryz.ntmps29
  go_wp2_with fail
  go_ret
  exact ⟨rfl, rfl⟩
theorem extents_any {w : World} {ρ : Nat → Nat} {b : Nat} {D : Disk} (h : DiskAt w ρ b D) : Calls Tryz.prog 33 #[.pointer (some ⟨b, 0, none⟩)] w fun e w' => e = .returned (.int .i64 (D.sure.length : Int)) ∧ w = w' := by
  obtain ⟨ts, tn, wv, h1, -⟩ := h.body
  have q := (head_cells h1).2.2.1
  clear h h1
  go_enter Tryz.func33, Tryz.ntmps33
  go_wp2_with fail
  go_ret
  exact ⟨rfl, rfl⟩
theorem extents_nil (w : World) : Calls Tryz.prog 33 #[.pointer none] w fun e w' => e = .returned (.int .i64 0) ∧ w = w' := by
  go_enter Tryz.func33, Tryz.ntmps33
  go_wp2_with fail
  go_ret
  exact ⟨rfl, rfl⟩
theorem falls_any {w : World} {ρ : Nat → Nat} {b : Nat} {D : Disk} (h : DiskAt w ρ b D) : Calls Tryz.prog 48 #[.pointer (some ⟨b, 0, none⟩)] w fun e w' => e = .returned (.int .i64 D.falls) ∧ w = w' := by
  obtain ⟨ts, tn, wv, h1, -⟩ := h.body
  have q := (head_cells h1).2.2.2.2.2.1
  clear h h1
  go_enter Tryz.func48, Tryz.ntmps48
  go_wp2_with fail
  go_ret
  exact ⟨rfl, rfl⟩
theorem falls_nil (w : World) : Calls Tryz.prog 48 #[.pointer none] w fun e w' => e = .returned (.int .i64 0) ∧ w = w' := by
  go_enter Tryz.func48, Tryz.ntmps48
  go_wp2_with fail
  go_ret
  exact ⟨rfl, rfl⟩
/-- Why an extent can't be read. -/
def eerr (D : Disk) (x : Int) : Int := if D.down = true then 9 else if x < 0 ∨ (D.sure.length : Int) ≤ x then 1 else 0
set_option maxRecDepth 100000 in
theorem extent_down {w : World} {ρ : Nat → Nat} {b : Nat} {D : Disk} (h : DiskAt w ρ b D) (hd : D.down = true) (x : Int) : Calls Tryz.prog 57 #[.pointer (some ⟨b, 0, none⟩), .int .i64 x] w fun e w' => e = .returned (.tuple #[.slice none 0 0, .int .i64 9]) ∧ w = w' := by
  have H := down_any h
  rw [hd] at H
  have H := Lib.hid H
  clear h hd
  go_enter Tryz.func57, Tryz.ntmps57
  go_wp2_with fail
  refine H.out.mono ?_
  rintro e w' ⟨rfl, rfl⟩
  go_wp2_with fail
  go_ret2
  exact ⟨rfl, rfl⟩
theorem extent_nil (w : World) (x : Int) : Calls Tryz.prog 57 #[.pointer none, .int .i64 x] w fun e w' => e = .returned (.tuple #[.slice none 0 0, .int .i64 9]) ∧ w = w' := by
  go_enter Tryz.func57, Tryz.ntmps57
  go_wp2_with fail
  refine (down_nil _).mono ?_
  rintro e w' ⟨rfl, rfl⟩
  go_wp2_with fail
  go_ret2
  exact ⟨rfl, rfl⟩
set_option maxRecDepth 100000 in
theorem extent_far {w : World} {ρ : Nat → Nat} {b : Nat} {D : Disk} (h : DiskAt w ρ b D) (hd : D.down = false) (x : Int) (hx : x < 0 ∨ (D.sure.length : Int) ≤ x) : Calls Tryz.prog 57 #[.pointer (some ⟨b, 0, none⟩), .int .i64 x] w fun e w' => e = .returned (.tuple #[.slice none 0 0, .int .i64 1]) ∧ w = w' := by
  have H := down_any h
  rw [hd] at H
  obtain ⟨ts, tn, wv, h1, -⟩ := h.body
  have q := (head_cells h1).2.2.1
  have hn := h.ok.num
  have H := Lib.hid H
  clear h hd h1
  by_cases hx0 : x < 0
  · clear hx
    go_enter Tryz.func57, Tryz.ntmps57
    go_wp2_with fail
    refine H.out.mono ?_
    rintro e w' ⟨rfl, rfl⟩
    go_wp2_with fail
    go_ret2
    exact ⟨rfl, rfl⟩
  · have hx1 : (D.sure.length : Int) ≤ x := by omega
    clear hx
    go_enter Tryz.func57, Tryz.ntmps57
    go_wp2_with fail
    refine H.out.mono ?_
    rintro e w' ⟨rfl, rfl⟩
    go_wp2_with fail
    go_ret2
    exact ⟨rfl, rfl⟩
set_option maxRecDepth 100000 in
theorem extent_at {w : World} {ρ : Nat → Nat} {b : Nat} {D : Disk} (h : DiskAt w ρ b D) (hd : D.down = false) (x : Nat) (hx : x < D.sure.length) : Calls Tryz.prog 57 #[.pointer (some ⟨b, 0, none⟩), .int .i64 (x : Int)] w fun e w' =>
    (∃ a cap, e = .returned (.tuple #[.slice a (exAt D.now x).size cap, .int .i64 0]) ∧ w.ownsRow 0 5 1 (.slice a (exAt D.now x).size cap) (exAt D.now x).size (bcells (exAt D.now x).data.toList)) ∧ w = w' := by
  have H := down_any h
  rw [hd] at H
  obtain ⟨ts, tn, wv, h1, -, hT, -⟩ := h.body
  have q := (head_cells h1).2.2.1
  have hn := h.ok.num
  obtain ⟨a, cap, c1, ho, -, -⟩ := hT.at (x := x) (by rw [D.now_length]; exact hx)
  have H := Lib.hid (And.intro H ho)
  have hxi : (x : Int) < D.sure.length := by omega
  clear h hd h1 hT ho
  go_enter Tryz.func57, Tryz.ntmps57
  go_wp2_with fail
  refine H.out.1.mono ?_
  rintro e w' ⟨rfl, rfl⟩
  go_wp2_with fail
  go_ret2
  exact ⟨⟨a, cap, rfl, H.out.2⟩, rfl⟩

theorem conv_own {w : World} {a : Option Addr} {cap : Nat} {s : ByteArray} (h : w.ownsRow 0 5 1 (.slice a s.size cap) s.size (bcells s.data.toList)) : (convert 51 9 (.slice a s.size cap)).run Tryz.prog w = .ok (.string s) w := by
  have hl : s.data.toList.length = s.size := by simp
  have := OwnB.conv (B := 0) (w := w) (a := a) (cap := cap) (l := s.data.toList) (by unfold OwnB; rw [hl]; exact h)
  rw [hl] at this
  exact this
theorem conv_nil (w : World) : (convert 51 9 (.slice none 0 0)).run Tryz.prog w = .ok (.string ⟨#[]⟩) w := conv_own (s := ⟨#[]⟩) (World.ownsRow_nil _ _ _ _)
/-- What is read of an extent. -/
def readD (D : Disk) (x : Int) : ByteArray := if eerr D x = 0 then exAt D.now x.toNat else ⟨#[]⟩
theorem eerr_cases (D : Disk) (x : Int) : (D.down = true ∧ eerr D x = 9) ∨ (D.down = false ∧ (x < 0 ∨ (D.sure.length : Int) ≤ x) ∧ eerr D x = 1) ∨ (D.down = false ∧ ∃ k : Nat, x = k ∧ k < D.sure.length ∧ eerr D x = 0) := by
  unfold eerr
  cases hd : D.down with
  | true => exact .inl ⟨rfl, if_pos rfl⟩
  | false =>
    rw [if_neg (by decide)]
    by_cases hx : x < 0 ∨ (D.sure.length : Int) ≤ x
    · exact .inr (.inl ⟨rfl, hx, if_pos hx⟩)
    · exact .inr (.inr ⟨rfl, x.toNat, by omega, by omega, if_neg hx⟩)
set_option maxRecDepth 100000 in
theorem read_any {w : World} {ρ : Nat → Nat} {b : Nat} {D : Disk} (h : DiskAt w ρ b D) (x : Int) : Calls Tryz.prog 34 #[.pointer (some ⟨b, 0, none⟩), .int .i64 x] w fun e w' => e = .returned (.tuple #[.string (readD D x), .int .i64 (eerr D x)]) ∧ w = w' := by
  rcases eerr_cases D x with ⟨hd, he⟩ | ⟨hd, hx, he⟩ | ⟨hd, k, rfl, hk, he⟩
  · rw [readD, he, if_neg (by decide)]
    have H := Lib.hid (extent_down h hd x)
    have hc := conv_nil
    clear h hd he
    go_enter Tryz.func34, Tryz.ntmps34
    go_wp2_with fail
    refine H.out.mono ?_
    rintro e w' ⟨rfl, rfl⟩
    go_wp2_with fail
    go_ret2
    exact ⟨rfl, rfl⟩
  · rw [readD, he, if_neg (by decide)]
    have H := Lib.hid (extent_far h hd x hx)
    have hc := conv_nil
    clear h hd hx he
    go_enter Tryz.func34, Tryz.ntmps34
    go_wp2_with fail
    refine H.out.mono ?_
    rintro e w' ⟨rfl, rfl⟩
    go_wp2_with fail
    go_ret2
    exact ⟨rfl, rfl⟩
  · rw [readD, he, if_pos rfl, Int.toNat_natCast]
    have H := Lib.hid (extent_at h hd k hk)
    clear h hd hk he
    go_enter Tryz.func34, Tryz.ntmps34
    go_wp2_with fail
    refine H.out.mono ?_
    rintro e w' ⟨⟨a, cap, rfl, ho⟩, rfl⟩
    have hc := conv_own ho
    clear ho
    go_wp2_with fail
    go_ret2
    exact ⟨rfl, rfl⟩
theorem read_nil (w : World) (x : Int) : Calls Tryz.prog 34 #[.pointer none, .int .i64 x] w fun e w' => e = .returned (.tuple #[.string ⟨#[]⟩, .int .i64 9]) ∧ w = w' := by
  have hc := conv_nil
  go_enter Tryz.func34, Tryz.ntmps34
  go_wp2_with fail
  refine (extent_nil _ _).mono ?_
  rintro e w' ⟨rfl, rfl⟩
  go_wp2_with fail
  go_ret2
  exact ⟨rfl, rfl⟩
/-- How much room there is. -/
def roomD (D : Disk) (x : Int) : Int := if eerr D x = 0 then D.room - (exAt D.now x.toNat).size else 0
set_option maxRecDepth 100000 in
theorem droom_any {w : World} {ρ : Nat → Nat} {b : Nat} {D : Disk} (h : DiskAt w ρ b D) (x : Int) : Calls Tryz.prog 40 #[.pointer (some ⟨b, 0, none⟩), .int .i64 x] w fun e w' => e = .returned (.int .i64 (roomD D x)) ∧ w = w' := by
  rcases eerr_cases D x with ⟨hd, he⟩ | ⟨hd, hx, he⟩ | ⟨hd, k, rfl, hk, he⟩
  · rw [roomD, he, if_neg (by decide)]
    have H := Lib.hid (extent_down h hd x)
    clear h hd he
    go_enter Tryz.func40, Tryz.ntmps40
    go_wp2_with fail
    refine H.out.mono ?_
    rintro e w' ⟨rfl, rfl⟩
    go_wp2_with fail
    go_ret
    exact ⟨rfl, rfl⟩
  · rw [roomD, he, if_neg (by decide)]
    have H := Lib.hid (extent_far h hd x hx)
    clear h hd hx he
    go_enter Tryz.func40, Tryz.ntmps40
    go_wp2_with fail
    refine H.out.mono ?_
    rintro e w' ⟨rfl, rfl⟩
    go_wp2_with fail
    go_ret
    exact ⟨rfl, rfl⟩
  · rw [roomD, he, if_pos rfl, Int.toNat_natCast]
    have H := Lib.hid (extent_at h hd k hk)
    obtain ⟨ts, tn, wv, h1, -⟩ := h.body
    have q := (head_cells h1).1
    have hr1 := h.ok.room0
    have hr2 := h.ok.room1
    have hs : (exAt D.now k).size ≤ 65536 := h.ok.fits.all.at k
    clear h hd hk he h1
    go_enter Tryz.func40, Tryz.ntmps40
    go_wp2_with fail
    refine H.out.mono ?_
    rintro e w' ⟨⟨a, cap, rfl, ho⟩, rfl⟩
    clear ho
    go_wp2_with fail
    go_ret
    exact ⟨rfl, rfl⟩
theorem room_nil (w : World) (x : Int) : Calls Tryz.prog 40 #[.pointer none, .int .i64 x] w fun e w' => e = .returned (.int .i64 0) ∧ w = w' := by
  go_enter Tryz.func40, Tryz.ntmps40
  go_wp2_with fail
  refine (extent_nil _ _).mono ?_
  rintro e w' ⟨rfl, rfl⟩
  go_wp2_with fail
  go_ret
  exact ⟨rfl, rfl⟩
end Go.Proofs.YtdmbombjkinboaaGreat
namespace Go.Proofs.YtdmbombjkinboaaGreat
open Go.RowKit
open Dk

/-- A change's cells, of any numbers. -/
def rawChg (kind : Nat) (x long : Int) (text : ByteArray) : Value := .agg #[.int .i64 ((kind : Int) + 1), .int .i64 x, .int .i64 long, .string text]
set_option maxRecDepth 100000 in
set_option maxHeartbeats 400000 in
theorem refuses_any {w : World} {ρ : Nat → Nat} {b : Nat} {D : Disk} (h : DiskAt w ρ b D) (kind : Nat) (hk : kind ≤ 2) (x long : Int) (text : ByteArray) :
    Calls Tryz.prog 90 #[.pointer (some ⟨b, 0, none⟩), rawChg kind x long text] w fun e w' => e = .returned (.int .i64 (D.refused kind x long text)) ∧ Below w.heap.size w w' := by
  have hB : Below w.heap.size w (w.alloc (.cells #[.int .i64 ((kind : Int) + 1), .int .i64 x, .int .i64 long, .string text] 71)) := (Below.refl _ _).alloc (Nat.le_refl _) _
  have HB := Lib.hid hB
  have h' := h.below hB
  rcases eerr_cases D x with ⟨hd, he⟩ | ⟨hd, hx, he⟩ | ⟨hd, m, rfl, hm, he⟩
  · rw [show D.refused kind x long text = 9 by unfold Disk.refused; rw [if_pos hd]]
    have H := Lib.hid (extent_down h' hd x)
    clear h h' hB hd he
    unfold rawChg
    go_enter Tryz.func90, Tryz.ntmps90
    go_wp2_with fail
    refine H.out.mono ?_
    rintro e w' ⟨rfl, rfl⟩
    go_wp2_with fail
    go_ret
    exact ⟨rfl, HB.out⟩
  · rw [show D.refused kind x long text = 1 by unfold Disk.refused; rw [if_neg (by rw [hd]; decide), if_pos hx]]
    have H := Lib.hid (extent_far h' hd x hx)
    clear h h' hB hd he hx
    unfold rawChg
    go_enter Tryz.func90, Tryz.ntmps90
    go_wp2_with fail
    refine H.out.mono ?_
    rintro e w' ⟨rfl, rfl⟩
    go_wp2_with fail
    go_ret
    exact ⟨rfl, HB.out⟩
  · have hre : D.refused kind (m : Int) long text = if kind = 1 ∧ (long < 0 ∨ ((exAt D.now m).size : Int) < long) then 1 else if kind = 0 ∧ D.room - ((exAt D.now m).size : Int) < (text.size : Int) then 6 else 0 := by
      unfold Disk.refused
      rw [if_neg (by rw [hd]; decide), if_neg (by omega), Int.toNat_natCast]
    have H := Lib.hid (extent_at h' hd m hm)
    obtain ⟨ts, tn, wv, h1, -⟩ := h.body
    have q := (head_cells h1).1
    have hr1 := h.ok.room0
    have hr2 := h.ok.room1
    have hs : (exAt D.now m).size ≤ 65536 := h.ok.fits.all.at m
    generalize (exAt D.now m).size = sz at *
    have HR := Lib.hid hre
    have hbl : b < w.heap.size := h.raw.lt
    rw [hre]
    clear h h' hB hd he h1 hre
    by_cases h0 : kind = 0
    · subst h0
      rw [if_neg (by simp)]
      have hw : IntKind.i64.wrap (D.room - (sz : Int)) = D.room - (sz : Int) := IntWalk.i64_in _ (by omega)
      unfold rawChg at *
      by_cases hf : D.room - (sz : Int) < (text.size : Int)
      · rw [if_pos ⟨rfl, hf⟩]
        have H2 := Lib.hid hw
        clear hw
        go_enter Tryz.func90, Tryz.ntmps90
        go_wp2_with fail
        refine H.out.mono ?_
        rintro e w' ⟨⟨a, cap, rfl, -⟩, rfl⟩
        go_wp2_with fail
        have hw := H2.out
        go_quiet (fail)
        clear hw
        go_wp2_with fail
        go_ret
        exact ⟨rfl, HB.out.trans ⟨rfl, rfl, rfl, Nat.le_refl _, fun _ _ => rfl⟩⟩
      · rw [if_neg (fun e => hf e.2)]
        have hf2 : decide (D.room - (sz : Int) < (text.size : Int)) = false := by simpa using hf
        have H2 := Lib.hid hw
        clear hw
        go_enter Tryz.func90, Tryz.ntmps90
        go_wp2_with fail
        refine H.out.mono ?_
        rintro e w' ⟨⟨a, cap, rfl, -⟩, rfl⟩
        go_wp2_with fail
        have hw := H2.out
        go_quiet (fail)
        clear hw
        go_wp2_with fail
        go_ret
        exact ⟨rfl, HB.out.trans ⟨rfl, rfl, rfl, Nat.le_refl _, fun _ _ => rfl⟩⟩
    · have hk0 : ((kind : Int) + 1 == 1) = false := by rw [beq_eq_false_iff_ne]; omega
      rw [if_neg (fun e : kind = 0 ∧ _ => h0 e.1)]
      by_cases h1 : kind = 1
      · subst h1
        by_cases hl0 : long < 0
        · rw [if_pos ⟨rfl, .inl hl0⟩]
          unfold rawChg at *
          go_enter Tryz.func90, Tryz.ntmps90
          go_wp2_with fail
          refine H.out.mono ?_
          rintro e w' ⟨⟨a, cap, rfl, -⟩, rfl⟩
          go_wp2_with fail
          go_ret
          exact ⟨rfl, HB.out⟩
        · by_cases hl1 : (sz : Int) < long
          · rw [if_pos ⟨rfl, .inr hl1⟩]
            unfold rawChg at *
            go_enter Tryz.func90, Tryz.ntmps90
            go_wp2_with fail
            refine H.out.mono ?_
            rintro e w' ⟨⟨a, cap, rfl, -⟩, rfl⟩
            go_wp2_with fail
            go_ret
            exact ⟨rfl, HB.out⟩
          · rw [if_neg (fun e => by rcases e.2 with e | e <;> omega)]
            have hl0' : decide (long < 0) = false := by simpa using hl0
            have hl1' : decide ((sz : Int) < long) = false := by simpa using hl1
            unfold rawChg at *
            go_enter Tryz.func90, Tryz.ntmps90
            go_wp2_with fail
            refine H.out.mono ?_
            rintro e w' ⟨⟨a, cap, rfl, -⟩, rfl⟩
            go_wp2_with fail
            go_quiet (fail)
            go_wp2_with fail
            go_ret
            exact ⟨rfl, HB.out.trans ⟨rfl, rfl, rfl, Nat.le_refl _, fun _ _ => rfl⟩⟩
      · obtain rfl : kind = 2 := by omega
        rw [if_neg (by simp)]
        unfold rawChg at *
        go_enter Tryz.func90, Tryz.ntmps90
        go_wp2_with fail
        refine H.out.mono ?_
        rintro e w' ⟨⟨a, cap, rfl, -⟩, rfl⟩
        go_wp2_with fail
        go_quiet (fail)
        go_wp2_with fail
        go_ret
        exact ⟨rfl, HB.out.trans ⟨rfl, rfl, rfl, Nat.le_refl _, fun _ _ => rfl⟩⟩

/-- Whether the cut strikes, and the disk behind that. -/
def strikeD (D : Disk) : Disk × Bool := if D.laid = true then (if 0 < D.after then ({ D with after := D.after - 1 }, false) else ({ D with laid := false }, true)) else (D, false)
set_option maxRecDepth 100000 in
theorem strikes_any {w : World} {ρ : Nat → Nat} {b : Nat} {D : Disk} {N : List ByteArray} (h : Raw w ρ b D N) (ha : D.after ≤ 9223372036854775807) :
    Calls Tryz.prog 91 #[.pointer (some ⟨b, 0, none⟩)] w fun e w' => e = .returned (.bool (strikeD D).2) ∧ Raw w' ρ b (strikeD D).1 N ∧ Touch (· = 1) ρ ρ w w' := by
  obtain ⟨ts, tn, wv, h1, hS, hN, hW⟩ := h.body
  obtain ⟨-, -, -, -, -, -, -, q7, q8, -, -⟩ := head_cells h1
  have f7 := head_free h1 7
  have f8 := head_free h1 8
  unfold strikeD
  rcases Bool.eq_false_or_eq_true D.laid with hl | hl
  rotate_left
  · rw [if_neg (by rw [hl]; decide)]
    rw [hl] at q7
    have H := Lib.hid h
    clear h h1 hS hN hW hl
    go_enter Tryz.func91, Tryz.ntmps91
    go_wp2_with fail
    go_ret
    exact ⟨rfl, H.out, Touch.refl _ _ _⟩
  · rw [if_pos hl]
    rw [hl] at q7
    by_cases hp : 0 < D.after
    · rw [if_pos hp]
      have H := Lib.hid (And.intro h (And.intro h1 (And.intro hS (And.intro hN (And.intro hW hl)))))
      clear h h1 hS hN hW hl
      go_enter Tryz.func91, Tryz.ntmps91
      go_wp2_with fail
      go_ret
      refine ⟨rfl, ?_⟩
      exact raw_put H.out.1.role H.out.1.lab H.out.1.num H.out.2.1 rfl rfl H.out.2.2.1 H.out.2.2.2.1 H.out.2.2.2.2.1
    · rw [if_neg hp]
      have hp2 : decide (0 < D.after) = false := by simpa using hp
      have H := Lib.hid (And.intro h (And.intro h1 (And.intro hS (And.intro hN (And.intro hW hl)))))
      clear h h1 hS hN hW hl
      go_enter Tryz.func91, Tryz.ntmps91
      go_wp2_with fail
      go_ret
      refine ⟨rfl, ?_⟩
      exact raw_put H.out.1.role H.out.1.lab H.out.1.num H.out.2.1 rfl rfl H.out.2.2.1 H.out.2.2.2.1 H.out.2.2.2.2.1
theorem DiskAt.up_at {w : World} {ρ : Nat → Nat} {b : Nat} {D : Disk} (h : DiskAt w ρ b D) (hd : D.down = false) : DiskAt w ρ b D.up := by
  have e : D.up = D := by cases D; simp only at hd; subst hd; rfl
  rw [e]; exact h
set_option maxRecDepth 100000 in
theorem up_any {w : World} {ρ : Nat → Nat} {b : Nat} {D : Disk} (h : DiskAt w ρ b D) :
    Calls Tryz.prog 27 #[.pointer (some ⟨b, 0, none⟩)] w fun e w' => e = .returned (.bool D.down) ∧ DiskAt w' ρ b D.up ∧ Touch (· = 1) ρ ρ w w' := by
  obtain ⟨ts, tn, wv, h1, hS, hN, hW⟩ := h.body
  obtain ⟨-, -, -, -, -, -, q6, -⟩ := head_cells h1
  have f6 := head_free h1 6
  cases hd : D.down with
  | false =>
    rw [hd] at q6
    have H := Lib.hid (h.up_at hd)
    clear h h1 hS hN hW hd
    go_enter Tryz.func27, Tryz.ntmps27
    go_wp2_with fail
    go_ret
    exact ⟨rfl, H.out, Touch.refl _ _ _⟩
  | true =>
    rw [hd] at q6
    have H := Lib.hid (And.intro h (And.intro h1 (And.intro hS (And.intro hN hW))))
    clear h h1 hS hN hW hd
    go_enter Tryz.func27, Tryz.ntmps27
    go_wp2_with fail
    go_ret
    refine ⟨rfl, ?_⟩
    have := raw_put (w2 := w.setCell ⟨b, 6, none⟩ (.bool false)) (D' := D.up) (N' := D.up.now) H.out.1.raw.role H.out.1.raw.lab H.out.1.raw.num H.out.2.1 rfl rfl H.out.2.2.1 H.out.2.2.2.1 H.out.2.2.2.2
    exact ⟨⟨this.1, H.out.1.ok.up⟩, this.2⟩
theorem up_nil (w : World) : Calls Tryz.prog 27 #[.pointer none] w fun e w' => e = .returned (.bool false) ∧ w = w' := by
  go_enter Tryz.func27, Tryz.ntmps27
  go_wp2_with fail
  go_ret
  exact ⟨rfl, rfl⟩
end Go.Proofs.YtdmbombjkinboaaGreat
