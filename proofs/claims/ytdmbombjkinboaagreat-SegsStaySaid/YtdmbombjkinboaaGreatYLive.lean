/- Plain mathematics of segs: what the calls of a store make of its disk, whatever power fails. No walk. -/
import Derived.Test.YtdmbombjkinboaaGreatYImg
namespace Go.Proofs.YtdmbombjkinboaaGreat
open Dk Sg Fr
namespace Sg

/-- Whatever of the changes that wait is made for good, P holds of the extents. -/
def Steady (P : List ByteArray → Prop) : List ByteArray → List Chg → Prop
  | X, [] => P X
  | X, c :: cs => P X ∧ (c.kind = 0 → ∀ t, P (made X { c with text := c.text.extract 0 t })) ∧ Steady P (made X c) cs
theorem Steady.first {P : List ByteArray → Prop} {X : List ByteArray} {cs : List Chg} (h : Steady P X cs) : P X := by
  cases cs with
  | nil => exact h
  | cons c cs => exact h.1
theorem Steady.mono {P Q : List ByteArray → Prop} (hPQ : ∀ Y, P Y → Q Y) : ∀ {cs : List Chg} {X : List ByteArray}, Steady P X cs → Steady Q X cs
  | [], X, h => hPQ X h
  | _ :: cs, X, h => ⟨hPQ X h.1, fun k t => hPQ _ (h.2.1 k t), Steady.mono hPQ (cs := cs) h.2.2⟩
theorem Steady.at {P : List ByteArray → Prop} : ∀ {cs : List Chg} {X : List ByteArray} (k : Nat), Steady P X cs → P (madeAll X (cs.take k)) ∧ ∀ c t, cs[k]? = some c → c.kind = 0 → P (made (madeAll X (cs.take k)) { c with text := c.text.extract 0 t })
  | [], X, k, h => ⟨by rw [List.take_nil]; exact h, fun c t hc => by simp at hc⟩
  | c :: cs, X, 0, h => ⟨h.1, fun d t hd h0 => by
      simp only [List.getElem?_cons_zero, Option.some.injEq] at hd
      subst hd
      exact h.2.1 h0 t⟩
  | c :: cs, X, k + 1, h => by
    have ih := Steady.at (cs := cs) k h.2.2
    rw [List.take_succ_cons]
    exact ⟨ih.1, fun d t hd h0 => ih.2 d t (by simpa using hd) h0⟩
theorem Steady.kept {P : List ByteArray → Prop} {X : List ByteArray} {ws : List Chg} (h : Steady P X ws) (keep torn : Int) : P (madeAll X (kept ws keep torn)) := by
  unfold Dk.kept
  obtain ⟨h1, h2⟩ := h.at (keepOf ws.length keep)
  cases hc : ws[keepOf ws.length keep]? with
  | none => rw [tornOf_none, List.append_nil]; exact h1
  | some c =>
    by_cases hk : c.kind = 0 ∧ 0 < torn
    · rw [tornOf_yes hk, madeAll_snoc]; exact h2 c _ hc hk.1
    · rw [tornOf_no hk, List.append_nil]; exact h1
theorem Steady.snoc {P : List ByteArray → Prop} {c : Chg} : ∀ {cs : List Chg} {X : List ByteArray}, Steady P X cs → (c.kind = 0 → ∀ t, P (made (madeAll X cs) { c with text := c.text.extract 0 t })) → P (made (madeAll X cs) c) → Steady P X (cs ++ [c])
  | [], _, h, h1, h2 => ⟨h, h1, h2⟩
  | _ :: cs, _, h, h1, h2 => ⟨h.1, h.2.1, Steady.snoc (cs := cs) h.2.2 h1 h2⟩
/-- A disk that is up goes on. -/
structure Kept (D D1 : Disk) : Prop where
  up : D1.down = false
  room : D1.room = D.room
  num : D1.sure.length = D.sure.length
  falls : D1.falls = D.falls
  laid : D.laid = false → D1.laid = false
theorem Kept.refl {D : Disk} (h : D.down = false) : Kept D D := ⟨h, rfl, rfl, rfl, id⟩
theorem Kept.trans {a b c : Disk} (h : Kept a b) (k : Kept b c) : Kept a c := ⟨k.up, k.room.trans h.room, k.num.trans h.num, k.falls.trans h.falls, fun e => k.laid (h.laid e)⟩
/-- The power failed: a cut struck. -/
structure FellTo (P : List ByteArray → Prop) (D D1 : Disk) : Prop where
  down : D1.down = true
  waits : D1.waits = []
  p : P D1.sure
  room : D1.room = D.room
  num : D1.sure.length = D.sure.length
  was : D.laid = true
  laid : D1.laid = false
theorem FellTo.mono {P Q : List ByteArray → Prop} {D D1 : Disk} (h : FellTo P D D1) (hPQ : ∀ Y, P Y → Q Y) : FellTo Q D D1 := ⟨h.down, h.waits, hPQ _ h.p, h.room, h.num, h.was, h.laid⟩
theorem FellTo.after {P : List ByteArray → Prop} {D D1 D2 : Disk} (k : Kept D D1) (h : FellTo P D1 D2) : FellTo P D D2 :=
  ⟨h.down, h.waits, h.p, h.room.trans k.room, h.num.trans k.num, (by
    cases e : D.laid with
    | true => rfl
    | false => exact absurd (h.was.symm.trans (k.laid e)) (by decide)), h.laid⟩
theorem act_out {P : List ByteArray → Prop} {D : Disk} (hs : Steady P D.sure D.waits) (hu : D.down = false) {kind x long : Nat} {text : ByteArray} (hr : D.refused kind x long text = 0)
    (h1 : kind = 0 → ∀ t, P (made D.now ⟨kind, x, long, text.extract 0 t⟩)) (h2 : P (made D.now ⟨kind, x, long, text⟩)) :
    ((D.act kind x long text).2 = 0 ∧ Kept D (D.act kind x long text).1 ∧ (D.act kind x long text).1.now = made D.now ⟨kind, x, long, text⟩ ∧ Steady P (D.act kind x long text).1.sure (D.act kind x long text).1.waits) ∨
    ((D.act kind x long text).2 = 9 ∧ FellTo P D (D.act kind x long text).1) := by
  have hst : Steady P D.sure (D.waits ++ [⟨kind, x, long, text⟩]) := hs.snoc h1 h2
  unfold Disk.act
  rw [if_pos hr, Int.toNat_natCast, Int.toNat_natCast]
  unfold Disk.puts
  by_cases hl : D.laid = true ∧ D.after ≤ 0
  · rw [if_pos hl]
    right
    refine ⟨rfl, ?_⟩
    unfold Disk.fail
    rw [if_neg (by simp [hu])]
    exact ⟨rfl, rfl, hst.kept _ _, rfl, madeAll_length _ _, hl.1, rfl⟩
  · rw [if_neg hl]
    left
    refine ⟨rfl, ⟨hu, rfl, rfl, rfl, id⟩, ?_, hst⟩
    show madeAll D.sure (D.waits ++ [_]) = _
    rw [madeAll_snoc]; rfl
theorem refused_none {D : Disk} (hu : D.down = false) {kind x long : Nat} {text : ByteArray} (hx : x < D.sure.length) (h1 : kind = 1 → long ≤ (exAt D.now x).size) (h0 : kind = 0 → (text.size : Int) ≤ D.room - ((exAt D.now x).size : Int)) : D.refused kind x long text = 0 := by
  unfold Disk.refused
  rw [if_neg (by rw [hu]; decide), if_neg (by omega), if_neg, if_neg]
  · rintro ⟨e, h⟩
    have := h0 e
    rw [Int.toNat_natCast] at h
    omega
  · rintro ⟨e, h⟩
    have := h1 e
    rw [Int.toNat_natCast] at h
    omega
theorem now_sync (D : Disk) : ({ D with sure := D.now, waits := [] } : Disk).now = D.now := rfl
theorem syncS_out {D : Disk} (S : Stor) (hu : D.down = false) : syncS D S = ({ D with sure := D.now, waits := [] }, { S with sure := S.recs.length }, 0) := by
  unfold syncS
  rw [sync_err D hu, andS_ok rfl]
theorem kept_sync {D : Disk} (hu : D.down = false) : Kept D { D with sure := D.now, waits := [] } := ⟨hu, rfl, D.now_length, rfl, id⟩
theorem set_two (X : List ByteArray) (x : Nat) (a b : ByteArray) : (X.set x a).set x b = X.set x b := by
  apply List.ext_getElem?
  intro i
  rw [List.getElem?_set, List.getElem?_set, List.getElem?_set, List.length_set]
  by_cases h : x = i <;> simp [h]
theorem none_app (t : ByteArray) : (⟨#[]⟩ : ByteArray) ++ t = t := by apply ext_list; rw [ByteArray.toList_data_append]; rfl
theorem exAt_empty {X : List ByteArray} {x : Nat} (h : x < X.length) (t : ByteArray) : (X.set x ⟨#[]⟩).set x (exAt (X.set x ⟨#[]⟩) x ++ t) = X.set x t := by
  rw [exAt_set_same h, set_two, none_app]
theorem putS_out {P : List ByteArray → Prop} {D : Disk} (S : Stor) {x : Nat} {t : ByteArray} (hs : Steady P D.sure D.waits) (hu : D.down = false) (hx : x < D.sure.length) (h0 : P (D.now.set x ⟨#[]⟩)) (ht : ∀ k, P (D.now.set x (t.extract 0 k))) (h1 : P (D.now.set x t)) (hr : (t.size : Int) ≤ D.room) :
    ((putS D S x t).2.2 = 0 ∧ (putS D S x t).2.1 = { S with sure := S.recs.length } ∧ Kept D (putS D S x t).1 ∧ (putS D S x t).1.sure = D.now.set x t ∧ (putS D S x t).1.waits = []) ∨ ((putS D S x t).2.2 = 9 ∧ FellTo P D (putS D S x t).1) := by
  have hxn : x < D.now.length := by rw [D.now_length]; exact hx
  have a1 := act_out (kind := 2) (x := x) (long := 0) (text := ⟨#[]⟩) hs hu (refused_none hu hx (fun e => by cases e) (fun e => by cases e)) (fun e => by cases e) h0
  have e2 : made D.now ⟨2, x, 0, ⟨#[]⟩⟩ = D.now.set x ⟨#[]⟩ := rfl
  rw [e2] at a1
  unfold putS
  rcases a1 with ⟨p1, p2, p3, p4⟩ | ⟨p1, p2⟩
  · rw [show (0 : Int) = ((0 : Nat) : Int) from rfl, andS_ok p1]
    generalize (D.act 2 (x : Int) ((0 : Nat) : Int) ⟨#[]⟩).1 = D1 at *
    have e3 : ∀ u, made D1.now ⟨0, x, 0, u⟩ = D.now.set x u := fun u => by
      rw [p3]; exact exAt_empty hxn u
    have a2 := act_out (kind := 0) (x := x) (long := 0) (text := t) p4 p2.up (refused_none p2.up (by rw [p2.num]; exact hx) (fun e => by cases e) (fun _ => by rw [p3, exAt_set_same hxn, p2.room]; show _ ≤ _ - ((0 : Nat) : Int); omega)) (fun _ k => by rw [e3]; exact ht k) (by rw [e3]; exact h1)
    rw [e3] at a2
    rcases a2 with ⟨q1, q2, q3, q4⟩ | ⟨q1, q2⟩
    · rw [andS_ok q1, syncS_out S q2.up]
      left
      exact ⟨rfl, rfl, (p2.trans q2).trans (kept_sync q2.up), q3, rfl⟩
    · rw [andS_no (by rw [q1]; decide)]
      right
      exact ⟨q1, q2.after p2⟩
  · rw [show (0 : Int) = ((0 : Nat) : Int) from rfl, andS_no (by rw [p1]; decide)]
    right
    exact ⟨p1, p2⟩
/-- The extents hold the records R, whole or with a torn end. -/
def Rec (n N : Nat) (R : List ByteArray) (X : List ByteArray) : Prop := ∃ Ls c l T, Img n X N Ls c l T ∧ flat l = R
/-- The extents hold a beginning of R, of at least k records. -/
def Safe (n N : Nat) (R : List ByteArray) (k : Nat) (X : List ByteArray) : Prop := ∃ m, k ≤ m ∧ m ≤ R.length ∧ Rec n N (R.take m) X
theorem Rec.mono {n N M : Nat} {R X : List ByteArray} (h : Rec n N R X) (hN : N ≤ M) : Rec n M R X := by
  obtain ⟨Ls, c, l, T, h1, h2⟩ := h
  exact ⟨Ls, c, l, T, h1.mono hN, h2⟩
theorem Safe.of {n N : Nat} {R X : List ByteArray} {k : Nat} (hk : k ≤ R.length) (h : Rec n N R X) : Safe n N R k X := ⟨R.length, hk, Nat.le_refl _, by rw [List.take_length]; exact h⟩
theorem Safe.more {n N M : Nat} {R X : List ByteArray} {k : Nat} (h : Safe n N R k X) (hN : N ≤ M) (r : ByteArray) : Safe n M (R ++ [r]) k X := by
  obtain ⟨m, h1, h2, h3⟩ := h
  exact ⟨m, h1, by rw [List.length_append]; omega, by rw [List.take_append_of_le_length h2]; exact h3.mono hN⟩
theorem Safe.mono {n N M : Nat} {R X : List ByteArray} {k : Nat} (h : Safe n N R k X) (hN : N ≤ M) : Safe n M R k X := by
  obtain ⟨m, h1, h2, h3⟩ := h
  exact ⟨m, h1, h2, h3.mono hN⟩
section
variable {n N : Nat} {X : List ByteArray} {Ls : Nat → List Ent} {c : Nat × Ent} {l : List (Nat × List ByteArray)} {T : List (Nat × Nat)}
/-- A record that is torn. -/
theorem Img.more_torn {l0 : List (Nat × List ByteArray)} {x : Nat} {rs : List ByteArray} (h : Img n X N Ls c (l0 ++ [(x, rs)]) []) {r : ByteArray} (hr : 1 ≤ r.size ∧ r.size ≤ 900) (k : Nat) :
    Rec n N (flat (l0 ++ [(x, rs)])) (X.set x (exAt X x ++ (str (frm r.data.toList)).extract 0 k)) ∨ Rec n N (flat (l0 ++ [(x, rs)]) ++ [r]) (X.set x (exAt X x ++ (str (frm r.data.toList)).extract 0 k)) := by
  have hx := h.mem (s := (x, rs)) (by simp)
  rcases torn_cases (exAt X x) (may_rec hr) k with e | e | e
  · exact .inl ⟨_, _, _, _, h.same hx.2 e, rfl⟩
  · exact .inl ⟨_, _, _, _, h.tear (.inr (by simp)) hx.2 e, rfl⟩
  · rw [e]
    refine .inr ⟨_, _, _, _, h.more hr, ?_⟩
    rw [flat_snoc, flat_snoc, List.append_assoc]
/-- A list that is torn. -/
theorem Img.list_torn (h : Img n X N Ls c l []) {j f : Nat} (hj : j < 2) (hf : f ∉ c.2.exts) (hf2 : 2 ≤ f) (hfn : f < n) (hw : Wh (exAt X f) [headB l.length (flat l).length]) (he : c.2.epoch < 1099511627776) (k : Nat) :
    Rec n (N + 1) (flat l) (X.set j (exAt X j ++ (entS ⟨c.2.epoch + 1, c.2.exts ++ [f]⟩).extract 0 k)) := by
  obtain ⟨hok, hi⟩ := h.list hj hf hf2 hfn hw he
  have hlen := hok.len (EntOk.num62 hok)
  have hjn : j < n := by have := h.n3; omega
  rcases torn_cases (exAt X j) (b := entB ⟨c.2.epoch + 1, c.2.exts ++ [f]⟩) ⟨hlen.1, by omega⟩ k with e | e | e
  · exact ⟨_, _, _, _, (h.same hjn e).mono (Nat.le_succ _), rfl⟩
  · exact ⟨_, _, _, _, (h.tear (.inl hj) hjn e).mono (Nat.le_succ _), rfl⟩
  · unfold entS at hi ⊢
    rw [e]
    exact ⟨_, _, _, _, hi, by rw [flat_snoc, List.append_nil]⟩
end
end Sg
end Go.Proofs.YtdmbombjkinboaaGreat
