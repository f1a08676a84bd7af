/- Plain mathematics of disk, for the laws: what was synced stays; appends; what the document's loss of power makes, change by change. No program. -/
import Derived.Test.YtefpfedpgedloaaDMath
namespace Go.Proofs.Ytefpfedpgedloaa
namespace Dk

theorem keepOf_take {ws : List Chg} {i : Nat} (hi : i ≤ ws.length) (keep : Int) : keepOf (ws.take i).length keep = min keep.toNat i := by
  unfold keepOf; rw [List.length_take]; omega
theorem kept_take_lt {ws : List Chg} {i : Nat} (hi : i ≤ ws.length) (keep torn : Int) (h : i ≤ keep.toNat) : kept (ws.take i) keep torn = ws.take i := by
  unfold kept
  rw [keepOf_take hi, show min keep.toNat i = i by omega, List.getElem?_eq_none (by rw [List.length_take]; omega), tornOf_none, List.append_nil, List.take_take, Nat.min_self]
theorem kept_take_ge {ws : List Chg} {i : Nat} (hi : i ≤ ws.length) (keep torn : Int) (h : keep.toNat < i) : kept (ws.take i) keep torn = ws.take keep.toNat ++ tornOf torn ws[keep.toNat]? := by
  unfold kept
  rw [keepOf_take hi, show min keep.toNat i = keep.toNat by omega, List.getElem?_take_of_lt h, List.take_take, show min keep.toNat i = keep.toNat by omega]
theorem kept_zero (ws : List Chg) (keep torn : Int) : kept (ws.take 0) keep torn = [] := by simp [kept, keepOf, tornOf]
theorem kept_all (ws : List Chg) (keep torn : Int) : kept (ws.take ws.length) keep torn = kept ws keep torn := by rw [List.take_length]
/-- One change more: it is kept whole. -/
theorem kept_whole {ws : List Chg} {i : Nat} {c : Chg} (hc : ws[i]? = some c) (l : List ByteArray) {keep : Int} (torn : Int) (h : (i : Int) < keep) :
    madeAll l (kept (ws.take (i + 1)) keep torn) = made (madeAll l (kept (ws.take i) keep torn)) c := by
  have hi := (List.getElem?_eq_some_iff.1 hc).1
  rw [kept_take_lt (by omega) keep torn (by omega), kept_take_lt (by omega) keep torn (by omega), List.take_add_one, hc, Option.toList_some, madeAll_snoc]
/-- It is torn. -/
theorem kept_torn {ws : List Chg} {i : Nat} {c : Chg} (hc : ws[i]? = some c) (l : List ByteArray) {keep torn : Int} (h : ¬ (i : Int) < keep) (h1 : (i : Int) = keep ∨ (i = 0 ∧ keep < 0)) (h2 : 0 < torn) (h3 : c.kind = 0) :
    madeAll l (kept (ws.take (i + 1)) keep torn) = made (madeAll l (kept (ws.take i) keep torn)) { c with text := c.text.extract 0 (min torn.toNat c.text.size) } := by
  have hi := (List.getElem?_eq_some_iff.1 hc).1
  have hk : keep.toNat = i := by omega
  rw [kept_take_ge (by omega) keep torn (by omega), kept_take_lt (by omega) keep torn (by omega), hk, hc, tornOf_yes ⟨h3, h2⟩, madeAll_snoc]
/-- Nothing becomes of it. -/
theorem kept_none {ws : List Chg} {i : Nat} {c : Chg} (hc : ws[i]? = some c) (l : List ByteArray) {keep torn : Int} (h : ¬ (i : Int) < keep) (h1 : ¬ (((i : Int) = keep ∨ (i = 0 ∧ keep < 0)) ∧ 0 < torn ∧ c.kind = 0)) :
    madeAll l (kept (ws.take (i + 1)) keep torn) = madeAll l (kept (ws.take i) keep torn) := by
  have hi := (List.getElem?_eq_some_iff.1 hc).1
  by_cases hk : keep.toNat = i
  · rw [kept_take_ge (by omega) keep torn (by omega), kept_take_lt (by omega) keep torn (by omega), hk, hc, tornOf_no (fun e => h1 ⟨by omega, e.2, e.1⟩), List.append_nil]
  · rw [kept_take_ge (by omega) keep torn (by omega), kept_take_ge (by omega) keep torn (by omega)]

/-- A text begins with another. -/
def Pre (a b : ByteArray) : Prop := a.data.toList <+: b.data.toList
theorem Pre.refl (a : ByteArray) : Pre a a := List.prefix_refl _
theorem Pre.nil (b : ByteArray) : Pre ⟨#[]⟩ b := List.nil_prefix
theorem Pre.size {a b : ByteArray} (h : Pre a b) : a.size ≤ b.size := by simpa using h.length_le
theorem Pre.trans {a b c : ByteArray} (h : Pre a b) (k : Pre b c) : Pre a c := List.IsPrefix.trans h k
theorem pre_append (a b : ByteArray) : Pre a (a ++ b) := by unfold Pre; simp
theorem extract_data (s : ByteArray) (n : Nat) : (s.extract 0 n).data.toList = s.data.toList.take n := by
  rw [ByteArray.data_extract]; simp
theorem ext_list {a b : ByteArray} (h : a.data.toList = b.data.toList) : a = b := by
  cases a; cases b; simp at h; rw [ByteArray.mk.injEq]; exact Array.toList_inj.1 (by simpa using h)
theorem pre_extract (s : ByteArray) (n : Nat) : Pre (s.extract 0 n) s := by unfold Pre; rw [extract_data]; exact List.take_prefix _ _
theorem Pre.extract {a b : ByteArray} (h : Pre a b) : b.extract 0 a.size = a := by
  apply ext_list
  rw [extract_data]
  have := List.prefix_iff_eq_take.1 h
  rw [Array.length_toList] at this
  exact this.symm
/-- What was synced is there: each extent begins with it, and all changes that wait append, or nothing is asked. -/
def Stays (S : List ByteArray) (d : Disk) : Prop := ∀ k, exAt S k = ⟨#[]⟩ ∨ (Pre (exAt S k) (exAt d.sure k) ∧ ∀ c ∈ d.waits, c.x = k → c.kind = 0)
theorem pre_made {s : ByteArray} {l : List ByteArray} {c : Chg} {k : Nat} (h : Pre s (exAt l k)) (hc : c.x = k → c.kind = 0) (hx : c.x < l.length) : Pre s (exAt (made l c) k) := by
  by_cases e : c.x = k
  · have h0 := hc e
    subst e
    rw [exAt_made_same hx, made1, if_pos h0]
    exact h.trans (pre_append _ _)
  · rw [exAt_made_other e]; exact h
theorem pre_madeAll {s : ByteArray} {k : Nat} : ∀ {cs : List Chg} {l : List ByteArray}, Pre s (exAt l k) → (∀ c ∈ cs, c.x = k → c.kind = 0) → (∀ c ∈ cs, c.x < l.length) → Pre s (exAt (madeAll l cs) k)
  | [], _, h, _, _ => h
  | c :: cs, l, h, hc, hx => pre_madeAll (cs := cs) (l := made l c) (pre_made h (hc c (by simp)) (hx c (by simp))) (fun d hd => hc d (by simp [hd])) (fun d hd => by rw [made_length]; exact hx d (by simp [hd]))
theorem Fits.mem : ∀ {cs : List Chg} {l : List ByteArray} {c : Chg}, Fits l cs → c ∈ cs → c.x < l.length
  | d :: cs, l, c, h, hc => by
    rcases List.mem_cons.1 hc with rfl | hc
    · exact h.2.1.1
    · have := Fits.mem (cs := cs) h.2.2 hc
      rwa [made_length] at this
theorem Stays.now {S : List ByteArray} {d : Disk} (h : Stays S d) (ho : d.Ok) (k : Nat) : Pre (exAt S k) (exAt d.now k) := by
  rcases h k with h | ⟨h1, h2⟩
  · rw [h]; exact Pre.nil _
  · exact pre_madeAll h1 h2 (fun c hc => ho.fits.mem hc)
theorem mem_kept {ws : List Chg} {keep torn : Int} {c : Chg} (h : c ∈ kept ws keep torn) : ∃ c' ∈ ws, c'.x = c.x ∧ c'.kind = c.kind := by
  unfold kept at h
  rcases List.mem_append.1 h with h | h
  · exact ⟨c, List.mem_of_mem_take h, rfl, rfl⟩
  · cases hc : ws[keepOf ws.length keep]? with
    | none => rw [hc, tornOf_none] at h; simp at h
    | some c' =>
      rw [hc] at h
      by_cases hk : c'.kind = 0 ∧ 0 < torn
      · rw [tornOf_yes hk] at h
        obtain rfl := List.mem_singleton.1 h
        exact ⟨c', List.mem_of_getElem? hc, rfl, rfl⟩
      · rw [tornOf_no hk] at h; simp at h
theorem Stays.fail {S : List ByteArray} {d : Disk} (h : Stays S d) (ho : d.Ok) (keep torn : Int) : Stays S (d.fail keep torn) := by
  unfold Disk.fail
  split
  · exact h
  · intro k
    rcases h k with h | ⟨h1, h2⟩
    · exact .inl h
    · refine .inr ⟨pre_madeAll h1 (fun c hc e => ?_) (fun c hc => ?_), fun c hc => by simp at hc⟩
      · obtain ⟨c', m, e1, e2⟩ := mem_kept hc
        rw [← e2]; exact h2 c' m (by rw [e1]; exact e)
      · obtain ⟨c', m, e1, -⟩ := mem_kept hc
        rw [← e1]; exact ho.fits.mem m
theorem Stays.sync (d : Disk) : Stays d.now d.sync.1 ∨ d.down = true := by
  unfold Disk.sync
  split
  · exact .inr ‹_›
  · exact .inl fun k => .inr ⟨Pre.refl _, fun c hc => by simp at hc⟩
theorem Stays.down {S : List ByteArray} {d : Disk} (h : Stays S d) (hd : d.down = true) : Stays S d.sync.1 := by
  unfold Disk.sync; rw [if_pos hd]; exact h
theorem Stays.up {S : List ByteArray} {d : Disk} (h : Stays S d) : Stays S d.up := h
theorem Stays.lay {S : List ByteArray} {d : Disk} (h : Stays S d) (a k t : Int) : Stays S (d.lay a k t) := h
/-- A change: of the extent that is trimmed or emptied nothing is asked any more. -/
theorem Stays.act {S S' : List ByteArray} {d : Disk} (h : Stays S d) (ho : d.Ok) {kind : Nat} (hk : kind ≤ 2) (x long : Int) (text : ByteArray)
    (hS : ∀ k : Nat, (k : Int) ≠ x → exAt S' k = exAt S k ∨ exAt S' k = ⟨#[]⟩) (hx : ∀ k : Nat, (k : Int) = x → k < d.sure.length → exAt S' k = ⟨#[]⟩ ∨ (kind = 0 ∧ exAt S' k = exAt S k)) (hl : ∀ k, d.sure.length ≤ k → exAt S' k = ⟨#[]⟩) : Stays S' (d.act kind x long text).1 := by
  have hSS : ∀ k, exAt S' k = exAt S k ∨ exAt S' k = ⟨#[]⟩ := fun k => by
    by_cases e : (k : Int) = x
    · by_cases e2 : k < d.sure.length
      · rcases hx k e e2 with h | h
        · exact .inr h
        · exact .inl h.2
      · exact .inr (hl k (by omega))
    · exact hS k e
  have hSt : Stays S' d := fun k => by
    rcases hSS k with e | e
    · rw [e]; exact h k
    · exact .inl e
  unfold Disk.act
  split
  · next hr =>
    have hf := (ho.may hk hr).2
    obtain ⟨-, h0, h1, -, -⟩ := Disk.refused_zero hr
    have hw : ∀ (l2 : Bool), Stays S' { d with waits := d.waits ++ [⟨kind, x.toNat, long.toNat, text⟩], laid := l2 } := fun l2 k => by
      rcases hSt k with e | ⟨e1, e2⟩
      · exact .inl e
      · by_cases ek : (k : Int) = x
        · rcases hx k ek (by omega) with e | ⟨e, -⟩
          · exact .inl e
          · refine .inr ⟨e1, fun c hc hck => ?_⟩
            rcases List.mem_append.1 hc with hc | hc
            · exact e2 c hc hck
            · rw [List.mem_singleton.1 hc]; exact e
        · refine .inr ⟨e1, fun c hc hck => ?_⟩
          rcases List.mem_append.1 hc with hc | hc
          · exact e2 c hc hck
          · rw [List.mem_singleton.1 hc] at hck
            have : x.toNat = k := hck
            omega
    unfold Disk.puts
    split
    · exact Stays.fail (hw false) ⟨ho.room0, ho.room1, ho.num, hf⟩ _ _
    · exact hw d.laid
  · exact hSt
end Dk
end Go.Proofs.Ytefpfedpgedloaa
namespace Go.Proofs.Ytefpfedpgedloaa
namespace Dk
/-- Appends to the first extent. -/
def appC (t : ByteArray) : Chg := ⟨0, 0, 0, t⟩
def cat (l : List ByteArray) : ByteArray := l.foldl (· ++ ·) ⟨#[]⟩
theorem foldl_cat (l : List ByteArray) (s : ByteArray) : l.foldl (· ++ ·) s = s ++ cat l := by
  unfold cat
  induction l generalizing s with
  | nil => exact ext_list (by simp)
  | cons t l ih => rw [List.foldl_cons, ih, List.foldl_cons, ih (⟨#[]⟩ ++ t)]; exact ext_list (by simp)
theorem cat_snoc (l : List ByteArray) (t : ByteArray) : cat (l ++ [t]) = cat l ++ t := by simp [cat]
theorem cat_append (a b : List ByteArray) : cat (a ++ b) = cat a ++ cat b := by unfold cat; rw [List.foldl_append, foldl_cat]; rfl
theorem cat_size : ∀ (l : List ByteArray), (cat l).size = (l.map ByteArray.size).sum
  | [] => rfl
  | t :: l => by
    have h : cat (t :: l) = t ++ cat l := by
      show l.foldl (· ++ ·) (⟨#[]⟩ ++ t) = _
      rw [foldl_cat, show (⟨#[]⟩ : ByteArray) ++ t = t from ext_list (by simp)]
    rw [h, ByteArray.size_append, cat_size l, List.map_cons, List.sum_cons]
theorem madeAll_app : ∀ (l : List ByteArray) (s : ByteArray), madeAll [s] (l.map appC) = [l.foldl (· ++ ·) s]
  | [], _ => rfl
  | t :: l, s => by
    rw [List.map_cons]
    show madeAll (made [s] (appC t)) (l.map appC) = _
    rw [show made [s] (appC t) = [s ++ t] from rfl, madeAll_app l]; rfl
theorem made_app (s t : ByteArray) : made [s] (appC t) = [s ++ t] := rfl
theorem nil_cat (s : ByteArray) : (⟨#[]⟩ : ByteArray) ++ s = s := ext_list (by simp)
theorem cat_nil (s : ByteArray) : s ++ (⟨#[]⟩ : ByteArray) = s := ext_list (by simp)
/-- The part that is torn off the change behind those that are kept. -/
def tornT (torn : Int) : Option ByteArray → ByteArray
  | some t => if 0 < torn then t.extract 0 (min torn.toNat t.size) else ⟨#[]⟩
  | none => ⟨#[]⟩
theorem madeAll_kept (l : List ByteArray) (keep torn : Int) : madeAll [⟨#[]⟩] (kept (l.map appC) keep torn) = [cat (l.take (keepOf l.length keep)) ++ tornT torn l[keepOf l.length keep]?] := by
  unfold kept
  rw [List.length_map, madeAll_append, ← List.map_take, madeAll_app, foldl_cat, nil_cat, List.getElem?_map]
  cases hc : l[keepOf l.length keep]? with
  | none => show [_] = [_ ++ (⟨#[]⟩ : ByteArray)]; rw [cat_nil]
  | some t =>
    rw [Option.map_some]
    by_cases h : 0 < torn
    · rw [tornOf_yes (c := appC t) ⟨rfl, h⟩, tornT, if_pos h]; rfl
    · rw [tornOf_no (fun e => h e.2), tornT, if_neg h, cat_nil]; rfl
/-- The disk behind some appends. -/
def appD (room : Int) (l : List ByteArray) (ch : Int) (laid : Bool) (after keep torn : Int) : Disk := ⟨room, [⟨#[]⟩], l.map appC, ch, 0, false, laid, after, keep, torn⟩
theorem appD_new (room : Int) : Disk.new 1 room = appD room [] 0 false 0 0 0 := rfl
theorem appD_lay (room : Int) (l : List ByteArray) (ch : Int) (b : Bool) (x y z a k t : Int) : (appD room l ch b x y z).lay a k t = appD room l ch true a k t := rfl
theorem appD_now (room : Int) (l : List ByteArray) (ch : Int) (laid : Bool) (a k t : Int) : (appD room l ch laid a k t).now = [cat l] := by
  show madeAll [⟨#[]⟩] (l.map appC) = _
  rw [madeAll_app, foldl_cat, nil_cat]
theorem appD_free {room : Int} {l : List ByteArray} {ch : Int} {laid : Bool} {a k t : Int} {s : ByteArray} (h : ((cat l).size : Int) + s.size ≤ room) : (appD room l ch laid a k t).refused 0 0 0 s = 0 := by
  unfold Disk.refused
  rw [appD_now]
  rw [if_neg (by simp [appD]), if_neg (by simp [appD]), if_neg (by simp), if_neg]
  show ¬ (0 = 0 ∧ room - ((exAt [cat l] (0 : Int).toNat).size : Int) < _)
  show ¬ (0 = 0 ∧ room - ((cat l).size : Int) < _)
  omega
theorem appD_act {room : Int} {l : List ByteArray} {ch : Int} {laid : Bool} {a k t : Int} {s : ByteArray} (h : ((cat l).size : Int) + s.size ≤ room) (h2 : laid = true → 0 < a) :
    (appD room l ch laid a k t).act 0 0 0 s = (appD room (l ++ [s]) (ch + 1) laid (if laid = true then a - 1 else a) k t, 0) := by
  unfold Disk.act
  rw [if_pos (appD_free h)]
  unfold Disk.puts
  rw [if_neg (fun e => by have := h2 e.1; have := e.2; simp [appD] at this; omega)]
  cases laid <;> simp [appD, appC]
theorem appD_strike {room : Int} {l : List ByteArray} {ch : Int} {a k t : Int} {s : ByteArray} (h : ((cat l).size : Int) + s.size ≤ room) (h2 : a ≤ 0) :
    (appD room l ch true a k t).act 0 0 0 s = ((appD room (l ++ [s]) ch false a k t).fail k t, 9) := by
  unfold Disk.act
  rw [if_pos (appD_free h)]
  unfold Disk.puts
  rw [if_pos ⟨rfl, h2⟩]
  simp [appD, appC]
theorem appD_fail (room : Int) (l : List ByteArray) (ch : Int) (laid : Bool) (a k t keep torn : Int) :
    (appD room l ch laid a k t).fail keep torn = ⟨room, [cat (l.take (keepOf l.length keep)) ++ tornT torn l[keepOf l.length keep]?], [], ch, 1, true, laid, a, k, t⟩ := by
  unfold Disk.fail
  rw [if_neg (by simp [appD])]
  show Disk.mk room (madeAll [⟨#[]⟩] (kept (l.map appC) keep torn)) [] ch _ true laid a k t = _
  rw [madeAll_kept]; rfl
theorem pre_left (a : ByteArray) {b c : ByteArray} (h : Pre b c) : Pre (a ++ b) (a ++ c) := by
  unfold Pre at h ⊢
  simp only [ByteArray.data_append, Array.toList_append]
  exact (List.prefix_append_right_inj _).2 h
theorem tornT_pre (torn : Int) (l : List ByteArray) (k : Nat) : Pre (tornT torn l[k]?) (cat (l.drop k)) := by
  cases hc : l[k]? with
  | none => exact Pre.nil _
  | some t =>
    have hk := (List.getElem?_eq_some_iff.1 hc)
    have e : cat (l.drop k) = t ++ cat (l.drop (k + 1)) := by
      rw [List.drop_eq_getElem_cons hk.1, hk.2, show t :: l.drop (k + 1) = [t] ++ l.drop (k + 1) from rfl, cat_append]
      exact congrArg (· ++ _) (nil_cat t)
    rw [e]
    by_cases h : 0 < torn
    · rw [tornT, if_pos h]; exact (pre_extract _ _).trans (pre_append _ _)
    · rw [tornT, if_neg h]; exact Pre.nil _
/-- WHAT IS LEFT IS A BEGINNING OF ALL, no shorter than what is kept. -/
theorem left_pre (l : List ByteArray) (k : Nat) (torn : Int) : Pre (cat (l.take k) ++ tornT torn l[k]?) (cat l) := by
  have h : cat l = cat (l.take k) ++ cat (l.drop k) := by rw [← cat_append, List.take_append_drop]
  rw [h]
  exact pre_left _ (tornT_pre torn l k)
end Dk
end Go.Proofs.Ytefpfedpgedloaa
