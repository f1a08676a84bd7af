/- MX6, what is wanted of it. -/
import Derived.Test.YtdfkpjmljaanpaaGreatDoorZMX4
import Derived.Test.YtdfkpjmljaanpaaGreatDoorZMRef
import Derived.Test.YtdfkpjmljaanpaaGreatDoorZMW2
import Derived.Test.YtdfkpjmljaanpaaGreatDoorZMX2
import Derived.Test.YtdfkpjmljaanpaaGreatDoorZIxTag
import Derived.Test.YtdfkpjmljaanpaaGreatDoorZU8
import Derived.Lib.Hide
import Derived.ProofKit
import Derived.OpenShut
import Derived.Deep.Slices
namespace Go.Proofs.YtdfkpjmljaanpaaGreatDoor
open Go.RowKit
open Cn
set_option maxRecDepth 100000 in
set_option maxHeartbeats 1000000 in
theorem lrows18_any (rs : List Rw) (a0 : Option Addr) (cap : Nat) (w : World) (hT : RwAt w a0 rs) (hm : rs.length ≤ 100000) :
    Calls Tryz.prog 27 #[.slice a0 rs.length cap] w fun e w' => ∃ a c, e = .returned (.slice a rs.length c) ∧ OwnR 47 3 rwCs w.heap.size w' a c rs ∧ Below w.heap.size w w' := by
  obtain ⟨n, hn⟩ : ∃ n, n = rs.length := ⟨_, rfl⟩
  have HT := Lib.hid (And.intro hT hn)
  rw [← hn] at hm ⊢
  clear hT hn
  go_enter Tryz.func27, Tryz.ntmps27
  go_wp2_with fail
  go_loopw [3, 4] (fun v c wr => ∃ (i : Nat) (a : Option Addr) (cp : Nat), i ≤ n ∧ v = .slice a i cp ∧ c = .int .i64 i ∧ OwnR 47 3 rwCs w.heap.size wr a cp (rs.take i) ∧ Below w.heap.size w wr) (fun _ c _ => n - (intOf c).toNat)
  case atStart => exact ⟨0, none, 0, by omega, rfl, rfl, OwnR.nil _ _ _ _ _, Below.refl _ _⟩
  case round =>
    obtain ⟨i, a, cp, hi, rfl, rfl, hO, hb⟩ := hrel
    by_cases hlt : i < n
    · obtain ⟨r, hr⟩ : ∃ r, rs[i]? = some r := ⟨rs[i]'(by have := HT.out.2; omega), List.getElem?_eq_getElem (by have := HT.out.2; omega)⟩
      obtain ⟨b, off, rfl, hbl, hc0, hc1, hc2⟩ := (HT.out.1.below hb) i r hr
      have hnx : rs.take (i + 1) = rs.take i ++ [r] := by rw [List.take_add_one, hr]; rfl
      have hln : (rs.take i).length = i := by rw [List.length_take]; have := HT.out.2; omega
      obtain ⟨w3, hw3⟩ : ∃ w3, w3 = wr.alloc (.cells (rwCs r) 47) := ⟨_, rfl⟩
      have hb3 : Below wr.heap.size wr w3 := by rw [hw3]; exact (Below.refl _ _).alloc (Nat.le_refl _) _
      have hg3 : w3.heap[wr.heap.size]? = some (.cells (rwCs r) 47 (0, 0)) := by rw [hw3]; exact heap_alloc_new _ _
      have hb4 := hb.trans (hb3.mono hb.size)
      have HC := Lib.hid (And.intro (hO.call hb3) (And.intro hnx (And.intro hln (And.intro hb4 hg3))))
      clear hO hb hnx hln hb3 hg3 hb4 hr hbl
      obtain ⟨x, y, z⟩ := r
      simp only at hc0 hc1 hc2
      unfold rwCs at hw3
      simp only at hw3
      go_wp2_with (at_builtin; (rw [← hw3]; refine wpList_append_r rfl (.tmp 11) (.tmp 16) 26 rfl rrow_rec rwCs_one rwCs_size HC.out.1 _ HC.out.2.2.1 rfl _ 1 (⟨x, y, z⟩ : Rw) rfl HC.out.2.2.2.2 (by omega) HC.out.2.2.2.1.size HC.out.2.2.2.1 ?_; intro g1 cp1 w4 ho hb hgr hat; have HD := Lib.hid (And.intro ho hb); clear ho hb hgr hat))
      go_roundw
      case rel => exact ⟨i + 1, _, cp1, by omega, rfl, by go_num, by rw [HC.out.2.1]; exact HD.out.1, HD.out.2⟩
      case measure => simp [intOf]; omega
    · obtain rfl : i = n := by omega
      have H := Lib.hid (And.intro hO hb)
      clear hO hb
      go_wp2_with fail
      go_ret
      refine ⟨a, cp, rfl, ?_, H.out.2⟩
      have := H.out.1
      rwa [List.take_of_length_le (by have := HT.out.2; omega)] at this
/-- A tag of a number. -/
def tgP (c : UInt8) : ByteArray := str (code [116, 97, 103] [c])
theorem tgP_size (c : UInt8) : (tgP c).size = 32 := by unfold tgP; rw [str_size, code_length]
theorem iconv_one (c : UInt8) (W : World) : (convert 107 9 (.slice (some ⟨W.heap.size, 0, none⟩) 1 1)).run Tryz.prog (W.alloc (.cells #[.int .u8 (c.toNat : Int)] 5)) = .ok (.string ⟨#[c]⟩) (W.alloc (.cells #[.int .u8 (c.toNat : Int)] 5)) := by
  have h := run_convert_bytes_arg (P := Tryz.prog) (W.alloc (.cells #[.int .u8 (c.toNat : Int)] 5)) 107 5 Tryz.underlying107 Tryz.underlying5 W.heap.size 0 1 1 [(c.toNat : Int)] rfl (fun j hj => by
    obtain rfl : j = 0 := by omega
    rw [cell_of_row _ _ _ _ _ _ (heap_alloc_new _ _)]; rfl) 9 Tryz.underlying9
  rw [h, show strOfNums [(c.toNat : Int)] = ⟨#[c]⟩ from by simp [strOfNums]]
set_option maxRecDepth 100000 in
set_option maxHeartbeats 1000000 in
theorem ltag18_any (n : Int) (c : UInt8) (hc : n % 256 = (c.toNat : Int)) (w : World) : Calls Tryz.prog 14 #[.int .i64 n] w fun e w' => e = .returned (.string (tgP c)) ∧ Below w.heap.size w w' := by
  have hcv := iconv_one c w
  have hb1 : Below w.heap.size w (w.alloc (.cells #[.int .u8 (c.toNat : Int)] 5)) := (Below.refl _ _).alloc (Nat.le_refl _) _
  have hcd := fun W : World => rcode_any ⟨#[116, 97, 103]⟩ ⟨#[c]⟩ (by decide) (show 1 < 1099511625000 by decide) W
  obtain ⟨R, hR⟩ : ∃ R, R = tgP c := ⟨_, rfl⟩
  rw [show str (code (ByteArray.mk #[116, 97, 103]).data.toList (ByteArray.mk #[c]).data.toList) = R from by rw [hR]; rfl] at hcd
  rw [← hR]
  have hwr : IntKind.u8.wrap n = (c.toNat : Int) := by rw [← hc]; rfl
  have H := Lib.hid (And.intro hcd hb1)
  clear hcd hb1 hR hc
  go_enter Tryz.func14, Tryz.ntmps14
  go_wp2_with fail
  refine (H.out.1 _).mono ?_
  rintro e w3 ⟨rfl, hb3⟩
  have H3 := Lib.hid (H.out.2.trans (hb3.mono H.out.2.size))
  clear hb3
  go_wp2_with fail
  go_ret
  exact ⟨rfl, H3.out⟩
end Go.Proofs.YtdfkpjmljaanpaaGreatDoor
namespace Go.Proofs.YtdfkpjmljaanpaaGreatDoor
open Go.RowKit
open Cn
/-- The bytes of a slice: where they lie. -/
def U8At (w : World) (a0 : Option Addr) (l : List UInt8) : Prop :=
  ∀ j c, l[j]? = some c → ∃ b off, a0 = some ⟨b, off, none⟩ ∧ b < w.heap.size ∧ w.cell? ⟨b, off + j, none⟩ = some (.int .u8 (c.toNat : Int))
theorem U8At.below {w w' : World} {a0 : Option Addr} {l : List UInt8} (h : U8At w a0 l) (hb : Below w.heap.size w w') : U8At w' a0 l := fun j c hj => by
  obtain ⟨b, off, rfl, hbl, h1⟩ := h j c hj
  exact ⟨b, off, rfl, Nat.lt_of_lt_of_le hbl hb.size, by rw [hb.cell (p := ⟨b, _, none⟩) hbl]; exact h1⟩
/-- The tags of small numbers. -/
def tgsI (l : List UInt8) : List ByteArray := (l.take 8).foldl (fun o c => Wd.put o (tgP (c % 32))) []
theorem tgsI_succ {l : List UInt8} {i : Nat} {c : UInt8} (h : l[i]? = some c) : (l.take (i + 1)).foldl (fun o c => Wd.put o (tgP (c % 32))) [] = Wd.put ((l.take i).foldl (fun o c => Wd.put o (tgP (c % 32))) []) (tgP (c % 32)) := by
  rw [List.take_add_one, h, List.foldl_append]; rfl
theorem fold_len : ∀ (l : List UInt8) (o : List ByteArray), (l.foldl (fun o c => Wd.put o (tgP (c % 32))) o).length ≤ o.length + l.length
  | [], o => by simp
  | c :: l, o => by
    rw [List.foldl_cons]
    have h1 := fold_len l (Wd.put o (tgP (c % 32)))
    have h2 := Wd.put_length o (tgP (c % 32))
    rw [List.length_cons]; omega
theorem tgsI_len (l : List UInt8) : (tgsI l).length ≤ 8 := by
  unfold tgsI
  have h := fold_len (l.take 8) []
  rw [List.length_take] at h
  simp only [List.length_nil] at h
  omega
theorem fold_rises : ∀ (l : List UInt8) (o : List ByteArray), Wd.Rises o → (∀ t ∈ o, t.size = 32) → Wd.Rises (l.foldl (fun o c => Wd.put o (tgP (c % 32))) o) ∧ ∀ t ∈ l.foldl (fun o c => Wd.put o (tgP (c % 32))) o, t.size = 32
  | [], o, h, h2 => ⟨h, h2⟩
  | c :: l, o, h, h2 => by
    rw [List.foldl_cons]
    refine fold_rises l _ (Wd.put_rises h) fun t ht => ?_
    rcases (Wd.put_mem _ _ _).1 ht with e | e
    · rw [e]; exact tgP_size _
    · exact h2 t e
theorem tgsI_ok (l : List UInt8) : Wd.Rises (tgsI l) ∧ ∀ t ∈ tgsI l, t.size = 32 := fold_rises _ _ List.Pairwise.nil (fun t h => by simp at h)
set_option maxRecDepth 100000 in
set_option maxHeartbeats 1000000 in
theorem ltags18_any (l : List UInt8) (a0 : Option Addr) (cap : Nat) (w : World) (hT : U8At w a0 l) (hm : l.length ≤ 9223372036854775807) :
    Calls Tryz.prog 57 #[.slice a0 l.length cap] w fun e w' => ∃ a c, e = .returned (.slice a (tgsI l).length c) ∧ OwnT w.heap.size w' a c (tgsI l) ∧ Below w.heap.size w w' := by
  obtain ⟨n, hn⟩ : ∃ n, n = l.length := ⟨_, rfl⟩
  have HT := Lib.hid (And.intro hT hn)
  rw [← hn] at hm ⊢
  clear hT hn
  go_enter Tryz.func57, Tryz.ntmps57
  go_wp2_with fail
  go_loopw [3, 4] (fun v c wr => ∃ (i : Nat) (a : Option Addr) (cp : Nat) (o : List ByteArray), i ≤ n ∧ i ≤ 8 ∧ o = (l.take i).foldl (fun o c => Wd.put o (tgP (c % 32))) [] ∧ v = .slice a o.length cp ∧ c = .int .i64 i ∧ OwnT w.heap.size wr a cp o ∧ Below w.heap.size w wr) (fun _ c _ => n - (intOf c).toNat)
  case atStart => exact ⟨0, none, 0, [], by omega, by omega, by simp, rfl, rfl, OwnT.nil _ _, Below.refl _ _⟩
  case round =>
    obtain ⟨i, a, cp, o, hi, hi8, ho8, rfl, rfl, hO, hb⟩ := hrel
    by_cases hlt : i < n
    · by_cases h8 : i < 8
      · obtain ⟨c, hc⟩ : ∃ c, l[i]? = some c := ⟨l[i]'(by have := HT.out.2; omega), List.getElem?_eq_getElem (by have := HT.out.2; omega)⟩
        obtain ⟨b, off, rfl, hbl, hc0⟩ := (HT.out.1.below hb) i c hc
        obtain ⟨m, hm2⟩ : ∃ m : Nat, m = (c % 32).toNat := ⟨_, rfl⟩
        have hm3 : m = c.toNat % 32 := by rw [hm2]; rfl
        have dt : ((c.toNat : Int)).tmod 32 = (m : Int) := by rw [Int.tmod_eq_emod_of_nonneg (by omega)]; omega
        have hm32 : m < 32 := by omega
        have hc256 : (c.toNat : Int) < 256 := by have := c.toNat_lt; omega
        have htg := fun W => ltag18_any (m : Int) (c % 32) (by rw [← hm2]; omega) W
        have hol : o.length ≤ 8 := by rw [ho8]; have h := fold_len (l.take i) []; rw [List.length_take] at h; simp only [List.length_nil] at h; omega
        have hpt := fun (W : World) (hT : TextsAt W a o) => rput_any o (tgP (c % 32)) a cp (by omega) W hT
        have hnx := tgsI_succ hc
        rw [← ho8] at hnx
        obtain ⟨G, hG⟩ : ∃ G, G = tgP (c % 32) := ⟨_, rfl⟩
        rw [← hG] at htg hpt hnx
        have H := Lib.hid (And.intro hO (And.intro hb (And.intro htg (And.intro hpt hnx))))
        clear hO hb htg hpt hnx hc hm2 hm3 hG hbl ho8
        go_wp2_with fail
        refine (H.out.2.2.1 _).mono ?_
        rintro e w3 ⟨rfl, hb3⟩
        have H3 := Lib.hid (And.intro (H.out.2.1.trans (hb3.mono H.out.2.1.size)) (OwnT.texts (OwnT.call H.out.1 hb3)))
        clear hb3 hc0
        go_wp2_with fail
        refine (H.out.2.2.2.1 _ H3.out.2).mono ?_
        rintro e w4 ⟨ad, cq, rfl, ho4, hb4⟩
        have H4 := Lib.hid (And.intro (H3.out.1.trans (hb4.mono H3.out.1.size)) (ho4.mono H3.out.1.size))
        clear hb4 ho4
        go_wp2_with fail
        go_roundw
        case rel => exact ⟨i + 1, ad, cq, _, by omega, by omega, H.out.2.2.2.2.symm, rfl, by go_num, H4.out.2, H4.out.1⟩
        case measure => simp [intOf]; omega
      · obtain rfl : i = 8 := by omega
        have H := Lib.hid (And.intro hO (And.intro hb (show o = tgsI l from ho8)))
        clear hO hb ho8
        go_wp2_with fail
        go_ret
        exact ⟨a, cp, by rw [← H.out.2.2]; rfl, by rw [← H.out.2.2]; exact H.out.1, H.out.2.1⟩
    · obtain rfl : n = i := by omega
      have H := Lib.hid (And.intro hO (And.intro hb (show o = tgsI l by rw [ho8]; unfold tgsI; rw [List.take_of_length_le (by have := HT.out.2; omega), List.take_of_length_le (by have := HT.out.2; omega)])))
      clear hO hb ho8
      go_wp2_with fail
      go_ret
      exact ⟨a, cp, by rw [← H.out.2.2]; rfl, by rw [← H.out.2.2]; exact H.out.1, H.out.2.1⟩
end Go.Proofs.YtdfkpjmljaanpaaGreatDoor
namespace Go.Proofs.YtdfkpjmljaanpaaGreatDoor
open Go.RowKit
open Cn
namespace Ix
/-- A leaf more: how many numbers are left out, the bytes that stand for its tags. -/
def mdS (s : List Rw × Int) (a : UInt8 × List UInt8) : List Rw × Int := ((mrg (s.2 + (a.1.toNat % 3 : Nat)) s.1 (tgsI a.2)).1, s.2 + (a.1.toNat % 3 : Nat) + 1)
def mdI (l : List (UInt8 × List UInt8)) : List Rw × Int := l.foldl mdS ([], 0)
theorem mdI_succ {l : List (UInt8 × List UInt8)} {i : Nat} {a : UInt8 × List UInt8} (h : l[i]? = some a) : mdI (l.take (i + 1)) = mdS (mdI (l.take i)) a := by
  unfold mdI
  rw [List.take_add_one, h, List.foldl_append]; rfl
structure MdOk (k : Nat) (s : List Rw × Int) : Prop where
  good : Good s.2 s.1
  lo : 0 ≤ s.2
  hi : s.2 ≤ 3 * k
  few : s.1.length ≤ 8 * k
theorem MdOk.next {k : Nat} {s : List Rw × Int} (h : MdOk k s) (a : UInt8 × List UInt8) : MdOk (k + 1) (mdS s a) := by
  have h1 := h.lo
  have h2 := h.hi
  have h3 := h.few
  have h4 : a.1.toNat % 3 < 3 := Nat.mod_lt _ (by decide)
  have h5 := (mrg_len (s.2 + (a.1.toNat % 3 : Nat)) s.1 (tgsI a.2)).1
  have h6 := tgsI_len a.2
  unfold mdS
  refine ⟨?_, by simp only; omega, by simp only; omega, by simp only; omega⟩
  exact (h.good.mono (m := s.2 + (a.1.toNat % 3 : Nat)) (by omega)).more (by omega) (tgsI_ok a.2).1 (tgsI_ok a.2).2
theorem md_ok : ∀ (l : List (UInt8 × List UInt8)) (k : Nat) (s : List Rw × Int), MdOk k s → MdOk (k + l.length) (l.foldl mdS s)
  | [], k, s, h => h
  | a :: l, k, s, h => by
    rw [List.foldl_cons, List.length_cons, show k + (l.length + 1) = (k + 1) + l.length by omega]
    exact md_ok l (k + 1) _ (h.next a)
theorem mdI_ok (l : List (UInt8 × List UInt8)) : MdOk l.length (mdI l) := by
  have := md_ok l 0 ([], 0) ⟨Good.nil _, by simp, by simp, by simp⟩
  rwa [Nat.zero_add] at this
/-- A leaf that an index takes. -/
theorem addI_ok {rs : List Rw} {m n : Int} {ts : List ByteArray} (h : Good m rs) (hm : m ≤ n) (h0 : 0 ≤ n) (h1 : n ≤ 4095) (ht : Wd.Rises ts) (h32 : ∀ t ∈ ts, t.size = 32) (h12 : ts.length ≤ 12) (hl : rs.length ≤ 4000) :
    addI rs n ts = ((mrg n rs ts).1, (mrg n rs ts).2, 0) := by
  have h2 := (mrg_len n rs ts).1
  unfold addI
  rw [if_pos (adB_iff.2 ⟨⟨h0, h1, h12⟩, fun r hr => by have := (h.all r hr).2.2.2; omega, h32, ht⟩), if_neg (by omega)]
theorem MdOk.add {k : Nat} {s : List Rw × Int} (h : MdOk k s) (hk : k ≤ 100) (a : UInt8 × List UInt8) :
    addI s.1 (s.2 + (a.1.toNat % 3 : Nat)) (tgsI a.2) = ((mdS s a).1, (mrg (s.2 + (a.1.toNat % 3 : Nat)) s.1 (tgsI a.2)).2, 0) := by
  have h1 := h.lo
  have h2 := h.hi
  have h3 := h.few
  have h4 : a.1.toNat % 3 < 3 := Nat.mod_lt _ (by decide)
  have h6 := tgsI_len a.2
  exact addI_ok (h.good.mono (m := s.2 + (a.1.toNat % 3 : Nat)) (by omega)) (Int.le_refl _) (by omega) (by omega) (tgsI_ok a.2).1 (tgsI_ok a.2).2 (by omega) (by omega)
end Ix
theorem tgP_inj {c d : UInt8} (h : tgP c = tgP d) : code [116, 97, 103] [c] = code [116, 97, 103] [d] := by
  unfold tgP at h
  have := congrArg (fun s : ByteArray => s.data.toList) h
  simpa [str] using this
theorem tgP_12 : tgP 1 ≠ tgP 2 := fun e => by
  have h := tgP_inj e
  have h1 := tg_at1
  rw [h, tg_at2] at h1
  exact absurd h1 (by decide)
namespace Ix
end Ix
end Go.Proofs.YtdfkpjmljaanpaaGreatDoor
namespace Go.Proofs.YtdfkpjmljaanpaaGreatDoor
open Go.RowKit
open Cn
namespace Ix
theorem plc_some : ∀ {l : List Rw} {t : ByteArray} {r : Rw} (k : Nat), fnd l t = some r → ∃ j : Nat, plc l t k = ((k + j : Nat) : Int) ∧ l[j]? = some r
  | [], t, r, k, h => by simp [fnd] at h
  | x :: l, t, r, k, h => by
    rw [fnd] at h
    rw [plc]
    by_cases e : x.tag = t
    · rw [if_pos e] at h ⊢
      exact ⟨0, rfl, by rw [Option.some.inj h]; rfl⟩
    · rw [if_neg e] at h ⊢
      obtain ⟨j, h1, h2⟩ := plc_some (k + 1) h
      exact ⟨j + 1, by rw [h1]; congr 1; omega, by simpa using h2⟩
theorem plc_none : ∀ {l : List Rw} {t : ByteArray} (k : Nat), fnd l t = none → plc l t k = -1
  | [], t, k, _ => rfl
  | x :: l, t, k, h => by
    rw [fnd] at h
    rw [plc]
    by_cases e : x.tag = t
    · rw [if_pos e] at h; cases h
    · rw [if_neg e] at h ⊢
      exact plc_none (k + 1) h
theorem mrg_nils (n : Int) : ∀ ts : List ByteArray, mrg n [] ts = (ts.map fun t => ⟨t, 1, n⟩, ts.map fun t => ⟨t, 0⟩)
  | [] => by rw [mrg_nil]; rfl
  | t :: ts => by rw [mrg_new, mrg_nils n ts]; rfl
/-- The page's example: two tags, and then the second one again. -/
structure Page (L : List ByteArray) (t : ByteArray) : Prop where
  two : L.length = 2
  a0 : addI [] 0 L = (L.map (fun t => ⟨t, 1, 0⟩), L.map (fun t => ⟨t, 0⟩), 0)
  good : Good 1 (L.map (fun t => (⟨t, 1, 0⟩ : Rw)))
  a1 : ∃ B, addI (L.map (fun t => ⟨t, 1, 0⟩)) 1 [t] = (B, [⟨t, 1⟩], 0) ∧ fnd B t = some ⟨t, 2, 1⟩ ∧ Good 2 B ∧ B.length ≤ 3
theorem page {s t : ByteArray} (hs : s.size = 32) (ht : t.size = 32) (hne : s ≠ t) : Page (Wd.put [s] t) t := by
  obtain ⟨L, hL⟩ : ∃ L, L = Wd.put [s] t := ⟨_, rfl⟩
  have hr : Wd.Rises L := by rw [hL]; exact Wd.put_rises (List.pairwise_singleton _ _)
  have hm : ∀ x, x ∈ L ↔ x = t ∨ x = s := fun x => by rw [hL, Wd.put_mem, List.mem_singleton]
  have h32 : ∀ x ∈ L, x.size = 32 := fun x hx => by
    rcases (hm x).1 hx with e | e
    · rw [e]; exact ht
    · rw [e]; exact hs
  have h2 : L.length = 2 := by
    have h1 := Wd.put_length [s] t
    rw [← hL] at h1
    simp only [List.length_singleton] at h1
    match L, hm, h1 with
    | [], hm, _ => have := (hm t).2 (Or.inl rfl); simp at this
    | [x], hm, _ =>
      have k1 := (hm t).2 (Or.inl rfl)
      have k2 := (hm s).2 (Or.inr rfl)
      rw [List.mem_singleton] at k1 k2
      exact absurd (k2.trans k1.symm) hne
    | [_, _], _, _ => rfl
    | _ :: _ :: _ :: _, _, h1 => simp at h1
  have hG : Good 1 (L.map (fun t => (⟨t, 1, 0⟩ : Rw))) := by
    have := (Good.nil 0).more (by omega) hr h32
    rw [mrg_nils] at this
    exact this
  rw [← hL]
  have ha0 := addI_ok (rs := []) (m := 0) (n := 0) (ts := L) (Good.nil 0) (Int.le_refl _) (Int.le_refl _) (by omega) hr h32 (by omega) (by simp)
  rw [mrg_nils] at ha0
  refine ⟨h2, ha0, hG, (mrg 1 (L.map (fun t => (⟨t, 1, 0⟩ : Rw))) [t]).1, ?_, ?_, ?_, ?_⟩
  · have hf : fnd (L.map (fun t => (⟨t, 1, 0⟩ : Rw))) t = some ⟨t, 1, 0⟩ := fnd_of hG.rise (List.mem_map.2 ⟨t, (hm t).2 (Or.inl rfl), rfl⟩) rfl
    rw [addI_ok hG (Int.le_refl _) (by omega) (by omega) (List.pairwise_singleton _ _) (fun x hx => by rw [List.mem_singleton.1 hx]; exact ht) (by simp) (by rw [List.length_map]; omega)]
    rw [mrg_po 1 _ [t] hG.rise (List.pairwise_singleton _ _), List.map_cons, List.map_nil, hf]
    rfl
  · have hf : fnd (L.map (fun t => (⟨t, 1, 0⟩ : Rw))) t = some ⟨t, 1, 0⟩ := fnd_of hG.rise (List.mem_map.2 ⟨t, (hm t).2 (Or.inl rfl), rfl⟩) rfl
    rw [mrg_fnd 1 t _ [t] hG.rise (List.pairwise_singleton _ _), if_pos (inB_iff.2 (List.mem_singleton.2 rfl)), hf]
    rfl
  · exact hG.more (by omega) (List.pairwise_singleton _ _) (fun x hx => by rw [List.mem_singleton.1 hx]; exact ht)
  · have := (mrg_len 1 (L.map (fun t => (⟨t, 1, 0⟩ : Rw))) [t]).1
    rw [List.length_map, h2] at this
    simpa using this
end Ix
end Go.Proofs.YtdfkpjmljaanpaaGreatDoor
namespace Go.Proofs.YtdfkpjmljaanpaaGreatDoor
open Go.RowKit Go.ChangeShapes Go.WideShapes Go.ChangeAt
/-- A leaf with tags: how many numbers are left out, the bytes that stand for its tags. -/
structure Lad where
  skip : UInt8
  a : Option Addr
  l : List UInt8
  cap : Nat
def Lad.cs (x : Lad) : Array Value := #[.int .u8 (x.skip.toNat : Int), .slice x.a x.l.length x.cap]
structure Lad.Ok (x : Lad) (w : World) : Prop where
  bytes : U8At w x.a x.l
  len : x.l.length ≤ x.cap
  cap : x.cap ≤ maxLen
theorem Lad.Ok.below {x : Lad} {w w' : World} (h : x.Ok w) (hb : Below w.heap.size w w') : x.Ok w' := ⟨h.bytes.below hb, h.len, h.cap⟩
section
variable {H : Type} {enc : TypeId × Value → H} {W : World}
theorem cellsAdd : Tryz.prog.cellsOf 109 = 2 := by kernel_rfl
theorem cellsU8A : Tryz.prog.cellsOf 5 = 1 := by kernel_rfl
theorem cellsBsA : Tryz.prog.cellsOf 107 = 1 := by kernel_rfl
theorem u8s_list : ∀ (zs : List Int), (∀ n ∈ zs, (Lit.int .u8 n).wf = true) → ∃ l : List UInt8, zs = l.map fun c => (c.toNat : Int)
  | [], _ => ⟨[], rfl⟩
  | z :: zs, h => by
    obtain ⟨c, hc⟩ := u8_of (h z List.mem_cons_self)
    obtain ⟨l, hl⟩ := u8s_list zs (fun n hn => h n (List.mem_cons_of_mem _ hn))
    exact ⟨c :: l, by rw [List.map_cons, ← hl, hc]⟩
/-- The bytes of a slice that came in. -/
theorem u8s_of {a0 : Option Addr} {len cap : Nat} {d : DataW H} {p : List MemPlace} {fuel : Nat}
    (hf : DataW.trod enc Tryz.prog W 0 (fun _ => true) true fuel 107 [.slice a0 len cap] = some (d, p)) (hlt : ∀ x ∈ p, x.block < W.heap.size) :
    ∃ l : List UInt8, l.length = len ∧ len ≤ cap ∧ cap ≤ maxLen ∧ U8At W a0 l := by
  rcases open_ints Tryz.underlying107 Tryz.underlying5 cellsU8A hf with ⟨h0, -⟩ | ⟨a, len', cap', zs, h0, -, hlc, hcm, hz, hx, hcell, hwf⟩
  · simp at h0
    obtain ⟨rfl, rfl, rfl⟩ := h0
    exact ⟨[], rfl, by decide, by decide, fun j c hj => by simp at hj⟩
  · simp at h0
    obtain ⟨rfl, rfl, rfl⟩ := h0
    rw [if_pos rfl] at hz
    obtain ⟨l, hl⟩ := u8s_list zs hwf
    have hll : l.length = cap := by rw [← hz, hl, List.length_map]
    refine ⟨l.take len, by rw [List.length_take]; omega, hlc, hcm, fun j c hj => ?_⟩
    have hjl : j < len := by
      have := (List.getElem?_eq_some_iff.1 hj).1
      rw [List.length_take] at this; omega
    rw [List.getElem?_take, if_pos hjl] at hj
    have hg : zs.getD j 0 = (c.toNat : Int) := by
      rw [List.getD_eq_getElem?_getD, hl, List.getElem?_map, hj]; rfl
    have hc := hcell j (by omega)
    rw [hg] at hc
    obtain ⟨b, off, spot⟩ := a
    have hspot : spot = none := by
      have h1 := hcell 0 (by omega)
      simpa [Addr.add] using World.cell?_spot h1
    subst hspot
    have hadd : (⟨b, off, none⟩ : Addr).add j = ⟨b, off + j, none⟩ := by unfold Addr.add; split <;> simp_all
    rw [hadd] at hc
    simp only [Prod.mk.injEq] at hx
    refine ⟨b, off, rfl, hlt (.cell b (off + 0)) ?_, hc⟩
    rw [hx.2]
    exact MemPlace.mem_row.2 ⟨0, by omega, rfl⟩
set_option maxRecDepth 100000 in
theorem open_add {fuel : Nat} {cs : List Value} {d : DataW H} {p : List MemPlace}
    (h : DataW.trod enc Tryz.prog W 0 (fun _ => true) true fuel 109 cs = some (d, p)) (hlt : ∀ x ∈ p, x.block < W.heap.size) : ∃ x : Lad, cs = x.cs.toList ∧ x.Ok W := by
  obtain ⟨xs, m, hm, hx, hl, hlen, hf⟩ := DataW.trod_struct Tryz.underlying109 h
  rw [cellsAdd] at hl
  match cs, hl, xs, hlen with
  | [c0, c1], _, [y0, y1], _ =>
    have f0 : DataW.trod enc Tryz.prog W 0 (fun _ => true) true m 5 (([c0, c1].drop 0).take (Tryz.prog.cellsOf 5)) = some y0 := hf 0 _ rfl
    have f1 : DataW.trod enc Tryz.prog W 0 (fun _ => true) true m 107 (([c0, c1].drop 1).take (Tryz.prog.cellsOf 107)) = some y1 := hf 1 _ rfl
    rw [cellsU8A] at f0
    rw [cellsBsA] at f1
    obtain ⟨n0, e0, -, w0⟩ := DataW.trod_int Tryz.underlying5 (x := y0) f0
    obtain ⟨d1, p1⟩ := y1
    simp only [List.map_cons, List.map_nil, List.flatMap_cons, List.flatMap_nil, List.append_nil, Prod.mk.injEq] at hx
    have hp1 : ∀ x ∈ p1, x.block < W.heap.size := fun x hx1 => hlt x (by rw [hx.2]; exact List.mem_append_right _ hx1)
    have f1' : DataW.trod enc Tryz.prog W 0 (fun _ => true) true m 107 [c1] = some (d1, p1) := f1
    have hc1 : ∃ a1 len1 cap1, c1 = .slice a1 len1 cap1 := by
      rcases DataW.trod_slice Tryz.underlying107 f1' with ⟨h0, -⟩ | ⟨a, len, cap, elems, rest, n, _, h0, -⟩
      · simp at h0; exact ⟨none, 0, 0, h0⟩
      · simp at h0; exact ⟨_, _, _, h0⟩
    obtain ⟨a1, len1, cap1, rfl⟩ := hc1
    obtain ⟨l, k1, k2, k3, k4⟩ := u8s_of f1' hp1
    subst k1
    obtain ⟨c, rfl⟩ := u8_of w0
    simp at e0
    subst e0
    exact ⟨⟨c, a1, l, cap1⟩, rfl, k4, k2, k3⟩
/-- Leaves with tags in memory. -/
def LadsAt (w : World) (a0 : Option Addr) (l : List Lad) : Prop :=
  ∀ j x, l[j]? = some x → x.Ok w ∧ ∃ b off, a0 = some ⟨b, off, none⟩ ∧ b < w.heap.size ∧ w.cell? ⟨b, off + j * 2, none⟩ = some (.int .u8 (x.skip.toNat : Int)) ∧ w.cell? ⟨b, off + j * 2 + 1, none⟩ = some (.slice x.a x.l.length x.cap)
theorem LadsAt.below {w w' : World} {a0 : Option Addr} {l : List Lad} (h : LadsAt w a0 l) (hb : Below w.heap.size w w') : LadsAt w' a0 l := fun j x hj => by
  obtain ⟨h0, b, off, rfl, hbl, h1, h2⟩ := h j x hj
  exact ⟨h0.below hb, b, off, rfl, Nat.lt_of_lt_of_le hbl hb.size, by rw [hb.cell (p := ⟨b, _, none⟩) hbl]; exact h1, by rw [hb.cell (p := ⟨b, _, none⟩) hbl]; exact h2⟩
theorem lads_of_all {n : Nat} {Q : Nat → Lad → Prop} (h : ∀ i, i < n → ∃ x, Q i x) : ∃ l : List Lad, l.length = n ∧ ∀ i x, l[i]? = some x → Q i x := by
  induction n with
  | zero => exact ⟨[], rfl, fun i x hx => by simp at hx⟩
  | succ n ih =>
    obtain ⟨l, hl, hq⟩ := ih fun i hi => h i (by omega)
    obtain ⟨x, hx⟩ := h n (by omega)
    refine ⟨l ++ [x], by simp [hl], fun i y hy => ?_⟩
    rcases Nat.lt_or_ge i n with hi | hi
    · rw [List.getElem?_append_left (by omega)] at hy
      exact hq i y hy
    · rw [List.getElem?_append_right (by omega)] at hy
      have : i = n := by
        rcases Nat.lt_or_ge (i - l.length) 1 with hh | hh
        · omega
        · rw [List.getElem?_eq_none (by simpa using hh)] at hy; simp at hy
      subst this
      rw [hl, Nat.sub_self] at hy
      simp at hy
      subst hy
      exact hx
set_option maxRecDepth 100000 in
/-- The leaves with tags of a slice that came in. -/
theorem lads_of {a0 : Option Addr} {len cap : Nat} {d : DataW H} {p : List MemPlace} {fuel : Nat}
    (hf : DataW.trod enc Tryz.prog W 0 (fun _ => true) true fuel 22 [.slice a0 len cap] = some (d, p)) (hlt : ∀ x ∈ p, x.block < W.heap.size) :
    ∃ l : List Lad, l.length = len ∧ len ≤ maxLen ∧ LadsAt W a0 l := by
  rcases DataW.trod_slice Tryz.underlying22 hf with ⟨hc, hx3⟩ | ⟨a, len', cap', elems, rest, n', hn', hc, hx3, hb, hlc, hcm, hel, helem, -, -⟩
  · simp at hc
    obtain ⟨rfl, rfl, rfl⟩ := hc
    exact ⟨[], rfl, Nat.zero_le _, fun j x hx => by simp at hx⟩
  · simp at hc
    obtain ⟨rfl, rfl, rfl⟩ := hc
    simp only [Prod.mk.injEq] at hx3
    obtain ⟨rfl, rfl⟩ := hx3
    have hq : ∀ i, i < len → ∃ x : Lad, W.cells? 0 (a.add (i * 2)) 2 = some x.cs.toList ∧ x.Ok W := fun i hi => by
      have h1 := helem i hi
      have hi2 : i < elems.length := by omega
      rw [cellsAdd, List.getElem?_eq_getElem hi2, Option.bind_eq_some_iff] at h1
      obtain ⟨cs', h2, h3⟩ := h1
      obtain ⟨x, i1, i2⟩ := open_add (d := elems[i].1) (p := elems[i].2) h3 (fun z hz => hlt z (by
        refine List.mem_append_right _ (List.mem_flatMap.2 ⟨elems[i], List.mem_append_left _ (List.getElem_mem hi2), hz⟩)))
      exact ⟨x, by rw [h2, i1], i2⟩
    obtain ⟨l, hl1, hl2⟩ := lads_of_all hq
    refine ⟨l, hl1, by omega, fun j x hx => ?_⟩
    have hj : j < len := by rw [← hl1]; exact (List.getElem?_eq_some_iff.1 hx).1
    obtain ⟨b, off, spot⟩ := a
    have hcell : ∀ j x, l[j]? = some x → ∀ m, m < 2 → W.cell? ((⟨b, off, spot⟩ : Addr).add (j * 2) |>.add m) = x.cs.toList[m]? := fun j x hx m hm => by
      obtain ⟨-, -, h3⟩ := World.cells?_some (hl2 j x hx).1
      exact h3 m hm
    have hspot : spot = none := by
      have := hcell 0 (l[0]'(by omega)) (List.getElem?_eq_getElem (by omega)) 0 (by decide)
      simpa [Addr.add] using World.cell?_spot (this.trans (show _ = some (.int .u8 ((l[0]'(by omega)).skip.toNat : Int)) from rfl))
    subst hspot
    have hadd : ∀ (o x : Nat), (⟨b, o, none⟩ : Addr).add x = ⟨b, o + x, none⟩ := fun o x => by unfold Addr.add; split <;> simp_all
    refine ⟨(hl2 j x hx).2, b, off, rfl, hlt (.cell b (off + 0)) ?_, ?_, ?_⟩
    · rw [cellsAdd]
      simp only [List.mem_append]
      exact .inl (MemPlace.mem_row.2 ⟨0, by omega, rfl⟩)
    · have hc := hcell j x hx 0 (by decide)
      simp only [hadd, Nat.add_zero] at hc
      rw [hc]; rfl
    · have hc := hcell j x hx 1 (by decide)
      simp only [hadd] at hc
      rw [hc]; rfl
end
end Go.Proofs.YtdfkpjmljaanpaaGreatDoor
