/- mac.Expand. -/
import Derived.Test.YtgoimggfpagojaaDoorMOne
import Derived.Test.YtgoimggfpagojaaDoorMC2
import Derived.Deep.LoopGhost
namespace Go.Proofs.YtgoimggfpagojaaDoor
open Go.RowKit

theorem Bu.allocE {B b : Nat} {l : List UInt8} {w : World} (h : Bu B b l w) (o : Obj) : Bu B b l (w.alloc o) := Lib.IsBuilderF.alloc h o
theorem Bu.call {B b : Nat} {l : List UInt8} {w w' : World} (h : Bu B b l w) (hb : Below w.heap.size w w') : Bu B b l w' := by
  have hg : w.grownBy w' none := ⟨hb.os, hb.tape, hb.output, hb.size, fun k hk _ => hb.block k hk⟩
  have key : ∀ p, Lib.BuilderAtF 130 5 B b p (Lib.byteCells l) w → Lib.BuilderAtF 130 5 B b p (Lib.byteCells l) w' := by
    rintro p ⟨h1, v, h2, h3, h4⟩
    refine ⟨h1, v, (hb.block _ (Array.getElem?_eq_some_iff.1 h2).1).trans h2, h3.kept hg ?_, h4⟩
    cases hv : v.ownBlock with
    | none => exact .inl rfl
    | some k => exact .inr (by simp)
  exact h.elim (fun x => .inl (key _ x)) (fun x => .inr (key _ x))
theorem Bu.ltE {B b : Nat} {l : List UInt8} {w : World} (h : Bu B b l w) : b < w.heap.size := by
  rcases h with h | h
  · exact h.lt
  · exact h.lt
theorem bu_freshE (w : World) : Bu w.heap.size w.heap.size [] (w.alloc (.cells #[.pointer none, .slice none 0 0] 130)) :=
  Lib.IsBuilderF.of (Lib.fresh_isBuilder _ _ w)

/-- t1, t2, .. -/
def expT (sec lab : List UInt8) : Nat → List UInt8
  | 0 => []
  | i + 1 => code sec (expT sec lab i ++ lab ++ [UInt8.ofNat (i + 1)])
/-- All of them up to the i-th. -/
def expAll (sec lab : List UInt8) : Nat → List UInt8
  | 0 => []
  | i + 1 => expAll sec lab i ++ expT sec lab (i + 1)
theorem expT_length (sec lab : List UInt8) (i : Nat) : (expT sec lab (i + 1)).length = 32 := code_length _ _
theorem expT_le (sec lab : List UInt8) : ∀ i, (expT sec lab i).length ≤ 32
  | 0 => Nat.zero_le _
  | i + 1 => by rw [expT_length]; decide
theorem expAll_length (sec lab : List UInt8) : ∀ i, (expAll sec lab i).length = 32 * i
  | 0 => rfl
  | i + 1 => by rw [expAll, List.length_append, expAll_length sec lab i, expT_length]; omega
/-- What is expanded to n bytes. -/
def expand (sec lab : List UInt8) (n : Nat) : List UInt8 := (expAll sec lab ((n + 31) / 32)).take n
theorem expand_length (sec lab : List UInt8) (n : Nat) : (expand sec lab n).length = n := by
  unfold expand; rw [List.length_take, expAll_length]; omega
/-- The answer of Expand, and its error. -/
def expS (sec lab : List UInt8) (n : Int) : ByteArray := if n < 0 ∨ 8160 < n then ⟨#[]⟩ else str (expand sec lab n.toNat)
def expE (n : Int) : Int := if n < 0 ∨ 8160 < n then 1 else 0
theorem ldK_hide (p : Value) : Instr.loadAt 88 p = ldRow 88 p := rfl
theorem ldK_eq (W : World) (g : Nat) (h : (rowOf W g).size = 146) : (ldRow 88 (.pointer (some ⟨g, 0, none⟩))).run Tryd.prog W = .ok (.agg (rowOf W g)) W := by
  obtain ⟨t, ht⟩ := rowOf_heap h
  have := run_loadVar_row (P := Tryd.prog) W g t 88 (rowOf W g) (0, 0) _ ht Tryd.underlying88 rfl (by rw [h]; kernel_rfl)
  simp only [ldRow, Instr.loadAt, Instr.sureAddr, Sem.run_bind, Sem.run_pure, Result.andThen_ok, this]
attribute [local go_sem ↓] ldK_hide
attribute [local go_sem] ldK_eq
theorem conv_one (c : UInt8) (W : World) : (convert 42 9 (.slice (some ⟨W.heap.size, 0, none⟩) 1 1)).run Tryd.prog (W.alloc (.cells #[.int .u8 (c.toNat : Int)] 5)) = .ok (.string ⟨#[c]⟩) (W.alloc (.cells #[.int .u8 (c.toNat : Int)] 5)) := by
  have h := run_convert_bytes_arg (P := Tryd.prog) (W.alloc (.cells #[.int .u8 (c.toNat : Int)] 5)) 42 5 Tryd.underlying42 Tryd.underlying5 W.heap.size 0 1 1 [(c.toNat : Int)] rfl (fun j hj => by
    obtain rfl : j = 0 := by omega
    rw [cell_of_row _ _ _ _ _ _ (heap_alloc_new _ _)]; rfl) 9 Tryd.underlying9
  rw [h, show strOfNums [(c.toNat : Int)] = ⟨#[c]⟩ from by simp [strOfNums]]
/-- Texts in a new row. -/
theorem str_extract (l : List UInt8) (n : Nat) : (str l).extract 0 n = str (l.take n) := by
  apply Go.WideShapes.bytes_inj
  rw [ByteArray.data_extract]
  simp [str]
theorem cat3 (a b c : ByteArray) : (catN [a, b, c] [a, b, c].length).data.toList = a.data.toList ++ b.data.toList ++ c.data.toList := by
  have e0 : catN [a, b, c] 0 = ⟨#[]⟩ := rfl
  have e : catN [a, b, c] [a, b, c].length = ((catN [a, b, c] 0 ++ a) ++ b) ++ c := rfl
  rw [e, data_append, data_append, data_append, e0]
  rfl
theorem cat3_size (a b c : ByteArray) : (catN [a, b, c] [a, b, c].length).size = a.size + b.size + c.size := by
  have h := congrArg List.length (cat3 a b c)
  simp at h ⊢
  omega
set_option maxRecDepth 100000 in
set_option maxHeartbeats 1000000 in
theorem expand_any (sec lab : ByteArray) (hs : sec.size < 1099511627000) (hl : lab.size < 1000000) (n : Int) (w : World) (hG : Glob w) :
    Calls Tryd.prog 98 #[.string sec, .string lab, .int .i64 n] w fun e w' => e = .returned (.tuple #[.string (expS sec.data.toList lab.data.toList n), .int .i64 (expE n)]) ∧ Below w.heap.size w w' := by
  by_cases h0 : n < 0
  · go_enter Tryd.func98, Tryd.ntmps98
    go_wp2_with fail
    go_ret2
    exact ⟨by rw [expS, expE, if_pos (.inl h0), if_pos (.inl h0)]; rfl, Below.refl _ _⟩
  by_cases h1 : 8160 < n
  · go_enter Tryd.func98, Tryd.ntmps98
    go_wp2_with fail
    go_ret2
    exact ⟨by rw [expS, expE, if_pos (.inr h1), if_pos (.inr h1)]; rfl, Below.refl _ _⟩
  obtain ⟨N, rfl⟩ : ∃ N : Nat, n = N := ⟨n.toNat, by omega⟩
  have hN : N ≤ 8160 := by omega
  rw [expS, expE, if_neg (by omega), if_neg (by omega)]
  have hz48 := z48
  go_enter Tryd.func98, Tryd.ntmps98
  go_wp2_with fail
  refine (under_any sec hs _ hG).mono ?_
  rintro e w1 ⟨c, rfl, hk, hb1⟩
  have hN1 : (w1.alloc (.cells zero146 88)).heap[w1.heap.size]? = some (.cells zero146 88 (0, 0)) := heap_alloc_new _ _
  have hcs := hk.size
  have HK := Lib.hid (And.intro hk (And.intro hb1 hcs))
  clear hk hb1 hcs
  go_wp2_with (first
    | (refine wpList_store_row rfl 88 _ _ rfl w1.heap.size rfl 88 zero146 c rfl hN1 (by rw [HK.out.2.2]; kernel_rfl) (by rw [HK.out.2.2]; exact zero146_size) HK.out.1.oneCell ?_))
  obtain ⟨g, hg⟩ : ∃ g, g = w1.heap.size := ⟨_, rfl⟩
  have hfacts : ∀ W2, W2 = (w1.alloc (.cells zero146 88)).setRow w1.heap.size c → Bu (g + 1) (g + 1) [] (W2.alloc (.cells #[.pointer none, .slice none 0 0] 130)) ∧ (W2.alloc (.cells #[.pointer none, .slice none 0 0] 130)).heap[g]? = some (.cells c 88 (0, 0)) ∧ Below w.heap.size w (W2.alloc (.cells #[.pointer none, .slice none 0 0] 130)) := by
    intro W2 h2
    have hz2 : W2.heap.size = g + 1 := by rw [h2, hg]; simp
    have hbu := bu_freshE W2
    rw [hz2] at hbu
    have hr2 : W2.heap[g]? = some (.cells c 88 (0, 0)) := by rw [h2, hg]; exact setRow_heap _ _ _ _ _ _ hN1
    have hbb : Below w.heap.size w W2 := by
      rw [h2]; exact below_setRow (HK.out.2.1.alloc HK.out.2.1.size _) _ _ HK.out.2.1.size
    exact ⟨hbu, by rw [Lib.alloc_old _ _ _ (by omega)]; exact hr2, hbb.alloc hbb.size _⟩
  obtain ⟨f1, f2, f3⟩ := hfacts _ rfl
  clear hfacts hN1
  rw [← hg] at f1 f2 f3 ⊢
  have hgw : w.heap.size ≤ g := by rw [hg]; exact HK.out.2.1.size
  have HF := Lib.hid (And.intro f1 (And.intro f2 f3))
  have HG := Lib.hid (And.intro hg hgw)
  clear f1 f2 f3 hg hgw hz48
  generalize World.alloc _ _ = w3 at *
  go_loopg [10, 11] 256 (fun gg last num wr => ∃ i : Nat, i + gg = 256 ∧ i ≤ 255 ∧ 32 * i < N + 32 ∧ last = .string (str (expT sec.data.toList lab.data.toList i)) ∧ num = .int .u8 (((i + 1) % 256 : Nat) : Int) ∧
      Bu (g + 1) (g + 1) (expAll sec.data.toList lab.data.toList i) wr ∧ wr.heap[g]? = some (.cells c 88 (0, 0)) ∧ Below w.heap.size w wr)
  case atStart => exact ⟨0, by omega, by omega, by omega, rfl, rfl, HF.out.1, HF.out.2.1, HF.out.2.2⟩
  case round =>
    clear HF
    obtain ⟨i, hgi, hi, hiN, rfl, rfl, hbu, hrow, hb⟩ := hrel
    obtain ⟨L, hL⟩ : ∃ L, L = expAll sec.data.toList lab.data.toList i := ⟨_, rfl⟩
    rw [← hL] at hbu
    have hLl : L.length = 32 * i := by rw [hL, expAll_length]
    have hBw : g + 1 ≤ wr.heap.size := by have := hbu.ltE; omega
    have H := Lib.hid (And.intro hbu (And.intro hrow (And.intro hb (And.intro hL hLl))))
    clear hbu hrow hb hL hLl
    by_cases hlt : 32 * i < N
    · obtain ⟨T, hT⟩ : ∃ T, T = str (expT sec.data.toList lab.data.toList i) := ⟨_, rfl⟩
      obtain ⟨ch, hch⟩ : ∃ ch, ch = UInt8.ofNat (i + 1) := ⟨_, rfl⟩
      have hchn : ch.toNat = i + 1 := by rw [hch, UInt8.toNat_ofNat']; omega
      have hnum : (((i + 1) % 256 : Nat) : Int) = (ch.toNat : Int) := by rw [hchn]; omega
      have hnext : ((ch.toNat : Int) + 1) % 256 = (((i + 1 + 1) % 256 : Nat) : Int) := by rw [hchn]; omega
      rw [hnum, ← hT]
      have hconv := conv_one ch
      have HT := Lib.hid (And.intro hT (And.intro hch (And.intro hchn hnext)))
      clear hT hch hchn hnum hnext
      have hl32 : ((L.length : Nat) : Int) = 32 * (i : Int) := by rw [H.out.2.2.2.2]; omega
      have HLL := Lib.hid hl32
      clear hl32
      go_wp2_with fail
      refine (len_any _ _ L _ H.out.1).mono ?_
      rintro e w4 ⟨rfl, rfl⟩
      rw [HLL.out]
      have ro := rowOf_eq H.out.2.1
      have rs := HK.out.2.2
      go_wp2_with fail
      have hTs : T.size ≤ 32 := by rw [HT.out.1, str_size]; exact expT_le _ _ _
      have hB5 : Below w.heap.size w ((wr.alloc (.cells #[.int .u8 (ch.toNat : Int)] 5)).alloc (.cells #[.string T, .string lab, .string ⟨#[ch]⟩] 9)) := (H.out.2.2.1.alloc H.out.2.2.1.size _).alloc (by have := H.out.2.2.1.size; simp; omega) _
      have ht5 := texts_new (wr.alloc (.cells #[.int .u8 (ch.toNat : Int)] 5)) [T, lab, ⟨#[ch]⟩] #[.string T, .string lab, .string ⟨#[ch]⟩] rfl
      have hkc := kcode_any c _ _ HK.out.1 [T, lab, ⟨#[ch]⟩] _ 3 _ (hG.below hB5) ht5 (show 3 ≤ maxLen by decide) (by rw [cat3_size, padX_length]; have : (ByteArray.mk #[ch]).size = 1 := rfl; omega) (by rw [padX_length]; decide)
      rw [cat3] at hkc
      have hres : sha (padX sec.data.toList 92 ++ sha (padX sec.data.toList 54 ++ (T.data.toList ++ lab.data.toList ++ (ByteArray.mk #[ch]).data.toList))) = expT sec.data.toList lab.data.toList (i + 1) := by
        rw [HT.out.1, HT.out.2.1]; rfl
      rw [hres] at hkc
      have hz5 : wr.heap.size + 1 = (wr.alloc (.cells #[.int .u8 (ch.toNat : Int)] 5)).heap.size := by simp
      rw [← hz5] at hkc
      obtain ⟨T2, hT2⟩ : ∃ T2, T2 = str (expT sec.data.toList lab.data.toList (i + 1)) := ⟨_, rfl⟩
      rw [← hT2] at hkc
      have hT2s : T2.size = 32 := by rw [hT2, str_size, expT_length]
      have H2 := Lib.hid (And.intro hB5 (And.intro hT2 hT2s))
      clear hB5 ht5 hres hz5 hT2 hT2s hTs ro rs hconv
      refine hkc.mono ?_
      rintro e w6 ⟨rfl, hb6⟩
      clear hkc
      have hbu6 : Bu (g + 1) (g + 1) L w6 := ((H.out.1.allocE _).allocE _).call hb6
      have hr6 : w6.heap[g]? = some (.cells c 88 (0, 0)) := by
        rw [hb6.block _ (by simp; omega), Lib.alloc_old _ _ _ (by simp; omega), Lib.alloc_old _ _ _ (by omega)]; exact H.out.2.1
      have hB6 := below_trans' H2.out.1 hb6 H2.out.1.size
      have hBw6 : g + 1 ≤ w6.heap.size := by have := hbu6.ltE; omega
      have H6 := Lib.hid (And.intro hbu6 (And.intro hr6 hB6))
      clear hb6 hbu6 hr6 hB6
      go_wp2_with fail
      refine (writeString_any _ _ L T2 _ H6.out.1 (by rw [H.out.2.2.2.2, H2.out.2.2]; omega) hBw6).mono ?_
      rintro e w7 ⟨rfl, hn7⟩
      have H7 := Lib.hid hn7
      clear hn7
      have hn := HT.out.2.2.2
      go_wp2_with fail
      go_roundg (gk - 1)
      case measure => omega
      case rel =>
        refine ⟨i + 1, by omega, by omega, by omega, by rw [H2.out.2.1], by rw [HT.out.2.2.2], ?_, ?_, ?_⟩
        · rw [show expAll sec.data.toList lab.data.toList (i + 1) = L ++ T2.data.toList by rw [expAll, ← H.out.2.2.2.1, H2.out.2.1, str_data]]
          exact H7.out.1
        · rw [H7.out.2.1.block _ (by omega)]; exact H6.out.2.1
        · exact H6.out.2.2.trans (H7.out.2.1.mono (by have := HG.out.2; omega))
    · have hl32 : ((L.length : Nat) : Int) = 32 * (i : Int) := by rw [H.out.2.2.2.2]; omega
      have HLL := Lib.hid hl32
      clear hl32
      go_wp2_with fail
      refine (len_any _ _ L _ H.out.1).mono ?_
      rintro e w4 ⟨rfl, rfl⟩
      rw [HLL.out]
      go_wp2_with fail
      refine (string_any _ _ L _ H.out.1 hBw).mono ?_
      rintro e w7 ⟨rfl, hn7⟩
      have H7 := Lib.hid hn7
      clear hn7
      have hsl : N ≤ (str L).size := by rw [str_size, H.out.2.2.2.2]; omega
      go_wp2_with fail
      go_ret2
      have hi2 : i = (N + 31) / 32 := by omega
      refine ⟨?_, H.out.2.2.1.trans (H7.out.2.1.mono (by have := HG.out.2; omega))⟩
      rw [expand, Int.toNat_natCast, ← hi2, ← H.out.2.2.2.1, ← str_extract]
      rfl
end Go.Proofs.YtgoimggfpagojaaDoor
