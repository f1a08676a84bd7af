/- chacha.check, Stream, Block, Turn. -/
import Derived.Test.YtgoimggfpagojaaDoorQBlock
import Derived.Test.YtgoimggfpagojaaDoorMB
namespace Go.Proofs.YtgoimggfpagojaaDoor
open Go.RowKit

/-- What is wrong with the arguments of a stream. -/
def askE (kl nl : Nat) (c : Int) : Int := if kl ≠ 32 ∨ nl ≠ 12 then 13 else if c < 0 ∨ 4294967295 < c then 1 else 0
def chkE (kl nl : Nat) (c n : Int) : Int :=
  if askE kl nl c ≠ 0 then askE kl nl c else if n < 0 then 1 else if 65536 < n ∨ (4294967295 - c + 1) * 64 < n then 2 else 0
theorem askE_key {kl nl : Nat} {c : Int} (h : kl ≠ 32 ∨ nl ≠ 12) : askE kl nl c = 13 := if_pos h
theorem askE_arg {kl nl : Nat} {c : Int} (h : kl = 32 ∧ nl = 12) (hc : c < 0 ∨ 4294967295 < c) : askE kl nl c = 1 := by
  unfold askE; rw [if_neg (by omega), if_pos hc]
theorem askE_ok {kl nl : Nat} {c : Int} (h : kl = 32 ∧ nl = 12) (hc : 0 ≤ c ∧ c ≤ 4294967295) : askE kl nl c = 0 := by
  unfold askE; rw [if_neg (by omega), if_neg (by omega)]
theorem bne_nat {x : Nat} {i : Int} (h : (x : Int) ≠ i) : ((x : Int) != i) = true := by simpa using h
set_option maxHeartbeats 400000 in
theorem qcheck_any (key nonce : ByteArray) (c n : Int) (w : World) :
    Calls Tryd.prog 119 #[.string key, .string nonce, .int .i64 c, .int .i64 n] w fun e w' => e = .returned (.int .i64 (chkE key.size nonce.size c n)) ∧ w = w' := by
  by_cases hk : (key.size : Int) = 32
  · by_cases hn : (nonce.size : Int) = 12
    · have hkn : key.size = 32 ∧ nonce.size = 12 := by omega
      by_cases h1 : c < 0
      · have he : chkE key.size nonce.size c n = 1 := by unfold chkE; rw [askE_arg hkn (.inl h1)]; rfl
        rw [he]
        clear he hkn
        go_enter Tryd.func119, Tryd.ntmps119
        go_wp2_with fail
        go_ret
        exact ⟨rfl, rfl⟩
      by_cases h2 : 4294967295 < c
      · have he : chkE key.size nonce.size c n = 1 := by unfold chkE; rw [askE_arg hkn (.inr h2)]; rfl
        rw [he]
        clear he hkn
        go_enter Tryd.func119, Tryd.ntmps119
        go_wp2_with fail
        go_ret
        exact ⟨rfl, rfl⟩
      have ha := askE_ok hkn (c := c) (by omega)
      by_cases h3 : n < 0
      · have he : chkE key.size nonce.size c n = 1 := by unfold chkE; rw [ha, if_neg (by omega), if_pos h3]
        rw [he]
        clear he hkn ha
        go_enter Tryd.func119, Tryd.ntmps119
        go_wp2_with fail
        go_ret
        exact ⟨rfl, rfl⟩
      by_cases h4 : 65536 < n
      · have he : chkE key.size nonce.size c n = 2 := by unfold chkE; rw [ha, if_neg (by omega), if_neg h3, if_pos (.inl h4)]
        rw [he]
        clear he hkn ha
        go_enter Tryd.func119, Tryd.ntmps119
        go_wp2_with fail
        go_ret
        exact ⟨rfl, rfl⟩
      by_cases h5 : (4294967295 - c + 1) * 64 < n
      · have he : chkE key.size nonce.size c n = 2 := by unfold chkE; rw [ha, if_neg (by omega), if_neg h3, if_pos (.inr h5)]
        rw [he]
        clear he hkn ha
        go_enter Tryd.func119, Tryd.ntmps119
        go_wp2_with fail
        go_ret
        exact ⟨rfl, rfl⟩
      · have he : chkE key.size nonce.size c n = 0 := by unfold chkE; rw [ha, if_neg (by omega), if_neg h3, if_neg (by omega)]
        rw [he]
        clear he hkn ha
        go_enter Tryd.func119, Tryd.ntmps119
        go_wp2_with fail
        go_ret
        exact ⟨rfl, rfl⟩
    · have he : chkE key.size nonce.size c n = 13 := by unfold chkE; rw [askE_key (.inr (by omega))]; rfl
      have hb := bne_nat hn
      rw [he]
      clear he
      go_enter Tryd.func119, Tryd.ntmps119
      go_wp2_with fail
      go_ret
      exact ⟨rfl, rfl⟩
  · have he : chkE key.size nonce.size c n = 13 := by unfold chkE; rw [askE_key (.inl (by omega))]; rfl
    have hb := bne_nat hk
    rw [he]
    clear he
    go_enter Tryd.func119, Tryd.ntmps119
    go_wp2_with fail
    go_ret
    exact ⟨rfl, rfl⟩

/-- The first j blocks from a counter on. -/
def streamL (T : ByteArray) (c : Nat) : Nat → List UInt8
  | 0 => []
  | j + 1 => streamL T c j ++ blockB (field T (BitVec.ofNat 32 (c + j)))
theorem blockB_length (f : List (BitVec 32)) : (blockB f).length = 64 := blockTo_length f 64
theorem streamL_length (T : ByteArray) (c : Nat) : ∀ j, (streamL T c j).length = 64 * j
  | 0 => rfl
  | j + 1 => by rw [streamL, List.length_append, streamL_length T c j, blockB_length]; omega
theorem streamL_take (T : ByteArray) (c : Nat) {m : Nat} : ∀ j, m ≤ 64 * j → (streamL T c (j + 1)).take m = (streamL T c j).take m := fun j h => by
  rw [streamL, List.take_append_of_le_length (by rw [streamL_length]; exact h)]
theorem streamL_more (T : ByteArray) (c : Nat) {m i : Nat} (h : m ≤ 64 * i) : ∀ j, i ≤ j → (streamL T c j).take m = (streamL T c i).take m
  | 0, hj => by obtain rfl : i = 0 := by omega
                rfl
  | j + 1, hj => by
    by_cases e : i = j + 1
    · rw [e]
    · rw [streamL_take T c j (by omega), streamL_more T c h j (by omega)]
/-- The first n bytes of a stream. -/
def strm (T : ByteArray) (c n : Nat) : List UInt8 := (streamL T c n).take n
theorem strm_of (T : ByteArray) (c n j : Nat) (h : n ≤ 64 * j) : (streamL T c j).take n = strm T c n := by
  unfold strm
  by_cases e : j ≤ n
  · exact (streamL_more T c h n e).symm
  · exact streamL_more T c (by omega) j (by omega)
theorem strm_length (T : ByteArray) (c n : Nat) : (strm T c n).length = n := by
  unfold strm; rw [List.length_take, streamL_length]; omega
theorem field_set (T : ByteArray) (c d : BitVec 32) : (field T c).set 12 d = field T d := by unfold field; rw [List.set_set]
theorem field_get (T : ByteArray) (c : BitVec 32) : (field T c).getD 12 0 = c := by
  unfold field
  rw [List.getD_eq_getElem?_getD, List.getElem?_set, if_pos rfl, if_pos (by rw [wordsTo_length]; decide)]; rfl
/-- The answer of Stream. -/
def strmS (key nonce : ByteArray) (c n : Int) : ByteArray := if chkE key.size nonce.size c n ≠ 0 then ⟨#[]⟩ else str (strm (textF key nonce) c.toNat n.toNat)
theorem chkE_ok {kl nl : Nat} {c n : Int} (h : chkE kl nl c n = 0) : kl = 32 ∧ nl = 12 ∧ 0 ≤ c ∧ c ≤ 4294967295 ∧ 0 ≤ n ∧ n ≤ 65536 ∧ n ≤ (4294967295 - c + 1) * 64 := by
  unfold chkE askE at h
  repeat' split at h
  all_goals first | omega | (exact absurd h (by decide)) | skip
  all_goals simp_all
  all_goals omega
theorem below_in {B : Nat} {A X Y : World} (h : Below A.heap.size A X) (k : Below B X Y) (hB : A.heap.size ≤ B) : Below A.heap.size A Y := h.trans (k.mono hB)
theorem RowA.below {t : TypeId} {B : Nat} {w w' : World} {g : Nat} {l : List (BitVec 32)} (h : RowA t w g l) (hb : Below B w w') (hg : g < B) : RowA t w' g l := (hb.block g hg).trans h
theorem below_call' {A B C : World} (h : Below A.heap.size A B) (k : Below B.heap.size B C) : Below A.heap.size A C := h.trans (k.mono h.size)
def lenOf : Value → Nat
  | .slice _ m _ => m
  | _ => 0
theorem ofNat_succ (n : Nat) : BitVec.ofNat 32 n + 1#32 = BitVec.ofNat 32 (n + 1) := by
  apply BitVec.eq_of_toNat_eq; simp
theorem V_one (x : BitVec 32) : (V x + 1) % 4294967296 = V (x + 1#32) := V_add x 1#32
theorem OwnB.other {B : Nat} {w : World} {a : Option Addr} {cap : Nat} {l : List UInt8} (h : OwnB B w a cap l) (ad : Addr) (v : Value) (hlt : ad.block < B) : OwnB B (w.setCell ad v) a cap l := by
  obtain ⟨h1, h2⟩ := h
  refine ⟨h1, ?_⟩
  rcases h2 with h2 | ⟨g, c, cur, e, hB, hg, h3⟩
  · exact .inl h2
  · exact .inr ⟨g, c, cur, e, hB, by rw [heap_setCell_other _ _ _ _ (by omega)]; exact hg, h3⟩
theorem OwnB.le_cap {B : Nat} {w : World} {g cap m : Nat} {l : List UInt8} (h : OwnB B w (some ⟨g, 0, none⟩) cap l) (hm : l.length = m) : m ≤ cap := by
  rcases h.2 with ⟨e, _⟩ | ⟨g', c, cur, e, hB, hg, hn, h3⟩
  · simp at e
  · injection e with e1 e2 e3
    omega
theorem ne_zero_bne {x : Int} (h : x ≠ 0) : (x != 0) = true := by simpa using h

attribute [local go_sem] V_add V_add'
set_option maxRecDepth 100000 in
set_option maxHeartbeats 1000000 in
theorem stream_any (key nonce : ByteArray) (c n : Int) (w : World) (hG : GlobQ w) :
    Calls Tryd.prog 97 #[.string key, .string nonce, .int .i64 c, .int .i64 n] w fun e w' => e = .returned (.tuple #[.string (strmS key nonce c n), .int .i64 (chkE key.size nonce.size c n)]) ∧ Below w.heap.size w w' := by
  have hck := qcheck_any key nonce c n
  by_cases he : chkE key.size nonce.size c n = 0
  · obtain ⟨hk, hn, h1, h2, h3, h4, h5⟩ := chkE_ok he
    have hs : strmS key nonce c n = str (strm (textF key nonce) c.toNat n.toNat) := by unfold strmS; rw [if_neg (fun h => h he)]
    obtain ⟨C, rfl⟩ : ∃ C : Nat, c = C := ⟨c.toNat, by omega⟩
    obtain ⟨N, rfl⟩ : ∃ N : Nat, n = N := ⟨n.toNat, by omega⟩
    rw [Int.toNat_natCast, Int.toNat_natCast] at hs
    rw [he] at hck ⊢
    obtain ⟨S, hS⟩ : ∃ S, S = strmS key nonce C N := ⟨_, rfl⟩
    rw [← hS]
    rw [← hS] at hs
    obtain ⟨T, hT⟩ : ∃ T, T = textF key nonce := ⟨_, rfl⟩
    rw [← hT] at hs
    obtain ⟨cw, hcw⟩ : ∃ cw, cw = BitVec.ofNat 32 C := ⟨_, rfl⟩
    have hcV : (C : Int) = V cw := by rw [hcw, V_num _ (by omega)]
    have hfo := fieldOf_any key nonce hk hn cw
    rw [← hT, ← hcV] at hfo
    obtain ⟨F, hF⟩ : ∃ F, F = field T cw := ⟨_, rfl⟩
    rw [← hF] at hfo
    have hFs : (wArr F).size = 16 := by rw [wArr_size, hF, field_length]
    have hz16 := z16
    have HS := Lib.hid (And.intro hck (And.intro hfo (And.intro hs (And.intro hG (And.intro hFs (And.intro hF hcw))))))
    clear hck hfo hs hG hFs hF hcw hcV hT hS he hk hn h5 h1 h2
    have hN : N ≤ 65536 := by omega
    clear h3 h4
    go_enter Tryd.func97, Tryd.ntmps97
    go_wp2_with fail
    refine (HS.out.1 _).mono ?_
    rintro e w' ⟨rfl, rfl⟩
    go_wp2_with fail
    refine (HS.out.2.1 _).mono ?_
    rintro e w1 ⟨rfl, hb1⟩
    have hN1 : (w1.alloc (.cells zeroF 140)).heap[w1.heap.size]? = some (.cells zeroF 140 (0, 0)) := heap_alloc_new _ _
    have hsz1 := hb1.size
    obtain ⟨w3, hw3⟩ : ∃ w3, w3 = (w1.alloc (.cells zeroF 140)).setRow w1.heap.size (wArr F) := ⟨_, rfl⟩
    have hr3 : RowA 140 w3 w1.heap.size F := by rw [hw3]; exact setRow_heap _ _ _ _ _ _ hN1
    have hb3 : Below w.heap.size w w3 := by rw [hw3]; exact below_setRow (hb1.alloc hsz1 _) _ _ hsz1
    have hz3 : w3.heap.size = w1.heap.size + 1 := by rw [hw3]; simp
    obtain ⟨w4, hmk, hown, hb4⟩ := make_room w3 (N + 64) (by omega)
    rw [hz3] at hmk hown
    rw [show ((N + 64 : Nat) : Int) = (N : Int) + 64 from by omega, hw3] at hmk
    have hI := Lib.hid (And.intro hown (And.intro (hr3.call hb4) (And.intro (below_call' hb3 hb4) (show w.heap.size ≤ w1.heap.size from hsz1))))
    have HN := Lib.hid (And.intro hN1 (show (wArr F).size = zeroF.size by rw [HS.out.2.2.2.2.1, zeroF_size]))
    clear hN1 hw3 hr3 hb3 hz3 hown hb4 hb1 hsz1
    go_wp2_with (refine wpList_store_row rfl 140 _ _ rfl w1.heap.size rfl 140 zeroF (wArr F) rfl HN.out.1 (by rw [HS.out.2.2.2.2.1]; kernel_rfl) HN.out.2.symm (wArr_oneCell F) ?_)
    clear hmk HN hz16
    generalize w1.heap.size = gf at *
    go_loopw [12, 13] (fun v _ wr => ∃ (j g cap m : Nat), m = 64 * j ∧ m < N + 64 ∧ v = .slice (some ⟨g, 0, none⟩) m cap ∧ OwnB (gf + 1) wr (some ⟨g, 0, none⟩) cap (streamL T C j) ∧ RowA 140 wr gf (field T (BitVec.ofNat 32 (C + j))) ∧ Below w.heap.size w wr)
      (fun v _ _ => N + 64 - lenOf v)
    case atStart => exact ⟨0, gf + 1, N + 64, 0, rfl, by omega, rfl, hI.out.1, by rw [Nat.add_zero, ← HS.out.2.2.2.2.2.2, ← HS.out.2.2.2.2.2.1]; exact hI.out.2.1, hI.out.2.2.1⟩
    case round =>
      obtain ⟨j, g, cap, m, hm, hmN, rfl, hown, hrow, hbw⟩ := hrel
      by_cases hlt : m < N
      · obtain ⟨cj, hcj⟩ : ∃ cj, cj = BitVec.ofNat 32 (C + j) := ⟨_, rfl⟩
        obtain ⟨Fj, hFj⟩ : ∃ Fj, Fj = field T cj := ⟨_, rfl⟩
        obtain ⟨bl, hbl⟩ : ∃ bl, bl = blockB Fj := ⟨_, rfl⟩
        rw [← hcj, ← hFj] at hrow
        have hFl : Fj.length = 16 := by rw [hFj, field_length]
        have hl64 : bl.length = 64 := by rw [hbl, blockB_length]
        have hnext : streamL T C (j + 1) = streamL T C j ++ bl := by rw [hbl, hFj, hcj]; rfl
        have hF12 : Fj.getD 12 0 = cj := by rw [hFj, field_get]
        have hFn : Fj.set 12 (cj + 1#32) = field T (BitVec.ofNat 32 (C + (j + 1))) := by rw [hFj, field_set, hcj, ofNat_succ]; rfl
        have hblk := fun W (hb : Below w.heap.size w W) => qblockOf_any Fj hFl W (HS.out.2.2.2.1.below hb)
        rw [← hbl] at hblk
        have hFs : (wArr Fj).size = 16 := by rw [wArr_size, hFl]
        have hlen : (streamL T C j).length = m := by rw [streamL_length, hm]
        have hm2 : m + 64 = 64 * (j + 1) := by omega
        have H := Lib.hid (And.intro hown (And.intro hrow (And.intro hbw (And.intro hl64 (And.intro hnext (And.intro hF12 (And.intro hFn (And.intro hblk (And.intro hFs (And.intro hlen hm2))))))))))
        have hz := z64
        clear hown hrow hbw hl64 hnext hF12 hFn hblk hFs hlen hm2 hm hFl hbl hFj hcj
        go_wp2_with (refine wpList_load_row rfl 140 _ rfl gf rfl 140 (wArr Fj) (0, 0) _ H.out.2.1 Tryd.underlying140 rfl (by rw [H.out.2.2.2.2.2.2.2.2.1]; kernel_rfl) ?_)
        refine (H.out.2.2.2.2.2.2.2.1 _ H.out.2.2.1).mono ?_
        rintro e W1 ⟨rfl, hb1⟩
        have hN1 : (W1.alloc (.cells qzero64 84)).heap[W1.heap.size]? = some (.cells qzero64 84 (0, 0)) := heap_alloc_new _ _
        obtain ⟨W2, hW2⟩ : ∃ W2, W2 = (W1.alloc (.cells qzero64 84)).setRow W1.heap.size (qbArr bl) := ⟨_, rfl⟩
        have hb2 : Below wr.heap.size wr W2 := by rw [hW2]; exact below_setRow (hb1.alloc hb1.size _) _ _ hb1.size
        have hr2 : W2.heap[W1.heap.size]? = some (.cells (qbArr bl) 84 (0, 0)) := by rw [hW2]; exact setRow_heap _ _ _ _ _ _ hN1
        have hgl := H.out.2.1.lt
        have hc2 : ∀ i, i < 64 → W2.cell? ⟨W1.heap.size, i, none⟩ = some (.int .u8 ((bl.getD i 0).toNat : Int)) := fun i hi => by
          rw [cell_of_row _ _ _ _ _ _ hr2, qbArr_get _ _ (by rw [H.out.2.2.2.1]; exact hi)]
        have hbs : (qbArr bl).size = 64 := by rw [qbArr_size, H.out.2.2.2.1]
        have hzs : qzero64.size = 64 := by rw [zero64_to Fj, qbArr_size, blockTo_length]
        rw [hW2] at hb2 hc2
        have H2 := Lib.hid (And.intro hN1 (And.intro hb2 (And.intro hc2 (And.intro hbs (And.intro hzs hgl)))))
        clear hb1 hN1 hb2 hr2 hW2 hc2 hbs hzs hgl
        go_wp2_with (first
          | (refine wpList_store_row rfl 84 _ _ rfl W1.heap.size rfl 84 qzero64 (qbArr bl) rfl H2.out.1 (by rw [H2.out.2.2.2.1]; kernel_rfl) (by rw [H2.out.2.2.2.1, H2.out.2.2.2.2.1]) (qbArr_oneCell bl) ?_)
          | (at_builtin; (refine wpList_append_bytes (w0 := wr) rfl (.tmp 35) (.tmp 36) rfl (H.out.1.call H2.out.2.1) m H.out.2.2.2.2.2.2.2.2.2.1 rfl W1.heap.size 64 64 bl rfl H.out.2.2.2.1 (by decide) H2.out.2.2.1 (by omega) (by have := H2.out.2.2.2.2.2; have := H2.out.2.1.size; omega) (H2.out.2.1.mono H2.out.2.2.2.2.2) ?_; intro g1 cap1 w5 hown5 hb5
                          have hr5 := H.out.2.1.below hb5 (Nat.lt_succ_self _)
                          have hc5 := hr5.cell 12 (by rw [show Fj.length = 16 from by have := H.out.2.2.2.2.2.2.2.2.1; rwa [wArr_size] at this]; decide)
                          have hf5 := hr5.frozen 12
                          rw [H.out.2.2.2.2.2.1] at hc5
                          have hp5 := hr5.put 12 (cj + 1#32)
                          have hone := V_one cj
                          have H5 := Lib.hid (And.intro hown5 (And.intro hb5 hp5))
                          clear hown5 hb5 hr5 hp5)))
        refine ⟨⟨j + 1, g1, cap1, m + 64, H.out.2.2.2.2.2.2.2.2.2.2, by omega, rfl, ?_, ?_, ?_⟩, by simp [lenOf]; omega⟩
        · rw [H.out.2.2.2.2.1]; exact H5.out.1.other _ _ (Nat.lt_succ_self _)
        · rw [← H.out.2.2.2.2.2.2.1]; exact H5.out.2.2
        · have hbb := (below_in H.out.2.2.1 H5.out.2.1 (by have := hI.out.2.2.2; omega)).setCell (p := ⟨gf, 12, none⟩) (show w.heap.size ≤ gf from hI.out.2.2.2) (.int .u32 (V (cj + 1#32)))
          exact hbb
      · have hcv := wp_conv_take hown N (by rw [streamL_length]; omega)
        rw [strm_of T C N j (by omega), ← HS.out.2.2.1] at hcv
        have hNm : (N : Int) ≤ m := by omega
        have hcapm : m ≤ cap := OwnB.le_cap hown (by rw [streamL_length, hm])
        have hNc : (N : Int) ≤ cap := by omega
        have HB := Lib.hid hbw
        clear hown hrow hbw hm
        go_wp2_with fail
        go_ret2
        exact ⟨rfl, HB.out⟩
  · have hs : strmS key nonce c n = ⟨#[]⟩ := by unfold strmS; rw [if_pos he]
    rw [hs]
    have hb := ne_zero_bne he
    generalize chkE key.size nonce.size c n = E at *
    have HC := Lib.hid hck
    clear hck hs he
    go_enter Tryd.func97, Tryd.ntmps97
    go_wp2_with fail
    refine (HC.out _).mono ?_
    rintro e w' ⟨rfl, rfl⟩
    go_wp2_with fail
    go_ret2
    exact ⟨rfl, Below.refl _ _⟩
end Go.Proofs.YtgoimggfpagojaaDoor
