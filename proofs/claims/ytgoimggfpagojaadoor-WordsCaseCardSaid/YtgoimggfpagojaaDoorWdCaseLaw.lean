/- PROVED HERE: for every two texts the law WordsCase returns true (a word and the same in great letters have one tag; what stands between words does not matter), and all read afterwards as they did. Its conditions: the two package-level tables of the digest hold what their initialisers lay (tied to the program's text by the card). -/
import Derived.Test.YtgoimggfpagojaaDoorWdAwake
import Derived.Test.YtgoimggfpagojaaDoorLaid
namespace Go.Proofs.YtgoimggfpagojaaDoor
open Go.RowKit

def up1 (c : UInt8) : UInt8 := if 97 ≤ c then c - 32 else c
def up (x : ByteArray) : List UInt8 := x.data.toList.map up1
theorem up_length (x : ByteArray) : (up x).length = x.size := List.length_map _
theorem let1_up1 (c : UInt8) (h : Wd.let1 c = c) (h0 : c ≠ 0) : Wd.let1 (up1 c) = c := by
  have h2 : ∀ c : Fin 256, Wd.let1 (UInt8.ofNat c.1) = UInt8.ofNat c.1 → UInt8.ofNat c.1 ≠ 0 → Wd.let1 (up1 (UInt8.ofNat c.1)) = UInt8.ofNat c.1 := by decide +kernel
  have := h2 ⟨c.toNat, c.toNat_lt⟩
  simp only [UInt8.ofNat_toNat] at this
  exact this h h0
theorem norm_up {x : ByteArray} (h : Wd.IsW x) : Wd.norm (up x) = .ok x.data.toList := by
  obtain ⟨he, h1, h2, h3⟩ := Wd.norm_ok h
  have hc : ∀ c ∈ x.data.toList, Wd.let1 c = c := fun c hc => (List.map_eq_map_iff.1 (he.symm.trans (List.map_id _).symm)) c hc
  have hz : ∀ c ∈ x.data.toList, Wd.let1 (up1 c) = c := fun c hm => let1_up1 c (hc c hm) (fun e => h3 c hm ((hc c hm).trans e))
  have e : (up x).map Wd.let1 = x.data.toList := by
    unfold up
    rw [List.map_map]
    conv => rhs; rw [← List.map_id x.data.toList]
    exact List.map_congr_left fun c hm => hz c hm
  have hn := Wd.norm_of (p := up x) (by unfold up; simpa using h1) (by rw [up_length]; exact h2) (fun c hm => by
    obtain ⟨y, hy, rfl⟩ := List.mem_map.1 hm
    rw [hz y hy]
    exact fun e => h3 y hy ((hc y hy).trans e))
  rw [e] at hn
  exact hn
def upJoined (l : List ByteArray) (g : List UInt8) : List UInt8 := l.flatMap fun x => up x ++ g
theorem upJoined_snoc (l : List ByteArray) (x : ByteArray) (g : List UInt8) : upJoined (l ++ [x]) g = upJoined l g ++ (up x ++ g) := by
  unfold upJoined; rw [List.flatMap_append]; simp
theorem upJoined_len {l : List ByteArray} {g : List UInt8} (h : ∀ x ∈ l, x.size ≤ 24) : (upJoined l g).length ≤ l.length * (24 + g.length) := by
  induction l with
  | nil => simp [upJoined]
  | cons a r ih =>
    have h1 := ih fun x hx => h x (List.mem_cons_of_mem _ hx)
    have h2 := h a List.mem_cons_self
    show (List.flatMap _ (a :: r)).length ≤ _
    rw [List.flatMap_cons, List.length_append, List.length_append, List.length_cons, Nat.add_mul, up_length]
    have h3 : (List.flatMap (fun x => up x ++ g) r).length = (upJoined r g).length := rfl
    omega
theorem upJoined_words {l : List ByteArray} {g : List UInt8} (hr : Wd.Rises l) (hl : l.length ≤ 12) (hw : ∀ x ∈ l, Wd.IsW x) (hg : g ≠ []) (h0 : ∀ x ∈ g, Wd.let1 x = 0) : Wd.ofW (upJoined l g) = l := by
  have h := Wd.again (l.map fun x => (up x, x)) g [] hg h0 (fun x hx => by
    obtain ⟨y, hy, rfl⟩ := List.mem_map.1 hx
    exact norm_up (hw y hy))
  rw [List.flatMap_map, List.map_map] at h
  have h2 : (l.map ((fun x : List UInt8 × ByteArray => x.2) ∘ fun x => (up x, x))) = l := by
    conv => rhs; rw [← List.map_id l]
    rfl
  have h3 : Wd.allW (upJoined l g) = l := by
    show (Wd.cut [] (upJoined l g)).foldl Wd.addW [] = l
    exact Eq.trans h (by rw [h2]; exact Wd.foldl_put_self hr)
  unfold Wd.ofW
  rw [h3, List.take_of_length_le hl]
theorem isW_size {x : ByteArray} (h : Wd.IsW x) : x.size ≤ 24 := by
  obtain ⟨-, -, h3, -⟩ := Wd.norm_ok h
  exact h3
theorem case_tags {Z x : ByteArray} (hZ : Z.size = 32) (h : Wd.IsW x) : tagV (tagE Z x) = .tuple #[.string (tagT Z x.data.toList), .int .i64 0] ∧ tagV (tagE Z (str (up x))) = .tuple #[.string (tagT Z x.data.toList), .int .i64 0] := by
  constructor
  · unfold tagE; rw [if_neg (by omega), h]; rfl
  · unfold tagE; rw [if_neg (by omega), show (str (up x)).data.toList = up x from rfl, norm_up h]; rfl
theorem one_piece {s : ByteArray} {k : Nat} (hk : k < s.size) : (s.extract k (k + 1)).data.toList = [s[k]] := by
  rw [piece_eq]
  have hk2 : k < s.data.toList.length := hk
  rw [List.drop_eq_getElem_cons hk2, show k + 1 - k = 1 by omega]
  rfl
theorem one_norm {d : UInt8} {e : Int} (h : Wd.norm [d] = .error e) : Wd.let1 d = 0 := by
  by_cases h0 : Wd.let1 d = 0
  · exact h0
  · rw [Wd.norm_of (by simp) (by simp) (by simpa using h0)] at h; cases h
theorem snoc_at' {l : List ByteArray} {k : Nat} (h : k < l.length) : l.take (k + 1) = l.take k ++ [l.getD k ByteArray.empty] := by
  rw [List.take_add_one, List.getD_eq_getElem?_getD, List.getElem?_eq_getElem h]; rfl
theorem up_snoc {x : ByteArray} {j : Nat} (h : j < x.size) : (up x).take (j + 1) = (up x).take j ++ [up1 x[j]] := by
  have h2 : j < x.data.toList.length := h
  have e : (up x)[j]? = some (up1 x[j]) := by
    unfold up
    rw [List.getElem?_map, List.getElem?_eq_getElem h2]; rfl
  rw [List.take_add_one, e]; rfl
theorem up1_big {c : UInt8} (h : 97 ≤ c.toNat) : IntKind.u8.wrap ((c.toNat : Int) - 32) = ((up1 c).toNat : Int) := by
  have hlt := c.toNat_lt
  have e : up1 c = c - 32 := if_pos (UInt8.le_iff_toNat_le.2 (show (97 : UInt8).toNat ≤ c.toNat from h))
  have e2 : (c - 32).toNat = c.toNat - 32 := by
    rw [UInt8.toNat_sub_of_le _ _ (UInt8.le_iff_toNat_le.2 (by show 32 ≤ c.toNat; omega))]; rfl
  rw [e, e2, IntKind.wrap_u8]; omega
theorem up1_small {c : UInt8} (h : ¬ (97 ≤ c.toNat)) : up1 c = c := if_neg (fun e => h (show (97 : UInt8).toNat ≤ c.toNat from UInt8.le_iff_toNat_le.1 e))
set_option maxRecDepth 100000 in
set_option maxHeartbeats 4000000 in
theorem wcase_law {w : World} (s : ByteArray) (_ : s.size ≤ maxLen) (bt : ByteArray) (_ : bt.size ≤ maxLen) (hG : Glob w) :
    Calls Tryd.prog 7 #[.string s, .string bt] w fun e w' => e = .returned (.bool true) ∧ Below w.heap.size w w' := by
  by_cases h1 : (500 : Int) < s.size
  · go_enter Tryd.func7, Tryd.ntmps7
    go_wp2_with fail
    refine (awake15_any _ hG).mono ?_
    rintro e w1 ⟨rfl, h1⟩
    go_wp2_with fail
    go_ret
    exact ⟨rfl, h1⟩
  by_cases h2 : (20 : Int) < bt.size
  · go_enter Tryd.func7, Tryd.ntmps7
    go_wp2_with fail
    refine (awake15_any _ hG).mono ?_
    rintro e w1 ⟨rfl, h1⟩
    go_wp2_with fail
    go_ret
    exact ⟨rfl, h1⟩
  obtain ⟨Z, hZ⟩ : ∃ Z, Z = str (List.replicate 32 0) := ⟨_, rfl⟩
  have hZs : Z.size = 32 := by rw [hZ]; exact zkey_size
  obtain ⟨w0, hmk, hown0, hb0⟩ := pmake_bytes w 32 (by decide)
  have hmk2 : (Instr.makeSlice 42 (.int .i64 32) (.int .i64 32)).run Tryd.prog w = .ok (.slice (some ⟨w.heap.size, 0, none⟩) 32 32) w0 := hmk
  clear hmk
  have hcv := hown0.conv
  rw [List.length_replicate, ← hZ] at hcv
  have hn := wof_any s (by omega) w0
  have hl12 : (Wd.ofW s.data.toList).length ≤ 12 := by unfold Wd.ofW; rw [List.length_take]; omega
  have hri := Wd.ofW_rises s.data.toList
  have hiw := Wd.ofW_words s.data.toList
  obtain ⟨L, hL⟩ : ∃ L, L = Wd.ofW s.data.toList := ⟨_, rfl⟩
  rw [← hL] at hn hri hiw hl12
  obtain ⟨n, hn2⟩ : ∃ n, n = L.length := ⟨_, rfl⟩
  rw [← hn2] at hn hl12
  have hb20 : bt.size ≤ 20 := by omega
  have H := Lib.hid (And.intro hn (And.intro hri (And.intro hiw (And.intro hn2 (And.intro hG (And.intro hZs hb0))))))
  clear hn hL hri hiw hn2 hG hZs hb0 hZ hown0
  go_enter Tryd.func7, Tryd.ntmps7
  go_wp2_with fail
  refine H.out.1.mono ?_
  rintro e w1 ⟨a1, c1, rfl, t1, k1⟩
  have K1 := Lib.hid (And.intro (wbelow_call H.out.2.2.2.2.2.2 k1) t1.texts)
  clear k1 t1 hmk2 hcv
  go_wp2_with fail
  go_loopw [7, 8, 9, 10] (fun g i _ _ wr => ∃ (k : Nat) (G : ByteArray), k ≤ bt.size ∧ i = .int .i64 (k : Int) ∧ g = .string G ∧ G.size ≤ k + 1 ∧ G.data.toList ≠ [] ∧ (∀ x ∈ G.data.toList, Wd.let1 x = 0) ∧ TextsAt wr a1 L ∧ Below w.heap.size w wr) (fun _ i _ _ _ => bt.size - (intOf i).toNat)
  case atStart => exact ⟨0, ⟨#[32]⟩, by omega, rfl, rfl, Nat.le_refl _, by simp, by decide, K1.out.2, K1.out.1⟩
  case round =>
    obtain ⟨k, G, hk, rfl, rfl, hGs, hGn, hG0, hT, hbe⟩ := hrel
    have hsz := hbe.size
    by_cases hlt : k < bt.size
    · have hop := one_piece hlt
      obtain ⟨p, hp⟩ : ∃ p, p = bt.extract k (k + 1) := ⟨_, rfl⟩
      rw [← hp] at hop
      have hps : p.size = 1 := by
        have h : p.data.toList.length = p.size := rfl
        rw [hop] at h; simpa using h.symm
      have hcall := fun W : World => rnorm_any p (by omega) W
      cases hno : Wd.norm p.data.toList with
      | error e =>
        have he0 := norm_ne hno
        have hd0 : ∀ x ∈ (G ++ p).data.toList, Wd.let1 x = 0 := fun x hx => by
          rw [ByteArray.data_append, Array.toList_append, hop] at hx
          rcases List.mem_append.1 hx with hx | hx
          · exact hG0 x hx
          · rw [List.mem_singleton.1 hx]
            exact one_norm (hop ▸ hno)
        have hne : (G ++ p).data.toList ≠ [] := by
          rw [ByteArray.data_append, Array.toList_append]; simp [hGn]
        have hss : (G ++ p).size ≤ k + 1 + 1 := by rw [ByteArray.size_append]; omega
        rw [nr_err hno] at hcall
        have HM := Lib.hid (And.intro hcall (And.intro hT (And.intro hbe (And.intro hd0 (And.intro hne hss)))))
        rw [hp] at HM
        clear hcall hT hbe hd0 hne hss hno hop hps hGn hG0 hp
        go_wp2_with fail
        refine (HM.out.1 _).mono ?_
        rintro e2 w2 ⟨rfl, hb2⟩
        have HN := Lib.hid (And.intro (HM.out.2.2.1.trans (hb2.mono hsz)) (HM.out.2.1.below hb2))
        clear hb2
        go_wp2_with fail
        go_roundw
        case rel => exact ⟨k + 1, _, by omega, by go_num, rfl, HM.out.2.2.2.2.2, HM.out.2.2.2.2.1, HM.out.2.2.2.1, HN.out.2, HN.out.1⟩
        case measure => simp [intOf]; omega
      | ok x =>
        rw [nr_ok hno] at hcall
        obtain ⟨X, hX⟩ : ∃ X, X = str x := ⟨_, rfl⟩
        rw [← hX] at hcall
        have HM := Lib.hid (And.intro hcall (And.intro hT (And.intro hbe (And.intro hGn hG0))))
        rw [hp] at HM
        clear hcall hT hbe hno hop hps hGn hG0 hp hX
        go_wp2_with fail
        refine (HM.out.1 _).mono ?_
        rintro e2 w2 ⟨rfl, hb2⟩
        have HN := Lib.hid (And.intro (HM.out.2.2.1.trans (hb2.mono hsz)) (HM.out.2.1.below hb2))
        clear hb2
        go_wp2_with fail
        go_roundw
        case rel => exact ⟨k + 1, G, by omega, by go_num, rfl, by omega, HM.out.2.2.2.1, HM.out.2.2.2.2, HN.out.2, HN.out.1⟩
        case measure => simp [intOf]; omega
    · obtain rfl : k = bt.size := by omega
      have HG := Lib.hid (And.intro hGn (And.intro hG0 (And.intro hT hbe)))
      clear hGn hG0 hT hbe
      go_wp2_with fail
      go_loopw [11, 12, 13, 14, 15, 16, 17, 18, 19] (fun t i _ _ _ _ _ _ _ wr => ∃ (k : Nat) (S : ByteArray), k ≤ n ∧ i = .int .i64 (k : Int) ∧ t = .string S ∧ S.data.toList = upJoined (L.take k) G.data.toList ∧ TextsAt wr a1 L ∧ Below w.heap.size w wr) (fun _ i _ _ _ _ _ _ _ _ => n - (intOf i).toNat)
      case atStart => exact ⟨0, ⟨#[]⟩, by omega, rfl, rfl, rfl, HG.out.2.2.1, HG.out.2.2.2⟩
      case round =>
        obtain ⟨k, S, hk, rfl, rfl, hS, hT, hbe⟩ := hrel
        obtain ⟨v2, hv2⟩ : ∃ v2, v2 = wr := ⟨_, rfl⟩
        subst hv2
        have hsz := hbe.size
        have hSl : S.size ≤ 1000 := by
          have h := upJoined_len (l := L.take k) (g := G.data.toList) (fun x hx => isW_size (H.out.2.2.1 x (List.mem_of_mem_take hx)))
          rw [← hS] at h
          have h2 : S.data.toList.length = S.size := rfl
          have h3 : (L.take k).length ≤ 12 := by rw [List.length_take]; omega
          have h5 : G.data.toList.length = G.size := rfl
          have h4 : (L.take k).length * (24 + G.data.toList.length) ≤ 12 * 46 := Nat.mul_le_mul h3 (by omega)
          omega
        by_cases hlt : k < n
        · have hkl : k < L.length := by have := H.out.2.2.2.1; omega
          obtain ⟨b, off, rfl, hbb, hc⟩ := hT k hkl
          have hxm : L.getD k ByteArray.empty ∈ L := by
            rw [List.getD_eq_getElem?_getD, List.getElem?_eq_getElem hkl]
            exact List.getElem_mem hkl
          have hsn := snoc_at' hkl
          obtain ⟨x, hx⟩ : ∃ x, x = L.getD k ByteArray.empty := ⟨_, rfl⟩
          rw [← hx] at hc hxm hsn
          have hW := H.out.2.2.1 x hxm
          have hxs := isW_size hW
          obtain ⟨hv1, hv2⟩ := case_tags H.out.2.2.2.2.2.1 hW
          have ht1 := fun (W : World) (hb : Below w.heap.size w W) => wtag_any Z x (by omega) W (H.out.2.2.2.2.1.below hb)
          have ht2 := fun (W : World) (hb : Below w.heap.size w W) => wtag_any Z (str (up x)) (by rw [str_size, up_length]; omega) W (H.out.2.2.2.2.1.below hb)
          rw [hv1] at ht1
          rw [hv2] at ht2
          obtain ⟨T, hT2⟩ : ∃ T, T = tagT Z x.data.toList := ⟨_, rfl⟩
          rw [← hT2] at ht1 ht2
          obtain ⟨U, hU⟩ : ∃ U, U = str (up x) := ⟨_, rfl⟩
          rw [← hU] at ht2
          have hUs : U.size ≤ 24 := by rw [hU, str_size, up_length]; omega
          have hXX : (T.toList == T.toList) = true := by simp
          have hS1 : ((S ++ U) ++ G).data.toList = upJoined (L.take (k + 1)) G.data.toList := by
            rw [hsn, upJoined_snoc, ← hS, ByteArray.data_append, Array.toList_append, ByteArray.data_append, Array.toList_append, List.append_assoc, hU]; rfl
          have HM := Lib.hid (And.intro ht1 (And.intro ht2 (And.intro hT (And.intro hbe (And.intro hS1 (And.intro hc hbb))))))
          have HU := Lib.hid hU
          clear ht1 ht2 hT hbe hS1 hT2 hU hv1 hv2 hW hxm hsn hS hx hc hbb
          have hcw : v2.cell? ⟨b, off + k, none⟩ = some (.string x) := HM.out.2.2.2.2.2.1
          go_wp2_with fail
          go_loopw [13, 14, 15] (fun v i _ wx => ∃ (j : Nat) (ad : Option Addr) (cap : Nat), j ≤ x.size ∧ i = .int .i64 (j : Int) ∧ v = .slice ad j cap ∧ OwnB v2.heap.size wx ad cap ((up x).take j) ∧ Below v2.heap.size v2 wx) (fun _ i _ _ => x.size - (intOf i).toNat)
          case atStart => exact ⟨0, none, 0, by omega, rfl, rfl, OwnB.nil _ _, Below.refl _ _⟩
          case round =>
            obtain ⟨j, ad, cap, hj, rfl, rfl, hown, hbw⟩ := hrel
            have hszw := hbw.size
            have hcx : wr.cell? ⟨b, off + k, none⟩ = some (.string x) := by rw [hbw.cell (p := ⟨b, off + k, none⟩) HM.out.2.2.2.2.2.2]; exact hcw
            clear hcw
            have hlj : ((up x).take j).length = j := by rw [List.length_take, up_length]; omega
            by_cases hjl : j < x.size
            · have hsn := up_snoc hjl
              by_cases h97 : 97 ≤ x[j].toNat
              · have h97i : (97 : Int) ≤ (x[j].toNat : Int) := by omega
                have gw := up1_big h97
                have HN := Lib.hid (And.intro hown (And.intro hbw (And.intro hlj hsn)))
                clear hown hbw hlj hsn h97
                go_wp2_with (at_builtin; (refine wpList_append_byte' (w0 := v2) rfl (.tmp 82) (.tmp 84) rfl (HN.out.1.alloc _) j HN.out.2.2.1 rfl _ 1 (up1 x[j]) rfl (cell_new _ _ _) (by omega) (by simp; omega) (HN.out.2.1.alloc hszw _) ?_; intro g1 cap1 w2 hown1 hb1; have H1 := Lib.hid (And.intro hown1 hb1); clear hown1 hb1))
                go_roundw
                case rel => exact ⟨j + 1, _, cap1, by omega, by go_num, rfl, by rw [HN.out.2.2.2]; exact H1.out.1, H1.out.2⟩
                case measure => simp [intOf]; omega
              · have h97i : ¬ ((97 : Int) ≤ (x[j].toNat : Int)) := by omega
                rw [up1_small h97] at hsn
                have HN := Lib.hid (And.intro hown (And.intro hbw (And.intro hlj hsn)))
                clear hown hbw hlj hsn h97
                go_wp2_with (at_builtin; (refine wpList_append_byte' (w0 := v2) rfl (.tmp 82) (.tmp 84) rfl (HN.out.1.alloc _) j HN.out.2.2.1 rfl _ 1 x[j] rfl (cell_new _ _ _) (by omega) (by simp; omega) (HN.out.2.1.alloc hszw _) ?_; intro g1 cap1 w2 hown1 hb1; have H1 := Lib.hid (And.intro hown1 hb1); clear hown1 hb1))
                go_roundw
                case rel => exact ⟨j + 1, _, cap1, by omega, by go_num, rfl, by rw [HN.out.2.2.2]; exact H1.out.1, H1.out.2⟩
                case measure => simp [intOf]; omega
            · obtain rfl : j = x.size := by omega
              rw [List.take_of_length_le (by rw [up_length]; exact Nat.le_refl _)] at hown
              have hbx := HM.out.2.2.2.1.trans (hbw.mono hsz)
              have hTx := HM.out.2.2.1.below hbw
              have HN := Lib.hid (And.intro hown (And.intro hbx hTx))
              clear hown hbw hlj hbx hTx
              go_wp2_with fail
              refine (HM.out.1 _ HN.out.2.1).mono ?_
              rintro e2 w2 ⟨rfl, hb2⟩
              have ho2 := HN.out.1.call hb2
              have hcv2 := ho2.conv
              rw [up_length, ← HU.out] at hcv2
              have hT2 := HN.out.2.2.below hb2
              have HP := Lib.hid (And.intro ho2 (And.intro (wbelow_call HN.out.2.1 hb2) hT2))
              clear ho2 hb2 hT2
              go_wp2_with fail
              refine (HM.out.2.1 _ HP.out.2.1).mono ?_
              rintro e2 w3 ⟨rfl, hb3⟩
              have hcv3 := (HP.out.1.call hb3).conv
              rw [up_length, ← HU.out] at hcv3
              have HQ := Lib.hid (And.intro (wbelow_call HP.out.2.1 hb3) (HP.out.2.2.below hb3))
              clear hb3 hcv2
              go_wp2_with fail
              go_roundw
              case rel => exact ⟨k + 1, (S ++ U) ++ G, by omega, by go_num, rfl, HM.out.2.2.2.2.1, HQ.out.2, HQ.out.1⟩
              case measure => simp [intOf]; omega
        · obtain rfl : k = n := by omega
          have hall : L.take k = L := List.take_of_length_le (by have := H.out.2.2.2.1; omega)
          rw [hall] at hS
          have hof := fun W : World => wof_any S (by omega) W
          rw [hS, upJoined_words H.out.2.1 (by have := H.out.2.2.2.1; omega) H.out.2.2.1 HG.out.1 HG.out.2.1, ← H.out.2.2.2.1] at hof
          have hsame := fun (W : World) (a b : Option Addr) (c c' : Nat) (h1 : TextsAt W a L) (h2 : TextsAt W b L) => rsame_any L a b c c' W h1 h2 (by have := H.out.2.2.2.1; omega)
          rw [← H.out.2.2.2.1] at hsame
          have HM := Lib.hid (And.intro hof (And.intro hT (And.intro hbe hsame)))
          clear hof hT hbe hsame hall hS
          go_wp2_with fail
          refine (awake15_any _ (H.out.2.2.2.2.1.below HM.out.2.2.1)).mono ?_
          rintro e2 w2 ⟨rfl, k2⟩
          have K2 := Lib.hid (And.intro (HM.out.2.2.1.trans (k2.mono hsz)) (HM.out.2.1.below k2))
          clear k2
          go_wp2_with fail
          refine (HM.out.1 _).mono ?_
          rintro e2 w3 ⟨a3, c3, rfl, t3, k3⟩
          have K3 := Lib.hid (And.intro (wbelow_call K2.out.1 k3) (And.intro (K2.out.2.below k3) t3.texts))
          clear k3 t3
          go_wp2_with fail
          refine (HM.out.2.2.2 _ a3 a1 c3 c1 K3.out.2.2 K3.out.2.1).mono ?_
          rintro e2 w4 ⟨rfl, k4⟩
          have K4 := Lib.hid (wbelow_call K3.out.1 k4)
          clear k4
          go_wp2_with fail
          go_ret
          exact ⟨rfl, K4.out⟩
end Go.Proofs.YtgoimggfpagojaaDoor

namespace Go.Proofs.YtgoimggfpagojaaDoor.wordsCaseLaw
open Go.ChangeShapes Go.WideShapes Go.ChangeAt Go.RowKit
open Go.ChangeMaps (open_string shut_string)

set_option maxRecDepth 100000 in
theorem contract (H : Type) (enc : TypeId × Value → H) (W : World) (base : Nat) (args : Array Value) (ds gs : List (DataW H)) (before : List MemPlace)
    (hval : ∀ (j : Nat) t v, Tryd.f7.params[j]? = some t → args[j]? = some v → Value.okWide Tryd.prog W .any base t v)
    (hW : DataW.Whole enc Tryd.prog Tryd.f7.params.toList Rows.wordsCaseSpec.vars false W args.toList ds gs before) (hL : laidMetH Tryd.prog Rows.wordsCaseRow.laid W) :
    Calls Tryd.prog 7 args W fun e W' => ∃ v, e = .returned v ∧ Rows.wordsCaseSpec.post enc Tryd.prog Tryd.f7 false true false false W args v W' := by
  have hW' := hW
  obtain ⟨p, q, hA0, hV, rfl, hfz, hnd⟩ := hW
  have hA : DataW.TrodAll enc Tryd.prog W 0 (fun _ => true) true Tryd.f7.params.toList args.toList ds p := hA0
  rw [Tryd.params7] at hA hval
  obtain ⟨v0, vs0, d0, ds0, p0, q0, hargs, rfl, rfl, h0, r0⟩ := trodAll_cons hA
  obtain ⟨v1, vs1, d1, ds1, p1, q1, rfl, rfl, rfl, h1, r1⟩ := trodAll_cons r0
  obtain ⟨rfl, rfl, rfl⟩ := trodAll_nil r1
  obtain rfl : args = #[v0, v1] := by cases args; simp_all
  obtain ⟨rfl, rfl⟩ := trodVars_none hV
  obtain ⟨s0, rfl, rfl, rfl, ws0⟩ := open_string Tryd.underlying9 (hval 0 9 v0 rfl rfl) h0
  obtain ⟨s1, rfl, rfl, rfl, ws1⟩ := open_string Tryd.underlying9 (hval 1 9 v1 rfl rfl) h1
  clear hA0
  simp only [List.append_nil] at hW'
  refine (wcase_law s0 (by simpa using ws0) s1 (by simpa using ws1) (w := W) (hG := glob_of_laid hL)).mono fun e W' ⟨he, hb⟩ => ?_
  subst he
  exact ⟨_, rfl, _, _, _, [], [], [], hW', trodAll_cons_mk (shut_bool Tryd.underlying4 _) trodAll_mk0, (trodAll_cons_mk (shut_string Tryd.underlying9 ws0) (trodAll_cons_mk (shut_string Tryd.underlying9 ws1) trodAll_mk0)), rfl, hb.frame _, fun h => by cases h⟩
theorem laid_met (os : Os) : laidMet Tryd.prog Rows.wordsCaseRow.laid ((laidWorld os).forCall (fun _ _ => 0) ⟨#[], #[.string ⟨#[]⟩, .string ⟨#[]⟩], []⟩).memory :=
  laidMet_of_run' 8 (by kernel_rfl) (by kernel_rfl)
theorem reads (os : Os) {H : Type} (enc : TypeId × Value → H) : ∃ places, DataW.whole enc Tryd.prog ((laidWorld os).forCall (fun _ _ => 0) ⟨#[], #[.string ⟨#[]⟩, .string ⟨#[]⟩], []⟩).memory Tryd.f7.params.toList Rows.wordsCaseSpec.vars false #[Value.string ⟨#[]⟩, .string ⟨#[]⟩].toList 8 = some ([.lit (.string []), .lit (.string [])], [], places) :=
  ⟨[], by kernel_rfl⟩
set_option maxRecDepth 100000 in
theorem lifted (os : Os) (started : os.Started) (H : Type) (enc : TypeId × Value → H) (F : Stop.Interp) :
    ReturnsInHanded {} Tryd.checked os 7 .any ((OpenSpec.ofChange Rows.wordsCaseSpec).preRow enc Tryd.prog Tryd.f7 Rows.wordsCaseRow.domain false Rows.wordsCaseRow.laid) (((OpenSpec.ofChange Rows.wordsCaseSpec).at F).post enc Tryd.prog Tryd.f7 false true false false) := by
  obtain ⟨places, hx⟩ := reads os enc
  refine returnsInHanded_of_row (C := Tryd.checked) (s := OpenSpec.ofChange Rows.wordsCaseSpec) own started (by kernel_rfl) Tryd.func7
    (witness_row_at (enc := enc) (C := Tryd.checked) false (laidWorld os) #[.string ⟨#[]⟩, .string ⟨#[]⟩] rfl (by kernel_rfl) (by kernel_rfl) (by kernel_rfl)
      (OpenSpec.preRow_of_cond 8 hx (by kernel_rfl) (fun k hk => by cases hk) (by kernel_rfl) (laid_met os))) ?_
  intro W base args ds gs before hval hW _ _ _ hL _ _
  exact contract H enc W base args ds gs before hval hW hL
theorem said : Rows.WordsCaseSaid :=
  OpenClaim.holds_of_cond 7 Tryd.f7 rfl rfl rfl rfl rfl rfl rfl ⟨rfl, rfl, rfl, rfl, rfl⟩ rfl rfl rfl rfl rfl (by kernel_rfl) Tryd.func7 (by kernel_rfl)
    (of_decide_eq_true (by kernel_rfl)) (by unfold Func.isWrapper; first | (rw [if_pos (by decide +kernel)]; kernel_rfl) | (rw [if_neg (by decide +kernel)]; exact ⟨rfl, rfl⟩))
    (fun os started H enc _ F => by rw [OpenClaim.pre_eq_preRow]; exact lifted os started H enc F)
theorem plain (f : FuncId) (fn : Func) (hf : Tryd.pinned.checked.prog.funcNamed "lockbox/lockboxlaw15.WordsCase" = some f) (hfn : Tryd.pinned.checked.prog.funcs[f]? = some fn) :
    false = Tryd.pinned.checked.prog.looks [] ∧ ∀ (j : Nat) t, fn.params[j]? = some t → Tryd.pinned.checked.prog.wantsStandIn t = false := by
  obtain rfl : f = 7 := Option.some.inj ((show Tryd.prog.funcNamed "lockbox/lockboxlaw15.WordsCase" = some 7 by kernel_rfl).symm.trans hf) |>.symm
  obtain rfl : fn = Tryd.f7 := (Option.some.inj (Tryd.func7.symm.trans hfn)).symm
  refine ⟨by kernel_rfl, fun j t ht => ?_⟩
  rw [Tryd.params7] at ht
  have hm : t ∈ [9, 9] := by simpa using Array.mem_of_getElem? ht
  have hall : ([9, 9].all fun u => !Tryd.prog.wantsStandIn u) = true := by kernel_rfl
  exact (show Tryd.prog.wantsStandIn t = false by simpa using List.all_eq_true.1 hall t hm)
end Go.Proofs.YtgoimggfpagojaaDoor.wordsCaseLaw

namespace Go.Proofs.YtgoimggfpagojaaDoor
/-- THE CARD. -/
theorem wordsCase_card : Rows.WordsCaseCardSaid :=
  Claim7.holds_tied_plain_at .later [] _ _ _ _ wordsCaseLaw.said (fun _ h => by cases h) (by kernel_rfl) (fun _ h => by cases h) wordsCase_row_tie rfl ⟨rfl, rfl⟩ (by kernel_rfl) rfl wordsCaseLaw.plain (by kernel_rfl)
end Go.Proofs.YtgoimggfpagojaaDoor
