/- segs: framed, put, lay, turn. -/
import Derived.Test.YtdmbombjkinboaaGreatYFree
import Derived.Test.YtdmbombjkinboaaGreatMC5
import Derived.Test.YtdmbombjkinboaaGreatMC6
import Derived.Deep.RegionWith
namespace Go.Proofs.YtdmbombjkinboaaGreat
open Go.RowKit
open Dk Sg Fr

set_option maxRecDepth 100000 in
theorem framed_any (T : Nat → Prop) (l : List It) (a : Option Addr) (cap : Nat) (w : World) (hL : Lies w T a l) (hA : It.InAll w T l) (hsz : It.szAll l ≤ 1000000)
    (hm : Cn.may (lstP (It.pureAll l)) 6 = true) (h0 : 1 ≤ (Cn.bytes (lstP (It.pureAll l))).length) (h1 : (Cn.bytes (lstP (It.pureAll l))).length ≤ 32768) :
    Calls Tryz.prog 65 #[.slice a l.length cap] w fun e w' => e = .returned (.string (str (frm (Cn.bytes (lstP (It.pureAll l)))))) ∧ Below w.heap.size w w' := by
  have hls := list_any T l a cap w hL hA hsz
  obtain ⟨N, hN⟩ : ∃ N, N = l.length := ⟨_, rfl⟩
  rw [← hN] at hls ⊢
  obtain ⟨B, hB⟩ : ∃ B, B = str (Cn.bytes (lstP (It.pureAll l))) := ⟨_, rfl⟩
  have hBs : B.size ≤ 32768 := by rw [hB, str_size]; exact h1
  have hmay : may B.data.toList := by rw [may_size, hB, str_size]; exact ⟨h0, h1⟩
  have hwr := fun W => wrap_any B (by omega) W
  rw [wrapE_ok hmay, wrapS_ok hmay] at hwr
  have hF : str (frm B.data.toList) = str (frm (Cn.bytes (lstP (It.pureAll l)))) := by rw [hB, str_data]
  have hE : ∀ x : It, x.pure = lstP (It.pureAll l) → c_encS x.pure = B ∧ encE x.pure = 0 := fun x hx => by
    rw [hx]
    unfold c_encS encE
    rw [if_pos ⟨hm, by omega⟩, if_pos hm, if_pos (by omega)]
    exact ⟨hB.symm, rfl⟩
  have H := Lib.hid (And.intro hls (And.intro hwr (And.intro hF hE)))
  clear hls hwr hF hE hL hA hsz hm h0 h1 hN hB hmay
  go_enter Tryz.func65, Tryz.ntmps65
  go_wp2_with fail
  refine H.out.1.mono ?_
  rintro e w2 ⟨x, rfl, hx, hin, hb2⟩
  obtain ⟨e1, e2⟩ := H.out.2.2.2 x hx
  have henc := encode_any _ x w2 hin
  rw [e1, e2] at henc
  have H2 := Lib.hid (And.intro henc hb2)
  clear henc hb2 hin e1 e2 hx
  obtain ⟨xk, xn, xs, xa, xc, xl⟩ := x
  simp only [It.val, It.cells, It.k, It.n, It.s, It.a, It.cap, It.l] at H2 ⊢
  go_wp2_with fail
  refine H2.out.1.mono ?_
  rintro e w3 ⟨rfl, hb3⟩
  have HB := Lib.hid (H2.out.2.trans (hb3.mono H2.out.2.size))
  clear hb3
  go_wp2_with fail
  refine (H.out.2.1 _).mono ?_
  rintro e w4 ⟨rfl, hb4⟩
  have HB4 := Lib.hid (HB.out.trans (hb4.mono HB.out.size))
  clear hb4
  go_wp2_with fail
  go_ret
  exact ⟨by rw [← H.out.2.2.1]; rfl, HB4.out⟩

set_option maxRecDepth 100000 in
theorem sput_any {w : World} {ρ : Nat → Nat} {s b n : Nat} {D : Disk} {S : Stor} {vs : Value} {ar : Option Addr} {cr : Nat} (h : DiskAt w ρ b D) (hs : Bud n D) (hn : n ≤ 99999999) (hd : Hd w s b S vs (.slice ar S.recs.length cr)) (h0 : ρ s = 0) (x : Nat) (t : ByteArray) :
    Calls Tryz.prog 68 #[.pointer (some ⟨s, 0, none⟩), .int .i64 (x : Int), .string t] w (Doing ρ s b vs (.slice ar S.recs.length cr) (putS D S x t) w) := by
  have hem := empty_any h (hs.small (by omega)) (x : Int)
  obtain ⟨q0, -⟩ := hd_cells hd
  have hs1 := hs.act (kind := 2) (by decide) (x : Int) 0 ⟨#[]⟩
  obtain ⟨R, hR⟩ : ∃ R, R = putS D S x t := ⟨_, rfl⟩
  rw [← hR]
  unfold putS at hR
  generalize D.act 2 (x : Int) 0 ⟨#[]⟩ = r1 at *
  obtain ⟨D1, e1⟩ := r1
  have H := Lib.hid (And.intro hem (And.intro hd (And.intro h0 (And.intro hs1 hR))))
  obtain ⟨vr, hvr⟩ : ∃ vr, vr = Value.slice ar S.recs.length cr := ⟨_, rfl⟩
  have HV := Lib.hid hvr
  rw [← hvr]
  clear hem hd h0 hs1 h hs hvr hR
  go_enter Tryz.func68, Tryz.ntmps68
  go_wp2_with fail
  refine H.out.1.mono ?_
  rintro e w1 ⟨rfl, ρ1, hD1, ht1⟩
  have hd1 := (TouchX.of (X := fun _ => False) ht1).hd H.out.2.1 H.out.2.2.1 (fun k => k)
  have h01 : ρ1 s = 0 := (ht1.old s (Hd.lt H.out.2.1)).trans H.out.2.2.1
  obtain ⟨q1, -⟩ := hd_cells hd1
  have H1 := Lib.hid (And.intro hD1 (And.intro ht1 (And.intro hd1 h01)))
  clear hD1 ht1 hd1 h01
  by_cases he1 : e1 = 0
  · subst he1
    have hap := append_any H1.out.1 (H.out.2.2.2.1.small (by omega)) (x : Int) t
    have hs2 : Bud (n + 1 + 1) (D1.act 0 (x : Int) 0 t).1 := H.out.2.2.2.1.act (kind := 0) (by decide) (x : Int) 0 t
    have hR2 := H.out.2.2.2.2.trans (andS_ok rfl)
    simp only at hR2
    generalize D1.act 0 (x : Int) 0 t = r2 at *
    obtain ⟨D2, e2⟩ := r2
    have H2 := Lib.hid (And.intro hap (And.intro hs2 hR2))
    clear hap hs2 hR2
    go_wp2_with fail
    refine H2.out.1.mono ?_
    rintro e w2 ⟨rfl, ρ2, hD2, ht2⟩
    have hd2 := (TouchX.of (X := fun _ => False) ht2).hd H1.out.2.2.1 H1.out.2.2.2 (fun k => k)
    have h02 : ρ2 s = 0 := (ht2.old s (Hd.lt H1.out.2.2.1)).trans H1.out.2.2.2
    have ht := (TouchX.of (X := (· = s)) H1.out.2.1).trans (TouchX.of ht2)
    have H3 := Lib.hid (And.intro hD2 (And.intro ht (And.intro hd2 h02)))
    clear hD2 ht2 hd2 h02 ht
    by_cases he2 : e2 = 0
    · subst he2
      have hsy := ssync_any H3.out.1 (H2.out.2.1.small (by omega)) H3.out.2.2.1 H3.out.2.2.2
      rw [← HV.out] at hsy
      have hR3 := H2.out.2.2.trans (andS_ok rfl)
      have H4 := Lib.hid (And.intro hsy hR3)
      clear hsy hR3
      go_wp2_with fail
      refine H4.out.1.mono ?_
      rintro e w3 ⟨rfl, ρ3, hD3, hd3, ht3⟩
      have H5 := Lib.hid (And.intro hD3 (And.intro hd3 ht3))
      clear hD3 hd3 ht3
      go_wp2_with fail
      go_ret
      rw [H4.out.2]
      exact ⟨rfl, ρ3, H5.out.1, H5.out.2.1, H3.out.2.1.trans H5.out.2.2⟩
    · have he2' : (e2 == 0) = false := by simpa using he2
      have HE := Lib.hid he2
      go_wp2_with fail
      go_ret
      rw [H2.out.2.2.trans (andS_no HE.out)]
      exact ⟨rfl, ρ2, H3.out.1, by rw [HV.out]; exact H3.out.2.2.1, H3.out.2.1⟩
  · have he1' : (e1 == 0) = false := by simpa using he1
    have HE := Lib.hid he1
    go_wp2_with fail
    go_ret
    rw [H.out.2.2.2.2.trans (andS_no HE.out)]
    exact ⟨rfl, ρ1, H1.out.1, by rw [HV.out]; exact H1.out.2.2.1, TouchX.of H1.out.2.1⟩
end Go.Proofs.YtdmbombjkinboaaGreat
