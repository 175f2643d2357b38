/-
  The walk of laws.FnExactMemGet.
-/
import Derived.Test.YthpeoeiaiabfcaaSzEnt
import Derived.Test.YthpeoeiaiabfcaaEqEnt
import Derived.Test.YthpeoeiaiabfcaaMemG
import Derived.Test.YthpeoeiaiabfcaaMemC
import Derived.Test.YthpeoeiaiabfcaaRowH
import Derived.Test.YthpeoeiaiabfcaaOpenEnt
namespace Go.Proofs.Ythpeoeiaiabfcaa
open Go.ChangeShapes Go.WideShapes Go.ChangeAt Go.RowKit

set_option maxHeartbeats 4000000 in
set_option maxRecDepth 40000 in
theorem law_MemGet (a0 : Option Addr) (cap0 : Nat) (L : List EntE) (b1 : ByteArray) (b2 : Int) (w : World) (hr : elEnt.Rd w w.heap.size a0 L) (hl : L.length ≤ maxLen) (hc : ∀ z ∈ L, cameEnt z) (_ : b1.size ≤ maxLen) (_ : (Lit.int .i64 b2).wf = true) :
    Calls Try.prog 6 #[.slice a0 L.length cap0, .string b1, .int .i64 b2] w (TruePost w) := by
  by_cases hbig : 1048576 < b1.size
  · have hd : decide ((1048576 : Int) < b1.size) = true := decide_eq_true (by omega)
    go_enter Try.func6, Try.ntmps6
    go_wp2_with fail
    go_ret
    exact ⟨rfl, Below.refl _ _⟩
  have hdb1 : decide ((1048576 : Int) < b1.size) = false := decide_eq_false (by omega)
  clear hbig
  have HR := hide hr
  have HC := hide hc
  have HL := hide hl
  clear hr hc
  have HSZ := hide (fun W (h1 : Below w.heap.size w W) => szEntS_any a0 cap0 L 1048576 W ((HR.out.below h1 (Nat.le_refl _)).mono h1.size) HL.out (cameEnt_sz HC.out) (by omega) (by omega))
  obtain ⟨n, hn⟩ : ∃ n, n = L.length := ⟨_, rfl⟩
  have HN := hide hn
  rw [← hn] at HSZ ⊢
  clear hn hl
  go_enter Try.func6, Try.ntmps6
  go_wp2_with fail
  refine (HSZ.out _ (Below.refl _ _)).mono ?_
  rintro e w1 ⟨y, rfl, hy0, hy1, hP, hb1⟩
  have HB1 := hide hb1
  have HP := hide hP
  clear hP hb1 HSZ
  by_cases hy : y < 0
  · go_wp2_with fail
    go_ret
    exact ⟨rfl, HB1.out⟩
  have HK := hide (show L.length ≤ 1048576 by have := (HP.out (by omega)).1; rw [HN.out] at this; exact this)
  obtain ⟨f0, f1, f2, f3, hf⟩ := partsEnt (getM L b1 b2)
  have HTO := hide (fun W (h1 : Below w.heap.size w W) => toEntS_any a0 cap0 L W ((HR.out.below h1 (Nat.le_refl _)).mono h1.size) HK.out)
  have HSP := hide (fun W b c (h : elEnt.Rd W W.heap.size b L) => sMemGet_any b c L b1 b2 W h (by have := HK.out; omega) f0 f1 f2 f3 hf)
  have HIM := hide (fun W b c (h : elEnt.Rd W W.heap.size b L) => iMemGet_any b c L b1 b2 W h (by have := HK.out; omega) f0 f1 f2 f3 hf)
  have HEQ := hide (fun W b1 b2 c1 c2 (h1 : elEnt.Rd W W.heap.size b1 L) (h2 : elEnt.Rd W W.heap.size b2 L) => eqEntS_same b1 b2 c1 c2 L W h1 h2 (by have := HK.out; omega))
  obtain ⟨Q, hQ⟩ : ∃ Q, Q = getB L b1 b2 := ⟨_, rfl⟩
  rw [← hQ] at HSP HIM
  rw [← HN.out] at HTO HSP HIM HEQ
  have hq : (Q != Q) = false := by cases Q <;> rfl
  clear hQ hf HR HC HL HP HK
  go_wp2_with fail
  refine (HTO.out _ HB1.out).mono ?_
  rintro e w2 ⟨rfl, hh2, hb2, hz2⟩
  have HH2 := hide hh2
  have HB2 := hide (HB1.out.trans (hb2.mono HB1.out.size))
  clear hh2 hb2 HB1 hy
  go_wp2_with fail
  refine (HSP.out _ _ _ HH2.out.rd).mono ?_
  rintro e w3 ⟨rfl, hb3⟩
  have HB3 := hide (HB2.out.trans (hb3.mono HB2.out.size))
  have HA3 := hide (HB3.out.alloc HB3.out.size (.cells #[.string f0, .int .i64 f1, .bool f2, .string f3] 26))
  have HX3 := hide (BoxV.new 26 w3 #[.string f0, .int .i64 f1, .bool f2, .string f3])
  clear hb3 HB2 HH2 HSP
  go_wp2_with fail
  refine (HTO.out _ HA3.out).mono ?_
  rintro e w4 ⟨rfl, hh4, hb4, hz4⟩
  rw [Go.Deep.nblk_alloc] at hh4 hz4
  have HH4 := hide hh4
  have HB4 := hide (HA3.out.trans (hb4.mono HA3.out.size))
  have HX4 := hide (HX3.out.below hb4 HX3.out.lt)
  clear hh4 hb4 HA3 HX3 HB3
  go_wp2_with fail
  refine (HIM.out _ _ _ HH4.out.rd).mono ?_
  rintro e w5 ⟨rfl, hb5⟩
  have HH5 := hide (HH4.out.below hb5 hz4)
  have HB5 := hide (HB4.out.trans (hb5.mono HB4.out.size))
  have HX5 := hide ((HX4.out.below hb5 HX4.out.lt).alloc (.cells #[.string f0, .int .i64 f1, .bool f2, .string f3] 26))
  have HY5 := hide (BoxV.new 26 w5 #[.string f0, .int .i64 f1, .bool f2, .string f3])
  have HA5 := hide (HB5.out.alloc HB5.out.size (.cells #[.string f0, .int .i64 f1, .bool f2, .string f3] 26))
  have hz5 := Nat.lt_of_lt_of_le hz4 hb5.size
  have HG5 := hide (HH5.out.below ((Below.refl w5.heap.size w5).alloc (Nat.le_refl _) (.cells #[.string f0, .int .i64 f1, .bool f2, .string f3] 26)) hz5)
  have hz6 : w3.heap.size + 1 < (w5.alloc (.cells #[.string f0, .int .i64 f1, .bool f2, .string f3] 26)).heap.size := by rw [Go.Deep.nblk_alloc w5]; omega
  clear hb5 HB4 HH4 HIM HX4
  obtain ⟨x0, x1, x2, x3⟩ := HX5.out.four'
  obtain ⟨y0, y1, y2, y3⟩ := HY5.out.four'
  go_wp2_with fail
  refine (eqEnt_same f0 f1 f2 f3 _).mono ?_
  rintro e w6 ⟨rfl, hb6⟩
  have HB6 := hide (HA5.out.trans (hb6.mono HA5.out.size))
  have HG6 := hide (HG5.out.below hb6 hz6)
  have hz7 := Nat.lt_of_lt_of_le hz6 hb6.size
  clear hb6 x0 x1 x2 x3 y0 y1 y2 y3
  go_wp2_with fail
  refine (HTO.out _ HB6.out).mono ?_
  rintro e w7 ⟨rfl, hh7, hb7, hz8⟩
  have HH7 := hide hh7
  have HG7 := hide (HG6.out.below hb7 hz7)
  have HB7 := hide (HB6.out.trans (hb7.mono HB6.out.size))
  clear hh7 hb7 HB6
  go_wp2_with fail
  refine (HEQ.out _ _ _ _ _ HG7.out.rd HH7.out.rd).mono ?_
  rintro e w8 ⟨rfl, hb8⟩
  have HB8 := hide (HB7.out.trans (hb8.mono HB7.out.size))
  clear hb8
  go_wp2_with fail
  go_ret
  exact ⟨rfl, HB8.out⟩
end Go.Proofs.Ythpeoeiaiabfcaa
