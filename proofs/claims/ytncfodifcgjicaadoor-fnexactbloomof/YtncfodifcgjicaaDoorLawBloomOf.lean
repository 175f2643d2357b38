/-
  The walk of laws.FnExactBloomOf.
-/
import Derived.Test.YtncfodifcgjicaaDoorBlmU
import Derived.Test.YtncfodifcgjicaaDoorBlmL
import Derived.Test.YtncfodifcgjicaaDoorRowH
namespace Go.Proofs.YtncfodifcgjicaaDoor
open Go.ChangeShapes Go.WideShapes Go.ChangeAt Go.RowKit

set_option maxHeartbeats 1000000 in
theorem law_BloomOf (a : Option Addr) (cap : Nat) (L : List ByteArray) (x : Int) (w : World) (hr : elStr.Rd w w.heap.size a L) (hl : L.length ≤ maxLen) (hk : ∀ z ∈ L, z.size ≤ maxLen) (_hx : (Lit.int .i64 x).wf = true) (h0 : 0 < w.heap.size) (hT : Hid (CrcTabIn w)) :
    Calls Tryd.prog 4 #[.slice a L.length cap, .int .i64 x] w (TruePost w) := by
  have HR := hide hr
  have HSZ := hide (szStr_any a cap L 1048576 w hr hl hk (by omega) (by omega))
  have HTO := hide (fun W (h : Below w.heap.size w W) (h2 : L.length ≤ 1048576) => toStr_any a cap L W ((hr.below h (Nat.le_refl _)).mono h.size) h2)
  have HSP := hide (fun W a' c' (h : elStr.Rd W W.heap.size a' L) (h3 : ∀ z ∈ L, z.size ≤ 1048576) => sBloom_any a' c' L x W h hl h3)
  have HIM := hide (fun W a' c' (h : elStr.Rd W W.heap.size a' L) (h3 : ∀ z ∈ L, z.size ≤ 1048576) (hb : Below w.heap.size w W) => iBloom_any a' c' L x W h hl h3 (Nat.lt_of_lt_of_le h0 hb.size) (hide (hT.out.below hb h0)))
  have HEQ := hide (fun W a1 a2 c1 c2 (h1 : elStr.Rd W W.heap.size a1 L) (h2 : elStr.Rd W W.heap.size a2 L) (h3 : L.length ≤ 1048576) => eqStr_same a1 a2 c1 c2 L W h1 h2 (by omega))
  generalize bloomV (L.map bl) x = V at *
  obtain ⟨n, hn⟩ : ∃ n, n = L.length := ⟨_, rfl⟩
  have HN := hide hn
  rw [← hn] at HSZ HTO HSP HIM HEQ hl ⊢
  unfold maxLen at hl
  have hq : (V == V) = true := by simp
  clear hn hr hk
  go_enter Tryd.func4, Tryd.ntmps4
  go_wp2_with fail
  refine HSZ.out.mono ?_
  rintro e w1 ⟨y, rfl, hy0, hy1, hP, hb1⟩
  have HP := hide hP
  have HB1 := hide hb1
  clear hP hb1 HSZ
  by_cases hy : y < 0
  · go_wp2_with fail
    go_ret
    exact ⟨rfl, HB1.out⟩
  · have HZ := hide (HP.out (by omega))
    have hl2 : n ≤ 1048576 := HZ.out.1
    go_wp2_with fail
    refine (HTO.out _ HB1.out hl2).mono ?_
    rintro e w2 ⟨rfl, hh2, hb2, hz2⟩
    have HB2 := hide (HB1.out.trans (hb2.mono HB1.out.size))
    have HR2 := hide (El.Holds.rd (e := elStr) hh2)
    clear hb2 hh2 hz2
    go_wp2_with fail
    refine (HSP.out _ _ _ HR2.out HZ.out.2).mono ?_
    rintro e w3 ⟨rfl, hb3⟩
    have HB3 := hide (HB2.out.trans (hb3.mono HB2.out.size))
    clear hb3 HR2 HSP
    go_wp2_with fail
    refine (HTO.out _ HB3.out hl2).mono ?_
    rintro e w4 ⟨rfl, hh4, hb4, hz4⟩
    have HB4 := hide (HB3.out.trans (hb4.mono HB3.out.size))
    have HR4 := hide (El.Holds.rd (e := elStr) hh4)
    clear hb4 hh4 hz4
    go_wp2_with fail
    refine (HIM.out _ _ _ HR4.out HZ.out.2 HB4.out).mono ?_
    rintro e w5 ⟨rfl, hb5⟩
    have HB5 := hide (HB4.out.trans (hb5.mono HB4.out.size))
    have HR5 := hide ((HR4.out.below hb5 (Nat.le_refl _)).mono hb5.size)
    clear hb5 HR4 HIM
    go_wp2_with fail
    refine (HTO.out _ HB5.out hl2).mono ?_
    rintro e w6 ⟨rfl, hh6, hb6, hz6⟩
    have HB6 := hide (HB5.out.trans (hb6.mono HB5.out.size))
    have HR6 := hide ((HR5.out.below hb6 (Nat.le_refl _)).mono hb6.size)
    have HR7 := hide (El.Holds.rd (e := elStr) hh6)
    clear hb6 hh6 hz6 HR5 HTO
    go_wp2_with fail
    refine (HEQ.out _ _ _ _ _ HR6.out HR7.out hl2).mono ?_
    rintro e w7 ⟨rfl, hb7⟩
    have HB7 := hide (HB6.out.trans (hb7.mono HB6.out.size))
    clear hb7
    go_wp2_with fail
    go_ret
    exact ⟨rfl, HB7.out⟩
end Go.Proofs.YtncfodifcgjicaaDoor
