/-
  Texts of this proof, put together: LawSeal.
-/
import Derived.Test.YtmdhihgfnlnbnaaPackAF
import Derived.Test.YtmdhihgfnlnbnaaPackAX
import Derived.Test.YtmdhihgfnlnbnaaPackAZ
import Derived.Test.YtmdhihgfnlnbnaaPackAD
import Derived.Test.YtmdhihgfnlnbnaaPackBB

/-
  The walk of laws.FnExactSealBatch.
-/
namespace Go.Proofs.Ytmdhihgfnlnbnaa
open Go.ChangeShapes Go.WideShapes Go.ChangeAt Go.RowKit

set_option maxHeartbeats 2000000 in
set_option maxRecDepth 20000 in
theorem law_Seal (k : ByteArray) (b n : Int) (a : Option Addr) (cap : Nat) (L : List OpE) (w : World) (_ : k.size ≤ maxLen) (_ : (Lit.int .i64 b).wf = true) (_ : (Lit.int .i64 n).wf = true) (hr : elOp.Rd w w.heap.size a L) (hl : L.length ≤ maxLen) (hc : ∀ z ∈ L, cameOp z) :
    Calls Try.prog 6 #[.string k, .int .i64 b, .int .i64 n, .slice a L.length cap] w (TruePost w) := by
  by_cases hbig : 1048576 < k.size
  · have hd : decide ((1048576 : Int) < k.size) = true := decide_eq_true (by omega)
    go_enter Try.func6, Try.ntmps6
    go_wp2_with fail
    go_ret
    exact ⟨rfl, Below.refl _ _⟩
  have hd : decide ((1048576 : Int) < k.size) = false := decide_eq_false (by omega)
  clear hbig
  have HR := hide hr
  clear hr
  have HC := hide hc
  clear hc
  have HL := hide hl
  have HSZ := hide (fun W (h1 : Below w.heap.size w W) => szOpS_any a cap L 1048576 W ((HR.out.below h1 (Nat.le_refl _)).mono h1.size) HL.out HC.out (by omega) (by omega))
  obtain ⟨m, hn⟩ : ∃ m, m = L.length := ⟨_, rfl⟩
  have HN := hide hn
  rw [← hn] at HSZ ⊢
  clear hn hl
  go_enter Try.func6, Try.ntmps6
  go_wp2_with fail
  refine (HSZ.out _ (Below.refl _ _)).mono ?_
  rintro e w1 ⟨y, rfl, hy0, hy1, hP, hb1⟩
  have HB1 := hide hb1
  have HP := hide hP
  clear hP hb1 HSZ
  by_cases hy : y < 0
  · go_wp2_with fail
    go_ret
    exact ⟨rfl, HB1.out⟩
  have HK := hide (show L.length ≤ 1048576 by have := (HP.out (by omega)).1; rw [HN.out] at this; exact this)
  have HTO := hide (fun W (h1 : Below w.heap.size w W) => toOpS_any a cap L W ((HR.out.below h1 (Nat.le_refl _)).mono h1.size) HK.out)
  have HSP := hide (fun W d c (h : elOp.Rd W W.heap.size d L) => sSeal_any k b n d c L W h (by have := HK.out; omega))
  have HIM := hide (fun W d c (h : elOp.Rd W W.heap.size d L) => iSeal_any k b n d c L W h (by have := HK.out; omega))
  have HEQ := hide (fun W b1 b2 c1 c2 (h1 : elOp.Rd W W.heap.size b1 L) (h2 : elOp.Rd W W.heap.size b2 L) => eqOpS_same b1 b2 c1 c2 L W h1 h2 (by have := HK.out; omega))
  obtain ⟨V, hV⟩ : ∃ V, V = sealS (bl k) b n (showL L) := ⟨_, rfl⟩
  rw [← hV] at HSP HIM
  rw [← HN.out] at HTO HSP HIM HEQ
  clear hV HR HC HL HP HK
  go_wp2_with fail
  refine (HTO.out _ HB1.out).mono ?_
  rintro e w2 ⟨rfl, hh2, hb2, hz2⟩
  have HH2 := hide hh2
  have HB2 := hide (HB1.out.trans (hb2.mono HB1.out.size))
  clear hh2 hb2 HB1 hy
  go_wp2_with fail
  refine (HSP.out _ _ _ HH2.out.rd).mono ?_
  rintro e w3 ⟨rfl, hb3⟩
  have HB3 := hide (HB2.out.trans (hb3.mono HB2.out.size))
  clear hb3 HB2 HH2 HSP
  go_wp2_with fail
  refine (HTO.out _ HB3.out).mono ?_
  rintro e w4 ⟨rfl, hh4, hb4, hz4⟩
  have HH4 := hide hh4
  have HB4 := hide (HB3.out.trans (hb4.mono HB3.out.size))
  clear hh4 hb4 HB3
  go_wp2_with fail
  refine (HIM.out _ _ _ HH4.out.rd).mono ?_
  rintro e w5 ⟨rfl, hb5⟩
  have HH5 := hide (HH4.out.below hb5 hz4)
  have HB5 := hide (HB4.out.trans (hb5.mono HB4.out.size))
  have hz5 : w3.heap.size < w5.heap.size := Nat.lt_of_lt_of_le hz4 hb5.size
  clear hb5 HB4 HH4 HIM
  go_wp2_with fail
  refine (HTO.out _ HB5.out).mono ?_
  rintro e w6 ⟨rfl, hh6, hb6, hz6⟩
  have HH6 := hide hh6
  have HG6 := hide (HH5.out.below hb6 hz5)
  have HB6 := hide (HB5.out.trans (hb6.mono HB5.out.size))
  clear hh6 hb6 HB5 HH5
  go_wp2_with fail
  refine (HEQ.out _ _ _ _ _ HG6.out.rd HH6.out.rd).mono ?_
  rintro e w7 ⟨rfl, hb7⟩
  have HB7 := hide (HB6.out.trans (hb7.mono HB6.out.size))
  clear hb7
  go_wp2_with fail
  go_ret
  exact ⟨rfl, HB7.out⟩
end Go.Proofs.Ytmdhihgfnlnbnaa
