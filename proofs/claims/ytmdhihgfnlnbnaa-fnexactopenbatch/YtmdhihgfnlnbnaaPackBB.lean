/-
  Texts of this proof, put together: LawOpen.
-/
import Derived.Test.YtmdhihgfnlnbnaaPackAF
import Derived.Test.YtmdhihgfnlnbnaaPackAX
import Derived.Test.YtmdhihgfnlnbnaaPackAZ
import Derived.Test.YtmdhihgfnlnbnaaPackBA

/-
  The walk of laws.FnExactOpenBatch.
-/
namespace Go.Proofs.Ytmdhihgfnlnbnaa
open Go.ChangeShapes Go.WideShapes Go.ChangeAt Go.RowKit

set_option maxHeartbeats 2000000 in
set_option maxRecDepth 20000 in
theorem law_Open (k : ByteArray) (b n : Int) (s : ByteArray) (_ : k.size ≤ maxLen) (_ : (Lit.int .i64 b).wf = true) (_ : (Lit.int .i64 n).wf = true) (_ : s.size ≤ maxLen) (w : World) :
    Calls Try.prog 7 #[.string k, .int .i64 b, .int .i64 n, .string s] w (TruePost w) := by
  by_cases hkb : 1048576 < k.size
  · have hd : decide ((1048576 : Int) < k.size) = true := decide_eq_true (by omega)
    go_enter Try.func7, Try.ntmps7
    go_wp2_with fail
    go_ret
    exact ⟨rfl, Below.refl _ _⟩
  have hd0 : decide ((1048576 : Int) < k.size) = false := decide_eq_false (by omega)
  clear hkb
  by_cases hbig : 1048576 < s.size
  · have hd : decide ((1048576 : Int) < s.size) = true := decide_eq_true (by omega)
    go_enter Try.func7, Try.ntmps7
    go_wp2_with fail
    go_ret
    exact ⟨rfl, Below.refl _ _⟩
  have hd : decide ((1048576 : Int) < s.size) = false := decide_eq_false (by omega)
  have HSP := hide (fun W => sOpen_any k b n s (by omega) W)
  have HIM := hide (fun W => iOpen_any k b n s (by omega) W)
  unfold ReadBPost at HSP HIM
  have HL := hide (readM_len (sealS (bl k) b n (bl s)))
  obtain ⟨X, hX⟩ : ∃ X, X = readM (sealS (bl k) b n (bl s)) := ⟨_, rfl⟩
  obtain ⟨Q, hQ⟩ : ∃ Q, Q = readQ (sealS (bl k) b n (bl s)) := ⟨_, rfl⟩
  rw [← hX, ← hQ] at HSP HIM
  rw [← hX] at HL
  have HEQ := hide (fun W b1 b2 c1 c2 (h1 : elOp.Rd W W.heap.size b1 X) (h2 : elOp.Rd W W.heap.size b2 X) => eqOpS_same b1 b2 c1 c2 X W h1 h2 (by have := HL.out; omega))
  have HMK := hide (fun W B a c (h : elOp.Owns B W (.slice a X.length c) X) => markOpS_any B a c 1 X W h (by omega) (by have := HL.out; omega))
  have HHE := hide (fun W a c (h : elOp.Rd W W.heap.size a (marksG markOp 3 1 X.length)) => heldOpS_any a c 1 X.length W h (by omega) (by have := HL.out; omega))
  obtain ⟨m, hn⟩ : ∃ m, m = X.length := ⟨_, rfl⟩
  rw [← hn] at HEQ HMK HHE
  have HLN := hide hn
  have hn6 : m ≤ 6 := by have := HL.out; omega
  clear hX hQ hn hbig
  have hq : (Q != Q) = false := by cases Q <;> rfl
  go_enter Try.func7, Try.ntmps7
  go_wp2_with fail
  refine (HSP.out _).mono ?_
  rintro e w1 ⟨v1, rfl, ho1, hb1⟩
  obtain ⟨a1, c1, rfl, hrd1, _⟩ := ho1.form
  have HB1 := hide hb1
  have HR1 := hide hrd1
  rw [← HLN.out]
  clear hb1 ho1 hrd1 HSP
  go_wp2_with fail
  refine (HIM.out _).mono ?_
  rintro e w2 ⟨v2, rfl, ho2, hb2⟩
  obtain ⟨a2, c2, rfl, hrd2, _⟩ := ho2.form
  have HB2 := hide hb2
  have HO2 := hide ho2
  have HR2 := hide hrd2
  rw [← HLN.out] at HO2 ⊢
  clear hb2 ho2 hrd2
  go_wp2_with fail
  refine (HEQ.out _ _ _ _ _ HR2.out ((HR1.out.below HB2.out (Nat.le_refl _)).mono HB2.out.size)).mono ?_
  rintro e w3 ⟨rfl, hb3⟩
  have HB3 := hide (HB2.out.trans (hb3.mono HB2.out.size))
  have HO3 := hide (HO2.out.below hb3 (Nat.le_refl _))
  clear hb3 HR2
  go_wp2_with fail
  refine (HMK.out _ _ _ _ HO3.out).mono ?_
  rintro e w4 ⟨rfl, ho4, hk4⟩
  have HB4 := hide (HB3.out.trans (hk4.below (fun g e => (HO3.out.lt g e).1) HB3.out.size))
  have HO4 := hide ho4
  clear ho4 hk4
  obtain ⟨a4, c4, he4, hrd4, _⟩ := HO4.out.form
  rw [length_marksG] at he4
  injection he4 with e4 _ f4
  subst e4
  subst f4
  have HR4 := hide hrd4
  clear hrd4
  go_wp2_with fail
  refine (HHE.out _ _ _ HR4.out).mono ?_
  rintro e w5 ⟨rfl, hb5⟩
  have HB5 := hide (HB4.out.trans (hb5.mono HB4.out.size))
  have HO5 := hide (HO4.out.below hb5 (Nat.le_refl _))
  have HR5 := hide ((HR4.out.below hb5 (Nat.le_refl _)).mono hb5.size)
  clear hb5 HR4
  go_wp2_with fail
  refine (HIM.out _).mono ?_
  rintro e w6 ⟨v6, rfl, ho6, hb6⟩
  obtain ⟨a6, c6, rfl, hrd6, _⟩ := ho6.form
  have HB6 := hide (HB5.out.trans (hb6.mono HB5.out.size))
  have HR6 := hide hrd6
  have HR7 := hide ((HR5.out.below hb6 (Nat.le_refl _)).mono hb6.size)
  rw [← HLN.out]
  clear hb6 ho6 hrd6 HR5
  go_wp2_with fail
  refine (HEQ.out _ _ _ _ _ HR6.out ((HR1.out.below HB6.out (Nat.le_refl _)).mono HB6.out.size)).mono ?_
  rintro e w7 ⟨rfl, hb7⟩
  have HB7 := hide (HB6.out.trans (hb7.mono HB6.out.size))
  have HR8 := hide ((HR7.out.below hb7 (Nat.le_refl _)).mono hb7.size)
  clear hb7
  go_wp2_with fail
  refine (HHE.out _ _ _ HR8.out).mono ?_
  rintro e w8 ⟨rfl, hb8⟩
  have HB8 := hide (HB7.out.trans (hb8.mono HB7.out.size))
  clear hb8
  go_wp2_with fail
  go_ret
  exact ⟨rfl, HB1.out.trans (HB8.out.mono HB1.out.size)⟩
end Go.Proofs.Ytmdhihgfnlnbnaa
