/-
  Contract of spec.MemPut.
-/
import Derived.Test.YtphfakdbgohhgaaMemF
namespace Go.Proofs.Ytphfakdbgohhgaa
open Go.ChangeShapes Go.WideShapes Go.ChangeAt Go.RowKit

def PutPost' (w : World) (M : List En) (b : Bool) (e : Ending) (w' : World) : Prop := ∃ v, e = .returned (.tuple #[v, .bool b]) ∧ elEnt.Owns w.heap.size w' v M ∧ Below w.heap.size w w'

set_option maxHeartbeats 2000000 in
set_option maxRecDepth 20000 in
theorem sMemPut_any (B : Nat) (a : Option Addr) (cap : Nat) (L : List En) (x0 : ByteArray) (x1 : Int) (x2 : Bool) (x3 : ByteArray) (w : World) (hO : elEnt.Owns B w (.slice a L.length cap) L) (hl : L.length ≤ 2097151) :
    Calls Try.prog 13 #[.slice a L.length cap, .agg #[.string x0, .int .i64 x1, .bool x2, .string x3]] w (PutPost' w (putM L (x0, x1, x2, x3)) (putB L (x0, x1, x2, x3))) := by
  have HO := hide hO
  have HL := hide hl
  obtain ⟨P, hP⟩ : ∃ P, P = putM L (x0, x1, x2, x3) := ⟨_, rfl⟩
  obtain ⟨b, hb⟩ : ∃ b, b = putB L (x0, x1, x2, x3) := ⟨_, rfl⟩
  have HP := hide hP
  have HBB := hide hb
  rw [← hP, ← hb]
  have HRd := hide (show ∀ W, elEnt.Owns B W (.slice a L.length cap) L → elEnt.Rd W W.heap.size a L from fun W h => by
    obtain ⟨a', c', q, h, _⟩ := h.form
    simp only [Value.slice.injEq] at q
    rw [q.1]
    exact h)
  have HC := hide (fun W h => sMemOk_any a cap L W (HRd.out W h) (Nat.le_trans HL.out (by decide)))
  have HX0 := hide (BoxV.new 26 w #[.string x0, .int .i64 x1, .bool x2, .string x3])
  have hB := hide (fun o => (Below.refl w.heap.size w).alloc (Nat.le_refl _) o)
  clear hO hl hP hb
  by_cases hm : memOkL L
  · have HT := hide (fun W h => l9Put_any a cap L x0 x1 x2 x3 W (HRd.out W h) (Nat.le_trans HL.out (by decide)))
    have HIL := hide (insE_len (x0, x1, x2, x3) L)
    have HY := hide (fun h => putM_yes (e := (x0, x1, x2, x3)) hm h)
    have HNO := hide (fun h => putM_no (e := (x0, x1, x2, x3)) hm h)
    obtain ⟨M, hM⟩ : ∃ M, M = insE (x0, x1, x2, x3) L := ⟨_, rfl⟩
    rw [← hM] at HT HIL HY HNO
    have HD := hide (decide_eq_true hm)
    rw [HD.out] at HC
    obtain ⟨m, hm'⟩ : ∃ m, m = M.length := ⟨_, rfl⟩
    have HML := hide hm'
    obtain ⟨n, hn⟩ : ∃ n, n = L.length := ⟨_, rfl⟩
    have HN := hide hn
    rw [← hn] at HO HRd HC HT HIL HL ⊢
    clear hm hM hn hm'
    go_enter Try.func13, Try.ntmps13
    go_wp2_with fail
    refine (HC.out _ (HO.out.below (hB.out _) (Nat.le_refl _))).mono ?_
    rintro e w1 ⟨rfl, hb1⟩
    have HB1 := hide ((hB.out _).trans (hb1.mono (hB.out _).size))
    have HX1 := hide (HX0.out.below hb1 HX0.out.lt)
    have HO1 := hide (HO.out.below HB1.out (Nat.le_refl _))
    obtain ⟨c0, c1, c2, c3⟩ := HX1.out.four'
    clear hb1 HX0 HC
    go_wp2_with fail
    refine (HT.out _ HO1.out).mono ?_
    rintro e w3 ⟨v3, rfl, ho3, hb3⟩
    obtain ⟨a3, c3', rfl, hr3, _⟩ := ho3.form
    have HR3 := hide hr3
    have HB3 := hide (HB1.out.trans (hb3.mono HB1.out.size))
    have HO3 := hide (ho3.mono HB1.out.size)
    have HC3 := hide (fun W h => sMemOk_any a3 c3' M W h (by rw [HIL.out]; have := HL.out; omega))
    rw [← HML.out] at HO3 HC3 ⊢
    clear ho3 hr3 hb3
    go_wp2_with fail
    refine (HC3.out _ HR3.out).mono ?_
    rintro e w4 ⟨rfl, hb4⟩
    have HB4 := hide (HB3.out.trans (hb4.mono HB3.out.size))
    have HO4 := hide (HO3.out.below hb4 (Nat.le_refl _))
    clear hb4 HO3 HR3 HC3
    by_cases hk : memOkL M
    · have HD2 := hide (decide_eq_true hk)
      obtain ⟨q1, q2⟩ := HY.out hk
      have HQ1 := hide (HP.out.trans q1)
      have HQ2 := hide (HBB.out.trans q2)
      clear hk q1 q2
      rw [HD2.out]
      go_wp2_with fail
      go_ret2
      exact ⟨_, by rw [HQ2.out]; rfl, by rw [HQ1.out]; exact HO4.out, HB4.out⟩
    · have HD2 := hide (decide_eq_false hk)
      obtain ⟨q1, q2⟩ := HNO.out hk
      have HQ1 := hide (HP.out.trans q1)
      have HQ2 := hide (HBB.out.trans q2)
      have HO5 := hide (((HO.out.below HB4.out (Nat.le_refl _)).src (e := elEnt)).alloc (.cells #[] 26))
      have HOL := hide (show elEnt.Owns w4.heap.size (w4.alloc (.cells #[] 26)) (.slice (some ⟨w4.heap.size, 0, none⟩) 0 0) [] from El.Owns.lit (e := elEnt) w4.heap.size w4 [] #[] 0 rfl rfl (Nat.le_refl _) (by simp [maxLen]))
      have HBa := hide ((Below.refl w4.heap.size w4).alloc (Nat.le_refl _) (.cells #[] 26))
      have hba := HBa.out.size
      have hnl := HL.out
      have HNN := hide HN.out.symm
      clear hk q1 q2
      rw [HD2.out]
      go_wp2_with (at_builtin; go_loud (refine El.appendSrc (e := elEnt) rfl (.tmp 17) (.tmp 18) 24 rfl Try.underlying24 _ _ infoEnt rfl (by decide) (by decide) w4.heap.size w4 _ _ _ [] L rfl rfl HOL HO5 HBa hba L n rfl HNN.out (by omega) ?_); intro a6 c6 w6 HO6 HB6 hz6 _)
      go_ret2
      exact ⟨_, by rw [HQ2.out]; rfl, by rw [HQ1.out]; exact HO6.out.mono HB4.out.size, HB4.out.trans (HB6.out.mono HB4.out.size)⟩
  · obtain ⟨q1, q2⟩ := putM_bad (e := (x0, x1, x2, x3)) hm
    have HQ1 := hide (HP.out.trans q1)
    have HQ2 := hide (HBB.out.trans q2)
    have HD := hide (decide_eq_false hm)
    rw [HD.out] at HC
    obtain ⟨n, hn⟩ : ∃ n, n = L.length := ⟨_, rfl⟩
    rw [← hn] at HO HC ⊢
    clear hm hn q1 q2
    go_enter Try.func13, Try.ntmps13
    go_wp2_with fail
    refine (HC.out _ (HO.out.below (hB.out _) (Nat.le_refl _))).mono ?_
    rintro e w1 ⟨rfl, hb1⟩
    have HB1 := hide ((hB.out _).trans (hb1.mono (hB.out _).size))
    have hw1 := HB1.out.size
    clear hb1
    go_wp2_with fail
    go_ret2
    exact ⟨_, by rw [HQ2.out]; rfl, by rw [HQ1.out]; exact El.Owns.lit (e := elEnt) w.heap.size w1 [] #[] 0 rfl rfl hw1 (by simp [maxLen]), HB1.out.alloc hw1 _⟩
end Go.Proofs.Ytphfakdbgohhgaa
