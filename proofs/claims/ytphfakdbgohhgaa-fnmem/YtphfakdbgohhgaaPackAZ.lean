/-
  Texts of this proof, put together: MemB, MemC.
-/
import Derived.Test.YtphfakdbgohhgaaPackAW
import Derived.Test.YtphfakdbgohhgaaPackAI
import Derived.Test.YtphfakdbgohhgaaPackAY

/-
  Contracts of the program's list: with, reach; of impl.MemPut and impl.MemGet.
-/
namespace Go.Proofs.Ytphfakdbgohhgaa
open Go.ChangeShapes Go.WideShapes Go.ChangeAt Go.RowKit

def WithPost (w : World) (L : List En) (e : Ending) (w' : World) : Prop :=
  ∃ v, e = .returned (.agg #[v, .func (.func 87) #[.agg #[]] #[]]) ∧ elEnt.Owns w.heap.size w' v L ∧ Below w.heap.size w w'

set_option maxHeartbeats 1000000 in
set_option maxRecDepth 20000 in
theorem with_any (B : Nat) (a : Option Addr) (cap : Nat) (L : List En) (x0 : ByteArray) (x1 : Int) (x2 : Bool) (x3 : ByteArray) (w : World) (hO : elEnt.Owns B w (.slice a L.length cap) L) (hs : SrtE L) (hl : L.length ≤ 2097151) :
    Calls Try.prog 57 #[.agg #[.slice a L.length cap, .func (.func 87) #[.agg #[]] #[]], .agg #[.string x0, .int .i64 x1, .bool x2, .string x3]] w (WithPost w (insI (x0, x1, x2, x3) L)) := by
  have HO := hide hO
  obtain ⟨M, hM⟩ : ∃ M, M = insI (x0, x1, x2, x3) L := ⟨_, rfl⟩
  have HI := hide (fun W (h : elEnt.Owns B W (.slice a L.length cap) L) => insertEnt_any B a cap L x0 x1 x2 x3 (posI (x0, x1, x2, x3) L) W h (posI_le _ _) (fun i h hi => cmpE_neg.2 (posI_before _ L i h hi)) (fun i h hi => Int.not_lt.1 fun hn => posI_after hs i h hi (cmpE_neg.1 hn)) hl)
  rw [show L.take (posI (x0, x1, x2, x3) L) ++ (x0, x1, x2, x3) :: L.drop (posI (x0, x1, x2, x3) L) = M from hM.symm] at HI
  rw [← hM]
  obtain ⟨n, hn⟩ : ∃ n, n = L.length := ⟨_, rfl⟩
  rw [← hn] at HO HI ⊢
  clear hO hs hl hn hM
  obtain ⟨W, hW, hz, hWb, hA, hX, hR⟩ := three_boxes (T := 80) (U := 26) (V := 80) w #[.slice a n cap, .func (.func 87) #[.agg #[]] #[]] #[.string x0, .int .i64 x1, .bool x2, .string x3] #[.slice none 0 0, .nilFunc]
  have HA := hide hA
  have HX := hide hX
  have HRR := hide hR
  have HWB := hide hWb
  have HZ := hide hz
  go_enter Try.func57, Try.ntmps57
  go_wp2_with fail
  rw [← hW]
  clear hW hz hWb hA hX hR
  refine (HI.out _ (HO.out.below HWB.out (Nat.le_refl _))).mono ?_
  rintro e w1 ⟨v, rfl, ho, hb⟩
  obtain ⟨a1, c1, rfl, _⟩ := ho.form
  obtain ⟨m, hm⟩ : ∃ m, m = M.length := ⟨_, rfl⟩
  rw [← hm] at ho ⊢
  clear hm
  have HV := hide ho
  have HB1 := hide hb
  have HA1 := hide (HA.out.below hb HA.out.lt)
  have HR1 := hide (HRR.out.below hb HRR.out.lt)
  have hza : w.heap.size < W.heap.size := HA.out.lt
  have hzr : w.heap.size + 1 + 1 < W.heap.size := HRR.out.lt
  clear ho hb HA HRR HI HO
  obtain ⟨k0, k1⟩ := HA1.out.two'
  obtain ⟨z0, z1⟩ := HA1.out.froz2
  obtain ⟨d0, d1⟩ := HR1.out.two'
  obtain ⟨y0, y1⟩ := HR1.out.froz2
  go_wp2_with fail
  refine bodyPost_ret (res_list rfl _ _ (w.heap.size + 1 + 1) rfl (((HR1.out.set_other (p := ⟨w.heap.size, 0, none⟩) (by show w.heap.size ≠ _; omega) _).two0 _).two1 _)) rfl ?_
  exact ⟨_, rfl, (((HV.out.set_other hza _).set_other hzr _).set_other hzr _).mono (Nat.le_of_lt hza), HWB.out.trans ((((HB1.out.mono (Nat.le_of_lt hza)).setCell (p := ⟨w.heap.size, 0, none⟩) (Nat.le_refl _) _).setCell (p := ⟨w.heap.size + 1 + 1, 0, none⟩) (by show w.heap.size ≤ w.heap.size + 1 + 1; omega) _).setCell (p := ⟨w.heap.size + 1 + 1, 1, none⟩) (by show w.heap.size ≤ w.heap.size + 1 + 1; omega) _)⟩

end Go.Proofs.Ytphfakdbgohhgaa

/-
  Contracts of impl.MemPut and impl.MemGet.
-/
namespace Go.Proofs.Ytphfakdbgohhgaa
open Go.ChangeShapes Go.WideShapes Go.ChangeAt Go.RowKit

def PutPost (w : World) (M : List En) (b : Bool) (e : Ending) (w' : World) : Prop := ∃ v, e = .returned (.tuple #[v, .bool b]) ∧ elEnt.Owns w.heap.size w' v M ∧ Below w.heap.size w w'

def WithL (w : World) (M : List En) (m : Nat) (e : Ending) (w' : World) : Prop :=
  ∃ a3 c3, e = .returned (.agg #[.slice a3 m c3, .func (.func 87) #[.agg #[]] #[]]) ∧ elEnt.Owns w.heap.size w' (.slice a3 m c3) M ∧ elEnt.Rd w' w'.heap.size a3 M ∧ Below w.heap.size w w'
theorem with_letters {w : World} {M : List En} {m : Nat} (hm : M.length = m) {e : Ending} {w' : World} (h : WithPost w M e w') : WithL w M m e w' := by
  obtain ⟨v, rfl, ho, hb⟩ := h
  obtain ⟨a, c, rfl, hr, _⟩ := ho.form
  rw [hm] at ho ⊢
  exact ⟨a, c, rfl, ho, hr, hb⟩

set_option maxHeartbeats 2000000 in
set_option maxRecDepth 20000 in
theorem iMemPut_any (B : Nat) (a : Option Addr) (cap : Nat) (L : List En) (x0 : ByteArray) (x1 : Int) (x2 : Bool) (x3 : ByteArray) (w : World) (hO : elEnt.Owns B w (.slice a L.length cap) L) (hl : L.length ≤ 2097151) :
    Calls Try.prog 12 #[.slice a L.length cap, .agg #[.string x0, .int .i64 x1, .bool x2, .string x3]] w (PutPost w (putM L (x0, x1, x2, x3)) (putB L (x0, x1, x2, x3))) := by
  have HO := hide hO
  have HL := hide hl
  obtain ⟨P, hP⟩ : ∃ P, P = putM L (x0, x1, x2, x3) := ⟨_, rfl⟩
  obtain ⟨b, hb⟩ : ∃ b, b = putB L (x0, x1, x2, x3) := ⟨_, rfl⟩
  have HP := hide hP
  have HBB := hide hb
  rw [← hP, ← hb]
  have HRd := hide (show ∀ W, elEnt.Owns B W (.slice a L.length cap) L → elEnt.Rd W W.heap.size a L from fun W h => by
    obtain ⟨a', c', q, h, _⟩ := h.form
    simp only [Value.slice.injEq] at q
    rw [q.1]
    exact h)
  have HC := hide (fun W h => iMemOk_any a cap L W (HRd.out W h) (Nat.le_trans HL.out (by decide)))
  have HK := hide (fun W h => cloneEnt_any B (.slice a L.length cap) L W h (Nat.le_trans HL.out (by decide)))
  have HX0 := hide (BoxV.new 26 w #[.string x0, .int .i64 x1, .bool x2, .string x3])
  have hB := hide (fun o => (Below.refl w.heap.size w).alloc (Nat.le_refl _) o)
  clear hO hl hP hb
  by_cases hm : memOkL L
  · have HT := hide (fun W h => with_any B a cap L x0 x1 x2 x3 W h hm.2.2 HL.out)
    have HIO := hide (insI_ok (e := (x0, x1, x2, x3)) hm)
    have HIE := hide (insI_eq (e := (x0, x1, x2, x3)) hm)
    have HIL := hide (insI_len (x0, x1, x2, x3) L)
    obtain ⟨M, hM⟩ : ∃ M, M = insI (x0, x1, x2, x3) L := ⟨_, rfl⟩
    rw [← hM] at HT HIO HIE HIL
    obtain ⟨m, hm'⟩ : ∃ m, M.length = m := ⟨_, rfl⟩
    have HTL := hide (fun W h => (HT.out W h).mono fun _ _ => with_letters hm')
    have HML := hide hm'
    rw [hm'] at HIL
    clear HT hm'
    have HD := hide (decide_eq_true hm)
    rw [HD.out] at HC
    obtain ⟨n, hn⟩ : ∃ n, n = L.length := ⟨_, rfl⟩
    rw [← hn] at HO HRd HC HK HTL HIL HL ⊢
    have HMM := hide hm
    clear hm hM hn
    have hfd : ∀ (a : Option Addr) (n c : Nat) (W : World), (Instr.field 80 (.agg #[.slice a n c, .func (.func 87) #[.agg #[]] #[]]) 0).run Try.prog W = .ok (.slice a n c) W := fun _ _ _ _ => by kernel_rfl
    go_enter Try.func12, Try.ntmps12
    go_wp2_with fail
    refine (HC.out _ (HO.out.below (hB.out _) (Nat.le_refl _))).mono ?_
    rintro e w1 ⟨rfl, hb1⟩
    have HB1 := hide ((hB.out _).trans (hb1.mono (hB.out _).size))
    have HX1 := hide (HX0.out.below hb1 HX0.out.lt)
    have HO1 := hide (HO.out.below HB1.out (Nat.le_refl _))
    obtain ⟨c0, c1, c2, c3⟩ := HX1.out.four'
    clear hb1 HX0 HC
    have hwz1 := HB1.out.size
    have hxl := HX1.out.lt
    go_wp2_with fail
    go_region_held3 (fun w' => w'.cell? ⟨w.heap.size, 0, none⟩ = some (.string x0) ∧ w'.cell? ⟨w.heap.size, 1, none⟩ = some (.int .i64 x1) ∧ w'.cell? ⟨w.heap.size, 2, none⟩ = some (.bool x2) ∧ w'.cell? ⟨w.heap.size, 3, none⟩ = some (.string x3))
      (first
        | exact ⟨c0, c1, c2, c3⟩
        | with_reducible exact HX2.out.four'
        | with_reducible exact HX3.out.four')
      (first
        | (have hq2 := HX2.out
           clear hq2
           go_at_call 57
           refine (HTL.out _ (by with_reducible exact HO2.out)).mono ?_
           rintro e w3 ⟨a3, c3', rfl, ho3, hr3, hb3⟩
           have HO3 := hide ho3
           have HR3 := hide hr3
           have HX3 := hide (HX2.out.below hb3 HX2.out.lt)
           have HB3 := hide (HB2.out.trans (hb3.mono HB2.out.size))
           clear ho3 hr3 hb3)
        | (go_at_call 56
           refine (versions_any a n cap _).mono ?_
           rintro e w2 ⟨rfl, hb2⟩
           have hb2' := below_drew' hb2
           have HX2 := hide (HX1.out.below hb2' hxl)
           have HO2 := hide (HO1.out.below hb2' (Nat.le_refl _))
           have HB2 := hide (HB1.out.trans (hb2'.mono hwz1))
           clear hb2 hb2'))
    all_goals have HC3 := hide (fun W h => iMemOk_any a3 c3' M W h (by rw [HML.out, HIL.out]; have := HL.out; omega))
    all_goals rw [HML.out] at HC3
    all_goals have hw3 := HB3.out.size
    all_goals go_wp2_with fail
    all_goals refine (HC3.out _ HR3.out).mono ?_
    all_goals rintro e w4 ⟨rfl, hb4⟩
    all_goals have HB4 := hide (HB3.out.trans (hb4.mono hw3))
    all_goals have HO4 := hide (HO3.out.below hb4 (Nat.le_refl _))
    all_goals clear hb4 HO3 HR3 HC3
    all_goals by_cases hk : memOkL M
    · have HD2 := hide (decide_eq_true hk)
      have hk2 := HIO.out.mp hk
      obtain ⟨q1, q2⟩ := putM_yes HMM.out hk2
      have HQ1 := hide (HP.out.trans (q1.trans (HIE.out hk2).symm))
      have HQ2 := hide (HBB.out.trans q2)
      clear hk hk2 q1 q2
      rw [HD2.out]
      go_wp2_with fail
      go_ret2
      exact ⟨_, by rw [HQ2.out]; rfl, by rw [HQ1.out]; exact HO4.out.mono HB2.out.size, HB4.out⟩
    · have HD2 := hide (decide_eq_false hk)
      have hk2 := fun h => hk (HIO.out.mpr h)
      obtain ⟨q1, q2⟩ := putM_no HMM.out hk2
      have HQ1 := hide (HP.out.trans q1)
      have HQ2 := hide (HBB.out.trans q2)
      have HO5 := hide (HO.out.below HB4.out (Nat.le_refl _))
      clear hk hk2 q1 q2
      rw [HD2.out]
      go_wp2_with fail
      refine (HK.out _ HO5.out).mono ?_
      rintro e w5 ⟨v5, rfl, ho5, hb5⟩
      have HO6 := hide ho5
      have HB5 := hide (HB4.out.trans (hb5.mono HB4.out.size))
      clear ho5 hb5
      go_wp2_with fail
      go_ret2
      exact ⟨_, by rw [HQ2.out]; rfl, by rw [HQ1.out]; exact HO6.out.mono HB4.out.size, HB5.out⟩
  · obtain ⟨q1, q2⟩ := putM_bad (e := (x0, x1, x2, x3)) hm
    have HQ1 := hide (HP.out.trans q1)
    have HQ2 := hide (HBB.out.trans q2)
    have HD := hide (decide_eq_false hm)
    rw [HD.out] at HC
    obtain ⟨n, hn⟩ : ∃ n, n = L.length := ⟨_, rfl⟩
    rw [← hn] at HO HC ⊢
    clear hm hn q1 q2
    go_enter Try.func12, Try.ntmps12
    go_wp2_with fail
    refine (HC.out _ (HO.out.below (hB.out _) (Nat.le_refl _))).mono ?_
    rintro e w1 ⟨rfl, hb1⟩
    have HB1 := hide ((hB.out _).trans (hb1.mono (hB.out _).size))
    clear hb1
    go_wp2_with fail
    go_ret2
    exact ⟨_, by rw [HQ2.out]; rfl, by rw [HQ1.out]; exact El.Owns.nil _ _, HB1.out⟩

end Go.Proofs.Ytphfakdbgohhgaa
