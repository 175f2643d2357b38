/-
  Texts of this proof, put together: SameM, LawBatches.
-/
import Derived.Test.YtmdhihgfnlnbnaaPackAG
import Derived.Test.YtmdhihgfnlnbnaaPackBI
import Derived.Test.YtmdhihgfnlnbnaaPackBB
import Derived.Test.YtmdhihgfnlnbnaaPackBH
import Derived.StillTailTactics
import Derived.Laws.StructEq
import Derived.Test.YtmdhihgfnlnbnaaPackAI

/-
  Contracts of laws.sameMap (what is equal is told equal) and laws.big; what is read of a batch, over letters.
-/
namespace Go.Proofs.Ytmdhihgfnlnbnaa
open Go.ChangeShapes Go.WideShapes Go.ChangeAt Go.RowKit

def ReadL (M : List Opn) (Q : Bool) (w : World) (e : Ending) (w' : World) : Prop := ∃ v, e = .returned (.tuple #[v, .bool Q]) ∧ elOp.Owns w.heap.size w' v M ∧ Below w.heap.size w w'
theorem read_letters (t : ByteArray) (ht : t.size ≤ 1048576) : ∃ (M : List Opn) (Q : Bool), M.length ≤ 6 ∧ (Q = true → showL M = bl t) ∧
    (∀ W, Calls Try.prog 18 #[.string t] W (ReadL M Q W)) ∧ (∀ W, Calls Try.prog 20 #[.string t] W (ReadL M Q W)) :=
  ⟨readM (bl t), readQ (bl t), readM_len _, fun h => (read_show h).2, fun W => iRead_any t ht W, fun W => sRead_any t ht W⟩
theorem read_shown (l : List Opn) : ∃ M : List Opn, M.length ≤ 6 ∧ (batOk l → M = l) ∧ ∀ W, Calls Try.prog 18 #[.string ⟨(showL l).toArray⟩] W (ReadL M (decide (batOk l)) W) := by
  by_cases h : batOk l
  · obtain ⟨h1, h2⟩ := read_of h rfl
    refine ⟨l, h.2.1, fun _ => rfl, fun W => ?_⟩
    have := iRead_any ⟨(showL l).toArray⟩ (by rw [size_of]; have := showL_len l; omega) W
    unfold ReadBPost at this
    rw [bl_of, h1, h2] at this
    rw [decide_eq_true h]
    exact this
  · obtain ⟨h1, h2⟩ := claim_no (s := showL l) (.inl (showL_no h))
    refine ⟨[], by simp, fun h' => absurd h' h, fun W => ?_⟩
    have := iRead_any ⟨(showL l).toArray⟩ (by rw [size_of]; have := showL_len l; omega) W
    unfold ReadBPost at this
    rw [bl_of, h1, h2] at this
    rw [decide_eq_false h]
    exact this
end Go.Proofs.Ytmdhihgfnlnbnaa

/-
  The walk of laws.FnBatches: it returns true.
-/
namespace Go.Proofs.Ytmdhihgfnlnbnaa
open Go.ChangeShapes Go.WideShapes Go.ChangeAt Go.RowKit

theorem apply_cases (m : List KV) (l : List Opn) : (applyB m l = true ∧ mapOk m ∧ batOk l ∧ iappM m l = applyL m l) ∨ (applyB m l = false ∧ mapOk m ∧ iappM m l = m) ∨ (applyB m l = false ∧ ¬ mapOk m) := by
  by_cases hm : mapOk m
  · by_cases hb : batOk l
    · exact .inl ⟨decide_eq_true ⟨hm, hb⟩, hm, hb, by rw [iappM, if_pos hb, if_pos hm]⟩
    · exact .inr (.inl ⟨decide_eq_false (fun h => hb h.2), hm, by rw [iappM, if_neg hb]⟩)
  · exact .inr (.inr ⟨decide_eq_false (fun h => hm h.1), hm⟩)
theorem one_op {m : List KV} (hm : mapOk m) {o : Opn} (ho : opOk o) : iappM m [o] = putO m o := by
  have hb : batOk [o] := ⟨by simp, by simp, fun x hx => by rw [List.mem_singleton.1 hx]; exact ho⟩
  rw [iappM, if_pos hb, if_pos hm]
  rfl
set_option maxHeartbeats 16000000 in
set_option maxRecDepth 100000 in
theorem batches_core (a : Option Addr) (cap : Nat) (bs : List Int) (w : World) (hc : CodeAt w.heap.size w a bs) :
    Calls Try.prog 3 #[.slice a bs.length cap] w fun e w' => e = .returned (.bool true) ∧ Below w.heap.size w w' := by
  have HC := hide hc
  obtain ⟨n, hn⟩ : ∃ n, n = bs.length := ⟨_, rfl⟩
  have HN := hide hn
  by_cases hbig : 1048576 < n
  · have hd : decide ((1048576 : Int) < (n : Int)) = true := decide_eq_true (by omega)
    rw [← hn]
    clear hn hc
    go_enter Try.func3, Try.ntmps3
    go_wp2_with fail
    refine (big_any a n cap _).mono ?_
    rintro e w1 ⟨rfl, rfl⟩
    rw [hd]
    go_wp2_with fail
    go_ret
    exact ⟨rfl, Below.refl _ _⟩
  have hd : decide ((1048576 : Int) < (n : Int)) = false := decide_eq_false (by omega)
  have hm : bs.length ≤ 1048576 := by omega
  have HAD := hide (drawApply_any (B := w.heap.size) a cap bs w (Nat.le_refl _) hc hm)
  rw [← hn] at HAD ⊢
  clear hn hc hbig
  go_enter Try.func3, Try.ntmps3
  go_wp2_with fail
  refine (big_any a n cap _).mono ?_
  rintro e wb ⟨rfl, rfl⟩
  rw [hd]
  go_wp2_with fail
  refine HAD.out.mono ?_
  rintro e w1 ⟨vm, m, vl, l, rfl, hom, hlm, hol, hll, hb1⟩
  have HB1 := hide hb1
  obtain ⟨am, cm, rfl, hrm, _⟩ := hom.form
  obtain ⟨al, cl, rfl, hrl, hcl, hcl2⟩ := hol.form
  have HRm := hide hrm
  have HRl := hide hrl
  have hpl := hom.plain
  have hpl' := hol.plain
  have HPL := hide hpl'
  have HIA := hide (fun W (h : elKV.Rd W W.heap.size am m) (h' : elOp.Rd W W.heap.size al l) => iApply_any am al cm cl m l W h hpl h' (by omega) (by omega))
  have HSA := hide (fun W (h : elKV.Rd W W.heap.size am m) (h' : elOp.Rd W W.heap.size al l) => sApply_any am al cm cl m l W h hpl h' (by omega) (by omega))
  have HMO := hide (fun W (h : elKV.Rd W W.heap.size am m) => sMapOk_any am cm m W h (by omega))
  have HOm := hide hom
  obtain ⟨nm, hnm⟩ : ∃ nm, nm = m.length := ⟨_, rfl⟩
  obtain ⟨nl, hnl⟩ : ∃ nl, nl = l.length := ⟨_, rfl⟩
  rw [← hnm] at HIA HSA HMO HOm hlm ⊢
  rw [← hnl] at HIA HSA HPL hll hcl ⊢
  unfold maxLen at hcl2
  have HNm := hide hnm
  have HNl := hide hnl
  clear hom hol hrm hrl hb1 HAD hpl hpl' hnm hnl
  have hac := apply_cases m l
  obtain ⟨X, hX⟩ : ∃ X, X = iappM m l := ⟨_, rfl⟩
  obtain ⟨Y, hY⟩ : ∃ Y, Y = applyM m l := ⟨_, rfl⟩
  rw [← hX] at HIA hac
  rw [← hY] at HSA
  clear hX hY
  generalize applyB m l = ok at HIA HSA hac
  have HAC := hide hac
  have hok : (ok != ok) = false := by cases ok <;> rfl
  clear hac
  go_wp2_with fail
  refine (HIA.out _ HRm.out HRl.out).mono ?_
  rintro e w2 ⟨v2, rfl, ho2, hb2⟩
  have HB2 := hide (HB1.out.trans (hb2.mono HB1.out.size))
  have HRm2 := hide ((HRm.out.below hb2 (Nat.le_refl _)).mono hb2.size)
  have HRl2 := hide ((HRl.out.below hb2 (Nat.le_refl _)).mono hb2.size)
  have HOm2 := hide (HOm.out.below hb2 (Nat.le_refl _))
  obtain ⟨a2, c2, rfl, hr2, _⟩ := ho2.form
  have HX2 := hide hr2
  obtain ⟨n2, hn2⟩ : ∃ n2, n2 = X.length := ⟨_, rfl⟩
  have HN2 := hide hn2
  rw [← hn2]
  clear hb2 ho2 hr2 HIA HRm HRl HOm HB1 hn2
  go_wp2_with fail
  refine (HSA.out _ HRm2.out HRl2.out).mono ?_
  rintro e w3 ⟨v3, rfl, ho3, hb3⟩
  have HB3 := hide (HB2.out.trans (hb3.mono HB2.out.size))
  have HRm3 := hide ((HRm2.out.below hb3 (Nat.le_refl _)).mono hb3.size)
  have HRl3 := hide ((HRl2.out.below hb3 (Nat.le_refl _)).mono hb3.size)
  have HX3 := hide ((HX2.out.below hb3 (Nat.le_refl _)).mono hb3.size)
  have HOm3 := hide (HOm2.out.below hb3 (Nat.le_refl _))
  obtain ⟨a3, c3, rfl, _⟩ := ho3.form
  clear hb3 ho3 HSA HRm2 HRl2 HX2 HOm2 HB2
  rcases HAC.out with ⟨rfl, hmo, hbo, hXe⟩ | ⟨rfl, hmo, hXe⟩ | ⟨rfl, hmo⟩
  · have HMok := hide hmo
    have HBok := hide hbo
    have HXe := hide hXe
    clear hmo hbo hXe HMO HAC
    go_wp2_with fail
    go_loopw [9, 10] (fun o i wr => ∃ (j y : Nat) (a' : Option Addr) (c' : Nat), o = .slice a' y c' ∧ i = .int .i64 j ∧ j ≤ nl ∧ Hid ((applyL m (l.take j)).length = y) ∧ Hid (elKV.Owns w.heap.size wr (.slice a' y c') (applyL m (l.take j))) ∧ Hid (Below w3.heap.size w3 wr)) (fun _ i _ => nl - (intOf i).toNat)
    case atStart => exact ⟨0, nm, _, _, rfl, rfl, by omega, HNm.out.symm, HOm3, Below.refl _ _⟩
    case round =>
      obtain ⟨j, y, ao, co, rfl, rfl, hj, HY, HOJ, HBJ⟩ := hrel
      have HBw := hide (HB3.out.trans (HBJ.out.mono HB3.out.size))
      have hsj := HBw.out.size
      have hyl : y ≤ 100 := by
        have h1 := length_applyL (l.take j) m
        rw [List.length_take] at h1
        have h2 := HY.out
        have h3 := HNm.out
        have h4 := HNl.out
        omega
      obtain ⟨ar, cr, er, hrd, _⟩ := HOJ.out.form
      have hplo := HOJ.out.plain
      rw [HY.out] at er
      injection er with e1 e2 e3
      subst e1 e3
      clear e2
      have HRD := hide hrd
      clear hrd
      by_cases hlt : j < nl
      · have hjL : j < l.length := by rw [← HNl.out]; exact hlt
        obtain ⟨b, off, rfl, hb, hcell⟩ := HRl3.out (by omega)
        obtain ⟨q0, hq0⟩ : ∃ q0, l[j]? = some q0 := ⟨_, List.getElem?_eq_getElem hjL⟩
        have HE := hide (applyL_next (m := m) hq0)
        have hmj := mapOk_applyL (l.take j) m HMok.out (fun o ho => HBok.out.2.2 o (List.mem_of_mem_take ho))
        rw [← one_op hmj (HBok.out.2.2 _ (List.mem_of_getElem? hq0))] at HE
        have HRs : Hid (elOp.Rd wr wr.heap.size (some ⟨b, off + j * 3, none⟩) [q0]) := by
          have h1 := ((HRl3.out.below HBJ.out (Nat.le_refl _)).mono HBJ.out.size).slice j 1 (by omega)
          rw [show (l.drop j).take 1 = [q0] by rw [List.drop_eq_getElem_cons hjL]; rw [List.getElem?_eq_getElem hjL] at hq0; rw [Option.some.inj hq0]; rfl] at h1
          exact h1
        clear hcell hq0
        have HAI := hide (iApply_any ao (some ⟨b, off + j * 3, none⟩) co (cl - j) (applyL m (l.take j)) [q0] wr HRD.out (by rw [HY.out]; exact hplo) HRs.out (by rw [HY.out]; omega) (by simp))
        rw [← HE.out, HY.out] at HAI
        generalize applyB (applyL m (l.take j)) [q0] = okj at HAI
        obtain ⟨Z, hZ⟩ : ∃ Z, Z = applyL m (l.take (j + 1)) := ⟨_, rfl⟩
        rw [← hZ] at HAI
        have HZ := hide hZ
        clear hZ HE hmj HRs HRD hplo hjL
        go_wp2_with fail
        refine HAI.out.mono ?_
        rintro e w7 ⟨v7, rfl, ho7, hb7⟩
        have HB7 := hide (HBJ.out.trans (hb7.mono HBJ.out.size))
        have HO7 := hide (ho7.mono hsj)
        obtain ⟨a7, k7, rfl, _⟩ := ho7.form
        obtain ⟨y7, hy7⟩ : ∃ y7, Z.length = y7 := ⟨_, rfl⟩
        have HY7 := hide hy7
        rw [hy7] at HO7 ⊢
        rw [HZ.out] at HO7 HY7
        clear ho7 hb7 HAI hy7 HOJ HBJ
        go_wp2_with fail
        go_roundw
        case rel => exact ⟨j + 1, y7, a7, k7, rfl, by go_num, by omega, HY7, HO7, HB7⟩
        case measure => simp [intOf]; omega
      · have hle : l.take j = l := List.take_of_length_le (by rw [← HNl.out]; omega)
        rw [hle, ← HXe.out] at HRD HY
        have HXok := hide (show mapOk X by rw [HXe.out]; exact mapOk_applyL l m HMok.out HBok.out.2.2)
        have HX4 := hide ((HX3.out.below HBJ.out (Nat.le_refl _)).mono HBJ.out.size)
        have hny : n2 = y := by rw [HN2.out, HY.out]
        subst hny
        have HSS := hide (fun W (h1 : elKV.Rd W W.heap.size a2 X) (h2 : elKV.Rd W W.heap.size ao X) => sameMap_same a2 ao c2 co X W h1 h2 (by rw [HY.out]; omega))
        have HMX := hide (fun W (h1 : elKV.Rd W W.heap.size a2 X) => sMapOk_any a2 c2 X W h1 (by rw [HY.out]; omega))
        have HIB := hide (fun W (h1 : elKV.Rd W W.heap.size a2 X) => iBytes_any a2 c2 X W h1 (by rw [HY.out]; omega))
        have HSB := hide (fun W (h1 : elKV.Rd W W.heap.size a2 X) => sBytes_any a2 c2 X W h1 (by rw [HY.out]; omega))
        rw [decide_eq_true HXok.out] at HMX
        rw [HY.out] at HSS HMX HIB HSB
        generalize bytesV X = BV at HIB HSB
        clear hle hplo HXok HOJ HX3 HN2 HRl3 HOm3 HRm3
        go_wp2_with fail
        refine (HSS.out _ HX4.out HRD.out).mono ?_
        rintro e w5 ⟨rfl, hb5⟩
        have HB5 := hide (HBw.out.trans (hb5.mono hsj))
        have HX5 := hide ((HX4.out.below hb5 (Nat.le_refl _)).mono hb5.size)
        clear hb5 HX4 HRD HSS HBw HBJ
        go_wp2_with fail
        refine (HMX.out _ HX5.out).mono ?_
        rintro e w6 ⟨rfl, hb6⟩
        have HB6 := hide (HB5.out.trans (hb6.mono HB5.out.size))
        have HX6 := hide ((HX5.out.below hb6 (Nat.le_refl _)).mono hb6.size)
        clear hb6 HX5 HB5 HMX
        go_wp2_with fail
        refine (HIB.out _ HX6.out).mono ?_
        rintro e w7 ⟨rfl, hb7⟩
        have HB7 := hide (HB6.out.trans (hb7.mono HB6.out.size))
        have HX7 := hide ((HX6.out.below hb7 (Nat.le_refl _)).mono hb7.size)
        clear hb7 HX6 HB6 HIB
        go_wp2_with fail
        refine (HSB.out _ HX7.out).mono ?_
        rintro e wX ⟨rfl, hb8⟩
        have HB := hide (HB7.out.trans (hb8.mono HB7.out.size))
        clear hb8 HX7 HB7 HSB HB3
        have HSD := hide (drawShow_any (B := w.heap.size) a cap bs wX HB.out.size (HC.out.below HB.out) hm)
        rw [← HN.out] at HSD
        go_wp2_with fail
        refine HSD.out.mono ?_
        rintro e t1 ⟨vb, b, rfl, hob, hlb, hbb⟩
        have HT1 := hide (HB.out.trans (hbb.mono HB.out.size))
        obtain ⟨ab, cb, rfl, hrb, _⟩ := hob.form
        have HRb := hide hrb
        have HISH := hide (fun W (h : elOp.Rd W W.heap.size ab b) => iShow_any ab cb b W h (by omega))
        have HBO := hide (fun W (h : elOp.Rd W W.heap.size ab b) => sBatchOk_any ab cb b W h (by omega))
        obtain ⟨M, hM6, hMb, hMR⟩ := read_shown b
        have HMb := hide hMb
        have HMR := hide hMR
        have HVL := hide (showL_len b)
        obtain ⟨V, hV⟩ : ∃ V, V = showL b := ⟨_, rfl⟩
        have HV := hide hV
        rw [← hV] at HISH HMR HVL
        obtain ⟨nb, hnb⟩ : ∃ nb, nb = b.length := ⟨_, rfl⟩
        rw [← hnb] at HISH HBO ⊢
        clear hob hbb hrb hMb hMR hV hnb HSD
        go_wp2_with fail
        refine (HISH.out _ HRb.out).mono ?_
        rintro e t2 ⟨rfl, hb2⟩
        have HT2 := hide (HT1.out.trans (hb2.mono HT1.out.size))
        have HRb2 := hide ((HRb.out.below hb2 (Nat.le_refl _)).mono hb2.size)
        clear hb2 HISH HRb
        go_wp2_with fail
        refine (HMR.out _).mono ?_
        rintro e t3 ⟨v3, rfl, ho3, hb3⟩
        have HT3 := hide (HT2.out.trans (hb3.mono HT2.out.size))
        have HRb3 := hide ((HRb2.out.below hb3 (Nat.le_refl _)).mono hb3.size)
        obtain ⟨a3, c3, rfl, hr3, _⟩ := ho3.form
        have HR3 := hide hr3
        have HSM := hide (fun W (h : elOp.Rd W W.heap.size a3 M) => iShow_any a3 c3 M W h (by omega))
        obtain ⟨n3, hn3⟩ : ∃ n3, n3 = M.length := ⟨_, rfl⟩
        rw [← hn3] at HSM ⊢
        clear hb3 ho3 hr3 HRb2 hn3 HMR
        have HRD := hide (drawRead_any (B := w.heap.size) a cap bs t3 HT3.out.size (HC.out.below HT3.out) hm)
        rw [← HN.out] at HRD
        go_wp2_with fail
        refine HRD.out.mono ?_
        rintro e t4 ⟨s4, rfl, hs4, hb4⟩
        have HT4 := hide (HT3.out.trans (hb4.mono HT3.out.size))
        have HRb4 := hide ((HRb3.out.below hb4 (Nat.le_refl _)).mono hb4.size)
        have HR4 := hide ((HR3.out.below hb4 (Nat.le_refl _)).mono hb4.size)
        obtain ⟨K, Q, hK6, hQK, hKI, hKS⟩ := read_letters s4 hs4
        have HQK := hide hQK
        have HKI := hide hKI
        have HKS := hide hKS
        clear hb4 HRb3 HR3 HRD hQK hKI hKS
        go_wp2_with fail
        refine (HKI.out _).mono ?_
        rintro e t5 ⟨v5, rfl, ho5, hb5⟩
        have HT5 := hide (HT4.out.trans (hb5.mono HT4.out.size))
        have HRb5 := hide ((HRb4.out.below hb5 (Nat.le_refl _)).mono hb5.size)
        have HR5 := hide ((HR4.out.below hb5 (Nat.le_refl _)).mono hb5.size)
        obtain ⟨a5, c5, rfl, hr5, _⟩ := ho5.form
        have HK5 := hide hr5
        have HSK := hide (fun W (h : elOp.Rd W W.heap.size a5 K) => iShow_any a5 c5 K W h (by omega))
        obtain ⟨n5, hn5⟩ : ∃ n5, n5 = K.length := ⟨_, rfl⟩
        rw [← hn5] at HSK ⊢
        clear hb5 ho5 hr5 HRb4 HR4 hn5 HKI
        go_wp2_with fail
        refine (HKS.out _).mono ?_
        rintro e t6 ⟨v6, rfl, ho6, hb6⟩
        have HT6 := hide (HT5.out.trans (hb6.mono HT5.out.size))
        have HRb6 := hide ((HRb5.out.below hb6 (Nat.le_refl _)).mono hb6.size)
        have HR6 := hide ((HR5.out.below hb6 (Nat.le_refl _)).mono hb6.size)
        have HK6 := hide ((HK5.out.below hb6 (Nat.le_refl _)).mono hb6.size)
        obtain ⟨a6, c6, rfl, _⟩ := ho6.form
        clear hb6 ho6 HRb5 HR5 HK5 HKS
        go_wp2_with fail
        refine (HBO.out _ HRb6.out).mono ?_
        rintro e t7 ⟨rfl, hb7⟩
        have HT7 := hide (HT6.out.trans (hb7.mono HT6.out.size))
        have HR7 := hide ((HR6.out.below hb7 (Nat.le_refl _)).mono hb7.size)
        have HK7 := hide ((HK6.out.below hb7 (Nat.le_refl _)).mono hb7.size)
        clear hb7 HRb6 HR6 HK6 HBO
        by_cases hbk : batOk b
        · rw [decide_eq_true hbk]
          have hMe := HMb.out hbk
          have HVM := hide (show showL M = V by rw [hMe, HV.out])
          rw [HVM.out] at HSM
          clear hbk hMe HMb HV
          go_wp2_with fail
          refine (HSM.out _ HR7.out).mono ?_
          rintro e t8 ⟨rfl, hb8⟩
          have HT8 := hide (HT7.out.trans (hb8.mono HT7.out.size))
          have HK8 := hide ((HK7.out.below hb8 (Nat.le_refl _)).mono hb8.size)
          clear hb8 HSM HR7 HK7
          cases Q with
          | true =>
            have hK := HQK.out rfl
            rw [hK] at HSK
            have hbe : (bl s4 == s4.toList) = true := by rw [beq_iff_eq, ByteArray.toList_eq]; rfl
            clear hK HQK
            go_wp2_with fail
            refine (HSK.out _ HK8.out).mono ?_
            rintro e t9 ⟨rfl, hb9⟩
            have HT9 := hide (HT8.out.trans (hb9.mono HT8.out.size))
            clear hb9
            go_wp2_with fail
            go_ret
            exact ⟨rfl, HT9.out⟩
          | false =>
            go_wp2_with fail
            go_ret
            exact ⟨rfl, HT8.out⟩
        · rw [decide_eq_false hbk]
          clear hbk HMb HV HSM
          cases Q with
          | true =>
            have hK := HQK.out rfl
            rw [hK] at HSK
            have hbe : (bl s4 == s4.toList) = true := by rw [beq_iff_eq, ByteArray.toList_eq]; rfl
            clear hK HQK
            go_wp2_with fail
            refine (HSK.out _ HK7.out).mono ?_
            rintro e t9 ⟨rfl, hb9⟩
            have HT9 := hide (HT7.out.trans (hb9.mono HT7.out.size))
            clear hb9
            go_wp2_with fail
            go_ret
            exact ⟨rfl, HT9.out⟩
          | false =>
            go_wp2_with fail
            go_ret
            exact ⟨rfl, HT7.out⟩
  · have HMd := hide (show decide (mapOk m) = true from decide_eq_true hmo)
    rw [HMd.out] at HMO
    rw [hXe] at HX3 HN2
    have HSS := hide (fun W (h1 : elKV.Rd W W.heap.size a2 m) (h2 : elKV.Rd W W.heap.size am m) => sameMap_same a2 am c2 cm m W h1 h2 (by have := HNm.out; omega))
    rw [← HNm.out] at HSS HN2
    have hn2 := HN2.out
    subst hn2
    clear hmo hXe HMd HAC
    go_wp2_with fail
    refine (HMO.out _ HRm3.out).mono ?_
    rintro e w4 ⟨rfl, hb4⟩
    have HB4 := hide (HB3.out.trans (hb4.mono HB3.out.size))
    have HRm4 := hide ((HRm3.out.below hb4 (Nat.le_refl _)).mono hb4.size)
    have HX4 := hide ((HX3.out.below hb4 (Nat.le_refl _)).mono hb4.size)
    clear hb4 HRm3 HX3 HB3 HMO
    go_wp2_with fail
    refine (HSS.out _ HX4.out HRm4.out).mono ?_
    rintro e wX ⟨rfl, hb5⟩
    have HB := hide (HB4.out.trans (hb5.mono HB4.out.size))
    clear hb5 HB4 HX4 HRm4 HSS HRl3 HOm3 HN2
    have HSD := hide (drawShow_any (B := w.heap.size) a cap bs wX HB.out.size (HC.out.below HB.out) hm)
    rw [← HN.out] at HSD
    go_wp2_with fail
    refine HSD.out.mono ?_
    rintro e t1 ⟨vb, b, rfl, hob, hlb, hbb⟩
    have HT1 := hide (HB.out.trans (hbb.mono HB.out.size))
    obtain ⟨ab, cb, rfl, hrb, _⟩ := hob.form
    have HRb := hide hrb
    have HISH := hide (fun W (h : elOp.Rd W W.heap.size ab b) => iShow_any ab cb b W h (by omega))
    have HBO := hide (fun W (h : elOp.Rd W W.heap.size ab b) => sBatchOk_any ab cb b W h (by omega))
    obtain ⟨M, hM6, hMb, hMR⟩ := read_shown b
    have HMb := hide hMb
    have HMR := hide hMR
    have HVL := hide (showL_len b)
    obtain ⟨V, hV⟩ : ∃ V, V = showL b := ⟨_, rfl⟩
    have HV := hide hV
    rw [← hV] at HISH HMR HVL
    obtain ⟨nb, hnb⟩ : ∃ nb, nb = b.length := ⟨_, rfl⟩
    rw [← hnb] at HISH HBO ⊢
    clear hob hbb hrb hMb hMR hV hnb HSD
    go_wp2_with fail
    refine (HISH.out _ HRb.out).mono ?_
    rintro e t2 ⟨rfl, hb2⟩
    have HT2 := hide (HT1.out.trans (hb2.mono HT1.out.size))
    have HRb2 := hide ((HRb.out.below hb2 (Nat.le_refl _)).mono hb2.size)
    clear hb2 HISH HRb
    go_wp2_with fail
    refine (HMR.out _).mono ?_
    rintro e t3 ⟨v3, rfl, ho3, hb3⟩
    have HT3 := hide (HT2.out.trans (hb3.mono HT2.out.size))
    have HRb3 := hide ((HRb2.out.below hb3 (Nat.le_refl _)).mono hb3.size)
    obtain ⟨a3, c3, rfl, hr3, _⟩ := ho3.form
    have HR3 := hide hr3
    have HSM := hide (fun W (h : elOp.Rd W W.heap.size a3 M) => iShow_any a3 c3 M W h (by omega))
    obtain ⟨n3, hn3⟩ : ∃ n3, n3 = M.length := ⟨_, rfl⟩
    rw [← hn3] at HSM ⊢
    clear hb3 ho3 hr3 HRb2 hn3 HMR
    have HRD := hide (drawRead_any (B := w.heap.size) a cap bs t3 HT3.out.size (HC.out.below HT3.out) hm)
    rw [← HN.out] at HRD
    go_wp2_with fail
    refine HRD.out.mono ?_
    rintro e t4 ⟨s4, rfl, hs4, hb4⟩
    have HT4 := hide (HT3.out.trans (hb4.mono HT3.out.size))
    have HRb4 := hide ((HRb3.out.below hb4 (Nat.le_refl _)).mono hb4.size)
    have HR4 := hide ((HR3.out.below hb4 (Nat.le_refl _)).mono hb4.size)
    obtain ⟨K, Q, hK6, hQK, hKI, hKS⟩ := read_letters s4 hs4
    have HQK := hide hQK
    have HKI := hide hKI
    have HKS := hide hKS
    clear hb4 HRb3 HR3 HRD hQK hKI hKS
    go_wp2_with fail
    refine (HKI.out _).mono ?_
    rintro e t5 ⟨v5, rfl, ho5, hb5⟩
    have HT5 := hide (HT4.out.trans (hb5.mono HT4.out.size))
    have HRb5 := hide ((HRb4.out.below hb5 (Nat.le_refl _)).mono hb5.size)
    have HR5 := hide ((HR4.out.below hb5 (Nat.le_refl _)).mono hb5.size)
    obtain ⟨a5, c5, rfl, hr5, _⟩ := ho5.form
    have HK5 := hide hr5
    have HSK := hide (fun W (h : elOp.Rd W W.heap.size a5 K) => iShow_any a5 c5 K W h (by omega))
    obtain ⟨n5, hn5⟩ : ∃ n5, n5 = K.length := ⟨_, rfl⟩
    rw [← hn5] at HSK ⊢
    clear hb5 ho5 hr5 HRb4 HR4 hn5 HKI
    go_wp2_with fail
    refine (HKS.out _).mono ?_
    rintro e t6 ⟨v6, rfl, ho6, hb6⟩
    have HT6 := hide (HT5.out.trans (hb6.mono HT5.out.size))
    have HRb6 := hide ((HRb5.out.below hb6 (Nat.le_refl _)).mono hb6.size)
    have HR6 := hide ((HR5.out.below hb6 (Nat.le_refl _)).mono hb6.size)
    have HK6 := hide ((HK5.out.below hb6 (Nat.le_refl _)).mono hb6.size)
    obtain ⟨a6, c6, rfl, _⟩ := ho6.form
    clear hb6 ho6 HRb5 HR5 HK5 HKS
    go_wp2_with fail
    refine (HBO.out _ HRb6.out).mono ?_
    rintro e t7 ⟨rfl, hb7⟩
    have HT7 := hide (HT6.out.trans (hb7.mono HT6.out.size))
    have HR7 := hide ((HR6.out.below hb7 (Nat.le_refl _)).mono hb7.size)
    have HK7 := hide ((HK6.out.below hb7 (Nat.le_refl _)).mono hb7.size)
    clear hb7 HRb6 HR6 HK6 HBO
    by_cases hbk : batOk b
    · rw [decide_eq_true hbk]
      have hMe := HMb.out hbk
      have HVM := hide (show showL M = V by rw [hMe, HV.out])
      rw [HVM.out] at HSM
      clear hbk hMe HMb HV
      go_wp2_with fail
      refine (HSM.out _ HR7.out).mono ?_
      rintro e t8 ⟨rfl, hb8⟩
      have HT8 := hide (HT7.out.trans (hb8.mono HT7.out.size))
      have HK8 := hide ((HK7.out.below hb8 (Nat.le_refl _)).mono hb8.size)
      clear hb8 HSM HR7 HK7
      cases Q with
      | true =>
        have hK := HQK.out rfl
        rw [hK] at HSK
        have hbe : (bl s4 == s4.toList) = true := by rw [beq_iff_eq, ByteArray.toList_eq]; rfl
        clear hK HQK
        go_wp2_with fail
        refine (HSK.out _ HK8.out).mono ?_
        rintro e t9 ⟨rfl, hb9⟩
        have HT9 := hide (HT8.out.trans (hb9.mono HT8.out.size))
        clear hb9
        go_wp2_with fail
        go_ret
        exact ⟨rfl, HT9.out⟩
      | false =>
        go_wp2_with fail
        go_ret
        exact ⟨rfl, HT8.out⟩
    · rw [decide_eq_false hbk]
      clear hbk HMb HV HSM
      cases Q with
      | true =>
        have hK := HQK.out rfl
        rw [hK] at HSK
        have hbe : (bl s4 == s4.toList) = true := by rw [beq_iff_eq, ByteArray.toList_eq]; rfl
        clear hK HQK
        go_wp2_with fail
        refine (HSK.out _ HK7.out).mono ?_
        rintro e t9 ⟨rfl, hb9⟩
        have HT9 := hide (HT7.out.trans (hb9.mono HT7.out.size))
        clear hb9
        go_wp2_with fail
        go_ret
        exact ⟨rfl, HT9.out⟩
      | false =>
        go_wp2_with fail
        go_ret
        exact ⟨rfl, HT7.out⟩
  · have HMd := hide (show decide (mapOk m) = false from decide_eq_false hmo)
    rw [HMd.out] at HMO
    clear hmo HMd HAC
    go_wp2_with fail
    refine (HMO.out _ HRm3.out).mono ?_
    rintro e wX ⟨rfl, hb4⟩
    have HB := hide (HB3.out.trans (hb4.mono HB3.out.size))
    clear hb4 HRm3 HX3 HB3 HMO HRl3 HOm3 HN2
    have HSD := hide (drawShow_any (B := w.heap.size) a cap bs wX HB.out.size (HC.out.below HB.out) hm)
    rw [← HN.out] at HSD
    go_wp2_with fail
    refine HSD.out.mono ?_
    rintro e t1 ⟨vb, b, rfl, hob, hlb, hbb⟩
    have HT1 := hide (HB.out.trans (hbb.mono HB.out.size))
    obtain ⟨ab, cb, rfl, hrb, _⟩ := hob.form
    have HRb := hide hrb
    have HISH := hide (fun W (h : elOp.Rd W W.heap.size ab b) => iShow_any ab cb b W h (by omega))
    have HBO := hide (fun W (h : elOp.Rd W W.heap.size ab b) => sBatchOk_any ab cb b W h (by omega))
    obtain ⟨M, hM6, hMb, hMR⟩ := read_shown b
    have HMb := hide hMb
    have HMR := hide hMR
    have HVL := hide (showL_len b)
    obtain ⟨V, hV⟩ : ∃ V, V = showL b := ⟨_, rfl⟩
    have HV := hide hV
    rw [← hV] at HISH HMR HVL
    obtain ⟨nb, hnb⟩ : ∃ nb, nb = b.length := ⟨_, rfl⟩
    rw [← hnb] at HISH HBO ⊢
    clear hob hbb hrb hMb hMR hV hnb HSD
    go_wp2_with fail
    refine (HISH.out _ HRb.out).mono ?_
    rintro e t2 ⟨rfl, hb2⟩
    have HT2 := hide (HT1.out.trans (hb2.mono HT1.out.size))
    have HRb2 := hide ((HRb.out.below hb2 (Nat.le_refl _)).mono hb2.size)
    clear hb2 HISH HRb
    go_wp2_with fail
    refine (HMR.out _).mono ?_
    rintro e t3 ⟨v3, rfl, ho3, hb3⟩
    have HT3 := hide (HT2.out.trans (hb3.mono HT2.out.size))
    have HRb3 := hide ((HRb2.out.below hb3 (Nat.le_refl _)).mono hb3.size)
    obtain ⟨a3, c3, rfl, hr3, _⟩ := ho3.form
    have HR3 := hide hr3
    have HSM := hide (fun W (h : elOp.Rd W W.heap.size a3 M) => iShow_any a3 c3 M W h (by omega))
    obtain ⟨n3, hn3⟩ : ∃ n3, n3 = M.length := ⟨_, rfl⟩
    rw [← hn3] at HSM ⊢
    clear hb3 ho3 hr3 HRb2 hn3 HMR
    have HRD := hide (drawRead_any (B := w.heap.size) a cap bs t3 HT3.out.size (HC.out.below HT3.out) hm)
    rw [← HN.out] at HRD
    go_wp2_with fail
    refine HRD.out.mono ?_
    rintro e t4 ⟨s4, rfl, hs4, hb4⟩
    have HT4 := hide (HT3.out.trans (hb4.mono HT3.out.size))
    have HRb4 := hide ((HRb3.out.below hb4 (Nat.le_refl _)).mono hb4.size)
    have HR4 := hide ((HR3.out.below hb4 (Nat.le_refl _)).mono hb4.size)
    obtain ⟨K, Q, hK6, hQK, hKI, hKS⟩ := read_letters s4 hs4
    have HQK := hide hQK
    have HKI := hide hKI
    have HKS := hide hKS
    clear hb4 HRb3 HR3 HRD hQK hKI hKS
    go_wp2_with fail
    refine (HKI.out _).mono ?_
    rintro e t5 ⟨v5, rfl, ho5, hb5⟩
    have HT5 := hide (HT4.out.trans (hb5.mono HT4.out.size))
    have HRb5 := hide ((HRb4.out.below hb5 (Nat.le_refl _)).mono hb5.size)
    have HR5 := hide ((HR4.out.below hb5 (Nat.le_refl _)).mono hb5.size)
    obtain ⟨a5, c5, rfl, hr5, _⟩ := ho5.form
    have HK5 := hide hr5
    have HSK := hide (fun W (h : elOp.Rd W W.heap.size a5 K) => iShow_any a5 c5 K W h (by omega))
    obtain ⟨n5, hn5⟩ : ∃ n5, n5 = K.length := ⟨_, rfl⟩
    rw [← hn5] at HSK ⊢
    clear hb5 ho5 hr5 HRb4 HR4 hn5 HKI
    go_wp2_with fail
    refine (HKS.out _).mono ?_
    rintro e t6 ⟨v6, rfl, ho6, hb6⟩
    have HT6 := hide (HT5.out.trans (hb6.mono HT5.out.size))
    have HRb6 := hide ((HRb5.out.below hb6 (Nat.le_refl _)).mono hb6.size)
    have HR6 := hide ((HR5.out.below hb6 (Nat.le_refl _)).mono hb6.size)
    have HK6 := hide ((HK5.out.below hb6 (Nat.le_refl _)).mono hb6.size)
    obtain ⟨a6, c6, rfl, _⟩ := ho6.form
    clear hb6 ho6 HRb5 HR5 HK5 HKS
    go_wp2_with fail
    refine (HBO.out _ HRb6.out).mono ?_
    rintro e t7 ⟨rfl, hb7⟩
    have HT7 := hide (HT6.out.trans (hb7.mono HT6.out.size))
    have HR7 := hide ((HR6.out.below hb7 (Nat.le_refl _)).mono hb7.size)
    have HK7 := hide ((HK6.out.below hb7 (Nat.le_refl _)).mono hb7.size)
    clear hb7 HRb6 HR6 HK6 HBO
    by_cases hbk : batOk b
    · rw [decide_eq_true hbk]
      have hMe := HMb.out hbk
      have HVM := hide (show showL M = V by rw [hMe, HV.out])
      rw [HVM.out] at HSM
      clear hbk hMe HMb HV
      go_wp2_with fail
      refine (HSM.out _ HR7.out).mono ?_
      rintro e t8 ⟨rfl, hb8⟩
      have HT8 := hide (HT7.out.trans (hb8.mono HT7.out.size))
      have HK8 := hide ((HK7.out.below hb8 (Nat.le_refl _)).mono hb8.size)
      clear hb8 HSM HR7 HK7
      cases Q with
      | true =>
        have hK := HQK.out rfl
        rw [hK] at HSK
        have hbe : (bl s4 == s4.toList) = true := by rw [beq_iff_eq, ByteArray.toList_eq]; rfl
        clear hK HQK
        go_wp2_with fail
        refine (HSK.out _ HK8.out).mono ?_
        rintro e t9 ⟨rfl, hb9⟩
        have HT9 := hide (HT8.out.trans (hb9.mono HT8.out.size))
        clear hb9
        go_wp2_with fail
        go_ret
        exact ⟨rfl, HT9.out⟩
      | false =>
        go_wp2_with fail
        go_ret
        exact ⟨rfl, HT8.out⟩
    · rw [decide_eq_false hbk]
      clear hbk HMb HV HSM
      cases Q with
      | true =>
        have hK := HQK.out rfl
        rw [hK] at HSK
        have hbe : (bl s4 == s4.toList) = true := by rw [beq_iff_eq, ByteArray.toList_eq]; rfl
        clear hK HQK
        go_wp2_with fail
        refine (HSK.out _ HK7.out).mono ?_
        rintro e t9 ⟨rfl, hb9⟩
        have HT9 := hide (HT7.out.trans (hb9.mono HT7.out.size))
        clear hb9
        go_wp2_with fail
        go_ret
        exact ⟨rfl, HT9.out⟩
      | false =>
        go_wp2_with fail
        go_ret
        exact ⟨rfl, HT7.out⟩

theorem law_batches (a0 : Option Addr) (len0 cap0 : Nat) (z0 : List Int) (w : World) (w0 : IsRow .u8 w a0 len0 cap0 z0) :
    Calls Try.prog 3 #[.slice a0 len0 cap0] w fun e w' => e = .returned (.bool true) ∧ Below w.heap.size w w' := by
  obtain ⟨h1, h2⟩ := w0.code
  have := batches_core a0 cap0 (z0.take len0) w h2
  rwa [h1] at this
end Go.Proofs.Ytmdhihgfnlnbnaa
