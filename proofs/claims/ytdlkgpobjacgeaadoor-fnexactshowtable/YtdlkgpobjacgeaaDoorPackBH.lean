/-
  Texts of this proof, put together: TabB, TabC, TabE, TabK.
-/
import Derived.Test.YtdlkgpobjacgeaaDoorPackBG
import Derived.Test.YtdlkgpobjacgeaaDoorPackBF
import Derived.Laws.StructEq
import Derived.WalkLawsBesides
import Derived.Test.YtdlkgpobjacgeaaDoorPackAI
import Derived.Deep.RegionHeld3

/-
  Contracts of spec.l12Same and TableEnts.
-/
namespace Go.Proofs.YtdlkgpobjacgeaaDoor
open Go.ChangeShapes Go.WideShapes Go.ChangeAt Go.RowKit

theorem str_eqB (a b : ByteArray) : (a.toList == b.toList) = decide (a = b) := by
  rw [Bool.eq_iff_iff, beq_iff_eq, decide_eq_true_eq, ByteArray.toList_eq, ByteArray.toList_eq]
  constructor
  · intro h
    rw [← str_of a, ← str_of b]
    exact congrArg (fun l : List UInt8 => (⟨l.toArray⟩ : ByteArray)) h
  · rintro rfl
    rfl
theorem list_at_ne {α : Type} {P Q : List α} {j : Nat} {x y : α} (h1 : P[j]? = some x) (h2 : Q[j]? = some y) (h : x ≠ y) : P ≠ Q := fun e => by
  rw [e, h2] at h1
  exact h (Option.some.inj h1).symm
theorem list_all_eq {α : Type} {P Q : List α} (hl : P.length = Q.length) (h : ∀ i, i < P.length → P[i]? = Q[i]?) : P = Q := by
  apply List.ext_getElem?
  intro i
  by_cases hi : i < P.length
  · exact h i hi
  · rw [List.getElem?_eq_none (by omega), List.getElem?_eq_none (by omega)]

set_option maxHeartbeats 2000000 in
set_option maxRecDepth 40000 in
theorem l12Same_any (a1 a2 : Option Addr) (c1 c2 : Nat) (P Q : List PartE) (b1 b2 : ByteArray) (m1 m2 : Int) (w : World) (h1 : elPart.Rd w w.heap.size a1 P) (h2 : elPart.Rd w w.heap.size a2 Q) (hl1 : P.length ≤ maxLen) (_ : Q.length ≤ maxLen) :
    Calls Tryd.prog 42 #[.agg #[.slice a1 P.length c1, .string b1, .int .i64 m1], .agg #[.slice a2 Q.length c2, .string b2, .int .i64 m2]] w (BoolPost w (decide ((P, b1, m1) = (Q, b2, m2)))) := by
  have H1 := hide h1
  have H2 := hide h2
  clear h1 h2
  obtain ⟨V, hV⟩ : ∃ V, V = decide ((P, b1, m1) = (Q, b2, m2)) := ⟨_, rfl⟩
  have HV := hide hV
  rw [← hV]
  obtain ⟨n, hn⟩ : ∃ n, n = P.length := ⟨_, rfl⟩
  have HN := hide hn
  obtain ⟨k, hk⟩ : ∃ k, k = Q.length := ⟨_, rfl⟩
  have HK := hide hk
  rw [← hn] at hl1 ⊢
  rw [← hk]
  unfold maxLen at hl1
  have HX1 := hide ((BoxV.new 26 w #[.slice a1 n c1, .string b1, .int .i64 m1]).alloc (.cells #[.slice a2 k c2, .string b2, .int .i64 m2] 26))
  have HX2 := hide (show BoxV 26 ((w.alloc (.cells #[.slice a1 n c1, .string b1, .int .i64 m1] 26)).alloc (.cells #[.slice a2 k c2, .string b2, .int .i64 m2] 26)) (w.heap.size + 1) #[.slice a2 k c2, .string b2, .int .i64 m2] from by
    have h := BoxV.new 26 (w.alloc (.cells #[.slice a1 n c1, .string b1, .int .i64 m1] 26)) #[.slice a2 k c2, .string b2, .int .i64 m2]
    rw [Go.Deep.nblk_alloc] at h
    exact h)
  have HBB := hide (((Below.refl w.heap.size w).alloc (Nat.le_refl _) (.cells #[.slice a1 n c1, .string b1, .int .i64 m1] 26)).alloc (by simp) (.cells #[.slice a2 k c2, .string b2, .int .i64 m2] 26))
  clear hV hn hk
  have e1 := str_eqB b1 b2
  by_cases hb : b1 = b2
  · rw [decide_eq_true hb] at e1
    by_cases hm : m1 = m2
    · have e2 : (m1 != m2) = false := by rw [bne_eq_false_iff_eq]; exact hm
      by_cases hlen : n = k
      · have HBM := hide (show b1 = b2 ∧ m1 = m2 ∧ n = k from ⟨hb, hm, hlen⟩)
        have e3 : ((n : Int) != (k : Int)) = false := by rw [bne_eq_false_iff_eq]; omega
        clear hb hm hlen
        go_enter Tryd.func42, Tryd.ntmps42
        go_wp2_with fail
        go_loopw [5] (fun i wr => ∃ j : Nat, i = .int .i64 j ∧ j ≤ n ∧ Hid (∀ i, i < j → P[i]? = Q[i]?) ∧ Hid (Below ((w.alloc (.cells #[.slice a1 n c1, .string b1, .int .i64 m1] 26)).alloc (.cells #[.slice a2 k c2, .string b2, .int .i64 m2] 26)).heap.size ((w.alloc (.cells #[.slice a1 n c1, .string b1, .int .i64 m1] 26)).alloc (.cells #[.slice a2 k c2, .string b2, .int .i64 m2] 26)) wr)) (fun i _ => n - (intOf i).toNat)
        case atStart => exact ⟨0, rfl, by omega, fun i hi => by omega, Below.refl _ _⟩
        case round =>
          obtain ⟨j, rfl, hj, HE, HB⟩ := hrel
          have HW := hide (HBB.out.trans (HB.out.mono HBB.out.size))
          have HY1 := hide (HX1.out.below HB.out HX1.out.lt)
          have HY2 := hide (HX2.out.below HB.out HX2.out.lt)
          obtain ⟨x0, x1, x2⟩ := HY1.out.three
          obtain ⟨y0, y1, y2⟩ := HY2.out.three
          by_cases hlt : j < n
          · have hjP : j < P.length := by rw [← HN.out]; exact hlt
            have hjQ : j < Q.length := by rw [← HK.out, ← HBM.out.2.2]; exact hlt
            have hjk : j < k := by rw [HK.out]; exact hjQ
            obtain ⟨g1, o1, rfl, hg1, hc1⟩ := H1.out (by omega)
            obtain ⟨g2, o2, rfl, hg2, hc2⟩ := H2.out (by omega)
            obtain ⟨f0, f1, hx⟩ := partsPart P[j]
            obtain ⟨q0, q1, hy⟩ := partsPart Q[j]
            obtain ⟨p0, p1⟩ := cellsPart hx (hc1 j hjP)
            obtain ⟨r0, r1⟩ := cellsPart hy (hc2 j hjQ)
            have d0 := (HW.out.cell (p := ⟨g1, o1 + j * 2, none⟩) hg1).trans p0
            have d1 := (HW.out.cell (p := ⟨g1, o1 + j * 2 + 1, none⟩) hg1).trans p1
            have e0 := (HW.out.cell (p := ⟨g2, o2 + j * 2, none⟩) hg2).trans r0
            have e1' := (HW.out.cell (p := ⟨g2, o2 + j * 2 + 1, none⟩) hg2).trans r1
            have HPJ := hide (show P[j]? = some (f0, f1) by rw [List.getElem?_eq_getElem hjP, hx])
            have HQJ := hide (show Q[j]? = some (q0, q1) by rw [List.getElem?_eq_getElem hjQ, hy])
            have s0 := str_eqB f0 q0
            have s1 := str_eqB f1 q1
            clear hc1 hc2 p0 p1 r0 r1 hx hy hjP hjQ
            by_cases hpq : (f0, f1) = (q0, q1)
            · obtain ⟨rfl, rfl⟩ := Prod.mk.inj hpq
              clear s0 s1 hpq
              have HE2 := hide (show ∀ i, i < j + 1 → P[i]? = Q[i]? from fun i hi => by
                rcases Nat.lt_or_ge i j with h | h
                · exact HE.out i h
                · rw [show i = j by omega, HPJ.out, HQJ.out])
              go_wp2_with fail
              go_quiet (fail)
              go_wp2_with fail
              go_roundw
              case rel => exact ⟨j + 1, by go_num, by omega, HE2, belN HB.out _⟩
              case measure => simp [intOf]; omega
            · have HVn := hide (show V = false from HV.out.trans (decide_eq_false fun h => list_at_ne HPJ.out HQJ.out hpq (Prod.mk.inj h).1))
              by_cases h0 : f0 = q0
              · rw [decide_eq_true h0] at s0
                rw [decide_eq_false (fun h1 => hpq (Prod.ext h0 h1))] at s1
                clear hpq h0
                go_wp2_with fail
                go_quiet (fail)
                go_wp2_with fail
                go_ret
                exact ⟨by rw [HVn.out]; rfl, belN HW.out _⟩
              · rw [decide_eq_false h0] at s0
                clear s1 hpq h0
                go_wp2_with fail
                go_quiet (fail)
                go_wp2_with fail
                go_ret
                exact ⟨by rw [HVn.out]; rfl, belN HW.out _⟩
          · have HVy := hide (show V = true from HV.out.trans (decide_eq_true (by
              have hE : P = Q := list_all_eq (by have := HBM.out.2.2; rw [← HN.out, ← HK.out]; exact this) fun i hi => HE.out i (by rw [← HN.out] at hi; omega)
              rw [hE, HBM.out.1, HBM.out.2.1])))
            go_wp2_with fail
            go_ret
            exact ⟨by rw [HVy.out]; rfl, HW.out⟩
      · have HVn := hide (show V = false from HV.out.trans (decide_eq_false fun h => hlen (by rw [HN.out, HK.out, (Prod.mk.inj h).1])))
        have e3 : ((n : Int) != (k : Int)) = true := by rw [bne_iff_ne]; omega
        clear hb hm hlen
        go_enter Tryd.func42, Tryd.ntmps42
        go_wp2_with fail
        go_ret
        exact ⟨by rw [HVn.out]; rfl, HBB.out⟩
    · have HVn := hide (show V = false from HV.out.trans (decide_eq_false fun h => hm (Prod.mk.inj (Prod.mk.inj h).2).2))
      have e2 : (m1 != m2) = true := by rw [bne_iff_ne]; exact hm
      clear hb hm
      go_enter Tryd.func42, Tryd.ntmps42
      go_wp2_with fail
      go_ret
      exact ⟨by rw [HVn.out]; rfl, HBB.out⟩
  · have HVn := hide (show V = false from HV.out.trans (decide_eq_false fun h => hb (Prod.mk.inj (Prod.mk.inj h).2).1))
    rw [decide_eq_false hb] at e1
    clear hb
    go_enter Tryd.func42, Tryd.ntmps42
    go_wp2_with fail
    go_ret
    exact ⟨by rw [HVn.out]; rfl, HBB.out⟩
end Go.Proofs.YtdlkgpobjacgeaaDoor

/-
  Contract of spec.TableEnts.
-/
namespace Go.Proofs.YtdlkgpobjacgeaaDoor
open Go.ChangeShapes Go.WideShapes Go.ChangeAt Go.RowKit

def TEPost (w : World) (t : Tbl) (e : Ending) (w' : World) : Prop :=
  ∃ v, e = .returned (.tuple #[v, .bool (tabQ t)]) ∧ elEnt.Owns w.heap.size w' v (tabE t) ∧ Below w.heap.size w w'
theorem TEPost.no {w w' : World} {t : Tbl} (h : tabE t = [] ∧ tabQ t = false) (v : Value) (ho : elEnt.Owns w.heap.size w' v []) (hb : Below w.heap.size w w') : TEPost w t (.returned (.tuple #[v, .bool false])) w' :=
  ⟨v, by rw [h.2], by rw [h.1]; exact ho, hb⟩
theorem litEnt0 (B : Nat) (w : World) (hB : B ≤ w.heap.size) : elEnt.Owns B (w.alloc (.cells #[] 52)) (.slice (some ⟨w.heap.size, 0, none⟩) 0 0) [] := El.Owns.lit (e := elEnt) B w [] #[] 0 rfl rfl hB (by simp [maxLen])
theorem tblV_len (L : List En) : (tblV L).1.length ≤ 10 := by
  by_cases h : tblOk L
  · rw [tblV_yes h]
    exact (parts_len (isTbl_mk' h).1).2
  · rw [tblV_no h]
    show ([] : List Prt).length ≤ 10
    simp

set_option maxHeartbeats 2000000 in
set_option maxRecDepth 40000 in
theorem sTableEnts_any (a : Option Addr) (cap : Nat) (P : List PartE) (b : ByteArray) (m : Int) (w : World) (hr : elPart.Rd w w.heap.size a P) (hl : P.length ≤ 1048576) (hk : ∀ x ∈ P, x.2.size ≤ 1048576) :
    Calls Tryd.prog 17 #[.agg #[.slice a P.length cap, .string b, .int .i64 m]] w (TEPost w (P, b, m)) := by
  have HR := hide hr
  have HK := hide hk
  have HTW := hide (tab_whole (P, b, m))
  have HBD := hide (fun (p : PartE) (hp : p ∈ P) (h : readKQ (bl p.2) = false) => tab_bad (t := (P, b, m)) hp h)
  clear hr hk
  obtain ⟨n, hn⟩ : ∃ n, n = P.length := ⟨_, rfl⟩
  have HN := hide hn
  rw [← hn] at hl ⊢
  clear hn
  have HX0 := hide (BoxV.new 26 w #[.slice a n cap, .string b, .int .i64 m])
  have HX1 := hide (HX0.out.alloc (.cells #[] 52))
  have HB0 := hide ((Below.refl w.heap.size w).alloc (Nat.le_refl _) (.cells #[.slice a n cap, .string b, .int .i64 m] 26))
  have HB1 := hide (HB0.out.alloc HB0.out.size (.cells #[] 52))
  have HO1 := hide (show elEnt.Owns w.heap.size ((w.alloc (.cells #[.slice a n cap, .string b, .int .i64 m] 26)).alloc (.cells #[] 52)) (.slice (some ⟨w.heap.size + 1, 0, none⟩) 0 0) (entsP (P.take 0)) from by
    have h := litEnt0 w.heap.size (w.alloc (.cells #[.slice a n cap, .string b, .int .i64 m] 26)) HB0.out.size
    rw [Go.Deep.nblk_alloc] at h
    exact h)
  go_enter Tryd.func17, Tryd.ntmps17
  go_wp2_with fail
  go_loopw [4, 5] (fun o i wr => ∃ (j k : Nat) (a' : Option Addr) (c' : Nat), o = .slice a' k c' ∧ i = .int .i64 j ∧ j ≤ n ∧ k ≤ 16 * j ∧ Hid (elEnt.Owns w.heap.size wr (.slice a' k c') (entsP (P.take j))) ∧ Hid (BoxV 26 wr w.heap.size #[.slice a n cap, .string b, .int .i64 m]) ∧ Hid (Below w.heap.size w wr)) (fun _ i _ => n - (intOf i).toNat)
  case atStart => exact ⟨0, 0, _, _, rfl, rfl, by omega, by omega, HO1, HX1, HB1⟩
  case round =>
    obtain ⟨j, k, a', c', rfl, rfl, hj, hk, HO, HX, HB⟩ := hrel
    have hs := HB.out.size
    obtain ⟨x0, x1, x2⟩ := HX.out.three
    by_cases hlt : j < n
    · have hjP : j < P.length := by rw [← HN.out]; exact hlt
      obtain ⟨g, off, rfl, hg, hcell⟩ := HR.out (by omega)
      obtain ⟨f0, f1, hx⟩ := partsPart P[j]
      obtain ⟨c0, c1⟩ := cellsPart hx (hcell j hjP)
      have d1 := (HB.out.cell (p := ⟨g, off + j * 2 + 1, none⟩) hg).trans c1
      have HJ := hide (show P[j]? = some (f0, f1) by rw [List.getElem?_eq_getElem hjP, hx])
      have HMem := hide (show (f0, f1) ∈ P from List.mem_of_getElem? HJ.out)
      have HRB := hide (fun W => sReadBlock_any f1 (HK.out _ HMem.out) W)
      unfold ReadKPost at HRB
      have HES := hide (entsP_step HJ.out)
      have HBF := hide (HBD.out _ HMem.out)
      have hz := readK_bd (bl f1)
      obtain ⟨X, hX⟩ : ∃ X, X = readK (bl f1) := ⟨_, rfl⟩
      obtain ⟨q, hq⟩ : ∃ q, q = readKQ (bl f1) := ⟨_, rfl⟩
      simp only [← hX, ← hq] at HRB HES HBF hz
      clear hcell c0 c1 hx hjP hX hq
      go_wp2_with fail
      refine (HRB.out _).mono ?_
      rintro e w2 ⟨v, rfl, ho, hb2⟩
      obtain ⟨a2, c2, rfl, hrd, _⟩ := ho.form
      have HB2 := hide (HB.out.trans (hb2.mono hs))
      have HO2 := hide (HO.out.below hb2 (Nat.le_refl _))
      have HX2 := hide (HX.out.below hb2 HX.out.lt)
      have HS2 := hide ho.src
      have hs2 := HB2.out.size
      clear hb2 ho hrd HO HX HB d1 x0 x1 x2
      cases q with
      | false =>
        have HN1 := hide (HBF.out rfl)
        go_wp2_with fail
        go_ret2
        exact TEPost.no HN1.out _ (litEnt0 _ _ hs2) (HB2.out.alloc hs2 _)
      | true =>
        have hkl : (entsP (P.take (j + 1))).length = k + X.length := by
          have h := entsP_len (P.take j)
          rw [HES.out, List.length_append]
          congr 1
          obtain ⟨_, _, e, _⟩ := HO2.out.form
          injection e with _ e _
          exact e.symm
        obtain ⟨z, hz1⟩ : ∃ z, z = k + X.length := ⟨_, rfl⟩
        rw [← hz1] at hkl
        have hz2 : z ≤ 16 * (j + 1) := by omega
        clear hz1
        have hbb := hide (Below.refl w.heap.size w2)
        go_wp2_with (at_builtin; refine El.appendSrc (e := elEnt) rfl (.tmp 31) (.tmp 32) 29 rfl Tryd.underlying29 _ _ infoEnt rfl (by decide) (by decide) w.heap.size w2 w2 _ _ _ X rfl rfl HO2 HS2 hbb hs2 _ z HES.out.symm hkl (by omega) ?_; intro a5 c5 w5 HO5 HB5 hz5 HN5)
        have HX5 := hide (HX2.out.other HO2.out (by decide) HN5.out)
        have HW5 := hide (HB2.out.trans HB5.out)
        go_roundw
        case rel => exact ⟨j + 1, z, a5, c5, rfl, by go_num, by omega, hz2, HO5, HX5, HW5⟩
        case measure => simp [intOf]; omega
    · obtain rfl : j = n := by omega
      have hT : P.take j = P := List.take_of_length_le (by rw [← HN.out]; exact Nat.le_refl _)
      rw [hT] at HO
      obtain ⟨X, hX⟩ : ∃ X, X = entsP P := ⟨_, rfl⟩
      rw [← hX] at HO
      have HTW' := HTW
      simp only [← hX] at HTW'
      obtain ⟨aX, cX, e, hrX, hcX, _⟩ := HO.out.form
      injection e with e1 e2 e3
      subst e1 e3
      have hkX : k = X.length := e2
      have HKX := hide hkX
      have HTO := hide (sTableOf_any a' c' X wr hrX (by unfold maxLen; omega) (by omega))
      rw [← hkX] at HTO
      unfold TabPost at HTO
      obtain ⟨⟨Q, q1, q2⟩, hQ⟩ : ∃ t, t = tblV X := ⟨_, rfl⟩
      have HQL := hide (show Q.length ≤ 10 by have h := tblV_len X; rw [← hQ] at h; exact h)
      have HQ := hide hQ
      rw [← hQ] at HTO
      clear hX hQ hT hrX hcX e2 hkX HTW
      dsimp only at HTO
      by_cases hok : tblOk X
      · rw [decide_eq_true hok] at HTO
        go_wp2_with fail
        refine HTO.out.mono ?_
        rintro e w2 ⟨v, rfl, ho, hb2⟩
        obtain ⟨a2, c2, rfl, hrd, _⟩ := ho.form
        have HB2 := hide (HB.out.trans (hb2.mono hs))
        have HO2 := hide (HO.out.below hb2 (Nat.le_refl _))
        have HX2 := hide (HX.out.below hb2 HX.out.lt)
        have hs2 := HB2.out.size
        have HX3 := hide (HX2.out.alloc (.cells #[.slice a2 Q.length c2, .string q1, .int .i64 q2] 26))
        have HY3 := hide (BoxV.new 26 w2 #[.slice a2 Q.length c2, .string q1, .int .i64 q2])
        have HB3 := hide (HB2.out.alloc hs2 (.cells #[.slice a2 Q.length c2, .string q1, .int .i64 q2] 26))
        have HO3 := hide (HO2.out.alloc (.cells #[.slice a2 Q.length c2, .string q1, .int .i64 q2] 26))
        have hs3 := HB3.out.size
        have HSM := hide (l12Same_any a2 a c2 cap Q P q1 b q2 m (w2.alloc (.cells #[.slice a2 Q.length c2, .string q1, .int .i64 q2] 26)) ((hrd.below ((Below.refl w2.heap.size w2).alloc (Nat.le_refl _) _) (Nat.le_refl _)).mono (by simp)) ((HR.out.below HB3.out (Nat.le_refl _)).mono hs3) (by have := HQL.out; unfold maxLen; omega) (by rw [← HN.out]; unfold maxLen; omega))
        rw [← HN.out] at HSM
        obtain ⟨z0, z1, z2⟩ := HX3.out.three
        obtain ⟨y0, y1, y2⟩ := HY3.out.three
        clear hb2 ho hrd HO HX HB x0 x1 x2 HX2 HB2 HO2 HTO
        by_cases heq : (Q, q1, q2) = (P, b, m)
        · have HYS := hide (HTW'.out.1 ⟨hok, by rw [← tblV_yes hok, ← HQ.out, heq]⟩)
          rw [decide_eq_true heq] at HSM
          clear hok heq
          go_wp2_with fail
          refine HSM.out.mono ?_
          rintro e w4 ⟨rfl, hb4⟩
          have HB4 := hide (HB3.out.trans (hb4.mono hs3))
          have HO4 := hide (HO3.out.below hb4 (Nat.le_refl _))
          clear hb4
          go_wp2_with fail
          go_ret2
          exact ⟨_, by rw [HYS.out.2]; rfl, by rw [HYS.out.1]; exact HO4.out, HB4.out⟩
        · have HNS := hide (HTW'.out.2 fun h => heq (by rw [HQ.out, tblV_yes hok]; exact h.2))
          rw [decide_eq_false heq] at HSM
          clear hok heq
          go_wp2_with fail
          refine HSM.out.mono ?_
          rintro e w4 ⟨rfl, hb4⟩
          have HB4 := hide (HB3.out.trans (hb4.mono hs3))
          have hs4 := HB4.out.size
          clear hb4
          go_wp2_with fail
          go_ret2
          exact TEPost.no HNS.out _ (litEnt0 _ _ hs4) (HB4.out.alloc hs4 _)
      · have HNS := hide (HTW'.out.2 fun h => hok h.1)
        rw [decide_eq_false hok] at HTO
        clear hok
        go_wp2_with fail
        refine HTO.out.mono ?_
        rintro e w2 ⟨v, rfl, ho, hb2⟩
        obtain ⟨a2, c2, rfl, hrd, _⟩ := ho.form
        have HB2 := hide (HB.out.trans (hb2.mono hs))
        have hs2 := HB2.out.size
        have HB3 := hide (HB2.out.alloc hs2 (.cells #[.slice a2 Q.length c2, .string q1, .int .i64 q2] 26))
        have hs3 := HB3.out.size
        have hle := litEnt0 w.heap.size (w2.alloc (.cells #[.slice a2 Q.length c2, .string q1, .int .i64 q2] 26)) hs3
        rw [Go.Deep.nblk_alloc] at hle
        have HLE := hide hle
        clear hb2 ho hrd HO HX HB x0 x1 x2 HB2 HTO hle
        go_wp2_with fail
        go_ret2
        exact TEPost.no HNS.out _ HLE.out (HB3.out.alloc hs3 _)
end Go.Proofs.YtdlkgpobjacgeaaDoor

/-
  Contract of spec.ShowTable.
-/
namespace Go.Proofs.YtdlkgpobjacgeaaDoor
open Go.ChangeShapes Go.WideShapes Go.ChangeAt Go.RowKit

theorem tabQ_is {t : Tbl} (h : tabQ t = true) : isTbl t := decide_eq_true_iff.1 h
theorem tabQ_not {t : Tbl} (h : tabQ t = false) : ¬ isTbl t := fun hb => by
  rw [tabQ, decide_eq_true hb] at h
  cases h
/-- l is string a and string b behind one another, as the walk wants it -/
theorem cat_l (a b l : List UInt8) (h : a ++ b = l) (hn : a.length + b.length ≤ 1048576) : ∀ W : World, (Op.stringOp .add ⟨a.toArray⟩ ⟨b.toArray⟩).run Tryd.prog W = .ok (.string ⟨l.toArray⟩) W := by
  subst h
  exact run_cat a b hn
theorem cat_s (a l : List UInt8) (s : ByteArray) (h : a ++ bl s = l) (hn : a.length + s.size ≤ 1048576) : ∀ W : World, (Op.stringOp .add ⟨a.toArray⟩ s).run Tryd.prog W = .ok (.string ⟨l.toArray⟩) W := by
  subst h
  exact run_cat_s a s hn

set_option maxHeartbeats 4000000 in
set_option maxRecDepth 40000 in
theorem sShowTable_any (a : Option Addr) (cap : Nat) (P : List PartE) (b : ByteArray) (m : Int) (w : World) (hr : elPart.Rd w w.heap.size a P) (hl : P.length ≤ 1048576) (hk : ∀ x ∈ P, x.2.size ≤ 1048576) :
    Calls Tryd.prog 21 #[.agg #[.slice a P.length cap, .string b, .int .i64 m]] w (StrPost w (showT (P, b, m))) := by
  have HR := hide hr
  have HTE := hide (fun W h => sTableEnts_any a cap P b m W h hl hk)
  unfold TEPost at HTE
  obtain ⟨V, hV⟩ : ∃ V, V = showT (P, b, m) := ⟨_, rfl⟩
  have HV := hide hV
  rw [← hV]
  obtain ⟨n, hn⟩ : ∃ n, n = P.length := ⟨_, rfl⟩
  have HN := hide hn
  rw [← hn] at hl HTE ⊢
  obtain ⟨tq, htq⟩ : ∃ tq, tq = tabQ (P, b, m) := ⟨_, rfl⟩
  have HTQ := hide htq.symm
  rw [← htq] at HTE
  clear hn hr hk hV htq hl
  have HX0 := hide (BoxV.new 26 w #[.slice a n cap, .string b, .int .i64 m])
  have HB0 := hide ((Below.refl w.heap.size w).alloc (Nat.le_refl _) (.cells #[.slice a n cap, .string b, .int .i64 m] 26))
  have HEQ := hide (HTE.out _ ((HR.out.below HB0.out (Nat.le_refl _)).mono HB0.out.size))
  clear HTE
  go_enter Tryd.func21, Tryd.ntmps21
  go_wp2_with fail
  refine HEQ.out.mono ?_
  rintro e w1 ⟨v, rfl, ho, hb1⟩
  obtain ⟨a1, c1, rfl, _⟩ := ho.form
  have HX1 := hide (HX0.out.below hb1 HX0.out.lt)
  have HB1 := hide (HB0.out.trans (hb1.mono HB0.out.size))
  clear ho hb1 HX0 HB0 HEQ
  obtain ⟨x0, x1, x2⟩ := HX1.out.three
  cases tq with
  | false =>
    have HVn := hide (HV.out.trans (showT_no (tabQ_not HTQ.out)))
    go_wp2_with fail
    go_ret
    exact ⟨by rw [HVn.out]; rfl, HB1.out⟩
  | true =>
  have hT := tabQ_is HTQ.out
  obtain ⟨hbl, hm0, hm1⟩ := tbl_bds hT
  have hpl := parts_len hT
  have HTL := hide (text_len hT)
  dsimp only at hbl hm0 hm1 hpl HTL
  rw [← HN.out] at hpl
  have hn1 : n ≤ 10 := hpl.2
  have HT1 := hide (fun W => sVar_any (n : Int) W)
  have HT2 := hide (fun W => sVar_any m W)
  have v1 := varV_len' (n : Int)
  have v2 := varV_len' m
  have HVy := hide (show V = varV (n : Int) ++ prtsL P ++ bl b ++ varV m by
    rw [HV.out, showT_yes hT]
    dsimp only
    rw [← HN.out, varV, if_pos (by omega), varV, if_pos (by omega), Int.toNat_natCast]
    simp only [List.append_assoc])
  obtain ⟨L1, hL1⟩ : ∃ L1, L1 = varV (n : Int) := ⟨_, rfl⟩
  obtain ⟨L2, hL2⟩ : ∃ L2, L2 = varV m := ⟨_, rfl⟩
  rw [← hL1] at HT1 HVy v1
  rw [← hL2] at HT2 HVy v2
  have hbs : b.size = 16 := by rw [← bl_len]; exact hbl
  clear hL1 hL2 hT hpl hbl hm0 hm1 HV
  go_wp2_with fail
  refine (HT1.out _).mono ?_
  rintro e w2 ⟨rfl, hb2⟩
  have HX2 := hide (HX1.out.below hb2 HX1.out.lt)
  have HB2 := hide (HB1.out.trans (hb2.mono HB1.out.size))
  clear hb2 HX1 HB1 x0 x1 x2
  go_wp2_with fail
  go_loopw [5, 6] (fun t i wr => ∃ (X : List UInt8) (j : Nat), t = .string ⟨X.toArray⟩ ∧ i = .int .i64 j ∧ j ≤ n ∧ X.length ≤ 7 + 1000 * j ∧ Hid (X = L1 ++ prtsL (P.take j)) ∧ Hid (BoxV 26 wr w.heap.size #[.slice a n cap, .string b, .int .i64 m]) ∧ Hid (Below w.heap.size w wr)) (fun _ i _ => n - (intOf i).toNat)
  case atStart => exact ⟨L1, 0, rfl, rfl, by omega, by omega, by simp [Hid, prtsL], HX2, HB2⟩
  case round =>
    obtain ⟨X, j, rfl, rfl, hj, hxl, HXE, HX, HB⟩ := hrel
    have hs := HB.out.size
    obtain ⟨x0, x1, x2⟩ := HX.out.three
    by_cases hlt : j < n
    · have hjP : j < P.length := by rw [← HN.out]; exact hlt
      obtain ⟨g, off, rfl, hg, hcell⟩ := HR.out (by omega)
      obtain ⟨f0, f1, hx⟩ := partsPart P[j]
      obtain ⟨c0, c1⟩ := cellsPart hx (hcell j hjP)
      have HJ := hide (show P[j]? = some (f0, f1) by rw [List.getElem?_eq_getElem hjP, hx])
      obtain ⟨t1, t2⟩ := HTL.out _ (List.mem_of_getElem? HJ.out)
      rw [bl_len] at t1 t2
      dsimp only at t1 t2
      have HPK := hide (fun W => l6Piece_any f0 (by omega) W)
      have HPV := hide (fun W => l6Piece_any f1 (by omega) W)
      have l1 := piece_len (s := f0) (by omega)
      have l2 := piece_len (s := f1) (by omega)
      have HST := hide (prtsL_step HJ.out)
      obtain ⟨PK, hPK⟩ : ∃ PK, PK = pieceL (bl f0) := ⟨_, rfl⟩
      obtain ⟨PV, hPV⟩ : ∃ PV, PV = pieceL (bl f1) := ⟨_, rfl⟩
      simp only [← hPK, ← hPV] at HPK HPV HST l1 l2
      obtain ⟨A1, hA1⟩ : ∃ A1, X ++ PK = A1 := ⟨_, rfl⟩
      obtain ⟨A2, hA2⟩ : ∃ A2, A1 ++ PV = A2 := ⟨_, rfl⟩
      have lA1 : A1.length = X.length + PK.length := by rw [← hA1, List.length_append]
      have lA2 : A2.length ≤ 7 + 1000 * (j + 1) := by rw [← hA2, List.length_append]; omega
      have k1 := cat_l X PK A1 hA1 (by omega)
      have k2 := cat_l A1 PV A2 hA2 (by omega)
      have HXN := hide (show A2 = L1 ++ prtsL (P.take (j + 1)) by rw [HST.out, ← hA2, ← hA1, HXE.out]; simp only [List.append_assoc])
      have HD := hide (fun (W : World) (h : Below (w.heap.size + 1) wr W) => show (W.cell? ⟨g, off + j * 2, none⟩ = some (.string f0) ∧ W.cell? ⟨g, off + j * 2 + 1, none⟩ = some (.string f1)) ∧ W.cell? ⟨w.heap.size, 0, none⟩ = some (.slice (some ⟨g, off, none⟩) n cap) from
        ⟨⟨(h.cell (p := ⟨g, off + j * 2, none⟩) (by show g < _; omega)).trans ((HB.out.cell (p := ⟨g, off + j * 2, none⟩) hg).trans c0), (h.cell (p := ⟨g, off + j * 2 + 1, none⟩) (by show g < _; omega)).trans ((HB.out.cell (p := ⟨g, off + j * 2 + 1, none⟩) hg).trans c1)⟩, (h.cell (p := ⟨w.heap.size, 0, none⟩) (by show w.heap.size < _; omega)).trans x0⟩)
      have hlx := HX.out.lt
      clear hcell c0 c1 hx hjP hPK hPV hA1 hA2 t1 t2
      go_wp2_with fail
      go_region_held3 (fun w' => (w'.cell? ⟨g, off + j * 2, none⟩ = some (.string f0) ∧ w'.cell? ⟨g, off + j * 2 + 1, none⟩ = some (.string f1)) ∧ w'.cell? ⟨w.heap.size, 0, none⟩ = some (.slice (some ⟨g, off, none⟩) n cap))
        (first
          | with_reducible exact HD.out _ (Below.refl _ _)
          | with_reducible exact HD.out _ (Below.refl _ _).drew
          | with_reducible exact HD.out _ HW3.out
          | with_reducible exact HD.out _ HW4.out)
        (first
          | (have hq2 := HW3.out
             clear hq2
             go_at_call 47
             refine (HPV.out _).mono ?_
             rintro e w4 ⟨rfl, hb4⟩
             have HW4 : Hid (Below (w.heap.size + 1) wr w4) := HW3.out.trans (hb4.mono (Nat.le_trans hlx HW3.out.size))
             clear hb4)
          | (go_at_call 47
             refine (HPK.out _).mono ?_
             rintro e w3 ⟨rfl, hb3⟩
             have HW3 : Hid (Below (w.heap.size + 1) wr w3) := (below_of_drew' hb3).mono hlx
             clear hb3))
      all_goals go_wp2_with fail
      all_goals go_roundw
      all_goals first
        | (simp [intOf]; omega)
        | exact ⟨A2, j + 1, rfl, by go_num, by omega, lA2, HXN, HX.out.below HW4.out (Nat.lt_succ_self _), HB.out.trans (HW4.out.mono (Nat.le_succ _))⟩
    · obtain rfl : j = n := by omega
      have HXE2 := hide (show X = L1 ++ prtsL P by rw [HXE.out, List.take_of_length_le (by rw [← HN.out]; exact Nat.le_refl _)])
      obtain ⟨A1, hA1⟩ : ∃ A1, X ++ bl b = A1 := ⟨_, rfl⟩
      obtain ⟨A2, hA2⟩ : ∃ A2, A1 ++ L2 = A2 := ⟨_, rfl⟩
      have lA1 : A1.length = X.length + b.size := by rw [← hA1, List.length_append, bl_len]
      have k1 := cat_s X A1 b hA1 (by omega)
      have k2 := cat_l A1 L2 A2 hA2 (by omega)
      have HVe := hide (show V = A2 by rw [HVy.out, ← hA2, ← hA1, HXE2.out])
      have HD := hide (fun (W : World) (h : Below (w.heap.size + 1) wr W) => show W.cell? ⟨w.heap.size, 1, none⟩ = some (.string b) ∧ W.cell? ⟨w.heap.size, 2, none⟩ = some (.int .i64 m) from
        ⟨(h.cell (p := ⟨w.heap.size, 1, none⟩) (by show w.heap.size < _; omega)).trans x1, (h.cell (p := ⟨w.heap.size, 2, none⟩) (by show w.heap.size < _; omega)).trans x2⟩)
      have hlx := HX.out.lt
      clear hA1 hA2
      go_wp2_with fail
      go_region_held3 (fun w' => w'.cell? ⟨w.heap.size, 1, none⟩ = some (.string b) ∧ w'.cell? ⟨w.heap.size, 2, none⟩ = some (.int .i64 m))
        (first
          | with_reducible exact HD.out _ (Below.refl _ _)
          | with_reducible exact HD.out _ (Below.refl _ _).drew
          | with_reducible exact HD.out _ HW3.out)
        (first
          | (go_at_call 46
             refine (HT2.out _).mono ?_
             rintro e w3 ⟨rfl, hb3⟩
             have HW3 : Hid (Below (w.heap.size + 1) wr w3) := (below_of_drew' hb3).mono hlx
             clear hb3))
      all_goals go_wp2_with fail
      all_goals go_ret
      all_goals exact ⟨by rw [HVe.out]; rfl, HB.out.trans (HW3.out.mono (Nat.le_succ _))⟩
end Go.Proofs.YtdlkgpobjacgeaaDoor

/-
  Contracts of slices.Equal of parts, impl's (Table).equal and (Table).claimedEnts.
-/
namespace Go.Proofs.YtdlkgpobjacgeaaDoor
open Go.ChangeShapes Go.WideShapes Go.ChangeAt Go.RowKit

set_option maxHeartbeats 2000000 in
set_option maxRecDepth 40000 in
theorem equalParts_any (a1 a2 : Option Addr) (c1 c2 : Nat) (P Q : List PartE) (w : World) (h1 : elPart.Rd w w.heap.size a1 P) (h2 : elPart.Rd w w.heap.size a2 Q) (hl1 : P.length ≤ maxLen) :
    Calls Tryd.prog 72 #[.slice a1 P.length c1, .slice a2 Q.length c2] w (BoolPost w (decide (P = Q))) := by
  have H1 := hide h1
  have H2 := hide h2
  clear h1 h2
  obtain ⟨V, hV⟩ : ∃ V, V = decide (P = Q) := ⟨_, rfl⟩
  have HV := hide hV
  rw [← hV]
  obtain ⟨n, hn⟩ : ∃ n, n = P.length := ⟨_, rfl⟩
  have HN := hide hn
  obtain ⟨k, hk⟩ : ∃ k, k = Q.length := ⟨_, rfl⟩
  have HK := hide hk
  rw [← hn] at hl1 ⊢
  rw [← hk]
  unfold maxLen at hl1
  clear hV hn hk
  by_cases hlen : n = k
  · have HBM := hide hlen
    have e3 : ((n : Int) != (k : Int)) = false := by rw [bne_eq_false_iff_eq]; omega
    clear hlen
    go_enter Tryd.func72, Tryd.ntmps72
    go_wp2_with fail
    go_loopw [13] (fun i wr => ∃ j : Nat, i = .int .i64 j ∧ j ≤ n ∧ Hid (∀ i, i < j → P[i]? = Q[i]?) ∧ Hid (Below w.heap.size w wr)) (fun i _ => n - (intOf i).toNat)
    case atStart => exact ⟨0, rfl, by omega, fun i hi => by omega, Below.refl _ _⟩
    case round =>
      obtain ⟨j, rfl, hj, HE, HW⟩ := hrel
      by_cases hlt : j < n
      · have hjP : j < P.length := by rw [← HN.out]; exact hlt
        have hjQ : j < Q.length := by rw [← HK.out, ← HBM.out]; exact hlt
        have hjk : j < k := by rw [HK.out]; exact hjQ
        obtain ⟨g1, o1, rfl, hg1, hc1⟩ := H1.out (by omega)
        obtain ⟨g2, o2, rfl, hg2, hc2⟩ := H2.out (by omega)
        obtain ⟨f0, f1, hx⟩ := partsPart P[j]
        obtain ⟨q0, q1, hy⟩ := partsPart Q[j]
        obtain ⟨p0, p1⟩ := cellsPart hx (hc1 j hjP)
        obtain ⟨r0, r1⟩ := cellsPart hy (hc2 j hjQ)
        have d0 := (HW.out.cell (p := ⟨g1, o1 + j * 2, none⟩) hg1).trans p0
        have d1 := (HW.out.cell (p := ⟨g1, o1 + j * 2 + 1, none⟩) hg1).trans p1
        have e0 := (HW.out.cell (p := ⟨g2, o2 + j * 2, none⟩) hg2).trans r0
        have e1' := (HW.out.cell (p := ⟨g2, o2 + j * 2 + 1, none⟩) hg2).trans r1
        have HPJ := hide (show P[j]? = some (f0, f1) by rw [List.getElem?_eq_getElem hjP, hx])
        have HQJ := hide (show Q[j]? = some (q0, q1) by rw [List.getElem?_eq_getElem hjQ, hy])
        have s0 := str_eqB f0 q0
        have s1 := str_eqB f1 q1
        clear hc1 hc2 p0 p1 r0 r1 hx hy hjP hjQ
        by_cases hpq : (f0, f1) = (q0, q1)
        · obtain ⟨rfl, rfl⟩ := Prod.mk.inj hpq
          clear s0 s1 hpq
          have HE2 := hide (show ∀ i, i < j + 1 → P[i]? = Q[i]? from fun i hi => by
            rcases Nat.lt_or_ge i j with h | h
            · exact HE.out i h
            · rw [show i = j by omega, HPJ.out, HQJ.out])
          go_wp2_with fail
          go_quiet (fail)
          go_wp2_with fail
          go_roundw
          case rel => exact ⟨j + 1, by go_num, by omega, HE2, belN HW.out _⟩
          case measure => simp [intOf]; omega
        · have HVn := hide (show V = false from HV.out.trans (decide_eq_false fun h => list_at_ne HPJ.out HQJ.out hpq h))
          by_cases h0 : f0 = q0
          · rw [decide_eq_true h0] at s0
            rw [decide_eq_false (fun h1 => hpq (Prod.ext h0 h1))] at s1
            clear hpq h0
            go_wp2_with fail
            go_quiet (fail)
            go_wp2_with fail
            go_ret
            exact ⟨by rw [HVn.out]; rfl, belN HW.out _⟩
          · rw [decide_eq_false h0] at s0
            clear s1 hpq h0
            go_wp2_with fail
            go_quiet (fail)
            go_wp2_with fail
            go_ret
            exact ⟨by rw [HVn.out]; rfl, belN HW.out _⟩
      · have HVy := hide (show V = true from HV.out.trans (decide_eq_true (list_all_eq (by have := HBM.out; rw [← HN.out, ← HK.out]; exact this) fun i hi => HE.out i (by rw [← HN.out] at hi; omega))))
        go_wp2_with fail
        go_ret
        exact ⟨by rw [HVy.out]; rfl, HW.out⟩
  · have HVn := hide (show V = false from HV.out.trans (decide_eq_false fun h => hlen (by rw [HN.out, HK.out, h])))
    have e3 : ((n : Int) != (k : Int)) = true := by rw [bne_iff_ne]; omega
    clear hlen
    go_enter Tryd.func72, Tryd.ntmps72
    go_wp2_with fail
    go_ret
    exact ⟨by rw [HVn.out]; rfl, Below.refl _ _⟩

set_option maxHeartbeats 1000000 in
set_option maxRecDepth 40000 in
theorem equal_any (a1 a2 : Option Addr) (c1 c2 : Nat) (P Q : List PartE) (b1 b2 : ByteArray) (m1 m2 : Int) (w : World) (h1 : elPart.Rd w w.heap.size a1 P) (h2 : elPart.Rd w w.heap.size a2 Q) (hl1 : P.length ≤ maxLen) :
    Calls Tryd.prog 45 #[.agg #[.slice a1 P.length c1, .string b1, .int .i64 m1], .agg #[.slice a2 Q.length c2, .string b2, .int .i64 m2]] w (BoolPost w (decide ((P, b1, m1) = (Q, b2, m2)))) := by
  have H1 := hide h1
  have H2 := hide h2
  clear h1 h2
  have HEP := hide (fun W h1 h2 => equalParts_any a1 a2 c1 c2 P Q W h1 h2 hl1)
  obtain ⟨V, hV⟩ : ∃ V, V = decide ((P, b1, m1) = (Q, b2, m2)) := ⟨_, rfl⟩
  obtain ⟨U, hU⟩ : ∃ U, U = decide (P = Q) := ⟨_, rfl⟩
  have HV := hide (show V = (U && (decide (b1 = b2) && decide (m1 = m2))) by
    rw [hV, hU, Bool.eq_iff_iff, Bool.and_eq_true, Bool.and_eq_true, decide_eq_true_eq, decide_eq_true_eq, decide_eq_true_eq, decide_eq_true_eq]
    exact ⟨fun h => ⟨(Prod.mk.inj h).1, (Prod.mk.inj (Prod.mk.inj h).2).1, (Prod.mk.inj (Prod.mk.inj h).2).2⟩, fun ⟨x, y, z⟩ => by rw [x, y, z]⟩)
  rw [← hV]
  rw [← hU] at HEP
  obtain ⟨n, hn⟩ : ∃ n, n = P.length := ⟨_, rfl⟩
  obtain ⟨k, hk⟩ : ∃ k, k = Q.length := ⟨_, rfl⟩
  rw [← hn, ← hk] at HEP ⊢
  have HX1 := hide ((BoxV.new 26 w #[.slice a1 n c1, .string b1, .int .i64 m1]).alloc (.cells #[.slice a2 k c2, .string b2, .int .i64 m2] 26))
  have HX2 := hide (show BoxV 26 ((w.alloc (.cells #[.slice a1 n c1, .string b1, .int .i64 m1] 26)).alloc (.cells #[.slice a2 k c2, .string b2, .int .i64 m2] 26)) (w.heap.size + 1) #[.slice a2 k c2, .string b2, .int .i64 m2] from by
    have h := BoxV.new 26 (w.alloc (.cells #[.slice a1 n c1, .string b1, .int .i64 m1] 26)) #[.slice a2 k c2, .string b2, .int .i64 m2]
    rw [Go.Deep.nblk_alloc] at h
    exact h)
  have HBB := hide (((Below.refl w.heap.size w).alloc (Nat.le_refl _) (.cells #[.slice a1 n c1, .string b1, .int .i64 m1] 26)).alloc (by simp) (.cells #[.slice a2 k c2, .string b2, .int .i64 m2] 26))
  have e1 := str_eqB b1 b2
  have e2 : (m1 == m2) = decide (m1 = m2) := rfl
  obtain ⟨x1, hx1⟩ : ∃ x, x = decide (b1 = b2) := ⟨_, rfl⟩
  obtain ⟨x2, hx2⟩ : ∃ x, x = decide (m1 = m2) := ⟨_, rfl⟩
  rw [← hx1, ← hx2] at HV
  rw [← hx1] at e1
  rw [← hx2] at e2
  clear hV hn hk hU hx1 hx2 hl1
  go_enter Tryd.func45, Tryd.ntmps45
  go_wp2_with fail
  refine (HEP.out _ ((H1.out.below HBB.out (Nat.le_refl _)).mono HBB.out.size) ((H2.out.below HBB.out (Nat.le_refl _)).mono HBB.out.size)).mono ?_
  rintro e w1 ⟨rfl, hb1⟩
  have HB1 := hide (HBB.out.trans (hb1.mono HBB.out.size))
  have HY1 := hide (HX1.out.below hb1 HX1.out.lt)
  have HY2 := hide (HX2.out.below hb1 HX2.out.lt)
  obtain ⟨p0, p1, p2⟩ := HY1.out.three
  obtain ⟨r0, r1, r2⟩ := HY2.out.three
  clear hb1
  cases U <;> cases x1 <;> cases x2
  all_goals
    have HVz := hide HV.out
    go_wp2_with fail
    go_ret
    exact ⟨by rw [HVz.out]; rfl, HB1.out⟩

def EntsP1 (w : World) (M : List En) (e : Ending) (w' : World) : Prop := ∃ v, e = .returned v ∧ elEnt.Owns w.heap.size w' v M ∧ Below w.heap.size w w'
set_option maxHeartbeats 2000000 in
set_option maxRecDepth 40000 in
theorem tabClaimed_any (a : Option Addr) (cap : Nat) (P : List PartE) (b : ByteArray) (m : Int) (w : World) (hr : elPart.Rd w w.heap.size a P) (hl : P.length ≤ maxLen) (hcap : P.length ≤ cap) (hk : ∀ x ∈ P, x.2.size ≤ 1048576) :
    Calls Tryd.prog 44 #[.agg #[.slice a P.length cap, .string b, .int .i64 m]] w (EntsP1 w (entsP (P.take 10))) := by
  have HR := hide hr
  have HK := hide hk
  clear hr hk
  unfold maxLen at hl
  obtain ⟨n, hn⟩ : ∃ n, n = P.length := ⟨_, rfl⟩
  have HN := hide hn
  rw [← hn] at hl hcap ⊢
  obtain ⟨q, hq⟩ : ∃ q, q = min n 10 := ⟨_, rfl⟩
  have hqn : q ≤ n ∧ q ≤ 10 := by omega
  have hmin : (if (10 : Int) < (n : Int) then (10 : Int) else (n : Int)) = (q : Int) := by split <;> omega
  have HQ := hide hq
  have hsl : ∀ W : World, (Instr.slice 24 (.slice a n cap) none (some (.int .i64 (q : Int))) none).run Tryd.prog W = .ok (.slice a q cap) W := fun W => by
    obtain ⟨i0, hi0, hz0, hz1, hz2⟩ := info_parts infoPart
    rw [run_slice_h (P := Tryd.prog) W 24 a n cap (by kernel_rfl) .i64 (q : Int) (by omega) (by omega)]
    rw [show Tryd.prog.elem 24 = 55 by kernel_rfl]
    simp [sizeOf, typeInfo, hi0, hz1, sliced, map_add0']
  clear hn hq
  have HX0 := hide (BoxV.new 26 w #[.slice a n cap, .string b, .int .i64 m])
  have HB0 := hide ((Below.refl w.heap.size w).alloc (Nat.le_refl _) (.cells #[.slice a n cap, .string b, .int .i64 m] 26))
  obtain ⟨x0, x1, x2⟩ := HX0.out.three
  go_enter Tryd.func44, Tryd.ntmps44
  go_wp2_with fail
  go_loopw [3, 16] (fun o i wr => ∃ (j k : Nat) (a' : Option Addr) (c' : Nat), o = .slice a' k c' ∧ i = .int .i64 j ∧ j ≤ q ∧ k ≤ 16 * j ∧ Hid (elEnt.Owns w.heap.size wr (.slice a' k c') (entsP (P.take j))) ∧ Hid (Below w.heap.size w wr)) (fun _ i _ => q - (intOf i).toNat)
  case atStart => exact ⟨0, 0, none, 0, rfl, rfl, by omega, by omega, by rw [List.take_zero]; exact El.Owns.nil _ _, HB0⟩
  case round =>
    obtain ⟨j, k, a', c', rfl, rfl, hj, hk, HO, HB⟩ := hrel
    have hs := HB.out.size
    by_cases hlt : j < q
    · have hjP : j < P.length := by rw [← HN.out]; omega
      obtain ⟨g, off, rfl, hg, hcell⟩ := HR.out (by omega)
      obtain ⟨f0, f1, hx⟩ := partsPart P[j]
      obtain ⟨c0, c1⟩ := cellsPart hx (hcell j hjP)
      have d0 := (HB.out.cell (p := ⟨g, off + j * 2, none⟩) hg).trans c0
      have d1 := (HB.out.cell (p := ⟨g, off + j * 2 + 1, none⟩) hg).trans c1
      have HJ := hide (show P[j]? = some (f0, f1) by rw [List.getElem?_eq_getElem hjP, hx])
      have HRB := hide (fun W => iReadBlock_any f1 (HK.out _ (List.mem_of_getElem? HJ.out)) W)
      unfold ReadKPost at HRB
      have HES := hide (entsP_step HJ.out)
      have hz := readK_bd (bl f1)
      obtain ⟨X, hX⟩ : ∃ X, X = readK (bl f1) := ⟨_, rfl⟩
      obtain ⟨u, hu⟩ : ∃ u, u = readKQ (bl f1) := ⟨_, rfl⟩
      simp only [← hX, ← hu] at HRB HES hz
      have HB1 := hide (HB.out.alloc hs (.cells #[.string f0, .string f1] 55))
      have HO1 := hide (HO.out.alloc (.cells #[.string f0, .string f1] 55))
      have hbx := BoxV.new 55 wr #[.string f0, .string f1]
      obtain ⟨W1, hW1⟩ : ∃ W1, W1 = wr.alloc (.cells #[.string f0, .string f1] 55) := ⟨_, rfl⟩
      rw [← hW1] at HB1 HO1 hbx
      have HBX := hide hbx
      clear hcell c0 c1 hx hjP hX hu hbx HO HB
      go_upto_region 5 with (fail)
      rw [← hW1]
      clear hW1 d0 d1
      obtain ⟨y0, y1⟩ := HBX.out.two'
      go_wp2_with fail
      refine (HRB.out _).mono ?_
      rintro e w2 ⟨v, rfl, ho, hb2⟩
      obtain ⟨a2, c2, rfl, hrd, _⟩ := ho.form
      have HB2 := hide (HB1.out.trans (hb2.mono HB1.out.size))
      have HO2 := hide (HO1.out.below hb2 (Nat.le_refl _))
      have HS2 := hide ho.src
      have hs2 := HB2.out.size
      clear hb2 ho hrd HO1 HB1 y0 y1
      have hkl : (entsP (P.take (j + 1))).length = k + X.length := by
        rw [HES.out, List.length_append]
        congr 1
        obtain ⟨_, _, e, _⟩ := HO2.out.form
        injection e with _ e _
        exact e.symm
      obtain ⟨z, hz1⟩ : ∃ z, z = k + X.length := ⟨_, rfl⟩
      rw [← hz1] at hkl
      have hz2 : z ≤ 16 * (j + 1) := by omega
      clear hz1
      have hbb := hide (Below.refl w.heap.size w2)
      go_wp2_with (at_builtin; refine El.appendSrc (e := elEnt) rfl (.tmp 26) (.tmp 27) 29 rfl Tryd.underlying29 _ _ infoEnt rfl (by decide) (by decide) w.heap.size w2 w2 _ _ _ X rfl rfl HO2 HS2 hbb hs2 _ z HES.out.symm hkl (by omega) ?_; intro a5 c5 w5 HO5 HB5 hz5 HN5)
      have HW5 := hide (HB2.out.trans HB5.out)
      go_roundw
      case rel => exact ⟨j + 1, z, a5, c5, rfl, by go_num, by omega, hz2, HO5, HW5⟩
      case measure => simp [intOf]; omega
    · obtain rfl : j = q := by omega
      have HO' := hide (show elEnt.Owns w.heap.size wr (.slice a' k c') (entsP (P.take 10)) from by
        have h := HO.out
        have h2 : P.take j = P.take 10 := by
          have h3 := HQ.out
          by_cases h10 : n ≤ 10
          · rw [List.take_of_length_le (by rw [← HN.out]; omega), List.take_of_length_le (by rw [← HN.out]; omega)]
          · rw [show j = 10 by omega]
        rwa [h2] at h)
      go_wp2_with fail
      go_ret
      exact ⟨_, rfl, HO'.out, HB.out⟩
end Go.Proofs.YtdlkgpobjacgeaaDoor
