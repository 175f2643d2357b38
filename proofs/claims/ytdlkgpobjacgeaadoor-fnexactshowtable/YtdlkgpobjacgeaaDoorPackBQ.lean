/-
  Texts of this proof, put together: TabB, TabC, TabE, TabF, TabK.
-/
import Derived.Test.YtdlkgpobjacgeaaDoorPackBP
import Derived.Test.YtdlkgpobjacgeaaDoorPackBF
import Derived.Laws.StructEq
import Derived.WalkLawsBesides
import Derived.Test.YtdlkgpobjacgeaaDoorPackAI
import Derived.Deep.RegionHeld3
import Derived.Test.YtdlkgpobjacgeaaDoorPackAK

/-
  Contracts of spec.l12Same and TableEnts.
-/
namespace Go.Proofs.YtdlkgpobjacgeaaDoor
open Go.ChangeShapes Go.WideShapes Go.ChangeAt Go.RowKit

theorem str_eqB (a b : ByteArray) : (a.toList == b.toList) = decide (a = b) := by
  rw [Bool.eq_iff_iff, beq_iff_eq, decide_eq_true_eq, ByteArray.toList_eq, ByteArray.toList_eq]
  constructor
  · intro h
    rw [← str_of a, ← str_of b]
    exact congrArg (fun l : List UInt8 => (⟨l.toArray⟩ : ByteArray)) h
  · rintro rfl
    rfl
theorem list_at_ne {α : Type} {P Q : List α} {j : Nat} {x y : α} (h1 : P[j]? = some x) (h2 : Q[j]? = some y) (h : x ≠ y) : P ≠ Q := fun e => by
  rw [e, h2] at h1
  exact h (Option.some.inj h1).symm
theorem list_all_eq {α : Type} {P Q : List α} (hl : P.length = Q.length) (h : ∀ i, i < P.length → P[i]? = Q[i]?) : P = Q := by
  apply List.ext_getElem?
  intro i
  by_cases hi : i < P.length
  · exact h i hi
  · rw [List.getElem?_eq_none (by omega), List.getElem?_eq_none (by omega)]

set_option maxHeartbeats 2000000 in
set_option maxRecDepth 40000 in
theorem l12Same_any (a1 a2 : Option Addr) (c1 c2 : Nat) (P Q : List PartE) (b1 b2 : ByteArray) (m1 m2 : Int) (w : World) (h1 : elPart.Rd w w.heap.size a1 P) (h2 : elPart.Rd w w.heap.size a2 Q) (hl1 : P.length ≤ maxLen) (_ : Q.length ≤ maxLen) :
    Calls Tryd.prog 42 #[.agg #[.slice a1 P.length c1, .string b1, .int .i64 m1], .agg #[.slice a2 Q.length c2, .string b2, .int .i64 m2]] w (BoolPost w (decide ((P, b1, m1) = (Q, b2, m2)))) := by
  have H1 := hide h1
  have H2 := hide h2
  clear h1 h2
  obtain ⟨V, hV⟩ : ∃ V, V = decide ((P, b1, m1) = (Q, b2, m2)) := ⟨_, rfl⟩
  have HV := hide hV
  rw [← hV]
  obtain ⟨n, hn⟩ : ∃ n, n = P.length := ⟨_, rfl⟩
  have HN := hide hn
  obtain ⟨k, hk⟩ : ∃ k, k = Q.length := ⟨_, rfl⟩
  have HK := hide hk
  rw [← hn] at hl1 ⊢
  rw [← hk]
  unfold maxLen at hl1
  have HX1 := hide ((BoxV.new 26 w #[.slice a1 n c1, .string b1, .int .i64 m1]).alloc (.cells #[.slice a2 k c2, .string b2, .int .i64 m2] 26))
  have HX2 := hide (show BoxV 26 ((w.alloc (.cells #[.slice a1 n c1, .string b1, .int .i64 m1] 26)).alloc (.cells #[.slice a2 k c2, .string b2, .int .i64 m2] 26)) (w.heap.size + 1) #[.slice a2 k c2, .string b2, .int .i64 m2] from by
    have h := BoxV.new 26 (w.alloc (.cells #[.slice a1 n c1, .string b1, .int .i64 m1] 26)) #[.slice a2 k c2, .string b2, .int .i64 m2]
    rw [Go.Deep.nblk_alloc] at h
    exact h)
  have HBB := hide (((Below.refl w.heap.size w).alloc (Nat.le_refl _) (.cells #[.slice a1 n c1, .string b1, .int .i64 m1] 26)).alloc (by simp) (.cells #[.slice a2 k c2, .string b2, .int .i64 m2] 26))
  clear hV hn hk
  have e1 := str_eqB b1 b2
  by_cases hb : b1 = b2
  · rw [decide_eq_true hb] at e1
    by_cases hm : m1 = m2
    · have e2 : (m1 != m2) = false := by rw [bne_eq_false_iff_eq]; exact hm
      by_cases hlen : n = k
      · have HBM := hide (show b1 = b2 ∧ m1 = m2 ∧ n = k from ⟨hb, hm, hlen⟩)
        have e3 : ((n : Int) != (k : Int)) = false := by rw [bne_eq_false_iff_eq]; omega
        clear hb hm hlen
        go_enter Tryd.func42, Tryd.ntmps42
        go_wp2_with fail
        go_loopw [5] (fun i wr => ∃ j : Nat, i = .int .i64 j ∧ j ≤ n ∧ Hid (∀ i, i < j → P[i]? = Q[i]?) ∧ Hid (Below ((w.alloc (.cells #[.slice a1 n c1, .string b1, .int .i64 m1] 26)).alloc (.cells #[.slice a2 k c2, .string b2, .int .i64 m2] 26)).heap.size ((w.alloc (.cells #[.slice a1 n c1, .string b1, .int .i64 m1] 26)).alloc (.cells #[.slice a2 k c2, .string b2, .int .i64 m2] 26)) wr)) (fun i _ => n - (intOf i).toNat)
        case atStart => exact ⟨0, rfl, by omega, fun i hi => by omega, Below.refl _ _⟩
        case round =>
          obtain ⟨j, rfl, hj, HE, HB⟩ := hrel
          have HW := hide (HBB.out.trans (HB.out.mono HBB.out.size))
          have HY1 := hide (HX1.out.below HB.out HX1.out.lt)
          have HY2 := hide (HX2.out.below HB.out HX2.out.lt)
          obtain ⟨x0, x1, x2⟩ := HY1.out.three
          obtain ⟨y0, y1, y2⟩ := HY2.out.three
          by_cases hlt : j < n
          · have hjP : j < P.length := by rw [← HN.out]; exact hlt
            have hjQ : j < Q.length := by rw [← HK.out, ← HBM.out.2.2]; exact hlt
            have hjk : j < k := by rw [HK.out]; exact hjQ
            obtain ⟨g1, o1, rfl, hg1, hc1⟩ := H1.out (by omega)
            obtain ⟨g2, o2, rfl, hg2, hc2⟩ := H2.out (by omega)
            obtain ⟨f0, f1, hx⟩ := partsPart P[j]
            obtain ⟨q0, q1, hy⟩ := partsPart Q[j]
            obtain ⟨p0, p1⟩ := cellsPart hx (hc1 j hjP)
            obtain ⟨r0, r1⟩ := cellsPart hy (hc2 j hjQ)
            have d0 := (HW.out.cell (p := ⟨g1, o1 + j * 2, none⟩) hg1).trans p0
            have d1 := (HW.out.cell (p := ⟨g1, o1 + j * 2 + 1, none⟩) hg1).trans p1
            have e0 := (HW.out.cell (p := ⟨g2, o2 + j * 2, none⟩) hg2).trans r0
            have e1' := (HW.out.cell (p := ⟨g2, o2 + j * 2 + 1, none⟩) hg2).trans r1
            have HPJ := hide (show P[j]? = some (f0, f1) by rw [List.getElem?_eq_getElem hjP, hx])
            have HQJ := hide (show Q[j]? = some (q0, q1) by rw [List.getElem?_eq_getElem hjQ, hy])
            have s0 := str_eqB f0 q0
            have s1 := str_eqB f1 q1
            clear hc1 hc2 p0 p1 r0 r1 hx hy hjP hjQ
            by_cases hpq : (f0, f1) = (q0, q1)
            · obtain ⟨rfl, rfl⟩ := Prod.mk.inj hpq
              clear s0 s1 hpq
              have HE2 := hide (show ∀ i, i < j + 1 → P[i]? = Q[i]? from fun i hi => by
                rcases Nat.lt_or_ge i j with h | h
                · exact HE.out i h
                · rw [show i = j by omega, HPJ.out, HQJ.out])
              go_wp2_with fail
              go_quiet (fail)
              go_wp2_with fail
              go_roundw
              case rel => exact ⟨j + 1, by go_num, by omega, HE2, belN HB.out _⟩
              case measure => simp [intOf]; omega
            · have HVn := hide (show V = false from HV.out.trans (decide_eq_false fun h => list_at_ne HPJ.out HQJ.out hpq (Prod.mk.inj h).1))
              by_cases h0 : f0 = q0
              · rw [decide_eq_true h0] at s0
                rw [decide_eq_false (fun h1 => hpq (Prod.ext h0 h1))] at s1
                clear hpq h0
                go_wp2_with fail
                go_quiet (fail)
                go_wp2_with fail
                go_ret
                exact ⟨by rw [HVn.out]; rfl, belN HW.out _⟩
              · rw [decide_eq_false h0] at s0
                clear s1 hpq h0
                go_wp2_with fail
                go_quiet (fail)
                go_wp2_with fail
                go_ret
                exact ⟨by rw [HVn.out]; rfl, belN HW.out _⟩
          · have HVy := hide (show V = true from HV.out.trans (decide_eq_true (by
              have hE : P = Q := list_all_eq (by have := HBM.out.2.2; rw [← HN.out, ← HK.out]; exact this) fun i hi => HE.out i (by rw [← HN.out] at hi; omega)
              rw [hE, HBM.out.1, HBM.out.2.1])))
            go_wp2_with fail
            go_ret
            exact ⟨by rw [HVy.out]; rfl, HW.out⟩
      · have HVn := hide (show V = false from HV.out.trans (decide_eq_false fun h => hlen (by rw [HN.out, HK.out, (Prod.mk.inj h).1])))
        have e3 : ((n : Int) != (k : Int)) = true := by rw [bne_iff_ne]; omega
        clear hb hm hlen
        go_enter Tryd.func42, Tryd.ntmps42
        go_wp2_with fail
        go_ret
        exact ⟨by rw [HVn.out]; rfl, HBB.out⟩
    · have HVn := hide (show V = false from HV.out.trans (decide_eq_false fun h => hm (Prod.mk.inj (Prod.mk.inj h).2).2))
      have e2 : (m1 != m2) = true := by rw [bne_iff_ne]; exact hm
      clear hb hm
      go_enter Tryd.func42, Tryd.ntmps42
      go_wp2_with fail
      go_ret
      exact ⟨by rw [HVn.out]; rfl, HBB.out⟩
  · have HVn := hide (show V = false from HV.out.trans (decide_eq_false fun h => hb (Prod.mk.inj (Prod.mk.inj h).2).1))
    rw [decide_eq_false hb] at e1
    clear hb
    go_enter Tryd.func42, Tryd.ntmps42
    go_wp2_with fail
    go_ret
    exact ⟨by rw [HVn.out]; rfl, HBB.out⟩
end Go.Proofs.YtdlkgpobjacgeaaDoor

/-
  Contract of spec.TableEnts.
-/
namespace Go.Proofs.YtdlkgpobjacgeaaDoor
open Go.ChangeShapes Go.WideShapes Go.ChangeAt Go.RowKit

def TEPost (w : World) (t : Tbl) (e : Ending) (w' : World) : Prop :=
  ∃ v, e = .returned (.tuple #[v, .bool (tabQ t)]) ∧ elEnt.Owns w.heap.size w' v (tabE t) ∧ Below w.heap.size w w'
theorem TEPost.no {w w' : World} {t : Tbl} (h : tabE t = [] ∧ tabQ t = false) (v : Value) (ho : elEnt.Owns w.heap.size w' v []) (hb : Below w.heap.size w w') : TEPost w t (.returned (.tuple #[v, .bool false])) w' :=
  ⟨v, by rw [h.2], by rw [h.1]; exact ho, hb⟩
theorem litEnt0 (B : Nat) (w : World) (hB : B ≤ w.heap.size) : elEnt.Owns B (w.alloc (.cells #[] 52)) (.slice (some ⟨w.heap.size, 0, none⟩) 0 0) [] := El.Owns.lit (e := elEnt) B w [] #[] 0 rfl rfl hB (by simp [maxLen])
theorem tblV_len (L : List En) : (tblV L).1.length ≤ 10 := by
  by_cases h : tblOk L
  · rw [tblV_yes h]
    exact (parts_len (isTbl_mk' h).1).2
  · rw [tblV_no h]
    show ([] : List Prt).length ≤ 10
    simp

set_option maxHeartbeats 2000000 in
set_option maxRecDepth 40000 in
theorem sTableEnts_any (a : Option Addr) (cap : Nat) (P : List PartE) (b : ByteArray) (m : Int) (w : World) (hr : elPart.Rd w w.heap.size a P) (hl : P.length ≤ 1048576) (hk : ∀ x ∈ P, x.2.size ≤ 1048576) :
    Calls Tryd.prog 17 #[.agg #[.slice a P.length cap, .string b, .int .i64 m]] w (TEPost w (P, b, m)) := by
  have HR := hide hr
  have HK := hide hk
  have HTW := hide (tab_whole (P, b, m))
  have HBD := hide (fun (p : PartE) (hp : p ∈ P) (h : readKQ (bl p.2) = false) => tab_bad (t := (P, b, m)) hp h)
  clear hr hk
  obtain ⟨n, hn⟩ : ∃ n, n = P.length := ⟨_, rfl⟩
  have HN := hide hn
  rw [← hn] at hl ⊢
  clear hn
  have HX0 := hide (BoxV.new 26 w #[.slice a n cap, .string b, .int .i64 m])
  have HX1 := hide (HX0.out.alloc (.cells #[] 52))
  have HB0 := hide ((Below.refl w.heap.size w).alloc (Nat.le_refl _) (.cells #[.slice a n cap, .string b, .int .i64 m] 26))
  have HB1 := hide (HB0.out.alloc HB0.out.size (.cells #[] 52))
  have HO1 := hide (show elEnt.Owns w.heap.size ((w.alloc (.cells #[.slice a n cap, .string b, .int .i64 m] 26)).alloc (.cells #[] 52)) (.slice (some ⟨w.heap.size + 1, 0, none⟩) 0 0) (entsP (P.take 0)) from by
    have h := litEnt0 w.heap.size (w.alloc (.cells #[.slice a n cap, .string b, .int .i64 m] 26)) HB0.out.size
    rw [Go.Deep.nblk_alloc] at h
    exact h)
  go_enter Tryd.func17, Tryd.ntmps17
  go_wp2_with fail
  go_loopw [4, 5] (fun o i wr => ∃ (j k : Nat) (a' : Option Addr) (c' : Nat), o = .slice a' k c' ∧ i = .int .i64 j ∧ j ≤ n ∧ k ≤ 16 * j ∧ Hid (elEnt.Owns w.heap.size wr (.slice a' k c') (entsP (P.take j))) ∧ Hid (BoxV 26 wr w.heap.size #[.slice a n cap, .string b, .int .i64 m]) ∧ Hid (Below w.heap.size w wr)) (fun _ i _ => n - (intOf i).toNat)
  case atStart => exact ⟨0, 0, _, _, rfl, rfl, by omega, by omega, HO1, HX1, HB1⟩
  case round =>
    obtain ⟨j, k, a', c', rfl, rfl, hj, hk, HO, HX, HB⟩ := hrel
    have hs := HB.out.size
    obtain ⟨x0, x1, x2⟩ := HX.out.three
    by_cases hlt : j < n
    · have hjP : j < P.length := by rw [← HN.out]; exact hlt
      obtain ⟨g, off, rfl, hg, hcell⟩ := HR.out (by omega)
      obtain ⟨f0, f1, hx⟩ := partsPart P[j]
      obtain ⟨c0, c1⟩ := cellsPart hx (hcell j hjP)
      have d1 := (HB.out.cell (p := ⟨g, off + j * 2 + 1, none⟩) hg).trans c1
      have HJ := hide (show P[j]? = some (f0, f1) by rw [List.getElem?_eq_getElem hjP, hx])
      have HMem := hide (show (f0, f1) ∈ P from List.mem_of_getElem? HJ.out)
      have HRB := hide (fun W => sReadBlock_any f1 (HK.out _ HMem.out) W)
      unfold ReadKPost at HRB
      have HES := hide (entsP_step HJ.out)
      have HBF := hide (HBD.out _ HMem.out)
      have hz := readK_bd (bl f1)
      obtain ⟨X, hX⟩ : ∃ X, X = readK (bl f1) := ⟨_, rfl⟩
      obtain ⟨q, hq⟩ : ∃ q, q = readKQ (bl f1) := ⟨_, rfl⟩
      simp only [← hX, ← hq] at HRB HES HBF hz
      clear hcell c0 c1 hx hjP hX hq
      go_wp2_with fail
      refine (HRB.out _).mono ?_
      rintro e w2 ⟨v, rfl, ho, hb2⟩
      obtain ⟨a2, c2, rfl, hrd, _⟩ := ho.form
      have HB2 := hide (HB.out.trans (hb2.mono hs))
      have HO2 := hide (HO.out.below hb2 (Nat.le_refl _))
      have HX2 := hide (HX.out.below hb2 HX.out.lt)
      have HS2 := hide ho.src
      have hs2 := HB2.out.size
      clear hb2 ho hrd HO HX HB d1 x0 x1 x2
      cases q with
      | false =>
        have HN1 := hide (HBF.out rfl)
        go_wp2_with fail
        go_ret2
        exact TEPost.no HN1.out _ (litEnt0 _ _ hs2) (HB2.out.alloc hs2 _)
      | true =>
        have hkl : (entsP (P.take (j + 1))).length = k + X.length := by
          have h := entsP_len (P.take j)
          rw [HES.out, List.length_append]
          congr 1
          obtain ⟨_, _, e, _⟩ := HO2.out.form
          injection e with _ e _
          exact e.symm
        obtain ⟨z, hz1⟩ : ∃ z, z = k + X.length := ⟨_, rfl⟩
        rw [← hz1] at hkl
        have hz2 : z ≤ 16 * (j + 1) := by omega
        clear hz1
        have hbb := hide (Below.refl w.heap.size w2)
        go_wp2_with (at_builtin; refine El.appendSrc (e := elEnt) rfl (.tmp 31) (.tmp 32) 29 rfl Tryd.underlying29 _ _ infoEnt rfl (by decide) (by decide) w.heap.size w2 w2 _ _ _ X rfl rfl HO2 HS2 hbb hs2 _ z HES.out.symm hkl (by omega) ?_; intro a5 c5 w5 HO5 HB5 hz5 HN5)
        have HX5 := hide (HX2.out.other HO2.out (by decide) HN5.out)
        have HW5 := hide (HB2.out.trans HB5.out)
        go_roundw
        case rel => exact ⟨j + 1, z, a5, c5, rfl, by go_num, by omega, hz2, HO5, HX5, HW5⟩
        case measure => simp [intOf]; omega
    · obtain rfl : j = n := by omega
      have hT : P.take j = P := List.take_of_length_le (by rw [← HN.out]; exact Nat.le_refl _)
      rw [hT] at HO
      obtain ⟨X, hX⟩ : ∃ X, X = entsP P := ⟨_, rfl⟩
      rw [← hX] at HO
      have HTW' := HTW
      simp only [← hX] at HTW'
      obtain ⟨aX, cX, e, hrX, hcX, _⟩ := HO.out.form
      injection e with e1 e2 e3
      subst e1 e3
      have hkX : k = X.length := e2
      have HKX := hide hkX
      have HTO := hide (sTableOf_any a' c' X wr hrX (by unfold maxLen; omega) (by omega))
      rw [← hkX] at HTO
      unfold TabPost at HTO
      obtain ⟨⟨Q, q1, q2⟩, hQ⟩ : ∃ t, t = tblV X := ⟨_, rfl⟩
      have HQL := hide (show Q.length ≤ 10 by have h := tblV_len X; rw [← hQ] at h; exact h)
      have HQ := hide hQ
      rw [← hQ] at HTO
      clear hX hQ hT hrX hcX e2 hkX HTW
      dsimp only at HTO
      by_cases hok : tblOk X
      · rw [decide_eq_true hok] at HTO
        go_wp2_with fail
        refine HTO.out.mono ?_
        rintro e w2 ⟨v, rfl, ho, hb2⟩
        obtain ⟨a2, c2, rfl, hrd, _⟩ := ho.form
        have HB2 := hide (HB.out.trans (hb2.mono hs))
        have HO2 := hide (HO.out.below hb2 (Nat.le_refl _))
        have HX2 := hide (HX.out.below hb2 HX.out.lt)
        have hs2 := HB2.out.size
        have HX3 := hide (HX2.out.alloc (.cells #[.slice a2 Q.length c2, .string q1, .int .i64 q2] 26))
        have HY3 := hide (BoxV.new 26 w2 #[.slice a2 Q.length c2, .string q1, .int .i64 q2])
        have HB3 := hide (HB2.out.alloc hs2 (.cells #[.slice a2 Q.length c2, .string q1, .int .i64 q2] 26))
        have HO3 := hide (HO2.out.alloc (.cells #[.slice a2 Q.length c2, .string q1, .int .i64 q2] 26))
        have hs3 := HB3.out.size
        have HSM := hide (l12Same_any a2 a c2 cap Q P q1 b q2 m (w2.alloc (.cells #[.slice a2 Q.length c2, .string q1, .int .i64 q2] 26)) ((hrd.below ((Below.refl w2.heap.size w2).alloc (Nat.le_refl _) _) (Nat.le_refl _)).mono (by simp)) ((HR.out.below HB3.out (Nat.le_refl _)).mono hs3) (by have := HQL.out; unfold maxLen; omega) (by rw [← HN.out]; unfold maxLen; omega))
        rw [← HN.out] at HSM
        obtain ⟨z0, z1, z2⟩ := HX3.out.three
        obtain ⟨y0, y1, y2⟩ := HY3.out.three
        clear hb2 ho hrd HO HX HB x0 x1 x2 HX2 HB2 HO2 HTO
        by_cases heq : (Q, q1, q2) = (P, b, m)
        · have HYS := hide (HTW'.out.1 ⟨hok, by rw [← tblV_yes hok, ← HQ.out, heq]⟩)
          rw [decide_eq_true heq] at HSM
          clear hok heq
          go_wp2_with fail
          refine HSM.out.mono ?_
          rintro e w4 ⟨rfl, hb4⟩
          have HB4 := hide (HB3.out.trans (hb4.mono hs3))
          have HO4 := hide (HO3.out.below hb4 (Nat.le_refl _))
          clear hb4
          go_wp2_with fail
          go_ret2
          exact ⟨_, by rw [HYS.out.2]; rfl, by rw [HYS.out.1]; exact HO4.out, HB4.out⟩
        · have HNS := hide (HTW'.out.2 fun h => heq (by rw [HQ.out, tblV_yes hok]; exact h.2))
          rw [decide_eq_false heq] at HSM
          clear hok heq
          go_wp2_with fail
          refine HSM.out.mono ?_
          rintro e w4 ⟨rfl, hb4⟩
          have HB4 := hide (HB3.out.trans (hb4.mono hs3))
          have hs4 := HB4.out.size
          clear hb4
          go_wp2_with fail
          go_ret2
          exact TEPost.no HNS.out _ (litEnt0 _ _ hs4) (HB4.out.alloc hs4 _)
      · have HNS := hide (HTW'.out.2 fun h => hok h.1)
        rw [decide_eq_false hok] at HTO
        clear hok
        go_wp2_with fail
        refine HTO.out.mono ?_
        rintro e w2 ⟨v, rfl, ho, hb2⟩
        obtain ⟨a2, c2, rfl, hrd, _⟩ := ho.form
        have HB2 := hide (HB.out.trans (hb2.mono hs))
        have hs2 := HB2.out.size
        have HB3 := hide (HB2.out.alloc hs2 (.cells #[.slice a2 Q.length c2, .string q1, .int .i64 q2] 26))
        have hs3 := HB3.out.size
        have hle := litEnt0 w.heap.size (w2.alloc (.cells #[.slice a2 Q.length c2, .string q1, .int .i64 q2] 26)) hs3
        rw [Go.Deep.nblk_alloc] at hle
        have HLE := hide hle
        clear hb2 ho hrd HO HX HB x0 x1 x2 HB2 HTO hle
        go_wp2_with fail
        go_ret2
        exact TEPost.no HNS.out _ HLE.out (HB3.out.alloc hs3 _)
end Go.Proofs.YtdlkgpobjacgeaaDoor

/-
  Contract of spec.ShowTable.
-/
namespace Go.Proofs.YtdlkgpobjacgeaaDoor
open Go.ChangeShapes Go.WideShapes Go.ChangeAt Go.RowKit

theorem tabQ_is {t : Tbl} (h : tabQ t = true) : isTbl t := decide_eq_true_iff.1 h
theorem tabQ_not {t : Tbl} (h : tabQ t = false) : ¬ isTbl t := fun hb => by
  rw [tabQ, decide_eq_true hb] at h
  cases h
/-- l is string a and string b behind one another, as the walk wants it -/
theorem cat_l (a b l : List UInt8) (h : a ++ b = l) (hn : a.length + b.length ≤ 1048576) : ∀ W : World, (Op.stringOp .add ⟨a.toArray⟩ ⟨b.toArray⟩).run Tryd.prog W = .ok (.string ⟨l.toArray⟩) W := by
  subst h
  exact run_cat a b hn
theorem cat_s (a l : List UInt8) (s : ByteArray) (h : a ++ bl s = l) (hn : a.length + s.size ≤ 1048576) : ∀ W : World, (Op.stringOp .add ⟨a.toArray⟩ s).run Tryd.prog W = .ok (.string ⟨l.toArray⟩) W := by
  subst h
  exact run_cat_s a s hn

set_option maxHeartbeats 4000000 in
set_option maxRecDepth 40000 in
theorem sShowTable_any (a : Option Addr) (cap : Nat) (P : List PartE) (b : ByteArray) (m : Int) (w : World) (hr : elPart.Rd w w.heap.size a P) (hl : P.length ≤ 1048576) (hk : ∀ x ∈ P, x.2.size ≤ 1048576) :
    Calls Tryd.prog 21 #[.agg #[.slice a P.length cap, .string b, .int .i64 m]] w (StrPost w (showT (P, b, m))) := by
  have HR := hide hr
  have HTE := hide (fun W h => sTableEnts_any a cap P b m W h hl hk)
  unfold TEPost at HTE
  obtain ⟨V, hV⟩ : ∃ V, V = showT (P, b, m) := ⟨_, rfl⟩
  have HV := hide hV
  rw [← hV]
  obtain ⟨n, hn⟩ : ∃ n, n = P.length := ⟨_, rfl⟩
  have HN := hide hn
  rw [← hn] at hl HTE ⊢
  obtain ⟨tq, htq⟩ : ∃ tq, tq = tabQ (P, b, m) := ⟨_, rfl⟩
  have HTQ := hide htq.symm
  rw [← htq] at HTE
  clear hn hr hk hV htq hl
  have HX0 := hide (BoxV.new 26 w #[.slice a n cap, .string b, .int .i64 m])
  have HB0 := hide ((Below.refl w.heap.size w).alloc (Nat.le_refl _) (.cells #[.slice a n cap, .string b, .int .i64 m] 26))
  have HEQ := hide (HTE.out _ ((HR.out.below HB0.out (Nat.le_refl _)).mono HB0.out.size))
  clear HTE
  go_enter Tryd.func21, Tryd.ntmps21
  go_wp2_with fail
  refine HEQ.out.mono ?_
  rintro e w1 ⟨v, rfl, ho, hb1⟩
  obtain ⟨a1, c1, rfl, _⟩ := ho.form
  have HX1 := hide (HX0.out.below hb1 HX0.out.lt)
  have HB1 := hide (HB0.out.trans (hb1.mono HB0.out.size))
  clear ho hb1 HX0 HB0 HEQ
  obtain ⟨x0, x1, x2⟩ := HX1.out.three
  cases tq with
  | false =>
    have HVn := hide (HV.out.trans (showT_no (tabQ_not HTQ.out)))
    go_wp2_with fail
    go_ret
    exact ⟨by rw [HVn.out]; rfl, HB1.out⟩
  | true =>
  have hT := tabQ_is HTQ.out
  obtain ⟨hbl, hm0, hm1⟩ := tbl_bds hT
  have hpl := parts_len hT
  have HTL := hide (text_len hT)
  dsimp only at hbl hm0 hm1 hpl HTL
  rw [← HN.out] at hpl
  have hn1 : n ≤ 10 := hpl.2
  have HT1 := hide (fun W => sVar_any (n : Int) W)
  have HT2 := hide (fun W => sVar_any m W)
  have v1 := varV_len' (n : Int)
  have v2 := varV_len' m
  have HVy := hide (show V = varV (n : Int) ++ prtsL P ++ bl b ++ varV m by
    rw [HV.out, showT_yes hT]
    dsimp only
    rw [← HN.out, varV, if_pos (by omega), varV, if_pos (by omega), Int.toNat_natCast]
    simp only [List.append_assoc])
  obtain ⟨L1, hL1⟩ : ∃ L1, L1 = varV (n : Int) := ⟨_, rfl⟩
  obtain ⟨L2, hL2⟩ : ∃ L2, L2 = varV m := ⟨_, rfl⟩
  rw [← hL1] at HT1 HVy v1
  rw [← hL2] at HT2 HVy v2
  have hbs : b.size = 16 := by rw [← bl_len]; exact hbl
  clear hL1 hL2 hT hpl hbl hm0 hm1 HV
  go_wp2_with fail
  refine (HT1.out _).mono ?_
  rintro e w2 ⟨rfl, hb2⟩
  have HX2 := hide (HX1.out.below hb2 HX1.out.lt)
  have HB2 := hide (HB1.out.trans (hb2.mono HB1.out.size))
  clear hb2 HX1 HB1 x0 x1 x2
  go_wp2_with fail
  go_loopw [5, 6] (fun t i wr => ∃ (X : List UInt8) (j : Nat), t = .string ⟨X.toArray⟩ ∧ i = .int .i64 j ∧ j ≤ n ∧ X.length ≤ 7 + 1000 * j ∧ Hid (X = L1 ++ prtsL (P.take j)) ∧ Hid (BoxV 26 wr w.heap.size #[.slice a n cap, .string b, .int .i64 m]) ∧ Hid (Below w.heap.size w wr)) (fun _ i _ => n - (intOf i).toNat)
  case atStart => exact ⟨L1, 0, rfl, rfl, by omega, by omega, by simp [Hid, prtsL], HX2, HB2⟩
  case round =>
    obtain ⟨X, j, rfl, rfl, hj, hxl, HXE, HX, HB⟩ := hrel
    have hs := HB.out.size
    obtain ⟨x0, x1, x2⟩ := HX.out.three
    by_cases hlt : j < n
    · have hjP : j < P.length := by rw [← HN.out]; exact hlt
      obtain ⟨g, off, rfl, hg, hcell⟩ := HR.out (by omega)
      obtain ⟨f0, f1, hx⟩ := partsPart P[j]
      obtain ⟨c0, c1⟩ := cellsPart hx (hcell j hjP)
      have HJ := hide (show P[j]? = some (f0, f1) by rw [List.getElem?_eq_getElem hjP, hx])
      obtain ⟨t1, t2⟩ := HTL.out _ (List.mem_of_getElem? HJ.out)
      rw [bl_len] at t1 t2
      dsimp only at t1 t2
      have HPK := hide (fun W => l6Piece_any f0 (by omega) W)
      have HPV := hide (fun W => l6Piece_any f1 (by omega) W)
      have l1 := piece_len (s := f0) (by omega)
      have l2 := piece_len (s := f1) (by omega)
      have HST := hide (prtsL_step HJ.out)
      obtain ⟨PK, hPK⟩ : ∃ PK, PK = pieceL (bl f0) := ⟨_, rfl⟩
      obtain ⟨PV, hPV⟩ : ∃ PV, PV = pieceL (bl f1) := ⟨_, rfl⟩
      simp only [← hPK, ← hPV] at HPK HPV HST l1 l2
      obtain ⟨A1, hA1⟩ : ∃ A1, X ++ PK = A1 := ⟨_, rfl⟩
      obtain ⟨A2, hA2⟩ : ∃ A2, A1 ++ PV = A2 := ⟨_, rfl⟩
      have lA1 : A1.length = X.length + PK.length := by rw [← hA1, List.length_append]
      have lA2 : A2.length ≤ 7 + 1000 * (j + 1) := by rw [← hA2, List.length_append]; omega
      have k1 := cat_l X PK A1 hA1 (by omega)
      have k2 := cat_l A1 PV A2 hA2 (by omega)
      have HXN := hide (show A2 = L1 ++ prtsL (P.take (j + 1)) by rw [HST.out, ← hA2, ← hA1, HXE.out]; simp only [List.append_assoc])
      have HD := hide (fun (W : World) (h : Below (w.heap.size + 1) wr W) => show (W.cell? ⟨g, off + j * 2, none⟩ = some (.string f0) ∧ W.cell? ⟨g, off + j * 2 + 1, none⟩ = some (.string f1)) ∧ W.cell? ⟨w.heap.size, 0, none⟩ = some (.slice (some ⟨g, off, none⟩) n cap) from
        ⟨⟨(h.cell (p := ⟨g, off + j * 2, none⟩) (by show g < _; omega)).trans ((HB.out.cell (p := ⟨g, off + j * 2, none⟩) hg).trans c0), (h.cell (p := ⟨g, off + j * 2 + 1, none⟩) (by show g < _; omega)).trans ((HB.out.cell (p := ⟨g, off + j * 2 + 1, none⟩) hg).trans c1)⟩, (h.cell (p := ⟨w.heap.size, 0, none⟩) (by show w.heap.size < _; omega)).trans x0⟩)
      have hlx := HX.out.lt
      clear hcell c0 c1 hx hjP hPK hPV hA1 hA2 t1 t2
      go_wp2_with fail
      go_region_held3 (fun w' => (w'.cell? ⟨g, off + j * 2, none⟩ = some (.string f0) ∧ w'.cell? ⟨g, off + j * 2 + 1, none⟩ = some (.string f1)) ∧ w'.cell? ⟨w.heap.size, 0, none⟩ = some (.slice (some ⟨g, off, none⟩) n cap))
        (first
          | with_reducible exact HD.out _ (Below.refl _ _)
          | with_reducible exact HD.out _ (Below.refl _ _).drew
          | with_reducible exact HD.out _ HW3.out
          | with_reducible exact HD.out _ HW4.out)
        (first
          | (have hq2 := HW3.out
             clear hq2
             go_at_call 47
             refine (HPV.out _).mono ?_
             rintro e w4 ⟨rfl, hb4⟩
             have HW4 : Hid (Below (w.heap.size + 1) wr w4) := HW3.out.trans (hb4.mono (Nat.le_trans hlx HW3.out.size))
             clear hb4)
          | (go_at_call 47
             refine (HPK.out _).mono ?_
             rintro e w3 ⟨rfl, hb3⟩
             have HW3 : Hid (Below (w.heap.size + 1) wr w3) := (below_of_drew' hb3).mono hlx
             clear hb3))
      all_goals go_wp2_with fail
      all_goals go_roundw
      all_goals first
        | (simp [intOf]; omega)
        | exact ⟨A2, j + 1, rfl, by go_num, by omega, lA2, HXN, HX.out.below HW4.out (Nat.lt_succ_self _), HB.out.trans (HW4.out.mono (Nat.le_succ _))⟩
    · obtain rfl : j = n := by omega
      have HXE2 := hide (show X = L1 ++ prtsL P by rw [HXE.out, List.take_of_length_le (by rw [← HN.out]; exact Nat.le_refl _)])
      obtain ⟨A1, hA1⟩ : ∃ A1, X ++ bl b = A1 := ⟨_, rfl⟩
      obtain ⟨A2, hA2⟩ : ∃ A2, A1 ++ L2 = A2 := ⟨_, rfl⟩
      have lA1 : A1.length = X.length + b.size := by rw [← hA1, List.length_append, bl_len]
      have k1 := cat_s X A1 b hA1 (by omega)
      have k2 := cat_l A1 L2 A2 hA2 (by omega)
      have HVe := hide (show V = A2 by rw [HVy.out, ← hA2, ← hA1, HXE2.out])
      have HD := hide (fun (W : World) (h : Below (w.heap.size + 1) wr W) => show W.cell? ⟨w.heap.size, 1, none⟩ = some (.string b) ∧ W.cell? ⟨w.heap.size, 2, none⟩ = some (.int .i64 m) from
        ⟨(h.cell (p := ⟨w.heap.size, 1, none⟩) (by show w.heap.size < _; omega)).trans x1, (h.cell (p := ⟨w.heap.size, 2, none⟩) (by show w.heap.size < _; omega)).trans x2⟩)
      have hlx := HX.out.lt
      clear hA1 hA2
      go_wp2_with fail
      go_region_held3 (fun w' => w'.cell? ⟨w.heap.size, 1, none⟩ = some (.string b) ∧ w'.cell? ⟨w.heap.size, 2, none⟩ = some (.int .i64 m))
        (first
          | with_reducible exact HD.out _ (Below.refl _ _)
          | with_reducible exact HD.out _ (Below.refl _ _).drew
          | with_reducible exact HD.out _ HW3.out)
        (first
          | (go_at_call 46
             refine (HT2.out _).mono ?_
             rintro e w3 ⟨rfl, hb3⟩
             have HW3 : Hid (Below (w.heap.size + 1) wr w3) := (below_of_drew' hb3).mono hlx
             clear hb3))
      all_goals go_wp2_with fail
      all_goals go_ret
      all_goals exact ⟨by rw [HVe.out]; rfl, HB.out.trans (HW3.out.mono (Nat.le_succ _))⟩
end Go.Proofs.YtdlkgpobjacgeaaDoor

/-
  Contract of spec.ReadTable.
-/
namespace Go.Proofs.YtdlkgpobjacgeaaDoor
open Go.ChangeShapes Go.WideShapes Go.ChangeAt Go.RowKit

theorem ext_mid3 (s : ByteArray) (p q : Nat) : s.extract p (p + q) = ⟨(((bl s).drop p).take q).toArray⟩ := ba_ext (by rw [Lib.extract_data, Nat.add_sub_cancel_left]; rfl)
theorem cell_other (w : World) (p q : Addr) (v : Value) (h : q.block ≠ p.block) : (w.setCell p v).cell? q = w.cell? q := by
  unfold World.cell?
  rw [heap_setCell_other w p q.block v h]
theorem takeB_le' (S : List UInt8) (q : Int) : (takeB S q).length ≤ S.length := by
  unfold takeB
  split
  · exact Nat.zero_le _
  · rw [List.length_take, List.length_drop]; omega
/-- the world behind an answer of no table -/
theorem TabPost.no {w w' : World} {t : Tbl} {q : Bool} (h : t = zeroT ∧ q = false) (hb : Below w.heap.size w w') : TabPost w t q (.returned (.tuple #[.agg #[.slice none 0 0, .string ⟨#[]⟩, .int .i64 0], .bool false])) w' := by
  obtain ⟨rfl, rfl⟩ := h
  exact ⟨_, rfl, El.Owns.nil _ _, hb⟩

set_option maxHeartbeats 4000000 in
set_option maxRecDepth 40000 in
theorem sReadTable_any (s : ByteArray) (hm : s.size ≤ 1048576) (w : World) :
    Calls Tryd.prog 23 #[.string s] w (TabPost w (readT (bl s)) (readTQ (bl s))) := by
  have hm' : s.size ≤ 1099511627775 := by omega
  have hSL := bl_len s
  have HX0 := hide (BoxV.new 26 w #[.slice none 0 0, .string ⟨#[]⟩, .int .i64 0])
  have HR0 := hide (HX0.out.alloc (.cells #[.slice none 0 0, .string ⟨#[]⟩, .int .i64 0] 26))
  have HT0 := hide (show BoxV 26 ((w.alloc (.cells #[.slice none 0 0, .string ⟨#[]⟩, .int .i64 0] 26)).alloc (.cells #[.slice none 0 0, .string ⟨#[]⟩, .int .i64 0] 26)) (w.heap.size + 1) #[.slice none 0 0, .string ⟨#[]⟩, .int .i64 0] from by
    have h := BoxV.new 26 (w.alloc (.cells #[.slice none 0 0, .string ⟨#[]⟩, .int .i64 0] 26)) #[.slice none 0 0, .string ⟨#[]⟩, .int .i64 0]
    rw [Go.Deep.nblk_alloc] at h
    exact h)
  have HB0 := hide (((Below.refl w.heap.size w).alloc (Nat.le_refl _) (.cells #[.slice none 0 0, .string ⟨#[]⟩, .int .i64 0] 26)).alloc (by simp) (.cells #[.slice none 0 0, .string ⟨#[]⟩, .int .i64 0] 26))
  have HV1 := hide (fun W => l6Vars_any s hm' (0 : Int) 1 (by omega) W)
  rw [show (1 : Int).toNat = 1 from rfl] at HV1
  rcases vars1 (bl s) 0 with hq | ⟨x, p0, he, hql, hx⟩
  · have HN1 := hide (readT_none (rt_bad0 hq))
    obtain ⟨L, hL⟩ : ∃ L, L = (varsF (bl s) 1 0).1 := ⟨_, rfl⟩
    obtain ⟨Q, hQ⟩ : ∃ Q, Q = (varsF (bl s) 1 0).2 := ⟨_, rfl⟩
    rw [← hL, ← hQ] at HV1
    rw [← hQ] at hq
    clear hL hQ hSL
    have hd : decide (Q < 0) = true := decide_eq_true hq
    go_enter Tryd.func23, Tryd.ntmps23
    go_wp2_with fail
    refine (HV1.out _).mono ?_
    rintro e w2 ⟨v, rfl, ho, hb2⟩
    have HB2 := hide (HB0.out.trans (hb2.mono HB0.out.size))
    have HR2 := hide (HR0.out.below hb2 HR0.out.lt)
    have HT2 := hide (HT0.out.below hb2 HT0.out.lt)
    clear hb2 ho HB0 HR0 HT0
    obtain ⟨t0, t1, t2⟩ := HT2.out.three
    obtain ⟨d0, d1, d2⟩ := HR2.out.three
    obtain ⟨y0, y1, y2⟩ := HR2.out.froz3
    have hl2 := HR2.out.lt
    go_wp2_with fail
    refine bodyPost_ret (res_tab rfl _ _ w.heap.size rfl (HR2.out.all3 _ _ _)) rfl ?_
    exact TabPost.no HN1.out (below_three HB2.out (Nat.le_refl _) _ _ _)
  rw [hSL] at hql
  by_cases hx60 : 60 < x
  · have HN1 := hide (readT_none (rt_many he hx60))
    rw [he] at HV1
    clear he hSL
    have hd : decide ((p0 : Int) < 0) = false := decide_eq_false (by omega)
    have hd6 : decide ((60 : Int) < (x : Int)) = true := decide_eq_true (by omega)
    go_enter Tryd.func23, Tryd.ntmps23
    go_wp2_with fail
    refine (HV1.out _).mono ?_
    rintro e w2 ⟨v, rfl, ho, hb2⟩
    obtain ⟨g, cap, tl, rfl, hgb, hglt, hW⟩ := ho.words (by simp)
    have c0 : w2.cell? ⟨g, 0, none⟩ = some (.int .i64 (x : Int)) := hW.cell 0 (by simp)
    have HB2 := hide (HB0.out.trans (hb2.mono HB0.out.size))
    have HR2 := hide (HR0.out.below hb2 HR0.out.lt)
    have HT2 := hide (HT0.out.below hb2 HT0.out.lt)
    clear hb2 ho hW HB0 HR0 HT0
    obtain ⟨t0, t1, t2⟩ := HT2.out.three
    obtain ⟨d0, d1, d2⟩ := HR2.out.three
    obtain ⟨y0, y1, y2⟩ := HR2.out.froz3
    have hl2 := HR2.out.lt
    go_wp2_with fail
    refine bodyPost_ret (res_tab rfl _ _ w.heap.size rfl (HR2.out.all3 _ _ _)) rfl ?_
    exact TabPost.no HN1.out (below_three HB2.out (Nat.le_refl _) _ _ _)
  have HRT := hide (RtAt.start he)
  rw [he] at HV1
  have hd : decide ((p0 : Int) < 0) = false := decide_eq_false (by omega)
  have hd6 : decide ((60 : Int) < (x : Int)) = false := decide_eq_false (by omega)
  have HSL := hide hSL
  clear he hSL
  go_enter Tryd.func23, Tryd.ntmps23
  go_wp2_with fail
  refine (HV1.out _).mono ?_
  rintro e w2 ⟨v, rfl, ho, hb2⟩
  obtain ⟨g, cap, tl, rfl, hgb, hglt, hW⟩ := ho.words (by simp)
  have c0 : w2.cell? ⟨g, 0, none⟩ = some (.int .i64 (x : Int)) := hW.cell 0 (by simp)
  have HC2 := hide c0
  have HB2 := hide (HB0.out.trans (hb2.mono HB0.out.size))
  have HR2 := hide (HR0.out.below hb2 HR0.out.lt)
  have HT2 := hide (HT0.out.below hb2 HT0.out.lt)
  have hgb2 : w.heap.size + 2 ≤ g := by
    have h : ((w.alloc (.cells #[.slice none 0 0, .string ⟨#[]⟩, .int .i64 0] 26)).alloc (.cells #[.slice none 0 0, .string ⟨#[]⟩, .int .i64 0] 26)).heap.size ≤ g := hgb
    rw [Go.Deep.nblk_alloc, Go.Deep.nblk_alloc] at h
    exact h
  have hgw : w.heap.size + 2 ≤ w2.heap.size := by omega
  clear hb2 ho hW HB0 HR0 HT0 HV1 hgb
  go_wp2_with fail
  go_loopw [6, 7] (fun t i wr => ∃ (j p : Nat) (aP : Option Addr) (cP : Nat) (P : List Prt), t = .int .i64 p ∧ i = .int .i64 j ∧ j ≤ x ∧ p ≤ s.size ∧ P.length = j ∧ wr.cell? ⟨g, 0, none⟩ = some (.int .i64 (x : Int)) ∧ w2.heap.size ≤ wr.heap.size ∧ Hid (RtAt (bl s) x j P p) ∧ Hid (∀ y ∈ P, y.2.size ≤ 1048576) ∧ Hid (elPart.Owns w2.heap.size wr (.slice aP j cP) P) ∧
    Hid (BoxV 26 wr (w.heap.size + 1) #[.slice aP j cP, .string ⟨#[]⟩, .int .i64 0]) ∧ Hid (BoxV 26 wr w.heap.size #[.slice none 0 0, .string ⟨#[]⟩, .int .i64 0]) ∧ Hid (Below w.heap.size w wr)) (fun _ i _ => x - (intOf i).toNat)
  case atStart => exact ⟨0, p0, none, 0, [], rfl, rfl, by omega, hql, rfl, HC2.out, Nat.le_refl _, HRT, fun y hy => by simp at hy, El.Owns.nil _ _, HT2, HR2, HB2⟩
  case round =>
    obtain ⟨j, p, aP, cP, P, rfl, rfl, hj, hp, hPl, hc, hwz, HRA, HSZ, HP, HT, HR, HB⟩ := hrel
    have hs := HB.out.size
    by_cases hlt : j < x
    · have HT1 := hide (fun W => l6Take_any s hm' (p : Int) W)
      obtain ⟨kb, hkb⟩ : ∃ kb, kb = takeB (bl s) (p : Int) := ⟨_, rfl⟩
      obtain ⟨E1, hE1⟩ : ∃ E1, E1 = takeE (bl s) (p : Int) := ⟨_, rfl⟩
      have HT3 := hide (fun W => l6Take_any s hm' E1 W)
      have HBD := hide (fun h => HRA.out.bad hlt h)
      have HSP := hide (fun q h => HRA.out.step (q := q) hlt h)
      have hGE := fun (q : Nat) (h : takeE (bl s) E1 = (q : Int)) => takeE_ge h
      rw [← hkb, ← hE1] at HT1
      rw [← hkb, ← hE1] at HSP
      rw [← hE1] at HBD
      obtain ⟨tb, htb⟩ : ∃ tb, tb = takeB (bl s) E1 := ⟨_, rfl⟩
      obtain ⟨E2, hE2⟩ : ∃ E2, E2 = takeE (bl s) E1 := ⟨_, rfl⟩
      have htl : tb.length ≤ s.size := by
        have := takeB_le' (bl s) E1
        rw [← htb, HSL.out] at this
        exact this
      rw [← htb, ← hE2] at HT3 HSP
      rw [← hE2] at HBD
      simp only [← htb, ← hE2] at hGE
      clear hkb hE1 htb hE2
      by_cases hq : E2 < 0
      · have HN1 := hide (readT_none (HBD.out hq))
        have hd2 : decide (E2 < 0) = true := decide_eq_true hq
        clear hGE
        go_wp2_with fail
        refine (HT1.out _).mono ?_
        rintro e w3 ⟨rfl, hb3⟩
        have HB3 := hide (HB.out.trans (hb3.mono hs))
        have HR3 := hide (HR.out.below hb3 HR.out.lt)
        clear hb3
        go_wp2_with fail
        refine (HT3.out _).mono ?_
        rintro e w4 ⟨rfl, hb4⟩
        have HB4 := hide (HB3.out.trans (hb4.mono HB3.out.size))
        have HR4 := hide (HR3.out.below hb4 HR3.out.lt)
        clear hb4 HB3 HR3
        obtain ⟨d0, d1, d2⟩ := HR4.out.three
        obtain ⟨y0, y1, y2⟩ := HR4.out.froz3
        have hl2 := HR4.out.lt
        go_wp2_with fail
        refine bodyPost_ret (res_tab rfl _ _ w.heap.size rfl (HR4.out.all3 _ _ _)) rfl ?_
        exact TabPost.no HN1.out (below_three HB4.out (Nat.le_refl _) _ _ _)
      · obtain ⟨q, rfl⟩ : ∃ q : Nat, E2 = q := ⟨E2.toNat, by omega⟩
        have hq2 := (hGE q rfl).2
        rw [HSL.out] at hq2
        have HRA2 := hide (HSP.out q rfl)
        have HSZ2 := hide (show ∀ y ∈ P ++ [((⟨kb.toArray⟩, ⟨tb.toArray⟩) : Prt)], y.2.size ≤ 1048576 from fun y hy => by
          rcases List.mem_append.1 hy with h | h
          · exact HSZ.out y h
          · rw [List.mem_singleton.1 h]
            show (⟨tb.toArray⟩ : ByteArray).size ≤ _
            rw [size_of]
            omega)
        have hd2 : decide ((q : Int) < 0) = false := decide_eq_false (by omega)
        have hpl2 : (P ++ [((⟨kb.toArray⟩, ⟨tb.toArray⟩) : Prt)]).length = j + 1 := by rw [List.length_append, hPl]; rfl
        clear hGE hq HSP HBD
        go_wp2_with fail
        refine (HT1.out _).mono ?_
        rintro e w3 ⟨rfl, hb3⟩
        have HB3 := hide (HB.out.trans (hb3.mono hs))
        have HR3 := hide (HR.out.below hb3 HR.out.lt)
        have HT3' := hide (HT.out.below hb3 HT.out.lt)
        have HP3 := hide (HP.out.below hb3 (Nat.le_refl _))
        have c3 := (hb3.cell (p := ⟨g, 0, none⟩) (by show g < wr.heap.size; omega)).trans hc
        have hz3 := Nat.le_trans hwz hb3.size
        clear hb3
        go_wp2_with fail
        refine (HT3.out _).mono ?_
        rintro e w4 ⟨rfl, hb4⟩
        have HB4 := hide (HB3.out.trans (hb4.mono HB3.out.size))
        have HR4 := hide (HR3.out.below hb4 HR3.out.lt)
        have HT4 := hide (HT3'.out.below hb4 HT3'.out.lt)
        have HP4 := hide (HP3.out.below hb4 (Nat.le_refl _))
        have c4 := (hb4.cell (p := ⟨g, 0, none⟩) (by show g < w3.heap.size; omega)).trans c3
        have hz4 := Nat.le_trans hz3 hb4.size
        have hs4 := HB4.out.size
        clear hb4 HB3 HR3 HT3' HP3 c3 hz3 HB HR HT HP HT1 HT3
        obtain ⟨t0, t1, t2⟩ := HT4.out.three
        have HPa := hide (HP4.out.alloc (.cells #[.string ⟨kb.toArray⟩, .string ⟨tb.toArray⟩] 55))
        have HSa := hide ((El.Owns.lit (e := elPart) 0 w4 [((⟨kb.toArray⟩, ⟨tb.toArray⟩) : Prt)] #[.string ⟨kb.toArray⟩, .string ⟨tb.toArray⟩] 1 rfl rfl (Nat.zero_le _) (by simp [maxLen])).src)
        have hbb := hide (Below.refl w2.heap.size (w4.alloc (.cells #[.string ⟨kb.toArray⟩, .string ⟨tb.toArray⟩] 55)))
        have hka : w2.heap.size ≤ (w4.alloc (.cells #[.string ⟨kb.toArray⟩, .string ⟨tb.toArray⟩] 55)).heap.size := by rw [Go.Deep.nblk_alloc]; omega
        have HAll := hide (fun (w5 : World) (hB5 : Below w2.heap.size (w4.alloc (.cells #[.string ⟨kb.toArray⟩, .string ⟨tb.toArray⟩] 55)) w5) =>
          show (BoxV 26 w5 (w.heap.size + 1) #[.slice aP j cP, .string ⟨#[]⟩, .int .i64 0] ∧ BoxV 26 w5 w.heap.size #[.slice none 0 0, .string ⟨#[]⟩, .int .i64 0]) ∧ Below w.heap.size w w5 ∧ w5.cell? ⟨g, 0, none⟩ = some (.int .i64 (x : Int)) ∧ w2.heap.size ≤ w5.heap.size from
          ⟨⟨(HT4.out.alloc _).below hB5 (by omega), (HR4.out.alloc _).below hB5 (by omega)⟩, (HB4.out.alloc hs4 _).trans (hB5.mono (by omega)), (hB5.cell (p := ⟨g, 0, none⟩) hglt).trans ((World.cell?_alloc_lt w4 _ ⟨g, 0, none⟩ (by show g < w4.heap.size; omega)).trans c4), Nat.le_trans hka hB5.size⟩)
        go_wp2_with (at_builtin; refine El.appendSrc (e := elPart) rfl (.tmp 51) (.tmp 55) 24 rfl Tryd.underlying24 _ _ infoPart rfl (by decide) (by decide) w2.heap.size (w4.alloc (.cells #[.string ⟨kb.toArray⟩, .string ⟨tb.toArray⟩] 55)) _ _ _ _ [((⟨kb.toArray⟩, ⟨tb.toArray⟩) : Prt)] rfl rfl HPa HSa hbb hka _ (j + 1) rfl hpl2 (by omega) ?_; intro a5 c5 w5 HO5 HB5 hz5 HN5; obtain ⟨⟨k1, k2⟩, k3, k4, k5⟩ := HAll.out w5 HB5.out; have HT5 := hide k1; have HR5 := hide k2; have HW5 := hide k3; obtain ⟨u0, u1, u2⟩ := HT5.out.three; have zz := HT5.out.frozen 0; have hl5 := HT5.out.lt; clear k1 k2 k3)
        go_roundw
        case rel => exact ⟨j + 1, q, a5, c5, _, by go_num, by go_num, by omega, hq2, hpl2, (cell_other _ _ _ _ (by show g ≠ w.heap.size + 1; omega)).trans k4, by simpa using k5, HRA2, HSZ2, HO5.out.set_other (p := ⟨w.heap.size + 1, 0, none⟩) (by show w.heap.size + 1 < _; omega) _, HT5.out.set30 _, HR5.out.set_other (p := ⟨w.heap.size + 1, 0, none⟩) (by show w.heap.size + 1 ≠ w.heap.size; omega) _, HW5.out.setCell (p := ⟨w.heap.size + 1, 0, none⟩) (by show w.heap.size ≤ w.heap.size + 1; omega) _⟩
        case measure => simp [intOf]; omega
    · obtain rfl : j = x := by omega
      obtain ⟨t0, t1, t2⟩ := HT.out.three
      obtain ⟨d0, d1, d2⟩ := HR.out.three
      obtain ⟨y0, y1, y2⟩ := HR.out.froz3
      have hlr := HR.out.lt
      have hsub : IntKind.i64.wrap ((s.size : Int) - (p : Int)) = ((s.size - p : Nat) : Int) := by rw [IntKind.wrap_i64]; omega
      by_cases h16 : s.size < p + 16
      · have HN1 := hide (readT_none (HRA.out.short (by rw [HSL.out]; exact h16)))
        have hd1 : decide ((s.size : Int) - (p : Int) < 16) = true := decide_eq_true (by omega)
        clear hsub
        go_wp2_with fail
        refine bodyPost_ret (res_tab rfl _ _ w.heap.size rfl (HR.out.all3 _ _ _)) rfl ?_
        exact TabPost.no HN1.out (below_three HB.out (Nat.le_refl _) _ _ _)
      have hd1 : decide ((s.size : Int) - (p : Int) < 16) = false := decide_eq_false (by omega)
      have hp16 : IntKind.i64.wrap ((p : Int) + 16) = ((p + 16 : Nat) : Int) := by rw [IntKind.wrap_i64]; omega
      obtain ⟨F, hF⟩ : ∃ F : ByteArray, F = ⟨(((bl s).drop p).take 16).toArray⟩ := ⟨_, rfl⟩
      have hext : s.extract p (p + 16) = F := by rw [hF]; exact ext_mid3 s p 16
      have HV2 := hide (fun W => l6Vars_any s hm' ((p + 16 : Nat) : Int) 1 (by omega) W)
      rw [show (1 : Int).toNat = 1 from rfl] at HV2
      have i1 : (p : Int) ≤ (p : Int) + 16 := by omega
      have i2 : (p : Int) + 16 ≤ (s.size : Int) := by omega
      have hz1 : w.heap.size + 1 < wr.heap.size := HT.out.lt
      obtain ⟨W5, hW5⟩ : ∃ W5, W5 = wr.setCell ⟨w.heap.size + 1, 1, none⟩ (.string F) := ⟨_, rfl⟩
      have HT5 := hide (show BoxV 26 W5 (w.heap.size + 1) #[.slice aP j cP, .string F, .int .i64 0] from hW5 ▸ HT.out.set31 _)
      have HR5 := hide (show BoxV 26 W5 w.heap.size #[.slice none 0 0, .string ⟨#[]⟩, .int .i64 0] from hW5 ▸ HR.out.set_other (by show w.heap.size + 1 ≠ w.heap.size; omega) _)
      have HP5 := hide (show elPart.Owns w2.heap.size W5 (.slice aP j cP) P from hW5 ▸ HP.out.set_other (by show w.heap.size + 1 < _; omega) _)
      have HB5 := hide (show Below w.heap.size w W5 from hW5 ▸ HB.out.setCell (p := ⟨w.heap.size + 1, 1, none⟩) (by show w.heap.size ≤ w.heap.size + 1; omega) _)
      have z1 := HT.out.frozen 1
      rcases vars1 (bl s) ((p + 16 : Nat) : Int) with hq | ⟨mx, q, he, hql2, hy⟩
      · have HN1 := hide (readT_none (HRA.out.badN hq))
        obtain ⟨L, hL⟩ : ∃ L, L = (varsF (bl s) 1 ((p + 16 : Nat) : Int)).1 := ⟨_, rfl⟩
        obtain ⟨Q, hQ⟩ : ∃ Q, Q = (varsF (bl s) 1 ((p + 16 : Nat) : Int)).2 := ⟨_, rfl⟩
        rw [← hL, ← hQ] at HV2
        rw [← hQ] at hq
        clear hL hQ hF
        have hd2 : decide (Q < 0) = true := decide_eq_true hq
        go_upto_region 17 with (fail)
        rw [← hW5]
        clear hW5 t0 t1 t2 d0 d1 d2 y0 y1 y2 z1
        go_wp2_with fail
        refine (HV2.out _).mono ?_
        rintro e w6 ⟨v6, rfl, ho6, hb6⟩
        have HB6 := hide (HB5.out.trans (hb6.mono HB5.out.size))
        have HR6 := hide (HR5.out.below hb6 HR5.out.lt)
        clear hb6 ho6
        obtain ⟨d0, d1, d2⟩ := HR6.out.three
        obtain ⟨y0, y1, y2⟩ := HR6.out.froz3
        have hl2 := HR6.out.lt
        go_wp2_with fail
        refine bodyPost_ret (res_tab rfl _ _ w.heap.size rfl (HR6.out.all3 _ _ _)) rfl ?_
        exact TabPost.no HN1.out (below_three HB6.out (Nat.le_refl _) _ _ _)
      have HWH := hide (HRA.out.whole he)
      rw [← hF] at HWH
      rw [he] at HV2
      have hd2 : decide ((q : Int) < 0) = false := decide_eq_false (by omega)
      have HSH := hide (fun W a' c' h => sShowTable_any a' c' P F (mx : Int) W h (by rw [hPl]; omega) HSZ.out)
      rw [hPl] at HSH
      have hse : s.toList.isEmpty = false := by
        rw [ByteArray.toList_eq, List.isEmpty_eq_false_iff]
        intro h
        have h2 := congrArg List.length h
        have h3 := HSL.out
        unfold bl at h3
        rw [h2, List.length_nil] at h3
        omega
      have HNE := hide (show bl s ≠ [] from fun h => by
        have h3 := HSL.out
        rw [h, List.length_nil] at h3
        omega)
      obtain ⟨VS, hVS⟩ : ∃ VS, VS = showT (P, F, (mx : Int)) := ⟨_, rfl⟩
      have HVS := hide hVS
      rw [← hVS] at HSH
      clear hF he hVS hql2
      go_upto_region 17 with (fail)
      rw [← hW5]
      clear hW5 t0 t1 t2 d0 d1 d2 y0 y1 y2 z1
      go_wp2_with fail
      refine (HV2.out _).mono ?_
      rintro e w6 ⟨v6, rfl, ho6, hb6⟩
      obtain ⟨g6, cap6, tl6, rfl, hgb6, hglt6, hW6⟩ := ho6.words (by simp)
      have k0 : w6.cell? ⟨g6, 0, none⟩ = some (.int .i64 (mx : Int)) := hW6.cell 0 (by simp)
      have HB6 := hide (HB5.out.trans (hb6.mono HB5.out.size))
      have HR6 := hide (HR5.out.below hb6 HR5.out.lt)
      have HT6 := hide (HT5.out.below hb6 HT5.out.lt)
      have HP6 := hide (HP5.out.below hb6 (Nat.le_refl _))
      have z2 := HT6.out.frozen 2
      have hl6 := HT6.out.lt
      obtain ⟨t0, t1, t2⟩ := HT6.out.three
      clear hb6 ho6 hW6
      obtain ⟨W7, hW7⟩ : ∃ W7, W7 = w6.setCell ⟨w.heap.size + 1, 2, none⟩ (.int .i64 (mx : Int)) := ⟨_, rfl⟩
      have HT7 := hide (show BoxV 26 W7 (w.heap.size + 1) #[.slice aP j cP, .string F, .int .i64 (mx : Int)] from hW7 ▸ HT6.out.set32 _)
      have HR7 := hide (show BoxV 26 W7 w.heap.size #[.slice none 0 0, .string ⟨#[]⟩, .int .i64 0] from hW7 ▸ HR6.out.set_other (by show w.heap.size + 1 ≠ w.heap.size; omega) _)
      have HP7 := hide (show elPart.Owns w2.heap.size W7 (.slice aP j cP) P from hW7 ▸ HP6.out.set_other (by show w.heap.size + 1 < _; omega) _)
      have HB7 := hide (show Below w.heap.size w W7 from hW7 ▸ HB6.out.setCell (p := ⟨w.heap.size + 1, 2, none⟩) (by show w.heap.size ≤ w.heap.size + 1; omega) _)
      go_upto_region 21 with (fail)
      rw [← hW7]
      clear hW7 t0 t1 t2 k0 z2
      obtain ⟨t0, t1, t2⟩ := HT7.out.three
      have HSC := hide (HSH.out W7 aP cP (owns_rd HP7.out))
      by_cases hsh : VS = bl s
      · have HN2 := hide (readT_yes HNE.out (HVS.out.symm.trans hsh))
        have hbe : (!(VS == s.toList)) = false := by rw [Bool.not_eq_false', beq_iff_eq, ByteArray.toList_eq]; exact hsh
        clear hsh
        go_wp2_with fail
        refine HSC.out.mono ?_
        rintro e w8 ⟨rfl, hb8⟩
        have HB8 := hide (HB7.out.trans (hb8.mono HB7.out.size))
        have HR8 := hide (HR7.out.below hb8 HR7.out.lt)
        have HT8 := hide (HT7.out.below hb8 HT7.out.lt)
        have HP8 := hide (HP7.out.below hb8 (Nat.le_refl _))
        clear hb8 t0 t1 t2
        obtain ⟨t0, t1, t2⟩ := HT8.out.three
        obtain ⟨d0, d1, d2⟩ := HR8.out.three
        obtain ⟨y0, y1, y2⟩ := HR8.out.froz3
        have hl8 := HR8.out.lt
        go_wp2_with fail
        refine bodyPost_ret (res_tab rfl _ _ w.heap.size rfl (HR8.out.all3 _ _ _)) rfl ?_
        refine ⟨.slice aP j cP, by rw [HN2.out.1, HN2.out.2]; rfl, ?_, below_three HB8.out (Nat.le_refl _) _ _ _⟩
        rw [HN2.out.1]
        exact (((HP8.out.set_other (p := ⟨w.heap.size, 0, none⟩) (by show w.heap.size < _; omega) _).set_other (p := ⟨w.heap.size, 1, none⟩) (by show w.heap.size < _; omega) _).set_other (p := ⟨w.heap.size, 2, none⟩) (by show w.heap.size < _; omega) _).mono (by omega)
      · have HN1 := hide (readT_none fun t' h1 h2 => hsh (by rw [HVS.out, ← HWH.out t' h1 h2, h2]))
        have hbe : (!(VS == s.toList)) = true := by rw [ne_str hsh]; rfl
        clear hsh
        go_wp2_with fail
        refine HSC.out.mono ?_
        rintro e w8 ⟨rfl, hb8⟩
        have HB8 := hide (HB7.out.trans (hb8.mono HB7.out.size))
        have HR8 := hide (HR7.out.below hb8 HR7.out.lt)
        clear hb8 t0 t1 t2
        obtain ⟨d0, d1, d2⟩ := HR8.out.three
        obtain ⟨y0, y1, y2⟩ := HR8.out.froz3
        have hl8 := HR8.out.lt
        go_wp2_with fail
        refine bodyPost_ret (res_tab rfl _ _ w.heap.size rfl (HR8.out.all3 _ _ _)) rfl ?_
        exact TabPost.no HN1.out (below_three HB8.out (Nat.le_refl _) _ _ _)
end Go.Proofs.YtdlkgpobjacgeaaDoor

/-
  Contracts of slices.Equal of parts, impl's (Table).equal and (Table).claimedEnts.
-/
namespace Go.Proofs.YtdlkgpobjacgeaaDoor
open Go.ChangeShapes Go.WideShapes Go.ChangeAt Go.RowKit

set_option maxHeartbeats 2000000 in
set_option maxRecDepth 40000 in
theorem equalParts_any (a1 a2 : Option Addr) (c1 c2 : Nat) (P Q : List PartE) (w : World) (h1 : elPart.Rd w w.heap.size a1 P) (h2 : elPart.Rd w w.heap.size a2 Q) (hl1 : P.length ≤ maxLen) :
    Calls Tryd.prog 72 #[.slice a1 P.length c1, .slice a2 Q.length c2] w (BoolPost w (decide (P = Q))) := by
  have H1 := hide h1
  have H2 := hide h2
  clear h1 h2
  obtain ⟨V, hV⟩ : ∃ V, V = decide (P = Q) := ⟨_, rfl⟩
  have HV := hide hV
  rw [← hV]
  obtain ⟨n, hn⟩ : ∃ n, n = P.length := ⟨_, rfl⟩
  have HN := hide hn
  obtain ⟨k, hk⟩ : ∃ k, k = Q.length := ⟨_, rfl⟩
  have HK := hide hk
  rw [← hn] at hl1 ⊢
  rw [← hk]
  unfold maxLen at hl1
  clear hV hn hk
  by_cases hlen : n = k
  · have HBM := hide hlen
    have e3 : ((n : Int) != (k : Int)) = false := by rw [bne_eq_false_iff_eq]; omega
    clear hlen
    go_enter Tryd.func72, Tryd.ntmps72
    go_wp2_with fail
    go_loopw [13] (fun i wr => ∃ j : Nat, i = .int .i64 j ∧ j ≤ n ∧ Hid (∀ i, i < j → P[i]? = Q[i]?) ∧ Hid (Below w.heap.size w wr)) (fun i _ => n - (intOf i).toNat)
    case atStart => exact ⟨0, rfl, by omega, fun i hi => by omega, Below.refl _ _⟩
    case round =>
      obtain ⟨j, rfl, hj, HE, HW⟩ := hrel
      by_cases hlt : j < n
      · have hjP : j < P.length := by rw [← HN.out]; exact hlt
        have hjQ : j < Q.length := by rw [← HK.out, ← HBM.out]; exact hlt
        have hjk : j < k := by rw [HK.out]; exact hjQ
        obtain ⟨g1, o1, rfl, hg1, hc1⟩ := H1.out (by omega)
        obtain ⟨g2, o2, rfl, hg2, hc2⟩ := H2.out (by omega)
        obtain ⟨f0, f1, hx⟩ := partsPart P[j]
        obtain ⟨q0, q1, hy⟩ := partsPart Q[j]
        obtain ⟨p0, p1⟩ := cellsPart hx (hc1 j hjP)
        obtain ⟨r0, r1⟩ := cellsPart hy (hc2 j hjQ)
        have d0 := (HW.out.cell (p := ⟨g1, o1 + j * 2, none⟩) hg1).trans p0
        have d1 := (HW.out.cell (p := ⟨g1, o1 + j * 2 + 1, none⟩) hg1).trans p1
        have e0 := (HW.out.cell (p := ⟨g2, o2 + j * 2, none⟩) hg2).trans r0
        have e1' := (HW.out.cell (p := ⟨g2, o2 + j * 2 + 1, none⟩) hg2).trans r1
        have HPJ := hide (show P[j]? = some (f0, f1) by rw [List.getElem?_eq_getElem hjP, hx])
        have HQJ := hide (show Q[j]? = some (q0, q1) by rw [List.getElem?_eq_getElem hjQ, hy])
        have s0 := str_eqB f0 q0
        have s1 := str_eqB f1 q1
        clear hc1 hc2 p0 p1 r0 r1 hx hy hjP hjQ
        by_cases hpq : (f0, f1) = (q0, q1)
        · obtain ⟨rfl, rfl⟩ := Prod.mk.inj hpq
          clear s0 s1 hpq
          have HE2 := hide (show ∀ i, i < j + 1 → P[i]? = Q[i]? from fun i hi => by
            rcases Nat.lt_or_ge i j with h | h
            · exact HE.out i h
            · rw [show i = j by omega, HPJ.out, HQJ.out])
          go_wp2_with fail
          go_quiet (fail)
          go_wp2_with fail
          go_roundw
          case rel => exact ⟨j + 1, by go_num, by omega, HE2, belN HW.out _⟩
          case measure => simp [intOf]; omega
        · have HVn := hide (show V = false from HV.out.trans (decide_eq_false fun h => list_at_ne HPJ.out HQJ.out hpq h))
          by_cases h0 : f0 = q0
          · rw [decide_eq_true h0] at s0
            rw [decide_eq_false (fun h1 => hpq (Prod.ext h0 h1))] at s1
            clear hpq h0
            go_wp2_with fail
            go_quiet (fail)
            go_wp2_with fail
            go_ret
            exact ⟨by rw [HVn.out]; rfl, belN HW.out _⟩
          · rw [decide_eq_false h0] at s0
            clear s1 hpq h0
            go_wp2_with fail
            go_quiet (fail)
            go_wp2_with fail
            go_ret
            exact ⟨by rw [HVn.out]; rfl, belN HW.out _⟩
      · have HVy := hide (show V = true from HV.out.trans (decide_eq_true (list_all_eq (by have := HBM.out; rw [← HN.out, ← HK.out]; exact this) fun i hi => HE.out i (by rw [← HN.out] at hi; omega))))
        go_wp2_with fail
        go_ret
        exact ⟨by rw [HVy.out]; rfl, HW.out⟩
  · have HVn := hide (show V = false from HV.out.trans (decide_eq_false fun h => hlen (by rw [HN.out, HK.out, h])))
    have e3 : ((n : Int) != (k : Int)) = true := by rw [bne_iff_ne]; omega
    clear hlen
    go_enter Tryd.func72, Tryd.ntmps72
    go_wp2_with fail
    go_ret
    exact ⟨by rw [HVn.out]; rfl, Below.refl _ _⟩

set_option maxHeartbeats 1000000 in
set_option maxRecDepth 40000 in
theorem equal_any (a1 a2 : Option Addr) (c1 c2 : Nat) (P Q : List PartE) (b1 b2 : ByteArray) (m1 m2 : Int) (w : World) (h1 : elPart.Rd w w.heap.size a1 P) (h2 : elPart.Rd w w.heap.size a2 Q) (hl1 : P.length ≤ maxLen) :
    Calls Tryd.prog 45 #[.agg #[.slice a1 P.length c1, .string b1, .int .i64 m1], .agg #[.slice a2 Q.length c2, .string b2, .int .i64 m2]] w (BoolPost w (decide ((P, b1, m1) = (Q, b2, m2)))) := by
  have H1 := hide h1
  have H2 := hide h2
  clear h1 h2
  have HEP := hide (fun W h1 h2 => equalParts_any a1 a2 c1 c2 P Q W h1 h2 hl1)
  obtain ⟨V, hV⟩ : ∃ V, V = decide ((P, b1, m1) = (Q, b2, m2)) := ⟨_, rfl⟩
  obtain ⟨U, hU⟩ : ∃ U, U = decide (P = Q) := ⟨_, rfl⟩
  have HV := hide (show V = (U && (decide (b1 = b2) && decide (m1 = m2))) by
    rw [hV, hU, Bool.eq_iff_iff, Bool.and_eq_true, Bool.and_eq_true, decide_eq_true_eq, decide_eq_true_eq, decide_eq_true_eq, decide_eq_true_eq]
    exact ⟨fun h => ⟨(Prod.mk.inj h).1, (Prod.mk.inj (Prod.mk.inj h).2).1, (Prod.mk.inj (Prod.mk.inj h).2).2⟩, fun ⟨x, y, z⟩ => by rw [x, y, z]⟩)
  rw [← hV]
  rw [← hU] at HEP
  obtain ⟨n, hn⟩ : ∃ n, n = P.length := ⟨_, rfl⟩
  obtain ⟨k, hk⟩ : ∃ k, k = Q.length := ⟨_, rfl⟩
  rw [← hn, ← hk] at HEP ⊢
  have HX1 := hide ((BoxV.new 26 w #[.slice a1 n c1, .string b1, .int .i64 m1]).alloc (.cells #[.slice a2 k c2, .string b2, .int .i64 m2] 26))
  have HX2 := hide (show BoxV 26 ((w.alloc (.cells #[.slice a1 n c1, .string b1, .int .i64 m1] 26)).alloc (.cells #[.slice a2 k c2, .string b2, .int .i64 m2] 26)) (w.heap.size + 1) #[.slice a2 k c2, .string b2, .int .i64 m2] from by
    have h := BoxV.new 26 (w.alloc (.cells #[.slice a1 n c1, .string b1, .int .i64 m1] 26)) #[.slice a2 k c2, .string b2, .int .i64 m2]
    rw [Go.Deep.nblk_alloc] at h
    exact h)
  have HBB := hide (((Below.refl w.heap.size w).alloc (Nat.le_refl _) (.cells #[.slice a1 n c1, .string b1, .int .i64 m1] 26)).alloc (by simp) (.cells #[.slice a2 k c2, .string b2, .int .i64 m2] 26))
  have e1 := str_eqB b1 b2
  have e2 : (m1 == m2) = decide (m1 = m2) := rfl
  obtain ⟨x1, hx1⟩ : ∃ x, x = decide (b1 = b2) := ⟨_, rfl⟩
  obtain ⟨x2, hx2⟩ : ∃ x, x = decide (m1 = m2) := ⟨_, rfl⟩
  rw [← hx1, ← hx2] at HV
  rw [← hx1] at e1
  rw [← hx2] at e2
  clear hV hn hk hU hx1 hx2 hl1
  go_enter Tryd.func45, Tryd.ntmps45
  go_wp2_with fail
  refine (HEP.out _ ((H1.out.below HBB.out (Nat.le_refl _)).mono HBB.out.size) ((H2.out.below HBB.out (Nat.le_refl _)).mono HBB.out.size)).mono ?_
  rintro e w1 ⟨rfl, hb1⟩
  have HB1 := hide (HBB.out.trans (hb1.mono HBB.out.size))
  have HY1 := hide (HX1.out.below hb1 HX1.out.lt)
  have HY2 := hide (HX2.out.below hb1 HX2.out.lt)
  obtain ⟨p0, p1, p2⟩ := HY1.out.three
  obtain ⟨r0, r1, r2⟩ := HY2.out.three
  clear hb1
  cases U <;> cases x1 <;> cases x2
  all_goals
    have HVz := hide HV.out
    go_wp2_with fail
    go_ret
    exact ⟨by rw [HVz.out]; rfl, HB1.out⟩

def EntsP1 (w : World) (M : List En) (e : Ending) (w' : World) : Prop := ∃ v, e = .returned v ∧ elEnt.Owns w.heap.size w' v M ∧ Below w.heap.size w w'
set_option maxHeartbeats 2000000 in
set_option maxRecDepth 40000 in
theorem tabClaimed_any (a : Option Addr) (cap : Nat) (P : List PartE) (b : ByteArray) (m : Int) (w : World) (hr : elPart.Rd w w.heap.size a P) (hl : P.length ≤ maxLen) (hcap : P.length ≤ cap) (hk : ∀ x ∈ P, x.2.size ≤ 1048576) :
    Calls Tryd.prog 44 #[.agg #[.slice a P.length cap, .string b, .int .i64 m]] w (EntsP1 w (entsP (P.take 10))) := by
  have HR := hide hr
  have HK := hide hk
  clear hr hk
  unfold maxLen at hl
  obtain ⟨n, hn⟩ : ∃ n, n = P.length := ⟨_, rfl⟩
  have HN := hide hn
  rw [← hn] at hl hcap ⊢
  obtain ⟨q, hq⟩ : ∃ q, q = min n 10 := ⟨_, rfl⟩
  have hqn : q ≤ n ∧ q ≤ 10 := by omega
  have hmin : (if (10 : Int) < (n : Int) then (10 : Int) else (n : Int)) = (q : Int) := by split <;> omega
  have HQ := hide hq
  have hsl : ∀ W : World, (Instr.slice 24 (.slice a n cap) none (some (.int .i64 (q : Int))) none).run Tryd.prog W = .ok (.slice a q cap) W := fun W => by
    obtain ⟨i0, hi0, hz0, hz1, hz2⟩ := info_parts infoPart
    rw [run_slice_h (P := Tryd.prog) W 24 a n cap (by kernel_rfl) .i64 (q : Int) (by omega) (by omega)]
    rw [show Tryd.prog.elem 24 = 55 by kernel_rfl]
    simp [sizeOf, typeInfo, hi0, hz1, sliced, map_add0']
  clear hn hq
  have HX0 := hide (BoxV.new 26 w #[.slice a n cap, .string b, .int .i64 m])
  have HB0 := hide ((Below.refl w.heap.size w).alloc (Nat.le_refl _) (.cells #[.slice a n cap, .string b, .int .i64 m] 26))
  obtain ⟨x0, x1, x2⟩ := HX0.out.three
  go_enter Tryd.func44, Tryd.ntmps44
  go_wp2_with fail
  go_loopw [3, 16] (fun o i wr => ∃ (j k : Nat) (a' : Option Addr) (c' : Nat), o = .slice a' k c' ∧ i = .int .i64 j ∧ j ≤ q ∧ k ≤ 16 * j ∧ Hid (elEnt.Owns w.heap.size wr (.slice a' k c') (entsP (P.take j))) ∧ Hid (Below w.heap.size w wr)) (fun _ i _ => q - (intOf i).toNat)
  case atStart => exact ⟨0, 0, none, 0, rfl, rfl, by omega, by omega, by rw [List.take_zero]; exact El.Owns.nil _ _, HB0⟩
  case round =>
    obtain ⟨j, k, a', c', rfl, rfl, hj, hk, HO, HB⟩ := hrel
    have hs := HB.out.size
    by_cases hlt : j < q
    · have hjP : j < P.length := by rw [← HN.out]; omega
      obtain ⟨g, off, rfl, hg, hcell⟩ := HR.out (by omega)
      obtain ⟨f0, f1, hx⟩ := partsPart P[j]
      obtain ⟨c0, c1⟩ := cellsPart hx (hcell j hjP)
      have d0 := (HB.out.cell (p := ⟨g, off + j * 2, none⟩) hg).trans c0
      have d1 := (HB.out.cell (p := ⟨g, off + j * 2 + 1, none⟩) hg).trans c1
      have HJ := hide (show P[j]? = some (f0, f1) by rw [List.getElem?_eq_getElem hjP, hx])
      have HRB := hide (fun W => iReadBlock_any f1 (HK.out _ (List.mem_of_getElem? HJ.out)) W)
      unfold ReadKPost at HRB
      have HES := hide (entsP_step HJ.out)
      have hz := readK_bd (bl f1)
      obtain ⟨X, hX⟩ : ∃ X, X = readK (bl f1) := ⟨_, rfl⟩
      obtain ⟨u, hu⟩ : ∃ u, u = readKQ (bl f1) := ⟨_, rfl⟩
      simp only [← hX, ← hu] at HRB HES hz
      have HB1 := hide (HB.out.alloc hs (.cells #[.string f0, .string f1] 55))
      have HO1 := hide (HO.out.alloc (.cells #[.string f0, .string f1] 55))
      have hbx := BoxV.new 55 wr #[.string f0, .string f1]
      obtain ⟨W1, hW1⟩ : ∃ W1, W1 = wr.alloc (.cells #[.string f0, .string f1] 55) := ⟨_, rfl⟩
      rw [← hW1] at HB1 HO1 hbx
      have HBX := hide hbx
      clear hcell c0 c1 hx hjP hX hu hbx HO HB
      go_upto_region 5 with (fail)
      rw [← hW1]
      clear hW1 d0 d1
      obtain ⟨y0, y1⟩ := HBX.out.two'
      go_wp2_with fail
      refine (HRB.out _).mono ?_
      rintro e w2 ⟨v, rfl, ho, hb2⟩
      obtain ⟨a2, c2, rfl, hrd, _⟩ := ho.form
      have HB2 := hide (HB1.out.trans (hb2.mono HB1.out.size))
      have HO2 := hide (HO1.out.below hb2 (Nat.le_refl _))
      have HS2 := hide ho.src
      have hs2 := HB2.out.size
      clear hb2 ho hrd HO1 HB1 y0 y1
      have hkl : (entsP (P.take (j + 1))).length = k + X.length := by
        rw [HES.out, List.length_append]
        congr 1
        obtain ⟨_, _, e, _⟩ := HO2.out.form
        injection e with _ e _
        exact e.symm
      obtain ⟨z, hz1⟩ : ∃ z, z = k + X.length := ⟨_, rfl⟩
      rw [← hz1] at hkl
      have hz2 : z ≤ 16 * (j + 1) := by omega
      clear hz1
      have hbb := hide (Below.refl w.heap.size w2)
      go_wp2_with (at_builtin; refine El.appendSrc (e := elEnt) rfl (.tmp 26) (.tmp 27) 29 rfl Tryd.underlying29 _ _ infoEnt rfl (by decide) (by decide) w.heap.size w2 w2 _ _ _ X rfl rfl HO2 HS2 hbb hs2 _ z HES.out.symm hkl (by omega) ?_; intro a5 c5 w5 HO5 HB5 hz5 HN5)
      have HW5 := hide (HB2.out.trans HB5.out)
      go_roundw
      case rel => exact ⟨j + 1, z, a5, c5, rfl, by go_num, by omega, hz2, HO5, HW5⟩
      case measure => simp [intOf]; omega
    · obtain rfl : j = q := by omega
      have HO' := hide (show elEnt.Owns w.heap.size wr (.slice a' k c') (entsP (P.take 10)) from by
        have h := HO.out
        have h2 : P.take j = P.take 10 := by
          have h3 := HQ.out
          by_cases h10 : n ≤ 10
          · rw [List.take_of_length_le (by rw [← HN.out]; omega), List.take_of_length_le (by rw [← HN.out]; omega)]
          · rw [show j = 10 by omega]
        rwa [h2] at h)
      go_wp2_with fail
      go_ret
      exact ⟨_, rfl, HO'.out, HB.out⟩
end Go.Proofs.YtdlkgpobjacgeaaDoor
