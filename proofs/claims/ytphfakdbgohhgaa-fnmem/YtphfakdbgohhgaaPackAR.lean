/-
  Texts of this proof, put together: MemJ, MemK, MemL.
-/
import Derived.Test.YtphfakdbgohhgaaPackAJ
import Derived.Test.YtphfakdbgohhgaaPackAQ
import Derived.Test.YtphfakdbgohhgaaPackAE
import Derived.Test.YtphfakdbgohhgaaPackAH
import Derived.Deep.RegionHeld3
import Derived.Deep.DeepCutAuto

/-
  Contract of spec.l9Some: some entries, fewer than asked. (Written by mkmemj.py.)
-/
namespace Go.Proofs.Ytphfakdbgohhgaa
open Go.ChangeShapes Go.WideShapes Go.ChangeAt Go.RowKit

theorem litEnt (B : Nat) (w : World) (hB : B ≤ w.heap.size) : elEnt.Owns B (w.alloc (.cells #[] 26)) (.slice (some ⟨w.heap.size, 0, none⟩) 0 0) [] := El.Owns.lit (e := elEnt) B w [] #[] 0 rfl rfl hB (by simp [maxLen])
/-- spec.MemPut, of which only 'some entries, one more at most' is said -/
theorem put_some (k : ByteArray) (q : Int) (d : Bool) (v : ByteArray) (L : List En) {y : Nat} (hy : L.length = y) (hl : y ≤ 2000000) (a : Option Addr) (c B : Nat) : ∃ (m : Nat) (b : Bool), m ≤ y + 1 ∧ ∀ W, elEnt.Owns B W (.slice a y c) L →
    Calls Try.prog 13 #[.slice a y c, .agg #[.string k, .int .i64 q, .bool d, .string v]] W fun e w' => ∃ v' M, e = .returned (.tuple #[v', .bool b]) ∧ List.length M = m ∧ elEnt.Owns W.heap.size w' v' M ∧ Below W.heap.size W w' := by
  subst hy
  refine ⟨(putM L (k, q, d, v)).length, putB L (k, q, d, v), putM_len _ _, fun W h => ?_⟩
  refine (sMemPut_any B a c L k q d v W h (by omega)).mono ?_
  rintro e w' ⟨v', rfl, ho, hb⟩
  exact ⟨v', _, rfl, rfl, ho, hb⟩
def EntsDrawn (m : Nat) (B g : Nat) (a : Option Addr) (cap : Nat) (bs : List Int) (w : World) (e : Ending) (w' : World) : Prop :=
  ∃ v L, e = .returned v ∧ elEnt.Owns w.heap.size w' v L ∧ L.length ≤ m ∧ CurS B g a cap bs w' ∧ Turned g w w'
set_option maxHeartbeats 4000000 in
set_option maxRecDepth 20000 in
theorem l9Some_some {B g : Nat} {a : Option Addr} {cap : Nat} {bs : List Int} {w : World} (most : Nat) (hm0 : 0 < most) (hm1 : most ≤ 1000) (h : CurS B g a cap bs w) :
    Calls Try.prog 83 #[.pointer (some ⟨g, 0, none⟩), .int .i64 most] w (EntsDrawn most B g a cap bs w) := by
  have hgw := h.lt
  have hb0 := (Below.refl w.heap.size w).alloc (Nat.le_refl _) (.cells #[] 26)
  have HL0 := hide (litEnt w.heap.size w (Nat.le_refl _))
  have HC0 := hide (h.keep (hb0.mono (Nat.succ_le_of_lt hgw)))
  have HT0 := hide (Turned.of_below (g := g) hb0 (Nat.le_refl _))
  clear h hb0
  go_enter Try.func83, Try.ntmps83
  go_wp2_with fail
  refine (below_some most hm0 (by omega) HC0.out).mono ?_
  rintro e w0 ⟨x0, hx0, rfl, hc0, ht0⟩
  have HO1 := hide (HL0.out.turned ht0 hgw)
  have HT1 := hide (HT0.out.trans ht0)
  have HC1 := hide hc0
  clear hc0 ht0 HL0 HT0 HC0
  go_wp2_with fail
  go_loopw [5, 6, 7, 8, 9] (fun o i _ _ _ wr => ∃ (N y : Nat) (a' : Option Addr) (c' : Nat) (L : List En), o = .slice a' y c' ∧ i = .int .i64 N ∧ y + N ≤ x0 ∧ Hid (L.length = y) ∧ Hid (elEnt.Owns w.heap.size wr (.slice a' y c') L) ∧ Hid (CurS B g a cap bs wr) ∧ Hid (Turned g w wr)) (fun _ i _ _ _ _ => (intOf i).toNat)
  case atStart => exact ⟨x0, 0, _, _, [], rfl, rfl, by omega, rfl, HO1, HC1, HT1⟩
  case round =>
    obtain ⟨N, y, a', c', L, rfl, rfl, hyN, HP, HO, HC, HT⟩ := hrel
    have hsz := HT.out.size
    by_cases h0 : 0 < N
    · obtain ⟨N', rfl⟩ : ∃ M, N = M + 1 := ⟨N - 1, by omega⟩
      go_wp2_with fail
      refine (l7Key_some HC.out).mono ?_
      rintro e w1 ⟨ky, rfl, hc1, ht1⟩
      have HO1 := hide (HO.out.turned ht1 hgw)
      have HT1 := hide (HT.out.trans ht1)
      have HC1 := hide hc1
      clear hc1 ht1
      go_wp2_with fail
      refine (below_some 20 (by omega) (by omega) HC1.out).mono ?_
      rintro e w2 ⟨x1, hx1, rfl, hc2, ht2⟩
      have HOk := hide (HO1.out.turned ht2 hgw)
      have HTk := hide (HT1.out.trans ht2)
      have hs2 := HTk.out.size
      have hown : ∀ i, (Value.slice a' y c').ownBlock = some i → i < w2.heap.size := fun i hi => (HOk.out.lt i hi).2
      have hb2 := (Below.refl w2.heap.size w2).alloc (Nat.le_refl _) (.cells #[.string ky, .int .i64 (x1 : Int), .bool false, .string ⟨#[]⟩] 26)
      have HXa := hide (BoxV.new 26 w2 #[.string ky, .int .i64 (x1 : Int), .bool false, .string ⟨#[]⟩])
      have HOa := hide (HOk.out.alloc (.cells #[.string ky, .int .i64 (x1 : Int), .bool false, .string ⟨#[]⟩] 26))
      have HCa := hide (hc2.keep (hb2.mono (by omega)))
      have HTa := hide (HTk.out.then_below hb2 hs2)
      clear hc2 ht2 hb2 HOk HTk HO1 HT1 HC1
      go_wp2_with fail
      refine (once_some 4 (by omega) HCa.out).mono ?_
      rintro e w3 ⟨b, rfl, hc3, ht3⟩
      have HX3 := hide (show BoxV 26 w3 w2.heap.size _ from (ht3.block w2.heap.size HXa.out.lt (fun e => by have := Option.some.inj e; omega)).trans HXa.out)
      have HO3 := hide (HOa.out.turned ht3 hgw)
      have HT3 := hide (HTa.out.trans ht3)
      have HC3 := hide hc3
      clear hc3 ht3 HXa HOa HCa HTa
      cases b with
      | true =>
        obtain ⟨c0, c1, c2, c3⟩ := HX3.out.four'
        obtain ⟨z0, z1, z2, z3⟩ := HX3.out.froz4
        have hltx := HX3.out.lt
        have HOW := hide (HO3.out.set_ne (p := ⟨w2.heap.size, 2, none⟩) (fun i hi => Nat.ne_of_lt (hown i hi)) (.bool true))
        have HCW := hide (HC3.out.keep ((Below.refl (g + 1) w3).setCell (p := ⟨w2.heap.size, 2, none⟩) (by show g + 1 ≤ w2.heap.size; omega) (.bool true)))
        have HTW := hide (HT3.out.then_below ((Below.refl w.heap.size w3).setCell (p := ⟨w2.heap.size, 2, none⟩) hs2 (.bool true)) (Nat.le_refl _))
        have hsW : w.heap.size ≤ (w3.setCell ⟨w2.heap.size, 2, none⟩ (.bool true)).heap.size := HTW.out.size
        obtain ⟨m, b', hm, HAP⟩ := put_some ky x1 true ⟨#[]⟩ L HP.out (by omega) a' c' w.heap.size
        have HAP := hide (HAP (w3.setCell ⟨w2.heap.size, 2, none⟩ (.bool true)) HOW.out)
        clear HX3 HO3 HC3 HT3
        go_wp2_with fail
        refine HAP.out.mono ?_
        rintro e w5 ⟨v5, L5, rfl, hL5, ho5, hb5⟩
        obtain ⟨a5, c5, rfl, _⟩ := ho5.form
        rw [hL5] at ho5 ⊢
        have HV5 := hide (ho5.mono hsW)
        have HP5 := hide hL5
        have HO5 := hide (HOW.out.below hb5 (Nat.le_refl _))
        have HC5 := hide (HCW.out.keep (hb5.mono HCW.out.lt))
        have HT5 := hide (HTW.out.then_below hb5 hsW)
        clear ho5 hb5 hL5 HAP HOW HCW HTW c0 c1 c2 c3 z0 z1 z2 z3 hltx
        cases b' with
        | true =>
          go_wp2_with fail
          go_roundw
          case rel => exact ⟨N', m, a5, c5, _, rfl, by go_num, by omega, HP5, HV5, HC5, HT5⟩
          case measure => simp [intOf]
        | false =>
          go_wp2_with fail
          go_roundw
          case rel => exact ⟨N', y, a', c', _, rfl, by go_num, by omega, HP, HO5, HC5, HT5⟩
          case measure => simp [intOf]
      | false =>
        go_wp2_with fail
        refine (text_some 4 (by omega) HC3.out).mono ?_
        rintro e w4 ⟨tx, _, rfl, hc4, ht4⟩
        have HX4 := hide (show BoxV 26 w4 w2.heap.size _ from (ht4.block w2.heap.size HX3.out.lt (fun e => by have := Option.some.inj e; omega)).trans HX3.out)
        have HO4 := hide (HO3.out.turned ht4 hgw)
        have HT4 := hide (HT3.out.trans ht4)
        have HC4 := hide hc4
        clear hc4 ht4 HX3 HO3 HT3 HC3
        obtain ⟨c0, c1, c2, c3⟩ := HX4.out.four'
        obtain ⟨z0, z1, z2, z3⟩ := HX4.out.froz4
        have hltx := HX4.out.lt
        have HOW := hide (HO4.out.set_ne (p := ⟨w2.heap.size, 3, none⟩) (fun i hi => Nat.ne_of_lt (hown i hi)) (.string ⟨tx.toArray⟩))
        have HCW := hide (HC4.out.keep ((Below.refl (g + 1) w4).setCell (p := ⟨w2.heap.size, 3, none⟩) (by show g + 1 ≤ w2.heap.size; omega) (.string ⟨tx.toArray⟩)))
        have HTW := hide (HT4.out.then_below ((Below.refl w.heap.size w4).setCell (p := ⟨w2.heap.size, 3, none⟩) hs2 (.string ⟨tx.toArray⟩)) (Nat.le_refl _))
        have hsW : w.heap.size ≤ (w4.setCell ⟨w2.heap.size, 3, none⟩ (.string ⟨tx.toArray⟩)).heap.size := HTW.out.size
        obtain ⟨m, b', hm, HAP⟩ := put_some ky x1 false ⟨tx.toArray⟩ L HP.out (by omega) a' c' w.heap.size
        have HAP := hide (HAP (w4.setCell ⟨w2.heap.size, 3, none⟩ (.string ⟨tx.toArray⟩)) HOW.out)
        clear HX4 HO4 HC4 HT4
        go_wp2_with fail
        refine HAP.out.mono ?_
        rintro e w5 ⟨v5, L5, rfl, hL5, ho5, hb5⟩
        obtain ⟨a5, c5, rfl, _⟩ := ho5.form
        rw [hL5] at ho5 ⊢
        have HV5 := hide (ho5.mono hsW)
        have HP5 := hide hL5
        have HO5 := hide (HOW.out.below hb5 (Nat.le_refl _))
        have HC5 := hide (HCW.out.keep (hb5.mono HCW.out.lt))
        have HT5 := hide (HTW.out.then_below hb5 hsW)
        clear ho5 hb5 hL5 HAP HOW HCW HTW c0 c1 c2 c3 z0 z1 z2 z3 hltx
        cases b' with
        | true =>
          go_wp2_with fail
          go_roundw
          case rel => exact ⟨N', m, a5, c5, _, rfl, by go_num, by omega, HP5, HV5, HC5, HT5⟩
          case measure => simp [intOf]
        | false =>
          go_wp2_with fail
          go_roundw
          case rel => exact ⟨N', y, a', c', _, rfl, by go_num, by omega, HP, HO5, HC5, HT5⟩
          case measure => simp [intOf]
    · obtain rfl : N = 0 := by omega
      go_wp2_with fail
      go_ret
      exact ⟨_, _, rfl, HO.out, by have := HP.out; omega, HC.out, HT.out⟩
end Go.Proofs.Ytphfakdbgohhgaa

/-
  Contract of spec.l9Any: some entries, at most 61. (Written by mkmemk.py.)
-/
namespace Go.Proofs.Ytphfakdbgohhgaa
open Go.ChangeShapes Go.WideShapes Go.ChangeAt Go.RowKit

set_option maxHeartbeats 4000000 in
set_option maxRecDepth 40000 in
theorem l9Any_some {B g : Nat} {a : Option Addr} {cap : Nat} {bs : List Int} {w : World} (most : Nat) (hm0 : 0 < most) (hm1 : most ≤ 50) (h : CurS B g a cap bs w) :
    Calls Try.prog 50 #[.pointer (some ⟨g, 0, none⟩), .int .i64 most] w (EntsDrawn 61 B g a cap bs w) := by
  have hgw := h.lt
  have HC0 := hide h
  clear h
  go_enter Try.func50, Try.ntmps50
  go_wp2_with fail
  refine (l9Some_some most hm0 (by omega) HC0.out).mono ?_
  rintro e w1 ⟨v1, L, rfl, ho1, hl1, hc1, ht1⟩
  obtain ⟨a', c', rfl, _⟩ := ho1.form
  obtain ⟨y, hy⟩ : ∃ y, L.length = y := ⟨_, rfl⟩
  have HP := hide hy
  rw [hy] at ho1 hl1 ⊢
  have HO1 := hide ho1
  have HC1 := hide hc1
  have HT1 := hide ht1
  have hs1 := ht1.size
  clear ho1 hc1 ht1 hy HC0
  by_cases hy0 : 0 < y
  · have hyi : (0 : Int) < (y : Int) := by omega
    go_wp2_with fail
    refine (once_some 10 (by omega) HC1.out).mono ?_
    rintro e w2 ⟨b, rfl, hc2, ht2⟩
    have HO2 := hide (HO1.out.turned ht2 hgw)
    have HT2 := hide (HT1.out.trans ht2)
    have HC2 := hide hc2
    have hs2 := HT2.out.size
    clear hc2 ht2 HO1 HT1 HC1
    cases b with
    | false =>
      go_wp2_with fail
      go_ret
      exact ⟨_, _, rfl, HO2.out, by have := HP.out; omega, HC2.out, HT2.out⟩
    | true =>
      go_wp2_with fail
      refine (below_some y hy0 (by omega) HC2.out).mono ?_
      rintro e w3 ⟨k, hk, rfl, hc3, ht3⟩
      have HO3 := hide (HO2.out.turned ht3 hgw)
      have HT3 := hide (HT2.out.trans ht3)
      have HC3 := hide hc3
      clear hc3 ht3 HO2 HT2 HC2
      go_wp2_with fail
      refine (below_some 4 (by omega) (by omega) HC3.out).mono ?_
      rintro e w4 ⟨x, hx4, rfl, hc4, ht4⟩
      have HO4 := hide (HO3.out.turned ht4 hgw)
      have HT4 := hide (HT3.out.trans ht4)
      have HC4 := hide hc4
      have hs4 := HT4.out.size
      clear hc4 ht4 HO3 HT3 HC3
      have hx : x = 0 ∨ x = 1 ∨ x = 2 ∨ x = 3 := by omega
      rcases hx with rfl | rfl | rfl | rfl
      · clear hx4
        go_wp2_with fail
        refine (pick_new 3 _ [⟨#[]⟩, ⟨#[98]⟩, ⟨#[97, 97, 97, 97, 97, 97, 97, 97, 97, 97, 97]⟩] rfl (by omega) (by omega) rfl HC4.out).mono ?_
        rintro e w5 ⟨s5, _, rfl, hc5, ht5⟩
        have HO5 := hide (HO4.out.turned ht5 hgw)
        have HT5 := hide (HT4.out.trans ht5)
        have HC5 := hide hc5
        clear hc5 ht5
        obtain ⟨gr, rfl, hgr, hgz⟩ := HO5.out.pos (by have := HP.out; omega)
        obtain ⟨f0, f1, f2, f3, hx⟩ := partsEnt (L[k]'(by have := HP.out; omega))
        have HQ := hide (show L[k]? = some (f0, f1, f2, f3) by rw [List.getElem?_eq_getElem (by have := HP.out; omega), hx])
        obtain ⟨c0, c1, c2, c3⟩ := cellsXEnt (o := k * 4) (HO5.out.cellsAt HP.out k _ HQ.out)
        have z0 := HO5.out.frozenAt HP.out (k * 4)
        have hkn : (k : Int) < (y : Int) := by omega
        have hk0 : (0 : Int) ≤ (k : Int) := by omega
        have HO9 := hide (show elEnt.Owns w.heap.size (w5.setCell ⟨gr, k * 4, none⟩ (.string s5)) (.slice (some ⟨gr, 0, none⟩) y c') (L.set k (s5, f1, f2, f3)) from HO5.out.setAt HP.out k _ HQ.out 0 (by decide) (.string s5) (s5, f1, f2, f3) rfl)
        have HT9 := hide (HT5.out.then_below ((Below.refl w.heap.size w5).setCell (p := ⟨gr, k * 4, none⟩) hgr (.string s5)) (Nat.le_refl _))
        have HC9 := hide (HC5.out.keep ((Below.refl (g + 1) w5).setCell (p := ⟨gr, k * 4, none⟩) (by show g + 1 ≤ gr; omega) (.string s5)))
        clear hx
        go_wp2_with fail
        go_ret
        exact ⟨_, _, rfl, HO9.out, by rw [List.length_set]; have := HP.out; omega, HC9.out, HT9.out⟩
      · clear hx4
        go_wp2_with fail
        refine (pickInt_new 4 _ [-1, 5, 1000000, 1000001] rfl (by omega) (by omega) rfl HC4.out).mono ?_
        rintro e w5 ⟨s5, rfl, hc5, ht5⟩
        have HO5 := hide (HO4.out.turned ht5 hgw)
        have HT5 := hide (HT4.out.trans ht5)
        have HC5 := hide hc5
        clear hc5 ht5
        obtain ⟨gr, rfl, hgr, hgz⟩ := HO5.out.pos (by have := HP.out; omega)
        obtain ⟨f0, f1, f2, f3, hx⟩ := partsEnt (L[k]'(by have := HP.out; omega))
        have HQ := hide (show L[k]? = some (f0, f1, f2, f3) by rw [List.getElem?_eq_getElem (by have := HP.out; omega), hx])
        obtain ⟨c0, c1, c2, c3⟩ := cellsXEnt (o := k * 4) (HO5.out.cellsAt HP.out k _ HQ.out)
        have z0 := HO5.out.frozenAt HP.out (k * 4 + 1)
        have hkn : (k : Int) < (y : Int) := by omega
        have hk0 : (0 : Int) ≤ (k : Int) := by omega
        have HO9 := hide (show elEnt.Owns w.heap.size (w5.setCell ⟨gr, k * 4 + 1, none⟩ (.int .i64 s5)) (.slice (some ⟨gr, 0, none⟩) y c') (L.set k (f0, s5, f2, f3)) from HO5.out.setAt HP.out k _ HQ.out 1 (by decide) (.int .i64 s5) (f0, s5, f2, f3) rfl)
        have HT9 := hide (HT5.out.then_below ((Below.refl w.heap.size w5).setCell (p := ⟨gr, k * 4 + 1, none⟩) hgr (.int .i64 s5)) (Nat.le_refl _))
        have HC9 := hide (HC5.out.keep ((Below.refl (g + 1) w5).setCell (p := ⟨gr, k * 4 + 1, none⟩) (by show g + 1 ≤ gr; omega) (.int .i64 s5)))
        clear hx
        go_wp2_with fail
        go_ret
        exact ⟨_, _, rfl, HO9.out, by rw [List.length_set]; have := HP.out; omega, HC9.out, HT9.out⟩
      · clear hx4
        obtain ⟨gr, rfl, hgr, hgz⟩ := HO4.out.pos (by have := HP.out; omega)
        obtain ⟨f0, f1, f2, f3, hx⟩ := partsEnt (L[k]'(by have := HP.out; omega))
        have HQ := hide (show L[k]? = some (f0, f1, f2, f3) by rw [List.getElem?_eq_getElem (by have := HP.out; omega), hx])
        obtain ⟨c0, c1, c2, c3⟩ := cellsXEnt (o := k * 4) (HO4.out.cellsAt HP.out k _ HQ.out)
        have z0 := HO4.out.frozenAt HP.out (k * 4 + 2)
        have hkn : (k : Int) < (y : Int) := by omega
        have hk0 : (0 : Int) ≤ (k : Int) := by omega
        have HO9 := hide (show elEnt.Owns w.heap.size (w4.setCell ⟨gr, k * 4 + 2, none⟩ (.bool !f2)) (.slice (some ⟨gr, 0, none⟩) y c') (L.set k (f0, f1, !f2, f3)) from HO4.out.setAt HP.out k _ HQ.out 2 (by decide) (.bool !f2) (f0, f1, !f2, f3) rfl)
        have HT9 := hide (HT4.out.then_below ((Below.refl w.heap.size w4).setCell (p := ⟨gr, k * 4 + 2, none⟩) hgr (.bool !f2)) (Nat.le_refl _))
        have HC9 := hide (HC4.out.keep ((Below.refl (g + 1) w4).setCell (p := ⟨gr, k * 4 + 2, none⟩) (by show g + 1 ≤ gr; omega) (.bool !f2)))
        clear hx
        go_wp2_with fail
        go_ret
        exact ⟨_, _, rfl, HO9.out, by rw [List.length_set]; have := HP.out; omega, HC9.out, HT9.out⟩
      · clear hx4
        go_wp2_with fail
        go_loopw [5, 7] (fun o i wr => ∃ (j z : Nat) (a6 : Option Addr) (c6 : Nat) (M : List En), o = .slice a6 z c6 ∧ i = .int .i64 j ∧ j ≤ 61 ∧ z ≤ 61 ∧ Hid (z = y + j) ∧ Hid (M.length = z) ∧ Hid (elEnt.Owns w.heap.size wr (.slice a6 z c6) M) ∧ Hid (CurS B g a cap bs wr) ∧ Hid (Turned g w wr)) (fun _ i _ => 62 - (intOf i).toNat)
        case atStart => exact ⟨0, y, a', c', L, rfl, rfl, by omega, by omega, hide (by omega), HP, HO4, HC4, HT4⟩
        case round =>
          obtain ⟨j, z, a6, c6, M, rfl, rfl, hj, hz1, HZ, HPM, HO, HC, HT⟩ := hrel
          go_wp2_with fail
          refine (below_some 3 (by omega) (by omega) HC.out).mono ?_
          rintro e w6 ⟨d, hd, rfl, hc6, ht6⟩
          have HO6 := hide (HO.out.turned ht6 hgw)
          have HT6 := hide (HT.out.trans ht6)
          have HC6 := hide hc6
          have hs6 := HT6.out.size
          clear hc6 ht6 HO HT HC
          by_cases hlt : z < 59 + d
          · obtain ⟨q, hq⟩ : ∃ q : Nat, (500 : Int) - (j : Int) = (q : Int) := ⟨500 - j, by omega⟩
            have HOa := hide (HO6.out.alloc (.cells #[.string ⟨#[122, 122, 122]⟩, .int .i64 (q : Int), .bool false, .string ⟨#[]⟩] 26))
            have HSa := hide (src_ent w6 ⟨#[122, 122, 122]⟩ (q : Int) false ⟨#[]⟩)
            have hb6 := (Below.refl w6.heap.size w6).alloc (Nat.le_refl _) (.cells #[.string ⟨#[122, 122, 122]⟩, .int .i64 (q : Int), .bool false, .string ⟨#[]⟩] 26)
            have hba : w.heap.size ≤ (w6.alloc (.cells #[.string ⟨#[122, 122, 122]⟩, .int .i64 (q : Int), .bool false, .string ⟨#[]⟩] 26)).heap.size := Nat.le_trans hs6 hb6.size
            have HBb : Hid (Below w.heap.size (w6.alloc (.cells #[.string ⟨#[122, 122, 122]⟩, .int .i64 (q : Int), .bool false, .string ⟨#[]⟩] 26)) (w6.alloc (.cells #[.string ⟨#[122, 122, 122]⟩, .int .i64 (q : Int), .bool false, .string ⟨#[]⟩] 26))) := Below.refl _ _
            have HCa := hide (HC6.out.keep (hb6.mono HC6.out.lt))
            have HTa := hide (HT6.out.then_below hb6 hs6)
            have HM' := hide (show (M ++ [((⟨#[122, 122, 122]⟩, (q : Int), false, ⟨#[]⟩) : En)]).length = z + 1 by rw [List.length_append, HPM.out]; rfl)
            have hlt' : (z : Int) < 59 + (d : Int) := by omega
            clear hb6
            go_wp2_with (at_builtin; go_loud (refine El.appendSrc (e := elEnt) rfl (.tmp 32) (.tmp 36) 24 rfl Try.underlying24 _ _ infoEnt rfl (by decide) (by decide) w.heap.size _ _ _ _ M [(⟨#[122, 122, 122]⟩, (q : Int), false, ⟨#[]⟩)] rfl rfl HOa HSa HBb hba (M ++ [(⟨#[122, 122, 122]⟩, (q : Int), false, ⟨#[]⟩)]) (z + 1) rfl HM'.out (by omega) ?_); intro a8 c8 w8 HO8 HB8 hz8 _)
            have HC8 := hide (HCa.out.keep (HB8.out.mono (Nat.succ_le_of_lt hgw)))
            have HT8 := hide (HTa.out.then_below HB8.out (Nat.le_refl _))
            go_roundw
            case rel => exact ⟨j + 1, z + 1, a8, c8, _, rfl, by go_num, by have := HZ.out; omega, by omega, hide (by have := HZ.out; omega), HM', HO8, HC8, HT8⟩
            case measure => simp [intOf]; omega
          · have hlt' : ¬ (z : Int) < 59 + (d : Int) := by omega
            go_wp2_with fail
            go_ret
            exact ⟨_, _, rfl, HO6.out, by have := HPM.out; omega, HC6.out, HT6.out⟩
  · obtain rfl : y = 0 := by omega
    go_wp2_with fail
    go_ret
    exact ⟨_, _, rfl, HO1.out, by have := HP.out; omega, HC1.out, HT1.out⟩
end Go.Proofs.Ytphfakdbgohhgaa

/-
  Contracts of spec.DrawMemPut and DrawMemRange: what the law needs of them.
-/
namespace Go.Proofs.Ytphfakdbgohhgaa
open Go.ChangeShapes Go.WideShapes Go.ChangeAt Go.RowKit

/-- a result that is a value, and an entry in a block of its own -/
theorem res_ent2 {fn : Func} {p u : Tmp} (h : fn.results = #[.tmp u, .cell p 26]) (tmps : Array Value) (w : World) (g : Nat) (ht : tmps.getD p undef = .pointer (some ⟨g, 0, none⟩)) {v0 v1 v2 v3 : Value} (hx : BoxV 26 w g #[v0, v1, v2, v3]) :
    (results fn tmps).run Try.prog w = .ok (.tuple #[tmps.getD u undef, .agg #[v0, v1, v2, v3]]) w := by
  obtain ⟨c0, c1, c2, c3⟩ := hx.four'
  rw [Array.getD_eq_getD_getElem?] at ht
  simp only [results, h]
  simp [ht, go_sem, c0, c1, c2, c3]
theorem BoxV.turned {T : TypeId} {w w' : World} {g k : Nat} {vs : Array Value} (h : BoxV T w k vs) (ht : Turned g w w') (hne : k ≠ g) : BoxV T w' k vs := (ht.block k h.lt (fun e => hne (Option.some.inj e))).trans h
def PutDrawn (w : World) (e : Ending) (w' : World) : Prop :=
  ∃ (a1 : Option Addr) (n1 c1 : Nat) (L : List En) (f0 : ByteArray) (f1 : Int) (f2 : Bool) (f3 : ByteArray), e = .returned (.tuple #[.slice a1 n1 c1, .agg #[.string f0, .int .i64 f1, .bool f2, .string f3]]) ∧ L.length = n1 ∧ n1 ≤ 61 ∧ elEnt.Owns w.heap.size w' (.slice a1 n1 c1) L ∧ Below w.heap.size w w'
def RangeDrawn (w : World) (e : Ending) (w' : World) : Prop :=
  ∃ (a1 : Option Addr) (n1 c1 : Nat) (L : List En) (f t : ByteArray) (q : Int), e = .returned (.tuple #[.slice a1 n1 c1, .string f, .string t, .int .i64 q]) ∧ L.length = n1 ∧ n1 ≤ 61 ∧ elEnt.Owns w.heap.size w' (.slice a1 n1 c1) L ∧ Below w.heap.size w w'

set_option maxHeartbeats 4000000 in
set_option maxRecDepth 20000 in
theorem drawMemPut_any {B : Nat} (a : Option Addr) (cap : Nat) (bs : List Int) (w : World) (hB : B ≤ w.heap.size) (hc : CodeAt B w a bs) (hm : bs.length ≤ 1048576) :
    Calls Try.prog 11 #[.slice a bs.length cap] w (PutDrawn w) := by
  have H := hide (hc.keep (fun k hk => Below.heap_alloc w (.cells #[.string ⟨#[]⟩, .int .i64 0, .bool false, .string ⟨#[]⟩] 26) k (by omega)))
  clear hc
  obtain ⟨W, hW⟩ : ∃ W, W = w.alloc (.cells #[.string ⟨#[]⟩, .int .i64 0, .bool false, .string ⟨#[]⟩] 26) := ⟨_, rfl⟩
  have hs : W.heap.size = w.heap.size + 1 := by rw [hW, Go.Deep.nblk_alloc]
  have HR := hide (show BoxV 26 W w.heap.size #[.string ⟨#[]⟩, .int .i64 0, .bool false, .string ⟨#[]⟩] from hW ▸ BoxV.new _ w _)
  have HB := hide (show Below w.heap.size w W from hW ▸ (Below.refl _ _).alloc (Nat.le_refl _) _)
  go_enter Try.func11, Try.ntmps11
  go_wp2_with fail
  rw [← hW] at H ⊢
  clear hW
  refine (l1New_any a cap bs W (by omega) H.out hm).mono ?_
  rintro e w1 ⟨rfl, hc1, hb1⟩
  rw [hs] at hc1 hb1 ⊢
  have HC1 := hide (show CurS B (w.heap.size + 1) a cap bs w1 from ⟨_, hc1⟩)
  have HB1 := hide (HB.out.trans (hb1.mono (by omega)))
  have HR1 := hide (HR.out.below hb1 (by omega))
  have hz1 := HC1.out.lt
  clear hc1 hb1 HR HB H
  go_wp2_with fail
  refine (l9Any_some 14 (by omega) (by omega) HC1.out).mono ?_
  rintro e w2 ⟨v2, L, rfl, ho2, hl2, hc2, ht2⟩
  obtain ⟨a1, c1, rfl, _⟩ := ho2.form
  obtain ⟨n1, hn1⟩ : ∃ n1, L.length = n1 := ⟨_, rfl⟩
  have HN := hide hn1
  rw [hn1] at ho2 hl2 ⊢
  have HL := hide hl2
  have HO2 := hide (ho2.mono (show w.heap.size + 1 + 1 ≤ w1.heap.size by omega))
  have HB2 := hide (HB1.out.trans (ht2.below (by omega) HB1.out.size))
  have HR2 := hide (HR1.out.turned ht2 (by omega))
  have HC2 := hide hc2
  clear hc2 ht2 ho2 hl2 hn1 HB1 HR1 HC1
  go_wp2_with fail
  refine (l7Key_some HC2.out).mono ?_
  rintro e w3 ⟨ky, rfl, hc3, ht3⟩
  have HO3 := hide (HO2.out.turned ht3 (by omega))
  have HB3 := hide (HB2.out.trans (ht3.below (by omega) HB2.out.size))
  have HR3 := hide (HR2.out.turned ht3 (by omega))
  have HC3 := hide hc3
  clear hc3 ht3 HO2 HB2 HR2 HC2
  go_wp2_with fail
  refine (below_some 20 (by omega) (by omega) HC3.out).mono ?_
  rintro e w4 ⟨x4, hx4, rfl, hc4, ht4⟩
  have HO4 := hide (HO3.out.turned ht4 (by omega))
  have HB4 := hide (HB3.out.trans (ht4.below (by omega) HB3.out.size))
  have HR4 := hide (HR3.out.turned ht4 (by omega))
  have HC4 := hide hc4
  clear hc4 ht4 HO3 HB3 HR3 HC3
  go_wp2_with fail
  refine (text_some 3 (by omega) HC4.out).mono ?_
  rintro e w5 ⟨tx, _, rfl, hc5, ht5⟩
  have HO5 := hide (HO4.out.turned ht5 (by omega))
  have HB5 := hide (HB4.out.trans (ht5.below (by omega) HB4.out.size))
  have HR5 := hide (HR4.out.turned ht5 (by omega))
  have hs5 := HB5.out.size
  have hr5 := HR5.out.lt
  have hc5lt := hc5.lt
  have hown : ∀ i, (Value.slice a1 n1 c1).ownBlock = some i → i < w5.heap.size := fun i hi => (HO5.out.lt i hi).2
  have hb5 := (Below.refl w5.heap.size w5).alloc (Nat.le_refl _) (.cells #[.string ky, .int .i64 (x4 : Int), .bool false, .string ⟨tx.toArray⟩] 26)
  have HXa := hide (BoxV.new 26 w5 #[.string ky, .int .i64 (x4 : Int), .bool false, .string ⟨tx.toArray⟩])
  have HOa := hide (HO5.out.alloc (.cells #[.string ky, .int .i64 (x4 : Int), .bool false, .string ⟨tx.toArray⟩] 26))
  have HBa := hide (HB5.out.alloc hs5 (.cells #[.string ky, .int .i64 (x4 : Int), .bool false, .string ⟨tx.toArray⟩] 26))
  have HRa := hide (HR5.out.alloc (.cells #[.string ky, .int .i64 (x4 : Int), .bool false, .string ⟨tx.toArray⟩] 26))
  have HCa := hide (hc5.keep (hb5.mono (by omega)))
  clear hc5 ht5 HO4 HB4 HR4 HC4 hb5
  go_wp2_with fail
  refine (once_some 4 (by omega) HCa.out).mono ?_
  rintro e w6 ⟨b, rfl, hc6, ht6⟩
  have HX6 := hide (HXa.out.turned ht6 (by omega))
  have HO6 := hide (HOa.out.turned ht6 (by omega))
  have HB6 := hide (HBa.out.trans (ht6.below (by omega) HBa.out.size))
  have HR6 := hide (HRa.out.turned ht6 (by omega))
  have hx6 := HX6.out.lt
  have hr6 := HR6.out.lt
  clear hc6 ht6 HXa HOa HBa HRa HCa
  obtain ⟨c0, c1', c2, c3⟩ := HX6.out.four'
  obtain ⟨z0, z1, z2, z3⟩ := HX6.out.froz4
  obtain ⟨d0, d1, d2, d3⟩ := HR6.out.four'
  obtain ⟨y0, y1, y2, y3⟩ := HR6.out.froz4
  have hne : w5.heap.size ≠ w.heap.size := by omega
  have hne' : w.heap.size ≠ w5.heap.size := by omega
  cases b with
  | true =>
    have HXW := hide (show BoxV 26 (w6.setCell ⟨w5.heap.size, 2, none⟩ (.bool true)) w5.heap.size #[.string ky, .int .i64 (x4 : Int), .bool true, .string ⟨tx.toArray⟩] from HX6.out.four2 _)
    have HOW := hide (HO6.out.set_ne (p := ⟨w5.heap.size, 2, none⟩) (fun i hi => Nat.ne_of_lt (hown i hi)) (.bool true))
    have HRW := hide (HR6.out.set_other (p := ⟨w5.heap.size, 2, none⟩) hne (.bool true))
    have HBW := hide (HB6.out.setCell (p := ⟨w5.heap.size, 2, none⟩) hs5 (.bool true))
    go_upto_region 6 with (fail)
    obtain ⟨W6, hW6⟩ : ∃ W, W = w6.setCell ⟨w5.heap.size, 2, none⟩ (.bool true) := ⟨_, rfl⟩
    rw [← hW6] at HXW HOW HRW HBW ⊢
    clear hW6 c0 c1' c2 c3 z0 z1 z2 z3 d0 d1 d2 d3 y0 y1 y2 y3 HX6 HO6 HR6 HB6 hx6 hr6
    have hx6 := HXW.out.lt
    have hr6 := HRW.out.lt
    obtain ⟨c0, c1', c2, c3⟩ := HXW.out.four'
    obtain ⟨d0, d1, d2, d3⟩ := HRW.out.four'
    obtain ⟨y0, y1, y2, y3⟩ := HRW.out.froz4
    go_region_held3 (fun w' => w'.cell? ⟨w5.heap.size, 0, none⟩ = some (.string ky) ∧ w'.cell? ⟨w5.heap.size, 1, none⟩ = some (.int .i64 (x4 : Int)) ∧ w'.cell? ⟨w5.heap.size, 2, none⟩ = some (.bool true) ∧ w'.cell? ⟨w5.heap.size, 3, none⟩ = some (.string ⟨tx.toArray⟩))
      (first
        | with_reducible exact HXW.out.four'
        | with_reducible exact HXW.out.drew.four'
        | exact (((((HXW.out.set_other (p := ⟨w.heap.size, 0, none⟩) hne' _).set_other (p := ⟨w.heap.size, 1, none⟩) hne' _).set_other (p := ⟨w.heap.size, 2, none⟩) hne' _).set_other (p := ⟨w.heap.size, 3, none⟩) hne' _)).four')
      (fail)
    all_goals go_wp2_with fail
    all_goals refine bodyPost_ret (res_ent2 rfl _ _ w.heap.size rfl (HRW.out.all4 _ _ _ _)) rfl ?_
    all_goals exact ⟨a1, n1, c1, L, _, _, _, _, rfl, HN.out, HL.out, ((((HOW.out.set_other (by show w.heap.size < _; omega) _).set_other (by show w.heap.size < _; omega) _).set_other (by show w.heap.size < _; omega) _).set_other (by show w.heap.size < _; omega) _).mono (by omega), (below_four HBW.out (Nat.le_refl _) _ _ _ _).drew⟩
  | false =>
    go_wp2_with fail
    go_region_held3 (fun w' => w'.cell? ⟨w5.heap.size, 0, none⟩ = some (.string ky) ∧ w'.cell? ⟨w5.heap.size, 1, none⟩ = some (.int .i64 (x4 : Int)) ∧ w'.cell? ⟨w5.heap.size, 2, none⟩ = some (.bool false) ∧ w'.cell? ⟨w5.heap.size, 3, none⟩ = some (.string ⟨tx.toArray⟩))
      (first
        | with_reducible exact HX6.out.four'
        | with_reducible exact HX6.out.drew.four'
        | exact (((((HX6.out.set_other (p := ⟨w.heap.size, 0, none⟩) hne' _).set_other (p := ⟨w.heap.size, 1, none⟩) hne' _).set_other (p := ⟨w.heap.size, 2, none⟩) hne' _).set_other (p := ⟨w.heap.size, 3, none⟩) hne' _)).four')
      (fail)
    all_goals go_wp2_with fail
    all_goals refine bodyPost_ret (res_ent2 rfl _ _ w.heap.size rfl (HR6.out.all4 _ _ _ _)) rfl ?_
    all_goals exact ⟨a1, n1, c1, L, _, _, _, _, rfl, HN.out, HL.out, ((((HO6.out.set_other (by show w.heap.size < _; omega) _).set_other (by show w.heap.size < _; omega) _).set_other (by show w.heap.size < _; omega) _).set_other (by show w.heap.size < _; omega) _).mono (by omega), (below_four HB6.out (Nat.le_refl _) _ _ _ _).drew⟩

set_option maxHeartbeats 4000000 in
set_option maxRecDepth 20000 in
theorem drawMemRange_any {B : Nat} (a : Option Addr) (cap : Nat) (bs : List Int) (w : World) (hB : B ≤ w.heap.size) (hc : CodeAt B w a bs) (hm : bs.length ≤ 1048576) :
    Calls Try.prog 17 #[.slice a bs.length cap] w (RangeDrawn w) := by
  have H := hide hc
  clear hc
  go_enter Try.func17, Try.ntmps17
  go_wp2_with fail
  refine (l1New_any a cap bs w hB H.out hm).mono ?_
  rintro e w1 ⟨rfl, hc1, hb1⟩
  have HC1 := hide (show CurS B w.heap.size a cap bs w1 from ⟨_, hc1⟩)
  have HB1 := hide hb1
  have hz1 := HC1.out.lt
  clear hc1 hb1 H
  go_wp2_with fail
  refine (l9Any_some 14 (by omega) (by omega) HC1.out).mono ?_
  rintro e w2 ⟨v2, L, rfl, ho2, hl2, hc2, ht2⟩
  obtain ⟨a1, c1, rfl, _⟩ := ho2.form
  obtain ⟨n1, hn1⟩ : ∃ n1, L.length = n1 := ⟨_, rfl⟩
  have HN := hide hn1
  rw [hn1] at ho2 hl2 ⊢
  have HL := hide hl2
  have HO2 := hide (ho2.mono (show w.heap.size + 1 ≤ w1.heap.size by omega))
  have HB2 := hide (HB1.out.trans (ht2.below (by omega) HB1.out.size))
  have HC2 := hide hc2
  clear hc2 ht2 ho2 hl2 hn1 HB1 HC1
  go_wp2_with fail
  refine (l7Key_some HC2.out).mono ?_
  rintro e w3 ⟨ky, rfl, hc3, ht3⟩
  have HO3 := hide (HO2.out.turned ht3 (by omega))
  have HB3 := hide (HB2.out.trans (ht3.below (by omega) HB2.out.size))
  have HC3 := hide hc3
  clear hc3 ht3 HO2 HB2 HC2
  go_wp2_with fail
  refine (pick_new 5 _ [⟨#[]⟩, ⟨#[98]⟩, ⟨#[99]⟩, ⟨#[97, 98, 99]⟩, ⟨#[97]⟩] rfl (by omega) (by omega) rfl HC3.out).mono ?_
  rintro e w4 ⟨s4, _, rfl, hc4, ht4⟩
  have HO4 := hide (HO3.out.turned ht4 (by omega))
  have HB4 := hide (HB3.out.trans (ht4.below (by omega) HB3.out.size))
  have HC4 := hide hc4
  clear hc4 ht4 HO3 HB3 HC3
  go_wp2_with fail
  refine (below_some 22 (by omega) (by omega) HC4.out).mono ?_
  rintro e w5 ⟨x5, hx5, rfl, hc5, ht5⟩
  have HO5 := hide (HO4.out.turned ht5 (by omega))
  have HB5 := hide (HB4.out.trans (ht5.below (by omega) HB4.out.size))
  clear hc5 ht5 HO4 HB4 HC4
  go_wp2_with fail
  refine bodyPost_ret (four_results rfl _ _ _) rfl ?_
  exact ⟨a1, n1, c1, L, _, _, _, rfl, HN.out, HL.out, HO5.out.mono (by omega), HB5.out⟩
end Go.Proofs.Ytphfakdbgohhgaa
