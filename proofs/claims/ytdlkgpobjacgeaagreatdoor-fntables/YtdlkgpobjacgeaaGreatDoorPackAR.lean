/-
  Texts of this proof, put together: MemJ.
-/
import Derived.Test.YtdlkgpobjacgeaaGreatDoorPackAI
import Derived.Test.YtdlkgpobjacgeaaGreatDoorPackAQ

/-
  Contract of spec.l9Some: some entries, fewer than asked. (Written by mkmemj.py.)
-/
namespace Go.Proofs.YtdlkgpobjacgeaaGreatDoor
open Go.ChangeShapes Go.WideShapes Go.ChangeAt Go.RowKit

theorem litEnt (B : Nat) (w : World) (hB : B ≤ w.heap.size) : elEnt.Owns B (w.alloc (.cells #[] 30)) (.slice (some ⟨w.heap.size, 0, none⟩) 0 0) [] := El.Owns.lit (e := elEnt) B w [] #[] 0 rfl rfl hB (by simp [maxLen])
/-- spec.MemPut, of which only 'some entries, one more at most' is said -/
theorem put_some (k : ByteArray) (q : Int) (d : Bool) (v : ByteArray) (L : List En) {y : Nat} (hy : L.length = y) (hl : y ≤ 2000000) (a : Option Addr) (c B : Nat) : ∃ (m : Nat) (b : Bool), m ≤ y + 1 ∧ ∀ W, elEnt.Owns B W (.slice a y c) L →
    Calls Tryz.prog 87 #[.slice a y c, .agg #[.string k, .int .i64 q, .bool d, .string v]] W fun e w' => ∃ v' M, e = .returned (.tuple #[v', .bool b]) ∧ List.length M = m ∧ elEnt.Owns W.heap.size w' v' M ∧ Below W.heap.size W w' := by
  subst hy
  refine ⟨(putM L (k, q, d, v)).length, putB L (k, q, d, v), putM_len _ _, fun W h => ?_⟩
  refine (sMemPut_any B a c L k q d v W h (by omega)).mono ?_
  rintro e w' ⟨v', rfl, ho, hb⟩
  exact ⟨v', _, rfl, rfl, ho, hb⟩
def EntsDrawn (m : Nat) (B g : Nat) (a : Option Addr) (cap : Nat) (bs : List Int) (w : World) (e : Ending) (w' : World) : Prop :=
  ∃ v L, e = .returned v ∧ elEnt.Owns w.heap.size w' v L ∧ L.length ≤ m ∧ CurS B g a cap bs w' ∧ Turned g w w'
set_option maxHeartbeats 4000000 in
set_option maxRecDepth 20000 in
theorem l9Some_some {B g : Nat} {a : Option Addr} {cap : Nat} {bs : List Int} {w : World} (most : Nat) (hm0 : 0 < most) (hm1 : most ≤ 1000) (h : CurS B g a cap bs w) :
    Calls Tryz.prog 55 #[.pointer (some ⟨g, 0, none⟩), .int .i64 most] w (EntsDrawn most B g a cap bs w) := by
  have hgw := h.lt
  have hb0 := (Below.refl w.heap.size w).alloc (Nat.le_refl _) (.cells #[] 30)
  have HL0 := hide (litEnt w.heap.size w (Nat.le_refl _))
  have HC0 := hide (h.keep (hb0.mono (Nat.succ_le_of_lt hgw)))
  have HT0 := hide (Turned.of_below (g := g) hb0 (Nat.le_refl _))
  clear h hb0
  go_enter Tryz.func55, Tryz.ntmps55
  go_wp2_with fail
  refine (below_some most hm0 (by omega) HC0.out).mono ?_
  rintro e w0 ⟨x0, hx0, rfl, hc0, ht0⟩
  have HO1 := hide (HL0.out.turned ht0 hgw)
  have HT1 := hide (HT0.out.trans ht0)
  have HC1 := hide hc0
  clear hc0 ht0 HL0 HT0 HC0
  go_wp2_with fail
  go_loopw [5, 6, 7, 8, 9] (fun o i _ _ _ wr => ∃ (N y : Nat) (a' : Option Addr) (c' : Nat) (L : List En), o = .slice a' y c' ∧ i = .int .i64 N ∧ y + N ≤ x0 ∧ Hid (L.length = y) ∧ Hid (elEnt.Owns w.heap.size wr (.slice a' y c') L) ∧ Hid (CurS B g a cap bs wr) ∧ Hid (Turned g w wr)) (fun _ i _ _ _ _ => (intOf i).toNat)
  case atStart => exact ⟨x0, 0, _, _, [], rfl, rfl, by omega, rfl, HO1, HC1, HT1⟩
  case round =>
    obtain ⟨N, y, a', c', L, rfl, rfl, hyN, HP, HO, HC, HT⟩ := hrel
    have hsz := HT.out.size
    by_cases h0 : 0 < N
    · obtain ⟨N', rfl⟩ : ∃ M, N = M + 1 := ⟨N - 1, by omega⟩
      go_wp2_with fail
      refine (l7Key_some HC.out).mono ?_
      rintro e w1 ⟨ky, rfl, hc1, ht1⟩
      have HO1 := hide (HO.out.turned ht1 hgw)
      have HT1 := hide (HT.out.trans ht1)
      have HC1 := hide hc1
      clear hc1 ht1
      go_wp2_with fail
      refine (below_some 20 (by omega) (by omega) HC1.out).mono ?_
      rintro e w2 ⟨x1, hx1, rfl, hc2, ht2⟩
      have HOk := hide (HO1.out.turned ht2 hgw)
      have HTk := hide (HT1.out.trans ht2)
      have hs2 := HTk.out.size
      have hown : ∀ i, (Value.slice a' y c').ownBlock = some i → i < w2.heap.size := fun i hi => (HOk.out.lt i hi).2
      have hb2 := (Below.refl w2.heap.size w2).alloc (Nat.le_refl _) (.cells #[.string ky, .int .i64 (x1 : Int), .bool false, .string ⟨#[]⟩] 30)
      have HXa := hide (BoxV.new 30 w2 #[.string ky, .int .i64 (x1 : Int), .bool false, .string ⟨#[]⟩])
      have HOa := hide (HOk.out.alloc (.cells #[.string ky, .int .i64 (x1 : Int), .bool false, .string ⟨#[]⟩] 30))
      have HCa := hide (hc2.keep (hb2.mono (by omega)))
      have HTa := hide (HTk.out.then_below hb2 hs2)
      clear hc2 ht2 hb2 HOk HTk HO1 HT1 HC1
      go_wp2_with fail
      refine (once_some 4 (by omega) HCa.out).mono ?_
      rintro e w3 ⟨b, rfl, hc3, ht3⟩
      have HX3 := hide (show BoxV 30 w3 w2.heap.size _ from (ht3.block w2.heap.size HXa.out.lt (fun e => by have := Option.some.inj e; omega)).trans HXa.out)
      have HO3 := hide (HOa.out.turned ht3 hgw)
      have HT3 := hide (HTa.out.trans ht3)
      have HC3 := hide hc3
      clear hc3 ht3 HXa HOa HCa HTa
      cases b with
      | true =>
        obtain ⟨c0, c1, c2, c3⟩ := HX3.out.four'
        obtain ⟨z0, z1, z2, z3⟩ := HX3.out.froz4
        have hltx := HX3.out.lt
        have HOW := hide (HO3.out.set_ne (p := ⟨w2.heap.size, 2, none⟩) (fun i hi => Nat.ne_of_lt (hown i hi)) (.bool true))
        have HCW := hide (HC3.out.keep ((Below.refl (g + 1) w3).setCell (p := ⟨w2.heap.size, 2, none⟩) (by show g + 1 ≤ w2.heap.size; omega) (.bool true)))
        have HTW := hide (HT3.out.then_below ((Below.refl w.heap.size w3).setCell (p := ⟨w2.heap.size, 2, none⟩) hs2 (.bool true)) (Nat.le_refl _))
        have hsW : w.heap.size ≤ (w3.setCell ⟨w2.heap.size, 2, none⟩ (.bool true)).heap.size := HTW.out.size
        obtain ⟨m, b', hm, HAP⟩ := put_some ky x1 true ⟨#[]⟩ L HP.out (by omega) a' c' w.heap.size
        have HAP := hide (HAP (w3.setCell ⟨w2.heap.size, 2, none⟩ (.bool true)) HOW.out)
        clear HX3 HO3 HC3 HT3
        go_wp2_with fail
        refine HAP.out.mono ?_
        rintro e w5 ⟨v5, L5, rfl, hL5, ho5, hb5⟩
        obtain ⟨a5, c5, rfl, _⟩ := ho5.form
        rw [hL5] at ho5 ⊢
        have HV5 := hide (ho5.mono hsW)
        have HP5 := hide hL5
        have HO5 := hide (HOW.out.below hb5 (Nat.le_refl _))
        have HC5 := hide (HCW.out.keep (hb5.mono HCW.out.lt))
        have HT5 := hide (HTW.out.then_below hb5 hsW)
        clear ho5 hb5 hL5 HAP HOW HCW HTW c0 c1 c2 c3 z0 z1 z2 z3 hltx
        cases b' with
        | true =>
          go_wp2_with fail
          go_roundw
          case rel => exact ⟨N', m, a5, c5, _, rfl, by go_num, by omega, HP5, HV5, HC5, HT5⟩
          case measure => simp [intOf]
        | false =>
          go_wp2_with fail
          go_roundw
          case rel => exact ⟨N', y, a', c', _, rfl, by go_num, by omega, HP, HO5, HC5, HT5⟩
          case measure => simp [intOf]
      | false =>
        go_wp2_with fail
        refine (text_some 4 (by omega) HC3.out).mono ?_
        rintro e w4 ⟨tx, _, rfl, hc4, ht4⟩
        have HX4 := hide (show BoxV 30 w4 w2.heap.size _ from (ht4.block w2.heap.size HX3.out.lt (fun e => by have := Option.some.inj e; omega)).trans HX3.out)
        have HO4 := hide (HO3.out.turned ht4 hgw)
        have HT4 := hide (HT3.out.trans ht4)
        have HC4 := hide hc4
        clear hc4 ht4 HX3 HO3 HT3 HC3
        obtain ⟨c0, c1, c2, c3⟩ := HX4.out.four'
        obtain ⟨z0, z1, z2, z3⟩ := HX4.out.froz4
        have hltx := HX4.out.lt
        have HOW := hide (HO4.out.set_ne (p := ⟨w2.heap.size, 3, none⟩) (fun i hi => Nat.ne_of_lt (hown i hi)) (.string ⟨tx.toArray⟩))
        have HCW := hide (HC4.out.keep ((Below.refl (g + 1) w4).setCell (p := ⟨w2.heap.size, 3, none⟩) (by show g + 1 ≤ w2.heap.size; omega) (.string ⟨tx.toArray⟩)))
        have HTW := hide (HT4.out.then_below ((Below.refl w.heap.size w4).setCell (p := ⟨w2.heap.size, 3, none⟩) hs2 (.string ⟨tx.toArray⟩)) (Nat.le_refl _))
        have hsW : w.heap.size ≤ (w4.setCell ⟨w2.heap.size, 3, none⟩ (.string ⟨tx.toArray⟩)).heap.size := HTW.out.size
        obtain ⟨m, b', hm, HAP⟩ := put_some ky x1 false ⟨tx.toArray⟩ L HP.out (by omega) a' c' w.heap.size
        have HAP := hide (HAP (w4.setCell ⟨w2.heap.size, 3, none⟩ (.string ⟨tx.toArray⟩)) HOW.out)
        clear HX4 HO4 HC4 HT4
        go_wp2_with fail
        refine HAP.out.mono ?_
        rintro e w5 ⟨v5, L5, rfl, hL5, ho5, hb5⟩
        obtain ⟨a5, c5, rfl, _⟩ := ho5.form
        rw [hL5] at ho5 ⊢
        have HV5 := hide (ho5.mono hsW)
        have HP5 := hide hL5
        have HO5 := hide (HOW.out.below hb5 (Nat.le_refl _))
        have HC5 := hide (HCW.out.keep (hb5.mono HCW.out.lt))
        have HT5 := hide (HTW.out.then_below hb5 hsW)
        clear ho5 hb5 hL5 HAP HOW HCW HTW c0 c1 c2 c3 z0 z1 z2 z3 hltx
        cases b' with
        | true =>
          go_wp2_with fail
          go_roundw
          case rel => exact ⟨N', m, a5, c5, _, rfl, by go_num, by omega, HP5, HV5, HC5, HT5⟩
          case measure => simp [intOf]
        | false =>
          go_wp2_with fail
          go_roundw
          case rel => exact ⟨N', y, a', c', _, rfl, by go_num, by omega, HP, HO5, HC5, HT5⟩
          case measure => simp [intOf]
    · obtain rfl : N = 0 := by omega
      go_wp2_with fail
      go_ret
      exact ⟨_, _, rfl, HO.out, by have := HP.out; omega, HC.out, HT.out⟩
end Go.Proofs.YtdlkgpobjacgeaaGreatDoor
