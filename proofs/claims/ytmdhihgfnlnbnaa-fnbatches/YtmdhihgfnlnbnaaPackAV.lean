/-
  Texts of this proof, put together: DrawL.
-/
import Derived.Test.YtmdhihgfnlnbnaaPackAL
import Derived.Test.YtmdhihgfnlnbnaaPackAU

/-
  Contract of spec.l7Batch: some batch of at most eight operations.
-/
namespace Go.Proofs.Ytmdhihgfnlnbnaa
open Go.ChangeShapes Go.WideShapes Go.ChangeAt Go.RowKit

def BatDrawn (B g : Nat) (a : Option Addr) (cap : Nat) (bs : List Int) (w : World) (e : Ending) (w' : World) : Prop :=
  ∃ v l, e = .returned v ∧ elOp.Owns w.heap.size w' v l ∧ l.length ≤ 8 ∧ CurS B g a cap bs w' ∧ Turned g w w'
set_option maxHeartbeats 4000000 in
set_option maxRecDepth 20000 in
theorem l7Batch_some {B g : Nat} {a : Option Addr} {cap : Nat} {bs : List Int} {w : World} (h : CurS B g a cap bs w) :
    Calls Try.prog 34 #[.pointer (some ⟨g, 0, none⟩)] w (BatDrawn B g a cap bs w) := by
  have hgw := h.lt
  have hb0 := (Below.refl w.heap.size w).alloc (Nat.le_refl _) (.cells #[] 62)
  have HL0 := hide (litOp w.heap.size w (Nat.le_refl _))
  have HC0 := hide (h.keep (hb0.mono (Nat.succ_le_of_lt hgw)))
  have HT0 := hide (Turned.of_below (g := g) hb0 (Nat.le_refl _))
  clear h hb0
  go_enter Try.func34, Try.ntmps34
  go_wp2_with fail
  refine (below_some 4 (by omega) (by omega) HC0.out).mono ?_
  rintro e w0 ⟨x0, hx0, rfl, hc0, ht0⟩
  have HO1 := hide (HL0.out.turned ht0 hgw)
  have HT1 := hide (HT0.out.trans ht0)
  have HC1 := hide hc0
  clear hc0 ht0 HL0 HT0 HC0
  go_wp2_with fail
  go_loopw [3, 4] (fun o i wr => ∃ (N y : Nat) (a' : Option Addr) (c' : Nat) (pre : List Opn), o = .slice a' y c' ∧ i = .int .i64 N ∧ N ≤ 4 ∧ y + N = 1 + x0 ∧ pre.length = y ∧ Hid (elOp.Owns w.heap.size wr (.slice a' y c') pre) ∧ Hid (CurS B g a cap bs wr) ∧ Hid (Turned g w wr)) (fun _ i _ => (intOf i).toNat)
  case atStart => exact ⟨1 + x0, 0, _, _, [], rfl, by go_num, by omega, by omega, rfl, HO1, HC1, HT1⟩
  case round =>
    obtain ⟨N, y, a', c', pre, rfl, rfl, hN, hyN, hpre, HO, HC, HT⟩ := hrel
    have hsz := HT.out.size
    by_cases h0 : 0 < N
    · obtain ⟨M, rfl⟩ : ∃ M, N = M + 1 := ⟨N - 1, by omega⟩
      go_wp2_with fail
      refine (l7Key_some HC.out).mono ?_
      rintro e w1 ⟨ky, rfl, hc1, ht1⟩
      have HOk := hide (HO.out.turned ht1 hgw)
      have HTk := hide (HT.out.trans ht1)
      have hs1 := HTk.out.size
      have hown : ∀ i, (Value.slice a' y c').ownBlock = some i → i < w1.heap.size := fun i hi => (HOk.out.lt i hi).2
      have hb1 := (Below.refl w1.heap.size w1).alloc (Nat.le_refl _) (.cells #[.string ky, .bool false, .string ⟨#[]⟩] 62)
      have HXa := hide (BoxV.new 62 w1 #[.string ky, .bool false, .string ⟨#[]⟩])
      have HOa := hide (HOk.out.alloc (.cells #[.string ky, .bool false, .string ⟨#[]⟩] 62))
      have HCa := hide (hc1.keep (hb1.mono (by omega)))
      have HTa := hide (HTk.out.then_below hb1 hs1)
      clear hc1 ht1 hb1 HOk HTk
      go_wp2_with fail
      refine (once_some 3 (by omega) HCa.out).mono ?_
      rintro e w2 ⟨b, rfl, hc2, ht2⟩
      have HX2 := hide (show BoxV 62 w2 w1.heap.size _ from (ht2.block w1.heap.size HXa.out.lt (fun e => by have := Option.some.inj e; omega)).trans HXa.out)
      have HO2 := hide (HOa.out.turned ht2 hgw)
      have HT2 := hide (HTa.out.trans ht2)
      have HC2 := hide hc2
      clear hc2 ht2 HXa HOa HCa HTa
      cases b with
      | true =>
        obtain ⟨c0, c1, c2⟩ := HX2.out.three
        have z1 := HX2.out.frozen 1
        have hltx := HX2.out.lt
        have HXW := hide (show BoxV 62 (w2.setCell ⟨w1.heap.size, 1, none⟩ (.bool true)) w1.heap.size #[.string ky, .bool true, .string ⟨#[]⟩] from HX2.out.set (i := 1) _)
        have HOW := hide (HO2.out.set_ne (p := ⟨w1.heap.size, 1, none⟩) (fun i hi => Nat.ne_of_lt (hown i hi)) (.bool true))
        have HCW := hide (HC2.out.keep ((Below.refl (g + 1) w2).setCell (p := ⟨w1.heap.size, 1, none⟩) (by show g + 1 ≤ w1.heap.size; omega) (.bool true)))
        have HTW := hide (HT2.out.then_below ((Below.refl w.heap.size w2).setCell (p := ⟨w1.heap.size, 1, none⟩) hs1 (.bool true)) (Nat.le_refl _))
        have hsW : w.heap.size ≤ (w2.setCell ⟨w1.heap.size, 1, none⟩ (.bool true)).heap.size := HTW.out.size
        have hzW : (w2.setCell ⟨w1.heap.size, 1, none⟩ (.bool true)).heap.size = w2.heap.size := by simp
        have HOa := hide (HOW.out.alloc (.cells #[.string ky, .bool true, .string ⟨#[]⟩] 62))
        have HSa : Hid (elOp.Rd ((w2.setCell ⟨w1.heap.size, 1, none⟩ (.bool true)).alloc (.cells #[.string ky, .bool true, .string ⟨#[]⟩] 62)) ((w2.setCell ⟨w1.heap.size, 1, none⟩ (.bool true)).alloc (.cells #[.string ky, .bool true, .string ⟨#[]⟩] 62)).heap.size (some ⟨w2.heap.size, 0, none⟩) [(ky, true, ⟨#[]⟩)]) := by
          rw [← hzW]
          exact El.Holds.rd (El.Holds.new (e := elOp) (w2.setCell ⟨w1.heap.size, 1, none⟩ (.bool true)) [(ky, true, ⟨#[]⟩)])
        have HBa := hide ((Below.refl w.heap.size (w2.setCell ⟨w1.heap.size, 1, none⟩ (.bool true))).alloc hsW (.cells #[.string ky, .bool true, .string ⟨#[]⟩] 62))
        have hBa : w.heap.size ≤ ((w2.setCell ⟨w1.heap.size, 1, none⟩ (.bool true)).alloc (.cells #[.string ky, .bool true, .string ⟨#[]⟩] 62)).heap.size := Nat.le_trans hsW HBa.out.size
        have hjl : (pre ++ [((ky, true, ⟨#[]⟩) : Opn)]).length = y + 1 := by rw [List.length_append, hpre]; rfl
        go_wp2_with (at_builtin; refine El.append rfl (.tmp 24) (.tmp 26) 25 rfl Try.underlying25 _ _ infoOp rfl (by decide) (by decide) w.heap.size (w2.setCell ⟨w1.heap.size, 1, none⟩ (.bool true)) _ _ (some ⟨w2.heap.size, 0, none⟩) 1 1 pre [(ky, true, ⟨#[]⟩)] rfl rfl rfl (fun h => by cases h) HOa HSa (fun p hp => ⟨_, _, (Option.some.inj hp).symm⟩) HBa hBa _ (y + 1) rfl hjl (by omega) ?_; intro a5 c5 w5 HO5 HB5 HG5 hz5)
        have HC5 := hide (HCW.out.keep (HB5.out.mono (Nat.succ_le_of_lt hgw)))
        have HT5 := hide (HTW.out.then_below HB5.out (Nat.le_refl _))
        go_wp2_with fail
        go_roundw
        case rel => exact ⟨M, y + 1, a5, c5, _, rfl, by go_num, by omega, by omega, hjl, HO5, HC5, HT5⟩
        case measure => simp [intOf]
      | false =>
        go_wp2_with fail
        refine (text_some 5 (by omega) HC2.out).mono ?_
        rintro e w3 ⟨tx, _, rfl, hc3, ht3⟩
        have HX3 := hide (show BoxV 62 w3 w1.heap.size _ from (ht3.block w1.heap.size HX2.out.lt (fun e => by have := Option.some.inj e; omega)).trans HX2.out)
        have HO3 := hide (HO2.out.turned ht3 hgw)
        have HT3 := hide (HT2.out.trans ht3)
        have HC3 := hide hc3
        clear hc3 ht3 HX2 HO2 HT2 HC2
        obtain ⟨c0, c1, c2⟩ := HX3.out.three
        have z1 := HX3.out.frozen 2
        have hltx := HX3.out.lt
        have HXW := hide (show BoxV 62 (w3.setCell ⟨w1.heap.size, 2, none⟩ (.string ⟨tx.toArray⟩)) w1.heap.size #[.string ky, .bool false, .string ⟨tx.toArray⟩] from HX3.out.set (i := 2) _)
        have HOW := hide (HO3.out.set_ne (p := ⟨w1.heap.size, 2, none⟩) (fun i hi => Nat.ne_of_lt (hown i hi)) (.string ⟨tx.toArray⟩))
        have HCW := hide (HC3.out.keep ((Below.refl (g + 1) w3).setCell (p := ⟨w1.heap.size, 2, none⟩) (by show g + 1 ≤ w1.heap.size; omega) (.string ⟨tx.toArray⟩)))
        have HTW := hide (HT3.out.then_below ((Below.refl w.heap.size w3).setCell (p := ⟨w1.heap.size, 2, none⟩) hs1 (.string ⟨tx.toArray⟩)) (Nat.le_refl _))
        have hsW : w.heap.size ≤ (w3.setCell ⟨w1.heap.size, 2, none⟩ (.string ⟨tx.toArray⟩)).heap.size := HTW.out.size
        have hzW : (w3.setCell ⟨w1.heap.size, 2, none⟩ (.string ⟨tx.toArray⟩)).heap.size = w3.heap.size := by simp
        have HOa := hide (HOW.out.alloc (.cells #[.string ky, .bool false, .string ⟨tx.toArray⟩] 62))
        have HSa : Hid (elOp.Rd ((w3.setCell ⟨w1.heap.size, 2, none⟩ (.string ⟨tx.toArray⟩)).alloc (.cells #[.string ky, .bool false, .string ⟨tx.toArray⟩] 62)) ((w3.setCell ⟨w1.heap.size, 2, none⟩ (.string ⟨tx.toArray⟩)).alloc (.cells #[.string ky, .bool false, .string ⟨tx.toArray⟩] 62)).heap.size (some ⟨w3.heap.size, 0, none⟩) [(ky, false, ⟨tx.toArray⟩)]) := by
          rw [← hzW]
          exact El.Holds.rd (El.Holds.new (e := elOp) (w3.setCell ⟨w1.heap.size, 2, none⟩ (.string ⟨tx.toArray⟩)) [(ky, false, ⟨tx.toArray⟩)])
        have HBa := hide ((Below.refl w.heap.size (w3.setCell ⟨w1.heap.size, 2, none⟩ (.string ⟨tx.toArray⟩))).alloc hsW (.cells #[.string ky, .bool false, .string ⟨tx.toArray⟩] 62))
        have hBa : w.heap.size ≤ ((w3.setCell ⟨w1.heap.size, 2, none⟩ (.string ⟨tx.toArray⟩)).alloc (.cells #[.string ky, .bool false, .string ⟨tx.toArray⟩] 62)).heap.size := Nat.le_trans hsW HBa.out.size
        have hjl : (pre ++ [((ky, false, ⟨tx.toArray⟩) : Opn)]).length = y + 1 := by rw [List.length_append, hpre]; rfl
        go_wp2_with (at_builtin; refine El.append rfl (.tmp 24) (.tmp 26) 25 rfl Try.underlying25 _ _ infoOp rfl (by decide) (by decide) w.heap.size (w3.setCell ⟨w1.heap.size, 2, none⟩ (.string ⟨tx.toArray⟩)) _ _ (some ⟨w3.heap.size, 0, none⟩) 1 1 pre [(ky, false, ⟨tx.toArray⟩)] rfl rfl rfl (fun h => by cases h) HOa HSa (fun p hp => ⟨_, _, (Option.some.inj hp).symm⟩) HBa hBa _ (y + 1) rfl hjl (by omega) ?_; intro a5 c5 w5 HO5 HB5 HG5 hz5)
        have HC5 := hide (HCW.out.keep (HB5.out.mono (Nat.succ_le_of_lt hgw)))
        have HT5 := hide (HTW.out.then_below HB5.out (Nat.le_refl _))
        go_wp2_with fail
        go_roundw
        case rel => exact ⟨M, y + 1, a5, c5, _, rfl, by go_num, by omega, by omega, hjl, HO5, HC5, HT5⟩
        case measure => simp [intOf]
    · obtain rfl : N = 0 := by omega
      have hy1 : 0 < y := by omega
      have HP := hide hpre
      go_wp2_with fail
      refine (once_some 10 (by omega) HC.out).mono ?_
      rintro e w1 ⟨b, rfl, hc1, ht1⟩
      have HO1 := hide (HO.out.turned ht1 hgw)
      have HT1 := hide (HT.out.trans ht1)
      have HC1 := hide hc1
      clear hc1 ht1
      cases b with
      | false =>
        go_wp2_with fail
        go_ret
        exact ⟨_, _, rfl, HO1.out, by have := HP.out; omega, HC1.out, HT1.out⟩
      | true =>
        go_wp2_with fail
        refine (below_some y hy1 (by omega) HC1.out).mono ?_
        rintro e w2 ⟨x2, hx2, rfl, hc2, ht2⟩
        have HO2 := hide (HO1.out.turned ht2 hgw)
        have HT2 := hide (HT1.out.trans ht2)
        have HC2 := hide hc2
        clear hc2 ht2
        go_wp2_with fail
        refine (below_some 4 (by omega) (by omega) HC2.out).mono ?_
        rintro e w3 ⟨x3, hx3, rfl, hc3, ht3⟩
        have HO3 := hide (HO2.out.turned ht3 hgw)
        have HT3 := hide (HT2.out.trans ht3)
        have HC3 := hide hc3
        have hs3 := HT3.out.size
        clear hc3 ht3 HO2 HT2 HC2 HO1 HT1 HC1 HO HT HC
        have hx3' : x3 = 0 ∨ x3 = 1 ∨ x3 = 2 ∨ x3 = 3 := by omega
        rcases hx3' with rfl | rfl | rfl | rfl
        · go_wp2_with fail
          refine (pick_new 3 _ [⟨#[]⟩, ⟨#[97, 97, 97, 97, 97, 97, 97, 97, 97, 97]⟩, ⟨#[97, 97, 97, 97, 97, 97, 97, 97, 97, 97, 97]⟩] rfl (by omega) (by omega) rfl HC3.out).mono ?_
          rintro e w4 ⟨s4, _, rfl, hc4, ht4⟩
          have HO4 := hide (HO3.out.turned ht4 hgw)
          have HT4 := hide (HT3.out.trans ht4)
          have HC4 := hide hc4
          clear hc4 ht4
          obtain ⟨gr, rfl, hgr, hgz⟩ := HO4.out.pos (by have := HP.out; omega)
          obtain ⟨f0, f1, f2, hx⟩ := partsOp (pre[x2]'(by omega))
          have HQ := hide (show pre[x2]? = some (f0, f1, f2) by rw [List.getElem?_eq_getElem (by omega), hx])
          obtain ⟨c0, c1, c2⟩ := cellsXOp (o := x2 * 3) (HO4.out.cellsAt HP.out x2 _ HQ.out)
          have z0 := HO4.out.frozenAt HP.out (x2 * 3)
          have HO5 := hide (HO4.out.setAt HP.out x2 _ HQ.out 0 (by decide) (.string s4) (s4, f1, f2) rfl)
          have HT5 := hide (HT4.out.then_below ((Below.refl w.heap.size w4).setCell (p := ⟨gr, x2 * 3, none⟩) hgr (.string s4)) (Nat.le_refl _))
          have HC5 := hide (HC4.out.keep ((Below.refl (g + 1) w4).setCell (p := ⟨gr, x2 * 3, none⟩) (by show g + 1 ≤ gr; omega) (.string s4)))
          clear hx
          go_wp2_with fail
          go_ret
          exact ⟨_, _, rfl, HO5.out, by rw [List.length_set]; have := HP.out; omega, HC5.out, HT5.out⟩
        · go_wp2_with fail
          refine (text_some 1 (by omega) HC3.out).mono ?_
          rintro e w4 ⟨tx, htx, rfl, hc4, ht4⟩
          have ha := run_cat [97, 97, 97, 97, 97, 97, 97, 97, 97, 97, 97, 97, 97, 97, 97, 97] tx (by simp only [List.length_cons, List.length_nil]; omega)
          have HO4 := hide (HO3.out.turned ht4 hgw)
          have HT4 := hide (HT3.out.trans ht4)
          have HC4 := hide hc4
          clear hc4 ht4
          obtain ⟨gr, rfl, hgr, hgz⟩ := HO4.out.pos (by have := HP.out; omega)
          obtain ⟨f0, f1, f2, hx⟩ := partsOp (pre[x2]'(by omega))
          have HQ := hide (show pre[x2]? = some (f0, f1, f2) by rw [List.getElem?_eq_getElem (by omega), hx])
          obtain ⟨c0, c1, c2⟩ := cellsXOp (o := x2 * 3) (HO4.out.cellsAt HP.out x2 _ HQ.out)
          have z0 := HO4.out.frozenAt HP.out (x2 * 3 + 2)
          obtain ⟨S4, hS4⟩ : ∃ S4 : ByteArray, S4 = ⟨([97, 97, 97, 97, 97, 97, 97, 97, 97, 97, 97, 97, 97, 97, 97, 97] ++ tx).toArray⟩ := ⟨_, rfl⟩
          rw [← hS4] at ha
          have HO5 := hide (HO4.out.setAt HP.out x2 _ HQ.out 2 (by decide) (.string S4) (f0, f1, S4) rfl)
          have HT5 := hide (HT4.out.then_below ((Below.refl w.heap.size w4).setCell (p := ⟨gr, x2 * 3 + 2, none⟩) hgr (.string S4)) (Nat.le_refl _))
          have HC5 := hide (HC4.out.keep ((Below.refl (g + 1) w4).setCell (p := ⟨gr, x2 * 3 + 2, none⟩) (by show g + 1 ≤ gr; omega) (.string S4)))
          clear hx hS4
          go_wp2_with fail
          go_ret
          exact ⟨_, _, rfl, HO5.out, by rw [List.length_set]; have := HP.out; omega, HC5.out, HT5.out⟩
        · obtain ⟨gr, rfl, hgr, hgz⟩ := HO3.out.pos (by have := HP.out; omega)
          obtain ⟨ar, cr, er, hrd, _⟩ := HO3.out.form
          injection er with e1 e2 e3
          clear e2 e3
          subst e1
          have HRD := hide hrd
          have HBr := hide (Below.refl w.heap.size w3)
          have hjl : (pre ++ pre).length = y + y := by rw [List.length_append, HP.out]
          clear hrd
          go_wp2_with (at_builtin; refine El.append rfl (.tmp 57) (.tmp 58) 25 rfl Try.underlying25 _ _ infoOp rfl (by decide) (by decide) w.heap.size w3 _ _ (some ⟨gr, 0, none⟩) y c' pre pre rfl rfl HP.out (fun h => by cases h) HO3 HRD (fun p hp => ⟨_, _, (Option.some.inj hp).symm⟩) HBr hs3 _ (y + y) rfl hjl (by omega) ?_; intro a5 c5 w5 HO5 HB5 HG5 hz5)
          have HC5 := hide (HC3.out.keep (HB5.out.mono (Nat.succ_le_of_lt hgw)))
          have HT5 := hide (HT3.out.then_below HB5.out (Nat.le_refl _))
          go_wp2_with fail
          go_ret
          exact ⟨_, _, rfl, HO5.out, by rw [hjl]; omega, HC5.out, HT5.out⟩
        · have hb3 := (Below.refl w.heap.size w3).alloc hs3 (.cells #[] 62)
          have HC5 := hide (HC3.out.keep (hb3.mono (Nat.succ_le_of_lt hgw)))
          have HT5 := hide (HT3.out.then_below hb3 (Nat.le_refl _))
          have HO5 := hide (litOp w.heap.size w3 hs3)
          clear hb3
          go_wp2_with fail
          go_ret
          exact ⟨_, [], rfl, HO5.out, by simp, HC5.out, HT5.out⟩
end Go.Proofs.Ytmdhihgfnlnbnaa
