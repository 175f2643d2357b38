/-
  Contract of spec.l5Some: a block device is drawn.
-/
import Derived.Test.YtnbaffdonbnocaaDrawV
import Derived.Deep.RegionHeld3
import Derived.Deep.DeepCutAuto
namespace Go.Proofs.Ytnbaffdonbnocaa
open Go.ChangeShapes Go.WideShapes Go.ChangeAt Go.RowKit

def lenAt (w : World) (g3 : Nat) : Nat := match w.cell? ⟨g3, 1, none⟩ with | some (.slice _ n _) => n | _ => 0
theorem lenAt_of {w : World} {g3 : Nat} {a : Option Addr} {n c : Nat} (h : w.cell? ⟨g3, 1, none⟩ = some (.slice a n c)) : lenAt w g3 = n := by simp [lenAt, h]
theorem OwnsS.len {B : Nat} {w : World} {a : Option Addr} {n c : Nat} {L : List Slot} (h : OwnsS B w (.slice a n c) L) : L.length = n := by
  obtain ⟨a', c', e, _⟩ := h.form
  simp only [Value.slice.injEq] at e
  exact e.2.1.symm
theorem OwnsT.len {B : Nat} {w : World} {a : Option Addr} {n c : Nat} {S : List ByteArray} (h : OwnsT B w (.slice a n c) S) : S.length = n := by
  obtain ⟨a', c', e, _⟩ := h.form
  simp only [Value.slice.injEq] at e
  exact e.2.1.symm
def SomePost (B g : Nat) (a : Option Addr) (cap : Nat) (bs : List Int) (w : World) (e : Ending) (w' : World) : Prop :=
  ∃ (c' : Cu) (a1 : Option Addr) (n1 c1 : Nat) (S : List ByteArray) (a2 : Option Addr) (n2 c2 : Nat) (L : List Slot) (x : Int), e = .returned (.agg #[.slice a1 n1 c1, .slice a2 n2 c2, .int .i64 x]) ∧ OwnsT w.heap.size w' (.slice a1 n1 c1) S ∧ OwnsS w.heap.size w' (.slice a2 n2 c2) L ∧ S.length ≤ 16 ∧ L.length ≤ 22 ∧ Cursor B g a cap bs w' c' ∧ Turned g w w'
set_option maxHeartbeats 4000000 in
set_option maxRecDepth 100000 in
theorem l5Some_any {B g : Nat} {a : Option Addr} {cap : Nat} {bs : List Int} {w : World} {c : Cu} (h : Cursor B g a cap bs w c) :
    Calls Try.prog 28 #[.pointer (some ⟨g, 0, none⟩)] w (SomePost B g a cap bs w) := by
  have H := hide h
  have hlt := h.lt
  clear h
  go_enter Try.func28, Try.ntmps28
  go_wp2_with fail
  refine (l1Below_any 6 (by omega) (H.out.keep ((Below.refl _ _).alloc hlt _))).mono ?_
  rintro e w1 ⟨rfl, hc1, ht1⟩
  have HY1 := hide ((BoxB.new 27 w (.slice none 0 0) (.slice none 0 0) (.int .i64 0)).turned ht1 (by omega))
  have HT1 := hide (((Turned.refl g w).alloc (.cells #[.slice none 0 0, .slice none 0 0, .int .i64 0] 27)).trans ht1)
  have HC1 := hide hc1
  have hn0 := cBelow_bd bs 6 c (by omega)
  clear hc1 ht1
  generalize aBelow bs 6 c = c1 at *
  obtain ⟨n0, hn0'⟩ : ∃ n0 : Nat, cBelow bs 6 c = (n0 : Int) := ⟨(cBelow bs 6 c).toNat, by omega⟩
  rw [hn0'] at hn0 ⊢
  clear hn0'
  have hy1 := HY1.out.lt
  have hmk := run_makeT (n0 + 1) (by omega) w1
  rw [show ((n0 + 1 : Nat) : Int) = 1 + (n0 : Int) by omega] at hmk
  have HTm := hide (HoldsT.new w1 (List.replicate (n0 + 1) zeroT))
  obtain ⟨W2, hW2⟩ : ∃ W2, W2 = (w1.alloc (.cells (strVals (List.replicate (n0 + 1) zeroT)).toArray 9)).alloc (.cells #[.slice (some ⟨w1.heap.size, 0, none⟩) (n0 + 1) (n0 + 1), .slice none 0 0, .int .i64 0] 27) := ⟨_, rfl⟩
  have HD2 := hide (show DS B g a cap bs w w.heap.size (w1.heap.size + 1) (.slice (some ⟨w1.heap.size, 0, none⟩) (n0 + 1) (n0 + 1)) (List.replicate (n0 + 1) zeroT) (.slice none 0 0) [] 0 c1 W2 from by
    have hbx := BoxB.new 27 (w1.alloc (.cells (strVals (List.replicate (n0 + 1) zeroT)).toArray 9)) (.slice (some ⟨w1.heap.size, 0, none⟩) (n0 + 1) (n0 + 1)) (.slice none 0 0) (.int .i64 0)
    simp only [Go.Deep.nblk_alloc] at hbx
    have hbel : Below w1.heap.size w1 W2 := by rw [hW2]; exact ((Below.refl _ _).alloc (Nat.le_refl _) _).alloc (by simp) _
    have hown := HTm.out.owns (B := w.heap.size) (by omega) (by simp [maxLen]; omega)
    simp only [List.length_replicate] at hown
    exact ⟨HC1.out.keep (hbel.mono HC1.out.lt), HT1.out.then_below hbel HT1.out.size, HY1.out.below hbel HY1.out.lt, hW2 ▸ hbx, hW2 ▸ hown.alloc _, OwnsS.nil _ _, hlt, Nat.le_refl _, by omega⟩)
  go_wp2_with fail
  rw [← hW2]
  clear hW2 HY1 HT1 HC1 H hmk HTm
  refine (l1Below_any 12 (by omega) HD2.out.cur).mono ?_
  rintro e w3 ⟨rfl, hc3, ht3⟩
  have HD3 := hide (HD2.out.turn hc3 ht3)
  have hm0 := cBelow_bd bs 12 c1 (by omega)
  clear hc3 ht3 HD2
  generalize aBelow bs 12 c1 = c3 at *
  obtain ⟨m0, hm0'⟩ : ∃ m0 : Nat, cBelow bs 12 c1 = (m0 : Int) := ⟨(cBelow bs 12 c1).toNat, by omega⟩
  rw [hm0'] at hm0 ⊢
  clear hm0'
  have HLn0 := hide (show (List.replicate (n0 + 1) zeroT).length ≤ 16 by simp; omega)
  generalize List.replicate (n0 + 1) zeroT = S0 at *
  generalize (some ⟨w1.heap.size, 0, none⟩ : Option Addr) = a0 at *
  obtain ⟨g3, hg3⟩ : ∃ g3, g3 = w1.heap.size + 1 := ⟨_, rfl⟩
  rw [← hg3] at HD3 ⊢
  clear hg3 hy1
  go_wp2_with fail
  go_loopw [4, 5, 6, 7, 8] (fun i _ _ _ _ wr => ∃ (j : Nat) (c' : Cu) (a1 : Option Addr) (n1 e1 : Nat) (S : List ByteArray) (a2 : Option Addr) (n2 e2 : Nat) (L : List Slot) (x : Int), i = .int .i64 j ∧ j ≤ 11 ∧ Hid (DS B g a cap bs w w.heap.size g3 (.slice a1 n1 e1) S (.slice a2 n2 e2) L x c' wr) ∧ Hid (S.length ≤ 16 ∧ L.length ≤ 20)) (fun i _ _ _ _ _ => (intOf i).toNat)
  case atStart => exact ⟨m0, c3, a0, _, _, S0, none, 0, 0, [], 0, rfl, by omega, HD3, hide ⟨HLn0.out, Nat.zero_le _⟩⟩
  case round =>
    obtain ⟨j, c4, a1, n1, e1, S, a2, n2, e2, L, x, rfl, hj, HD, HLn⟩ := hrel
    clear HD3
    by_cases hj0 : 0 < j
    · have hgl := HD.out.cur.lt
      have hg3l := HD.out.dev.lt
      go_upto_region 5 with (fail)
      go_cut [5, 6] from 21 to 29 (fun s5 s6 wF => KeptA B g a cap bs w w.heap.size g3 (.slice a1 n1 e1) S (.slice a2 n2 e2) L x s5 s6 wF)
      case first =>
        go_region_held3 (fun w' => w'.cell? ⟨g3, 0, none⟩ = some (.slice a1 n1 e1) ∧ w'.cell? ⟨g3, 1, none⟩ = some (.slice a2 n2 e2) ∧ w'.cell? ⟨g3, 2, none⟩ = some (.int .i64 x))
          (first
            | with_reducible exact HD.out.dev.cells
            | with_reducible exact HD.out.dev.drew.cells
            | with_reducible exact (HD.out.dev.alloc _).drew.cells
            | with_reducible exact HD5.out.dev.cells
            | with_reducible exact (HD5.out.dev.alloc _).cells
            | with_reducible exact HD6.out.dev.cells
            | with_reducible exact (HD6.out.dev.alloc _).cells
            | with_reducible exact HD7.out.dev.cells
            | with_reducible exact (HD7.out.dev.alloc _).cells
            | with_reducible exact (HD7.out.put3 F7.out Z7.out _ _ _).dev.cells)
          (first
            | (go_at_call 29
               first
               | refine (l1Below_any 6 (by omega) (c := c4) (by with_reducible exact HD.out.drew.cur)).mono ?_
               | refine (l1Below_any 6 (by omega) (c := c4) (by with_reducible exact (HD.out.alloc _).drew.cur)).mono ?_
               rintro e w5 ⟨rfl, hc5, ht5⟩
               generalize aBelow bs 6 c4 = c5 at *
               generalize cBelow bs 6 c4 = t5 at *
               have HD5 : Hid (DS B g a cap bs w w.heap.size g3 (.slice a1 n1 e1) S (.slice a2 n2 e2) L x c5 w5) := by
                 first
                 | with_reducible exact hide (HD.out.drew.turn hc5 ht5)
                 | with_reducible exact hide ((HD.out.alloc _).drew.turn hc5 ht5)
               (try have Z5 : Hid (BoxB 27 w5 wr.heap.size (.slice none 0 0) (.slice none 0 0) (.int .i64 0)) := by with_reducible exact hide ((BoxB.new _ wr _ _ _).drew.turned ht5 (Nat.ne_of_gt hgl)))
               have hgl5 := HD5.out.cur.lt
               clear hc5 ht5)
            | (go_at_call 36
               first
               | refine (l1Text_any 5 (by omega) (by omega) (c := c5) (by with_reducible exact HD5.out.cur)).mono ?_
               | refine (l1Text_any 5 (by omega) (by omega) (c := c5) (by with_reducible exact (HD5.out.alloc _).cur)).mono ?_
               rintro e w6 ⟨rfl, hc6, ht6⟩
               generalize aText bs 5 c5 = c6 at *
               generalize cText bs 5 c5 = key6 at *
               have HD6 : Hid (DS B g a cap bs w w.heap.size g3 (.slice a1 n1 e1) S (.slice a2 n2 e2) L x c6 w6) := by
                 first
                 | with_reducible exact hide (HD5.out.turn hc6 ht6)
                 | with_reducible exact hide ((HD5.out.alloc _).turn hc6 ht6)
               first
               | (have Z6 : Hid (BoxB 27 w6 wr.heap.size (.slice none 0 0) (.slice none 0 0) (.int .i64 0)) := by with_reducible exact hide (Z5.out.turned ht6 (Nat.ne_of_gt hgl)))
               | (have Z6 : Hid (BoxB 27 w6 w5.heap.size (.slice none 0 0) (.slice none 0 0) (.int .i64 0)) := by with_reducible exact hide ((BoxB.new _ w5 _ _ _).turned ht6 (Nat.ne_of_gt hgl5)))
               | skip
               have hgl6 := HD6.out.cur.lt
               clear hc6 ht6)
            | (go_at_call 17
               first
               | refine (put_dev _ _ _ S L x _ _ _ (by with_reducible exact HD6.out.ownT) (by with_reducible exact HD6.out.ownS) HLn.out).mono ?_
               | refine (put_dev _ _ _ S L x _ _ _ (by with_reducible exact (HD6.out.alloc _).ownT) (by with_reducible exact (HD6.out.alloc _).ownS) HLn.out).mono ?_
               rintro e w7 ⟨R, b5, k5, d5, b6, k6, d6, rfl, ht7, ho7, hR7, hb7⟩
               have HR7 := hide hR7
               have HD7 : Hid (DS B g a cap bs w w.heap.size g3 (.slice a1 n1 e1) S (.slice a2 n2 e2) L x c6 w7) := by
                 first
                 | with_reducible exact hide (HD6.out.below hb7)
                 | with_reducible exact hide ((HD6.out.alloc _).below hb7)
               have HT7 := hide ht7
               have HO7 := hide ho7
               first
               | (have Z7 : Hid (BoxB 27 w7 wr.heap.size (.slice none 0 0) (.slice none 0 0) (.int .i64 0)) := by with_reducible exact hide (Z6.out.below hb7 Z6.out.lt)
                  have F7 : Hid (Fresh w w.heap.size g3 wr.heap.size) := hide HD.out.fresh
                  have Q7 := hide Z6.out.lt
                  obtain ⟨q0, q1, q2⟩ := Z7.out.cells
                  obtain ⟨r0, r1, r2⟩ := Z7.out.frozen)
               | (have Z7 : Hid (BoxB 27 w7 w5.heap.size (.slice none 0 0) (.slice none 0 0) (.int .i64 0)) := by with_reducible exact hide (Z6.out.below hb7 Z6.out.lt)
                  have F7 : Hid (Fresh w w.heap.size g3 w5.heap.size) := hide HD5.out.fresh
                  have Q7 := hide Z6.out.lt
                  obtain ⟨q0, q1, q2⟩ := Z7.out.cells
                  obtain ⟨r0, r1, r2⟩ := Z7.out.frozen)
               | (have Z7 : Hid (BoxB 27 w7 w6.heap.size (.slice none 0 0) (.slice none 0 0) (.int .i64 0)) := by with_reducible exact hide ((BoxB.new _ w6 _ _ _).below hb7 (BoxB.new _ w6 _ _ _).lt)
                  have F7 : Hid (Fresh w w.heap.size g3 w6.heap.size) := hide HD6.out.fresh
                  have Q7 := hide (BoxB.new 27 w6 (.slice none 0 0) (.slice none 0 0) (.int .i64 0)).lt
                  obtain ⟨q0, q1, q2⟩ := Z7.out.cells
                  obtain ⟨r0, r1, r2⟩ := Z7.out.frozen)
               | (have F6 := hide HD6.out.fresh)
               clear ht7 ho7 hR7 hb7))
        all_goals go_wp2_with fail
        all_goals go_meet
        all_goals first
          | with_reducible exact KeptA.early HD7.out HT7.out HO7.out Z7.out Q7.out F7.out HR7.out
          | with_reducible exact KeptA.late HD7.out HT7.out HO7.out F6.out HR7.out
      case rest =>
        obtain ⟨g5, R, b5, k5, d5, b6, k6, d6, c5, rfl, rfl, HZ, HTt, HO, HR, HDF, HGE⟩ := hcut
        obtain ⟨q0, q1, q2⟩ := HZ.out.cells
        obtain ⟨y0, y1, y2⟩ := HDF.out.dev.cells
        obtain ⟨z0, z1, z2⟩ := HDF.out.dev.frozen
        cases hok : R.ok with
        | true =>
          have HD7 := hide (HDF.out.take3 (x' := R.x) HTt.out HO.out)
          have HL7 := hide (show R.S.length ≤ 16 ∧ R.L.length ≤ 20 from ⟨HR.out.1, HR.out.2 hok⟩)
          go_wp2_with fail
          refine (l1Once_any 6 (by omega) HD7.out.cur).mono ?_
          rintro e w8 ⟨rfl, hc8, ht8⟩
          have HD8 := hide (HD7.out.turn hc8 ht8)
          clear hc8 ht8
          generalize aBelow bs 6 c5 = c8 at *
          generalize (cBelow bs 6 c5 == 0) = t8
          cases t8 with
          | false =>
            go_wp2_with fail
            go_roundw
            case rel => exact ⟨j - 1, c8, _, _, _, _, _, _, _, _, _, by go_num, by omega, HD8, HL7⟩
            case measure => simp [intOf]; omega
          | true =>
            obtain ⟨i0, i1, i2⟩ := HD8.out.dev.cells
            go_wp2_with fail
            refine (flush_dev _ _ _ R.S R.L R.x _ HD8.out.ownT HD8.out.ownS HL7.out).mono ?_
            rintro e w9 ⟨Q, b7, k7, d7, b8, k8, d8, rfl, ht9, ho9, hQ9, hb9⟩
            have HQ9 := hide hQ9
            have HD9 := hide (HD8.out.below hb9)
            have h8s := HD8.out.turned.size
            have HD11 := hide ((HD9.out.take3 (x' := Q.x) (ht9.mono h8s) (ho9.mono h8s)).alloc (.cells #[.slice b7 k7 d7, .slice b8 k8 d8, .int .i64 Q.x] 27))
            clear ht9 ho9 hQ9 hb9 HD8 i0 i1 i2
            obtain ⟨i0, i1, i2⟩ := HD9.out.dev.cells
            obtain ⟨l0, l1, l2⟩ := HD9.out.dev.frozen
            have hl9 := HD9.out.dev.lt
            go_wp2_with fail
            go_roundw
            case rel => exact ⟨j - 1, c8, _, _, _, _, _, _, _, _, _, by go_num, by omega, HD11, HQ9⟩
            case measure => simp [intOf]; omega
        | false =>
          go_wp2_with fail
          refine (l1Once_any 6 (by omega) HDF.out.cur).mono ?_
          rintro e w8 ⟨rfl, hc8, ht8⟩
          have HD8 := hide (HDF.out.turn hc8 ht8)
          clear hc8 ht8
          generalize aBelow bs 6 c5 = c8 at *
          generalize (cBelow bs 6 c5 == 0) = t8
          cases t8 with
          | false =>
            go_wp2_with fail
            go_roundw
            case rel => exact ⟨j - 1, c8, _, _, _, _, _, _, _, _, _, by go_num, by omega, HD8, HLn⟩
            case measure => simp [intOf]; omega
          | true =>
            obtain ⟨i0, i1, i2⟩ := HD8.out.dev.cells
            go_wp2_with fail
            refine (flush_dev _ _ _ S L x _ HD8.out.ownT HD8.out.ownS HLn.out).mono ?_
            rintro e w9 ⟨Q, b7, k7, d7, b8, k8, d8, rfl, ht9, ho9, hQ9, hb9⟩
            have HQ9 := hide hQ9
            have HD9 := hide (HD8.out.below hb9)
            have h8s := HD8.out.turned.size
            have HD11 := hide ((HD9.out.take3 (x' := Q.x) (ht9.mono h8s) (ho9.mono h8s)).alloc (.cells #[.slice b7 k7 d7, .slice b8 k8 d8, .int .i64 Q.x] 27))
            clear ht9 ho9 hQ9 hb9 HD8 i0 i1 i2
            obtain ⟨i0, i1, i2⟩ := HD9.out.dev.cells
            obtain ⟨l0, l1, l2⟩ := HD9.out.dev.frozen
            have hl9 := HD9.out.dev.lt
            go_wp2_with fail
            go_roundw
            case rel => exact ⟨j - 1, c8, _, _, _, _, _, _, _, _, _, by go_num, by omega, HD11, HQ9⟩
            case measure => simp [intOf]; omega
    · have hj1 : j = 0 := by omega
      subst hj1
      clear hj0 hj
      go_wp2_with fail
      refine (l1Once_any 10 (by omega) HD.out.cur).mono ?_
      rintro e w4 ⟨rfl, hc4, ht4⟩
      have HD4 := hide (HD.out.turn hc4 ht4)
      clear hc4 ht4 HD
      generalize aBelow bs 10 c4 = c8 at *
      generalize (cBelow bs 10 c4 == 0) = t4
      go_upto_if 41 with (fail)
      go_cut [9] from 42 (fun _ wF => ∃ (c' : Cu) (a1 : Option Addr) (n1 e1 : Nat) (S : List ByteArray) (a2 : Option Addr) (n2 e2 : Nat) (L : List Slot) (x : Int), Hid (DS B g a cap bs w w.heap.size g3 (.slice a1 n1 e1) S (.slice a2 n2 e2) L x c' wF) ∧ Hid (S.length ≤ 16 ∧ L.length ≤ 22))
      case first =>
        have HLn2 := hide (show S.length ≤ 16 ∧ L.length ≤ 22 from ⟨HLn.out.1, by have := HLn.out.2; omega⟩)
        cases t4 with
        | false =>
          go_wp2_with fail
          go_meet
          exact ⟨c8, a1, n1, e1, S, a2, n2, e2, L, x, HD4, HLn2⟩
        | true =>
          go_wp2_with fail
          refine (l1Below_any 4 (by omega) HD4.out.cur).mono ?_
          rintro e w5 ⟨rfl, hc5, ht5⟩
          have HD5 := hide (HD4.out.turn hc5 ht5)
          have hb5 := cBelow_bd bs 4 c8 (by omega)
          clear hc5 ht5 HD4
          generalize aBelow bs 4 c8 = c5 at *
          generalize cBelow bs 4 c8 = p5 at *
          have hp : p5 = 0 ∨ p5 = 1 ∨ p5 = 2 ∨ p5 = 3 := by omega
          clear hb5
          obtain ⟨y0, y1, y2⟩ := HD5.out.dev.cells
          obtain ⟨z0, z1, z2⟩ := HD5.out.dev.frozen
          rcases hp with rfl | rfl | rfl | rfl
          · have hgl5 := HD5.out.cur.lt
            go_wp2_with fail
            refine (l1PickInt_any (c := c5) w5.heap.size 3 [-1, 1000000, 1000001] (by omega) (by omega) (by simp) (by omega) (fun j hj => ints_new 3 w5 [-1, 1000000, 1000001] j hj) (HD5.out.alloc _).cur).mono ?_
            rintro e w6 ⟨rfl, hc6, ht6⟩
            have HD6 := hide ((HD5.out.alloc _).turn hc6 ht6)
            clear hc6 ht6 y0 y1 y2 z0 z1 z2
            obtain ⟨y0, y1, y2⟩ := HD6.out.dev.cells
            obtain ⟨z0, z1, z2⟩ := HD6.out.dev.frozen
            go_wp2_with fail
            go_meet
            exact ⟨_, a1, n1, e1, S, a2, n2, e2, L, _, hide (HD6.out.set (HD6.out.dev.set2 _) HD6.out.ownT HD6.out.ownS), HLn2⟩
          · have HL5 := hide (show S.length ≤ 16 ∧ (L ++ [((0 : Int), zeroT)]).length ≤ 22 from ⟨HLn.out.1, by have := HLn.out.2; simp; omega⟩)
            go_upto_region 17 with (fail)
            go_region_law
              (first
                | (go_simp
                   go_at_call 29
                   refine (l1Below_any 8 (by omega) (c := c5) (by first | with_reducible exact HD5.out.drew.cur | with_reducible exact HD5.out.cur | exact HD5.out.drew.cur)).mono ?_
                   rintro e w6 ⟨rfl, hc6, ht6⟩
                   generalize aBelow bs 8 c5 = c6 at *
                   generalize cBelow bs 8 c5 = t6 at *
                   have HD6 := hide (HD5.out.drew.turn hc6 ht6)
                   clear y0 y1 y2 z0 z1 z2
                   obtain ⟨y0, y1, y2⟩ := HD6.out.dev.cells
                   have hl6 := HD6.out.dev.lt
                   clear hc6 ht6)
                | ((refine step_appendG rfl (.tmp 55) (.tmp 60) rfl w.heap.size (w6.alloc (.cells #[.int .i64 (IntKind.i64.wrap (t6 - 1)), .string ⟨#[]⟩] 36)) (w6.alloc (.cells #[.int .i64 (IntKind.i64.wrap (t6 - 1)), .string ⟨#[]⟩] 36)) (.slice a2 n2 e2) ⟨w6.heap.size, 0, none⟩ 1 L [(IntKind.i64.wrap (t6 - 1), ⟨#[]⟩)] rfl rfl (hide (HD6.out.alloc _).ownS) (lit1_cells w6 (IntKind.i64.wrap (t6 - 1)) _) (hide (Below.refl _ _)) (HD6.out.alloc _).turned.size (L ++ [(IntKind.i64.wrap (t6 - 1), ⟨#[]⟩)]) (L.length + 1) rfl (by simp) (by have := HLn.out; omega) ?_)
                   intro a8 e8 w8 HO8 HB8 hsz8 HN8
                   have Y8 := hide ((HD6.out.alloc _).app_dev HN8.out)
                   obtain ⟨y0, y1, y2⟩ := Y8.out.cells
                   obtain ⟨z0, z1, z2⟩ := Y8.out.frozen))
            all_goals go_wp2_with fail
            all_goals go_meet
            all_goals exact ⟨c6, a1, n1, e1, S, a8, _, e8, _, x, hide ((HD6.out.alloc _).app HN8.out HB8.out HO8.out), hide (by have := HL5.out; simpa using this)⟩
          · go_wp2_with fail
            refine (l1Below_any 3 (by omega) HD5.out.cur).mono ?_
            rintro e w6 ⟨rfl, hc6, ht6⟩
            have HD6 := hide (HD5.out.turn hc6 ht6)
            have hb6 := cBelow_bd bs 3 c5 (by omega)
            clear hc6 ht6 y0 y1 y2 z0 z1 z2
            generalize aBelow bs 3 c5 = c6 at *
            obtain ⟨m6, hm6⟩ : ∃ m6 : Nat, cBelow bs 3 c5 = (m6 : Int) := ⟨(cBelow bs 3 c5).toNat, by omega⟩
            rw [hm6] at hb6 ⊢
            clear hm6
            go_wp2_with fail
            go_loopw [] (fun wr => ∃ (b2 : Option Addr) (k2 f2 : Nat) (M : List Slot), Hid (DS B g a cap bs w w.heap.size g3 (.slice a1 n1 e1) S (.slice b2 k2 f2) M x c6 wr) ∧ Hid (S.length ≤ 16 ∧ M.length ≤ 22 ∧ M.length = k2)) (fun wr => 22 - lenAt wr g3)
            case atStart => exact ⟨a2, n2, e2, L, HD6, hide ⟨HLn2.out.1, HLn2.out.2, HD6.out.ownS.len⟩⟩
            case round =>
              clear HD6
              obtain ⟨b2, k2, f2, M, HD6, HM⟩ := hrel
              obtain ⟨y0, y1, y2⟩ := HD6.out.dev.cells
              obtain ⟨z0, z1, z2⟩ := HD6.out.dev.frozen
              by_cases hk : k2 < 19 + m6
              · have hl6 := HD6.out.dev.lt
                have hml := HM.out.2.2
                have P1 := fun o => hide (HD6.out.alloc o).ownS
                have P2 : Hid (OwnsS 0 (wr.alloc (.cells #[.int .i64 0, .string ⟨#[]⟩] 36)) (.slice (some ⟨wr.heap.size, 0, none⟩) 1 1) [(0, ⟨#[]⟩)]) := hide (OwnsS.lit1 0 wr 0 ⟨#[]⟩ (Nat.zero_le _))
                have P3 := fun o => (HD6.out.alloc o).turned.size
                have P7 : ∀ k, (Value.slice b2 k2 f2).ownBlock = some k → w.heap.size ≤ k := fun k e => (HD6.out.ownS.lt k e).1
                have P8 : ∀ o w8, Hid (Only (Value.slice b2 k2 f2).ownBlock (wr.alloc o) w8) → Hid (BoxB 27 w8 g3 (.slice a1 n1 e1) (.slice b2 k2 f2) (.int .i64 x)) ∧ Hid (Below w.heap.size (wr.alloc o) w8) := fun o w8 HN8 => ⟨hide ((HD6.out.alloc o).app_dev HN8.out), hide (HN8.out.below P7 (P3 o))⟩
                have P9 : ∀ o a8 e8 w8, Hid (Only (Value.slice b2 k2 f2).ownBlock (wr.alloc o) w8) → Hid (OwnsS w.heap.size w8 (.slice a8 (k2 + 1) e8) (M ++ [(0, ⟨#[]⟩)])) → Hid (DS B g a cap bs w w.heap.size g3 (.slice a1 n1 e1) S (.slice a8 (k2 + 1) e8) (M ++ [(0, ⟨#[]⟩)]) x c6 (w8.setCell ⟨g3, 1, none⟩ (.slice a8 (k2 + 1) e8))) := fun o a8 e8 w8 HN8 HO8 => hide ((HD6.out.alloc o).app HN8.out (HN8.out.below P7 (P3 o)) HO8.out)
                have hlM := hide (show (M ++ [((0 : Int), (⟨#[]⟩ : ByteArray))]).length = k2 + 1 by simp [hml])
                have hmu := hide (lenAt_of y1)
                clear hml
                go_wp2_with (at_builtin; go_loud ((refine appendO rfl (.tmp 74) (.tmp 76) rfl w.heap.size 0 _ _ _ M [(0, ⟨#[]⟩)] rfl rfl (P1 _) P2 (P3 _) (M ++ [(0, ⟨#[]⟩)]) (k2 + 1) rfl hlM.out (by omega) ?_); intro a8 e8 w8 HO8 HN8; obtain ⟨HZ8, HB8⟩ := P8 _ _ HN8; have HD8 := P9 _ _ _ _ HN8 HO8; clear HN8 HO8 P1 P2 P8 P9 y0 y1 y2 z0 z1 z2; obtain ⟨y0, y1, y2⟩ := HZ8.out.cells; obtain ⟨z0, z1, z2⟩ := HZ8.out.frozen))
                go_roundw
                case rel => exact ⟨a8, k2 + 1, e8, _, HD8, hide ⟨HM.out.1, by rw [hlM.out]; omega, hlM.out⟩⟩
                case measure =>
                  have h1 := lenAt_of HD8.out.dev.cells.2.1
                  rw [h1, hmu.out]
                  omega
              · go_wp2_with fail
                go_meet
                exact ⟨c6, a1, n1, e1, S, b2, k2, f2, M, x, HD6, hide ⟨HM.out.1, HM.out.2.1⟩⟩
          · have hl5 := HD5.out.dev.lt
            have HT9 := hide (OwnsT.lit0 w.heap.size w5 HD5.out.turned.size)
            have HD9 := hide ((HD5.out.alloc (.cells #[] 9)).set (v' := .slice (some ⟨w5.heap.size, 0, none⟩) 0 0) (S' := []) ((HD5.out.alloc _).dev.set0 _) HT9.out (HD5.out.alloc _).ownS)
            rw [World.setCell_alloc_past _ _ _ _ hl5] at HD9
            go_wp2_with fail
            go_meet
            exact ⟨c5, _, _, _, [], a2, n2, e2, L, x, HD9, hide ⟨Nat.zero_le _, HLn2.out.2⟩⟩
      case rest =>
        clear HLn HD4
        obtain ⟨c4, a1, n1, e1, S, a2, n2, e2, L, x, HD, HLn⟩ := hcut
        obtain ⟨y0, y1, y2⟩ := HD.out.dev.cells
        obtain ⟨q0, q1, q2⟩ := HD.out.res.cells
        obtain ⟨r0, r1, r2⟩ := HD.out.res.frozen
        go_wp2_with fail
        refine bodyPost_ret (res_dev rfl _ _ w.heap.size rfl (((HD.out.res.set0 _).set1 _).set2 _)) rfl ?_
        obtain ⟨d1, d2, d3, d4⟩ := HD.out.done (.slice a1 n1 e1) (.slice a2 n2 e2) (.int .i64 x)
        exact ⟨c4, a1, n1, e1, S, a2, n2, e2, L, x, rfl, d1, d2, HLn.out.1, HLn.out.2, d3, d4⟩
end Go.Proofs.Ytnbaffdonbnocaa
