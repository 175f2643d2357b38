/-
  Contract of spec.l4Some: a device is drawn.
-/
import Derived.Test.YtpgbjbhoefjodaaDoorDrawF
import Derived.Test.YtpgbjbhoefjodaaDoorDrawT
import Derived.Deep.RegionHeld3
import Derived.Deep.DeepCutAuto
namespace Go.Proofs.YtpgbjbhoefjodaaDoor
open Go.ChangeShapes Go.WideShapes Go.ChangeAt Go.RowKit

def SomePost (B g : Nat) (a : Option Addr) (cap : Nat) (bs : List Int) (w : World) (e : Ending) (w' : World) : Prop :=
  ∃ (c' : Cu) (m : ByteArray) (a' : Option Addr) (n' cp : Nat) (L : List Slot) (x : Int), e = .returned (.agg #[.string m, .slice a' n' cp, .int .i64 x]) ∧ OwnsS w.heap.size w' (.slice a' n' cp) L ∧ L.length ≤ 5 ∧ Cursor B g a cap bs w' c' ∧ Turned g w w'
set_option maxHeartbeats 4000000 in
set_option maxRecDepth 100000 in
theorem l4Some_any {B g : Nat} {a : Option Addr} {cap : Nat} {bs : List Int} {w : World} {c : Cu} (h : Cursor B g a cap bs w c) :
    Calls Tryd.prog 33 #[.pointer (some ⟨g, 0, none⟩)] w (SomePost B g a cap bs w) := by
  have H := hide h
  have hlt := h.lt
  clear h
  go_enter Tryd.func33, Tryd.ntmps33
  go_wp2_with fail
  refine (l3Key_any (H.out.keep ((Below.refl _ _).alloc hlt _))).mono ?_
  rintro e w1 ⟨rfl, hc1, ht1⟩
  have HY1 := hide ((BoxB.new 31 w (.string ⟨#[]⟩) (.slice none 0 0) (.int .i64 0)).turned ht1 (by omega))
  have HT1 := hide (((Turned.refl g w).alloc (.cells #[.string ⟨#[]⟩, .slice none 0 0, .int .i64 0] 31)).trans ht1)
  have HC1 := hide hc1
  clear hc1 ht1
  generalize cKey bs c = key at *
  generalize aKey bs c = c1 at *
  have hy1 := HY1.out.lt
  obtain ⟨W2, hW2⟩ : ∃ W2, W2 = w1.alloc (.cells #[.string ⟨key.toArray⟩, .slice none 0 0, .int .i64 0] 31) := ⟨_, rfl⟩
  have HD2 := hide (show DS B g a cap bs w w.heap.size w1.heap.size ⟨key.toArray⟩ (.slice none 0 0) [] 0 c1 W2 from hW2 ▸
    ⟨HC1.out.keep ((Below.refl _ _).alloc HC1.out.lt _), HT1.out.alloc _, HY1.out.alloc _, BoxB.new _ w1 _ _ _, OwnsS.nil _ _, hlt, Nat.le_refl _, hy1, fun k e => by cases e⟩)
  have hg3 : w.heap.size < w1.heap.size := hy1
  go_wp2_with fail
  rw [← hW2]
  clear hW2 HY1 HT1 HC1 H
  refine (l1Below_any 5 (by omega) HD2.out.cur).mono ?_
  rintro e w3 ⟨rfl, hc3, ht3⟩
  have HD3 := hide (HD2.out.turn hc3 ht3)
  have hn0 := cBelow_bd bs 5 c1 (by omega)
  clear hc3 ht3 HD2
  generalize aBelow bs 5 c1 = c3 at *
  obtain ⟨n0, hn0'⟩ : ∃ n0 : Nat, cBelow bs 5 c1 = (n0 : Int) := ⟨(cBelow bs 5 c1).toNat, by omega⟩
  rw [hn0'] at hn0 ⊢
  clear hn0'
  go_wp2_with fail
  go_loopw [4, 5, 6] (fun i _ _ wr => ∃ (j : Nat) (c' : Cu) (m : ByteArray) (a' : Option Addr) (n' cp : Nat) (L : List Slot) (x : Int), i = .int .i64 j ∧ j ≤ 4 ∧ Hid (DS B g a cap bs w w.heap.size w1.heap.size m (.slice a' n' cp) L x c' wr) ∧ Hid (L.length ≤ 4)) (fun i _ _ _ => (intOf i).toNat)
  case atStart => exact ⟨n0, c3, _, none, 0, 0, [], 0, rfl, by omega, HD3, hide (Nat.zero_le _)⟩
  case round =>
    obtain ⟨j, c4, m, a', n', cp, L, x, rfl, hj, HD, HLn⟩ := hrel
    clear HD3
    by_cases hj0 : 0 < j
    · have hgl := HD.out.cur.lt
      have hg3l := HD.out.dev.lt
      go_upto_region 5 with (fail)
      go_cut [5, 6] from 18 to 29 (fun s5 s6 wF => KeptA B g a cap bs w w.heap.size w1.heap.size m (.slice a' n' cp) L x s5 s6 wF)
      case first =>
        go_region_held3 (fun w' => w'.cell? ⟨w1.heap.size, 0, none⟩ = some (.string m) ∧ w'.cell? ⟨w1.heap.size, 1, none⟩ = some (.slice a' n' cp) ∧ w'.cell? ⟨w1.heap.size, 2, none⟩ = some (.int .i64 x))
          (first
            | with_reducible exact HD.out.dev.cells
            | with_reducible exact HD.out.dev.drew.cells
            | with_reducible exact (HD.out.dev.alloc _).drew.cells
            | with_reducible exact HD5.out.dev.cells
            | with_reducible exact (HD5.out.dev.alloc _).cells
            | with_reducible exact HD6.out.dev.cells
            | with_reducible exact (HD6.out.dev.alloc _).cells
            | with_reducible exact HD7.out.dev.cells
            | with_reducible exact (HD7.out.dev.alloc _).cells
            | with_reducible exact (((HD7.out.put F7.out _ _).put F7.out _ _).put F7.out _ _).dev.cells)
          (first
            | (go_at_call 24
               first
               | refine (l1Below_any 6 (by omega) (c := c4) (by with_reducible exact HD.out.drew.cur)).mono ?_
               | refine (l1Below_any 6 (by omega) (c := c4) (by with_reducible exact (HD.out.alloc _).drew.cur)).mono ?_
               rintro e w5 ⟨rfl, hc5, ht5⟩
               generalize aBelow bs 6 c4 = c5 at *
               generalize cBelow bs 6 c4 = t5 at *
               have HD5 : Hid (DS B g a cap bs w w.heap.size w1.heap.size m (.slice a' n' cp) L x c5 w5) := by
                 first
                 | with_reducible exact hide (HD.out.drew.turn hc5 ht5)
                 | with_reducible exact hide ((HD.out.alloc _).drew.turn hc5 ht5)
               (try have Z5 : Hid (BoxB 31 w5 wr.heap.size (.string ⟨#[]⟩) (.slice none 0 0) (.int .i64 0)) := by with_reducible exact hide ((BoxB.new _ wr _ _ _).drew.turned ht5 (Nat.ne_of_gt hgl)))
               have hgl5 := HD5.out.cur.lt
               clear hc5 ht5)
            | (go_at_call 23
               first
               | refine (l3Key_any (c := c5) (by with_reducible exact HD5.out.cur)).mono ?_
               | refine (l3Key_any (c := c5) (by with_reducible exact (HD5.out.alloc _).cur)).mono ?_
               rintro e w6 ⟨rfl, hc6, ht6⟩
               generalize aKey bs c5 = c6 at *
               generalize cKey bs c5 = key6 at *
               have HD6 : Hid (DS B g a cap bs w w.heap.size w1.heap.size m (.slice a' n' cp) L x c6 w6) := by
                 first
                 | with_reducible exact hide (HD5.out.turn hc6 ht6)
                 | with_reducible exact hide ((HD5.out.alloc _).turn hc6 ht6)
               first
               | (have Z6 : Hid (BoxB 31 w6 wr.heap.size (.string ⟨#[]⟩) (.slice none 0 0) (.int .i64 0)) := by with_reducible exact hide (Z5.out.turned ht6 (Nat.ne_of_gt hgl)))
               | (have Z6 : Hid (BoxB 31 w6 w5.heap.size (.string ⟨#[]⟩) (.slice none 0 0) (.int .i64 0)) := by with_reducible exact hide ((BoxB.new _ w5 _ _ _).turned ht6 (Nat.ne_of_gt hgl5)))
               | skip
               have hgl6 := HD6.out.cur.lt
               clear hc6 ht6)
            | (go_at_call 16
               first
               | refine (add_dev _ m _ L x _ _ _ (by with_reducible exact HD6.out.own) HLn.out).mono ?_
               | refine (add_dev _ m _ L x _ _ _ (by with_reducible exact (HD6.out.alloc _).own) HLn.out).mono ?_
               rintro e w7 ⟨R, a5, n5, e5, rfl, ho7, hR7, hb7⟩
               have HR7 := hide hR7
               have HD7 : Hid (DS B g a cap bs w w.heap.size w1.heap.size m (.slice a' n' cp) L x c6 w7) := by
                 first
                 | with_reducible exact hide (HD6.out.below hb7)
                 | with_reducible exact hide ((HD6.out.alloc _).below hb7)
               have HO7 := hide ho7
               first
               | (have Z7 : Hid (BoxB 31 w7 wr.heap.size (.string ⟨#[]⟩) (.slice none 0 0) (.int .i64 0)) := by with_reducible exact hide (Z6.out.below hb7 Z6.out.lt)
                  have F7 : Hid (Fresh w w.heap.size w1.heap.size (.slice a' n' cp) wr.heap.size) := hide HD.out.fresh
                  have Q7 := hide Z6.out.lt
                  obtain ⟨q0, q1, q2⟩ := Z7.out.cells
                  obtain ⟨r0, r1, r2⟩ := Z7.out.frozen)
               | (have Z7 : Hid (BoxB 31 w7 w5.heap.size (.string ⟨#[]⟩) (.slice none 0 0) (.int .i64 0)) := by with_reducible exact hide (Z6.out.below hb7 Z6.out.lt)
                  have F7 : Hid (Fresh w w.heap.size w1.heap.size (.slice a' n' cp) w5.heap.size) := hide HD5.out.fresh
                  have Q7 := hide Z6.out.lt
                  obtain ⟨q0, q1, q2⟩ := Z7.out.cells
                  obtain ⟨r0, r1, r2⟩ := Z7.out.frozen)
               | (have Z7 : Hid (BoxB 31 w7 w6.heap.size (.string ⟨#[]⟩) (.slice none 0 0) (.int .i64 0)) := by with_reducible exact hide ((BoxB.new _ w6 _ _ _).below hb7 (BoxB.new _ w6 _ _ _).lt)
                  have F7 : Hid (Fresh w w.heap.size w1.heap.size (.slice a' n' cp) w6.heap.size) := hide HD6.out.fresh
                  have Q7 := hide (BoxB.new 31 w6 (.string ⟨#[]⟩) (.slice none 0 0) (.int .i64 0)).lt
                  obtain ⟨q0, q1, q2⟩ := Z7.out.cells
                  obtain ⟨r0, r1, r2⟩ := Z7.out.frozen)
               | (have F6 := hide HD6.out.fresh)
               clear ho7 hR7 hb7))
        all_goals go_wp2_with fail
        all_goals go_meet
        all_goals first
          | with_reducible exact KeptA.early HD7.out HO7.out Z7.out Q7.out F7.out HR7.out
          | with_reducible exact KeptA.late HD7.out HO7.out F6.out HR7.out
      case rest =>
        obtain ⟨g5, R, a5, n5, e5, c5, rfl, rfl, HZ, HO, HR, HDF, HNE, HGE⟩ := hcut
        obtain ⟨q0, q1, q2⟩ := HZ.out.cells
        obtain ⟨y0, y1, y2⟩ := HDF.out.dev.cells
        obtain ⟨z0, z1, z2⟩ := HDF.out.dev.frozen
        cases hok : R.ok with
        | true =>
          have HD7 := hide (HDF.out.take3 (m' := R.m) (x' := R.x) HO.out HNE.out)
          go_wp2_with fail
          go_roundw
          case rel => exact ⟨j - 1, c5, _, a5, n5, e5, _, _, by go_num, by omega, HD7, hide (HR.out hok)⟩
          case measure => simp [intOf]; omega
        | false =>
          go_wp2_with fail
          go_roundw
          case rel => exact ⟨j - 1, c5, _, a', n', cp, _, _, by go_num, by omega, HDF, HLn⟩
          case measure => simp [intOf]; omega
    · have hj1 : j = 0 := by omega
      subst hj1
      clear hj0 hj
      go_wp2_with fail
      refine (l1Once_any 3 (by omega) HD.out.cur).mono ?_
      rintro e w4 ⟨rfl, hc4, ht4⟩
      have HD4 := hide (HD.out.turn hc4 ht4)
      have hgl4 := HD4.out.cur.lt
      clear hc4 ht4 HD
      generalize aBelow bs 3 c4 = c8 at *
      generalize (cBelow bs 3 c4 == 0) = t4
      go_upto_if 31 with (fail)
      go_cut [7, 8] from 32 (fun _ _ wF => ∃ (c' : Cu) (m : ByteArray) (a' : Option Addr) (n' cp : Nat) (L : List Slot) (x : Int), Hid (DS B g a cap bs w w.heap.size w1.heap.size m (.slice a' n' cp) L x c' wF) ∧ Hid (L.length ≤ 4))
      case first =>
        cases t4 with
        | false =>
          go_wp2_with fail
          go_meet
          exact ⟨c8, m, a', n', cp, L, x, HD4, HLn⟩
        | true =>
          go_upto_region 9 with (fail)
          go_cut [7, 8] from 32 (fun s7 s8 wF => KeptA B g a cap bs w w.heap.size w1.heap.size m (.slice a' n' cp) L x s7 s8 wF)
          case first =>
            go_region_held3 (fun w' => w'.cell? ⟨w1.heap.size, 0, none⟩ = some (.string m) ∧ w'.cell? ⟨w1.heap.size, 1, none⟩ = some (.slice a' n' cp) ∧ w'.cell? ⟨w1.heap.size, 2, none⟩ = some (.int .i64 x))
              (first
                | with_reducible exact HD4.out.dev.cells
                | with_reducible exact HD4.out.dev.drew.cells
                | with_reducible exact (HD4.out.dev.alloc _).drew.cells
                | with_reducible exact HD5.out.dev.cells
                | with_reducible exact (HD5.out.dev.alloc _).cells
                | with_reducible exact HD7.out.dev.cells
                | with_reducible exact (HD7.out.dev.alloc _).cells
                | with_reducible exact (((HD7.out.put F7.out _ _).put F7.out _ _).put F7.out _ _).dev.cells)
              (first
                | (go_at_call 24
                   first
                   | refine (l1Below_any 6 (by omega) (c := c8) (by with_reducible exact HD4.out.drew.cur)).mono ?_
                   | refine (l1Below_any 6 (by omega) (c := c8) (by with_reducible exact (HD4.out.alloc _).drew.cur)).mono ?_
                   rintro e w5 ⟨rfl, hc5, ht5⟩
                   generalize aBelow bs 6 c8 = c5 at *
                   generalize cBelow bs 6 c8 = t5 at *
                   have HD5 : Hid (DS B g a cap bs w w.heap.size w1.heap.size m (.slice a' n' cp) L x c5 w5) := by
                     first
                     | with_reducible exact hide (HD4.out.drew.turn hc5 ht5)
                     | with_reducible exact hide ((HD4.out.alloc _).drew.turn hc5 ht5)
                   (try have Z5 : Hid (BoxB 31 w5 w4.heap.size (.string ⟨#[]⟩) (.slice none 0 0) (.int .i64 0)) := by with_reducible exact hide ((BoxB.new _ w4 _ _ _).drew.turned ht5 (Nat.ne_of_gt hgl4)))
                   have hgl5 := HD5.out.cur.lt
                   clear hc5 ht5)
                | (go_at_call 13
                   first
                   | refine (wipe_dev _ m _ L x _ _ (by with_reducible exact HD5.out.own) HLn.out).mono ?_
                   | refine (wipe_dev _ m _ L x _ _ (by with_reducible exact (HD5.out.alloc _).own) HLn.out).mono ?_
                   rintro e w7 ⟨R, a5, n5, e5, rfl, ho7, hR7, hb7⟩
                   have HR7 := hide hR7
                   have HD7 : Hid (DS B g a cap bs w w.heap.size w1.heap.size m (.slice a' n' cp) L x c5 w7) := by
                     first
                     | with_reducible exact hide (HD5.out.below hb7)
                     | with_reducible exact hide ((HD5.out.alloc _).below hb7)
                   have HO7 := hide ho7
                   first
                   | (have Z7 : Hid (BoxB 31 w7 w4.heap.size (.string ⟨#[]⟩) (.slice none 0 0) (.int .i64 0)) := by with_reducible exact hide (Z5.out.below hb7 Z5.out.lt)
                      have F7 : Hid (Fresh w w.heap.size w1.heap.size (.slice a' n' cp) w4.heap.size) := hide HD4.out.fresh
                      have Q7 := hide Z5.out.lt
                      obtain ⟨q0, q1, q2⟩ := Z7.out.cells
                      obtain ⟨r0, r1, r2⟩ := Z7.out.frozen)
                   | (have Z7 : Hid (BoxB 31 w7 w5.heap.size (.string ⟨#[]⟩) (.slice none 0 0) (.int .i64 0)) := by with_reducible exact hide ((BoxB.new _ w5 _ _ _).below hb7 (BoxB.new _ w5 _ _ _).lt)
                      have F7 : Hid (Fresh w w.heap.size w1.heap.size (.slice a' n' cp) w5.heap.size) := hide HD5.out.fresh
                      have Q7 := hide (BoxB.new 31 w5 (.string ⟨#[]⟩) (.slice none 0 0) (.int .i64 0)).lt
                      obtain ⟨q0, q1, q2⟩ := Z7.out.cells
                      obtain ⟨r0, r1, r2⟩ := Z7.out.frozen)
                   | (have F5 := hide HD5.out.fresh)
                   clear ho7 hR7 hb7))
            all_goals go_wp2_with fail
            all_goals go_meet
            all_goals first
              | with_reducible exact KeptA.early HD7.out HO7.out Z7.out Q7.out F7.out HR7.out
              | with_reducible exact KeptA.late HD7.out HO7.out F5.out HR7.out
          case rest =>
            obtain ⟨g5, R, a5, n5, e5, c5, rfl, rfl, HZ, HO, HR, HDF, HNE, HGE⟩ := hcut
            obtain ⟨q0, q1, q2⟩ := HZ.out.cells
            obtain ⟨y0, y1, y2⟩ := HDF.out.dev.cells
            obtain ⟨z0, z1, z2⟩ := HDF.out.dev.frozen
            cases hok : R.ok with
            | true =>
              have HD7 := hide (HDF.out.take3 (m' := R.m) (x' := R.x) HO.out HNE.out)
              go_wp2_with fail
              go_meet
              exact ⟨c5, _, a5, n5, e5, _, _, HD7, hide (HR.out hok)⟩
            | false =>
              go_wp2_with fail
              go_meet
              exact ⟨c5, _, a', n', cp, _, _, HDF, HLn⟩
      case rest =>
        clear HLn HD4
        obtain ⟨c4, m, a', n', cp, L, x, HD, HLn⟩ := hcut
        go_wp2_with fail
        refine (l1Once_any 12 (by omega) HD.out.cur).mono ?_
        rintro e w4 ⟨rfl, hc4, ht4⟩
        have HD4 := hide (HD.out.turn hc4 ht4)
        clear hc4 ht4 HD
        generalize aBelow bs 12 c4 = c8 at *
        generalize (cBelow bs 12 c4 == 0) = t4
        go_upto_if 43 with (fail)
        go_cut [49, 55] from 44 (fun _ _ wF => ∃ (c' : Cu) (m : ByteArray) (a' : Option Addr) (n' cp : Nat) (L : List Slot) (x : Int), Hid (DS B g a cap bs w w.heap.size w1.heap.size m (.slice a' n' cp) L x c' wF) ∧ Hid (L.length ≤ 5))
        case first =>
          cases t4 with
          | false =>
            go_wp2_with fail
            go_meet
            exact ⟨c8, m, a', n', cp, L, x, HD4, hide (Nat.le_succ_of_le HLn.out)⟩
          | true =>
            go_wp2_with fail
            refine (l1Below_any 3 (by omega) HD4.out.cur).mono ?_
            rintro e w5 ⟨rfl, hc5, ht5⟩
            have HD5 := hide (HD4.out.turn hc5 ht5)
            have hb5 := cBelow_bd bs 3 c8 (by omega)
            clear hc5 ht5 HD4
            generalize aBelow bs 3 c8 = c5 at *
            generalize cBelow bs 3 c8 = p5 at *
            have hp : p5 = 0 ∨ p5 = 1 ∨ p5 = 2 := by omega
            clear hb5
            obtain ⟨y0, y1, y2⟩ := HD5.out.dev.cells
            obtain ⟨z0, z1, z2⟩ := HD5.out.dev.frozen
            rcases hp with rfl | rfl | rfl
            · have hgl5 := HD5.out.cur.lt
              go_wp2_with fail
              refine (l1PickInt_any (c := c5) w5.heap.size 3 [-1, 1000000, 1000001] (by omega) (by omega) (by simp) (by omega) (fun j hj => ints_new 3 w5 [-1, 1000000, 1000001] j hj) (HD5.out.alloc _).cur).mono ?_
              rintro e w6 ⟨rfl, hc6, ht6⟩
              have HD6 := hide ((HD5.out.alloc _).turn hc6 ht6)
              clear hc6 ht6 y0 y1 y2 z0 z1 z2
              obtain ⟨y0, y1, y2⟩ := HD6.out.dev.cells
              obtain ⟨z0, z1, z2⟩ := HD6.out.dev.frozen
              go_wp2_with fail
              go_meet
              exact ⟨_, m, a', n', cp, L, _, hide (HD6.out.set (HD6.out.dev.set2 _) HD6.out.own HD6.out.ne), hide (Nat.le_succ_of_le HLn.out)⟩
            · have HL5 := hide (Nat.succ_le_succ HLn.out)
              go_upto_region 18 with (fail)
              go_region_law
                (first
                  | (go_simp
                     go_at_call 24
                     refine (l1Below_any 8 (by omega) (c := c5) (by first | with_reducible exact HD5.out.drew.cur | with_reducible exact HD5.out.cur | exact HD5.out.drew.cur)).mono ?_
                     rintro e w6 ⟨rfl, hc6, ht6⟩
                     generalize aBelow bs 8 c5 = c6 at *
                     generalize cBelow bs 8 c5 = t6 at *
                     have HD6 := hide (HD5.out.drew.turn hc6 ht6)
                     clear y0 y1 y2 z0 z1 z2
                     obtain ⟨y0, y1, y2⟩ := HD6.out.dev.cells
                     clear hc6 ht6)
                  | (go_simp
                     go_at_call 23
                     refine (l3Key_any (c := c6) (by with_reducible exact HD6.out.cur)).mono ?_
                     rintro e w7 ⟨rfl, hc7, ht7⟩
                     generalize aKey bs c6 = c7 at *
                     generalize cKey bs c6 = key7 at *
                     have HD7 := hide (HD6.out.turn hc7 ht7)
                     have hl7 := HD7.out.dev.lt
                     clear y0 y1 y2
                     obtain ⟨y0, y1, y2⟩ := HD7.out.dev.cells
                     clear hc7 ht7)
                  | ((refine step_appendG rfl (.tmp 58) (.tmp 64) rfl w.heap.size (w7.alloc (.cells #[.int .i64 t6, .string ⟨key7.toArray⟩] 58)) (w7.alloc (.cells #[.int .i64 t6, .string ⟨key7.toArray⟩] 58)) (.slice a' n' cp) ⟨w7.heap.size, 0, none⟩ 1 L [(t6, ⟨key7.toArray⟩)] rfl rfl (hide (HD7.out.alloc _).own) (lit1_cells w7 t6 _) (hide (Below.refl _ _)) (HD7.out.alloc _).turned.size (L ++ [(t6, ⟨key7.toArray⟩)]) (L.length + 1) rfl (by simp) (by have := HLn.out; omega) ?_)
                     intro a8 e8 w8 HO8 HB8 hsz8 HN8
                     have Y8 := hide ((HD7.out.alloc _).app_dev HN8.out)
                     obtain ⟨y0, y1, y2⟩ := Y8.out.cells
                     obtain ⟨z0, z1, z2⟩ := Y8.out.frozen))
              all_goals go_wp2_with fail
              all_goals go_meet
              all_goals exact ⟨c7, m, a8, _, e8, _, x, hide ((HD7.out.alloc _).app HN8.out HB8.out HO8.out), hide (by simpa using HL5.out)⟩
            · go_wp2_with fail
              refine (l1Text_any 33 (by omega) (by omega) HD5.out.cur).mono ?_
              rintro e w6 ⟨rfl, hc6, ht6⟩
              have HD6 := hide (HD5.out.turn hc6 ht6)
              clear hc6 ht6 y0 y1 y2 z0 z1 z2
              generalize aText bs 33 c5 = c6 at *
              generalize cText bs 33 c5 = p6 at *
              obtain ⟨y0, y1, y2⟩ := HD6.out.dev.cells
              obtain ⟨z0, z1, z2⟩ := HD6.out.dev.frozen
              go_wp2_with fail
              go_meet
              exact ⟨c6, _, a', n', cp, L, x, hide (HD6.out.set (HD6.out.dev.set0 _) HD6.out.own HD6.out.ne), hide (Nat.le_succ_of_le HLn.out)⟩
        case rest =>
          clear HLn HD4
          obtain ⟨c4, m, a', n', cp, L, x, HD, HLn⟩ := hcut
          obtain ⟨y0, y1, y2⟩ := HD.out.dev.cells
          obtain ⟨q0, q1, q2⟩ := HD.out.res.cells
          obtain ⟨r0, r1, r2⟩ := HD.out.res.frozen
          go_wp2_with fail
          refine bodyPost_ret (res_dev rfl _ _ w.heap.size rfl (((HD.out.res.set0 _).set1 _).set2 _)) rfl ?_
          obtain ⟨d1, d2, d3⟩ := HD.out.done (.string m) (.slice a' n' cp) (.int .i64 x)
          exact ⟨c4, m, a', n', cp, L, x, rfl, d1, HLn.out, d2, d3⟩
end Go.Proofs.YtpgbjbhoefjodaaDoor
