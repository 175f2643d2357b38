/-
  Texts of this proof, put together: KeyW, KeyV.
-/
import Derived.Test.YtakjjfbocokpaaaDoorPackAA
import Derived.Test.YtakjjfbocokpaaaDoorPackAV
import Derived.Test.YtakjjfbocokpaaaDoorPackAX
import Derived.Deep.DeepCutAuto

/-
  Contracts of impl.KeyWipe and spec.KeyWipe.
-/
namespace Go.Proofs.YtakjjfbocokpaaaDoor
open Go.ChangeShapes Go.WideShapes Go.ChangeAt Go.RowKit
set_option maxRecDepth 20000

def DevBPost (w : World) (r : DevR) (e : Ending) (w' : World) : Prop :=
  ∃ v, e = .returned (.tuple #[.agg #[.string r.m, v, .int .i64 r.x], .bool r.ok]) ∧ OwnsS w.heap.size w' v r.L ∧ Below w.heap.size w w'

/-- behind the statement that makes the new device: its box g7, the result's box, its slots -/
def Kept7 (w w2 : World) (m : ByteArray) (E : List Slot) (x : Int) (s7 : Value) (wF : World) : Prop :=
  ∃ g7 a3 cap3 n3, s7 = .pointer (some ⟨g7, 0, none⟩) ∧ w.heap.size + 1 < g7 ∧ Hid (∀ k, (Value.slice a3 n3 cap3).ownBlock = some k → k ≠ g7) ∧ Hid (BoxB 31 wF g7 (.string m) (.slice a3 n3 cap3) (.int .i64 x)) ∧
    Hid (BoxB 31 wF (w.heap.size + 1) (.string ⟨#[]⟩) (.slice none 0 0) (.int .i64 0)) ∧ Hid (OwnsS w2.heap.size wF (.slice a3 n3 cap3) E) ∧ Hid (Below w2.heap.size w2 wF)

set_option maxHeartbeats 4000000 in
theorem iKeyWipe_any (B : Nat) (m : ByteArray) (v : Value) (L : List Slot) (x t : Int) (w : World) (hO : OwnsS B w v L) (hl : L.length ≤ 2097152) :
    Calls Tryd.prog 18 #[.agg #[.string m, v, .int .i64 x], .int .i64 t] w (DevBPost w (wipeV m L x t)) := by
  obtain ⟨a, cap, rfl, hrd, _⟩ := hO.form
  have HO := hide hO
  have HL := hide hl
  have HR := hide hrd
  obtain ⟨R, hR⟩ : ∃ R, R = wipeV m L x t := ⟨_, rfl⟩
  have HRR := hide hR
  rw [← hR]
  have HC := hide (fun W hr => iKeyOk_any m a cap L x W hr HL.out)
  have HF := hide (fun W hr => slotOf_any a cap L t W hr HL.out)
  obtain ⟨n, hn⟩ : ∃ n, L.length = n := ⟨_, rfl⟩
  have HN := hide hn
  rw [hn] at HO HC HF ⊢
  clear hl hO hn hrd hR
  obtain ⟨W, hW, hWs, hWb, hX, hY⟩ := two_boxes w (.string m) (.slice a n cap) (.int .i64 x)
  go_enter Tryd.func18, Tryd.ntmps18
  go_wp2_with fail
  rw [← hW]
  have HX := hide hX
  have HY := hide hY
  have HWb := hide hWb
  have HWs := hide hWs
  have HO1 := hide (HO.out.below hWb (Nat.le_refl _))
  have HR1 := hide ((HR.out.below hWb (Nat.le_refl _)).mono hWb.size)
  clear hW hX hY hWb hWs HO HR
  refine (HC.out _ HR1.out).mono ?_
  rintro e w1 ⟨rfl, hb1⟩
  have HX1 := hide (HX.out.below hb1 HX.out.lt)
  have HY1 := hide (HY.out.below hb1 HY.out.lt)
  have HO2 := hide (HO1.out.below hb1 (Nat.le_refl _))
  have HR2 := hide ((HR1.out.below hb1 (Nat.le_refl _)).mono hb1.size)
  have HB1 := hide hb1
  clear hb1 HC
  obtain ⟨c0, c1, c2⟩ := HX1.out.cells
  obtain ⟨y0, y1, y2⟩ := HY1.out.cells
  obtain ⟨z0, z1, z2⟩ := HY1.out.frozen
  cases hd : devOkB m L x with
  | false =>
    have HV := hide (HRR.out.trans (wipeV_bad hd))
    clear hd
    go_wp2_with fail
    refine bodyPost_ret (res_dev_tmp rfl _ _ (w.heap.size + 1) rfl (((HY1.out.set0 _).set1 _).set2 _)) rfl ?_
    rw [HV.out]
    exact ⟨_, rfl, OwnsS.nil _ _, HWb.out.trans ((((HB1.out.mono HWb.out.size).setCell (by simp) _).setCell (by simp) _).setCell (by simp) _)⟩
  | true =>
    have HD := hide hd
    clear hd
    go_wp2_with fail
    refine (HF.out _ HR2.out).mono ?_
    rintro e w2 ⟨rfl, hb2⟩
    have HX2 := hide (HX1.out.below hb2 HX1.out.lt)
    have HY2 := hide (HY1.out.below hb2 HY1.out.lt)
    have HO3 := hide (HO2.out.below hb2 (Nat.le_refl _))
    have HB2 := hide (HB1.out.trans (hb2.mono HB1.out.size))
    clear hb2 HF HX1 HY1 HO1 HO2 HR1 HR2 HB1 c0 c1 c2 y0 y1 y2 z0 z1 z2
    obtain ⟨c0, c1, c2⟩ := HX2.out.cells
    obtain ⟨y0, y1, y2⟩ := HY2.out.cells
    obtain ⟨z0, z1, z2⟩ := HY2.out.frozen
    have HCl := hide (fun W' (h : OwnsS B W' (.slice a n cap) L) => devClone_any B m (.slice a n cap) L x W' h HL.out)
    cases hi : slotIx L t with
    | none =>
      have HV := hide (HRR.out.trans (wipeV_none HD.out hi))
      have e1 : ixI none = -1 := rfl
      rw [e1]
      clear hi e1
      go_wp2_with fail
      refine (HCl.out _ HO3.out).mono ?_
      rintro e w3 ⟨v3, rfl, ho3, hb3⟩
      obtain ⟨a3, cap3, rfl, _⟩ := ho3.form
      have HY3 := hide (HY2.out.below hb3 HY2.out.lt)
      have HB3 := hide (HB2.out.trans (hb3.mono HB2.out.size))
      have HO4 := hide ho3
      have hlt := HY2.out.lt
      clear ho3 hb3 HX2 HY2 c0 c1 c2 y0 y1 y2 z0 z1 z2
      obtain ⟨y0, y1, y2⟩ := HY3.out.cells
      obtain ⟨z0, z1, z2⟩ := HY3.out.frozen
      go_wp2_with fail
      refine bodyPost_ret (res_dev_tmp rfl _ _ (w.heap.size + 1) rfl (((HY3.out.set0 _).set1 _).set2 _)) rfl ?_
      rw [HV.out]
      refine ⟨_, rfl, ?_, HWb.out.trans ((((HB3.out.mono HWb.out.size).setCell (by simp) _).setCell (by simp) _).setCell (by simp) _)⟩
      exact (((HO4.out.set_other hlt _).set_other hlt _).set_other hlt _).mono (Nat.le_trans HWb.out.size HB2.out.size)
    | some i =>
      have e1 : ixI (some i) = (i : Int) := rfl
      rw [e1]
      have hiL := (slotIx_of_some hi).1
      by_cases hx : x = 1000000
      · have HV := hide (HRR.out.trans (wipeV_full HD.out hx))
        have x1 : (x == 1000000) = true := by rw [beq_iff_eq]; exact hx
        clear hi e1 hx
        go_wp2_with fail
        refine (HCl.out _ HO3.out).mono ?_
        rintro e w3 ⟨v3, rfl, ho3, hb3⟩
        obtain ⟨a3, cap3, rfl, _⟩ := ho3.form
        have HY3 := hide (HY2.out.below hb3 HY2.out.lt)
        have HB3 := hide (HB2.out.trans (hb3.mono HB2.out.size))
        have HO4 := hide ho3
        have hlt := HY2.out.lt
        clear ho3 hb3 HX2 HY2 c0 c1 c2 y0 y1 y2 z0 z1 z2
        obtain ⟨y0, y1, y2⟩ := HY3.out.cells
        obtain ⟨z0, z1, z2⟩ := HY3.out.frozen
        go_wp2_with fail
        refine bodyPost_ret (res_dev_tmp rfl _ _ (w.heap.size + 1) rfl (((HY3.out.set0 _).set1 _).set2 _)) rfl ?_
        rw [HV.out]
        refine ⟨_, rfl, ?_, HWb.out.trans ((((HB3.out.mono HWb.out.size).setCell (by simp) _).setCell (by simp) _).setCell (by simp) _)⟩
        exact (((HO4.out.set_other hlt _).set_other hlt _).set_other hlt _).mono (Nat.le_trans HWb.out.size HB2.out.size)
      · have HV := hide (HRR.out.trans (wipeV_some HD.out hx hi))
        have hxb := (devOkB_iff.1 HD.out).2.2
        have hx1 : x < 1000000 := by omega
        have hx0 : 0 ≤ x := hxb.1
        have x1 : (x == 1000000) = false := by rw [beq_eq_false_iff_ne]; exact hx
        have HI := hide hiL
        clear hi e1 hx hxb hiL
        have hlt2 := HX2.out.lt
        have hly2 := HY2.out.lt
        go_upto_region 6 with (fail)
        go_cut [7] from 25 (fun s7 wF => Kept7 w w2 m (L.eraseIdx i) x s7 wF)
        case first =>
          go_region_held3 (fun w' => w'.cell? ⟨w.heap.size, 0, none⟩ = some (.string m) ∧ w'.cell? ⟨w.heap.size, 1, none⟩ = some (.slice a n cap) ∧ w'.cell? ⟨w.heap.size, 2, none⟩ = some (.int .i64 x))
            (first
              | with_reducible exact HX2.out.cells
              | with_reducible exact HX2.out.drew.cells
              | with_reducible exact (HX2.out.alloc _).drew.cells
              | with_reducible exact HX3.out.cells
              | with_reducible exact (HX3.out.alloc _).cells
              | with_reducible exact HX4.out.cells
              | with_reducible exact (HX4.out.alloc _).cells
              | with_reducible exact (((HX4.out.set_other (Nat.ne_of_gt hlt2) _).set_other (Nat.ne_of_gt hlt2) _).set_other (Nat.ne_of_gt hlt2) _).cells
              | with_reducible exact (((HX4.out.set_other (Nat.ne_of_gt hlt3) _).set_other (Nat.ne_of_gt hlt3) _).set_other (Nat.ne_of_gt hlt3) _).cells)
            (first
              | (go_at_call 61
                 refine (removeAt_any B _ L i _ ?_ HI.out HL.out).mono ?_
                 · first
                   | with_reducible exact HO3.out.drew
                   | with_reducible exact (HO3.out.alloc _).drew
                 rintro e w3 ⟨v3, rfl, ho3, hb3⟩
                 obtain ⟨a3, cap3, rfl, _⟩ := ho3.form
                 have hb3' := below_of_drew hb3
                 have HB3 : Hid (Below w2.heap.size w2 w3) := by
                   first
                   | with_reducible exact hide hb3'
                   | exact hide (((Below.refl _ _).alloc (Nat.le_refl _) _).trans (hb3'.mono (by simp)))
                 (try have H7 : Hid (BoxB 31 w3 w2.heap.size (.string ⟨#[]⟩) (.slice none 0 0) (.int .i64 0)) := by with_reducible exact hide ((BoxB.new _ w2 _ _ _).below hb3' (BoxB.new _ w2 _ _ _).lt))
                 have HO4 : Hid (OwnsS w2.heap.size w3 (.slice a3 (L.eraseIdx i).length cap3) (L.eraseIdx i)) := ho3.mono (by simp)
                 (try have HN7 : Hid (∀ k, (Value.slice a3 (L.eraseIdx i).length cap3).ownBlock = some k → k ≠ w2.heap.size) := hide (fun k hk => Nat.ne_of_gt (show w2.heap.size + 1 ≤ k by have := (ho3.lt k hk).1; simpa using this)))
                 have HN8 : Hid (∀ k, (Value.slice a3 (L.eraseIdx i).length cap3).ownBlock = some k → k ≠ w3.heap.size) := hide (fun k hk => Nat.ne_of_lt (ho3.lt k hk).2)
                 have HX3 := hide (HX2.out.below HB3.out hlt2)
                 have HY3 := hide (HY2.out.below HB3.out hly2)
                 have hlt3 := HX3.out.lt
                 have hly3 := HY3.out.lt
                 clear hb3 hb3' ho3)
              | (go_at_call 60
                 refine (withSlots_any m _ x _ _ _ _).mono ?_
                 rintro e w4 ⟨rfl, hb4⟩
                 have HB4 : Hid (Below w3.heap.size w3 w4) := by
                   first
                   | with_reducible exact hide hb4
                   | exact hide (((Below.refl _ _).alloc (Nat.le_refl _) _).trans (hb4.mono (by simp)))
                 first
                 | (have Y7 : Hid (BoxB 31 w4 w2.heap.size (.string ⟨#[]⟩) (.slice none 0 0) (.int .i64 0)) := H7.out.below HB4.out H7.out.lt
                    obtain ⟨q0, q1, q2⟩ := Y7.out.cells
                    obtain ⟨r0, r1, r2⟩ := Y7.out.frozen)
                 | (have Y7 : Hid (BoxB 31 w4 w3.heap.size (.string ⟨#[]⟩) (.slice none 0 0) (.int .i64 0)) := by with_reducible exact hide ((BoxB.new _ w3 _ _ _).below hb4 (BoxB.new _ w3 _ _ _).lt)
                    obtain ⟨q0, q1, q2⟩ := Y7.out.cells
                    obtain ⟨r0, r1, r2⟩ := Y7.out.frozen)
                 | skip
                 have HX4 := hide (HX3.out.below HB4.out hlt3)
                 have HY4 := hide (HY3.out.below HB4.out HY3.out.lt)
                 have HO5 := hide (HO4.out.below HB4.out (Nat.le_refl _))
                 clear hb4))
          all_goals go_wp2_with fail
          all_goals go_meet
          all_goals
            have HB5 := hide (HB3.out.trans (HB4.out.mono HB3.out.size))
            have hly4 := HY4.out.lt
            unfold Kept7
          all_goals first
            | with_reducible exact ⟨w4.heap.size, a3, cap3, _, rfl, hly4, hide (fun k hk => Nat.ne_of_lt (HO5.out.lt k hk).2), hide (BoxB.new _ w4 _ _ _), hide (HY4.out.alloc _), hide (HO5.out.alloc _), hide (HB5.out.alloc HB5.out.size _)⟩
            | with_reducible exact ⟨w3.heap.size, a3, cap3, _, rfl, hly3, HN8, hide (((Y7.out.set0 _).set1 _).set2 _), hide (((HY4.out.set_other (Nat.ne_of_gt hly3) _).set_other (Nat.ne_of_gt hly3) _).set_other (Nat.ne_of_gt hly3) _), hide (((HO5.out.set_ne HN8.out _).set_ne HN8.out _).set_ne HN8.out _), hide (((HB5.out.setCell HB3.out.size _).setCell HB3.out.size _).setCell HB3.out.size _)⟩
            | with_reducible exact ⟨w2.heap.size, a3, cap3, _, rfl, hly2, HN7, hide (((Y7.out.set0 _).set1 _).set2 _), hide (((HY4.out.set_other (Nat.ne_of_gt hly2) _).set_other (Nat.ne_of_gt hly2) _).set_other (Nat.ne_of_gt hly2) _), hide (((HO5.out.set_ne HN7.out _).set_ne HN7.out _).set_ne HN7.out _), hide (((HB5.out.setCell (Nat.le_refl _) _).setCell (Nat.le_refl _) _).setCell (Nat.le_refl _) _)⟩
        case rest =>
          obtain ⟨g7, a3, cap3, n3, rfl, hg7, HN7, HZ, HYF, HOF, HBF⟩ := hcut
          obtain ⟨y0, y1, y2⟩ := HYF.out.cells
          obtain ⟨z0, z1, z2⟩ := HYF.out.frozen
          obtain ⟨q0, q1, q2⟩ := HZ.out.cells
          obtain ⟨r0, r1, r2⟩ := HZ.out.frozen
          have hle : w2.heap.size ≤ wc.heap.size := HBF.out.size
          go_wp2_with fail
          refine bodyPost_ret (res_dev_tmp rfl _ _ (w.heap.size + 1) rfl ((((HYF.out.set_other (Nat.ne_of_gt hg7) _).set0 _).set1 _).set2 _)) rfl ?_
          rw [HV.out]
          refine ⟨_, rfl, ?_, HWb.out.trans ((HB2.out.mono HWb.out.size).trans (((((HBF.out.mono (Nat.le_trans HWb.out.size HB2.out.size)).setCell (by simp; omega) _).setCell (by simp) _).setCell (by simp) _).setCell (by simp) _))⟩
          exact ((((HOF.out.set_ne HN7.out _).set_other hly2 _).set_other hly2 _).set_other hly2 _).mono (Nat.le_trans HWb.out.size HB2.out.size)
end Go.Proofs.YtakjjfbocokpaaaDoor

/-
  Contract of spec.KeyWipe.
-/
namespace Go.Proofs.YtakjjfbocokpaaaDoor
open Go.ChangeShapes Go.WideShapes Go.ChangeAt Go.RowKit
set_option maxRecDepth 20000

theorem box_ne {g g' : Nat} (h : g < g') : (⟨g', 0, none⟩ : Addr).block ≠ g := Nat.ne_of_gt h

set_option maxHeartbeats 4000000 in
theorem sKeyWipe_any (B : Nat) (m : ByteArray) (v : Value) (L : List Slot) (x t : Int) (w : World) (hO : OwnsS B w v L) (hl : L.length ≤ 2097152) :
    Calls Tryd.prog 19 #[.agg #[.string m, v, .int .i64 x], .int .i64 t] w (DevBPost w (wipeV m L x t)) := by
  obtain ⟨a, cap, rfl, hrd, _⟩ := hO.form
  have HO := hide hO
  have HL := hide hl
  have HR := hide hrd
  obtain ⟨R, hR⟩ : ∃ R, R = wipeV m L x t := ⟨_, rfl⟩
  have HRR := hide hR
  rw [← hR]
  have HC := hide (fun W hr => sKeyOk_any m a cap L x W hr HL.out)
  have HK := hide (fun W' (h : OwnsS B W' (.slice a L.length cap) L) => l4Copy_any B m (.slice a L.length cap) L x W' h HL.out)
  obtain ⟨n, hn⟩ : ∃ n, L.length = n := ⟨_, rfl⟩
  have HN := hide hn
  rw [hn] at HO HC HK hl ⊢
  clear hO hn hrd hR
  obtain ⟨W, hW, hWs, hWb, hX, hY⟩ := two_boxes w (.string m) (.slice a n cap) (.int .i64 x)
  go_enter Tryd.func19, Tryd.ntmps19
  go_wp2_with fail
  rw [← hW]
  have HX := hide hX
  have HY := hide hY
  have HWb := hide hWb
  have HO1 := hide (HO.out.below hWb (Nat.le_refl _))
  have HR1 := hide ((HR.out.below hWb (Nat.le_refl _)).mono hWb.size)
  clear hW hX hY hWb hWs HO
  refine (HC.out _ HR1.out).mono ?_
  rintro e w1 ⟨rfl, hb1⟩
  have HX1 := hide (HX.out.below hb1 HX.out.lt)
  have HY1 := hide (HY.out.below hb1 HY.out.lt)
  have HO2 := hide (HO1.out.below hb1 (Nat.le_refl _))
  have HB1 := hide (HWb.out.trans (hb1.mono HWb.out.size))
  clear hb1 HC HX HY HO1 HR1 HWb
  obtain ⟨c0, c1, c2⟩ := HX1.out.cells
  obtain ⟨y0, y1, y2⟩ := HY1.out.cells
  obtain ⟨z0, z1, z2⟩ := HY1.out.frozen
  cases hd : devOkB m L x with
  | false =>
    have HV := hide (HRR.out.trans (wipeV_bad hd))
    clear hd
    go_wp2_with fail
    refine bodyPost_ret (res_dev_tmp rfl _ _ (w.heap.size + 1) rfl (((HY1.out.set0 _).set1 _).set2 _)) rfl ?_
    rw [HV.out]
    exact ⟨_, rfl, OwnsS.nil _ _, ((HB1.out.setCell (by simp) _).setCell (by simp) _).setCell (by simp) _⟩
  | true =>
    have HD := hide hd
    clear hd
    go_wp2_with fail
    refine (HK.out _ HO2.out).mono ?_
    rintro e w2 ⟨vc, rfl, hoc, hb2⟩
    obtain ⟨ac, capc, rfl, _⟩ := hoc.form
    rw [HN.out] at hoc ⊢
    have HX2 := hide (HX1.out.below hb2 HX1.out.lt)
    have HY2 := hide (HY1.out.below hb2 HY1.out.lt)
    have HB2 := hide (HB1.out.trans (hb2.mono HB1.out.size))
    have HOc := hide hoc
    have hly1 := HY1.out.lt
    have hw1 := HB1.out.size
    clear hb2 hoc HX1 HY1 HB1 HO2 HK c0 c1 c2 y0 y1 y2 z0 z1 z2
    have hlx := HX2.out.lt
    have hly := HY2.out.lt
    obtain ⟨W3, hW3⟩ : ∃ W3, W3 = w2.alloc (.cells #[.string m, .slice ac n capc, .int .i64 x] 31) := ⟨_, rfl⟩
    have HX3 := hide (show BoxB 31 W3 w.heap.size _ _ _ from hW3 ▸ HX2.out.alloc _)
    have HY3 := hide (show BoxB 31 W3 (w.heap.size + 1) _ _ _ from hW3 ▸ HY2.out.alloc _)
    have H63 := hide (show BoxB 31 W3 w2.heap.size (.string m) (.slice ac n capc) (.int .i64 x) from hW3 ▸ BoxB.new _ w2 _ _ _)
    have HB3 := hide (show Below w.heap.size w W3 from hW3 ▸ HB2.out.alloc HB2.out.size _)
    have HOc3 := hide (show OwnsS w1.heap.size W3 (.slice ac n capc) L from hW3 ▸ HOc.out.alloc _)
    have HS3 := hide (show W3.heap.size = w2.heap.size + 1 by rw [hW3]; simp)
    go_wp2_with fail
    rw [← hW3]
    have hs3 : w2.heap.size + 1 ≤ W3.heap.size := by rw [HS3.out]; exact Nat.le_refl _
    have hP0 := OwnsS.lit0 (w2.heap.size + 1) W3 hs3
    rw [HS3.out] at hP0
    have HP0 := hide hP0
    have hs3' : W3.heap.size ≤ w2.heap.size + 1 := by rw [HS3.out]; exact Nat.le_refl _
    clear hP0 hW3 HX2 HY2 HB2 HOc
    go_loopw [7, 8] (fun o i wr => ∃ (j n' c' : Nat) (a' : Option Addr), i = .int .i64 j ∧ o = .slice a' n' c' ∧ j ≤ n ∧ n' ≤ j ∧ Hid ((filtL (L.take j) t).length = n') ∧ Hid (OwnsS (w2.heap.size + 1) wr (.slice a' n' c') (filtL (L.take j) t)) ∧ Hid (Below (w2.heap.size + 1) W3 wr) ∧ w2.heap.size + 1 ≤ wr.heap.size) (fun _ i _ => n - (intOf i).toNat)
    case atStart => exact ⟨0, 0, 0, _, rfl, rfl, Nat.zero_le _, Nat.le_refl _, rfl, HP0, (Below.refl _ _).alloc hs3 _, by simp; omega⟩
    case round =>
      obtain ⟨j, n', c', a', rfl, rfl, hj, hn', HF, HOF, HBF, hsF⟩ := hrel
      have HXF := hide (HX3.out.below HBF.out (by omega))
      obtain ⟨c0, c1, c2⟩ := HXF.out.cells
      by_cases hlt : j < n
      · have hjL : j < L.length := by rw [HN.out]; exact hlt
        obtain ⟨b, o, rfl, hb, hc⟩ := HR.out (by omega)
        obtain ⟨p0, p1⟩ := hc j hjL
        have d0 := (((HBF.out.mono (by omega : w.heap.size ≤ w2.heap.size + 1)).cell (p := ⟨b, o + j * 2, none⟩) hb).trans (HB3.out.cell (p := ⟨b, o + j * 2, none⟩) hb)).trans p0
        have d1 := (((HBF.out.mono (by omega : w.heap.size ≤ w2.heap.size + 1)).cell (p := ⟨b, o + j * 2 + 1, none⟩) hb).trans (HB3.out.cell (p := ⟨b, o + j * 2 + 1, none⟩) hb)).trans p1
        have HSn := hide (filtL_snoc L t j hjL)
        clear hc p0 p1 hjL
        by_cases ht : tn L j = t
        · have t0 : (tn L j != t) = false := by rw [bne_eq_false_iff_eq]; exact ht
          rw [if_pos ht, List.append_nil] at HSn
          clear ht
          go_wp2_with fail
          go_roundw
          case rel => exact ⟨j + 1, n', c', a', by go_num, rfl, by omega, by omega, by rw [HSn.out]; exact HF, by rw [HSn.out]; exact HOF, HBF, hsF⟩
          case measure => simp [intOf]; omega
        · have t0 : (tn L j != t) = true := by rw [bne_iff_ne]; exact ht
          rw [if_neg ht] at HSn
          clear ht
          have HS2 : Hid (OwnsS 0 (wr.alloc (.cells #[.int .i64 (tn L j), .string (ky L j)] 74)) (.slice (some ⟨wr.heap.size, 0, none⟩) 1 1) [(tn L j, ky L j)]) := OwnsS.lit1 0 wr _ _ (Nat.zero_le _)
          have HO2 : ∀ o, Hid (OwnsS (w2.heap.size + 1) (wr.alloc o) (.slice a' n' c') (filtL (L.take j) t)) := fun o => HOF.out.alloc o
          have HB2 : ∀ o, Hid (Below (w2.heap.size + 1) W3 (wr.alloc o)) := fun o => HBF.out.alloc hsF o
          have hs2 : ∀ o, w2.heap.size + 1 ≤ (wr.alloc o).heap.size := fun o => by simp; omega
          have HF2 := hide (show (filtL (L.take (j + 1)) t).length = n' + 1 by rw [HSn.out, List.length_append, HF.out]; rfl)
          go_wp2_with (at_builtin; go_loud (refine appendS rfl (.tmp 31) (.tmp 37) rfl (w2.heap.size + 1) 0 W3 _ _ _ (filtL (L.take j) t) [(tn L j, ky L j)] rfl rfl (HO2 _) HS2 (HB2 _) (hs2 _) (filtL (L.take (j + 1)) t) (n' + 1) HSn.out.symm HF2.out (by omega) ?_); intro a2 c2' w4 HO' HB' hsz')
          go_roundw
          case rel => exact ⟨j + 1, n' + 1, c2', a2, by go_num, rfl, by omega, by omega, HF2, HO', HB', by have := hs2 (.cells #[.int .i64 (tn L j), .string (ky L j)] 74); omega⟩
          case measure => simp [intOf]; omega
      · have hjn : j = n := by omega
        rw [hjn, ← HN.out, List.take_length] at HF HOF
        have HYF := hide (HY3.out.below HBF.out (by omega))
        have H6F := hide (H63.out.below HBF.out (by omega))
        have HOcF := hide (HOc3.out.below HBF.out hs3')
        have HBw := hide (HB3.out.trans (HBF.out.mono (by omega)))
        have hxb := (devOkB_iff.1 HD.out).2.2
        have hasc := (devOkB_iff.1 HD.out).2.1.2.1
        obtain ⟨y0, y1, y2⟩ := HYF.out.cells
        obtain ⟨z0, z1, z2⟩ := HYF.out.frozen
        obtain ⟨q0, q1, q2⟩ := H6F.out.cells
        obtain ⟨r0, r1, r2⟩ := H6F.out.frozen
        cases hi : slotIx L t with
        | none =>
          have HV := hide (HRR.out.trans (wipeV_none HD.out hi))
          have e0 : ((n' : Int) == (n : Int)) = true := by
            rw [beq_iff_eq]
            have := HF.out
            rw [filtL_none hi, HN.out] at this
            omega
          clear hi hjn hasc hxb
          go_wp2_with fail
          refine bodyPost_ret (res_dev_tmp rfl _ _ (w.heap.size + 1) rfl (((HYF.out.set0 _).set1 _).set2 _)) rfl ?_
          rw [HV.out]
          refine ⟨_, rfl, ?_, ((HBw.out.setCell (by simp) _).setCell (by simp) _).setCell (by simp) _⟩
          exact (((HOcF.out.set_other hly1 _).set_other hly1 _).set_other hly1 _).mono hw1
        | some i =>
          have hfe := filtL_some hasc hi
          rw [hfe] at HF HOF
          have e0 : ((n' : Int) == (n : Int)) = false := by
            rw [beq_eq_false_iff_ne]
            have h1 := HF.out
            have h2 := (slotIx_of_some hi).1
            rw [List.length_eraseIdx, if_pos h2, HN.out] at h1
            rw [HN.out] at h2
            omega
          by_cases hx : x = 1000000
          · have HV := hide (HRR.out.trans (wipeV_full HD.out hx))
            have x0 : (1000000 : Int) ≤ x := by omega
            clear hi hjn hasc hxb hx hfe
            go_wp2_with fail
            refine bodyPost_ret (res_dev_tmp rfl _ _ (w.heap.size + 1) rfl (((HYF.out.set0 _).set1 _).set2 _)) rfl ?_
            rw [HV.out]
            refine ⟨_, rfl, ?_, ((HBw.out.setCell (by simp) _).setCell (by simp) _).setCell (by simp) _⟩
            exact (((HOcF.out.set_other hly1 _).set_other hly1 _).set_other hly1 _).mono hw1
          · have HV := hide (HRR.out.trans (wipeV_some HD.out hx hi))
            have x0 : x < 1000000 := by omega
            have x1 : 0 ≤ x := hxb.1
            clear hi hjn hasc hxb hx hfe
            go_wp2_with fail
            have hne : w2.heap.size ≠ w.heap.size + 1 := by omega
            refine bodyPost_ret (res_dev_tmp rfl _ _ (w.heap.size + 1) rfl (((((HYF.out.set_other hne _).set_other hne _).set0 _).set1 _).set2 _)) rfl ?_
            rw [HV.out]
            refine ⟨_, rfl, ?_, ((((HBw.out.setCell (by simp; omega) _).setCell (by simp; omega) _).setCell (by simp) _).setCell (by simp) _).setCell (by simp) _⟩
            have hl6 : w2.heap.size < w2.heap.size + 1 := by omega
            have hlr : w.heap.size + 1 < w2.heap.size + 1 := by omega
            exact (((((HOF.out.set_other hl6 _).set_other hl6 _).set_other hlr _).set_other hlr _).set_other hlr _).mono (by omega)
end Go.Proofs.YtakjjfbocokpaaaDoor
