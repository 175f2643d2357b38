/-
  Texts of this proof, put together: KeyI, KeyA, KeyD.
-/
import Derived.Test.YtakjjfbocokpaaaDoorPackBA
import Derived.Deep.RegionHeld3
import Derived.Deep.Slices
import Derived.Test.YtakjjfbocokpaaaDoorPackAY

/-
  Contract of impl.insertInOrder over slots.
-/
namespace Go.Proofs.YtakjjfbocokpaaaDoor
open Go.ChangeShapes Go.WideShapes Go.ChangeAt Go.RowKit
set_option maxRecDepth 20000

theorem map_add0 (a : Option Addr) : a.map (·.add 0) = a := by cases a <;> simp [Addr.add]
theorem run_headS (a : Option Addr) (n cap p : Nat) (h : p ≤ cap) (w : World) : (Instr.slice 29 (.slice a n cap) none (some (.int .i64 (p : Int))) none).run Tryd.prog w = .ok (.slice a p cap) w := by
  obtain ⟨i0, hi0, hz0, hz1, hz2⟩ := info_parts infoS
  rw [run_slice_h (P := Tryd.prog) w 29 a n cap (by kernel_rfl) .i64 (p : Int) (by omega) (by omega)]
  rw [show Tryd.prog.elem 29 = 74 by kernel_rfl]
  simp [sizeOf, typeInfo, hi0, hz1, sliced, map_add0]
theorem OwnsS.src_take {B n cap : Nat} {a : Option Addr} {w : World} {L : List Slot} (h : OwnsS B w (.slice a n cap) L) (hn : L.length = n) (p : Nat) (hp : p ≤ n) : Src w (.slice a p cap) (L.take p) := by
  have hl : (L.take p).length = p := by rw [List.length_take]; omega
  rcases h.src with ⟨e, rfl⟩ | ⟨ad, c, e, hc⟩
  · simp only [Value.slice.injEq] at e
    obtain ⟨rfl, rfl, rfl⟩ := e
    left
    obtain rfl : p = 0 := by omega
    exact ⟨rfl, rfl⟩
  · simp only [Value.slice.injEq] at e
    obtain ⟨rfl, _, rfl⟩ := e
    refine .inr ⟨ad, cap, by rw [hl], fun j u hj => hc j u ?_⟩
    rw [slotVals_take, List.getElem?_take] at hj
    split at hj
    · exact hj
    · cases hj
theorem OwnsS.src_drop {B n cap : Nat} {a : Option Addr} {w : World} {L : List Slot} (h : OwnsS B w (.slice a n cap) L) (hn : L.length = n) (p : Nat) (hp : p ≤ n) : Src w (.slice (if cap = p then a else a.map (·.add (p * 2))) (n - p) (cap - p)) (L.drop p) := by
  have hl : (L.drop p).length = n - p := by rw [List.length_drop]; omega
  rcases h.src with ⟨e, rfl⟩ | ⟨ad, c, e, hc⟩
  · simp only [Value.slice.injEq] at e
    obtain ⟨rfl, rfl, rfl⟩ := e
    left
    obtain rfl : p = 0 := by omega
    exact ⟨rfl, rfl⟩
  · simp only [Value.slice.injEq] at e
    obtain ⟨rfl, _, rfl⟩ := e
    by_cases hcp : cap = p
    · rw [if_pos hcp]
      refine .inr ⟨ad, cap - p, by rw [hl], fun j u hj => ?_⟩
      have hcn : n ≤ cap := by
        obtain ⟨_, ⟨e, _⟩ | ⟨g, c', cur, e, _, _, h1, _⟩⟩ := h
        · simp at e
        · simp only [Value.slice.injEq] at e
          omega
      have : (L.drop p) = [] := List.eq_nil_of_length_eq_zero (by omega)
      rw [this] at hj
      simp [slotVals] at hj
    · rw [if_neg hcp, Option.map_some]
      refine .inr ⟨ad.add (p * 2), cap - p, by rw [hl], fun j u hj => ?_⟩
      rw [slotVals_drop, List.getElem?_drop] at hj
      rw [Go.Deep.add_add]
      exact hc _ u hj
theorem Src.alloc {w : World} {v : Value} {cs : List Slot} (h : Src w v cs) (o : Obj) : Src (w.alloc o) v cs := h.keep ((Below.refl w.heap.size w).alloc (Nat.le_refl _) o) (Nat.le_refl _)
theorem Src.drew {w : World} {v : Value} {cs : List Slot} (h : Src w v cs) : Src w.drew v cs := h

theorem BoxP.drew {T : TypeId} {w : World} {g : Nat} {v0 v1 : Value} (h : BoxP T w g v0 v1) : BoxP T w.drew g v0 v1 := h
theorem BoxP.alloc {T : TypeId} {w : World} {g : Nat} {v0 v1 : Value} (h : BoxP T w g v0 v1) (o : Obj) : BoxP T (w.alloc o) g v0 v1 := (Below.heap_alloc w o g h.lt).trans h

set_option maxHeartbeats 2000000 in
theorem insert_any (B : Nat) (a : Option Addr) (cap : Nat) (L : List Slot) (t : Int) (k : ByteArray) (w : World) (hO : OwnsS B w (.slice a L.length cap) L) (ha : Asc L) (hl : L.length ≤ 2097151) :
    Calls Tryd.prog 64 #[.slice a L.length cap, .agg #[.int .i64 t, .string k], .func (.func 65) #[] #[]] w (SlotsPost w (insL L t k)) := by
  have HO := hide hO
  have HA := hide ha
  have hcap : L.length ≤ cap := by
    obtain ⟨a', c', e, _, h, _⟩ := hO.form
    simp only [Value.slice.injEq] at e
    omega
  obtain ⟨p, hp⟩ : ∃ p, posL L t = p := ⟨_, rfl⟩
  have hpl := posL_le L t
  rw [hp] at hpl
  have HS := hide (fun W hr => search_any a cap L t k W hr HA.out (by omega))
  rw [hp] at HS
  obtain ⟨M, hM⟩ : ∃ M, insL L t k = M := ⟨_, rfl⟩
  have HM := hide (show L.take p ++ [(t, k)] ++ L.drop p = M by rw [← hM, insL, hp]; simp)
  rw [hM]
  have T0 := hide (HO.out.src_take rfl p hpl)
  have T2 := hide (HO.out.src_drop rfl p hpl)
  have N0 := hide (show (L.take p).length = p by rw [List.length_take]; omega)
  have N2 := hide (show (L.drop p).length = L.length - p by rw [List.length_drop])
  have HR := hide (show SlotRd w w.heap.size a L from by
    obtain ⟨a', c', e, h, _⟩ := hO.form
    simp only [Value.slice.injEq] at e
    rw [e.1]
    exact h)
  obtain ⟨n, hn⟩ : ∃ n, L.length = n := ⟨_, rfl⟩
  have HN := hide hn
  rw [hn] at HO HS hl hcap hpl T2 N2 ⊢
  have s1 := run_headS a n cap p (by omega)
  have s2 := run_cutS a n cap p hpl
  obtain ⟨a2, ha2⟩ : ∃ a2, (if cap = p then a else a.map (·.add (p * 2))) = a2 := ⟨_, rfl⟩
  rw [ha2] at s2 T2
  obtain ⟨n2, hn2⟩ : ∃ n2, n - p = n2 := ⟨_, rfl⟩
  obtain ⟨c2, hc2⟩ : ∃ c2, cap - p = c2 := ⟨_, rfl⟩
  rw [hn2] at N2
  rw [hn2, hc2] at s2 T2
  have HN2 := hide hn2
  clear hO ha hn hp hM ha2 hn2 hc2
  have hpi : (p : Int) ≤ (cap : Int) := by omega
  have hpn : (p : Int) ≤ (n : Int) := by omega
  have hB := fun o => (Below.refl w.heap.size w).alloc (Nat.le_refl _) o
  go_enter Tryd.func64, Tryd.ntmps64
  go_wp2_with fail
  refine (HS.out _ ((HR.out.below (hB _) (Nat.le_refl _)).mono (by simp))).mono ?_
  rintro e w1 ⟨fd, rfl, hb1⟩
  have HX1 := hide ((BoxP.new 74 w (.int .i64 t) (.string k)).below hb1 (by simp))
  have HB1 := hide ((hB _).trans (hb1.mono (by simp)))
  clear hb1 hB
  obtain ⟨x0, x1⟩ := HX1.out.cells
  have hlx := HX1.out.lt
  go_wp2_with fail
  have hC : Calls Tryd.prog 95 #[.slice (some ⟨w1.heap.size + 1, 0, none⟩) 3 3] ((w1.alloc (.cells #[.int .i64 t, .string k] 74)).alloc (.cells #[.slice a p cap, .slice (some ⟨w1.heap.size, 0, none⟩) 1 1, .slice a2 n2 c2] 29)).drew (SlotsPost ((w1.alloc (.cells #[.int .i64 t, .string k] 74)).alloc (.cells #[.slice a p cap, .slice (some ⟨w1.heap.size, 0, none⟩) 1 1, .slice a2 n2 c2] 29)).drew M) := by
    have h := concat3_any (w1.heap.size + 1) (.slice a p cap) (.slice (some ⟨w1.heap.size, 0, none⟩) 1 1) (.slice a2 n2 c2) (L.take p) [(t, k)] (L.drop p)
      ((w1.alloc (.cells #[.int .i64 t, .string k] 74)).alloc (.cells #[.slice a p cap, .slice (some ⟨w1.heap.size, 0, none⟩) 1 1, .slice a2 n2 c2] 29)).drew
      (show _ < (World.alloc _ _).heap.size by simp)
      (show (World.alloc _ _).cell? _ = _ by simp) (show (World.alloc _ _).cell? _ = _ by simp) (show (World.alloc _ _).cell? _ = _ by simp)
      (((T0.out.keep HB1.out (Nat.le_refl _)).alloc _).alloc _).drew (((OwnsS.lit1 0 w1 t k (Nat.zero_le _)).src).alloc _).drew (((T2.out.keep HB1.out (Nat.le_refl _)).alloc _).alloc _).drew
      (by simp; omega) (by rw [N0.out, N2.out]; have := HN2.out; simp; omega)
    rw [HM.out] at h
    exact h
  have HC := hide hC
  clear hC
  go_region_held3 (fun w' => w'.cell? ⟨w.heap.size, 0, none⟩ = some (.int .i64 t) ∧ w'.cell? ⟨w.heap.size, 1, none⟩ = some (.string k))
    (first
      | with_reducible exact ⟨x0, x1⟩
      | with_reducible exact HX1.out.drew.cells
      | with_reducible exact (HX1.out.alloc _).drew.cells
      | with_reducible exact ((HX1.out.alloc _).alloc _).drew.cells
      | with_reducible exact HX2.out.cells)
    (first
      | (go_at_call 95
         refine HC.out.mono ?_
         rintro e w2 ⟨v2, rfl, ho2, hb2⟩
         have HO2 := hide ho2
         have hb2' := below_of_drew hb2
         have HB2 := hide (hb2'.mono (show w1.heap.size ≤ _ by simp; omega))
         have HB3 := hide ((((Below.refl w1.heap.size w1).alloc (Nat.le_refl _) _).alloc (by simp) _).trans HB2.out)
         have HX2 := hide (HX1.out.below HB3.out hlx)
         clear ho2 hb2 hb2'))
  all_goals go_wp2_with fail
  all_goals go_ret
  all_goals exact ⟨_, rfl, HO2.out.mono (show w.heap.size ≤ (World.drew (World.alloc _ _)).heap.size from by have := HB1.out.size; show w.heap.size ≤ (World.alloc _ _).heap.size; simp; omega), HB1.out.trans (HB3.out.mono HB1.out.size)⟩
end Go.Proofs.YtakjjfbocokpaaaDoor

/-
  Contract of impl.KeyAdd.
-/
namespace Go.Proofs.YtakjjfbocokpaaaDoor
open Go.ChangeShapes Go.WideShapes Go.ChangeAt Go.RowKit
set_option maxRecDepth 20000

set_option maxHeartbeats 4000000 in
theorem iKeyAdd_any (B : Nat) (m : ByteArray) (v : Value) (L : List Slot) (x t : Int) (key : ByteArray) (w : World) (hO : OwnsS B w v L) (hl : L.length ≤ 2097151) :
    Calls Tryd.prog 21 #[.agg #[.string m, v, .int .i64 x], .int .i64 t, .string key] w (DevBPost w (addV m L x t key)) := by
  obtain ⟨a, cap, rfl, hrd, _⟩ := hO.form
  have HO := hide hO
  have HL := hide hl
  have HR := hide hrd
  obtain ⟨R, hR⟩ : ∃ R, R = addV m L x t key := ⟨_, rfl⟩
  have HRR := hide hR
  rw [← hR]
  have HC := hide (fun W hr => iKeyOk_any m a cap L x W hr (by have := HL.out; omega))
  obtain ⟨n, hn⟩ : ∃ n, L.length = n := ⟨_, rfl⟩
  have HN := hide hn
  rw [hn] at HO HC ⊢
  clear hl hO hn hrd hR
  obtain ⟨W, hW, hWs, hWb, hX, hY⟩ := two_boxes w (.string m) (.slice a n cap) (.int .i64 x)
  go_enter Tryd.func21, Tryd.ntmps21
  go_wp2_with fail
  rw [← hW]
  have HX := hide hX
  have HY := hide hY
  have HWb := hide hWb
  have HWs := hide hWs
  have HO1 := hide (HO.out.below hWb (Nat.le_refl _))
  have HR1 := hide ((HR.out.below hWb (Nat.le_refl _)).mono hWb.size)
  clear hW hX hY hWb hWs HO HR
  refine (HC.out _ HR1.out).mono ?_
  rintro e w1 ⟨rfl, hb1⟩
  have HX1 := hide (HX.out.below hb1 HX.out.lt)
  have HY1 := hide (HY.out.below hb1 HY.out.lt)
  have HO2 := hide (HO1.out.below hb1 (Nat.le_refl _))
  have HR2 := hide ((HR1.out.below hb1 (Nat.le_refl _)).mono hb1.size)
  have HB1 := hide hb1
  clear hb1 HC
  obtain ⟨c0, c1, c2⟩ := HX1.out.cells
  obtain ⟨y0, y1, y2⟩ := HY1.out.cells
  obtain ⟨z0, z1, z2⟩ := HY1.out.frozen
  cases hd : devOkB m L x with
  | false =>
    have HV := hide (HRR.out.trans (addV_bad hd))
    clear hd
    go_wp2_with fail
    refine bodyPost_ret (res_dev_tmp rfl _ _ (w.heap.size + 1) rfl (((HY1.out.set0 _).set1 _).set2 _)) rfl ?_
    rw [HV.out]
    exact ⟨_, rfl, OwnsS.nil _ _, HWb.out.trans ((((HB1.out.mono HWb.out.size).setCell (by simp) _).setCell (by simp) _).setCell (by simp) _)⟩
  | true =>
    have HD := hide hd
    clear hd
    have HIns := hide (fun W' (h : OwnsS B W' (.slice a L.length cap) L) => insert_any B a cap L t key W' h (devOkB_iff.1 HD.out).2.1.2.1 HL.out)
    obtain ⟨E, hE⟩ : ∃ E, E = insL L t key := ⟨_, rfl⟩
    have HEl := hide (show E.length = n + 1 by rw [hE, length_insL, HN.out])
    have HE := hide hE
    have HCl := hide (fun W' (h : OwnsS B W' (.slice a L.length cap) L) => devClone_any B m (.slice a L.length cap) L x W' h (by have := HL.out; omega))
    rw [HN.out] at HIns HCl
    rw [← hE] at HIns
    clear hE
    have hlt2 := HX1.out.lt
    have hly2 := HY1.out.lt
    have HO3 := HO2
    have HX2 := HX1
    have HY2 := HY1
    clear HO1 HO2 HR1 HR2 HX1 HY1
    go_upto_region 3 with (fail)
    go_cut [8] from 13 (fun s8 wF => Kept7 w w1 m E x s8 wF)
    case first =>
      go_region_held3 (fun w' => w'.cell? ⟨w.heap.size, 0, none⟩ = some (.string m) ∧ w'.cell? ⟨w.heap.size, 1, none⟩ = some (.slice a n cap) ∧ w'.cell? ⟨w.heap.size, 2, none⟩ = some (.int .i64 x))
        (first
          | with_reducible exact HX2.out.cells
          | with_reducible exact HX2.out.drew.cells
          | with_reducible exact (HX2.out.alloc _).drew.cells
          | with_reducible exact HX3.out.cells
          | with_reducible exact (HX3.out.alloc _).cells
          | with_reducible exact HX4.out.cells
          | with_reducible exact (HX4.out.alloc _).cells
          | with_reducible exact (((HX4.out.set_other (Nat.ne_of_gt hlt2) _).set_other (Nat.ne_of_gt hlt2) _).set_other (Nat.ne_of_gt hlt2) _).cells
          | with_reducible exact (((HX4.out.set_other (Nat.ne_of_gt hlt3) _).set_other (Nat.ne_of_gt hlt3) _).set_other (Nat.ne_of_gt hlt3) _).cells)
        (first
          | (go_at_call 64
             refine (HIns.out _ ?_).mono ?_
             · first
               | with_reducible exact HO3.out.drew
               | with_reducible exact (HO3.out.alloc _).drew
             rintro e w3 ⟨v3, rfl, ho3, hb3⟩
             obtain ⟨a3, cap3, rfl, _⟩ := ho3.form
             have hb3' := below_of_drew hb3
             have HB3 : Hid (Below w1.heap.size w1 w3) := by
               first
               | with_reducible exact hide hb3'
               | exact hide (((Below.refl _ _).alloc (Nat.le_refl _) _).trans (hb3'.mono (by simp)))
             (try have H7 : Hid (BoxB 31 w3 w1.heap.size (.string ⟨#[]⟩) (.slice none 0 0) (.int .i64 0)) := by with_reducible exact hide ((BoxB.new _ w1 _ _ _).below hb3' (BoxB.new _ w1 _ _ _).lt))
             have HO4 : Hid (OwnsS w1.heap.size w3 (.slice a3 E.length cap3) E) := ho3.mono (by simp)
             (try have HN7 : Hid (∀ k, (Value.slice a3 E.length cap3).ownBlock = some k → k ≠ w1.heap.size) := hide (fun k hk => Nat.ne_of_gt (show w1.heap.size + 1 ≤ k by have := (ho3.lt k hk).1; simpa using this)))
             have HN8 : Hid (∀ k, (Value.slice a3 E.length cap3).ownBlock = some k → k ≠ w3.heap.size) := hide (fun k hk => Nat.ne_of_lt (ho3.lt k hk).2)
             have HX3 := hide (HX2.out.below HB3.out hlt2)
             have HY3 := hide (HY2.out.below HB3.out hly2)
             have hlt3 := HX3.out.lt
             have hly3 := HY3.out.lt
             clear hb3 hb3' ho3)
          | (go_at_call 60
             refine (withSlots_any m _ x _ _ _ _).mono ?_
             rintro e w4 ⟨rfl, hb4⟩
             have HB4 : Hid (Below w3.heap.size w3 w4) := by
               first
               | with_reducible exact hide hb4
               | exact hide (((Below.refl _ _).alloc (Nat.le_refl _) _).trans (hb4.mono (by simp)))
             first
             | (have Y7 : Hid (BoxB 31 w4 w1.heap.size (.string ⟨#[]⟩) (.slice none 0 0) (.int .i64 0)) := H7.out.below HB4.out H7.out.lt
                obtain ⟨q0, q1, q2⟩ := Y7.out.cells
                obtain ⟨r0, r1, r2⟩ := Y7.out.frozen)
             | (have Y7 : Hid (BoxB 31 w4 w3.heap.size (.string ⟨#[]⟩) (.slice none 0 0) (.int .i64 0)) := by with_reducible exact hide ((BoxB.new _ w3 _ _ _).below hb4 (BoxB.new _ w3 _ _ _).lt)
                obtain ⟨q0, q1, q2⟩ := Y7.out.cells
                obtain ⟨r0, r1, r2⟩ := Y7.out.frozen)
             | skip
             have HX4 := hide (HX3.out.below HB4.out hlt3)
             have HY4 := hide (HY3.out.below HB4.out HY3.out.lt)
             have HO5 := hide (HO4.out.below HB4.out (Nat.le_refl _))
             clear hb4))
      all_goals go_wp2_with fail
      all_goals go_meet
      all_goals
        have HB5 := hide (HB3.out.trans (HB4.out.mono HB3.out.size))
        have hly4 := HY4.out.lt
        unfold Kept7
      all_goals first
        | with_reducible exact ⟨w4.heap.size, a3, cap3, _, rfl, hly4, hide (fun k hk => Nat.ne_of_lt (HO5.out.lt k hk).2), hide (BoxB.new _ w4 _ _ _), hide (HY4.out.alloc _), hide (HO5.out.alloc _), hide (HB5.out.alloc HB5.out.size _)⟩
        | with_reducible exact ⟨w3.heap.size, a3, cap3, _, rfl, hly3, HN8, hide (((Y7.out.set0 _).set1 _).set2 _), hide (((HY4.out.set_other (Nat.ne_of_gt hly3) _).set_other (Nat.ne_of_gt hly3) _).set_other (Nat.ne_of_gt hly3) _), hide (((HO5.out.set_ne HN8.out _).set_ne HN8.out _).set_ne HN8.out _), hide (((HB5.out.setCell HB3.out.size _).setCell HB3.out.size _).setCell HB3.out.size _)⟩
        | with_reducible exact ⟨w1.heap.size, a3, cap3, _, rfl, hly2, HN7, hide (((Y7.out.set0 _).set1 _).set2 _), hide (((HY4.out.set_other (Nat.ne_of_gt hly2) _).set_other (Nat.ne_of_gt hly2) _).set_other (Nat.ne_of_gt hly2) _), hide (((HO5.out.set_ne HN7.out _).set_ne HN7.out _).set_ne HN7.out _), hide (((HB5.out.setCell (Nat.le_refl _) _).setCell (Nat.le_refl _) _).setCell (Nat.le_refl _) _)⟩
    case rest =>
      obtain ⟨g8, a3, cap3, n3, rfl, hg8, HN7, HZ, HYF, HOF, HBF⟩ := hcut
      obtain ⟨a3', c3', hform, hrd3, _⟩ := HOF.out.form
      simp only [Value.slice.injEq] at hform
      obtain ⟨rfl, rfl, rfl⟩ := hform
      have HRF := hide hrd3
      have HXF := hide (HX2.out.below HBF.out hlt2)
      have HOo := hide (HO3.out.below HBF.out (Nat.le_refl _))
      clear hrd3 c0 c1 c2 y0 y1 y2 z0 z1 z2
      obtain ⟨q0, q1, q2⟩ := HZ.out.cells
      go_wp2_with fail
      refine (iKeyOk_any m a3 cap3 E x _ HRF.out (by rw [HEl.out]; have := HL.out; rw [HN.out] at this; omega)).mono ?_
      rintro e w5 ⟨rfl, hb5⟩
      have HX5 := hide (HXF.out.below hb5 HXF.out.lt)
      have HY5 := hide (HYF.out.below hb5 HYF.out.lt)
      have HZ5 := hide (HZ.out.below hb5 HZ.out.lt)
      have HO5 := hide (HOF.out.below hb5 (Nat.le_refl _))
      have HOo5 := hide (HOo.out.below hb5 (Nat.le_refl _))
      have HB5 := hide (HBF.out.trans (hb5.mono HBF.out.size))
      clear hb5 HXF HYF HZ HOF HOo HBF q0 q1 q2 HRF
      obtain ⟨c0, c1, c2⟩ := HX5.out.cells
      obtain ⟨y0, y1, y2⟩ := HY5.out.cells
      obtain ⟨z0, z1, z2⟩ := HY5.out.frozen
      obtain ⟨q0, q1, q2⟩ := HZ5.out.cells
      cases hd2 : devOkB m E x with
      | false =>
        have HV := hide (HRR.out.trans (addV_no HD.out (by rw [← HE.out]; exact hd2)))
        clear hd2
        go_wp2_with fail
        refine (HCl.out _ HOo5.out).mono ?_
        rintro e w6 ⟨v6, rfl, ho6, hb6⟩
        obtain ⟨a6, cap6, rfl, _⟩ := ho6.form
        have HY6 := hide (HY5.out.below hb6 HY5.out.lt)
        have HB6 := hide (HB5.out.trans (hb6.mono HB5.out.size))
        have HO6 := hide ho6
        have hlt := HY5.out.lt
        have hw5 := HB5.out.size
        clear ho6 hb6 HX5 HY5 c0 c1 c2 y0 y1 y2 z0 z1 z2 q0 q1 q2
        obtain ⟨y0, y1, y2⟩ := HY6.out.cells
        obtain ⟨z0, z1, z2⟩ := HY6.out.frozen
        go_wp2_with fail
        refine bodyPost_ret (res_dev_tmp rfl _ _ (w.heap.size + 1) rfl (((HY6.out.set0 _).set1 _).set2 _)) rfl ?_
        rw [HV.out]
        refine ⟨_, rfl, ?_, HWb.out.trans ((HB1.out.mono HWb.out.size).trans ((((HB6.out.mono (by have := HWb.out.size; have := HB1.out.size; omega)).setCell (by simp) _).setCell (by simp) _).setCell (by simp) _))⟩
        exact (((HO6.out.set_other hlt _).set_other hlt _).set_other hlt _).mono (by have := HWb.out.size; have := HB1.out.size; omega)
      | true =>
        have HV := hide (HRR.out.trans (addV_yes HD.out (by rw [← HE.out]; exact hd2)))
        clear hd2
        go_wp2_with fail
        refine bodyPost_ret (res_dev_tmp rfl _ _ (w.heap.size + 1) rfl (((HY5.out.set0 _).set1 _).set2 _)) rfl ?_
        rw [HV.out]
        refine ⟨_, rfl, ?_, HWb.out.trans ((HB1.out.mono HWb.out.size).trans ((((HB5.out.mono (by have := HWb.out.size; have := HB1.out.size; omega)).setCell (by simp) _).setCell (by simp) _).setCell (by simp) _))⟩
        rw [← HE.out]
        exact (((HO5.out.set_other hly2 _).set_other hly2 _).set_other hly2 _).mono (by have := HWb.out.size; have := HB1.out.size; omega)
end Go.Proofs.YtakjjfbocokpaaaDoor

/-
  Contract of spec.KeyAdd.
-/
namespace Go.Proofs.YtakjjfbocokpaaaDoor
open Go.ChangeShapes Go.WideShapes Go.ChangeAt Go.RowKit
set_option maxRecDepth 20000

/-- what is written behind j slots of the device -/
def outL (L : List Slot) (t : Int) (key : ByteArray) (j : Nat) : List Slot := if posL L t < j then L.take (posL L t) ++ (t, key) :: (L.take j).drop (posL L t) else L.take j
theorem outL_zero (L : List Slot) (t : Int) (key : ByteArray) : outL L t key 0 = [] := by unfold outL; rw [if_neg (by omega)]; rfl
theorem take_pair (L : List Slot) (j : Nat) (h : j < L.length) : L.take (j + 1) = L.take j ++ [(tn L j, ky L j)] := by rw [List.take_succ_eq_append_getElem h, pair_at L j h]
theorem outL_before (L : List Slot) (t : Int) (key : ByteArray) (j : Nat) (h : j < L.length) (hp : j < posL L t) : outL L t key j ++ [(tn L j, ky L j)] = outL L t key (j + 1) := by
  unfold outL
  rw [if_neg (by omega), if_neg (by omega), take_pair L j h]
theorem outL_here (L : List Slot) (t : Int) (key : ByteArray) (j : Nat) (h : j < L.length) (hp : posL L t = j) : outL L t key j ++ [(t, key)] ++ [(tn L j, ky L j)] = outL L t key (j + 1) := by
  unfold outL
  rw [hp, if_neg (by omega), if_pos (by omega), take_pair L j h, List.drop_left' (by rw [List.length_take]; omega)]
  simp
theorem outL_after (L : List Slot) (t : Int) (key : ByteArray) (j : Nat) (h : j < L.length) (hp : posL L t < j) : outL L t key j ++ [(tn L j, ky L j)] = outL L t key (j + 1) := by
  unfold outL
  rw [if_pos hp, if_pos (by omega), take_pair L j h, List.drop_append_of_le_length (by rw [List.length_take]; omega)]
  simp
theorem outL_end (L : List Slot) (t : Int) (key : ByteArray) (hp : posL L t < L.length) : outL L t key L.length = insL L t key := by
  unfold outL insL
  rw [if_pos hp, List.take_length]
theorem outL_last (L : List Slot) (t : Int) (key : ByteArray) (hp : posL L t = L.length) : outL L t key L.length ++ [(t, key)] = insL L t key := by
  unfold outL insL
  rw [hp, if_neg (by omega), List.take_length, List.drop_length]
theorem length_outL (L : List Slot) (t : Int) (key : ByteArray) (j : Nat) (h : j ≤ L.length) : (outL L t key j).length = if posL L t < j then j + 1 else j := by
  have := posL_le L t
  unfold outL
  split
  · simp; omega
  · simp; omega

theorem sKeyOk_own {B : Nat} (m : ByteArray) (v : Value) (E : List Slot) (x : Int) (W : World) (h : OwnsS B W v E) (hl : E.length ≤ 2097152) :
    Calls Tryd.prog 25 #[.agg #[.string m, v, .int .i64 x]] W (BoolPost W (devOkB m E x)) := by
  obtain ⟨a, c, rfl, hr, _⟩ := h.form
  exact sKeyOk_any m a c E x W hr hl

set_option maxHeartbeats 4000000 in
theorem sKeyAdd_any (B : Nat) (m : ByteArray) (v : Value) (L : List Slot) (x t : Int) (key : ByteArray) (w : World) (hO : OwnsS B w v L) (hl : L.length ≤ 2097151) :
    Calls Tryd.prog 22 #[.agg #[.string m, v, .int .i64 x], .int .i64 t, .string key] w (DevBPost w (addV m L x t key)) := by
  obtain ⟨a, cap, rfl, hrd, _⟩ := hO.form
  have HO := hide hO
  have HL := hide hl
  have HR := hide hrd
  obtain ⟨R, hR⟩ : ∃ R, R = addV m L x t key := ⟨_, rfl⟩
  have HRR := hide hR
  rw [← hR]
  have HC := hide (fun W hr => sKeyOk_any m a cap L x W hr (by have := HL.out; omega))
  have HK := hide (fun W' (h : OwnsS B W' (.slice a L.length cap) L) => l4Copy_any B m (.slice a L.length cap) L x W' h (by have := HL.out; omega))
  obtain ⟨n, hn⟩ : ∃ n, L.length = n := ⟨_, rfl⟩
  have HN := hide hn
  rw [hn] at HO HC HK hl ⊢
  have HKd := hide (show ∀ k, (Value.slice a n cap).ownBlock = some k → k < w.heap.size from fun k e => (HO.out.lt k e).2)
  clear hO hn hrd hR
  obtain ⟨W, hW, hWs, hWb, hX, hY⟩ := two_boxes w (.string m) (.slice a n cap) (.int .i64 x)
  go_enter Tryd.func22, Tryd.ntmps22
  go_wp2_with fail
  rw [← hW]
  have HX := hide hX
  have HY := hide hY
  have HWb := hide hWb
  have HO1 := hide (HO.out.below hWb (Nat.le_refl _))
  have HR1 := hide ((HR.out.below hWb (Nat.le_refl _)).mono hWb.size)
  clear hW hX hY hWb hWs HO
  refine (HC.out _ HR1.out).mono ?_
  rintro e w1 ⟨rfl, hb1⟩
  have HX1 := hide (HX.out.below hb1 HX.out.lt)
  have HY1 := hide (HY.out.below hb1 HY.out.lt)
  have HO2 := hide (HO1.out.below hb1 (Nat.le_refl _))
  have HB1 := hide (HWb.out.trans (hb1.mono HWb.out.size))
  clear hb1 HC HX HY HO1 HR1 HWb
  obtain ⟨c0, c1, c2⟩ := HX1.out.cells
  obtain ⟨y0, y1, y2⟩ := HY1.out.cells
  obtain ⟨z0, z1, z2⟩ := HY1.out.frozen
  cases hd : devOkB m L x with
  | false =>
    have HV := hide (HRR.out.trans (addV_bad hd))
    clear hd
    go_wp2_with fail
    refine bodyPost_ret (res_dev_tmp rfl _ _ (w.heap.size + 1) rfl (((HY1.out.set0 _).set1 _).set2 _)) rfl ?_
    rw [HV.out]
    exact ⟨_, rfl, OwnsS.nil _ _, ((HB1.out.setCell (by simp) _).setCell (by simp) _).setCell (by simp) _⟩
  | true =>
    have HD := hide hd
    clear hd
    go_wp2_with fail
    refine (HK.out _ HO2.out).mono ?_
    rintro e w2 ⟨vc, rfl, hoc, hb2⟩
    obtain ⟨ac, capc, rfl, _⟩ := hoc.form
    rw [HN.out] at hoc ⊢
    have HX2 := hide (HX1.out.below hb2 HX1.out.lt)
    have HY2 := hide (HY1.out.below hb2 HY1.out.lt)
    have HB2 := hide (HB1.out.trans (hb2.mono HB1.out.size))
    have HOc := hide hoc
    have hly1 := HY1.out.lt
    have hw1 := HB1.out.size
    have HOd := hide (HO2.out.below hb2 (Nat.le_refl _))
    clear hb2 hoc HX1 HY1 HB1 HO2 c0 c1 c2 y0 y1 y2 z0 z1 z2
    have hlx := HX2.out.lt
    have hly := HY2.out.lt
    obtain ⟨W3, hW3⟩ : ∃ W3, W3 = w2.alloc (.cells #[.string m, .slice ac n capc, .int .i64 x] 31) := ⟨_, rfl⟩
    have HX3 := hide (show BoxB 31 W3 w.heap.size _ _ _ from hW3 ▸ HX2.out.alloc _)
    have HY3 := hide (show BoxB 31 W3 (w.heap.size + 1) _ _ _ from hW3 ▸ HY2.out.alloc _)
    have H63 := hide (show BoxB 31 W3 w2.heap.size (.string m) (.slice ac n capc) (.int .i64 x) from hW3 ▸ BoxB.new _ w2 _ _ _)
    have HB3 := hide (show Below w.heap.size w W3 from hW3 ▸ HB2.out.alloc HB2.out.size _)
    have HOc3 := hide (show OwnsS w1.heap.size W3 (.slice ac n capc) L from hW3 ▸ HOc.out.alloc _)
    have HS3 := hide (show W3.heap.size = w2.heap.size + 1 by rw [hW3]; simp)
    have HOd3 := hide (show OwnsS B W3 (.slice a n cap) L from hW3 ▸ HOd.out.alloc _)
    go_wp2_with fail
    rw [← hW3]
    have hs3 : w2.heap.size + 1 ≤ W3.heap.size := by rw [HS3.out]; exact Nat.le_refl _
    have hP0 := OwnsS.lit0 (w2.heap.size + 1) W3 hs3
    rw [HS3.out] at hP0
    have HP0 := hide hP0
    have hs3' : W3.heap.size ≤ w2.heap.size + 1 := by rw [HS3.out]; exact Nat.le_refl _
    clear hP0 hW3 HX2 HY2 HB2 HOc HOd
    obtain ⟨p, hp⟩ : ∃ p, posL L t = p := ⟨_, rfl⟩
    have hpn : p ≤ n := by have := posL_le L t; rw [hp, HN.out] at this; exact this
    have HPp := hide hp
    clear hp
    go_loopw [9, 10, 11] (fun o q i wr => ∃ (j n' c' : Nat) (a' : Option Addr), i = .int .i64 j ∧ o = .slice a' n' c' ∧ j ≤ n ∧ n' ≤ j + 1 ∧ (q = .bool true ∧ p < j ∨ q = .bool false ∧ j ≤ p) ∧ Hid ((outL L t key j).length = n') ∧ Hid (OwnsS (w2.heap.size + 1) wr (.slice a' n' c') (outL L t key j)) ∧ Hid (Below (w2.heap.size + 1) W3 wr) ∧ w2.heap.size + 1 ≤ wr.heap.size) (fun _ _ i _ => n - (intOf i).toNat)
    case atStart => exact ⟨0, 0, 0, _, rfl, rfl, Nat.zero_le _, by omega, .inr ⟨rfl, Nat.zero_le _⟩, by rw [outL_zero]; rfl, by rw [outL_zero]; exact HP0, (Below.refl _ _).alloc hs3 _, by simp; omega⟩
    case round =>
      obtain ⟨j, n', c', a', rfl, rfl, hj, hn', hq, HF, HOF, HBF, hsF⟩ := hrel
      have HXF := hide (HX3.out.below HBF.out (by omega))
      obtain ⟨c0, c1, c2⟩ := HXF.out.cells
      by_cases hlt : j < n
      · have hjL : j < L.length := by rw [HN.out]; exact hlt
        obtain ⟨b, o, rfl, hb, hc⟩ := HR.out (by omega)
        obtain ⟨p0, p1⟩ := hc j hjL
        have HD0 := hide ((HB3.out.cell (p := ⟨b, o + j * 2, none⟩) hb).trans p0)
        have HD1 := hide ((HB3.out.cell (p := ⟨b, o + j * 2 + 1, none⟩) hb).trans p1)
        have d0 := ((HBF.out.mono (by omega : w.heap.size ≤ w2.heap.size + 1)).cell (p := ⟨b, o + j * 2, none⟩) hb).trans HD0.out
        have d1 := ((HBF.out.mono (by omega : w.heap.size ≤ w2.heap.size + 1)).cell (p := ⟨b, o + j * 2 + 1, none⟩) hb).trans HD1.out
        have HJ := hide hjL
        clear hc p0 p1 hjL
        have HS2 : Hid (OwnsS 0 (wr.alloc (.cells #[.int .i64 (tn L j), .string (ky L j)] 74)) (.slice (some ⟨wr.heap.size, 0, none⟩) 1 1) [(tn L j, ky L j)]) := OwnsS.lit1 0 wr _ _ (Nat.zero_le _)
        have HO2 : ∀ o, Hid (OwnsS (w2.heap.size + 1) (wr.alloc o) (.slice a' n' c') (outL L t key j)) := fun o => HOF.out.alloc o
        have HB2 : ∀ o, Hid (Below (w2.heap.size + 1) W3 (wr.alloc o)) := fun o => HBF.out.alloc hsF o
        have hs2 : ∀ o, w2.heap.size + 1 ≤ (wr.alloc o).heap.size := fun o => by simp; omega
        rcases hq with ⟨rfl, hpj⟩ | ⟨rfl, hpj⟩
        · have HSn := hide (outL_after L t key j HJ.out (by rw [HPp.out]; exact hpj))
          have HF2 := hide (show (outL L t key (j + 1)).length = n' + 1 by rw [← HSn.out, List.length_append, HF.out]; rfl)
          go_wp2_with (at_builtin; go_loud (refine appendS rfl (.tmp 44) (.tmp 50) rfl (w2.heap.size + 1) 0 W3 _ _ _ (outL L t key j) [(tn L j, ky L j)] rfl rfl (HO2 _) HS2 (HB2 _) (hs2 _) (outL L t key (j + 1)) (n' + 1) HSn.out HF2.out (by omega) ?_); intro a2 c2' w4 HO' HB' hsz')
          go_roundw
          case rel => exact ⟨j + 1, n' + 1, c2', a2, by go_num, rfl, by omega, by omega, .inl ⟨rfl, by omega⟩, HF2, HO', HB', by have := hs2 (.cells #[.int .i64 (tn L j), .string (ky L j)] 74); omega⟩
          case measure => simp [intOf]; omega
        · by_cases hpe : p = j
          · have t0 : t ≤ tn L j := by
              have h1 := posL_at L t (by rw [HPp.out, hpe]; exact HJ.out)
              rw [HPp.out, hpe] at h1
              exact h1
            have HSn := hide (outL_here L t key j HJ.out (by rw [HPp.out]; exact hpe))
            have HF1 := hide (show (outL L t key j ++ [(t, key)]).length = n' + 1 by rw [List.length_append, HF.out]; rfl)
            have HF2 := hide (show (outL L t key (j + 1)).length = n' + 1 + 1 by rw [← HSn.out, List.length_append, HF1.out]; rfl)
            have hpj1 : p < j + 1 := by omega
            have hn5 : n' + 1 + 1 ≤ j + 1 + 1 := by
              have h1 := HF.out
              rw [length_outL L t key j (by rw [HN.out]; omega), HPp.out, if_neg (by omega)] at h1
              omega
            have HK2 : Hid (OwnsS 0 (wr.alloc (.cells #[.int .i64 t, .string key] 74)) (.slice (some ⟨wr.heap.size, 0, none⟩) 1 1) [(t, key)]) := OwnsS.lit1 0 wr _ _ (Nat.zero_le _)
            clear hpe HS2
            go_upto_region 12 with (at_builtin; go_loud (refine appendS rfl (.tmp 38) (.tmp 42) rfl (w2.heap.size + 1) 0 W3 _ _ _ (outL L t key j) [(t, key)] rfl rfl (HO2 _) HK2 (HB2 _) (hs2 _) (outL L t key j ++ [(t, key)]) (n' + 1) rfl HF1.out (by omega) ?_); intro a2 c2' w4 HO' HB' hsz')
            have hs4 : w2.heap.size + 1 ≤ w4.heap.size := by have := hs2 (.cells #[.int .i64 t, .string key] 74); omega
            clear HO2 HB2 hs2 HK2 c0 c1 c2 d0 d1 HXF
            have HX4 := hide (HX3.out.below HB'.out (by omega))
            obtain ⟨c0, c1, c2⟩ := HX4.out.cells
            have d0 := ((HB'.out.mono (by omega : w.heap.size ≤ w2.heap.size + 1)).cell (p := ⟨b, o + j * 2, none⟩) hb).trans HD0.out
            have d1 := ((HB'.out.mono (by omega : w.heap.size ≤ w2.heap.size + 1)).cell (p := ⟨b, o + j * 2 + 1, none⟩) hb).trans HD1.out
            have HS4 : Hid (OwnsS 0 (w4.alloc (.cells #[.int .i64 (tn L j), .string (ky L j)] 74)) (.slice (some ⟨w4.heap.size, 0, none⟩) 1 1) [(tn L j, ky L j)]) := OwnsS.lit1 0 w4 _ _ (Nat.zero_le _)
            have HO4 : ∀ o, Hid (OwnsS (w2.heap.size + 1) (w4.alloc o) (.slice a2 (n' + 1) c2') (outL L t key j ++ [(t, key)])) := fun o => HO'.out.alloc o
            have HB4 : ∀ o, Hid (Below (w2.heap.size + 1) W3 (w4.alloc o)) := fun o => HB'.out.alloc hs4 o
            have hs5 : ∀ o, w2.heap.size + 1 ≤ (w4.alloc o).heap.size := fun o => by simp; omega
            go_wp2_with (at_builtin; go_loud (refine appendS rfl (.tmp 44) (.tmp 50) rfl (w2.heap.size + 1) 0 W3 _ _ _ (outL L t key j ++ [(t, key)]) [(tn L j, ky L j)] rfl rfl (HO4 _) HS4 (HB4 _) (hs5 _) (outL L t key (j + 1)) (n' + 1 + 1) HSn.out HF2.out (by omega) ?_); intro a5 c5' w5 HO5 HB5 hsz5)
            go_roundw
            case rel => exact ⟨j + 1, n' + 1 + 1, c5', a5, by go_num, rfl, by omega, hn5, .inl ⟨rfl, hpj1⟩, HF2, HO5, HB5, by have := hs5 (.cells #[.int .i64 (tn L j), .string (ky L j)] 74); omega⟩
            case measure => simp [intOf]; omega
          · have hpj2 : j < p := by omega
            have t0 : tn L j < t := posL_lt L t j (by rw [HPp.out]; exact hpj2)
            have HSn := hide (outL_before L t key j HJ.out (by rw [HPp.out]; exact hpj2))
            have HF2 := hide (show (outL L t key (j + 1)).length = n' + 1 by rw [← HSn.out, List.length_append, HF.out]; rfl)
            clear hpe
            go_wp2_with (at_builtin; go_loud (refine appendS rfl (.tmp 44) (.tmp 50) rfl (w2.heap.size + 1) 0 W3 _ _ _ (outL L t key j) [(tn L j, ky L j)] rfl rfl (HO2 _) HS2 (HB2 _) (hs2 _) (outL L t key (j + 1)) (n' + 1) HSn.out HF2.out (by omega) ?_); intro a2 c2' w4 HO' HB' hsz')
            go_roundw
            case rel => exact ⟨j + 1, n' + 1, c2', a2, by go_num, rfl, by omega, by omega, .inr ⟨rfl, by omega⟩, HF2, HO', HB', by have := hs2 (.cells #[.int .i64 (tn L j), .string (ky L j)] 74); omega⟩
            case measure => simp [intOf]; omega
      · have hjn : j = n := by omega
        have HL2 := hide (show j = L.length by rw [hjn, HN.out])
        obtain ⟨E, hE⟩ : ∃ E, E = insL L t key := ⟨_, rfl⟩
        have HEl := hide (show E.length = n + 1 by rw [hE, length_insL, HN.out])
        have HE := hide hE
        clear hE
        rcases hq with ⟨rfl, hpj⟩ | ⟨rfl, hpj⟩
        case' inl =>
          have HOE : Hid (OwnsS (w2.heap.size + 1) wr (.slice a' n' c') E) := by
            have := HOF.out
            rw [HL2.out, outL_end L t key (by rw [HPp.out, ← HL2.out]; exact hpj), ← HE.out] at this
            exact hide this
          have HBE := HBF
          have hsE := hsF
          clear HOF HBF hsF
          obtain ⟨w4, rfl⟩ : ∃ w4, wr = w4 := ⟨_, rfl⟩
          go_upto_region 15 with (fail)
        case' inr =>
          have HSn := hide (show outL L t key j ++ [(t, key)] = E by rw [HL2.out, outL_last L t key (by rw [HPp.out, ← HL2.out]; omega), HE.out])
          have HF2 := hide (show E.length = n' + 1 by rw [← HSn.out, List.length_append, HF.out]; rfl)
          have HK2 : Hid (OwnsS 0 (wr.alloc (.cells #[.int .i64 t, .string key] 74)) (.slice (some ⟨wr.heap.size, 0, none⟩) 1 1) [(t, key)]) := OwnsS.lit1 0 wr _ _ (Nat.zero_le _)
          have HO2 : ∀ o, Hid (OwnsS (w2.heap.size + 1) (wr.alloc o) (.slice a' n' c') (outL L t key j)) := fun o => HOF.out.alloc o
          have HB2 : ∀ o, Hid (Below (w2.heap.size + 1) W3 (wr.alloc o)) := fun o => HBF.out.alloc hsF o
          have hs2 : ∀ o, w2.heap.size + 1 ≤ (wr.alloc o).heap.size := fun o => by simp; omega
          go_upto_region 15 with (at_builtin; go_loud (refine appendS rfl (.tmp 54) (.tmp 58) rfl (w2.heap.size + 1) 0 W3 _ _ _ (outL L t key j) [(t, key)] rfl rfl (HO2 _) HK2 (HB2 _) (hs2 _) E (n' + 1) HSn.out HF2.out (by omega) ?_); intro a2 c2' w4 HOE HBE hsz')
          have hsE : w2.heap.size + 1 ≤ w4.heap.size := by have := hs2 (.cells #[.int .i64 t, .string key] 74); omega
          clear HO2 HB2 hs2 HK2 HOF HBF hsF
        all_goals
          clear c0 c1 c2 HXF
          have HXE := hide (HX3.out.below HBE.out (by omega))
          have HYE := hide (HY3.out.below HBE.out (by omega))
          have HZE := hide (H63.out.below HBE.out (by omega))
          have HOE2 := hide (HOd3.out.below HBE.out hs3')
          have HBw := hide (HB3.out.trans (HBE.out.mono (by omega)))
          obtain ⟨q0, q1, q2⟩ := HZE.out.cells
          obtain ⟨r0, r1, r2⟩ := HZE.out.frozen
          have hl6 : w2.heap.size < w2.heap.size + 1 := by omega
          have hlr : w.heap.size + 1 < w2.heap.size + 1 := by omega
          have hne : w2.heap.size ≠ w.heap.size + 1 := by omega
          have hnx : w2.heap.size ≠ w.heap.size := by omega
        all_goals go_wp2_with fail
        all_goals
          have HOq := hide (fun u => HOE.out.set_other (p := ⟨w2.heap.size, 1, none⟩) hl6 u)
          have HXq := hide (fun u => HXE.out.set_other (p := ⟨w2.heap.size, 1, none⟩) hnx u)
          have HYq := hide (fun u => HYE.out.set_other (p := ⟨w2.heap.size, 1, none⟩) hne u)
          have HZq := hide (fun u => HZE.out.set1 u)
          have HOd := hide (fun u => HOE2.out.set_ne (p := ⟨w2.heap.size, 1, none⟩) (fun k e => by have := HKd.out k e; show k ≠ w2.heap.size; omega) u)
          have HBq := hide (fun u => HBw.out.setCell (p := ⟨w2.heap.size, 1, none⟩) (by show w.heap.size ≤ w2.heap.size; omega) u)
        all_goals refine (sKeyOk_own m _ E x _ (HOq.out _) (by rw [HEl.out]; omega)).mono ?_
        all_goals
          rintro e w5 ⟨rfl, hb5⟩
          have HX5 := hide ((HXq.out _).below hb5 (HXq.out _).lt)
          have HY5 := hide ((HYq.out _).below hb5 (HYq.out _).lt)
          have HZ5 := hide ((HZq.out _).below hb5 (HZq.out _).lt)
          have HO5 := hide ((HOq.out _).below hb5 (Nat.le_refl _))
          have HOd5 := hide ((HOd.out _).below hb5 (Nat.le_refl _))
          have HB5 := hide ((HBq.out _).trans (hb5.mono (HBq.out _).size))
          clear hb5 HOq HXq HYq HZq HOd HBq q0 q1 q2 r0 r1 r2
          obtain ⟨c0, c1, c2⟩ := HX5.out.cells
          obtain ⟨y0, y1, y2⟩ := HY5.out.cells
          obtain ⟨z0, z1, z2⟩ := HY5.out.frozen
          obtain ⟨q0, q1, q2⟩ := HZ5.out.cells
        all_goals
          cases hd2 : devOkB m E x with
          | false =>
            have HV := hide (HRR.out.trans (addV_no HD.out (by rw [← HE.out]; exact hd2)))
            clear hd2
            go_wp2_with fail
            refine (HK.out _ HOd5.out).mono ?_
            rintro e w6 ⟨v6, rfl, ho6, hb6⟩
            obtain ⟨a6, cap6, rfl, _⟩ := ho6.form
            have HY6 := hide (HY5.out.below hb6 HY5.out.lt)
            have HB6 := hide (HB5.out.trans (hb6.mono HB5.out.size))
            have HO6 := hide ho6
            have hlt6 := HY5.out.lt
            have hw5 := HB5.out.size
            clear ho6 hb6 HX5 HY5 c0 c1 c2 y0 y1 y2 z0 z1 z2 q0 q1 q2
            obtain ⟨y0, y1, y2⟩ := HY6.out.cells
            obtain ⟨z0, z1, z2⟩ := HY6.out.frozen
            go_wp2_with fail
            refine bodyPost_ret (res_dev_tmp rfl _ _ (w.heap.size + 1) rfl (((HY6.out.set0 _).set1 _).set2 _)) rfl ?_
            rw [HV.out]
            refine ⟨_, rfl, ?_, ((HB6.out.setCell (by simp) _).setCell (by simp) _).setCell (by simp) _⟩
            exact (((HO6.out.set_other hlt6 _).set_other hlt6 _).set_other hlt6 _).mono hw5
          | true =>
            have HV := hide (HRR.out.trans (addV_yes HD.out (by rw [← HE.out]; exact hd2)))
            clear hd2
            go_wp2_with fail
            refine bodyPost_ret (res_dev_tmp rfl _ _ (w.heap.size + 1) rfl (((HY5.out.set0 _).set1 _).set2 _)) rfl ?_
            rw [HV.out]
            refine ⟨_, rfl, ?_, ((HB5.out.setCell (by simp) _).setCell (by simp) _).setCell (by simp) _⟩
            rw [← HE.out]
            exact (((HO5.out.set_other hlr _).set_other hlr _).set_other hlr _).mono (by omega)
end Go.Proofs.YtakjjfbocokpaaaDoor
