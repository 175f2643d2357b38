/-
  Texts of this proof, put together: BlkC.
-/
import Derived.Test.YtdlkgpobjacgeaaGreatDoorPackAK
import Derived.Test.YtdlkgpobjacgeaaGreatDoorPackAV
import Derived.Test.YtdlkgpobjacgeaaGreatDoorPackAJ
import Derived.Deep.DeepCutAuto

/-
  Contract of impl.cutEnt.
-/
namespace Go.Proofs.YtdlkgpobjacgeaaGreatDoor
open Go.ChangeShapes Go.WideShapes Go.ChangeAt Go.RowKit

theorem cutTR_le (l : List UInt8) : (cutT l).length + (cutR l).length ≤ l.length := by
  unfold cutT cutR
  split
  · simp
  · rw [List.length_take, List.length_drop, List.length_drop]; omega
/-- behind some calls: the result's box still zero, the entry's box, nothing old turned -/
structure TwoE (w w' : World) (vs : Array Value) : Prop where
  a : BoxV 30 w' w.heap.size #[.string ⟨#[]⟩, .int .i64 0, .bool false, .string ⟨#[]⟩]
  b : BoxV 30 w' (w.heap.size + 1) vs
  below : Below w.heap.size w w'
theorem TwoE.step {B : Nat} {w w' w2 : World} {vs : Array Value} (h : TwoE w w' vs) (hb : Below B w' w2) (hB : w'.heap.size ≤ B) : TwoE w w2 vs :=
  ⟨h.a.below hb (Nat.lt_of_lt_of_le h.a.lt hB), h.b.below hb (Nat.lt_of_lt_of_le h.b.lt hB), h.below.trans (hb.mono (Nat.le_trans h.below.size hB))⟩
theorem TwoE.set {w w' : World} {vs : Array Value} (h : TwoE w w' vs) (i : Nat) (u : Value) : TwoE w (w'.setCell ⟨w.heap.size + 1, i, none⟩ u) (vs.setIfInBounds i u) :=
  ⟨h.a.set_other (p := ⟨w.heap.size + 1, i, none⟩) (by show w.heap.size + 1 ≠ w.heap.size; omega) u, h.b.set u, h.below.setCell (p := ⟨w.heap.size + 1, i, none⟩) (by show w.heap.size ≤ w.heap.size + 1; omega) u⟩
def CutEPost (w : World) (x : En) (b : List UInt8) (e : Ending) (w' : World) : Prop := e = .returned (.tuple #[.agg #[.string x.1, .int .i64 x.2.1, .bool x.2.2.1, .string x.2.2.2], .string ⟨b.toArray⟩]) ∧ Below w.heap.size w w'
theorem size_of' (l : List UInt8) : (⟨l.toArray⟩ : ByteArray).size = l.length := size_of l

set_option maxHeartbeats 2000000 in
set_option maxRecDepth 20000 in
theorem cutEnt_any (s last : ByteArray) (hm : last.size + s.size ≤ 1048576) (w : World) :
    Calls Tryz.prog 107 #[.string s, .string last] w (CutEPost w (cutE (bl last) (bl s)) (cutF (bl s))) := by
  have HC1 := hide (fun W => cutVar_any s (by omega) W)
  unfold CutVPost at HC1
  obtain ⟨x, hx⟩ : ∃ x, x = cutVn (bl s) := ⟨_, rfl⟩
  obtain ⟨l1, hl1⟩ : ∃ l1, l1 = cutVr (bl s) := ⟨_, rfl⟩
  have k1 : l1.length ≤ s.size := by rw [hl1, ← bl_len]; exact cutVr_le _
  have HC2 := hide (fun W => cutText_any ⟨l1.toArray⟩ (by rw [size_of]; omega) W)
  unfold CutPost at HC2
  rw [bl_of l1] at HC2
  obtain ⟨r, hr⟩ : ∃ r, r = cutT l1 := ⟨_, rfl⟩
  obtain ⟨l2, hl2⟩ : ∃ l2, l2 = cutR l1 := ⟨_, rfl⟩
  have k2 : r.length + l2.length ≤ l1.length := by rw [hr, hl2]; exact cutTR_le _
  have HC3 := hide (fun W => cutVar_any ⟨l2.toArray⟩ (by rw [size_of]; omega) W)
  unfold CutVPost at HC3
  rw [bl_of l2] at HC3
  obtain ⟨q, hq⟩ : ∃ q, q = cutVn l2 := ⟨_, rfl⟩
  obtain ⟨l3, hl3⟩ : ∃ l3, l3 = cutVr l2 := ⟨_, rfl⟩
  have k3 : l3.length ≤ l2.length := by rw [hl3]; exact cutVr_le _
  have HC4 := hide (fun W => cutMark_any ⟨l3.toArray⟩ W)
  unfold CutMPost at HC4
  rw [bl_of l3] at HC4
  obtain ⟨d, hd⟩ : ∃ d, d = decide (l3.take 1 = [1]) := ⟨_, rfl⟩
  obtain ⟨l4, hl4⟩ : ∃ l4, l4 = l3.drop 1 := ⟨_, rfl⟩
  have k4 : l4.length ≤ l3.length := by rw [hl4, List.length_drop]; omega
  have HC5 := hide (fun W => cutText_any ⟨l4.toArray⟩ (by rw [size_of]; omega) W)
  unfold CutPost at HC5
  rw [bl_of l4] at HC5
  obtain ⟨v, hv⟩ : ∃ v, v = cutT l4 := ⟨_, rfl⟩
  obtain ⟨l5, hl5⟩ : ∃ l5, l5 = cutR l4 := ⟨_, rfl⟩
  obtain ⟨K, hK⟩ : ∃ K, K = (bl last).take x := ⟨_, rfl⟩
  have k5 : K.length ≤ last.size := by rw [hK, List.length_take, bl_len]; omega
  obtain ⟨N, hN⟩ : ∃ N : ByteArray, N = ⟨(K ++ r).toArray⟩ := ⟨_, rfl⟩
  have HE := hide (show cutE (bl last) (bl s) = (N, (q : Int), d, ⟨v.toArray⟩) ∧ cutF (bl s) = l5 by
    unfold cutE cutF
    rw [← hx, ← hl1, ← hr, ← hl2, ← hq, ← hl3, ← hd, ← hl4, ← hv, ← hl5, ← hK, ← hN]
    exact ⟨rfl, rfl⟩)
  rw [HE.out.1, HE.out.2]
  unfold CutEPost
  have ha := run_cat K r (by omega)
  rw [← hx, ← hl1] at HC1
  rw [← hr, ← hl2] at HC2
  rw [← hq, ← hl3] at HC3
  rw [← hd, ← hl4] at HC4
  rw [← hv, ← hl5] at HC5
  rw [← hN] at ha
  -- the part of the key ahead
  obtain ⟨y, hy, hbs⟩ : ∃ y : Nat, y ≤ last.size ∧ last.extract 0 y = ⟨K.toArray⟩ ∧ (if last.size < x then (last.size : Int) else (x : Int)) = (y : Int) := by
    by_cases h : last.size < x
    · refine ⟨last.size, Nat.le_refl _, ?_, if_pos h⟩
      rw [ext_take, hK, List.take_of_length_le (by rw [bl_len]; exact Nat.le_refl _), List.take_of_length_le (by rw [bl_len]; omega)]
    · refine ⟨x, by omega, ?_, if_neg h⟩
      rw [ext_take, hK]
  obtain ⟨hex, hmin⟩ := hbs
  have i1 : (y : Int) ≤ (last.size : Int) := by omega
  have HT0 := hide (fun (w' : World) (h : Below ((w.alloc (.cells #[.string ⟨#[]⟩, .int .i64 0, .bool false, .string ⟨#[]⟩] 30)).alloc (.cells #[.string ⟨#[]⟩, .int .i64 0, .bool false, .string ⟨#[]⟩] 30)).heap.size ((w.alloc (.cells #[.string ⟨#[]⟩, .int .i64 0, .bool false, .string ⟨#[]⟩] 30)).alloc (.cells #[.string ⟨#[]⟩, .int .i64 0, .bool false, .string ⟨#[]⟩] 30)) w') => show TwoE w w' _ from by
    obtain ⟨h1, h2, h3⟩ := two_boxV h
    exact ⟨h1, h2, h3⟩)
  clear hx hl1 hr hl2 hq hl3 hd hl4 hv hl5 hK hN k1 k2 k3 k4 k5 hm HE
  go_enter Tryz.func107, Tryz.ntmps107
  go_wp2_with fail
  refine (HC1.out _).mono ?_
  rintro e w1 ⟨rfl, hb1⟩
  have HT1 := hide (HT0.out _ hb1)
  clear hb1 HT0
  go_wp2_with fail
  refine (HC2.out _).mono ?_
  rintro e w2 ⟨rfl, hb2⟩
  have HT2 := hide (HT1.out.step hb2 (Nat.le_refl _))
  clear hb2 HT1
  have c0 := HT2.out.b.cell 0 _ rfl
  have z0 := HT2.out.b.frozen 0
  have hlt := HT2.out.b.lt
  go_wp2_with fail
  have HT3 := hide (HT2.out.set 0 (.string N))
  clear c0 z0 hlt HT2
  refine (HC3.out _).mono ?_
  rintro e w3 ⟨rfl, hb3⟩
  have HT4 := hide (HT3.out.step hb3 (Nat.le_refl _))
  clear hb3 HT3
  have c1 := HT4.out.b.cell 1 _ rfl
  have z1 := HT4.out.b.frozen 1
  have hlt := HT4.out.b.lt
  go_wp2_with fail
  have HT5 := hide (HT4.out.set 1 (.int .i64 (q : Int)))
  clear c1 z1 hlt HT4
  refine (HC4.out _).mono ?_
  rintro e w4 ⟨rfl, hb4⟩
  have HT6 := hide (HT5.out.step hb4 (Nat.le_refl _))
  clear hb4 HT5
  have c2 := HT6.out.b.cell 2 _ rfl
  have z2 := HT6.out.b.frozen 2
  have hlt := HT6.out.b.lt
  go_wp2_with fail
  have HT7 := hide (HT6.out.set 2 (.bool d))
  clear c2 z2 hlt HT6
  refine (HC5.out _).mono ?_
  rintro e w5 ⟨rfl, hb5⟩
  have HT8 := hide (HT7.out.step hb5 (Nat.le_refl _))
  clear hb5 HT7
  have c3 := HT8.out.b.cell 3 _ rfl
  have z3 := HT8.out.b.frozen 3
  have hlt := HT8.out.b.lt
  go_upto_region 8 with (fail)
  have HT9 := hide (HT8.out.set 3 (.string ⟨v.toArray⟩))
  clear c3 z3 hlt HT8
  obtain ⟨W, hW⟩ : ∃ W, W = w5.setCell ⟨w.heap.size + 1, 3, none⟩ (.string ⟨v.toArray⟩) := ⟨_, rfl⟩
  rw [← hW] at HT9 ⊢
  clear hW
  obtain ⟨p0, p1, p2, p3⟩ := (show BoxV 30 W (w.heap.size + 1) #[.string N, .int .i64 (q : Int), .bool d, .string ⟨v.toArray⟩] from HT9.out.b).four'
  obtain ⟨a0, a1, a2, a3⟩ := HT9.out.a.four'
  obtain ⟨y0, y1, y2, y3⟩ := HT9.out.a.froz4
  have hlt := HT9.out.a.lt
  go_wp2_with fail
  refine bodyPost_ret (res_ent' rfl _ _ w.heap.size rfl (HT9.out.a.all4 _ _ _ _)) rfl ?_
  exact ⟨rfl, below_four HT9.out.below (Nat.le_refl _) _ _ _ _⟩
end Go.Proofs.YtdlkgpobjacgeaaGreatDoor
