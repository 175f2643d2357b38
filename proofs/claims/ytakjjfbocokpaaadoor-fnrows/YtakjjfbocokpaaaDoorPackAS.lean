/-
  Texts of this proof, put together: LogD.
-/
import Derived.Test.YtakjjfbocokpaaaDoorPackAR
import Derived.Deep.DeepCutAuto

/-
  Contract of impl.cutRow.
-/
namespace Go.Proofs.YtakjjfbocokpaaaDoor
open Go.ChangeShapes Go.WideShapes Go.ChangeAt Go.RowKit

theorem BoxV.five {T : TypeId} {w : World} {g : Nat} {v0 v1 v2 v3 v4 : Value} (h : BoxV T w g #[v0, v1, v2, v3, v4]) : w.cell? ⟨g, 0, none⟩ = some v0 ∧ w.cell? ⟨g, 1, none⟩ = some v1 ∧ w.cell? ⟨g, 2, none⟩ = some v2 ∧ w.cell? ⟨g, 3, none⟩ = some v3 ∧ w.cell? ⟨g, 4, none⟩ = some v4 :=
  ⟨h.cell 0 v0 rfl, h.cell 1 v1 rfl, h.cell 2 v2 rfl, h.cell 3 v3 rfl, h.cell 4 v4 rfl⟩
theorem res_row {fn : Func} {p q : Tmp} (h : fn.results = #[.cell p 49, .tmp q]) (tmps : Array Value) (w : World) (g : Nat) (ht : tmps.getD p undef = .pointer (some ⟨g, 0, none⟩)) {v0 v1 v2 v3 v4 : Value} (hx : BoxV 49 w g #[v0, v1, v2, v3, v4]) (u : Value) (hu : tmps.getD q undef = u) :
    (results fn tmps).run Tryd.prog w = .ok (.tuple #[.agg #[v0, v1, v2, v3, v4], u]) w := by
  obtain ⟨c0, c1, c2, c3, c4⟩ := hx.five
  rw [Array.getD_eq_getD_getElem?] at ht hu
  simp only [results, h]
  simp [ht, hu, go_sem, c0, c1, c2, c3, c4]
theorem BoxV.fill5 {T : TypeId} {w : World} {g : Nat} {v0 v1 v2 v3 v4 : Value} (h : BoxV T w g #[v0, v1, v2, v3, v4]) (u0 u1 u2 u3 u4 : Value) :
    BoxV T (((((w.setCell ⟨g, 0, none⟩ u0).setCell ⟨g, 1, none⟩ u1).setCell ⟨g, 2, none⟩ u2).setCell ⟨g, 3, none⟩ u3).setCell ⟨g, 4, none⟩ u4) g #[u0, u1, u2, u3, u4] := ((((h.set (i := 0) u0).set (i := 1) u1).set (i := 2) u2).set (i := 3) u3).set (i := 4) u4
theorem BoxV.put5 {T : TypeId} {w : World} {g : Nat} {v0 v1 v2 v3 v4 : Value} (h : BoxV T w g #[v0, v1, v2, v3, v4]) (u : Value) :
    BoxV T (w.setCell ⟨g, 0, none⟩ u) g #[u, v1, v2, v3, v4] ∧ BoxV T (w.setCell ⟨g, 1, none⟩ u) g #[v0, u, v2, v3, v4] ∧ BoxV T (w.setCell ⟨g, 2, none⟩ u) g #[v0, v1, u, v3, v4] ∧ BoxV T (w.setCell ⟨g, 3, none⟩ u) g #[v0, v1, v2, u, v4] :=
  ⟨h.set (i := 0) u, h.set (i := 1) u, h.set (i := 2) u, h.set (i := 3) u⟩
theorem two_boxR {w w1 : World} {T : TypeId} {v0 v1 v2 v3 v4 : Value} (h : Below ((w.alloc (.cells #[v0, v1, v2, v3, v4] T)).alloc (.cells #[v0, v1, v2, v3, v4] T)).heap.size ((w.alloc (.cells #[v0, v1, v2, v3, v4] T)).alloc (.cells #[v0, v1, v2, v3, v4] T)) w1) :
    BoxV T w1 w.heap.size #[v0, v1, v2, v3, v4] ∧ BoxV T w1 (w.heap.size + 1) #[v0, v1, v2, v3, v4] ∧ Below w.heap.size w w1 := two_boxV h
/-- the rest of a walk, where one box was written and another stands -/
structure Two (g : Nat) (w W : World) (v0 v1 v2 v3 v4 : Value) : Prop where
  a : BoxV 49 W g #[.int .i64 0, .int .i64 0, .int .i64 0, .string ⟨#[]⟩, .bool false]
  x : BoxV 49 W (g + 1) #[v0, v1, v2, v3, v4]
  b : Below g w W
theorem Two.call {g : Nat} {w W W' : World} {v0 v1 v2 v3 v4 : Value} (hg : g ≤ W.heap.size) (h : Two g w W v0 v1 v2 v3 v4) (hb : Below W.heap.size W W') : Two g w W' v0 v1 v2 v3 v4 :=
  ⟨h.a.below hb h.a.lt, h.x.below hb h.x.lt, h.b.trans (hb.mono hg)⟩
theorem Two.put {g : Nat} {w W : World} {v0 v1 v2 v3 v4 : Value} (h : Two g w W v0 v1 v2 v3 v4) (u : Value) :
    Two g w (W.setCell ⟨g + 1, 0, none⟩ u) u v1 v2 v3 v4 ∧ Two g w (W.setCell ⟨g + 1, 1, none⟩ u) v0 u v2 v3 v4 ∧ Two g w (W.setCell ⟨g + 1, 2, none⟩ u) v0 v1 u v3 v4 ∧ Two g w (W.setCell ⟨g + 1, 3, none⟩ u) v0 v1 v2 u v4 := by
  obtain ⟨p0, p1, p2, p3⟩ := h.x.put5 u
  exact ⟨⟨h.a.set_other (by simp) u, p0, h.b.setCell (by simp) u⟩, ⟨h.a.set_other (by simp) u, p1, h.b.setCell (by simp) u⟩, ⟨h.a.set_other (by simp) u, p2, h.b.setCell (by simp) u⟩, ⟨h.a.set_other (by simp) u, p3, h.b.setCell (by simp) u⟩⟩
theorem Two.fill {g : Nat} {w W : World} {v0 v1 v2 v3 v4 : Value} (h : Two g w W v0 v1 v2 v3 v4) (u0 u1 u2 u3 u4 : Value) :
    BoxV 49 (((((W.setCell ⟨g, 0, none⟩ u0).setCell ⟨g, 1, none⟩ u1).setCell ⟨g, 2, none⟩ u2).setCell ⟨g, 3, none⟩ u3).setCell ⟨g, 4, none⟩ u4) g #[u0, u1, u2, u3, u4] ∧
    Below g w (((((W.setCell ⟨g, 0, none⟩ u0).setCell ⟨g, 1, none⟩ u1).setCell ⟨g, 2, none⟩ u2).setCell ⟨g, 3, none⟩ u3).setCell ⟨g, 4, none⟩ u4) :=
  ⟨h.a.fill5 u0 u1 u2 u3 u4, ((((h.b.setCell (by simp) _).setCell (by simp) _).setCell (by simp) _).setCell (by simp) _).setCell (by simp) _⟩
def CutRPost (w : World) (r : Lg) (b : List UInt8) (e : Ending) (w' : World) : Prop := e = .returned (.tuple #[.agg #[.int .i64 r.1, .int .i64 r.2.1, .int .i64 r.2.2.1, .string r.2.2.2.1, .bool r.2.2.2.2], .string ⟨b.toArray⟩]) ∧ Below w.heap.size w w'

set_option maxHeartbeats 2000000 in
set_option maxRecDepth 20000 in
theorem cutRow_any (s : ByteArray) (hm : s.size ≤ 1048576) (w : World) :
    Calls Tryd.prog 98 #[.string s] w (CutRPost w (rowU (bl s)) (rowR (bl s))) := by
  unfold CutRPost rowU rowR
  obtain ⟨m, hm4⟩ : ∃ m : Nat, m = min s.size 4 := ⟨_, rfl⟩
  have hmn : min (s.size : Int) 4 = (m : Int) := by omega
  have hmle : m ≤ s.size := by omega
  have hdr : (bl s).drop 4 = (bl s).drop m := by
    by_cases h : 4 ≤ s.size
    · rw [show m = 4 by omega]
    · rw [show m = s.size by omega, List.drop_of_length_le (by rw [bl_len]; omega), List.drop_of_length_le (by rw [bl_len]; omega)]
  obtain ⟨s1, hs1⟩ : ∃ s1 : ByteArray, s1 = ⟨((bl s).drop m).toArray⟩ := ⟨_, rfl⟩
  have e1 : s.extract m s.size = s1 := by rw [hs1]; exact ext_drop s m
  have hl1 : s1.size ≤ 1048576 := by rw [hs1, size_of, List.length_drop, bl_len]; omega
  have b1 : (bl s).drop 4 = bl s1 := by rw [hdr, hs1]; rfl
  rw [b1]
  have k1 := cutVr_le (bl s1)
  rw [bl_len] at k1
  have H1 := hide (fun W => cutVar_any s1 hl1 W)
  obtain ⟨x1, hx1⟩ : ∃ x1, x1 = cutVn (bl s1) := ⟨_, rfl⟩
  obtain ⟨R1, hR1⟩ : ∃ R1, R1 = cutVr (bl s1) := ⟨_, rfl⟩
  rw [← hR1] at k1
  rw [← hx1, ← hR1] at H1
  rw [← hx1, ← hR1]
  have k2 := cutVr_le R1
  have H2 := hide (fun W => cutVar_any ⟨R1.toArray⟩ (by rw [size_of]; omega) W)
  rw [bl_of R1] at H2
  obtain ⟨x2, hx2⟩ : ∃ x2, x2 = cutVn R1 := ⟨_, rfl⟩
  obtain ⟨R2, hR2⟩ : ∃ R2, R2 = cutVr R1 := ⟨_, rfl⟩
  rw [← hR2] at k2
  rw [← hx2, ← hR2] at H2
  rw [← hx2, ← hR2]
  have k3 := cutVr_le R2
  have H3 := hide (fun W => cutVar_any ⟨R2.toArray⟩ (by rw [size_of]; omega) W)
  rw [bl_of R2] at H3
  obtain ⟨x3, hx3⟩ : ∃ x3, x3 = cutVn R2 := ⟨_, rfl⟩
  obtain ⟨R3, hR3⟩ : ∃ R3, R3 = cutVr R2 := ⟨_, rfl⟩
  rw [← hR3] at k3
  rw [← hx3, ← hR3] at H3
  rw [← hx3, ← hR3]
  have H4 := hide (fun W => cutText_any ⟨R3.toArray⟩ (by rw [size_of]; omega) W)
  rw [bl_of R3] at H4
  obtain ⟨X4, hX4⟩ : ∃ X4, X4 = cutT R3 := ⟨_, rfl⟩
  obtain ⟨R4, hR4⟩ : ∃ R4, R4 = cutR R3 := ⟨_, rfl⟩
  rw [← hX4, ← hR4] at H4
  rw [← hX4, ← hR4]
  unfold CutVPost at H1 H2 H3
  unfold CutPost at H4
  clear hm4 hdr hs1 b1 hx1 hR1 hx2 hR2 hx3 hR3 hX4 hR4 k1 k2 k3 hl1
  go_enter Tryd.func98, Tryd.ntmps98
  go_upto_region 2 with (fail)
  go_cut [5] (fun q wc => q = .string s1 ∧ wc = (w.alloc (.cells #[.int .i64 0, .int .i64 0, .int .i64 0, .string ⟨#[]⟩, .bool false] 49)).alloc (.cells #[.int .i64 0, .int .i64 0, .int .i64 0, .string ⟨#[]⟩, .bool false] 49))
  case first =>
    by_cases h4 : (4 : Int) < s.size
    · obtain rfl : m = 4 := by omega
      go_wp2_with fail
      go_meet
      case rel => exact ⟨rfl, rfl⟩
    · obtain rfl : m = s.size := by omega
      have e2 : ByteArray.empty = s1 := by rw [← e1]; simp
      go_wp2_with fail
      go_meet
      case rel => exact ⟨rfl, rfl⟩
  case rest =>
  obtain ⟨rfl, rfl⟩ := hcut
  go_wp2_with fail
  refine (H1.out _).mono ?_
  rintro e w1 ⟨rfl, hb1⟩
  have HT := hide (show Two w.heap.size w w1 (.int .i64 0) (.int .i64 0) (.int .i64 0) (.string ⟨#[]⟩) (.bool false) from ⟨(two_boxR hb1).1, (two_boxR hb1).2.1, (two_boxR hb1).2.2⟩)
  clear hb1 H1 e1 hmn hmle
  obtain ⟨c0, c1, c2, c3, c4⟩ := HT.out.x.five
  have z0 := HT.out.x.frozen 0
  have hlt := HT.out.x.lt
  go_wp2_with fail
  have HT1 := hide (HT.out.put (.int .i64 x1)).1
  clear c0 c1 c2 c3 c4 z0 hlt HT
  refine (H2.out _).mono ?_
  rintro e w2 ⟨rfl, hb2⟩
  have HT2 := hide (Two.call HT1.out.b.size HT1.out hb2)
  clear hb2 HT1 H2
  obtain ⟨c0, c1, c2, c3, c4⟩ := HT2.out.x.five
  have z1 := HT2.out.x.frozen 1
  have hlt := HT2.out.x.lt
  go_wp2_with fail
  have HT3 := hide (HT2.out.put (.int .i64 x2)).2.1
  clear c0 c1 c2 c3 c4 z1 hlt HT2
  refine (H3.out _).mono ?_
  rintro e w3 ⟨rfl, hb3⟩
  have HT4 := hide (Two.call HT3.out.b.size HT3.out hb3)
  clear hb3 HT3 H3
  obtain ⟨c0, c1, c2, c3, c4⟩ := HT4.out.x.five
  have z2 := HT4.out.x.frozen 2
  have hlt := HT4.out.x.lt
  go_wp2_with fail
  have HT5 := hide (HT4.out.put (.int .i64 x3)).2.2.1
  clear c0 c1 c2 c3 c4 z2 hlt HT4
  refine (H4.out _).mono ?_
  rintro e w4 ⟨rfl, hb4⟩
  have HT6 := hide (Two.call HT5.out.b.size HT5.out hb4)
  clear hb4 HT5 H4
  have z3 := HT6.out.x.frozen 3
  have hlt6 := HT6.out.x.lt
  obtain ⟨d0, d1, d2, d3, d4⟩ := HT6.out.x.five
  go_upto_region 7 with (fail)
  clear d0 d1 d2 d3 d4 hlt6
  have HT7 := hide (HT6.out.put (.string ⟨X4.toArray⟩)).2.2.2
  obtain ⟨c0, c1, c2, c3, c4⟩ := HT7.out.x.five
  obtain ⟨p0, p1, p2, p3, p4⟩ := HT7.out.a.five
  have y0 := HT7.out.a.frozen 0
  have y1 := HT7.out.a.frozen 1
  have y2 := HT7.out.a.frozen 2
  have y3 := HT7.out.a.frozen 3
  have y4 := HT7.out.a.frozen 4
  have hlt := HT7.out.x.lt
  obtain ⟨W7, hW7⟩ : ∃ W7, W7 = w4.setCell ⟨w.heap.size + 1, 3, none⟩ (.string ⟨X4.toArray⟩) := ⟨_, rfl⟩
  rw [← hW7] at HT7 c0 c1 c2 c3 c4 p0 p1 p2 p3 p4 y0 y1 y2 y3 y4 hlt ⊢
  clear hW7 HT6 z3
  go_wp2_with fail
  obtain ⟨f1, f2⟩ := HT7.out.fill (.int .i64 x1) (.int .i64 x2) (.int .i64 x3) (.string ⟨X4.toArray⟩) (.bool false)
  exact bodyPost_ret (res_row rfl _ _ w.heap.size rfl f1 _ rfl) rfl ⟨rfl, f2⟩

end Go.Proofs.YtakjjfbocokpaaaDoor
