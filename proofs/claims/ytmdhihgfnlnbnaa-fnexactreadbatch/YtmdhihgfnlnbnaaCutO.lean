/-
  Contract of impl.cutOp.
-/
import Derived.Test.YtmdhihgfnlnbnaaCutI
import Derived.Test.YtmdhihgfnlnbnaaCutM
import Derived.Deep.DeepCutAuto
namespace Go.Proofs.Ytmdhihgfnlnbnaa
open Go.ChangeShapes Go.WideShapes Go.ChangeAt Go.RowKit

theorem cutTR_nil : cutT [] = [] ∧ cutR [] = [] := by decide
theorem cutO_as (l : List UInt8) : (decide (l.take 1 = [1]) = true → cutO l = (⟨(cutT (l.drop 1)).toArray⟩, true, ⟨#[]⟩) ∧ cutS l = cutR (l.drop 1)) ∧
    (decide (l.take 1 = [1]) = false → cutO l = (⟨(cutT (l.drop 1)).toArray⟩, false, ⟨(cutT (cutR (l.drop 1))).toArray⟩) ∧ cutS l = cutR (cutR (l.drop 1))) := by
  by_cases h0 : l = []
  · subst h0
    exact ⟨fun h => absurd h (by decide), fun _ => by decide⟩
  · exact ⟨fun h => cutO_del h0 (of_decide_eq_true h), fun h => cutO_put h0 (of_decide_eq_false h)⟩
/-- behind some calls: the result's box still zero, the operation's box, nothing old turned -/
structure TwoO (w w' : World) (vs : Array Value) : Prop where
  a : BoxV 62 w' w.heap.size #[.string ⟨#[]⟩, .bool false, .string ⟨#[]⟩]
  b : BoxV 62 w' (w.heap.size + 1) vs
  below : Below w.heap.size w w'
theorem TwoO.step {B : Nat} {w w' w2 : World} {vs : Array Value} (h : TwoO w w' vs) (hb : Below B w' w2) (hB : w'.heap.size ≤ B) : TwoO w w2 vs :=
  ⟨h.a.below hb (Nat.lt_of_lt_of_le h.a.lt hB), h.b.below hb (Nat.lt_of_lt_of_le h.b.lt hB), h.below.trans (hb.mono (Nat.le_trans h.below.size hB))⟩
theorem TwoO.set {w w' : World} {vs : Array Value} (h : TwoO w w' vs) (i : Nat) (u : Value) : TwoO w (w'.setCell ⟨w.heap.size + 1, i, none⟩ u) (vs.setIfInBounds i u) :=
  ⟨h.a.set_other (p := ⟨w.heap.size + 1, i, none⟩) (by show w.heap.size + 1 ≠ w.heap.size; omega) u, h.b.set u, h.below.setCell (p := ⟨w.heap.size + 1, i, none⟩) (by show w.heap.size ≤ w.heap.size + 1; omega) u⟩

set_option maxHeartbeats 1000000 in
set_option maxRecDepth 20000 in
theorem cutOp_any (s : ByteArray) (hm : s.size ≤ 1048576) (w : World) :
    Calls Try.prog 80 #[.string s] w (CutOPost w (cutO (bl s)) (cutS (bl s))) := by
  obtain ⟨hdel, hput⟩ := cutO_as (bl s)
  have HC1 := hide (fun W => cutMark_any s W)
  unfold CutMPost at HC1
  obtain ⟨d, hd⟩ : ∃ d, d = decide ((bl s).take 1 = [1]) := ⟨_, rfl⟩
  rw [← hd] at HC1 hdel hput
  obtain ⟨l1, hl1⟩ : ∃ l1, l1 = (bl s).drop 1 := ⟨_, rfl⟩
  have k1 : l1.length ≤ s.size := by rw [hl1, List.length_drop, bl_len]; omega
  rw [← hl1] at HC1 hdel hput
  have HC2 := hide (fun W => cutText_any ⟨l1.toArray⟩ (by rw [size_of l1]; omega) W)
  unfold CutPost at HC2
  rw [bl_of l1] at HC2
  obtain ⟨r, hr⟩ : ∃ r, r = cutT l1 := ⟨_, rfl⟩
  obtain ⟨l2, hl2⟩ : ∃ l2, l2 = cutR l1 := ⟨_, rfl⟩
  have k2 : l2.length ≤ l1.length := by rw [hl2]; exact cutR_le _
  rw [← hr, ← hl2] at HC2 hdel hput
  have HC3 := hide (fun W => cutText_any ⟨l2.toArray⟩ (by rw [size_of l2]; omega) W)
  unfold CutPost at HC3
  rw [bl_of l2] at HC3
  have HT0 := hide (fun (w' : World) (h : Below ((w.alloc (.cells #[.string ⟨#[]⟩, .bool false, .string ⟨#[]⟩] 62)).alloc (.cells #[.string ⟨#[]⟩, .bool false, .string ⟨#[]⟩] 62)).heap.size ((w.alloc (.cells #[.string ⟨#[]⟩, .bool false, .string ⟨#[]⟩] 62)).alloc (.cells #[.string ⟨#[]⟩, .bool false, .string ⟨#[]⟩] 62)) w') => show TwoO w w' _ from by
    obtain ⟨h1, h2, h3⟩ := two_boxV h
    exact ⟨h1, h2, h3⟩)
  unfold CutOPost
  cases d with
  | true =>
    rw [(hdel rfl).1, (hdel rfl).2]
    clear hdel hput hd hl1 hr hl2 k1 k2
    go_enter Try.func80, Try.ntmps80
    go_wp2_with fail
    refine (HC1.out _).mono ?_
    rintro e w1 ⟨rfl, hb1⟩
    have HT1 := hide (HT0.out _ hb1)
    clear hb1 HT0
    have c1 := HT1.out.b.cell 1 _ rfl
    have z1 := HT1.out.b.frozen 1
    have hlt := HT1.out.b.lt
    go_wp2_with fail
    have HT2 := hide (HT1.out.set 1 (.bool true))
    clear c1 z1 hlt HT1
    refine (HC2.out _).mono ?_
    rintro e w2 ⟨rfl, hb2⟩
    have HT3 := hide (HT2.out.step hb2 (Nat.le_refl _))
    clear hb2 HT2
    have c0 := HT3.out.b.cell 0 _ rfl
    have z0 := HT3.out.b.frozen 0
    have hlt := HT3.out.b.lt
    go_upto_region 4 with (fail)
    have HT4 := hide (HT3.out.set 0 (.string ⟨r.toArray⟩))
    clear c0 z0 hlt HT3
    obtain ⟨W, hW⟩ : ∃ W, W = w2.setCell ⟨w.heap.size + 1, 0, none⟩ (.string ⟨r.toArray⟩) := ⟨_, rfl⟩
    rw [← hW] at HT4 ⊢
    clear hW
    have hB : BoxV 62 W (w.heap.size + 1) #[.string ⟨r.toArray⟩, .bool true, .string ⟨#[]⟩] := HT4.out.b
    obtain ⟨p0, p1, p2⟩ := hB.three
    obtain ⟨a0, a1, a2⟩ := HT4.out.a.three
    have y0 := HT4.out.a.frozen 0
    have y1 := HT4.out.a.frozen 1
    have y2 := HT4.out.a.frozen 2
    have hlt := HT4.out.a.lt
    clear hB
    go_wp2_with fail
    refine bodyPost_ret (res_op rfl _ _ w.heap.size rfl (((HT4.out.a.set _).set _).set _) _ rfl) rfl ?_
    exact ⟨rfl, ((HT4.out.below.setCell (p := ⟨w.heap.size, 0, none⟩) (by simp) _).setCell (p := ⟨w.heap.size, 1, none⟩) (by simp) _).setCell (p := ⟨w.heap.size, 2, none⟩) (by simp) _⟩
  | false =>
    rw [(hput rfl).1, (hput rfl).2]
    obtain ⟨v, hv⟩ : ∃ v, v = cutT l2 := ⟨_, rfl⟩
    obtain ⟨l3, hl3⟩ : ∃ l3, l3 = cutR l2 := ⟨_, rfl⟩
    rw [← hv, ← hl3] at HC3 ⊢
    clear hdel hput hd hl1 hr hl2 k1 k2 hv hl3
    go_enter Try.func80, Try.ntmps80
    go_wp2_with fail
    refine (HC1.out _).mono ?_
    rintro e w1 ⟨rfl, hb1⟩
    have HT1 := hide (HT0.out _ hb1)
    clear hb1 HT0
    have c1 := HT1.out.b.cell 1 _ rfl
    have z1 := HT1.out.b.frozen 1
    have hlt := HT1.out.b.lt
    go_wp2_with fail
    have HT2 := hide (HT1.out.set 1 (.bool false))
    clear c1 z1 hlt HT1
    refine (HC2.out _).mono ?_
    rintro e w2 ⟨rfl, hb2⟩
    have HT3 := hide (HT2.out.step hb2 (Nat.le_refl _))
    clear hb2 HT2
    have c0 := HT3.out.b.cell 0 _ rfl
    have z0 := HT3.out.b.frozen 0
    have hlt := HT3.out.b.lt
    go_upto_region 4 with (fail)
    have HT4 := hide (HT3.out.set 0 (.string ⟨r.toArray⟩))
    clear c0 z0 hlt HT3
    obtain ⟨W, hW⟩ : ∃ W, W = w2.setCell ⟨w.heap.size + 1, 0, none⟩ (.string ⟨r.toArray⟩) := ⟨_, rfl⟩
    rw [← hW] at HT4 ⊢
    clear hW
    have hB : BoxV 62 W (w.heap.size + 1) #[.string ⟨r.toArray⟩, .bool false, .string ⟨#[]⟩] := HT4.out.b
    obtain ⟨p0, p1, p2⟩ := hB.three
    clear hB
    go_wp2_with fail
    refine (HC3.out _).mono ?_
    rintro e w3 ⟨rfl, hb3⟩
    have HT5 := hide (HT4.out.step hb3 (Nat.le_refl _))
    clear hb3 HT4 p0 p1 p2
    have c2 := HT5.out.b.cell 2 _ rfl
    have z2 := HT5.out.b.frozen 2
    have hlt := HT5.out.b.lt
    go_upto_region 6 with (fail)
    have HT6 := hide (HT5.out.set 2 (.string ⟨v.toArray⟩))
    clear c2 z2 hlt HT5
    obtain ⟨W2, hW2⟩ : ∃ W2, W2 = w3.setCell ⟨w.heap.size + 1, 2, none⟩ (.string ⟨v.toArray⟩) := ⟨_, rfl⟩
    rw [← hW2] at HT6 ⊢
    clear hW2
    have hB : BoxV 62 W2 (w.heap.size + 1) #[.string ⟨r.toArray⟩, .bool false, .string ⟨v.toArray⟩] := HT6.out.b
    obtain ⟨p0, p1, p2⟩ := hB.three
    obtain ⟨a0, a1, a2⟩ := HT6.out.a.three
    have y0 := HT6.out.a.frozen 0
    have y1 := HT6.out.a.frozen 1
    have y2 := HT6.out.a.frozen 2
    have hlt := HT6.out.a.lt
    clear hB
    go_wp2_with fail
    refine bodyPost_ret (res_op rfl _ _ w.heap.size rfl (((HT6.out.a.set _).set _).set _) _ rfl) rfl ?_
    exact ⟨rfl, ((HT6.out.below.setCell (p := ⟨w.heap.size, 0, none⟩) (by simp) _).setCell (p := ⟨w.heap.size, 1, none⟩) (by simp) _).setCell (p := ⟨w.heap.size, 2, none⟩) (by simp) _⟩
end Go.Proofs.Ytmdhihgfnlnbnaa
