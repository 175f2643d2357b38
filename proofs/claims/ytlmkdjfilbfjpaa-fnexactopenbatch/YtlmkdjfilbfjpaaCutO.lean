/-
  Contract of impl.cutOp.
-/
import Derived.Test.YtlmkdjfilbfjpaaCutI
namespace Go.Proofs.Ytlmkdjfilbfjpaa
open Go.ChangeShapes Go.WideShapes Go.ChangeAt Go.RowKit

theorem two_boxV {w w1 : World} {T U : TypeId} {A B : Array Value} (h : Below ((w.alloc (.cells A T)).alloc (.cells B U)).heap.size ((w.alloc (.cells A T)).alloc (.cells B U)) w1) :
    BoxV T w1 w.heap.size A ∧ BoxV U w1 (w.heap.size + 1) B ∧ Below w.heap.size w w1 := by
  have h1 : BoxV T ((w.alloc (.cells A T)).alloc (.cells B U)) w.heap.size A := (BoxV.new T w A).alloc _
  have h2 : BoxV U ((w.alloc (.cells A T)).alloc (.cells B U)) (w.heap.size + 1) B := by
    have := BoxV.new U (w.alloc (.cells A T)) B
    rwa [Go.Deep.nblk_alloc] at this
  refine ⟨h1.below h h1.lt, h2.below h h2.lt, ?_⟩
  have h3 := ((Below.refl w.heap.size w).alloc (Nat.le_refl _) (.cells A T)).alloc (by rw [Go.Deep.nblk_alloc]; omega) (.cells B U)
  exact h3.trans (h.mono h3.size)

set_option maxHeartbeats 1000000 in
set_option maxRecDepth 20000 in
theorem cutOp_any (s : ByteArray) (hm : s.size ≤ 1048576) (w : World) :
    Calls Try.prog 54 #[.string s] w (CutOPost w (cutO (bl s)) (cutS (bl s))) := by
  by_cases h0 : bl s = []
  · have hs : s = ⟨#[]⟩ := ba_ext h0
    subst hs
    rw [show cutO (bl ⟨#[]⟩) = (⟨#[]⟩, false, ⟨#[]⟩) from rfl, show cutS (bl ⟨#[]⟩) = [] from rfl]
    clear h0
    go_enter Try.func54, Try.ntmps54
    go_wp2_with fail
    refine bodyPost_ret (res_op rfl _ _ w.heap.size rfl (BoxV.new 41 w #[.string ⟨#[]⟩, .bool false, .string ⟨#[]⟩]) (.string ⟨#[]⟩) rfl) rfl ?_
    exact ⟨rfl, (Below.refl _ w).alloc (Nat.le_refl _) _⟩
  have hpos : 0 < s.size := by
    rw [← bl_len]
    exact List.length_pos_iff.2 h0
  have hse : (s.toList.isEmpty) = false := by
    rw [ByteArray.toList_eq, List.isEmpty_eq_false_iff]
    exact h0
  obtain ⟨s1, hs1⟩ : ∃ s1 : ByteArray, s1 = ⟨((bl s).drop 1).toArray⟩ := ⟨_, rfl⟩
  have e1 : s.extract 1 s.size = s1 := by rw [hs1]; exact ext_drop s 1
  have hl1 : s1.size ≤ 1048576 := by rw [hs1, size_of, List.length_drop, bl_len]; omega
  have b1 : bl s1 = (bl s).drop 1 := by rw [hs1]; rfl
  have HC := hide (fun W => cutText_any s1 hl1 W)
  unfold CutPost at HC
  rw [b1] at HC
  by_cases h1 : (bl s).take 1 = [1]
  · obtain ⟨d1, d2⟩ := cutO_del h0 h1
    rw [d1, d2]
    obtain ⟨T, hT⟩ : ∃ T, T = cutT ((bl s).drop 1) := ⟨_, rfl⟩
    obtain ⟨R, hR⟩ : ∃ R, R = cutR ((bl s).drop 1) := ⟨_, rfl⟩
    rw [← hT, ← hR] at HC ⊢
    have he : s.extract 0 1 = ⟨#[1]⟩ := (ext_take s 1).trans (by rw [h1])
    clear d1 d2 hT hR hs1 b1 h0 h1
    go_enter Try.func54, Try.ntmps54
    go_wp2_with fail
    refine (HC.out _).mono ?_
    rintro e w1 ⟨rfl, hb1⟩
    obtain ⟨hA, hB, hb⟩ := two_boxV hb1
    have HA := hide hA
    have HB := hide hB
    have HB1 := hide hb
    clear hb1 hA hB hb HC
    obtain ⟨c0, c1, c2⟩ := HB.out.three
    obtain ⟨p0, p1, p2⟩ := HA.out.three
    have z0 := HB.out.frozen 0
    have y0 := HA.out.frozen 0
    have y1 := HA.out.frozen 1
    have y2 := HA.out.frozen 2
    have hlt := HB.out.lt
    go_wp2_with fail
    refine bodyPost_ret (res_op rfl _ _ w.heap.size rfl (((((HA.out.set_other (p := ⟨w.heap.size + 1, 0, none⟩) (by simp) _).set _).set _).set _)) _ rfl) rfl ?_
    exact ⟨rfl, (((HB1.out.setCell (by simp) _).setCell (by simp) _).setCell (by simp) _).setCell (by simp) _⟩
  · obtain ⟨d1, d2⟩ := cutO_put h0 h1
    rw [d1, d2]
    obtain ⟨T, hT⟩ : ∃ T, T = cutT ((bl s).drop 1) := ⟨_, rfl⟩
    obtain ⟨R, hR⟩ : ∃ R, R = cutR ((bl s).drop 1) := ⟨_, rfl⟩
    rw [← hT, ← hR] at HC ⊢
    have hRl : R.length ≤ 1048576 := by
      have := cutR_le ((bl s).drop 1)
      rw [← hR, List.length_drop, bl_len] at this
      omega
    have HC2 := hide (fun W => cutText_any ⟨R.toArray⟩ (by rw [size_of]; exact hRl) W)
    unfold CutPost at HC2
    rw [bl_of] at HC2
    have he : s.extract 0 1 = ⟨((bl s).take 1).toArray⟩ := ext_take s 1
    obtain ⟨F, hF⟩ : ∃ F, F = (bl s).take 1 := ⟨_, rfl⟩
    rw [← hF] at he h1
    have hF1 : (F == [1]) = false := by rw [beq_eq_false_iff_ne]; exact h1
    clear d1 d2 hT hR hs1 b1 h0 h1 hF
    obtain ⟨T2, hT2⟩ : ∃ T2, T2 = cutT R := ⟨_, rfl⟩
    obtain ⟨R2, hR2⟩ : ∃ R2, R2 = cutR R := ⟨_, rfl⟩
    rw [← hT2, ← hR2] at HC2 ⊢
    clear hT2 hR2
    go_enter Try.func54, Try.ntmps54
    go_wp2_with fail
    refine (HC.out _).mono ?_
    rintro e w1 ⟨rfl, hb1⟩
    obtain ⟨hA, hB, hb⟩ := two_boxV hb1
    have HA := hide hA
    have HB := hide hB
    have HB1 := hide hb
    clear hb1 hA hB hb HC
    obtain ⟨c0, c1, c2⟩ := HB.out.three
    have z0 := HB.out.frozen 0
    have hlt := HB.out.lt
    go_wp2_with fail
    have HA1 := hide (HA.out.set_other (p := ⟨w.heap.size + 1, 0, none⟩) (by simp) (.string ⟨T.toArray⟩))
    have HX1 := hide (HB.out.set (i := 0) (.string ⟨T.toArray⟩))
    have HB2 := hide (HB1.out.setCell (p := ⟨w.heap.size + 1, 0, none⟩) (by simp) (.string ⟨T.toArray⟩))
    clear c0 c1 c2 z0 hlt HA HB HB1
    refine (HC2.out _).mono ?_
    rintro e w2 ⟨rfl, hb2⟩
    have HA2 := hide (HA1.out.below hb2 HA1.out.lt)
    have HX2 := hide (HX1.out.below hb2 HX1.out.lt)
    have HB3 := hide (HB2.out.trans (hb2.mono HB2.out.size))
    clear hb2 HA1 HX1 HB2 HC2
    obtain ⟨c0, c1, c2⟩ := HX2.out.three
    obtain ⟨p0, p1, p2⟩ := HA2.out.three
    have z2 := HX2.out.frozen 2
    have y0 := HA2.out.frozen 0
    have y1 := HA2.out.frozen 1
    have y2 := HA2.out.frozen 2
    have hlt := HX2.out.lt
    go_wp2_with fail
    refine bodyPost_ret (res_op rfl _ _ w.heap.size rfl (((((HA2.out.set_other (p := ⟨w.heap.size + 1, 2, none⟩) (by simp) _).set _).set _).set _)) _ rfl) rfl ?_
    exact ⟨rfl, (((HB3.out.setCell (by simp) _).setCell (by simp) _).setCell (by simp) _).setCell (by simp) _⟩
end Go.Proofs.Ytlmkdjfilbfjpaa
