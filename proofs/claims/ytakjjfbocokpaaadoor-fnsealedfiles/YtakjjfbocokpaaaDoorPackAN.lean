/-
  Texts of this proof, put together: FilK.
-/
import Derived.Test.YtakjjfbocokpaaaDoorPackAJ
import Derived.Test.YtakjjfbocokpaaaDoorPackAL
import Derived.Test.YtakjjfbocokpaaaDoorPackAM
import Derived.StillTailTactics

/-
  Contracts of impl.FileKey and spec.FileKey.
-/
namespace Go.Proofs.YtakjjfbocokpaaaDoor
open Go.ChangeShapes Go.WideShapes Go.ChangeAt Go.RowKit

theorem isEmpty_32 (V : List UInt8) (h : V.length = 32) : V.isEmpty = false := by
  cases V
  · simp at h
  · rfl
theorem ne_empty13 {s : ByteArray} (h : bl s ≠ []) : (s.toList == []) = false := by
  rw [beq_eq_false_iff_ne, ByteArray.toList_eq]
  exact h
theorem blockV_len (k : List UInt8) (c : Int) (n : List UInt8) : (blockV k c n).length = 0 ∨ (blockV k c n).length = 64 := by
  unfold blockV
  split
  · exact Or.inr (length_chaB _ _ _)
  · exact Or.inl rfl

set_option maxHeartbeats 1000000 in
set_option maxRecDepth 20000 in
theorem iFileKey_any (m : ByteArray) (n : Int) (w : World) :
    Calls Tryd.prog 37 #[.string m, .int .i64 n] w (StrPost w (fkeyV (bl m) n)) := by
  have hl := blockV_len (bl m) 0 (nonceL 4 n)
  have HBK := hide (fun W => iBlock_any m ⟨(nonceL 4 n).toArray⟩ 0 W)
  rw [bl_of (nonceL 4 n)] at HBK
  unfold fkeyV
  obtain ⟨B, hB⟩ : ∃ B, B = blockV (bl m) 0 (nonceL 4 n) := ⟨_, rfl⟩
  rw [← hB] at HBK hl ⊢
  clear hB
  obtain ⟨X, hX⟩ : ∃ X : ByteArray, X = ⟨B.toArray⟩ := ⟨_, rfl⟩
  have hXs : X.size = B.length := by rw [hX, size_of]
  have hcut := ext_take X 32
  rw [show bl X = B by rw [hX]; rfl] at hcut
  have hbk : ∀ W, Calls Tryd.prog 79 #[.string m, .int .i64 0, .string ⟨(nonceL 4 n).toArray⟩] W fun e w' => e = .returned (.string X) ∧ Below W.heap.size W w' := by rw [hX]; exact HBK.out
  have HB := hide hbk
  clear hX HBK hbk
  rcases hl with hl | hl
  · rw [hl] at hXs
    have h0 : X = ByteArray.empty := by
      obtain ⟨⟨l⟩⟩ := X
      cases l
      · rfl
      · simp [ByteArray.size] at hXs
    subst h0
    have hB0 : B = [] := by
      cases B
      · rfl
      · simp at hl
    subst hB0
    go_enter Tryd.func37, Tryd.ntmps37
    go_wp2_with fail
    refine (iNonce_any 4 n _).mono ?_
    rintro e w1 ⟨rfl, hb1⟩
    have HB1 := hide hb1
    clear hb1
    go_wp2_with fail
    refine (HB.out _).mono ?_
    rintro e w2 ⟨rfl, hb2⟩
    have HB2 := hide (HB1.out.trans (hb2.mono HB1.out.size))
    clear hb2 HB1
    go_wp2_with fail
    go_ret
    exact ⟨rfl, HB2.out⟩
  · rw [hl] at hXs
    go_enter Tryd.func37, Tryd.ntmps37
    go_wp2_with fail
    refine (iNonce_any 4 n _).mono ?_
    rintro e w1 ⟨rfl, hb1⟩
    have HB1 := hide hb1
    clear hb1
    go_wp2_with fail
    refine (HB.out _).mono ?_
    rintro e w2 ⟨rfl, hb2⟩
    have HB2 := hide (HB1.out.trans (hb2.mono HB1.out.size))
    clear hb2 HB1
    go_wp2_with fail
    go_ret
    exact ⟨rfl, HB2.out⟩

set_option maxHeartbeats 1000000 in
set_option maxRecDepth 20000 in
theorem sFileKey_any (m : ByteArray) (n : Int) (w : World) :
    Calls Tryd.prog 77 #[.string m, .int .i64 n] w (StrPost w (fkeyV (bl m) n)) := by
  have hl := blockV_len (bl m) 0 (nonceL 4 n)
  have HBK := hide (fun W => sBlock_any m ⟨(nonceL 4 n).toArray⟩ 0 W)
  rw [bl_of (nonceL 4 n)] at HBK
  unfold fkeyV
  obtain ⟨B, hB⟩ : ∃ B, B = blockV (bl m) 0 (nonceL 4 n) := ⟨_, rfl⟩
  rw [← hB] at HBK hl ⊢
  clear hB
  rcases hl with hl | hl
  · have h0 : B = [] := by cases B; rfl; simp at hl
    subst h0
    go_enter Tryd.func77, Tryd.ntmps77
    go_wp2_with fail
    refine (sNonce_any 4 n _).mono ?_
    rintro e w1 ⟨rfl, hb1⟩
    have HB1 := hide hb1
    clear hb1
    go_wp2_with fail
    refine (HBK.out _).mono ?_
    rintro e w2 ⟨rfl, hb2⟩
    have HB2 := hide (HB1.out.trans (hb2.mono HB1.out.size))
    clear hb2 HB1
    go_wp2_with fail
    go_ret
    exact ⟨rfl, HB2.out⟩
  · obtain ⟨X, hX⟩ : ∃ X : ByteArray, X = ⟨B.toArray⟩ := ⟨_, rfl⟩
    have hXs : X.size = 64 := by rw [hX, size_of, hl]
    have hbX : bl X = B := by rw [hX]; rfl
    have hcut := ext_take X 32
    have hne : (X.toList == []) = false := ne_empty13 (by rw [hbX]; intro h0; rw [h0] at hl; simp at hl)
    rw [hbX] at hcut
    have hbk : ∀ W, Calls Tryd.prog 90 #[.string m, .int .i64 0, .string ⟨(nonceL 4 n).toArray⟩] W fun e w' => e = .returned (.string X) ∧ Below W.heap.size W w' := by rw [hX]; exact HBK.out
    have HB := hide hbk
    clear hX HBK hbk hbX hl
    go_enter Tryd.func77, Tryd.ntmps77
    go_wp2_with fail
    refine (sNonce_any 4 n _).mono ?_
    rintro e w1 ⟨rfl, hb1⟩
    have HB1 := hide hb1
    clear hb1
    go_wp2_with fail
    refine (HB.out _).mono ?_
    rintro e w2 ⟨rfl, hb2⟩
    have HB2 := hide (HB1.out.trans (hb2.mono HB1.out.size))
    clear hb2 HB1
    go_wp2_with fail
    go_ret
    exact ⟨rfl, HB2.out⟩
end Go.Proofs.YtakjjfbocokpaaaDoor
