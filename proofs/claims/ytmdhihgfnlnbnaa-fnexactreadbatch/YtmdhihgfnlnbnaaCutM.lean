/-
  Contract of impl.cutMark.
-/
import Derived.Test.YtmdhihgfnlnbnaaCutA
import Derived.Test.YtmdhihgfnlnbnaaMkO
namespace Go.Proofs.Ytmdhihgfnlnbnaa
open Go.ChangeShapes Go.WideShapes Go.ChangeAt Go.RowKit

def CutMPost (w : World) (d : Bool) (b : List UInt8) (e : Ending) (w' : World) : Prop := e = .returned (.tuple #[.bool d, .string ⟨b.toArray⟩]) ∧ Below w.heap.size w w'
theorem cutMark_any (s : ByteArray) (w : World) :
    Calls Try.prog 95 #[.string s] w (CutMPost w (decide ((bl s).take 1 = [1])) ((bl s).drop 1)) := by
  unfold CutMPost
  by_cases h0 : bl s = []
  · have hs : s = ⟨#[]⟩ := ba_ext h0
    subst hs
    rw [show decide ((bl ⟨#[]⟩).take 1 = [1]) = false from rfl, show (bl ⟨#[]⟩).drop 1 = [] from rfl]
    clear h0
    go_enter Try.func95, Try.ntmps95
    go_wp2_with fail
    go_ret2
    exact ⟨rfl, Below.refl _ _⟩
  have hpos : 0 < s.size := by
    rw [← bl_len]
    exact List.length_pos_iff.2 h0
  have hse : (s.toList.isEmpty) = false := by
    rw [ByteArray.toList_eq, List.isEmpty_eq_false_iff]
    exact h0
  have HU := hide (ext_drop s 1)
  obtain ⟨U, hU⟩ : ∃ U, U = (bl s).drop 1 := ⟨_, rfl⟩
  rw [← hU] at HU ⊢
  have he : s.extract 0 1 = ⟨((bl s).take 1).toArray⟩ := ext_take s 1
  obtain ⟨F, hF⟩ : ∃ F, F = (bl s).take 1 := ⟨_, rfl⟩
  rw [← hF] at he ⊢
  clear hU hF h0
  by_cases h1 : F = [1]
  · subst h1
    rw [show decide (([1] : List UInt8) = [1]) = true from rfl]
    go_enter Try.func95, Try.ntmps95
    go_wp2_with fail
    go_region
    all_goals go_wp2_with fail
    all_goals go_ret2
    all_goals exact ⟨by rw [← HU.out]; rfl, (Below.refl _ _).drew⟩
  · have hF1 : (F == [1]) = false := by rw [beq_eq_false_iff_ne]; exact h1
    rw [show decide (F = [1]) = false from decide_eq_false h1]
    clear h1
    go_enter Try.func95, Try.ntmps95
    go_wp2_with fail
    go_region
    all_goals go_wp2_with fail
    all_goals go_ret2
    all_goals exact ⟨by rw [← HU.out]; rfl, (Below.refl _ _).drew⟩
end Go.Proofs.Ytmdhihgfnlnbnaa
