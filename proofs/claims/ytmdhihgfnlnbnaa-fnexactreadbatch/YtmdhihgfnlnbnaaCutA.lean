/-
  Contract of impl.cutText.
-/
import Derived.Test.YtmdhihgfnlnbnaaMathJ
import Derived.Test.YtmdhihgfnlnbnaaReadVarI
import Derived.Test.YtmdhihgfnlnbnaaTakeS
import Derived.Test.YtmdhihgfnlnbnaaStrK
namespace Go.Proofs.Ytmdhihgfnlnbnaa
open Go.ChangeShapes Go.WideShapes Go.ChangeAt Go.RowKit

def CutPost (w : World) (a b : List UInt8) (e : Ending) (w' : World) : Prop := e = .returned (.tuple #[.string ⟨a.toArray⟩, .string ⟨b.toArray⟩]) ∧ Below w.heap.size w w'
set_option maxHeartbeats 1000000 in
set_option maxRecDepth 20000 in
theorem cutText_any (s : ByteArray) (hm : s.size ≤ 1048576) (w : World) :
    Calls Try.prog 96 #[.string s] w (CutPost w (cutT (bl s)) (cutR (bl s))) := by
  have HC := hide (fun W => iReadVar_any s W (by unfold maxLen; omega))
  unfold RvPost at HC
  obtain ⟨x, n, hr⟩ : ∃ x n, readVarL (bl s) = (x, n) := ⟨_, _, rfl⟩
  obtain ⟨hx, hn⟩ := readVarL_le (bl s)
  rw [hr, bl_len] at hn
  rw [hr] at HC hx
  simp only at hx hn HC
  by_cases hf : (s.size : Int) - n < x
  · obtain ⟨e1, e2⟩ := cut_far hr (by rw [bl_len]; exact hf)
    rw [e1, e2]
    unfold CutPost
    rw [str_of]
    have hd : decide ((s.size : Int) - n < x) = true := decide_eq_true hf
    clear e1 e2 hr
    go_enter Try.func96, Try.ntmps96
    go_wp2_with fail
    refine (HC.out _).mono ?_
    rintro e w1 ⟨rfl, hb1⟩
    have HB1 := hide hb1
    clear hb1
    go_wp2_with fail
    go_ret2
    exact ⟨rfl, HB1.out⟩
  · obtain ⟨e1, e2⟩ := cut_near hr (by rw [bl_len]; exact hf)
    rw [e1, e2]
    have hd : decide ((s.size : Int) - n < x) = false := decide_eq_false hf
    have hnx : n + x ≤ s.size := by omega
    have HT := hide (ext_mid s n x)
    have HU := hide (ext_drop s (n + x))
    obtain ⟨T, hT⟩ : ∃ T, T = ((bl s).drop n).take x := ⟨_, rfl⟩
    obtain ⟨U, hU⟩ : ∃ U, U = (bl s).drop (n + x) := ⟨_, rfl⟩
    rw [← hT] at HT
    rw [← hU] at HU
    rw [← hT, ← hU]
    clear e1 e2 hr hT hU hf
    unfold CutPost
    go_enter Try.func96, Try.ntmps96
    go_wp2_with fail
    refine (HC.out _).mono ?_
    rintro e w1 ⟨rfl, hb1⟩
    have HB1 := hide hb1
    clear hb1
    go_wp2_with fail
    go_region
    all_goals go_wp2_with fail
    all_goals go_ret2
    all_goals exact ⟨by rw [← HT.out, ← HU.out]; rfl, HB1.out.drew⟩

end Go.Proofs.Ytmdhihgfnlnbnaa
