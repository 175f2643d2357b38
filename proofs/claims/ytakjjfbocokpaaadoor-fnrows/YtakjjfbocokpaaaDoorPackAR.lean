/-
  Texts of this proof, put together: LogC.
-/
import Derived.Test.YtakjjfbocokpaaaDoorPackAO
import Derived.Test.YtakjjfbocokpaaaDoorPackAQ
import Derived.Test.YtakjjfbocokpaaaDoorPackAI

/-
  Contracts of impl.cutVar and of strings.HasPrefix.
-/
namespace Go.Proofs.YtakjjfbocokpaaaDoor
open Go.ChangeShapes Go.WideShapes Go.ChangeAt Go.RowKit

/-- does l open with p? -/
theorem hasPrefix1_any (s p : ByteArray) (w : World) :
    Calls Tryd.prog 99 #[.string s, .string p] w fun e w' => e = .returned (.bool (decide (bl p <+: bl s))) ∧ w = w' := by
  by_cases h : p.size ≤ s.size
  · have h1 : decide ((p.size : Int) ≤ s.size) = true := decide_eq_true (by omega)
    have hx : s.extract 0 p.size = ⟨((bl s).take p.size).toArray⟩ := ext_take s p.size
    have hi : (p.size : Int) ≤ (s.size : Int) := by omega
    by_cases hp : bl p <+: bl s
    · rw [decide_eq_true hp]
      have he : s.extract 0 p.size = p := by
        rw [hx]
        have := List.prefix_iff_eq_take.mp hp
        rw [bl_len] at this
        rw [← this, str_of]
      clear hp hx
      go_enter Tryd.func99, Tryd.ntmps99
      go_wp2_with fail
      all_goals go_ret
      all_goals exact ⟨by simp, rfl⟩
    · rw [decide_eq_false hp]
      obtain ⟨T, hT⟩ : ∃ T, T = (bl s).take p.size := ⟨_, rfl⟩
      rw [← hT] at hx
      have he : (T == p.toList) = false := ne_str fun e => hp (by rw [← e, hT]; exact List.take_prefix _ _)
      clear hp hT
      go_enter Tryd.func99, Tryd.ntmps99
      go_wp2_with fail
      all_goals go_ret
      all_goals exact ⟨by simp, rfl⟩
  · have h1 : decide ((p.size : Int) ≤ s.size) = false := decide_eq_false (by omega)
    rw [decide_eq_false (fun hp => h (by have := hp.length_le; rw [bl_len, bl_len] at this; exact this))]
    go_enter Tryd.func99, Tryd.ntmps99
    go_wp2_with fail
    all_goals go_ret
    all_goals exact ⟨by simp, rfl⟩
theorem hasPrefix_any (s p : ByteArray) (w : World) :
    Calls Tryd.prog 69 #[.string s, .string p] w fun e w' => e = .returned (.bool (decide (bl p <+: bl s))) ∧ w = w' := by
  have H := hide (fun W => hasPrefix1_any s p W)
  obtain ⟨V, hV⟩ : ∃ V, V = decide (bl p <+: bl s) := ⟨_, rfl⟩
  rw [← hV] at H ⊢
  clear hV
  go_enter Tryd.func69, Tryd.ntmps69
  go_wp2_with fail
  refine (H.out _).mono ?_
  rintro e w1 ⟨rfl, rfl⟩
  go_wp2_with fail
  go_ret
  exact ⟨rfl, rfl⟩
end Go.Proofs.YtakjjfbocokpaaaDoor
