/-
  Contract of spec.ChaBlock, whatever its arguments.
-/
import Derived.Test.YtakjjfbocokpaaaDoorChaS
import Derived.Test.YtakjjfbocokpaaaDoorChaJ
namespace Go.Proofs.YtakjjfbocokpaaaDoor
open Go.ChangeShapes Go.WideShapes Go.ChangeAt Go.RowKit
set_option maxRecDepth 100000

theorem sBlock_no (k n : ByteArray) (c : Int) (w : World) (h : ¬ BlockOk (bl k) c (bl n)) :
    Calls Tryd.prog 90 #[.string k, .int .i64 c, .string n] w (StrPost w []) := by
  unfold BlockOk at h
  rw [bl_len, bl_len] at h
  cases d1 : ((k.size : Int) != 32) <;> cases d2 : ((n.size : Int) != 12) <;> cases d3 : (decide (0 ≤ c) && decide (c ≤ 4294967295))
  all_goals first
    | (exfalso; simp at d1 d2 d3; omega)
    | (clear h
       go_enter Tryd.func90, Tryd.ntmps90
       go_wp2_with (go_at_call 52; refine (l1In_any _ _ _ _).mono ?_; rw [d3]; rintro e w' ⟨rfl, rfl⟩)
       go_ret
       exact ⟨rfl, Below.refl _ _⟩)

theorem sBlock_any (k n : ByteArray) (c : Int) (w : World) :
    Calls Tryd.prog 90 #[.string k, .int .i64 c, .string n] w (StrPost w (blockV (bl k) c (bl n))) := by
  unfold blockV
  split
  · rename_i h
    obtain ⟨h1, h2, h3, h4⟩ := h
    rw [bl_len] at h1 h2
    have hB := sBlock_in k n c.toNat w h1 h2 (by omega)
    rw [Int.toNat_of_nonneg h3] at hB
    have HB := hide hB
    have d1 : ((k.size : Int) != 32) = false := by rw [h1]; rfl
    have d2 : ((n.size : Int) != 12) = false := by rw [h2]; rfl
    have d3 : (decide (0 ≤ c) && decide (c ≤ 4294967295)) = true := by simp; omega
    clear hB h1 h2 h3 h4
    go_enter Tryd.func90, Tryd.ntmps90
    go_wp2_with (first | (go_at_call 52; refine (l1In_any _ _ _ _).mono ?_; rw [d3]; rintro e w' ⟨rfl, rfl⟩) | (go_at_call 111; refine HB.out.mono ?_; rintro e w1 ⟨rfl, hb1⟩; have HB1 := hide hb1; clear hb1))
    go_ret
    exact ⟨rfl, HB1.out⟩
  · rename_i h; exact sBlock_no k n c w h
end Go.Proofs.YtakjjfbocokpaaaDoor
