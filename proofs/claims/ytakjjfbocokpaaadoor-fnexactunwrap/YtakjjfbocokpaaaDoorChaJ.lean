/-
  Contract of impl.ChaBlock, whatever its arguments.
-/
import Derived.Test.YtakjjfbocokpaaaDoorChaI
import Derived.Test.YtakjjfbocokpaaaDoorBloV
namespace Go.Proofs.YtakjjfbocokpaaaDoor
open Go.ChangeShapes Go.WideShapes Go.ChangeAt Go.RowKit

set_option maxRecDepth 100000

theorem iBlock_no (k n : ByteArray) (c : Int) (w : World) (h : ¬ BlockOk (bl k) c (bl n)) :
    Calls Tryd.prog 79 #[.string k, .int .i64 c, .string n] w (StrPost w []) := by
  unfold BlockOk at h
  rw [bl_len, bl_len] at h
  cases d1 : ((k.size : Int) != 32) <;> cases d2 : decide (c < 0) <;> cases d3 : decide (4294967295 < c) <;> cases d4 : ((n.size : Int) != 12)
  all_goals first
    | (exfalso; simp at d1 d2 d3 d4; omega)
    | (clear h
       go_enter Tryd.func79, Tryd.ntmps79
       go_wp2_with fail
       go_ret
       exact ⟨rfl, Below.refl _ _⟩)

theorem iBlock_any (k n : ByteArray) (c : Int) (w : World) :
    Calls Tryd.prog 79 #[.string k, .int .i64 c, .string n] w (StrPost w (blockV (bl k) c (bl n))) := by
  unfold blockV
  split
  · rename_i h
    obtain ⟨h1, h2, h3, h4⟩ := h
    rw [bl_len] at h1 h2
    have := iBlock_yes k n c.toNat w h1 h2 (by omega)
    rwa [Int.toNat_of_nonneg h3] at this
  · rename_i h; exact iBlock_no k n c w h
end Go.Proofs.YtakjjfbocokpaaaDoor
