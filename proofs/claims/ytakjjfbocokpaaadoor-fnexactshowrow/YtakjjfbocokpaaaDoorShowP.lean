/-
  Contracts of impl.sizedText and of spec.l6Piece.
-/
import Derived.Test.YtakjjfbocokpaaaDoorMathV
import Derived.Test.YtakjjfbocokpaaaDoorVarI
import Derived.Test.YtakjjfbocokpaaaDoorVarS
import Derived.Test.YtakjjfbocokpaaaDoorStrK
import Derived.Test.YtakjjfbocokpaaaDoorPosts
namespace Go.Proofs.YtakjjfbocokpaaaDoor
open Go.ChangeShapes Go.WideShapes Go.ChangeAt Go.RowKit

theorem varV_len' (n : Int) : (varV n).length ≤ 7 := by
  unfold varV
  split
  · exact varL_len7 _ (by omega)
  · exact Nat.zero_le _
theorem piece_var {s : ByteArray} (h : s.size ≤ 1000) : pieceL (bl s) = varV (s.size : Int) ++ bl s := by
  rw [pieceL, varV, if_pos (by omega), bl_len]
  rfl
theorem piece_len {s : ByteArray} (h : s.size ≤ 1000) : (pieceL (bl s)).length ≤ 7 + s.size := by
  rw [piece_var h, List.length_append, bl_len]
  have := varV_len' (s.size : Int)
  omega
theorem run_cat_s (a : List UInt8) (s : ByteArray) (h : a.length + s.size ≤ 1048576) (W : World) : (Op.stringOp .add ⟨a.toArray⟩ s).run Tryd.prog W = .ok (.string ⟨(a ++ bl s).toArray⟩) W := by
  have := run_cat a (bl s) (by rw [bl_len]; exact h) W
  rwa [str_of] at this

theorem sizedText_any (s : ByteArray) (hs : s.size ≤ 1000) (w : World) : Calls Tryd.prog 74 #[.string s] w (StrPost w (pieceL (bl s))) := by
  have HT := hide (fun W => iVar_any (s.size : Int) W)
  obtain ⟨VT, hT⟩ : ∃ VT, VT = varV (s.size : Int) := ⟨_, rfl⟩
  have hv := varV_len' (s.size : Int)
  have HV := hide (piece_var hs)
  rw [← hT] at HT HV hv
  have ha := run_cat_s VT s (by omega)
  clear hT hs hv
  go_enter Tryd.func74, Tryd.ntmps74
  go_wp2_with fail
  refine (HT.out _).mono ?_
  rintro e w1 ⟨rfl, hb1⟩
  have HB1 := hide hb1
  clear hb1
  go_wp2_with fail
  go_ret
  exact ⟨by rw [HV.out]; rfl, HB1.out⟩
theorem l6Piece_any (s : ByteArray) (hs : s.size ≤ 1000) (w : World) : Calls Tryd.prog 84 #[.string s] w (StrPost w (pieceL (bl s))) := by
  have HT := hide (fun W => sVar_any (s.size : Int) W)
  obtain ⟨VT, hT⟩ : ∃ VT, VT = varV (s.size : Int) := ⟨_, rfl⟩
  have hv := varV_len' (s.size : Int)
  have HV := hide (piece_var hs)
  rw [← hT] at HT HV hv
  have ha := run_cat_s VT s (by omega)
  clear hT hs hv
  go_enter Tryd.func84, Tryd.ntmps84
  go_wp2_with fail
  refine (HT.out _).mono ?_
  rintro e w1 ⟨rfl, hb1⟩
  have HB1 := hide hb1
  clear hb1
  go_wp2_with fail
  go_ret
  exact ⟨by rw [HV.out]; rfl, HB1.out⟩

end Go.Proofs.YtakjjfbocokpaaaDoor
