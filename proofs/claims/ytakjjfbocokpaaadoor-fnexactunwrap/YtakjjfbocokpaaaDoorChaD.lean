/-
  Contract of (*impl.chaWords).doubleRound.
-/
import Derived.Test.YtakjjfbocokpaaaDoorChaQ
namespace Go.Proofs.YtakjjfbocokpaaaDoor
open Go.ChangeShapes Go.WideShapes Go.ChangeAt Go.RowKit

set_option maxRecDepth 100000

theorem iDouble (T : TypeId) (g : Nat) (L : List Nat) (w w0 : World) (hW : QPost .u32 T [] w0 g L w) :
    Calls Tryd.prog 108 #[.pointer (some ⟨g, 0, none⟩)] w fun e w' => e = .returned (.tuple #[]) ∧ QPost .u32 T [] w0 g (dround L) w' := by
  have HW := hide hW
  clear hW
  go_enter Tryd.func108, Tryd.ntmps108
  go_wp2
  go_loopw [2, 4] (fun _ i wr => ∃ j : Nat, j ≤ 4 ∧ i = .int .i64 j ∧ Hid (QPost .u32 T [] w0 g (colRound L j) wr)) (fun _ i _ => 4 - (intOf i).toNat)
  case atStart => exact ⟨0, by omega, rfl, HW⟩
  case round =>
    obtain ⟨j, hj, rfl, HR⟩ := hrel
    by_cases hlt : j < 4
    · go_wp2_with (go_at_call 119; refine (iQuarterI T g j (4 + j) (8 + j) (12 + j) _ _ _ _ _ _ _ HR.out (by omega) (by omega) (by omega) (by omega) (by omega) (by omega) (by omega) (by omega)).mono ?_; rintro e w' ⟨rfl, hq⟩; have HN := hide hq; clear hq)
      go_roundw
      case rel => exact ⟨j + 1, by omega, by go_num, HN⟩
      case measure => simp [intOf]; omega
    · have e4 : j = 4 := by omega
      rw [e4] at HR
      clear e4
      go_wp2
      go_loopw [3, 17] (fun _ i wr => ∃ j : Nat, j ≤ 4 ∧ i = .int .i64 j ∧ Hid (QPost .u32 T [] w0 g (diaRound (colRound L 4) j) wr)) (fun _ i _ => 4 - (intOf i).toNat)
      case atStart => exact ⟨0, by omega, rfl, HR⟩
      case round =>
        obtain ⟨j, hj, rfl, HR⟩ := hrel
        by_cases hlt : j < 4
        · go_wp2_with (go_at_call 119; refine (iQuarterI T g j (4 + (j + 1) % 4) (8 + (j + 2) % 4) (12 + (j + 3) % 4) _ _ _ _ _ _ _ HR.out (by omega) (by omega) (by omega) (by omega) (by omega) (by omega) (by omega) (by omega)).mono ?_; rintro e w' ⟨rfl, hq⟩; have HN := hide hq; clear hq)
          go_roundw
          case rel => exact ⟨j + 1, by omega, by go_num, HN⟩
          case measure => simp [intOf]; omega
        · have e4 : j = 4 := by omega
          rw [e4] at HR
          clear e4
          go_wp2
          go_end0
          exact ⟨rfl, HR.out⟩
end Go.Proofs.YtakjjfbocokpaaaDoor
