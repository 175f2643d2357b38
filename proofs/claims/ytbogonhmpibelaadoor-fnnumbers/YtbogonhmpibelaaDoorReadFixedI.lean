/-
  Contract of impl.ReadFixed.
-/
import Derived.Test.YtbogonhmpibelaaDoorSmall
namespace Go.Proofs.YtbogonhmpibelaaDoor
open Go.ChangeShapes Go.WideShapes Go.ChangeAt Go.RowKit

theorem iReadFixed_yes (s : ByteArray) (k : Nat) (w : World) (h1 : 1 ≤ k) (h7 : k ≤ 7) (hs : k ≤ s.size) (hm : s.size ≤ maxLen) :
    Calls Tryd.prog 12 #[.string s, .int .i64 k] w fun e w' => e = .returned (.tuple #[.int .i64 (be (s.data.toList.take k)), .bool true]) ∧ w = w' := by
  unfold maxLen at hm
  go_enter Tryd.func12, Tryd.ntmps12
  go_wp2_with (go_at_call 24; refine (widthOk_any _ _).mono ?_; rintro e w' ⟨rfl, rfl⟩)
  go_loop [6, 7, 18] (fun n _ i => ∃ j : Nat, j ≤ k ∧ i = .int .i64 j ∧ n = .int .i64 (be (s.data.toList.take j))) (fun _ _ i => k - (intOf i).toNat)
  case atStart => exact ⟨0, Nat.zero_le _, rfl, rfl⟩
  case round =>
    obtain ⟨j, hj, rfl, rfl⟩ := hrel
    by_cases hlt : j < k
    · have hjs : j < s.size := by omega
      have hb := be_bd6 s.data.toList j (by omega)
      have hc : s[j].toNat < 256 := s[j].toNat_lt
      have HS := hide (be_snoc (s.data.toList.take j) s[j])
      have HJ := hide (be_join (be (s.data.toList.take j)) (s[j].toNat) hb.1 hb.2 (by omega) (by omega))
      have HT := hide (take_snoc s j hjs)
      go_wp2
      go_round
      case rel => exact ⟨j + 1, by omega, by go_num, by rw [HT.out, HS.out, HJ.out]⟩
      case measure => simp [intOf]; omega
    · have hjk : j = k := by omega
      subst hjk
      go_wp2
      go_ret2
      exact ⟨rfl, rfl⟩

theorem iReadFixed_no (s : ByteArray) (k : Int) (w : World) (h : ¬ (1 ≤ k ∧ k ≤ 7 ∧ k ≤ s.size)) :
    Calls Tryd.prog 12 #[.string s, .int .i64 k] w fun e w' => e = .returned (.tuple #[.int .i64 0, .bool false]) ∧ w = w' := by
  by_cases hk : 1 ≤ k ∧ k ≤ 7
  · have hs : (s.size : Int) < k := by omega
    obtain ⟨hk1, hk2⟩ := hk
    clear h
    go_enter Tryd.func12, Tryd.ntmps12
    go_wp2_with (go_at_call 24; refine (widthOk_any _ _).mono ?_; rintro e w' ⟨rfl, rfl⟩)
    go_ret2
    exact ⟨rfl, rfl⟩
  · have hd : (decide (1 ≤ k) && decide (k ≤ 7)) = false := by simp; omega
    clear h hk
    go_enter Tryd.func12, Tryd.ntmps12
    go_wp2_with (go_at_call 24; refine (widthOk_any _ _).mono ?_; rw [hd]; rintro e w' ⟨rfl, rfl⟩)
    go_ret2
    exact ⟨rfl, rfl⟩
end Go.Proofs.YtbogonhmpibelaaDoor
