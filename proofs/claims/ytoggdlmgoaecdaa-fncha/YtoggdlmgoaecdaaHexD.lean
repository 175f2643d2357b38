/-
  Contract of spec.l1Digit.
-/
import Derived.Test.YtoggdlmgoaecdaaSmall
import Derived.Test.YtoggdlmgoaecdaaMath4
namespace Go.Proofs.Ytoggdlmgoaecdaa
open Go.ChangeShapes Go.WideShapes Go.ChangeAt Go.RowKit

theorem hexIdxD : ∀ (k : Nat) (h : k < 16), (ByteArray.mk #[48, 49, 50, 51, 52, 53, 54, 55, 56, 57, 97, 98, 99, 100, 101, 102])[k]'h = hexD k := by decide

theorem l1Digit_any (k : Nat) (w : World) (h : k < 16) : Calls Try.prog 26 #[.int .i64 (k : Int)] w fun e w' => e = .returned (.int .u8 ((hexD k).toNat : Int)) ∧ w' = w := by
  go_enter Try.func26, Try.ntmps26
  go_wp2
  go_ret
  exact ⟨by rw [← hexIdxD k h]; rfl, rfl⟩

theorem l1Digit_at (k : Nat) (x : Int) (w : World) (hx : x = (k : Int)) (h : k < 16) : Calls Try.prog 26 #[.int .i64 x] w fun e w' => e = .returned (.int .u8 ((hexD k).toNat : Int)) ∧ w = w' := by
  subst hx
  exact (l1Digit_any k w h).mono fun e w' ⟨h1, h2⟩ => ⟨h1, h2.symm⟩
end Go.Proofs.Ytoggdlmgoaecdaa
