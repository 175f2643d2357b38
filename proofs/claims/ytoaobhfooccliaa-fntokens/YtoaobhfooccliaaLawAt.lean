/-
  Contracts of laws.big and laws.at.
-/
import Derived.Test.YtoaobhfooccliaaRowB
namespace Go.Proofs.Ytoaobhfooccliaa
open Go.ChangeShapes Go.WideShapes Go.ChangeAt Go.RowKit

theorem big_any (a : Option Addr) (n cap : Nat) (w : World) : Calls Try.prog 6 #[.slice a n cap] w fun e w' => e = .returned (.bool (decide ((1048576 : Int) < (n : Int)))) ∧ w = w' := by
  go_enter Try.func6, Try.ntmps6
  go_wp2
  go_ret
  exact ⟨rfl, rfl⟩

/-- what 'at' answers lies between 0 and 255 -/
def AtPost (w : World) (e : Ending) (w' : World) : Prop := ∃ x : Nat, e = .returned (.int .i64 (x : Int)) ∧ x ≤ 255 ∧ w = w'
theorem at_any {B : Nat} (a : Option Addr) (cap : Nat) (bs : List Int) (i : Nat) (hi : i ≤ 1000) (w : World) (hc : CodeAt B w a bs) (hm : bs.length ≤ 1048576) :
    Calls Try.prog 13 #[.slice a bs.length cap, .int .i64 (i : Int)] w (AtPost w) := by
  by_cases h0 : i < bs.length
  · obtain ⟨b, off, rfl, _, hcell⟩ := hc.2 (by omega)
    have c1 := hcell i h0
    have hz : (0 : Int) ≤ (bs[i]?.getD 0) ∧ (bs[i]?.getD 0) ≤ (255 : Int) := by simpa [h0] using hc.1 (bs[i]) (List.getElem_mem h0)
    generalize bs[i]?.getD 0 = y at c1 hz
    obtain ⟨x, rfl⟩ : ∃ x : Nat, y = x := ⟨y.toNat, by omega⟩
    obtain ⟨n, hn⟩ : ∃ n, n = bs.length := ⟨_, rfl⟩
    rw [← hn] at h0 hm ⊢
    have hd : decide ((i : Int) < (n : Int)) = true := decide_eq_true (by omega)
    clear hcell hn hc
    go_enter Try.func13, Try.ntmps13
    go_wp2
    go_ret
    exact ⟨x, rfl, by omega, rfl⟩
  · obtain ⟨n, hn⟩ : ∃ n, n = bs.length := ⟨_, rfl⟩
    rw [← hn] at h0 hm ⊢
    have hd : decide ((i : Int) < (n : Int)) = false := decide_eq_false (by omega)
    clear hn hc
    go_enter Try.func13, Try.ntmps13
    go_wp2
    go_ret
    exact ⟨(i * 37 + n * 11) % 256, by simp, by omega, rfl⟩
end Go.Proofs.Ytoaobhfooccliaa
