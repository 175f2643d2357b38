/-
  Contracts of impl.tenantOk and grant.ok.
-/
import Derived.Test.YtoaobhfooccliaaTokM
import Derived.Test.YtoaobhfooccliaaStrK
import Derived.Test.YtoaobhfooccliaaNonce
import Derived.Deep.RegionHeld3
namespace Go.Proofs.Ytoaobhfooccliaa
open Go.ChangeShapes Go.WideShapes Go.ChangeAt Go.RowKit

/-- block g holds a struct of two cells -/
def Box2 (w : World) (g : Nat) (v0 v1 : Value) : Prop := g < w.heap.size ∧ w.cell? ⟨g, 0, none⟩ = some v0 ∧ w.cell? ⟨g, 1, none⟩ = some v1
theorem Box2.below {w w' : World} {g B : Nat} {v0 v1 : Value} (h : Box2 w g v0 v1) (hb : Below B w w') (hg : g < B) : Box2 w' g v0 v1 :=
  ⟨Nat.lt_of_lt_of_le h.1 hb.size, (hb.cell (p := ⟨g, 0, none⟩) hg).trans h.2.1, (hb.cell (p := ⟨g, 1, none⟩) hg).trans h.2.2⟩
theorem Box2.new (w : World) (v0 v1 : Value) (T : TypeId) : Box2 (w.alloc (.cells #[v0, v1] T)) w.heap.size v0 v1 := ⟨by simp, by simp, by simp⟩
theorem Box2.cells {w : World} {g : Nat} {v0 v1 : Value} (h : Box2 w g v0 v1) : w.cell? ⟨g, 0, none⟩ = some v0 ∧ w.cell? ⟨g, 1, none⟩ = some v1 := h.2
theorem Box2.lt {w : World} {g : Nat} {v0 v1 : Value} (h : Box2 w g v0 v1) : g < w.heap.size := h.1
theorem Box2.drew {w : World} {g : Nat} {v0 v1 : Value} (h : Box2 w g v0 v1) : Box2 w.drew g v0 v1 := h

theorem tenantOk_any (t : Int) (w : World) : Calls Try.prog 39 #[.int .i64 t] w fun e w' => e = .returned (.bool (decide (1 ≤ t) && decide (t ≤ 99))) ∧ w = w' := by
  go_enter Try.func39, Try.ntmps39
  go_wp2
  all_goals go_ret
  all_goals (refine ⟨?_, rfl⟩; simp [*] <;> omega)

def grantOk (t e : Int) : Bool := (decide (1 ≤ t) && decide (t ≤ 99)) && decide (0 ≤ e) && decide (e ≤ 1000000)
theorem grantOk_true {t e : Int} (h : 1 ≤ t ∧ t ≤ 99 ∧ 0 ≤ e ∧ e ≤ 1000000) : grantOk t e = true := by
  unfold grantOk; simp; omega
theorem grantOk_false {t e : Int} (h : ¬ (1 ≤ t ∧ t ≤ 99 ∧ 0 ≤ e ∧ e ≤ 1000000)) : grantOk t e = false := by
  unfold grantOk; rw [Bool.eq_false_iff]; simp; omega
def OkPost (w : World) (b : Bool) (e : Ending) (w' : World) : Prop := e = .returned (.bool b) ∧ Below w.heap.size w w'

theorem grantOk_any (t n : Int) (w : World) : Calls Try.prog 32 #[.agg #[.int .i64 t, .int .i64 n]] w (OkPost w (grantOk t n)) := by
  unfold grantOk
  cases d1 : (decide (1 ≤ t) && decide (t ≤ 99)) <;> cases d2 : decide (0 ≤ n) <;> cases d3 : decide (n ≤ 1000000)
  all_goals
    go_enter Try.func32, Try.ntmps32
    go_wp2_with (go_at_call 39; refine (tenantOk_any _ _).mono ?_; rw [d1]; rintro e w' ⟨rfl, rfl⟩)
    go_ret
    exact ⟨rfl, (Below.refl _ _).alloc (Nat.le_refl _) _⟩
end Go.Proofs.Ytoaobhfooccliaa
