/-
  The order of strings, byte by byte: nothing here speaks of the program.
-/
import Derived.Test.YtphfakdbgohhgaaBytes
namespace Go.Proofs.Ytphfakdbgohhgaa
open Go.RowKit

theorem bless_irrefl : ∀ a : List UInt8, Op.bytesLess a a = false
  | [] => rfl
  | c :: r => by simp [Op.bytesLess, bless_irrefl r]
theorem bless_trans : ∀ a b c : List UInt8, Op.bytesLess a b = true → Op.bytesLess b c = true → Op.bytesLess a c = true
  | _, [], _, h, _ => by simp [Op.bytesLess] at h
  | _, _ :: _, [], _, h => by simp [Op.bytesLess] at h
  | [], _ :: _, _ :: _, _, _ => rfl
  | x :: a, y :: b, z :: c, h, k => by
    simp only [Op.bytesLess, Bool.or_eq_true, decide_eq_true_eq, Bool.and_eq_true, beq_iff_eq] at h k ⊢
    rcases h with h | ⟨rfl, h⟩
    · rcases k with k | ⟨rfl, _⟩
      · exact Or.inl (UInt8.lt_trans h k)
      · exact Or.inl h
    · rcases k with k | ⟨rfl, k⟩
      · exact Or.inl k
      · exact Or.inr ⟨rfl, bless_trans a b c h k⟩
theorem bless_tri : ∀ a b : List UInt8, Op.bytesLess a b = false → Op.bytesLess b a = false → a = b
  | [], [], _, _ => rfl
  | [], _ :: _, h, _ => by simp [Op.bytesLess] at h
  | _ :: _, [], _, h => by simp [Op.bytesLess] at h
  | x :: a, y :: b, h, k => by
    simp only [Op.bytesLess, Bool.or_eq_false_iff, decide_eq_false_iff_not, Bool.and_eq_false_iff, beq_eq_false_iff_ne] at h k
    have hxy : x = y := by
      rcases Nat.lt_trichotomy x.toNat y.toNat with hl | he | hg
      · exact absurd (UInt8.lt_iff_toNat_lt.2 hl) h.1
      · exact UInt8.toNat_inj.1 he
      · exact absurd (UInt8.lt_iff_toNat_lt.2 hg) k.1
    subst hxy
    rw [bless_tri a b (h.2.resolve_left fun hn => hn rfl) (k.2.resolve_left fun hn => hn rfl)]

/-- one string before another -/
def kless (x y : ByteArray) : Bool := Op.bytesLess x.toList y.toList
theorem kless_irrefl (x : ByteArray) : kless x x = false := bless_irrefl _
theorem kless_trans {x y z : ByteArray} (h : kless x y = true) (k : kless y z = true) : kless x z = true := bless_trans _ _ _ h k
theorem kless_asymm {x y : ByteArray} (h : kless x y = true) : kless y x = false := by
  cases k : kless y x with
  | false => rfl
  | true => have := kless_trans h k; rw [kless_irrefl] at this; cases this
theorem toList_inj' {x y : ByteArray} (h : x.toList = y.toList) : x = y := by
  rw [ByteArray.toList_eq, ByteArray.toList_eq] at h
  exact ba_ext h
theorem kless_tri {x y : ByteArray} (h : kless x y = false) (k : kless y x = false) : x = y := toList_inj' (bless_tri _ _ h k)
theorem kless_ne {x y : ByteArray} (h : kless x y = true) : x ≠ y := fun e => by rw [e, kless_irrefl] at h; cases h
theorem kless_of_ne {x y : ByteArray} (h : kless x y = false) (hn : x ≠ y) : kless y x = true := by
  cases k : kless y x with
  | true => rfl
  | false => exact absurd (kless_tri h k) hn
theorem keq_iff (x y : ByteArray) : (x.toList == y.toList) = true ↔ x = y := by
  rw [beq_iff_eq]
  exact ⟨toList_inj', fun h => by rw [h]⟩
theorem keq_self (x : ByteArray) : (x.toList == x.toList) = true := by simp
theorem keq_false {x y : ByteArray} (h : x ≠ y) : (x.toList == y.toList) = false := by
  rw [beq_eq_false_iff_ne]
  exact fun e => h (toList_inj' e)
end Go.Proofs.Ytphfakdbgohhgaa
