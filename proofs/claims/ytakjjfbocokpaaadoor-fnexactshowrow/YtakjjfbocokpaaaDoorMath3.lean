/-
  Plain mathematics for reading varints: nothing here speaks of a program.
-/
import Derived.Test.YtakjjfbocokpaaaDoorMath2
namespace Go.Proofs.YtakjjfbocokpaaaDoor
open Go.RowKit

/-- seven bits a byte, the least first -/
def le7 : List UInt8 → Nat
  | [] => 0
  | c :: r => c.toNat % 128 + 128 * le7 r
theorem le7_lt : ∀ l, le7 l < 128 ^ l.length
  | [] => by simp [le7]
  | c :: r => by
    have := le7_lt r
    rw [le7, List.length_cons, Nat.pow_succ]
    omega
theorem le7_snoc (c : UInt8) : ∀ l, le7 (l ++ [c]) = le7 l + c.toNat % 128 * 128 ^ l.length
  | [] => by simp [le7]
  | d :: r => by
    rw [List.cons_append, le7, le7, le7_snoc c r, List.length_cons, Nat.pow_succ, Nat.mul_add, ← Nat.mul_assoc, Nat.mul_comm (128 ^ r.length), ← Nat.mul_assoc, Nat.mul_comm 128 (c.toNat % 128), Nat.add_assoc]

/-- the varints, byte by byte -/
def good : List UInt8 → Prop
  | [] => False
  | [c] => c.toNat < 128
  | c :: d :: r => 128 ≤ c.toNat ∧ good (d :: r) ∧ d :: r ≠ [0]
theorem good_zero : ∀ l, good l → le7 l = 0 → l = [0]
  | [], h, _ => h.elim
  | [c], h, h0 => by
    simp [good] at h
    simp [le7] at h0
    have : c.toNat = 0 := by omega
    rw [show c = 0 from UInt8.toNat_inj.1 (by simpa using this)]
  | c :: d :: r, h, h0 => by
    obtain ⟨_, h2, h3⟩ := h
    rw [le7] at h0
    exact (h3 (good_zero (d :: r) h2 (by omega))).elim
theorem ofNat_eq (n : Nat) (c : UInt8) (h : n = c.toNat) : UInt8.ofNat n = c := by subst h; simp
theorem good_iff : ∀ l, varL (le7 l) = l ↔ good l
  | [] => by
    simp only [good, iff_false]
    intro h
    have := varL_pos (le7 [])
    rw [h] at this
    simp at this
  | [c] => by
    have e : le7 [c] = c.toNat % 128 := by simp [le7]
    rw [e, varL_small _ (by omega)]
    simp only [good, List.cons.injEq, and_true]
    constructor
    · intro h
      have := congrArg UInt8.toNat h
      simp at this
      omega
    · intro h
      exact ofNat_eq _ _ (by omega)
  | c :: d :: r => by
    have hc : c.toNat < 256 := c.toNat_lt
    constructor
    · intro h
      by_cases hs : le7 (c :: d :: r) < 128
      · rw [varL_small _ hs] at h
        simp at h
      · rw [varL_big _ (by omega)] at h
        injection h with h1 h2
        have e1 : le7 (c :: d :: r) % 128 = c.toNat % 128 := by rw [le7]; omega
        have e2 : le7 (c :: d :: r) / 128 = le7 (d :: r) := by rw [le7]; omega
        rw [e1] at h1
        rw [e2] at h2
        have h3 := congrArg UInt8.toNat h1
        simp at h3
        refine ⟨by omega, (good_iff (d :: r)).1 h2, fun h0 => ?_⟩
        have e3 : le7 (d :: r) = 0 := by rw [h0]; simp [le7]
        rw [le7] at hs
        omega
    · rintro ⟨h1, h2, h3⟩
      have hp : 0 < le7 (d :: r) := Nat.pos_of_ne_zero fun h0 => h3 (good_zero _ h2 h0)
      have hb : 128 ≤ le7 (c :: d :: r) := by rw [le7]; omega
      rw [varL_big _ hb]
      have e1 : le7 (c :: d :: r) % 128 = c.toNat % 128 := by rw [le7]; omega
      have e2 : le7 (c :: d :: r) / 128 = le7 (d :: r) := by rw [le7]; omega
      rw [e1, e2, (good_iff (d :: r)).2 h2, ofNat_eq (c.toNat % 128 + 128) c (by omega)]

/-- where the first byte below 128 stands, among the first k -/
def rvPos : List UInt8 → Nat → Option Nat
  | _, 0 => none
  | [], _ => none
  | c :: r, k + 1 => if c.toNat < 128 then some 0 else (rvPos r k).map (· + 1)
def readVarL (l : List UInt8) : Nat × Nat :=
  match rvPos l 7 with
  | none => (0, 0)
  | some i => if l[i]?.getD 0 = 0 ∧ 0 < i then (0, 0) else (le7 (l.take (i + 1)), i + 1)
theorem rvPos_some : ∀ (l : List UInt8) (k i : Nat) (hi : i < l.length), i < k → (∀ j (hj : j < l.length), j < i → 128 ≤ l[j].toNat) → l[i].toNat < 128 → rvPos l k = some i
  | [], _, i, hi, _, _, _ => by simp at hi
  | c :: r, 0, i, hi, hk, _, _ => by omega
  | c :: r, k + 1, 0, hi, hk, _, h => by simp at h; simp [rvPos, h]
  | c :: r, k + 1, i + 1, hi, hk, ha, h => by
    have h0 := ha 0 (by simp) (by omega)
    simp at h0
    have := rvPos_some r k i (by simpa using hi) (by omega) (fun j hj hji => by have := ha (j + 1) (by simpa using hj) (by omega); simpa using this) (by simpa using h)
    simp [rvPos, this]
    omega
theorem rvPos_none : ∀ (l : List UInt8) (k : Nat), (∀ j (hj : j < l.length), j < k → 128 ≤ l[j].toNat) → rvPos l k = none
  | [], 0, _ => rfl
  | [], k + 1, _ => rfl
  | c :: r, 0, _ => rfl
  | c :: r, k + 1, ha => by
    have h0 := ha 0 (by simp) (by omega)
    simp at h0
    have := rvPos_none r k (fun j hj hjk => by have := ha (j + 1) (by simpa using hj) (by omega); simpa using this)
    simp [rvPos, this]
    omega
theorem readVarL_zero {l : List UInt8} {i : Nat} (hi : i < l.length) (h7 : i < 7) (ha : ∀ j (hj : j < l.length), j < i → 128 ≤ l[j].toNat) (h0 : l[i] = 0) (hp : 0 < i) : readVarL l = (0, 0) := by
  rw [readVarL, rvPos_some l 7 i hi h7 ha (by rw [h0]; decide)]
  simp [hi, h0, hp]
theorem readVarL_at {l : List UInt8} {i : Nat} (hi : i < l.length) (h7 : i < 7) (ha : ∀ j (hj : j < l.length), j < i → 128 ≤ l[j].toNat) (hs : l[i].toNat < 128) (hn : ¬ (l[i] = 0 ∧ 0 < i)) : readVarL l = (le7 (l.take (i + 1)), i + 1) := by
  rw [readVarL, rvPos_some l 7 i hi h7 ha hs]
  simp only [List.getElem?_eq_getElem hi, Option.getD_some]
  rw [if_neg hn]
theorem readVarL_none {l : List UInt8} (ha : ∀ j (hj : j < l.length), j < 7 → 128 ≤ l[j].toNat) : readVarL l = (0, 0) := by
  rw [readVarL, rvPos_none l 7 ha]

theorem good_take : ∀ (l : List UInt8) (i : Nat) (hi : i < l.length), good (l.take (i + 1)) ↔ (∀ j (hj : j < l.length), j < i → 128 ≤ l[j].toNat) ∧ l[i].toNat < 128 ∧ ¬ (l[i] = 0 ∧ 0 < i)
  | [], i, hi => by simp at hi
  | c :: r, 0, hi => by simp [good]
  | [c], i + 1, hi => by simp at hi
  | c :: d :: r, i + 1, hi => by
    have ih := good_take (d :: r) i (by simpa using hi)
    rw [List.take_succ_cons, List.take_succ_cons]
    rw [List.take_succ_cons] at ih
    simp only [good]
    rw [ih]
    simp only [List.getElem_cons_succ]
    constructor
    · rintro ⟨h1, ⟨h2, h3, h4⟩, h5⟩
      refine ⟨fun j hj hji => ?_, h3, ?_⟩
      · cases j with
        | zero => simpa using h1
        | succ j => have := h2 j (by simpa using hj) (by omega); simpa using this
      · rintro ⟨h6, _⟩
        cases i with
        | zero => simp at h6; simp [h6] at h5
        | succ i => exact h4 ⟨h6, by omega⟩
    · rintro ⟨h1, h2, h3⟩
      refine ⟨by have := h1 0 (by simp) (by omega); simpa using this, ⟨fun j hj hji => by have := h1 (j + 1) (by simpa using hj) (by omega); simpa using this, h2, fun h => h3 ⟨h.1, by omega⟩⟩, ?_⟩
      intro h
      cases i with
      | zero => simp at h; simp [h] at h3
      | succ i =>
        have h5 := congrArg List.length h
        simp only [List.length_cons, List.length_take, List.length_nil] at h5
        simp only [List.length_cons] at hi
        omega
/-- the first beginning that is a varint -/
theorem readVarL_good {l : List UInt8} {k : Nat} (hk : k < l.length) (h7 : k < 7) (h : varL (le7 (l.take (k + 1))) = l.take (k + 1)) : readVarL l = (le7 (l.take (k + 1)), k + 1) := by
  obtain ⟨h1, h2, h3⟩ := (good_take l k hk).1 ((good_iff _).1 h)
  exact readVarL_at hk h7 h1 h2 h3
theorem readVarL_bad {l : List UInt8} (h : ∀ k, k < l.length → k < 7 → varL (le7 (l.take (k + 1))) ≠ l.take (k + 1)) : readVarL l = (0, 0) := by
  unfold readVarL
  split
  · rfl
  · rename_i i hi
    have key : ∀ (l : List UInt8) (k i : Nat), rvPos l k = some i → ∃ hi : i < l.length, i < k ∧ (∀ j (hj : j < l.length), j < i → 128 ≤ l[j].toNat) ∧ l[i].toNat < 128 := by
      intro l
      induction l with
      | nil => intro k i h; cases k <;> simp [rvPos] at h
      | cons c r ih =>
        intro k i h
        cases k with
        | zero => simp [rvPos] at h
        | succ k =>
          rw [rvPos] at h
          split at h
          · rename_i hc
            injection h with h
            subst h
            exact ⟨by simp, by omega, fun j _ hj => by omega, by simpa using hc⟩
          · rename_i hc
            simp at h
            obtain ⟨a, ha, rfl⟩ := h
            obtain ⟨h1, h2, h3, h4⟩ := ih k a ha
            refine ⟨by simpa using h1, by omega, fun j hj hja => ?_, by simpa using h4⟩
            cases j with
            | zero => simp; omega
            | succ j => have := h3 j (by simpa using hj) (by omega); simpa using this
    obtain ⟨h1, h2, h3, h4⟩ := key l 7 i hi
    simp only [List.getElem?_eq_getElem h1, Option.getD_some]
    split
    · rfl
    · rename_i hn
      exact (h i h1 h2 ((good_iff _).2 ((good_take l i h1).2 ⟨h3, h4, hn⟩))).elim
theorem le7_take_lt (l : List UInt8) (k : Nat) (hk : k ≤ 7) : le7 (l.take k) ≤ 562949953421311 := by
  have h := le7_lt (l.take k)
  have h2 : (l.take k).length ≤ 7 := by simp; omega
  have h3 : 128 ^ (l.take k).length ≤ 128 ^ 7 := Nat.pow_le_pow_right (by omega) h2
  omega
theorem le7_drop_lt (l : List UInt8) (j q : Nat) (hj : j < 7) : le7 ((l.take (j + 1)).drop (q + 1)) < 4398046511104 := by
  have h := le7_lt ((l.take (j + 1)).drop (q + 1))
  have h2 : ((l.take (j + 1)).drop (q + 1)).length ≤ 6 := by simp only [List.length_drop, List.length_take]; omega
  have h3 : 128 ^ ((l.take (j + 1)).drop (q + 1)).length ≤ 128 ^ 6 := Nat.pow_le_pow_right (by omega) h2
  omega
theorem le7_join (l : List UInt8) (i : Nat) (c : UInt8) (hi : i < 7) (hl : l.length = i) : bits .or .i64 ((le7 l : Nat) : Int) (wrap64 ((c.toNat : Int) % 128 * 2 ^ (7 * i))) = ((le7 (l ++ [c]) : Nat) : Int) := by
  have h := le7_lt l
  rw [hl] at h
  have hp : (128 : Nat) ^ i ≤ 128 ^ 6 := Nat.pow_le_pow_right (by omega) (by omega)
  have e : ((c.toNat : Int) % 128 * 2 ^ (7 * i)) = ((c.toNat % 128 * 128 ^ i : Nat) : Int) := by
    rw [Int.pow_mul]; simp
  have hm : c.toNat % 128 * 128 ^ i ≤ 127 * 128 ^ i := Nat.mul_le_mul_right _ (by omega)
  have hw : wrap64 ((c.toNat % 128 * 128 ^ i : Nat) : Int) = ((c.toNat % 128 * 128 ^ i : Nat) : Int) := by
    unfold wrap64
    omega
  rw [e, hw, le7_snoc, hl, i64_or_nat _ _ (by omega) (by omega), Nat.or_comm, nat_join (7 * i) (c.toNat % 128 * 128 ^ i) (le7 l)]
  · rw [Nat.add_comm]
  · rw [Nat.pow_mul]; exact Nat.mul_mod_left _ _
  · rw [Nat.pow_mul]; exact h
end Go.Proofs.YtakjjfbocokpaaaDoor
