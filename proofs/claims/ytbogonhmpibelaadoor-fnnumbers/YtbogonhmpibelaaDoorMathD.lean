/-
  Plain mathematics for decimal numerals: nothing here speaks of a program.
-/
import Derived.Test.YtbogonhmpibelaaDoorMath
import Derived.Lib.ItoaNum
import Derived.Lib.AtoiAll
namespace Go.Proofs.YtbogonhmpibelaaDoor
open Go.RowKit
open Go.Lib (decDigits itoa nDigits)

theorem dd_small {u : Nat} (h : u < 10) : decDigits u = [UInt8.ofNat (48 + u)] := by rw [decDigits, dif_pos h]
theorem dd_big {u : Nat} (h : 10 ≤ u) : decDigits u = decDigits (u / 10) ++ [UInt8.ofNat (48 + u % 10)] := by
  conv => lhs; rw [decDigits]
  rw [dif_neg (by omega)]
theorem dd_len20 (u : Nat) (h : u ≤ 9223372036854775808) : (decDigits u).length ≤ 19 := by
  rw [Lib.decDigits_length]
  have key : ∀ (k u : Nat), u < 10 ^ (k + 1) → nDigits u ≤ k + 1 := by
    intro k
    induction k with
    | zero => intro u hu; rw [Lib.nDigits_small (by omega)]; omega
    | succ k ih =>
      intro u hu
      by_cases hs : u < 10
      · rw [Lib.nDigits_small hs]; omega
      · rw [Lib.nDigits_big hs]
        have := ih (u / 10) (by rw [Nat.pow_succ] at hu; omega)
        omega
  exact key 18 u (by omega)

def dig10 (d : Nat) : UInt8 := UInt8.ofNat (48 + d)
theorem dig10_toNat (d : Nat) (h : d < 10) : ((dig10 d).toNat : Int) = 48 + (d : Int) := by simp [dig10]; omega
/-- where the loop of the model stands -/
def DecInv (a u : Nat) (out : List UInt8) : Prop := (0 < u ∧ decDigits a = decDigits u ++ out) ∨ (u = 0 ∧ decDigits a = out)
theorem DecInv.start {a : Nat} (h : 0 < a) : DecInv a a [] := .inl ⟨h, by simp⟩
theorem DecInv.step {a u : Nat} {out : List UInt8} (h : DecInv a u out) (hu : 0 < u) : DecInv a (u / 10) (dig10 (u % 10) :: out) := by
  unfold dig10
  rcases h with ⟨_, h⟩ | ⟨h0, _⟩
  · by_cases hb : 10 ≤ u
    · refine .inl ⟨by omega, ?_⟩
      rw [h, dd_big hb]; simp
    · refine .inr ⟨by omega, ?_⟩
      rw [h, dd_small (by omega), show u % 10 = u by omega]; rfl
  · omega
theorem DecInv.len {a u : Nat} {out : List UInt8} (h : DecInv a u out) : out.length ≤ (decDigits a).length := by
  rcases h with ⟨_, h⟩ | ⟨_, h⟩ <;> rw [h] <;> simp

/-! ### Atoi reads what Itoa writes -/
theorem parse_append : ∀ (a b : List UInt8) (acc m : Nat), Lib.parseUint10 acc a = .ok m → Lib.parseUint10 acc (a ++ b) = Lib.parseUint10 m b
  | [], b, acc, m, h => by
    simp only [Lib.parseUint10] at h
    injection h with h
    rw [List.nil_append, h]
  | c :: r, b, acc, m, h => by
    simp only [Lib.parseUint10] at h
    rw [List.cons_append]
    simp only [Lib.parseUint10]
    split at h
    · rename_i hc
      rw [if_pos hc]
      split at h
      · cases h
      · rename_i h1
        rw [if_neg h1]
        split at h
        · cases h
        · rename_i h2
          rw [if_neg h2]
          exact parse_append r b _ m h
    · cases h
theorem parse_dd (u : Nat) : u < 18446744073709551616 → Lib.parseUint10 0 (decDigits u) = .ok u := by
  induction u using Nat.strongRecOn with
  | _ u ih =>
    intro hu
    have hd : ∀ d : Nat, d < 10 → (UInt8.ofNat (48 + d)).toNat = 48 + d := by intro d hd; simp; omega
    by_cases hs : u < 10
    · rw [dd_small hs, Lib.parseUint10, hd u hs, if_pos (by omega), if_neg (by omega), if_neg (by omega)]
      rw [Lib.parseUint10]
      congr 1
      omega
    · rw [dd_big (by omega), parse_append _ _ _ _ (ih (u / 10) (by omega) (by omega)), Lib.parseUint10, hd _ (by omega), if_pos (by omega), if_neg (by omega), if_neg (by omega)]
      rw [Lib.parseUint10]
      congr 1
      omega
theorem dd_head (u : Nat) : ∃ c r, decDigits u = c :: r ∧ 48 ≤ c.toNat ∧ c.toNat ≤ 57 := by
  induction u using Nat.strongRecOn with
  | _ u ih =>
    by_cases hs : u < 10
    · refine ⟨_, [], dd_small hs, ?_⟩
      simp; omega
    · obtain ⟨c, r, h, h1⟩ := ih (u / 10) (by omega)
      exact ⟨c, r ++ [UInt8.ofNat (48 + u % 10)], by rw [dd_big (by omega), h]; rfl, h1⟩
theorem atoi_itoa (n : Int) (h0 : -9223372036854775808 ≤ n) (h1 : n ≤ 9223372036854775807) : Lib.atoiAll (itoa n) = .ok n := by
  unfold itoa
  split
  · rename_i hn
    obtain ⟨c, r, hd, hc⟩ := dd_head n.natAbs
    have hp : Lib.parseMag (decDigits n.natAbs) = .ok n.natAbs := by
      unfold Lib.parseMag
      rw [if_neg (by rw [hd]; simp), parse_dd _ (by omega)]
    simp only [Lib.atoiAll, show (45 : UInt8).toNat = 45 from rfl, or_true, if_true, hp]
    rw [if_neg (by simp), if_neg (by omega)]
    congr 1
    omega
  · obtain ⟨c, r, hd, hc⟩ := dd_head n.toNat
    have hp : Lib.parseMag (decDigits n.toNat) = .ok n.toNat := by
      unfold Lib.parseMag
      rw [if_neg (by rw [hd]; simp), parse_dd _ (by omega)]
    rw [hd] at hp ⊢
    have c1 : ¬ c.toNat = 43 := by omega
    have c2 : ¬ c.toNat = 45 := by omega
    simp only [Lib.atoiAll, c1, c2, or_self, if_false]
    rw [hp]
    simp only [not_false_eq_true, true_and, false_and, if_false]
    rw [if_neg (by omega)]
    congr 1
    omega

/-! ### what ReadDec answers -/
def RD (l : List UInt8) (x : Int) (b : Bool) : Prop :=
  (b = true ∧ (-999999999 ≤ x ∧ x ≤ 999999999) ∧ itoa x = l) ∨ (b = false ∧ x = 0 ∧ ∀ n, -999999999 ≤ n → n ≤ 999999999 → itoa n ≠ l)
theorem itoa_inj {n m : Int} (h0 : -9223372036854775808 ≤ n) (h1 : n ≤ 9223372036854775807) (g0 : -9223372036854775808 ≤ m) (g1 : m ≤ 9223372036854775807) (h : itoa n = itoa m) : n = m := by
  have := atoi_itoa n h0 h1
  rw [h, atoi_itoa m g0 g1] at this
  injection this with this
  exact this.symm
theorem RD.unique {l : List UInt8} {x y : Int} {b c : Bool} (h : RD l x b) (g : RD l y c) : x = y ∧ b = c := by
  rcases h with ⟨rfl, hx, h⟩ | ⟨rfl, rfl, h⟩
  · rcases g with ⟨rfl, hy, g⟩ | ⟨rfl, rfl, g⟩
    · exact ⟨itoa_inj (by omega) (by omega) (by omega) (by omega) (h.trans g.symm), rfl⟩
    · exact (g x hx.1 hx.2 h).elim
  · rcases g with ⟨rfl, hy, g⟩ | ⟨rfl, rfl, g⟩
    · exact (h y hy.1 hy.2 g).elim
    · exact ⟨rfl, rfl⟩
theorem RD.of_atoi_ne {l : List UInt8} (h : ∀ n, Lib.atoiAll l ≠ .ok n) : RD l 0 false :=
  .inr ⟨rfl, rfl, fun n h0 h1 e => h n (by rw [← e]; exact atoi_itoa n (by omega) (by omega))⟩
theorem RD.of_ok {l : List UInt8} {v : Int} (h : Lib.atoiAll l = .ok v) : ((-999999999 ≤ v ∧ v ≤ 999999999) → itoa v = l → RD l v true) ∧ (¬ ((-999999999 ≤ v ∧ v ≤ 999999999) ∧ itoa v = l) → RD l 0 false) := by
  refine ⟨fun h1 h2 => .inl ⟨rfl, h1, h2⟩, fun hn => .inr ⟨rfl, rfl, fun n h0 h1 e => hn ?_⟩⟩
  have := atoi_itoa n (by omega) (by omega)
  rw [e, h] at this
  injection this with this
  subst this
  exact ⟨⟨h0, h1⟩, e⟩

/-! ### the model's own way: the digits among the first bytes, their value and their number -/
def isDig (c : UInt8) : Bool := decide (48 ≤ c.toNat ∧ c.toNat ≤ 57)
def dval : List UInt8 → Nat → Nat
  | [], n => n
  | c :: r, n => dval r (if isDig c then n * 10 + (c.toNat - 48) else n)
def dcnt : List UInt8 → Nat
  | [] => 0
  | c :: r => (if isDig c then 1 else 0) + dcnt r
theorem dval_snoc (c : UInt8) : ∀ (l : List UInt8) (n : Nat), dval (l ++ [c]) n = if isDig c then dval l n * 10 + (c.toNat - 48) else dval l n
  | [], n => by simp [dval]
  | d :: r, n => by rw [List.cons_append, dval, dval_snoc c r, dval]
theorem dcnt_snoc (c : UInt8) : ∀ (l : List UInt8), dcnt (l ++ [c]) = dcnt l + if isDig c then 1 else 0
  | [] => by simp [dcnt]
  | d :: r => by rw [List.cons_append, dcnt, dcnt_snoc c r, dcnt]; omega
theorem dcnt_le : ∀ l, dcnt l ≤ l.length
  | [] => by simp [dcnt]
  | c :: r => by have := dcnt_le r; rw [dcnt, List.length_cons]; split <;> omega
theorem dval_lt : ∀ (l : List UInt8) (n : Nat), dval l n < (n + 1) * 10 ^ dcnt l
  | [], n => by simp [dval, dcnt]
  | c :: r, n => by
    have h := dval_lt r (if isDig c then n * 10 + (c.toNat - 48) else n)
    rw [dval, dcnt]
    by_cases hc : isDig c = true
    · have hd : 48 ≤ c.toNat ∧ c.toNat ≤ 57 := by simpa [isDig] using hc
      rw [if_pos hc] at h ⊢
      rw [if_pos hc, Nat.add_comm 1, Nat.pow_succ]
      refine Nat.lt_of_lt_of_le h ?_
      rw [Nat.mul_comm (10 ^ dcnt r) 10, ← Nat.mul_assoc]
      exact Nat.mul_le_mul_right _ (by omega)
    · rw [if_neg hc] at h ⊢
      rw [if_neg hc, Nat.zero_add]
      exact h
theorem isDig_of (d : Nat) (h : d < 10) : isDig (UInt8.ofNat (48 + d)) = true := by
  simp [isDig]; omega
theorem toNat_of (d : Nat) (h : d < 10) : (UInt8.ofNat (48 + d)).toNat = 48 + d := by simp; omega
theorem dval_dd (u : Nat) : dval (decDigits u) 0 = u ∧ dcnt (decDigits u) = nDigits u := by
  induction u using Nat.strongRecOn with
  | _ u ih =>
    by_cases hs : u < 10
    · rw [dd_small hs, Lib.nDigits_small hs, dval, dcnt, isDig_of u hs, toNat_of u hs]
      simp [dval, dcnt]
    · obtain ⟨h1, h2⟩ := ih (u / 10) (by omega)
      rw [dd_big (by omega), Lib.nDigits_big hs, dval_snoc, dcnt_snoc, h1, h2, isDig_of _ (by omega), toNat_of _ (by omega)]
      simp; omega
theorem nDigits_le9 (u : Nat) (h : u ≤ 999999999) : nDigits u ≤ 9 := by
  have key : ∀ (k u : Nat), u < 10 ^ (k + 1) → nDigits u ≤ k + 1 := by
    intro k
    induction k with
    | zero => intro u hu; rw [Lib.nDigits_small (by omega)]; omega
    | succ k ih =>
      intro u hu
      by_cases hs : u < 10
      · rw [Lib.nDigits_small hs]; omega
      · rw [Lib.nDigits_big hs]
        have := ih (u / 10) (by rw [Nat.pow_succ] at hu; omega)
        omega
  exact key 8 u (by omega)
/-- the number that the model makes of a string -/
def dnum (l : List UInt8) : Int := if l.head? = some 45 then -((dval (l.take 11) 0 : Nat) : Int) else ((dval (l.take 11) 0 : Nat) : Int)
theorem dnum_itoa (n : Int) (h0 : -999999999 ≤ n) (h1 : n ≤ 999999999) : dnum (itoa n) = n ∧ dcnt ((itoa n).take 11) ≤ 9 ∧ (itoa n).length ≤ 10 := by
  unfold itoa
  split
  · have hl : (decDigits n.natAbs).length ≤ 9 := by rw [Lib.decDigits_length]; exact nDigits_le9 _ (by omega)
    obtain ⟨h2, h3⟩ := dval_dd n.natAbs
    have h4 := nDigits_le9 n.natAbs (by omega)
    rw [dnum, List.take_of_length_le (by simp; omega)]
    have e : isDig 45 = false := by decide
    simp only [List.head?_cons, if_true, dval, dcnt, e, h3, List.length_cons]
    refine ⟨?_, ?_, by omega⟩
    · simp; omega
    · simp; omega
  · have hl : (decDigits n.toNat).length ≤ 9 := by rw [Lib.decDigits_length]; exact nDigits_le9 _ (by omega)
    obtain ⟨h2, h3⟩ := dval_dd n.toNat
    have h4 := nDigits_le9 n.toNat (by omega)
    obtain ⟨c, r, hd, hc⟩ := dd_head n.toNat
    have hne : (decDigits n.toNat).head? ≠ some 45 := by
      rw [hd]
      intro h
      simp at h
      rw [h] at hc
      exact absurd hc (by decide)
    rw [dnum, List.take_of_length_le (by omega), if_neg hne, h2, h3]
    exact ⟨by omega, h4, by omega⟩
theorem dnum_bd (l : List UInt8) (h : dcnt (l.take 11) ≤ 9) : -999999999 ≤ dnum l ∧ dnum l ≤ 999999999 := by
  have h1 := dval_lt (l.take 11) 0
  have h2 : 10 ^ dcnt (l.take 11) ≤ 10 ^ 9 := Nat.pow_le_pow_right (by omega) h
  unfold dnum
  split <;> omega
theorem RD.model {l : List UInt8} : ((dcnt (l.take 11) ≤ 9 ∧ l.length ≤ 10 ∧ itoa (dnum l) = l) → RD l (dnum l) true) ∧ (¬ (dcnt (l.take 11) ≤ 9 ∧ l.length ≤ 10 ∧ itoa (dnum l) = l) → RD l 0 false) := by
  refine ⟨fun ⟨h1, _, h3⟩ => .inl ⟨rfl, dnum_bd l h1, h3⟩, fun hn => .inr ⟨rfl, rfl, fun n h0 h1 e => hn ?_⟩⟩
  obtain ⟨g1, g2, g3⟩ := dnum_itoa n h0 h1
  rw [← e]
  exact ⟨g2, g3, by rw [g1]⟩
theorem dval_take_lt (l : List UInt8) (k : Nat) (h : k ≤ 10) : dval (l.take k) 0 < 10000000000 := by
  have h1 := dval_lt (l.take k) 0
  have h2 := dcnt_le (l.take k)
  have h3 : (l.take k).length ≤ 10 := by simp; omega
  have h4 : 10 ^ dcnt (l.take k) ≤ 10 ^ 10 := Nat.pow_le_pow_right (by omega) (by omega)
  omega
end Go.Proofs.YtbogonhmpibelaaDoor
