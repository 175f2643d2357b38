/-
  Plain mathematics for chapter 2 (the CRC-32C): bit by bit, and by a table of sixteen words. Nothing here speaks of a program.
-/
import Derived.Test.YtakjjfbocokpaaaDoorBytes
namespace Go.Proofs.YtakjjfbocokpaaaDoor
open Go.RowKit


/-- one bit of the document's rule -/
def crcBit (c : Nat) : Nat := if c % 2 = 1 then (c / 2) ^^^ 2197175160 else c / 2
def crcBits (c : Nat) : Nat → Nat
  | 0 => c
  | k + 1 => crcBit (crcBits c k)
/-- one byte of it -/
def crcByte (c b : Nat) : Nat := crcBits (c ^^^ b) 8
def crcRun (c : Nat) (l : List UInt8) : Nat := l.foldl (fun c b => crcByte c b.toNat) c
theorem crcRun_snoc (c : Nat) (l : List UInt8) (b : UInt8) : crcRun c (l ++ [b]) = crcByte (crcRun c l) b.toNat := by simp [crcRun]
theorem crcRun_append (c : Nat) (l r : List UInt8) : crcRun c (l ++ r) = crcRun (crcRun c l) r := by simp [crcRun]

theorem xor_lt32 (a b : Nat) (ha : a < 4294967296) (hb : b < 4294967296) : a ^^^ b < 4294967296 := Nat.xor_lt_two_pow (n := 32) ha hb
theorem crcBit_lt (c : Nat) (h : c < 4294967296) : crcBit c < 4294967296 := by
  unfold crcBit
  split
  · exact xor_lt32 _ _ (by omega) (by omega)
  · omega
theorem crcBits_lt (c : Nat) (h : c < 4294967296) : ∀ k, crcBits c k < 4294967296
  | 0 => h
  | k + 1 => crcBit_lt _ (crcBits_lt c h k)
theorem crcByte_lt (c b : Nat) (h : c < 4294967296) (hb : b < 256) : crcByte c b < 4294967296 := crcBits_lt _ (xor_lt32 _ _ h (by omega)) 8
theorem crcRun_lt (l : List UInt8) : ∀ c, c < 4294967296 → crcRun c l < 4294967296 := by
  induction l with
  | nil => intro c h; exact h
  | cons b r ih => intro c h; exact ih _ (crcByte_lt c b.toNat h b.toNat_lt)

/-! ### the table -/
def crcTab : List Int := [0, 274646895, 549293790, 820201905, 1098587580, 1361435347, 1640403810, 1905808397, 2197175160, 2460548119, 2722870694, 2987750089, 3280807620, 3553878443, 3811616794, 4084100981]
def crcTabN (r : Nat) : Nat := (crcTab.getD r 0).toNat
theorem crcTabN_lt (r : Nat) (h : r < 16) : crcTabN r < 4294967296 := by
  have : ∀ r : Fin 16, crcTabN r.val < 4294967296 := by decide
  exact this ⟨r, h⟩
theorem crcTab_nat (r : Nat) (h : r < 16) : crcTab.getD r 0 = (crcTabN r : Int) := by
  have : ∀ r : Fin 16, crcTab.getD r.val 0 = (crcTabN r.val : Int) := by decide
  exact this ⟨r, h⟩
/-- four bits by the table -/
def crcNib (c : Nat) : Nat := crcTabN (c % 16) ^^^ (c / 16)
theorem crcNib_lt (c : Nat) (h : c < 4294967296) : crcNib c < 4294967296 := xor_lt32 _ _ (crcTabN_lt _ (Nat.mod_lt _ (by omega))) (by omega)

theorem xor_even (a p : Nat) (hp : p % 2 = 0) : (a ^^^ p) % 2 = a % 2 := by
  rw [Nat.xor_mod_two_pow (n := 1) (a := a) (b := p)]
  simp [hp]
theorem xor_half (a b : Nat) : (a ^^^ b) / 2 = a / 2 ^^^ b / 2 := by
  rw [Nat.xor_div_two_pow (n := 1)]
def pick (b : Bool) (p : Nat) : Nat := if b then p else 0
theorem crcBit_pick (c : Nat) : crcBit c = (c / 2) ^^^ pick (c % 2 == 1) 2197175160 := by
  unfold crcBit pick
  by_cases h : c % 2 = 1 <;> simp [h]
theorem pick_even (b : Bool) : pick b 2197175160 % 2 = 0 ∧ pick b 2197175160 / 2 % 2 = 0 ∧ pick b 2197175160 / 2 / 2 % 2 = 0 := by cases b <;> decide
theorem crcTabN_eq (r : Nat) (h : r < 16) : crcTabN r = pick (r % 2 == 1) 2197175160 / 2 / 2 / 2 ^^^ (pick (r / 2 % 2 == 1) 2197175160 / 2 / 2 ^^^ (pick (r / 4 % 2 == 1) 2197175160 / 2 ^^^ pick (r / 8 % 2 == 1) 2197175160)) := by
  have : ∀ r : Fin 16, crcTabN r.val = pick (r.val % 2 == 1) 2197175160 / 2 / 2 / 2 ^^^ (pick (r.val / 2 % 2 == 1) 2197175160 / 2 / 2 ^^^ (pick (r.val / 4 % 2 == 1) 2197175160 / 2 ^^^ pick (r.val / 8 % 2 == 1) 2197175160)) := by decide
  exact this ⟨r, h⟩
theorem crcNib_eq (c : Nat) : crcNib c = crcBits c 4 := by
  unfold crcNib
  rw [crcTabN_eq _ (Nat.mod_lt _ (by omega)), show c % 16 % 2 = c % 2 by omega, show c % 16 / 2 % 2 = c / 2 % 2 by omega, show c % 16 / 4 % 2 = c / 4 % 2 by omega, show c % 16 / 8 % 2 = c / 8 % 2 by omega]
  show _ = crcBit (crcBit (crcBit (crcBit c)))
  have e1 : crcBit c = c / 2 ^^^ pick (c % 2 == 1) 2197175160 := crcBit_pick c
  generalize h0 : pick (c % 2 == 1) 2197175160 = p0 at *
  obtain ⟨a0, a1, a2⟩ : p0 % 2 = 0 ∧ p0 / 2 % 2 = 0 ∧ p0 / 2 / 2 % 2 = 0 := by rw [← h0]; exact pick_even _
  have e2 : crcBit (crcBit c) = c / 4 ^^^ p0 / 2 ^^^ pick (c / 2 % 2 == 1) 2197175160 := by
    rw [crcBit_pick (crcBit c), e1, xor_half, xor_even _ _ a0, show c / 2 / 2 = c / 4 by omega]
  generalize h1 : pick (c / 2 % 2 == 1) 2197175160 = p1 at *
  obtain ⟨b0, b1, b2⟩ : p1 % 2 = 0 ∧ p1 / 2 % 2 = 0 ∧ p1 / 2 / 2 % 2 = 0 := by rw [← h1]; exact pick_even _
  have e3 : crcBit (crcBit (crcBit c)) = c / 8 ^^^ p0 / 2 / 2 ^^^ p1 / 2 ^^^ pick (c / 4 % 2 == 1) 2197175160 := by
    rw [crcBit_pick (crcBit (crcBit c)), e2, xor_half, xor_half, xor_even _ _ b0, xor_even _ _ a1, show c / 4 / 2 = c / 8 by omega]
  generalize h2 : pick (c / 4 % 2 == 1) 2197175160 = p2 at *
  obtain ⟨d0, d1, d2⟩ : p2 % 2 = 0 ∧ p2 / 2 % 2 = 0 ∧ p2 / 2 / 2 % 2 = 0 := by rw [← h2]; exact pick_even _
  rw [crcBit_pick (crcBit (crcBit (crcBit c))), e3, xor_half, xor_half, xor_half, xor_even _ _ d0, xor_even _ _ b1, xor_even _ _ a2, show c / 8 / 2 = c / 16 by omega]
  generalize pick (c / 8 % 2 == 1) 2197175160 = p3
  generalize c / 16 = q
  ac_rfl
theorem crcByte_nib (c b : Nat) : crcByte c b = crcNib (crcNib (c ^^^ b)) := by
  rw [crcNib_eq, crcNib_eq]; rfl
end Go.Proofs.YtakjjfbocokpaaaDoor
