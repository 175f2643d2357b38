/-
  Plain mathematics for chapter 10: bits of a row of bytes, and what a filter holds. Nothing here speaks of a program.
-/
import Derived.Test.YtncfodifcgjicaaDoorMathC
import Derived.Test.YtncfodifcgjicaaDoorBytes
namespace Go.Proofs.YtncfodifcgjicaaDoor
open Go.RowKit

/-- the checksum of a string -/
def crcV (l : List UInt8) : Nat := 4294967295 - crcRun 4294967295 l
theorem crcV_int (l : List UInt8) : (4294967295 - (crcRun 4294967295 l : Int)) = (crcV l : Int) := by
  have := crcRun_lt l 4294967295 (by omega)
  unfold crcV
  omega
theorem crcV_le (l : List UInt8) : crcV l ≤ 4294967295 := by unfold crcV; omega
/-- bit i of a key, in a filter of n bits -/
def kbit (k : List UInt8) (n i : Nat) : Nat := (crcV k + i * crcV (k ++ [120])) % n
theorem kbit_lt (k : List UInt8) (n i : Nat) (h : 0 < n) : kbit k n i < n := Nat.mod_lt _ h
/-- bit m of a row of bytes: bit m % 8 of byte m / 8 -/
def bitOn (F : List UInt8) (m : Nat) : Bool := (F[m / 8]?.getD 0).toNat.testBit (m % 8)
def setOn (F : List UInt8) (m : Nat) : List UInt8 := F.set (m / 8) (F[m / 8]?.getD 0 ||| UInt8.ofNat (2 ^ (m % 8)))
theorem length_setOn (F : List UInt8) (m : Nat) : (setOn F m).length = F.length := by simp [setOn]
theorem pow8 (i : Nat) (h : i < 8) : 2 ^ i < 256 := Nat.lt_of_lt_of_le (Nat.pow_lt_pow_right (by omega) h) (by decide)
theorem bitOn_setOn {F : List UInt8} {m : Nat} (h : m / 8 < F.length) (q : Nat) : bitOn (setOn F m) q = (bitOn F q || decide (q = m)) := by
  unfold bitOn setOn
  rw [List.getElem?_set]
  by_cases hq : m / 8 = q / 8
  · rw [if_pos hq, if_pos h, ← hq, Option.getD_some, UInt8.toNat_or, Nat.testBit_or]
    have h1 : (UInt8.ofNat (2 ^ (m % 8))).toNat = 2 ^ (m % 8) := by
      rw [UInt8.toNat_ofNat']
      exact Nat.mod_eq_of_lt (pow8 _ (Nat.mod_lt _ (by omega)))
    rw [h1, Nat.testBit_two_pow]
    congr 1
    rw [decide_eq_decide]
    omega
  · rw [if_neg hq]
    have : q ≠ m := fun e => hq (by rw [e])
    simp [this]
theorem bitOn_zeros (n q : Nat) : bitOn (List.replicate n 0) q = false := by
  unfold bitOn
  rw [List.getElem?_replicate]
  split <;> simp
/-- a key added -/
def addK (n : Nat) (F : List UInt8) (k : List UInt8) : List UInt8 := setOn (setOn (setOn F (kbit k n 0)) (kbit k n 1)) (kbit k n 2)
theorem length_addK (n : Nat) (F k : List UInt8) : (addK n F k).length = F.length := by simp [addK, length_setOn]
theorem bitOn_addK {n : Nat} {F k : List UInt8} (hn : n = 8 * F.length) (h0 : 0 < F.length) (q : Nat) : bitOn (addK n F k) q = (bitOn F q || decide (q = kbit k n 0) || decide (q = kbit k n 1) || decide (q = kbit k n 2)) := by
  have hl : ∀ i, kbit k n i / 8 < F.length := fun i => by
    have := kbit_lt k n i (by omega)
    omega
  unfold addK
  rw [bitOn_setOn (by rw [length_setOn, length_setOn]; exact hl 2), bitOn_setOn (by rw [length_setOn]; exact hl 1), bitOn_setOn (hl 0)]
/-- the filter of the keys -/
def bloomL (n : Nat) (F : List UInt8) (keys : List (List UInt8)) : List UInt8 := keys.foldl (addK n) F
theorem bloomL_snoc (n : Nat) (F : List UInt8) (keys : List (List UInt8)) (k : List UInt8) : bloomL n F (keys ++ [k]) = addK n (bloomL n F keys) k := by simp [bloomL]
theorem length_bloomL (n : Nat) : ∀ (keys : List (List UInt8)) (F : List UInt8), (bloomL n F keys).length = F.length
  | [], _ => rfl
  | k :: r, F => by
    show (bloomL n (addK n F k) r).length = _
    rw [length_bloomL n r, length_addK]
/-- which bits are set: those of the start, and the three of each key -/
theorem bitOn_bloomL {n : Nat} : ∀ (keys : List (List UInt8)) {F : List UInt8}, n = 8 * F.length → 0 < F.length → ∀ q, bitOn (bloomL n F keys) q = true ↔ bitOn F q = true ∨ ∃ k ∈ keys, q = kbit k n 0 ∨ q = kbit k n 1 ∨ q = kbit k n 2
  | [], F, _, _, q => by simp [bloomL]
  | k :: r, F, hn, h0, q => by
    show bitOn (bloomL n (addK n F k) r) q = true ↔ _
    rw [bitOn_bloomL r (by rw [length_addK]; exact hn) (by rw [length_addK]; exact h0), bitOn_addK hn h0]
    simp only [Bool.or_eq_true, decide_eq_true_eq, List.mem_cons]
    constructor
    · rintro ((((h | h) | h) | h) | ⟨x, hx, h⟩)
      · exact .inl h
      · exact .inr ⟨k, .inl rfl, .inl h⟩
      · exact .inr ⟨k, .inl rfl, .inr (.inl h)⟩
      · exact .inr ⟨k, .inl rfl, .inr (.inr h)⟩
      · exact .inr ⟨x, .inr hx, h⟩
    · rintro (h | ⟨x, rfl | hx, h⟩)
      · exact .inl (.inl (.inl (.inl h)))
      · rcases h with h | h | h
        · exact .inl (.inl (.inl (.inr h)))
        · exact .inl (.inl (.inr h))
        · exact .inl (.inr h)
      · exact .inr ⟨x, hx, h⟩
/-- two rows of bytes of one length with the same bits are equal -/
theorem bits_eq {F G : List UInt8} (hl : F.length = G.length) (h : ∀ q, q < 8 * F.length → bitOn F q = bitOn G q) : F = G := by
  apply List.ext_getElem hl
  intro i h1 h2
  apply UInt8.toNat_inj.1
  apply Nat.eq_of_testBit_eq
  intro j
  by_cases hj : j < 8
  · have := h (8 * i + j) (by omega)
    unfold bitOn at this
    rw [show (8 * i + j) / 8 = i by omega, show (8 * i + j) % 8 = j by omega, List.getElem?_eq_getElem h1, List.getElem?_eq_getElem h2] at this
    exact this
  · rw [Nat.testBit_lt_two_pow (Nat.lt_of_lt_of_le F[i].toNat_lt (Nat.pow_le_pow_right (n := 2) (i := 8) (by omega) (by omega))), Nat.testBit_lt_two_pow (Nat.lt_of_lt_of_le G[i].toNat_lt (Nat.pow_le_pow_right (n := 2) (i := 8) (by omega) (by omega)))]
/-- what BloomOf answers -/
def bloomV (keys : List (List UInt8)) (size : Int) : List UInt8 := if 1 ≤ size ∧ size ≤ 64 ∧ keys.length ≤ 60 then bloomL (8 * size.toNat) (List.replicate size.toNat 0) keys else []
theorem bloomV_len (keys : List (List UInt8)) (size : Int) : (bloomV keys size).length ≤ 64 := by
  unfold bloomV
  split
  · rw [length_bloomL, List.length_replicate]; omega
  · simp
/-- what BloomMay answers -/
def hasK3 (F k : List UInt8) : Prop := ∀ i, i < 3 → bitOn F (kbit k (8 * F.length) i) = true
instance (F k : List UInt8) : Decidable (hasK3 F k) := by unfold hasK3; infer_instance
def mayV (F k : List UInt8) : Bool := decide (1 ≤ F.length ∧ F.length ≤ 64 ∧ hasK3 F k)
theorem may_bloom {keys : List (List UInt8)} {size : Int} {k : List UInt8} (hk : k ∈ keys) (h : 1 ≤ size ∧ size ≤ 64 ∧ keys.length ≤ 60) : mayV (bloomV keys size) k = true := by
  unfold bloomV
  rw [if_pos h]
  have hl : (bloomL (8 * size.toNat) (List.replicate size.toNat 0) keys).length = size.toNat := by rw [length_bloomL, List.length_replicate]
  refine decide_eq_true ⟨by rw [hl]; omega, by rw [hl]; omega, fun i hi => ?_⟩
  rw [hl]
  refine (bitOn_bloomL keys (by rw [List.length_replicate]) (by rw [List.length_replicate]; omega) _).2 (.inr ⟨k, hk, ?_⟩)
  have : i = 0 ∨ i = 1 ∨ i = 2 := by omega
  rcases this with rfl | rfl | rfl
  · exact .inl rfl
  · exact .inr (.inl rfl)
  · exact .inr (.inr rfl)
theorem may_none (k : List UInt8) : mayV [] k = false := decide_eq_false fun h => by simp at h
end Go.Proofs.YtncfodifcgjicaaDoor
