/-
  What the functions of chapter 13 answer, on lists of bytes: nothing here speaks of the program.
-/
import Derived.Test.YtakjjfbocokpaaaDoorMathU
import Derived.Test.YtakjjfbocokpaaaDoorCrcJ
namespace Go.Proofs.YtakjjfbocokpaaaDoor
open Go.RowKit

def fOk (k : List UInt8) (n : Int) : Prop := k.length = 32 ∧ 0 ≤ n ∧ n ≤ 562949953421311
instance (k : List UInt8) (n : Int) : Decidable (fOk k n) := inferInstanceAs (Decidable (_ ∧ _))
/-- the key of a file -/
def fkeyV (k : List UInt8) (n : Int) : List UInt8 := (blockV k 0 (nonceL 4 n)).take 32
theorem nonceL_no {q n : Int} (h : ¬ (0 ≤ n ∧ n ≤ 562949953421311)) : nonceL q n = [] := by unfold nonceL; rw [if_neg (by omega)]
theorem fkey_ok {k : List UInt8} {n : Int} : BlockOk k 0 (nonceL 4 n) ↔ fOk k n := by
  constructor
  · rintro ⟨h1, h2, _⟩
    refine ⟨h1, ?_⟩
    refine Decidable.byContradiction fun hn => ?_
    rw [nonceL_no hn] at h2
    simp at h2
  · rintro ⟨h1, h2, h3⟩
    exact ⟨h1, length_nonceL 4 n ⟨by omega, by omega, h2, h3⟩, by omega, by omega⟩
theorem fkey_len {k : List UInt8} {n : Int} (h : fOk k n) : (fkeyV k n).length = 32 := by
  unfold fkeyV blockV
  rw [if_pos (fkey_ok.2 h), List.length_take, length_chaB]
  rfl
theorem fkey_no {k : List UInt8} {n : Int} (h : ¬ fOk k n) : fkeyV k n = [] := by
  unfold fkeyV blockV
  rw [if_neg fun q => h (fkey_ok.1 q)]
  rfl
/-- the stream over a file's text -/
def fstr (k : List UInt8) (n : Int) (t : List UInt8) : List UInt8 := streamV (fkeyV k n) 1 (nonceL 5 n) t
theorem fstr_ok {k : List UInt8} {n : Int} {t : List UInt8} (h : fOk k n) (ht : t.length ≤ 1048576) : StrOk (fkeyV k n) 1 (nonceL 5 n) t := by
  have h1 := fkey_len h
  have h2 := length_nonceL 5 n ⟨by omega, by omega, h.2.1, h.2.2⟩
  exact ⟨⟨h1, h2, by omega, by omega⟩, ⟨h1, h2, by omega, by omega⟩⟩
theorem fstr_len {k : List UInt8} {n : Int} {t : List UInt8} (h : fOk k n) (ht : t.length ≤ 1048576) : (fstr k n t).length = t.length := by
  unfold fstr
  rw [streamV_ok (fstr_ok h ht), length_strL]
theorem fstr_twice {k : List UInt8} {n : Int} {t : List UInt8} (h : fOk k n) (ht : t.length ≤ 1048576) : fstr k n (fstr k n t) = t := by
  have h1 := fstr_ok h ht
  unfold fstr
  rw [streamV_ok h1]
  exact streamV_twice h1
/-- the four bytes ahead -/
def sumF (s : List UInt8) : List UInt8 := fixedV (crcI s) 4
theorem sumF_len (s : List UInt8) : (sumF s).length = 4 := fixedV4 _ (crcI_bd s)
def fileV (k : List UInt8) (n : Int) (t : List UInt8) : List UInt8 := if fOk k n ∧ t.length ≤ 2000 then sumF (fstr k n t) ++ fstr k n t else []
theorem fileV_yes {k : List UInt8} {n : Int} {t : List UInt8} (h : fOk k n) (ht : t.length ≤ 2000) : fileV k n t = sumF (fstr k n t) ++ fstr k n t := if_pos ⟨h, ht⟩
theorem fileV_no {k : List UInt8} {n : Int} {t : List UInt8} (h : ¬ (fOk k n ∧ t.length ≤ 2000)) : fileV k n t = [] := if_neg h
theorem fileV_len {k : List UInt8} {n : Int} {t : List UInt8} (h : fOk k n) (ht : t.length ≤ 2000) : (fileV k n t).length = t.length + 4 := by
  rw [fileV_yes h ht, List.length_append, sumF_len, fstr_len h (by omega)]
  omega
theorem fileV_drop {k : List UInt8} {n : Int} {t : List UInt8} (h : fOk k n) (ht : t.length ≤ 2000) : (fileV k n t).drop 4 = fstr k n t := by
  rw [fileV_yes h ht, List.drop_append_of_le_length (by rw [sumF_len]; exact Nat.le_refl _), List.drop_of_length_le (by rw [sumF_len]; exact Nat.le_refl _), List.nil_append]
/-- a string that opens -/
def openOk (k : List UInt8) (n : Int) (s : List UInt8) : Prop := fOk k n ∧ 4 ≤ s.length ∧ fileV k n (fstr k n (s.drop 4)) = s
instance (k : List UInt8) (n : Int) (s : List UInt8) : Decidable (openOk k n s) := inferInstanceAs (Decidable (_ ∧ _))
def openV (k : List UInt8) (n : Int) (s : List UInt8) : List UInt8 := if openOk k n s then fstr k n (s.drop 4) else []
def openQ (k : List UInt8) (n : Int) (s : List UInt8) : Bool := decide (openOk k n s)
theorem open_yes {k : List UInt8} {n : Int} {s : List UInt8} (h : openOk k n s) : openV k n s = fstr k n (s.drop 4) ∧ openQ k n s = true := ⟨if_pos h, decide_eq_true h⟩
theorem open_no {k : List UInt8} {n : Int} {s : List UInt8} (h : ¬ openOk k n s) : openV k n s = [] ∧ openQ k n s = false := ⟨if_neg h, decide_eq_false h⟩
/-- what opens is its sum and the rest -/
theorem open_iff {k : List UInt8} {n : Int} {s : List UInt8} (hs : s.length ≤ 1048576) : openOk k n s ↔ fOk k n ∧ 4 ≤ s.length ∧ s.length ≤ 2004 ∧ s = sumF (s.drop 4) ++ s.drop 4 := by
  have hd : (s.drop 4).length ≤ 1048576 := by rw [List.length_drop]; omega
  constructor
  · rintro ⟨h1, h2, h3⟩
    have hl := fstr_len h1 hd
    by_cases ht : (fstr k n (s.drop 4)).length ≤ 2000
    · rw [fileV_yes h1 ht, fstr_twice h1 hd] at h3
      refine ⟨h1, h2, ?_, h3.symm⟩
      rw [hl, List.length_drop] at ht
      omega
    · rw [fileV_no (fun q => ht q.2)] at h3
      rw [← h3] at h2
      simp at h2
  · rintro ⟨h1, h2, h3, h4⟩
    have hl := fstr_len h1 hd
    refine ⟨h1, h2, ?_⟩
    rw [fileV_yes h1 (by rw [hl, List.length_drop]; omega), fstr_twice h1 hd]
    exact h4.symm
theorem open_file {k : List UInt8} {n : Int} {t : List UInt8} (h : fOk k n) (ht : t.length ≤ 2000) : openV k n (fileV k n t) = t ∧ openQ k n (fileV k n t) = true := by
  have hd := fileV_drop h ht
  have hb : openOk k n (fileV k n t) := ⟨h, by rw [fileV_len h ht]; omega, by rw [hd, fstr_twice h (by omega)]⟩
  obtain ⟨h1, h2⟩ := open_yes hb
  exact ⟨by rw [h1, hd, fstr_twice h (by omega)], h2⟩
theorem open_show {k : List UInt8} {n : Int} {s : List UInt8} (h : openQ k n s = true) : fileV k n (openV k n s) = s := by
  have hb : openOk k n s := of_decide_eq_true h
  rw [(open_yes hb).1]
  exact hb.2.2
theorem lowB_mod : ∀ (k : Nat) {a b : Nat}, lowB a k = lowB b k → a % 256 ^ k = b % 256 ^ k
  | 0, a, b, _ => by rw [Nat.pow_zero, Nat.mod_one, Nat.mod_one]
  | k + 1, a, b, h => by
    injection h with h1 h2
    have h3 := congrArg UInt8.toNat h1
    rw [UInt8.toNat_ofNat', UInt8.toNat_ofNat'] at h3
    have h4 : a / 256 ^ k % 256 = b / 256 ^ k % 256 := by omega
    rw [Nat.mod_pow_succ, Nat.mod_pow_succ, lowB_mod k h2, h4]
theorem lowB_inj (k : Nat) {a b : Nat} (ha : a < 256 ^ k) (hb : b < 256 ^ k) (h : lowB a k = lowB b k) : a = b := by
  have := lowB_mod k h
  rwa [Nat.mod_eq_of_lt ha, Nat.mod_eq_of_lt hb] at this
theorem sumF_inj {s t : List UInt8} (h : sumF s = sumF t) : crcRun 4294967295 s = crcRun 4294967295 t := by
  have hs := crcI_bd s
  have ht := crcI_bd t
  unfold sumF fixedV at h
  rw [if_pos ⟨by omega, by omega, hs.1⟩, if_pos ⟨by omega, by omega, ht.1⟩] at h
  unfold fixedL at h
  rw [show (4 : Int).toNat = 4 from rfl] at h
  rw [if_pos (Nat.div_eq_of_lt (by omega)), if_pos (Nat.div_eq_of_lt (by omega))] at h
  have := lowB_inj 4 (by omega) (by omega) h
  have h1 := crcRun_lt s 4294967295 (by omega)
  have h2 := crcRun_lt t 4294967295 (by omega)
  unfold crcI at hs ht this
  omega
/-- of two strings that differ in one byte one opens at most -/
theorem open_bent {k : List UInt8} {n : Int} {x y : List UInt8} {a b : UInt8} (hl : (x ++ a :: y).length ≤ 1048576) (ha : openQ k n (x ++ a :: y) = true) (hb : openQ k n (x ++ b :: y) = true) : a = b := by
  have hl' : (x ++ b :: y).length ≤ 1048576 := by simpa using hl
  obtain ⟨_, _, _, ea⟩ := (open_iff hl).1 (of_decide_eq_true ha)
  obtain ⟨_, _, _, eb⟩ := (open_iff hl').1 (of_decide_eq_true hb)
  by_cases h4 : x.length < 4
  · have e1 : (x ++ a :: y).drop 4 = (x ++ b :: y).drop 4 := by
      rw [List.drop_append, List.drop_append]
      congr 1
      obtain ⟨m, hm⟩ : ∃ m, 4 - x.length = m + 1 := ⟨3 - x.length, by omega⟩
      rw [hm]
      rfl
    rw [e1] at ea
    have := ea.trans eb.symm
    have h := List.append_cancel_left this
    injection h
  · have e1 : ∀ z : UInt8, (x ++ z :: y).drop 4 = x.drop 4 ++ z :: y := fun z => List.drop_append_of_le_length (by omega)
    have e2 : ∀ z : UInt8, (x ++ z :: y).take 4 = x.take 4 := fun z => List.take_append_of_le_length (by omega)
    have t1 : x.take 4 = sumF (x.drop 4 ++ a :: y) := by
      have := congrArg (List.take 4) ea
      rw [e2, e1, List.take_append_of_le_length (by rw [sumF_len]; exact Nat.le_refl _), List.take_of_length_le (l := sumF _) (by rw [sumF_len]; exact Nat.le_refl _)] at this
      exact this
    have t2 : x.take 4 = sumF (x.drop 4 ++ b :: y) := by
      have := congrArg (List.take 4) eb
      rw [e2, e1, List.take_append_of_le_length (by rw [sumF_len]; exact Nat.le_refl _), List.take_of_length_le (l := sumF _) (by rw [sumF_len]; exact Nat.le_refl _)] at this
      exact this
    exact crcRun_bent (by omega) _ _ _ _ (sumF_inj (t1.symm.trans t2))
end Go.Proofs.YtakjjfbocokpaaaDoor
