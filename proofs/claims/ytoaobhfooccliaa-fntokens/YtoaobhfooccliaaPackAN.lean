/-
  Texts of this proof, put together: TokM.
-/
import Derived.Test.YtoaobhfooccliaaPackAA
import Derived.Test.YtoaobhfooccliaaPackAL
import Derived.Test.YtoaobhfooccliaaPackAM
import Derived.Test.YtoaobhfooccliaaPackAE

/-
  What MintToken and ReadToken answer, on lists of bytes: nothing here speaks of the program.
-/
namespace Go.Proofs.Ytoaobhfooccliaa
open Go.RowKit

def tokOk (k : List UInt8) (t e : Int) : Prop := k.length = 32 ∧ 1 ≤ t ∧ t ≤ 99 ∧ 0 ≤ e ∧ e ≤ 1000000
instance (k : List UInt8) (t e : Int) : Decidable (tokOk k t e) := inferInstanceAs (Decidable (_ ∧ _))
/-- the bytes behind the two numbers -/
def tagL (k : List UInt8) (t e : Int) : List UInt8 := (blockV k e (nonceL 2 t)).take 8
/-- the tag as the program makes it: none beyond the limits -/
def tagV (k : List UInt8) (t e : Int) : List UInt8 := if tokOk k t e then tagL k t e else []
def tokV (k : List UInt8) (t e : Int) : List UInt8 := if tokOk k t e then varV t ++ varV e ++ tagL k t e else []
theorem tok_block {k : List UInt8} {t e : Int} (h : tokOk k t e) : BlockOk k e (nonceL 2 t) := by
  obtain ⟨h1, h2, h3, h4, h5⟩ := h
  exact ⟨h1, length_nonceL 2 t ⟨by omega, by omega, by omega, by omega⟩, h4, by omega⟩
theorem length_blockV {k : List UInt8} {c : Int} {n : List UInt8} (h : BlockOk k c n) : (blockV k c n).length = 64 := by
  unfold blockV; rw [if_pos h, length_chaB]
theorem length_tagL {k : List UInt8} {t e : Int} (h : tokOk k t e) : (tagL k t e).length = 8 := by
  unfold tagL; rw [List.length_take, length_blockV (tok_block h)]; rfl
theorem tagV_yes {k : List UInt8} {t e : Int} (h : tokOk k t e) : tagV k t e = tagL k t e := by unfold tagV; rw [if_pos h]
theorem tagV_no {k : List UInt8} {t e : Int} (h : ¬ tokOk k t e) : tagV k t e = [] := by unfold tagV; rw [if_neg h]
theorem tokV_yes {k : List UInt8} {t e : Int} (h : tokOk k t e) : tokV k t e = varV t ++ varV e ++ tagL k t e := by unfold tokV; rw [if_pos h]
theorem tokV_no {k : List UInt8} {t e : Int} (h : ¬ tokOk k t e) : tokV k t e = [] := by unfold tokV; rw [if_neg h]
theorem varV_len (n : Int) : (varV n).length ≤ 7 := by
  unfold varV
  split
  · rename_i h; exact varL_len7 _ (by omega)
  · simp
theorem varV_nat (n : Nat) (h : n ≤ 562949953421311) : varV n = varL n := by unfold varV; rw [if_pos ⟨by omega, by omega⟩]; rfl
theorem tokV_len (k : List UInt8) (t e : Int) : (tokV k t e).length ≤ 22 := by
  by_cases h : tokOk k t e
  · rw [tokV_yes h, List.length_append, List.length_append, length_tagL h]
    have := varV_len t
    have := varV_len e
    omega
  · rw [tokV_no h]; simp
theorem tokV_ok {k : List UInt8} {t e : Int} (h : tokV k t e ≠ []) : tokOk k t e := Classical.byContradiction fun hn => h (tokV_no hn)
theorem tokV_len8 {k : List UInt8} {t e : Int} (h : tokOk k t e) : 10 ≤ (tokV k t e).length := by
  rw [tokV_yes h, List.length_append, List.length_append, length_tagL h]
  obtain ⟨_, h2, h3, h4, h5⟩ := h
  have e1 := varL_pos t.toNat
  have e2 := varL_pos e.toNat
  rw [varV, if_pos ⟨by omega, by omega⟩, varV, if_pos ⟨by omega, by omega⟩]
  omega

/-- the two numbers that a string opens with, and where each ends -/
def szT (s : List UInt8) : Nat := (readVarL s).2
def claimT (s : List UInt8) : Nat := (readVarL s).1
def szE (s : List UInt8) : Nat := (readVarL (s.drop (szT s))).2
def claimE (s : List UInt8) : Nat := (readVarL (s.drop (szT s))).1
def isTok (k s : List UInt8) : Prop := s ≠ [] ∧ tokV k (claimT s) (claimE s) = s
instance (k s : List UInt8) : Decidable (isTok k s) := inferInstanceAs (Decidable (_ ∧ _))
def rtT (k s : List UInt8) : Int := if isTok k s then (claimT s : Int) else 0
def rtE (k s : List UInt8) : Int := if isTok k s then (claimE s : Int) else 0
def rtB (k s : List UInt8) : Bool := decide (isTok k s)
theorem rt_yes {k s : List UInt8} (h : isTok k s) : rtT k s = claimT s ∧ rtE k s = claimE s ∧ rtB k s = true := ⟨if_pos h, if_pos h, decide_eq_true h⟩
theorem rt_no {k s : List UInt8} (h : ¬ isTok k s) : rtT k s = 0 ∧ rtE k s = 0 ∧ rtB k s = false := ⟨if_neg h, if_neg h, decide_eq_false h⟩
/-- what a token, and whatever opens as one, claims -/
theorem claim_of (t e : Int) (T : List UInt8) (ht : 0 ≤ t ∧ t ≤ 562949953421311) (he : 0 ≤ e ∧ e ≤ 562949953421311) :
    (claimT (varV t ++ varV e ++ T) : Int) = t ∧ (claimE (varV t ++ varV e ++ T) : Int) = e ∧ 0 < szT (varV t ++ varV e ++ T) ∧ 0 < szE (varV t ++ varV e ++ T) := by
  have e1 : readVarL (varV t ++ varV e ++ T) = (t.toNat, (varL t.toNat).length) := by
    rw [List.append_assoc, varV, if_pos ht]
    exact readVarL_var t.toNat (by omega) _
  have e2 : (varV t ++ varV e ++ T).drop (varL t.toNat).length = varL e.toNat ++ T := by
    rw [List.append_assoc, varV, if_pos ht, List.drop_left, varV, if_pos he]
  have e3 := readVarL_var e.toNat (by omega) T
  have p1 := varL_pos t.toNat
  have p2 := varL_pos e.toNat
  unfold claimE szE claimT szT
  rw [e1]
  simp only
  rw [e2, e3]
  exact ⟨by omega, by omega, p1, p2⟩
theorem tok_claims {k s : List UInt8} (h : isTok k s) : tokOk k (claimT s) (claimE s) ∧ 0 < szT s ∧ 0 < szE s := by
  obtain ⟨h0, h1⟩ := h
  have hk : tokOk k (claimT s) (claimE s) := tokV_ok (by rw [h1]; exact h0)
  have hc := claim_of (claimT s) (claimE s) (tagL k (claimT s) (claimE s)) ⟨by omega, by have := hk.2.2.1; omega⟩ ⟨by omega, by have := hk.2.2.2.2; omega⟩
  rw [← tokV_yes hk, h1] at hc
  exact ⟨hk, hc.2.2.1, hc.2.2.2⟩
theorem claim_nil : claimT [] = 0 ∧ claimE [] = 0 := by decide
/-- the program's test: the claim is not zero, and its token is the string -/
theorem isTok_iff (k s : List UInt8) : isTok k s ↔ ¬ (claimT s = 0 ∧ claimE s = 0) ∧ tokV k (claimT s) (claimE s) = s := by
  constructor
  · intro h
    have := (tok_claims h).1.2.1
    exact ⟨fun h0 => by omega, h.2⟩
  · rintro ⟨h0, h1⟩
    refine ⟨fun hs => h0 ?_, h1⟩
    subst hs
    exact claim_nil
theorem size_claim (s : List UInt8) : szT s ≤ s.length ∧ claimT s ≤ 562949953421311 ∧ claimE s ≤ 562949953421311 ∧ szE s ≤ s.length - szT s := by
  have h1 := readVarL_le s
  have h2 := readVarL_le (s.drop (szT s))
  rw [List.length_drop] at h2
  exact ⟨h1.2, h1.1, h2.1, h2.2⟩

/-- a token is one -/
theorem tok_is {k : List UInt8} {t e : Int} (h : tokOk k t e) : isTok k (tokV k t e) ∧ (claimT (tokV k t e) : Int) = t ∧ (claimE (tokV k t e) : Int) = e := by
  have hc := claim_of t e (tagL k t e) ⟨by have := h.2.1; omega, by have := h.2.2.1; omega⟩ ⟨h.2.2.2.1, by have := h.2.2.2.2; omega⟩
  rw [← tokV_yes h] at hc
  refine ⟨⟨fun h0 => ?_, by rw [hc.1, hc.2.1]⟩, hc.1, hc.2.1⟩
  have := tokV_len8 h
  rw [h0] at this
  simp at this
/-- with one of its last eight bytes changed it is none -/
theorem tok_bent {k : List UInt8} {t e : Int} (h : tokOk k t e) (p : Nat) (b : UInt8) (h8 : (tokV k t e).length - 8 ≤ p) (hp : p < (tokV k t e).length) (hb : b ≠ (tokV k t e)[p]) :
    ¬ isTok k ((tokV k t e).take p ++ [b] ++ (tokV k t e).drop (p + 1)) := by
  obtain ⟨V, hV⟩ : ∃ V, V = tokV k t e := ⟨_, rfl⟩
  rw [← hV] at h8
  have hp' : p < V.length := by rw [hV]; exact hp
  have hb' : b ≠ V[p] := by simp only [hV]; exact hb
  rw [← hV]
  have hl := length_tagL h
  have hy := tokV_yes h
  rw [← hV] at hy
  have hlen : V.length = (varV t ++ varV e).length + 8 := by rw [hy, ← hl]; exact List.length_append
  have hsplit : V.take p ++ [b] ++ V.drop (p + 1) = varV t ++ varV e ++ ((tagL k t e).take (p - (varV t ++ varV e).length) ++ [b] ++ V.drop (p + 1)) := by
    rw [show V.take p = varV t ++ varV e ++ (tagL k t e).take (p - (varV t ++ varV e).length) by
      rw [hy, List.take_append, List.take_of_length_le (by omega)]]
    simp only [List.append_assoc]
  have hc := claim_of t e ((tagL k t e).take (p - (varV t ++ varV e).length) ++ [b] ++ V.drop (p + 1)) ⟨by have := h.2.1; omega, by have := h.2.2.1; omega⟩ ⟨h.2.2.2.1, by have := h.2.2.2.2; omega⟩
  rw [← hsplit] at hc
  rintro ⟨_, h1⟩
  rw [hc.1, hc.2.1, ← hV] at h1
  refine hb' ?_
  have h2 : V[p]? = (V.take p ++ [b] ++ V.drop (p + 1))[p]? := by rw [← h1]
  rw [List.getElem?_eq_getElem hp', List.append_assoc, List.getElem?_append_right (by rw [List.length_take]; omega), List.length_take, Nat.min_eq_left (by omega), Nat.sub_self] at h2
  simpa using h2.symm
end Go.Proofs.Ytoaobhfooccliaa
