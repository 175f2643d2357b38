/-
  Plain mathematics for chapter 3: the stream. Nothing here speaks of a program.
-/
import Derived.Test.YtakjjfbocokpaaaDoorSet8
import Derived.Test.YtakjjfbocokpaaaDoorBloV
namespace Go.Proofs.YtakjjfbocokpaaaDoor
open Go.RowKit

/-- byte j of the stream over the text t -/
def strB (k : List UInt8) (c : Int) (n t : List UInt8) (j : Nat) : UInt8 := t.getD j 0 ^^^ (chaB k (c.toNat + j / 64) n).getD (j % 64) 0
def strL (k : List UInt8) (c : Int) (n t : List UInt8) : List UInt8 := (List.range t.length).map fun j => strB k c n t j
theorem length_strL (k : List UInt8) (c : Int) (n t : List UInt8) : (strL k c n t).length = t.length := by simp [strL]
theorem strL_at (k : List UInt8) (c : Int) (n t : List UInt8) (j : Nat) (h : j < (strL k c n t).length) : (strL k c n t)[j] = strB k c n t j := by simp [strL]
def StrOk (k : List UInt8) (c : Int) (n t : List UInt8) : Prop := BlockOk k c n ∧ BlockOk k (c + ((t.length - 1) / 64 : Nat)) n
instance (k : List UInt8) (c : Int) (n t : List UInt8) : Decidable (StrOk k c n t) := by unfold StrOk; infer_instance
def streamV (k : List UInt8) (c : Int) (n t : List UInt8) : List UInt8 := if StrOk k c n t then strL k c n t else []
theorem strOk_of {k : List UInt8} {c : Int} {n t : List UInt8} (i : Nat) (h : ∀ i', i' < i → BlockOk k (c + (i' : Nat)) n) (hi : 0 < i) (hl : t.length ≤ 64 * i) : StrOk k c n t := by
  have h0 := h 0 hi
  rw [show c + ((0 : Nat) : Int) = c by omega] at h0
  exact ⟨h0, h _ (by omega)⟩
theorem strOk_blocks {k : List UInt8} {c : Int} {n t : List UInt8} (h : StrOk k c n t) (i : Nat) (hi : i = 0 ∨ 64 * i < t.length) : BlockOk k (c + (i : Nat)) n := by
  obtain ⟨⟨h1, h2, h3, h4⟩, ⟨_, _, h5, h6⟩⟩ := h
  refine ⟨h1, h2, by omega, ?_⟩
  have : i ≤ (t.length - 1) / 64 := by omega
  omega
theorem u8_xor_byte (a b : UInt8) : bits .xor .u8 (a.toNat : Int) (b.toNat : Int) = ((a ^^^ b).toNat : Int) := by
  rw [u8_xor_nat _ _ a.toNat_lt b.toNat_lt, UInt8.toNat_xor]
end Go.Proofs.YtakjjfbocokpaaaDoor
