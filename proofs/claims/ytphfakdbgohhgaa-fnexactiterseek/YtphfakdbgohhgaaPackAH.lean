/-
  Texts of this proof, put together: StrK, MarkT.
-/
import Derived.Test.YtphfakdbgohhgaaPackAG
import Derived.Test.YtphfakdbgohhgaaPackAE
import Derived.Test.YtphfakdbgohhgaaPackAC

/-
  Strings as lists of bytes, in the words of the walk; l1In where its answer is known.
-/
namespace Go.Proofs.Ytphfakdbgohhgaa
open Go.ChangeShapes Go.WideShapes Go.ChangeAt Go.RowKit

theorem bl_of (l : List UInt8) : bl ⟨l.toArray⟩ = l := rfl
theorem size_of (l : List UInt8) : (ByteArray.mk l.toArray).size = l.length := by simp [ByteArray.size]
theorem run_cat (a b : List UInt8) (h : a.length + b.length ≤ 1048576) (W : World) : (Op.stringOp .add ⟨a.toArray⟩ ⟨b.toArray⟩).run Try.prog W = .ok (.string ⟨(a ++ b).toArray⟩) W := by
  rw [run_string_add_sum (P := Try.prog) (w := W) _ _ (by rw [size_of, size_of]; omega), ByteArray.mk_append_mk]
theorem below_of_drew' {w w' : World} (h : Below w.drew.heap.size w.drew w') : Below w.heap.size w w' := ⟨h.os, h.tape, h.output, h.size, h.block⟩
theorem ne_str {a : List UInt8} {s : ByteArray} (h : a ≠ bl s) : (a == s.toList) = false := by
  rw [beq_eq_false_iff_ne, ByteArray.toList_eq]
  exact h
theorem str_of (s : ByteArray) : (⟨(bl s).toArray⟩ : ByteArray) = s := by
  obtain ⟨⟨l⟩⟩ := s
  rfl
theorem cut_mk (l : List UInt8) (d : Nat) : (ByteArray.mk l.toArray).extract d l.length = ⟨(l.drop d).toArray⟩ := by
  have := ext_drop (ByteArray.mk l.toArray) d
  rw [size_of] at this
  exact this
theorem in_yes (x a b : Int) (w : World) (h0 : a ≤ x) (h1 : x ≤ b) :
    Calls Try.prog 72 #[.int .i64 x, .int .i64 a, .int .i64 b] w fun e w' => e = .returned (.bool true) ∧ w = w' :=
  (l1In_any x a b w).mono fun e w' ⟨he, hw⟩ => ⟨by rw [he, decide_eq_true h0, decide_eq_true h1]; rfl, hw⟩
theorem in_no (x a b : Int) (w : World) (h : x < a ∨ b < x) :
    Calls Try.prog 72 #[.int .i64 x, .int .i64 a, .int .i64 b] w fun e w' => e = .returned (.bool false) ∧ w = w' :=
  (l1In_any x a b w).mono fun e w' ⟨he, hw⟩ => ⟨by
    rw [he]
    rcases h with h | h
    · rw [decide_eq_false (by omega : ¬ a ≤ x)]; rfl
    · rw [decide_eq_false (by omega : ¬ x ≤ b), Bool.and_false], hw⟩
end Go.Proofs.Ytphfakdbgohhgaa

/-
  Contract of laws.markText: the text of a mark.
-/
namespace Go.Proofs.Ytphfakdbgohhgaa
open Go.ChangeShapes Go.WideShapes Go.ChangeAt Go.RowKit

/-- a digit's byte -/
def mdig (q : Nat) : UInt8 := UInt8.ofNat (48 + q % 10)
theorem mdig_toNat (q : Nat) : ((mdig q).toNat : Int) = 48 + ((q % 10 : Nat) : Int) := by
  simp [mdig, UInt8.toNat_ofNat']
  omega
def mdigs (q : Nat) (out : List UInt8) : List UInt8 := if h : q = 0 then out else mdigs (q / 10) (mdig q :: out)
termination_by q
decreasing_by omega
theorem mdigs_zero (out : List UInt8) : mdigs 0 out = out := by rw [mdigs]; simp
theorem mdigs_step (q : Nat) (out : List UInt8) (h : 0 < q) : mdigs q out = mdigs (q / 10) (mdig q :: out) := by rw [mdigs, dif_neg (by omega)]
/-- the text of a mark -/
def markS (k : Nat) : ByteArray := ⟨(109 :: mdigs k []).toArray⟩

theorem size_mkL (l : List UInt8) : (ByteArray.mk l.toArray).size = l.length := by simp [ByteArray.size]

theorem markText_any (k : Nat) (w : World) (h0 : 0 < k) (h1 : k ≤ 8388608) :
    Calls Try.prog 71 #[.int .i64 k] w (StringPost w (markS k)) := by
  go_enter Try.func71, Try.ntmps71
  go_wp2_with fail
  go_loopw [0, 3] (fun q o wr => ∃ (n : Nat) (l : List UInt8), q = .int .i64 n ∧ o = .string ⟨l.toArray⟩ ∧ n ≤ k ∧ l.length + n ≤ k ∧ Hid (mdigs n l = mdigs k []) ∧ Hid (Below w.heap.size w wr)) (fun q _ _ => (intOf q).toNat)
  case atStart => exact ⟨k, [], rfl, rfl, Nat.le_refl _, by simp, rfl, Below.refl _ _⟩
  case round =>
    obtain ⟨n, l, rfl, rfl, hn, hl, HM, HB⟩ := hrel
    have hs := HB.out.size
    by_cases hp : 0 < n
    · have HM1 := hide ((mdigs_step n l hp).symm.trans HM.out)
      have hd := mdig_toNat n
      have hcv := run_conv1 (48 + ((n : Int) % 10)) (mdig n) (by rw [hd]; omega) wr
      have hadd : ∀ W, (Op.stringOp .add ⟨#[mdig n]⟩ ⟨l.toArray⟩).run Try.prog W = .ok (.string ⟨(mdig n :: l).toArray⟩) W := fun W => by
        rw [run_string_add_sum (P := Try.prog) (w := W) _ _ (by rw [size_mkL]; simp [ByteArray.size]; omega), ByteArray.mk_append_mk]
        simp
      clear hd
      go_wp2_with fail
      go_roundw
      case rel => exact ⟨n / 10, mdig n :: l, by go_num, rfl, by omega, by rw [List.length_cons]; omega, HM1, HB.out.alloc hs _⟩
      case measure => simp [intOf]; omega
    · have hn0 : n = 0 := by omega
      subst hn0
      rw [mdigs_zero] at HM
      have hadd : ∀ W, (Op.stringOp .add ⟨#[109]⟩ ⟨l.toArray⟩).run Try.prog W = .ok (.string (markS k)) W := fun W => by
        rw [run_string_add_sum (P := Try.prog) (w := W) _ _ (by rw [size_mkL]; simp [ByteArray.size]; omega), ByteArray.mk_append_mk, HM.out]
        simp [markS]
      go_wp2_with fail
      go_ret
      exact ⟨rfl, HB.out⟩

theorem markText_z (z : Int) (k : Nat) (w : World) (hz : z = (k : Int)) (h0 : 0 < k) (h1 : k ≤ 8388608) :
    Calls Try.prog 71 #[.int .i64 z] w (StringPost w (markS k)) := by
  subst hz
  exact markText_any k w h0 h1

end Go.Proofs.Ytphfakdbgohhgaa
