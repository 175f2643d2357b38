/-
  Contract of laws.markText: the text of a mark.
-/
import Derived.Test.YtphfakdbgohhgaaConv
import Derived.Test.YtphfakdbgohhgaaBytes
import Derived.Test.YtphfakdbgohhgaaPosts
namespace Go.Proofs.Ytphfakdbgohhgaa
open Go.ChangeShapes Go.WideShapes Go.ChangeAt Go.RowKit

/-- a digit's byte -/
def mdig (q : Nat) : UInt8 := UInt8.ofNat (48 + q % 10)
theorem mdig_toNat (q : Nat) : ((mdig q).toNat : Int) = 48 + ((q % 10 : Nat) : Int) := by
  simp [mdig, UInt8.toNat_ofNat']
  omega
def mdigs (q : Nat) (out : List UInt8) : List UInt8 := if h : q = 0 then out else mdigs (q / 10) (mdig q :: out)
termination_by q
decreasing_by omega
theorem mdigs_zero (out : List UInt8) : mdigs 0 out = out := by rw [mdigs]; simp
theorem mdigs_step (q : Nat) (out : List UInt8) (h : 0 < q) : mdigs q out = mdigs (q / 10) (mdig q :: out) := by rw [mdigs, dif_neg (by omega)]
/-- the text of a mark -/
def markS (k : Nat) : ByteArray := ⟨(109 :: mdigs k []).toArray⟩

theorem size_mkL (l : List UInt8) : (ByteArray.mk l.toArray).size = l.length := by simp [ByteArray.size]

theorem markText_any (k : Nat) (w : World) (h0 : 0 < k) (h1 : k ≤ 8388608) :
    Calls Try.prog 71 #[.int .i64 k] w (StringPost w (markS k)) := by
  go_enter Try.func71, Try.ntmps71
  go_wp2_with fail
  go_loopw [0, 3] (fun q o wr => ∃ (n : Nat) (l : List UInt8), q = .int .i64 n ∧ o = .string ⟨l.toArray⟩ ∧ n ≤ k ∧ l.length + n ≤ k ∧ Hid (mdigs n l = mdigs k []) ∧ Hid (Below w.heap.size w wr)) (fun q _ _ => (intOf q).toNat)
  case atStart => exact ⟨k, [], rfl, rfl, Nat.le_refl _, by simp, rfl, Below.refl _ _⟩
  case round =>
    obtain ⟨n, l, rfl, rfl, hn, hl, HM, HB⟩ := hrel
    have hs := HB.out.size
    by_cases hp : 0 < n
    · have HM1 := hide ((mdigs_step n l hp).symm.trans HM.out)
      have hd := mdig_toNat n
      have hcv := run_conv1 (48 + ((n : Int) % 10)) (mdig n) (by rw [hd]; omega) wr
      have hadd : ∀ W, (Op.stringOp .add ⟨#[mdig n]⟩ ⟨l.toArray⟩).run Try.prog W = .ok (.string ⟨(mdig n :: l).toArray⟩) W := fun W => by
        rw [run_string_add_sum (P := Try.prog) (w := W) _ _ (by rw [size_mkL]; simp [ByteArray.size]; omega), ByteArray.mk_append_mk]
        simp
      clear hd
      go_wp2_with fail
      go_roundw
      case rel => exact ⟨n / 10, mdig n :: l, by go_num, rfl, by omega, by rw [List.length_cons]; omega, HM1, HB.out.alloc hs _⟩
      case measure => simp [intOf]; omega
    · have hn0 : n = 0 := by omega
      subst hn0
      rw [mdigs_zero] at HM
      have hadd : ∀ W, (Op.stringOp .add ⟨#[109]⟩ ⟨l.toArray⟩).run Try.prog W = .ok (.string (markS k)) W := fun W => by
        rw [run_string_add_sum (P := Try.prog) (w := W) _ _ (by rw [size_mkL]; simp [ByteArray.size]; omega), ByteArray.mk_append_mk, HM.out]
        simp [markS]
      go_wp2_with fail
      go_ret
      exact ⟨rfl, HB.out⟩

theorem markText_z (z : Int) (k : Nat) (w : World) (hz : z = (k : Int)) (h0 : 0 < k) (h1 : k ≤ 8388608) :
    Calls Try.prog 71 #[.int .i64 z] w (StringPost w (markS k)) := by
  subst hz
  exact markText_any k w h0 h1

end Go.Proofs.Ytphfakdbgohhgaa
