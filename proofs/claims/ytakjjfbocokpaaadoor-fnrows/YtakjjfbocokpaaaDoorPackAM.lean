/-
  Texts of this proof, put together: ReadVarI, CrcS, MathS, MathZ.
-/
import Derived.Test.YtakjjfbocokpaaaDoorPackAE
import Derived.Test.YtakjjfbocokpaaaDoorPackAA
import Derived.Test.YtakjjfbocokpaaaDoorPackAC
import Derived.Test.YtakjjfbocokpaaaDoorRows
import Derived.WalkKit
import Derived.ProofKit
import Derived.OpenShut
import Derived.ShutString
import Derived.WalkSpells

/-
  Contract of impl.ReadVar.
-/
namespace Go.Proofs.YtakjjfbocokpaaaDoor
open Go.ChangeShapes Go.WideShapes Go.ChangeAt Go.RowKit

def RvPost (w : World) (s : ByteArray) (e : Ending) (w' : World) : Prop := e = .returned (.tuple #[.int .i64 (readVarL (bl s)).1, .int .i64 (readVarL (bl s)).2]) ∧ Below w.heap.size w w'

theorem rvPost_of {w w' : World} {s : ByteArray} {a b : Nat} {e : Ending} (h : readVarL (bl s) = (a, b)) (he : e = .returned (.tuple #[.int .i64 a, .int .i64 b])) (hb : Below w.heap.size w w') : RvPost w s e w' := by
  unfold RvPost; rw [h]; exact ⟨he, hb⟩

set_option maxRecDepth 20000 in
theorem iReadVar_any (s : ByteArray) (w : World) (hm : s.size ≤ maxLen) :
    Calls Tryd.prog 123 #[.string s] w (RvPost w s) := by
  unfold maxLen at hm
  go_enter Tryd.func123, Tryd.ntmps123
  go_wp2
  all_goals
    go_loop [4, 5, 6, 10] (fun n _ _ i => ∃ j : Nat, j ≤ 7 ∧ j ≤ s.size ∧ i = .int .i64 j ∧ n = .int .i64 (le7 ((bl s).take j) : Nat) ∧ Hid (∀ t (ht : t < (bl s).length), t < j → 128 ≤ (bl s)[t].toNat)) (fun _ _ _ i => 7 - (intOf i).toNat)
    case atStart => exact ⟨0, by omega, by omega, rfl, rfl, fun t _ h => by omega⟩
    case round =>
      obtain ⟨j, hj7, hjs, rfl, rfl, HA⟩ := hrel
      by_cases hlt : j < 7 ∧ j < s.size
      · obtain ⟨hl7, hls⟩ := hlt
        have hc : (s[j]'hls).toNat < 256 := (s[j]'hls).toNat_lt
        have hbl : j < (bl s).length := by rw [bl_len]; exact hls
        have HT := hide (bl_take s j hls)
        have HE := hide (bl_at s j hls hbl)
        have HJ := hide (le7_join ((bl s).take j) j (s[j]'hls) hl7 (by rw [List.length_take]; omega))
        have hmod : ((s[j]'hls).toNat : Int) % 128 < 128 := by omega
        by_cases hs : (s[j]'hls).toNat < 128
        · have hd : decide (((s[j]'hls).toNat : Int) < 128) = true := decide_eq_true (by omega)
          have HV := hide (show ((le7 ((bl s).take (j + 1)) : Nat) : Int) = bits .or .i64 ((le7 ((bl s).take j) : Nat) : Int) (wrap64 (((s[j]'hls).toNat : Int) % 128 * 2 ^ (7 * j))) by rw [HT.out]; exact HJ.out.symm)
          by_cases hz0 : s[j]'hls = 0
          · have HZ := hide hz0
            have he : (((s[j]'hls).toNat : Int) == 0) = true := by simp [hz0]
            clear hz0
            by_cases hp : 0 < j
            · have HR := hide (readVarL_zero hbl hl7 HA.out (by rw [HE.out]; exact HZ.out) hp)
              clear HE hbl
              go_wp2
              go_ret2
              exact rvPost_of HR.out rfl (Below.refl _ _)
            · have HR := hide (readVarL_at hbl hl7 HA.out (by rw [HE.out]; exact hs) (fun h => hp h.2))
              clear HE hbl
              go_wp2
              go_ret2
              exact rvPost_of HR.out (by rw [HV.out]; rfl) (Below.refl _ _)
          · have HR := hide (readVarL_at hbl hl7 HA.out (by rw [HE.out]; exact hs) (by rw [HE.out]; exact fun h => hz0 h.1))
            have hne : ¬ (s[j]'hls).toNat = 0 := fun h => hz0 (UInt8.toNat_inj.1 h)
            have he : (((s[j]'hls).toNat : Int) == 0) = false := by simp only [beq_eq_false_iff_ne]; omega
            clear hz0 hne HE hbl
            go_wp2
            go_ret2
            exact rvPost_of HR.out (by rw [HV.out]; rfl) (Below.refl _ _)
        · have hd : decide (((s[j]'hls).toNat : Int) < 128) = false := decide_eq_false (by omega)
          go_wp2
          go_round
          case rel =>
            refine ⟨j + 1, by omega, by omega, by go_num, by rw [HT.out, ← HJ.out], fun t ht htj => ?_⟩
            by_cases htj' : t < j
            · exact HA.out t ht htj'
            · obtain rfl : t = j := by omega
              rw [HE.out]; omega
          case measure => simp [intOf]; omega
      · have HR := hide (readVarL_none (l := bl s) (fun t ht ht7 => HA.out t ht (by rw [bl_len] at ht; omega)))
        go_wp2
        go_ret2
        exact rvPost_of HR.out rfl (Below.refl _ _)
end Go.Proofs.YtakjjfbocokpaaaDoor

/-
  Contract of spec.Crc.
-/
namespace Go.Proofs.YtakjjfbocokpaaaDoor
open Go.ChangeShapes Go.WideShapes Go.ChangeAt Go.RowKit

theorem crcBits_zero (c : Nat) : crcBits c 0 = c := rfl
theorem crcBit_odd (c k : Nat) (h : crcBits c k % 2 = 1) : ((crcBits c k / 2 ^^^ 2197175160 : Nat) : Int) = crcBits c (k + 1) := by
  show _ = ((crcBit (crcBits c k) : Nat) : Int); unfold crcBit; rw [if_pos h]
theorem crcBit_even (c k : Nat) (h : ¬ crcBits c k % 2 = 1) : ((crcBits c k / 2 : Nat) : Int) = crcBits c (k + 1) := by
  show _ = ((crcBit (crcBits c k) : Nat) : Int); unfold crcBit; rw [if_neg h]
theorem sCrc_any (s : ByteArray) (w : World) (hm : s.size ≤ maxLen) :
    Calls Tryd.prog 81 #[.string s] w fun e w' => e = .returned (.int .i64 (4294967295 - (crcRun 4294967295 (bl s) : Int))) ∧ w = w' := by
  unfold maxLen at hm
  go_enter Tryd.func81, Tryd.ntmps81
  go_wp2
  go_loop [3, 4, 5] (fun c i _ => ∃ j : Nat, j ≤ s.size ∧ i = .int .i64 j ∧ c = .int .i64 (crcRun 4294967295 ((bl s).take j) : Nat)) (fun _ i _ => s.size - (intOf i).toNat)
  case atStart => exact ⟨0, Nat.zero_le _, rfl, rfl⟩
  case round =>
    obtain ⟨j, hj, rfl, rfl⟩ := hrel
    have hlt32 := crcRun_lt ((bl s).take j) 4294967295 (by omega)
    by_cases hlt : j < s.size
    · have hc : s[j].toNat < 256 := s[j].toNat_lt
      have HT := hide (bl_take s j hlt)
      have HR := hide (crcRun_snoc 4294967295 ((bl s).take j) s[j])
      generalize hcr : crcRun 4294967295 ((bl s).take j) = c at *
      have HX := hide (i64_xor_nat c s[j].toNat (by omega) (by omega))
      have hx := xor_lt32 c s[j].toNat hlt32 (by omega)
      have HC := hide hcr
      clear hcr
      go_wp2
      go_loop [3, 5] (fun c' k => ∃ m : Nat, m ≤ 8 ∧ k = .int .i64 m ∧ c' = .int .i64 (crcBits (c ^^^ s[j].toNat) m : Nat)) (fun _ k => 8 - (intOf k).toNat)
      case atStart => exact ⟨0, Nat.zero_le _, rfl, by rw [HX.out]; rfl⟩
      case round =>
        obtain ⟨m, hm8, rfl, rfl⟩ := hrel
        have hb := crcBits_lt (c ^^^ s[j].toNat) hx m
        by_cases hlt8 : m < 8
        · by_cases hodd : crcBits (c ^^^ s[j].toNat) m % 2 = 1
          · have HO := hide (crcBit_odd (c ^^^ s[j].toNat) m hodd)
            have HB := hide (i64_xor_nat (crcBits (c ^^^ s[j].toNat) m / 2) 2197175160 (by omega) (by omega))
            go_wp2
            go_round
            case rel => exact ⟨m + 1, by omega, by go_num, (by rw [← HO.out, ← HB.out]; rfl)⟩
            case measure => simp [intOf]; omega
          · have HE := hide (crcBit_even (c ^^^ s[j].toNat) m hodd)
            go_wp2
            go_round
            case rel => exact ⟨m + 1, by omega, by go_num, (by rw [← HE.out]; rfl)⟩
            case measure => simp [intOf]; omega
        · have hm8' : m = 8 := by omega
          subst hm8'
          go_wp2
          go_round
          case rel => exact ⟨j + 1, by omega, by go_num, (by rw [HT.out, HR.out]; rfl)⟩
          case measure => simp [intOf]; omega
    · have hjk : j = s.size := by omega
      subst hjk
      go_wp2
      go_ret
      exact ⟨ret_int ((by rw [List.take_of_length_le (by rw [bl_len]; omega)])), rfl⟩
end Go.Proofs.YtakjjfbocokpaaaDoor

/-
  Plain mathematics for chapter 3: the stream. Nothing here speaks of a program.
-/
namespace Go.Proofs.YtakjjfbocokpaaaDoor
open Go.RowKit

/-- byte j of the stream over the text t -/
def strB (k : List UInt8) (c : Int) (n t : List UInt8) (j : Nat) : UInt8 := t.getD j 0 ^^^ (chaB k (c.toNat + j / 64) n).getD (j % 64) 0
def strL (k : List UInt8) (c : Int) (n t : List UInt8) : List UInt8 := (List.range t.length).map fun j => strB k c n t j
theorem length_strL (k : List UInt8) (c : Int) (n t : List UInt8) : (strL k c n t).length = t.length := by simp [strL]
theorem strL_at (k : List UInt8) (c : Int) (n t : List UInt8) (j : Nat) (h : j < (strL k c n t).length) : (strL k c n t)[j] = strB k c n t j := by simp [strL]
def StrOk (k : List UInt8) (c : Int) (n t : List UInt8) : Prop := BlockOk k c n ∧ BlockOk k (c + ((t.length - 1) / 64 : Nat)) n
instance (k : List UInt8) (c : Int) (n t : List UInt8) : Decidable (StrOk k c n t) := by unfold StrOk; infer_instance
def streamV (k : List UInt8) (c : Int) (n t : List UInt8) : List UInt8 := if StrOk k c n t then strL k c n t else []
theorem strOk_of {k : List UInt8} {c : Int} {n t : List UInt8} (i : Nat) (h : ∀ i', i' < i → BlockOk k (c + (i' : Nat)) n) (hi : 0 < i) (hl : t.length ≤ 64 * i) : StrOk k c n t := by
  have h0 := h 0 hi
  rw [show c + ((0 : Nat) : Int) = c by omega] at h0
  exact ⟨h0, h _ (by omega)⟩
theorem strOk_blocks {k : List UInt8} {c : Int} {n t : List UInt8} (h : StrOk k c n t) (i : Nat) (hi : i = 0 ∨ 64 * i < t.length) : BlockOk k (c + (i : Nat)) n := by
  obtain ⟨⟨h1, h2, h3, h4⟩, ⟨_, _, h5, h6⟩⟩ := h
  refine ⟨h1, h2, by omega, ?_⟩
  have : i ≤ (t.length - 1) / 64 := by omega
  omega
theorem u8_xor_byte (a b : UInt8) : bits .xor .u8 (a.toNat : Int) (b.toNat : Int) = ((a ^^^ b).toNat : Int) := by
  rw [u8_xor_nat _ _ a.toNat_lt b.toNat_lt, UInt8.toNat_xor]
end Go.Proofs.YtakjjfbocokpaaaDoor

/-
  Plain mathematics for chapter 3: a stream applied twice, and a stream from its second block on.
-/
namespace Go.Proofs.YtakjjfbocokpaaaDoor
open Go.RowKit

theorem strOk_len {k : List UInt8} {c : Int} {n t t' : List UInt8} (h : StrOk k c n t) (e : t'.length = t.length) : StrOk k c n t' := by
  unfold StrOk at *; rw [e]; exact h
theorem streamV_ok {k : List UInt8} {c : Int} {n t : List UInt8} (h : StrOk k c n t) : streamV k c n t = strL k c n t := by rw [streamV, if_pos h]
theorem streamV_no {k : List UInt8} {c : Int} {n t : List UInt8} (h : ¬ StrOk k c n t) : streamV k c n t = [] := by rw [streamV, if_neg h]
theorem xor_back (a b : UInt8) : a ^^^ b ^^^ b = a := by rw [UInt8.xor_assoc, UInt8.xor_self, UInt8.xor_zero]
theorem strL_twice (k : List UInt8) (c : Int) (n t : List UInt8) : strL k c n (strL k c n t) = t := by
  refine List.ext_getElem (by rw [length_strL, length_strL]) fun j h1 h2 => ?_
  rw [strL_at, strB]
  have e : (strL k c n t).getD j 0 = strB k c n t j := by
    have h3 : j < (strL k c n t).length := by rw [length_strL]; exact h2
    simp only [List.getD, List.getElem?_eq_getElem h3, Option.getD_some, strL_at]
  rw [e, strB, xor_back]
  simp [List.getD, h2]
theorem streamV_twice {k : List UInt8} {c : Int} {n t : List UInt8} (h : StrOk k c n t) : streamV k c n (strL k c n t) = t := by
  rw [streamV_ok (strOk_len h (length_strL k c n t)), strL_twice]
theorem strOk_shift {k : List UInt8} {c : Int} {n t : List UInt8} (h : StrOk k c n t) (hl : 64 < t.length) : StrOk k (c + 1) n (t.drop 64) := by
  obtain ⟨⟨h1, h2, h3, h4⟩, ⟨_, _, h5, h6⟩⟩ := h
  rw [StrOk, List.length_drop]
  have e : ((t.length - 1) / 64 : Nat) = (t.length - 64 - 1) / 64 + 1 := by omega
  exact ⟨⟨h1, h2, by omega, by omega⟩, ⟨h1, h2, by omega, by omega⟩⟩
theorem strL_shift {k : List UInt8} {c : Int} {n t : List UInt8} (h : StrOk k c n t) (hl : 64 < t.length) : streamV k (c + 1) n (t.drop 64) = (strL k c n t).drop 64 := by
  rw [streamV_ok (strOk_shift h hl)]
  have hc := h.1.2.2.1
  refine List.ext_getElem (by rw [length_strL, List.length_drop, List.length_drop, length_strL]) fun j h1 h2 => ?_
  rw [strL_at, List.getElem_drop, strL_at, strB, strB]
  have e1 : (t.drop 64).getD j 0 = t.getD (64 + j) 0 := by simp [List.getD, List.getElem?_drop]
  have e2 : (c + 1).toNat + j / 64 = c.toNat + (64 + j) / 64 := by omega
  have e3 : j % 64 = (64 + j) % 64 := by omega
  rw [e1, e2, e3]
end Go.Proofs.YtakjjfbocokpaaaDoor
