/-
  Texts of this proof, put together: CrcI.
-/
import Derived.Test.YtakjjfbocokpaaaDoorRows
import Derived.Test.YtakjjfbocokpaaaDoorPackAC
import Derived.WalkKit
import Derived.ProofKit
import Derived.OpenShut
import Derived.ShutString
import Derived.WalkSpells
import Derived.Laws.RangeAny
import Derived.Lib.LaidTab

/-
  Contracts of impl.crcFeed and impl.Crc, where the table of the program holds its sixteen words.
-/
namespace Go.Proofs.YtakjjfbocokpaaaDoor
open Go.ChangeShapes Go.WideShapes Go.ChangeAt Go.RowKit

def CrcTabIn (w : World) : Prop := ∀ r : Nat, r < 16 → w.cell? ⟨1, r, none⟩ = some (.int .u32 (crcTabN r : Nat))

theorem nib_walk (y : Nat) (h : y < 4294967296) : bits .xor .u32 (crcTabN (y % 16) : Nat) ((y : Int) / 16) = (crcNib y : Nat) := by
  have := u32_xor_nat (crcTabN (y % 16)) (y / 16) (crcTabN_lt _ (by omega)) (by omega)
  simpa [crcNib] using this
theorem iFeed_any (c : Nat) (s : ByteArray) (w : World) (hc : c < 4294967296) (hm : s.size ≤ maxLen) (hT : Hid (CrcTabIn w)) :
    Calls Tryd.prog 112 #[.int .u32 c, .string s] w fun e w' => e = .returned (.int .u32 (crcRun c (bl s) : Nat)) ∧ w = w' := by
  unfold maxLen at hm
  go_enter Tryd.func112, Tryd.ntmps112
  go_wp2
  go_loop [0, 5, 8] (fun x _ i => ∃ j : Nat, j ≤ s.size ∧ i = .int .i64 j ∧ x = .int .u32 (crcRun c ((bl s).take j) : Nat)) (fun _ _ i => s.size - (intOf i).toNat)
  case atStart => exact ⟨0, Nat.zero_le _, rfl, rfl⟩
  case round =>
    obtain ⟨j, hj, rfl, rfl⟩ := hrel
    have hlt32 := crcRun_lt ((bl s).take j) c hc
    by_cases hlt : j < s.size
    · have hb : s[j].toNat < 256 := s[j].toNat_lt
      have HT := hide (bl_take s j hlt)
      have HR := hide (crcRun_snoc c ((bl s).take j) s[j])
      generalize hcr : crcRun c ((bl s).take j) = x at *
      have HC := hide hcr
      clear hcr
      have hx := xor_lt32 x s[j].toNat hlt32 (by omega)
      have HX := u32_xor_nat x s[j].toNat (by omega) (by omega)
      generalize hy : x ^^^ s[j].toNat = y at *
      have HY := hide hy
      clear hy
      have c1 := hT.out (y % 16) (by omega)
      have HN := nib_walk y hx
      have hz := crcNib_lt y hx
      have HB := hide (crcByte_nib x s[j].toNat)
      generalize hzz : crcNib y = z at *
      have HZ := hide hzz
      clear hzz
      have c2 := hT.out (z % 16) (by omega)
      have HM := nib_walk z hz
      go_wp2
      go_round
      case rel => exact ⟨j + 1, by omega, by go_num, by rw [HT.out, HR.out, HB.out, HY.out, HZ.out]⟩
      case measure => simp [intOf]; omega
    · have hjk : j = s.size := by omega
      subst hjk
      go_wp2
      go_ret
      exact ⟨ret_int (by rw [List.take_of_length_le (by rw [bl_len]; omega)]), rfl⟩

theorem width_pos (s : ByteArray) (pos : Nat) (h : pos < s.size) : 1 ≤ (Utf8.decode s pos).2 := by
  by_cases ha : (s[pos]'h).toNat < 128
  · rw [decode_ascii s pos h ha]
    exact Nat.le_refl _
  · exact (decode_high s pos h (by omega)).2
theorem CrcTabIn.below {B : Nat} {w w' : World} (h : CrcTabIn w) (hb : Below B w w') (h0 : 1 < B) : CrcTabIn w' := fun r hr => by
  rw [hb.cell (p := ⟨1, r, none⟩) h0]; exact h r hr
theorem ext_size (s : ByteArray) (d p : Nat) (h : s.size ≤ maxLen) : (s.extract d p).size ≤ maxLen := by
  rw [ByteArray.size_extract]; omega
theorem piece_bl (s : ByteArray) (d p : Nat) : bl (s.extract d p) = ((bl s).drop d).take (p - d) := by
  unfold bl; rw [Lib.extract_data]
theorem run_piece (s : ByteArray) (d p : Nat) (hd : d ≤ p) : crcRun (crcRun 4294967295 ((bl s).take d)) (bl (s.extract d p)) = crcRun 4294967295 ((bl s).take p) := by
  rw [piece_bl, ← crcRun_append, ← List.take_add, Nat.add_sub_cancel' hd]
theorem run_rest (s : ByteArray) (d : Nat) : crcRun (crcRun 4294967295 ((bl s).take d)) (bl (s.extract d s.size)) = crcRun 4294967295 (bl s) := by
  rw [ext_drop, ← crcRun_append]
  show crcRun _ ((bl s).take d ++ ((bl s).drop d)) = _
  rw [List.take_append_drop]

theorem iCrc_any (s : ByteArray) (w : World) (hm : s.size ≤ maxLen) (h0 : 1 < w.heap.size) (hT : Hid (CrcTabIn w)) :
    Calls Tryd.prog 91 #[.string s] w fun e w' => e = .returned (.int .i64 (4294967295 - (crcRun 4294967295 (bl s) : Int))) ∧ Below w.heap.size w w' := by
  have hm' := hm
  unfold maxLen at hm
  go_enter Tryd.func91, Tryd.ntmps91
  go_wp2
  go_loopw [3, 4, 5] (fun c d _ wr => ∃ dn pos : Nat, dn ≤ pos ∧ dn ≤ s.size ∧ wr = w.iter s pos ∧ d = .int .i64 dn ∧ c = .int .u32 (crcRun 4294967295 ((bl s).take dn) : Nat)) (fun _ _ _ wr => s.size - wr.iterPos w.heap.size)
  case atStart => exact ⟨0, 0, Nat.le_refl _, Nat.zero_le _, rfl, rfl, rfl⟩
  case round =>
    obtain ⟨dn, pos, hdp, hds, rfl, rfl, rfl⟩ := hrel
    have hlt32 := crcRun_lt ((bl s).take dn) 4294967295 (by omega)
    have hbel : ∀ p, Below w.heap.size w (w.iter s p) := fun p => (Below.refl _ w).alloc (Nat.le_refl _) _
    by_cases hp : pos < s.size
    · have hnx := fun ty => run_next_any (P := Tryd.prog) w s pos ty hp
      have hwd := width_pos s pos hp
      generalize (Utf8.decode s pos).2 = wd at *
      generalize (Utf8.decode s pos).1 = rn at *
      have HP := hide (run_piece s dn pos hdp)
      have HT2 := hide (hT.out.below (hbel (pos + wd)) h0)
      generalize hcr : crcRun 4294967295 ((bl s).take dn) = c at *
      have HC := hide hcr
      clear hcr
      go_wp2_with (go_at_call 112; refine (iFeed_any c (s.extract dn pos) _ hlt32 (ext_size s _ _ hm') HT2).mono ?_; rintro e w' ⟨rfl, rfl⟩)
      go_roundw
      case rel => exact ⟨pos, pos + wd, by omega, by omega, rfl, rfl, by rw [HP.out]⟩
      case measure => simp; omega
    · have hnx := fun ty => run_next_end (P := Tryd.prog) w s pos ty hp
      have HP := hide (run_rest s dn)
      have HT2 := hide (hT.out.below (hbel pos) h0)
      have hl2 := crcRun_lt (bl s) 4294967295 (by omega)
      generalize hcr : crcRun 4294967295 ((bl s).take dn) = c at *
      have HC := hide hcr
      clear hcr
      go_wp2_with (go_at_call 112; refine (iFeed_any c (s.extract dn s.size) _ hlt32 (ext_size s _ _ hm') HT2).mono ?_; rw [HP.out]; rintro e w' ⟨rfl, rfl⟩)
      go_ret
      exact ⟨rfl, hbel pos⟩
end Go.Proofs.YtakjjfbocokpaaaDoor
