/-
  Contract of spec.l3Little.
-/
import Derived.Test.YtakjjfbocokpaaaDoorChaW
import Derived.Test.YtakjjfbocokpaaaDoorMathY
import Derived.StillTailTactics
namespace Go.Proofs.YtakjjfbocokpaaaDoor
open Go.ChangeShapes Go.WideShapes Go.ChangeAt Go.RowKit

theorem getD_bl (s : ByteArray) (p : Nat) (h : p < s.size) : (bl s).getD p 0 = s[p]'h := by
  simp [List.getD, bl_len, h, bl_at s p h]
set_option maxRecDepth 40000 in
theorem sLittle (s : ByteArray) (p : Nat) (h : p + 3 < s.size) (hm : s.size ≤ maxLen) (w : World) :
    Calls Tryd.prog 120 #[.string s, .int .i64 p] w fun e w' => e = .returned (.int .i64 (leW (bl s) p : Nat)) ∧ w' = w.drew := by
  unfold maxLen at hm
  obtain ⟨p1, q1⟩ : ∃ x, x = p + 1 := ⟨_, rfl⟩
  obtain ⟨p2, q2⟩ : ∃ x, x = p + 2 := ⟨_, rfl⟩
  obtain ⟨p3, q3⟩ : ∃ x, x = p + 3 := ⟨_, rfl⟩
  have w1 : IntKind.i64.wrap ((p : Int) + 1) = (p1 : Int) := by rw [IntKind.wrap_i64]; omega
  have w2 : IntKind.i64.wrap ((p : Int) + 2) = (p2 : Int) := by rw [IntKind.wrap_i64]; omega
  have w3 : IntKind.i64.wrap ((p : Int) + 3) = (p3 : Int) := by rw [IntKind.wrap_i64]; omega
  have h0 : p < s.size := by omega
  have h1 : p1 < s.size := by omega
  have h2 : p2 < s.size := by omega
  have h3 : p3 < s.size := by omega
  have HL : Hid (leW (bl s) p = (((s[p].toNat ||| s[p1].toNat * 256) ||| s[p2].toNat * 65536) ||| s[p3].toNat * 16777216)) := by
    subst q1 q2 q3
    show _ = _
    rw [leW, getD_bl s p h0, getD_bl s (p + 1) h1, getD_bl s (p + 2) h2, getD_bl s (p + 3) h3]
  have Q1 := hide q1
  have Q2 := hide q2
  have Q3 := hide q3
  clear q1 q2 q3
  have b0 : s[p].toNat < 256 := s[p].toNat_lt
  have b1 : s[p1].toNat < 256 := s[p1].toNat_lt
  have b2 : s[p2].toNat < 256 := s[p2].toNat_lt
  have b3 : s[p3].toNat < 256 := s[p3].toNat_lt
  obtain ⟨x1, y1⟩ : ∃ x, x = s[p1].toNat * 256 := ⟨_, rfl⟩
  obtain ⟨x2, y2⟩ : ∃ x, x = s[p2].toNat * 65536 := ⟨_, rfl⟩
  obtain ⟨x3, y3⟩ : ∃ x, x = s[p3].toNat * 16777216 := ⟨_, rfl⟩
  rw [← y1, ← y2, ← y3] at HL
  have v0 : IntKind.i64.wrap (s[p].toNat : Int) = (s[p].toNat : Int) := by rw [IntKind.wrap_i64]; omega
  have v1 : IntKind.i64.wrap (s[p1].toNat : Int) = (s[p1].toNat : Int) := by rw [IntKind.wrap_i64]; omega
  have v2 : IntKind.i64.wrap (s[p2].toNat : Int) = (s[p2].toNat : Int) := by rw [IntKind.wrap_i64]; omega
  have v3 : IntKind.i64.wrap (s[p3].toNat : Int) = (s[p3].toNat : Int) := by rw [IntKind.wrap_i64]; omega
  have u1 : IntKind.i64.wrap ((s[p1].toNat : Int) * 256) = (x1 : Int) := by rw [IntKind.wrap_i64]; omega
  have u2 : IntKind.i64.wrap ((s[p2].toNat : Int) * 65536) = (x2 : Int) := by rw [IntKind.wrap_i64]; omega
  have u3 : IntKind.i64.wrap ((s[p3].toNat : Int) * 16777216) = (x3 : Int) := by rw [IntKind.wrap_i64]; omega
  have z1 : s[p].toNat ||| x1 < 4294967296 := Nat.or_lt_two_pow (n := 32) (by omega) (by omega)
  have z2 : s[p].toNat ||| x1 ||| x2 < 4294967296 := Nat.or_lt_two_pow (n := 32) z1 (by omega)
  have o1 := i64_or_nat s[p].toNat x1 (by omega) (by omega)
  have o2 := i64_or_nat (s[p].toNat ||| x1) x2 (by omega) (by omega)
  have o3 := i64_or_nat (s[p].toNat ||| x1 ||| x2) x3 (by omega) (by omega)
  clear y1 y2 y3 z1 z2
  go_enter Tryd.func120, Tryd.ntmps120
  go_wp2_with fail
  refine wp_region_still_lit (by kernel_rfl) (by kernel_rfl) ?_
  iterate 26 still_step
  refine wpStill_nil ?_
  go_wp2_with fail
  go_ret
  exact ⟨ret_int (by rw [HL.out]), rfl⟩
end Go.Proofs.YtakjjfbocokpaaaDoor
