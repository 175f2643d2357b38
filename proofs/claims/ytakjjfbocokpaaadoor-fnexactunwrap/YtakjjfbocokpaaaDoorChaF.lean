/-
  Contract of (*impl.chaWords).fill.
-/
import Derived.Test.YtakjjfbocokpaaaDoorChaQ
import Derived.Test.YtakjjfbocokpaaaDoorBytes
namespace Go.Proofs.YtakjjfbocokpaaaDoor
open Go.ChangeShapes Go.WideShapes Go.ChangeAt Go.RowKit

def fillL (L : List Nat) (p : Nat) (l : List UInt8) : Nat → List Nat
  | 0 => L
  | i + 1 => (fillL L p l i).set (p + i / 4) (wd (fillL L p l i) (p + i / 4) ||| (l.getD i 0).toNat * 2 ^ (8 * (i % 4)))

set_option maxHeartbeats 8000000 in
set_option maxRecDepth 40000 in
theorem iFill (T : TypeId) (g p : Nat) (s : ByteArray) (L : List Nat) (w w0 : World) (hW : QPost .u32 T [] w0 g L w) (hp : 4 * p + s.size ≤ 64) :
    Calls Tryd.prog 107 #[.pointer (some ⟨g, 0, none⟩), .int .i64 p, .string s] w fun e w' => e = .returned (.tuple #[]) ∧ QPost .u32 T [] w0 g (fillL L p (bl s) s.size) w' := by
  have HW := hide hW
  clear hW
  go_enter Tryd.func107, Tryd.ntmps107
  go_wp2
  go_loopw [6, 9] (fun _ i wr => ∃ j : Nat, j ≤ s.size ∧ i = .int .i64 j ∧ Hid (QPost .u32 T [] w0 g (fillL L p (bl s) j) wr)) (fun _ i _ => s.size - (intOf i).toNat)
  case atStart => exact ⟨0, by omega, rfl, HW⟩
  case round =>
    obtain ⟨j, hj, rfl, HR⟩ := hrel
    by_cases hlt : j < s.size
    · go_wp2_with fail
      obtain ⟨q, hq⟩ : ∃ q, q = j / 4 := ⟨_, rfl⟩
      obtain ⟨m, hm⟩ : ∃ m, m = p + q := ⟨_, rfl⟩
      obtain ⟨r, hr⟩ : ∃ r, r = j % 4 := ⟨_, rfl⟩
      obtain ⟨t, ht⟩ : ∃ t, t = 8 * r := ⟨_, rfl⟩
      have e1 : IntKind.i64.wrap ((j : Int) / 4) = (q : Int) := by rw [IntKind.wrap_i64]; omega
      have e2 : IntKind.i64.wrap ((p : Int) + (q : Int)) = (m : Int) := by rw [IntKind.wrap_i64]; omega
      have e3 : (j : Int).tmod 4 = (r : Int) := by rw [Int.tmod_eq_emod_of_nonneg (by omega)]; omega
      have e4 : IntKind.i64.wrap (8 * (r : Int)) = (t : Int) := by rw [IntKind.wrap_i64]; omega
      have c1 := HR.out.cell m (by omega)
      have f1 := HR.out.frozen m
      have i1 : (m : Int) < 16 := by omega
      have b1 := HR.out.lt m
      have bs : (s[j]'hlt).toNat < 256 := (s[j]'hlt).toNat_lt
      have e5 : IntKind.u32.wrap ((s[j]'hlt).toNat : Int) = ((s[j]'hlt).toNat : Int) := by rw [IntKind.wrap_u32]; omega
      have i2 : (t : Int) ≤ 32 := by omega
      obtain ⟨x, hx⟩ : ∃ x, x = (s[j]'hlt).toNat * 2 ^ t := ⟨_, rfl⟩
      have bx : x < 4294967296 := by
        have : r = 0 ∨ r = 1 ∨ r = 2 ∨ r = 3 := by omega
        rcases this with h | h | h | h <;> (rw [ht, h] at hx; simp at hx; omega)
      have e6 : IntKind.u32.wrap (((s[j]'hlt).toNat : Int) * 2 ^ t) = (x : Int) := by
        have h2 : (x : Int) = ((s[j]'hlt).toNat : Int) * 2 ^ t := by rw [hx, Int.natCast_mul, Int.natCast_pow]; rfl
        rw [IntKind.wrap_u32, ← h2]
        omega
      have e7 := u32_or_nat (wd (fillL L p (bl s) j) m) x b1 bx
      have Hx := hide hx
      clear hx
      have Hq := hide hq
      have Hm := hide hm
      have Hr := hide hr
      have Ht := hide ht
      clear hq hm hr ht
      refine wp_region_still_tail 19 (by kernel_rfl) (by kernel_rfl) ?_
      simp only [List.take_succ_cons, List.take_zero, List.drop_succ_cons, List.drop_zero]
      iterate 19 still_step
      refine wpStill_nil ?_
      go_wp2_with fail
      go_roundw
      case rel =>
        refine ⟨j + 1, by omega, by go_num, ?_⟩
        have := HR.out.set m (wd (fillL L p (bl s) j) m ||| x) (by omega) (Nat.or_lt_two_pow (n := 32) b1 bx) _ rfl
        have e : fillL L p (bl s) (j + 1) = (fillL L p (bl s) j).set m (wd (fillL L p (bl s) j) m ||| x) := by
          rw [Hx.out, Hm.out, Hq.out, Ht.out, Hr.out]
          show List.set _ _ _ = _
          rw [show (bl s).getD j 0 = s[j]'hlt by simp [List.getD, bl_len, hlt, bl_at s j hlt]]
        show QPost _ _ _ _ _ _ _
        rw [e]
        exact this
      case measure => simp [intOf]; omega
    · have e4 : j = s.size := by omega
      rw [e4] at HR
      go_wp2
      go_end0
      exact ⟨rfl, HR.out⟩
end Go.Proofs.YtakjjfbocokpaaaDoor
