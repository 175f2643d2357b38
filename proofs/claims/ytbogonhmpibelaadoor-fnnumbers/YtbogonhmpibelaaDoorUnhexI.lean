/-
  Contract of impl.Unhex.
-/
import Derived.Test.YtbogonhmpibelaaDoorPut
import Derived.Test.YtbogonhmpibelaaDoorConv
import Derived.Test.YtbogonhmpibelaaDoorMath5
import Derived.Test.YtbogonhmpibelaaDoorBytes
import Derived.Deep.QuietTactic
import Derived.BigQuiet
import Derived.WalkSmall
namespace Go.Proofs.YtbogonhmpibelaaDoor
open Go.ChangeShapes Go.WideShapes Go.ChangeAt Go.RowKit

theorem hexValue_any (c : UInt8) (w : World) : Calls Tryd.prog 27 #[.int .u8 (c.toNat : Int)] w fun e w' => e = .returned (.int .i64 (hexV c)) ∧ w' = w := by
  have hc : c.toNat < 256 := c.toNat_lt
  have HV : Hid (hexV c = if 48 ≤ c.toNat ∧ c.toNat ≤ 57 then (c.toNat : Int) - 48 else if 97 ≤ c.toNat ∧ c.toNat ≤ 102 then (c.toNat : Int) - 87 else -1) := rfl
  by_cases h1 : 48 ≤ c.toNat ∧ c.toNat ≤ 57
  · rw [if_pos h1] at HV
    obtain ⟨ha, hb⟩ := h1
    go_enter Tryd.func27, Tryd.ntmps27
    go_wp2
    go_ret
    exact ⟨by rw [HV.out]; rfl, rfl⟩
  · rw [if_neg h1] at HV
    by_cases h2 : 97 ≤ c.toNat ∧ c.toNat ≤ 102
    · rw [if_pos h2] at HV
      obtain ⟨ha, hb⟩ := h2
      go_enter Tryd.func27, Tryd.ntmps27
      go_wp2
      go_ret
      exact ⟨by rw [HV.out]; exact ret_int (by omega), rfl⟩
    · rw [if_neg h2] at HV
      go_enter Tryd.func27, Tryd.ntmps27
      go_wp2
      all_goals go_ret
      all_goals exact ⟨by rw [HV.out]; rfl, rfl⟩

def UhPost (w : World) (s : ByteArray) (e : Ending) (w' : World) : Prop := e = .returned (.tuple #[.string ⟨(unhexV (bl s)).1.toArray⟩, .bool (unhexV (bl s)).2]) ∧ Below w.heap.size w w'

theorem uhPost_of {w w' : World} {s : ByteArray} {l : List UInt8} {b : Bool} {e : Ending} (h : unhexV (bl s) = (l, b)) (he : e = .returned (.tuple #[.string ⟨l.toArray⟩, .bool b])) (hb : Below w.heap.size w w') : UhPost w s e w' := by
  unfold UhPost; rw [h]; exact ⟨he, hb⟩

theorem iUnhex_any (s : ByteArray) (w : World) (hm : s.size ≤ 549755813888) :
    Calls Tryd.prog 15 #[.string s] w (UhPost w s) := by
  by_cases hodd : s.size % 2 = 1
  · have HR := hide (unhexV_none (unhexL_odd (bl s) (by rw [bl_len]; exact hodd)))
    have ht : ((s.size : Int) % 2 != 0) = true := by simp; omega
    clear hodd
    go_enter Tryd.func15, Tryd.ntmps15
    go_wp2
    go_ret2
    exact uhPost_of HR.out rfl (Below.refl _ _)
  · have ht : ((s.size : Int) % 2 != 0) = false := by simp; omega
    obtain ⟨n, hn⟩ : ∃ n, s.size = 2 * n := ⟨s.size / 2, by omega⟩
    have hmk : ∀ w, (Instr.makeSlice 22 (.int .i64 ((s.size : Int) / 2)) (.int .i64 ((s.size : Int) / 2))).run Tryd.prog w = .ok (.slice (some ⟨w.heap.size, 0, none⟩) n n) (w.alloc (.cells (byteVals (List.replicate n 0)).toArray 5)) := fun w => by
      have := run_make8 n (by omega) w
      rwa [show (n : Int) = (s.size : Int) / 2 by omega] at this
    have HN := hide hn
    have hn1 : s.size ≤ 2 * n := by omega
    have hn2 : 2 * n ≤ s.size := by omega
    clear hodd hn
    go_enter Tryd.func15, Tryd.ntmps15
    go_wp2
    clear ht hmk
    go_loopw [5, 6, 7, 8] (fun a i _ _ wr => ∃ pre : List UInt8, pre.length ≤ n ∧ a = .int .i64 (pre.length : Int) ∧ i = .int .i64 (2 * (pre.length : Int)) ∧ Hid (unhexL (bl s) = (unhexL ((bl s).drop (2 * pre.length))).map (pre ++ ·)) ∧ Hid (Holds8 5 wr w.heap.size (padTo n pre)) ∧ Hid (Below w.heap.size w wr) ∧ w.heap.size < wr.heap.size)
      (fun _ i _ _ _ => s.size - (intOf i).toNat)
    case atStart => exact ⟨[], Nat.zero_le _, by go_num, by go_num, by simp [Hid], Holds8.new _ _ _, (Below.refl _ _).alloc (Nat.le_refl _) _, by simp⟩
    case round =>
      obtain ⟨pre, hpn, rfl, rfl, HU, HR, HB, hsz⟩ := hrel
      obtain ⟨j, hj⟩ : ∃ j, j = pre.length := ⟨_, rfl⟩
      have HJ := hide hj
      rw [← hj] at hpn HU ⊢
      clear hj
      by_cases hlt : j < n
      · have h0 : 2 * j < s.size := by omega
        have h1 : 2 * j + 1 < s.size := by omega
        have hb1 : 2 * j + 1 < (bl s).length := by rw [bl_len]; exact h1
        have E0 := bl_at s (2 * j) h0 (by omega)
        have E1 := bl_at s (2 * j + 1) h1 hb1
        have v0 := hexV_bd (s[2 * j]'h0)
        have v1 := hexV_bd (s[2 * j + 1]'h1)
        have i0 : (0 : Int) ≤ 2 * (j : Int) := by omega
        have i1 : 2 * (j : Int) < (s.size : Int) := by omega
        have i2 : 2 * (j : Int) + 1 < (s.size : Int) := by omega
        have i3 : (0 : Int) ≤ 2 * (j : Int) + 1 := by omega
        have t0 : (2 * (j : Int)).toNat = 2 * j := by omega
        have t1 : (2 * (j : Int) + 1).toNat = 2 * j + 1 := by omega
        have e5 : IntKind.i64.wrap (2 * (j : Int) + 1) = 2 * (j : Int) + 1 := by rw [IntKind.wrap_i64]; omega
        by_cases hbad : hexV (s[2 * j]'h0) < 0 ∨ hexV (s[2 * j + 1]'h1) < 0
        · have HR := hide (unhexV_none (l := bl s) (by rw [HU.out, unhexL_bad _ _ hb1 (by rw [E0, E1]; exact hbad)]; rfl))
          clear E0 E1
          by_cases hb0 : hexV (s[2 * j]'h0) < 0
          · have hd : decide (hexV (s[2 * j]'h0) < 0) = true := decide_eq_true hb0
            clear hbad
            go_wp2
            go_quiet ((go_at_call 27; exact Calls.quiet_of_same (hexValue_any _ _)))
            go_wp2
            go_ret2
            exact uhPost_of HR.out rfl (below_drewN HB.out _)
          · have hd : decide (hexV (s[2 * j]'h0) < 0) = false := decide_eq_false hb0
            have hd1 : decide (hexV (s[2 * j + 1]'h1) < 0) = true := decide_eq_true (by omega)
            clear hbad
            go_wp2
            go_quiet ((go_at_call 27; exact Calls.quiet_of_same (hexValue_any _ _)))
            go_wp2
            go_ret2
            exact uhPost_of HR.out rfl (below_drewN HB.out _)
        · have hd : decide (hexV (s[2 * j]'h0) < 0) = false := decide_eq_false (by omega)
          have hd1 : decide (hexV (s[2 * j + 1]'h1) < 0) = false := decide_eq_false (by omega)
          have p0 : 0 ≤ hexV (s[2 * j]'h0) := by omega
          have p1 : 0 ≤ hexV (s[2 * j + 1]'h1) := by omega
          have HU2 := hide (show unhexL (bl s) = (unhexL ((bl s).drop (2 * (j + 1)))).map ((pre ++ [UInt8.ofNat (16 * hexV (s[2 * j]'h0) + hexV (s[2 * j + 1]'h1)).toNat]) ++ ·) by
            have := unhexL_step (bl s) (2 * j) hb1 (by rw [E0]; exact p0) (by rw [E1]; exact p1)
            rw [E0, E1] at this
            rw [HU.out, this, map_pre]; rfl)
          have HX := hide (hex_join _ _ p0 v0.2 p1 v1.2)
          have C1 := hide (show #[Value.int .u8 (bits .or .i64 (hexV (s[2 * j]'h0) * 16) (hexV (s[2 * j + 1]'h1)) % 256)] = (byteVals [UInt8.ofNat (16 * hexV (s[2 * j]'h0) + hexV (s[2 * j + 1]'h1)).toNat]).toArray by
            rw [HX.out]; simp [byteVals]; omega)
          have C2 := hide (show pre.length + 1 ≤ n by have := HJ.out; omega)
          have C3 := hide (show (padTo n pre).length = n from length_padTo n pre (by have := HJ.out; omega))
          have C4 := hide (splice_padTo n pre [UInt8.ofNat (16 * hexV (s[2 * j]'h0) + hexV (s[2 * j + 1]'h1)).toNat] C2.out)
          rw [← HJ.out] at C4
          clear hbad E0 E1 hb1
          go_wp2
          go_quiet ((go_at_call 27; exact Calls.quiet_of_same (hexValue_any _ _)))
          rename_i nq
          go_wp2_with (go_at_call 23; refine (put_new w.heap.size n j 1 (padTo n pre) [UInt8.ofNat (16 * hexV (s[2 * j]'h0) + hexV (s[2 * j + 1]'h1)).toNat] _ (wr.drewN nq) (show Holds8 5 (wr.drewN nq) _ _ from HR.out) hsz C1.out C3.out rfl (by omega) (by omega) (by omega)).mono ?_; rintro e w' ⟨rfl, hrow', hbel', hsz'⟩)
          go_roundw
          case rel =>
            have hl : (pre ++ [UInt8.ofNat (16 * hexV (s[2 * j]'h0) + hexV (s[2 * j + 1]'h1)).toNat]).length = j + 1 := by rw [List.length_append, ← HJ.out]; rfl
            refine ⟨pre ++ [UInt8.ofNat (16 * hexV (s[2 * j]'h0) + hexV (s[2 * j + 1]'h1)).toNat], ?_⟩
            rw [hl]
            exact ⟨by omega, by go_num, by go_num, HU2.out, by rw [← C4.out]; exact hrow', (below_drewN HB.out nq).trans hbel', Nat.lt_trans hsz hsz'⟩
          case measure => simp [intOf]; omega
      · obtain rfl : j = n := by omega
        have HV := hide (unhexV_some (l := bl s) (r := pre) (by rw [HU.out, List.drop_of_length_le (by rw [bl_len]; omega)]; simp [unhexL]))
        have hcv := run_convTake w.heap.size j j _ pre wr HR.out HJ.out.symm (by rw [padTo, HJ.out, List.take_append_of_le_length (Nat.le_refl _), List.take_length])
        go_wp2
        go_ret2
        exact uhPost_of HV.out rfl HB.out
end Go.Proofs.YtbogonhmpibelaaDoor
