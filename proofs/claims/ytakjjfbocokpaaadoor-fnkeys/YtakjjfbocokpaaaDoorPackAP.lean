/-
  Texts of this proof, put together: NonceY, Nonce.
-/
import Derived.Test.YtakjjfbocokpaaaDoorPackAE
import Derived.Deep.RegionWith
import Derived.Deep.DeepMust

/-
  impl.NonceOf and spec.NonceOf where the numbers are within their bounds.
-/
namespace Go.Proofs.YtakjjfbocokpaaaDoor
open Go.ChangeShapes Go.WideShapes Go.ChangeAt Go.RowKit

theorem head_arr (k : Nat) (hk : k < 256) : #[Value.int .u8 (k : Int), .int .u8 0, .int .u8 0, .int .u8 0, .int .u8 0] = (byteVals (nonceHead k)).toArray := by
  have : (UInt8.ofNat k).toNat = k := by simp; omega
  simp [byteVals, nonceHead, Nat.mod_eq_of_lt hk]
theorem run_convHead (k g : Nat) (W : World) (h : Holds8 5 W g (nonceHead k)) : (convert 22 9 (.slice (some ⟨g, 0, none⟩) 5 5)).run Tryd.prog W = .ok (.string ⟨(nonceHead k).toArray⟩) W :=
  run_convTake g 5 5 _ (nonceHead k) W h rfl rfl
theorem head_add (k n : Nat) (W : World) : (Op.stringOp .add ⟨(nonceHead k).toArray⟩ ⟨(lowB n 7).toArray⟩).run Tryd.prog W = .ok (.string ⟨(nonceHead k ++ lowB n 7).toArray⟩) W := by
  rw [run_string_add_sum (P := Tryd.prog) (w := W) ⟨(nonceHead k).toArray⟩ ⟨(lowB n 7).toArray⟩ (by simp [ByteArray.size, length_lowB, nonceHead]), ByteArray.mk_append_mk]

def headArr (k : Nat) : Obj := .cells #[Value.int .u8 (k : Int), .int .u8 0, .int .u8 0, .int .u8 0, .int .u8 0] 5
theorem holds_new (k : Nat) (hk : k < 256) (W : World) : Holds8 5 (W.alloc (.cells #[Value.int .u8 (k : Int), .int .u8 0, .int .u8 0, .int .u8 0, .int .u8 0] 5)) W.heap.size (nonceHead k) := by
  rw [head_arr k hk]; exact Holds8.new _ _ _
theorem conv_new (k : Nat) (hk : k < 256) (W : World) : (convert 22 9 (.slice (some ⟨W.heap.size, 0, none⟩) 5 5)).run Tryd.prog (W.alloc (.cells #[Value.int .u8 (k : Int), .int .u8 0, .int .u8 0, .int .u8 0, .int .u8 0] 5)) = .ok (.string ⟨(nonceHead k).toArray⟩) (W.alloc (.cells #[Value.int .u8 (k : Int), .int .u8 0, .int .u8 0, .int .u8 0, .int .u8 0] 5)) := run_convHead k _ _ (holds_new k hk W)
theorem conv_drew (k : Nat) (hk : k < 256) (W : World) : (convert 22 9 (.slice (some ⟨W.heap.size, 0, none⟩) 5 5)).run Tryd.prog (W.alloc (.cells #[Value.int .u8 (k : Int), .int .u8 0, .int .u8 0, .int .u8 0, .int .u8 0] 5)).drew = .ok (.string ⟨(nonceHead k).toArray⟩) (W.alloc (.cells #[Value.int .u8 (k : Int), .int .u8 0, .int .u8 0, .int .u8 0, .int .u8 0] 5)).drew := run_convHead k _ _ (show Holds8 _ (W.alloc _) _ _ from holds_new k hk W)
theorem conv_kept (k : Nat) (hk : k < 256) (w w' : World) (h : Below (w.alloc (.cells #[Value.int .u8 (k : Int), .int .u8 0, .int .u8 0, .int .u8 0, .int .u8 0] 5)).drew.heap.size (w.alloc (.cells #[Value.int .u8 (k : Int), .int .u8 0, .int .u8 0, .int .u8 0, .int .u8 0] 5)).drew w') : (convert 22 9 (.slice (some ⟨w.heap.size, 0, none⟩) 5 5)).run Tryd.prog w' = .ok (.string ⟨(nonceHead k).toArray⟩) w' :=
  run_convHead k _ _ ((show Holds8 _ (w.alloc _).drew _ _ from holds_new k hk w).below h (by show w.heap.size < (w.alloc _).heap.size; simp))

theorem iNonce_yes (k n : Nat) (hk : k < 256) (hn : (n : Int) ≤ 562949953421311) (w : World) :
    Calls Tryd.prog 51 #[.int .i64 k, .int .i64 n] w (StrPost w (nonceHead k ++ lowB n 7)) := by
  have hF := fun W => iFixed_any n 7 W (by omega)
  rw [fixedV7 n hn] at hF
  have HF := hide hF
  clear hF
  have d1 : decide ((k : Int) < 0) = false := by simp
  have d2 : decide ((n : Int) < 0) = false := by simp
  have d3 : decide ((255 : Int) < (k : Int)) = false := by simp; omega
  have d4 : decide ((562949953421311 : Int) < (n : Int)) = false := by simp; omega
  have hwk : IntKind.u8.wrap (k : Int) = k := by rw [IntKind.wrap_u8]; omega
  have hadd := head_add k n
  have hc1 := conv_new k hk
  have hc2 := conv_drew k hk
  go_enter Tryd.func51, Tryd.ntmps51
  go_wp2_with fail
  go_region_with (go_at_call 89; refine (HF.out _).mono ?_; rintro e w' ⟨rfl, hb'⟩; have HB' := hide hb'; try (have hc3 := conv_kept k hk w w' hb'); clear hb')
  all_goals (try go_wp2)
  all_goals go_ret
  all_goals first
    | exact ⟨rfl, ((Below.refl _ w).alloc (Nat.le_refl _) _).drew.trans (HB'.out.mono (by show w.heap.size ≤ (w.alloc _).heap.size; simp))⟩
    | exact ⟨rfl, ((Below.refl _ w).drew.trans HB'.out).alloc HB'.out.size _⟩
    | exact ⟨rfl, (((Below.refl _ w).drew.trans HB'.out).alloc HB'.out.size _).drew⟩

theorem sNonce_yes (k n : Nat) (hk : k < 256) (hn : (n : Int) ≤ 562949953421311) (w : World) :
    Calls Tryd.prog 54 #[.int .i64 k, .int .i64 n] w (StrPost w (nonceHead k ++ lowB n 7)) := by
  have hF := fun W => sFixed_any n 7 W (by omega)
  rw [fixedV7 n hn] at hF
  have HF := hide hF
  clear hF
  have hwk : IntKind.u8.wrap (k : Int) = k := by rw [IntKind.wrap_u8]; omega
  have hadd := head_add k n
  have hc1 := conv_new k hk
  have hc2 := conv_drew k hk
  go_enter Tryd.func54, Tryd.ntmps54
  go_wp2_with (go_at_call 52; refine (l1In_any _ _ _ _).mono ?_; rintro e w' ⟨rfl, rfl⟩)
  go_region_with (go_at_call 80; refine (HF.out _).mono ?_; rintro e w' ⟨rfl, hb'⟩; have HB' := hide hb'; try (have hc3 := conv_kept k hk w w' hb'); clear hb')
  all_goals (try go_wp2)
  all_goals go_ret
  all_goals first
    | exact ⟨rfl, ((Below.refl _ w).alloc (Nat.le_refl _) _).drew.trans (HB'.out.mono (by show w.heap.size ≤ (w.alloc _).heap.size; simp))⟩
    | exact ⟨rfl, ((Below.refl _ w).drew.trans HB'.out).alloc HB'.out.size _⟩
    | exact ⟨rfl, (((Below.refl _ w).drew.trans HB'.out).alloc HB'.out.size _).drew⟩
end Go.Proofs.YtakjjfbocokpaaaDoor

/-
  Contracts of impl.NonceOf and spec.NonceOf.
-/
namespace Go.Proofs.YtakjjfbocokpaaaDoor
open Go.ChangeShapes Go.WideShapes Go.ChangeAt Go.RowKit

theorem iNonce_no (k n : Int) (h : ¬ (0 ≤ k ∧ k ≤ 255 ∧ 0 ≤ n ∧ n ≤ 562949953421311)) (w : World) :
    Calls Tryd.prog 51 #[.int .i64 k, .int .i64 n] w (StrPost w []) := by
  cases d1 : decide (k < 0) <;> cases d2 : decide (255 < k) <;> cases d3 : decide (n < 0) <;> cases d4 : decide (562949953421311 < n)
  all_goals first
    | (exfalso; simp at d1 d2 d3 d4; omega)
    | (clear h
       go_enter Tryd.func51, Tryd.ntmps51
       go_wp2_with fail
       go_ret
       exact ⟨rfl, Below.refl _ _⟩)

theorem iNonce_any (k n : Int) (w : World) : Calls Tryd.prog 51 #[.int .i64 k, .int .i64 n] w (StrPost w (nonceL k n)) := by
  by_cases h : 0 ≤ k ∧ k ≤ 255 ∧ 0 ≤ n ∧ n ≤ 562949953421311
  · rw [nonceL, if_pos h]
    have := iNonce_yes k.toNat n.toNat (by omega) (by omega) w
    rwa [Int.toNat_of_nonneg h.1, Int.toNat_of_nonneg h.2.2.1] at this
  · rw [nonceL, if_neg h]
    exact iNonce_no k n h w

theorem sNonce_no (k n : Int) (h : ¬ (0 ≤ k ∧ k ≤ 255 ∧ 0 ≤ n ∧ n ≤ 562949953421311)) (w : World) :
    Calls Tryd.prog 54 #[.int .i64 k, .int .i64 n] w (StrPost w []) := by
  by_cases h1 : (decide (0 ≤ k) && decide (k ≤ 255)) = true
  · have h2 : (decide (0 ≤ n) && decide (n ≤ 562949953421311)) = false := by
      simp at h1 ⊢; omega
    clear h
    go_enter Tryd.func54, Tryd.ntmps54
    go_wp2_with (go_at_call 52; refine (l1In_any _ _ _ _).mono ?_; (first | rw [h1] | rw [h2]); rintro e w' ⟨rfl, rfl⟩)
    go_ret
    exact ⟨rfl, Below.refl _ _⟩
  · have h2 : (decide (0 ≤ k) && decide (k ≤ 255)) = false := by simpa using h1
    clear h h1
    go_enter Tryd.func54, Tryd.ntmps54
    go_wp2_with (go_at_call 52; refine (l1In_any _ _ _ _).mono ?_; rw [h2]; rintro e w' ⟨rfl, rfl⟩)
    go_ret
    exact ⟨rfl, Below.refl _ _⟩

theorem sNonce_any (k n : Int) (w : World) : Calls Tryd.prog 54 #[.int .i64 k, .int .i64 n] w (StrPost w (nonceL k n)) := by
  by_cases h : 0 ≤ k ∧ k ≤ 255 ∧ 0 ≤ n ∧ n ≤ 562949953421311
  · rw [nonceL, if_pos h]
    have := sNonce_yes k.toNat n.toNat (by omega) (by omega) w
    rwa [Int.toNat_of_nonneg h.1, Int.toNat_of_nonneg h.2.2.1] at this
  · rw [nonceL, if_neg h]
    exact sNonce_no k n h w
end Go.Proofs.YtakjjfbocokpaaaDoor
