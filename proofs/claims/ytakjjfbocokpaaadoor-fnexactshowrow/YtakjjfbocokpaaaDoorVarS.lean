/-
  Contract of spec.Var.
-/
import Derived.Test.YtakjjfbocokpaaaDoorOwn
import Derived.Test.YtakjjfbocokpaaaDoorVarI
namespace Go.Proofs.YtakjjfbocokpaaaDoor
open Go.ChangeShapes Go.WideShapes Go.ChangeAt Go.RowKit

set_option maxRecDepth 20000 in
theorem sVar_yes (n : Nat) (w : World) (hn : n ≤ 562949953421311) :
    Calls Tryd.prog 83 #[.int .i64 n] w (StrPost w (varL n)) := by
  have HL := hide (varL_len7 n hn)
  have hd0 : (decide ((0 : Int) ≤ n) && decide ((n : Int) ≤ 562949953421311)) = true := by simp; omega
  have HN := hide hn
  clear hn
  go_enter Tryd.func83, Tryd.ntmps83
  go_wp2_with (go_at_call 52; refine (l1In_any _ _ _ _).mono ?_; rw [hd0]; rintro e w' ⟨rfl, rfl⟩)
  clear hd0
  go_loopw [0, 3] (fun x v wr => ∃ (m : Nat) (pre : List UInt8), Hid (m ≤ 562949953421311) ∧ x = .int .i64 m ∧ Hid (varL n = pre ++ varL m) ∧ Hid (Owns8 w.heap.size wr v pre) ∧ Hid (Below w.heap.size w wr) ∧ w.heap.size ≤ wr.heap.size)
    (fun x _ _ => (intOf x).toNat)
  case atStart =>
    exact ⟨n, [], HN.out, rfl, by simp [Hid], Owns8.lit w.heap.size w [] (Nat.le_refl _) (by simp), (Below.refl _ _).alloc (Nat.le_refl _) _, by simp⟩
  case round =>
    obtain ⟨m, pre, HM, rfl, HD, HO, HB, hsz⟩ := hrel
    have hpl : pre.length + 1 ≤ 7 := by
      have h1 := HL.out
      rw [HD.out, List.length_append] at h1
      have := varL_pos m
      omega
    by_cases hlt : 128 ≤ m
    · have C1 := hide (show #[Value.int .u8 (128 + (m : Int) % 128)] = (byteVals [UInt8.ofNat (m % 128 + 128)]).toArray by simp [byteVals]; omega)
      have C2 := hide (show varL n = (pre ++ [UInt8.ofNat (m % 128 + 128)]) ++ varL (m / 128) by rw [HD.out, varL_big m hlt]; simp)
      have hm2 := HM.out
      go_wp2_with (at_builtin; refine append8 rfl (.tmp 10) (.tmp 15) rfl w.heap.size w wr _ pre [UInt8.ofNat (m % 128 + 128)] 1 _ rfl rfl HO HB hsz C1.out rfl (by omega) ?_; intro v' w' HO' HB' hsz')
      go_roundw
      case rel => exact ⟨m / 128, _, Nat.le_trans (Nat.div_le_self _ _) HM.out, by go_num, C2.out, HO', HB', by omega⟩
      case measure => simp [intOf]; omega
    · have C1 := hide (show #[Value.int .u8 (m : Int)] = (byteVals [UInt8.ofNat m]).toArray by simp [byteVals]; omega)
      have C2 := hide (show varL n = pre ++ [UInt8.ofNat m] by rw [HD.out, varL_small m (by omega)])
      go_wp2_with (at_builtin; refine append8 rfl (.tmp 19) (.tmp 22) rfl w.heap.size w wr _ pre [UInt8.ofNat m] 1 _ rfl rfl HO HB hsz C1.out rfl (by omega) ?_; intro v' w' HO' HB' hsz'; have hcv := run_convOwn w.heap.size w' v' _ HO'.out)
      go_ret
      exact ⟨by rw [C2.out]; rfl, HB'.out⟩

theorem sVar_no (n : Int) (w : World) (h : ¬ (0 ≤ n ∧ n ≤ 562949953421311)) :
    Calls Tryd.prog 83 #[.int .i64 n] w (StrPost w []) := by
  have hd0 : (decide ((0 : Int) ≤ n) && decide (n ≤ 562949953421311)) = false := by simp; omega
  clear h
  go_enter Tryd.func83, Tryd.ntmps83
  go_wp2_with (go_at_call 52; refine (l1In_any _ _ _ _).mono ?_; rw [hd0]; rintro e w' ⟨rfl, rfl⟩)
  go_ret
  exact ⟨rfl, Below.refl _ _⟩

theorem sVar_any (n : Int) (w : World) : Calls Tryd.prog 83 #[.int .i64 n] w (StrPost w (varV n)) := by
  by_cases h : 0 ≤ n ∧ n ≤ 562949953421311
  · rw [varV, if_pos h]
    have := sVar_yes n.toNat w (by omega)
    rwa [Int.toNat_of_nonneg h.1] at this
  · rw [varV, if_neg h]
    exact sVar_no n w h
end Go.Proofs.YtakjjfbocokpaaaDoor
