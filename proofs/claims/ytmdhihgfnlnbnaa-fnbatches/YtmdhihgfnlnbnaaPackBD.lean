/-
  Texts of this proof, put together: ListI.
-/
import Derived.RangeFuncNested
import Derived.RangeFuncBound
import Derived.RangeFuncCalls
import Derived.RangeFuncLeaves
import Derived.Shelf.Abstract
import Derived.Shelf.RegionOpen
import Derived.WalkKit
import Derived.OwnWalkIn
import Derived.TacticsInMore
import Derived.LoopNIn
import Derived.LoopIn
import Derived.Test.YtmdhihgfnlnbnaaPackBC

/-
  The sorted map's method all: its iterator's contract.
-/
namespace Go.Proofs.Ytmdhihgfnlnbnaa
open Go.ChangeShapes Go.WideShapes Go.ChangeAt Go.RowKit Go.Shelf
attribute [local go_sem] Oper.semAt_some

theorem rdStr {w : World} {B j : Nat} {a : Option Addr} {L : List ByteArray} (h : elStr.Rd w B a L) (hj : j < L.length) : ∃ b off, a = some ⟨b, off, none⟩ ∧ b < B ∧ w.cell? ⟨b, off + j, none⟩ = some (.string L[j]) := by
  obtain ⟨b, off, ha, hb, hc⟩ := h (by omega)
  refine ⟨b, off, ha, hb, ?_⟩
  have := hc j hj 0 (by decide)
  rw [show off + j * elStr.c + 0 = off + j by show off + j * 1 + 0 = off + j; omega] at this
  exact this

set_option maxRecDepth 100000 in
set_option maxHeartbeats 2000000 in
theorem all1_in (F : Fence) (n : Nat) (hf : F.fn 94) (hro : F.round = none) (hn : 1 ≤ n) (l Bn g0 gx n₀ : Nat) (ak av : Option Addr) (ck cv : Nat) (L : List KV) (hl : L.length ≤ 1099511627775) (J Jx : List KV → World → Prop)
    (hY : ∀ pre x W, J pre W → pre.length < L.length → YieldAt F (n - 1) Try.prog l #[.string x.1, .string x.2] W fun e W' =>
      (e = .returned (.bool true) ∧ J (pre ++ [x]) W' ∧ Turn n₀ gx W W') ∨ (e = .returned (.bool false) ∧ Jx (pre ++ [x]) W'))
    (W : World) (hBn : Bn < n₀) (hg0 : g0 < n₀) (hne1 : Bn ≠ gx) (hne2 : g0 ≠ gx) (hc : W.cell? ⟨Bn, 0, none⟩ = some (.pointer (some ⟨g0, 0, none⟩)))
    (hk : W.cell? ⟨g0, 0, none⟩ = some (.slice ak L.length ck)) (hv : W.cell? ⟨g0, 1, none⟩ = some (.slice av L.length cv)) (hrk : elStr.Rd W gx ak (L.map Prod.fst)) (hrv : elStr.Rd W gx av (L.map Prod.snd)) (hgx : gx < n₀) (h0 : J [] W) :
    CallsIn F n Try.prog 94 #[.func (.yield l) #[] #[], .pointer (some ⟨Bn, 0, none⟩)] W fun e W' => (∃ v, e = .returned v) ∧
      ((∃ ys, ys = L ∧ J ys W') ∨ (∃ pre, pre <+: L ∧ Jx pre W')) := by
  have HRK := hide hrk
  have HRV := hide hrv
  clear hrk hrv
  obtain ⟨m, hm⟩ : ∃ m, L.length = m := ⟨_, rfl⟩
  have HM := hide hm
  rw [hm] at hl hY hk hv
  clear hm
  refine callsIn_of_wp Try.func94 rfl hf ?_ hro
  simp only [Try.ntmps94, List.size_toArray, List.length_cons, List.length_nil, Nat.reduceAdd, Nat.reduceSub, Array.replicate_succ, Array.replicate_zero, List.push_toArray, List.append_toArray, List.nil_append, List.cons_append]
  gi_wp2
  gi_loopw [10] (fun q wr => ∃ k : Nat, k ≤ m ∧ q = .int .i64 k ∧ J (L.take k) wr ∧ Turn n₀ gx W wr) (fun q _ => m - (intOf q).toNat)
  case atStart => exact ⟨0, by omega, rfl, by rw [List.take_zero]; exact h0, Turn.refl _ _ _⟩
  case round =>
    obtain ⟨k, hk', rfl, hJs, hnx⟩ := hrel
    have hcx := (hnx.cell (p := ⟨Bn, 0, none⟩) hBn hne1).trans hc
    have hkx := (hnx.cell (p := ⟨g0, 0, none⟩) hg0 hne2).trans hk
    have hvx := (hnx.cell (p := ⟨g0, 1, none⟩) hg0 hne2).trans hv
    by_cases hlt : k < m
    · have hkL : k < L.length := by rw [HM.out]; exact hlt
      obtain ⟨f0, f1, hx⟩ := partsKV L[k]
      obtain ⟨bk, ok, rfl, hbk, pk⟩ := rdStr (j := k) HRK.out (by rw [List.length_map]; exact hkL)
      obtain ⟨bv, ov, rfl, hbv, pv⟩ := rdStr (j := k) HRV.out (by rw [List.length_map]; exact hkL)
      rw [List.getElem_map, hx] at pk pv
      have d0 := (hnx.cell (p := ⟨bk, ok + k, none⟩) (by show bk < _; omega) (by show bk ≠ _; omega)).trans pk
      have d1 := (hnx.cell (p := ⟨bv, ov + k, none⟩) (by show bv < _; omega) (by show bv ≠ _; omega)).trans pv
      have HX := hide (show L[k]? = some (f0, f1) by rw [List.getElem?_eq_getElem hkL, hx])
      obtain ⟨fn, tmps, assign, body, hy, hR⟩ := hY _ (f0, f1) wr hJs (by rw [List.length_take]; omega)
      dsimp only at hy d0 d1
      rw [← take_snoc' HX.out] at hR
      clear pk pv hx hkL
      gi_wp2
      refine hR.mono ?_
      rintro e W3 (⟨rfl, hJ3, hk3⟩ | ⟨rfl, hJx3⟩)
      · gi_wp2
        go_roundw
        case rel => exact ⟨k + 1, by omega, by go_num, hJ3, hnx.trans hk3⟩
        case measure => simp [intOf]; omega
      · gi_wp2
        refine bodyPost_ret (results_none rfl _ _ _) rfl ?_
        exact ⟨⟨_, rfl⟩, .inr ⟨_, List.take_prefix _ _, hJx3⟩⟩
    · obtain rfl : k = m := by omega
      have hJe : J L wr := by
        have := hJs
        rwa [List.take_of_length_le (by rw [HM.out]; omega)] at this
      gi_wp2
      go_end0
      exact ⟨⟨_, rfl⟩, .inl ⟨_, rfl, hJe⟩⟩

theorem all_in (F : Fence) (n : Nat) (hf : F.fn 75) (hro : F.round = none) (a : Option Addr) (w : World) :
    CallsIn F n Try.prog 75 #[.pointer a] w fun e w' => e = .returned (.func (.func 94) #[] #[.pointer (some ⟨w.heap.size, 0, none⟩)]) ∧ w' = w.alloc (.cells #[.pointer a] 95) := by
  refine callsIn_of_wp Try.func75 rfl hf ?_ hro
  simp only [Try.ntmps75, List.size_toArray, List.length_cons, List.length_nil, Nat.reduceAdd, Nat.reduceSub, Array.replicate_succ, Array.replicate_zero, List.push_toArray, List.append_toArray, List.nil_append, List.cons_append]
  gi_wp2
  go_ret
  exact ⟨rfl, rfl⟩
end Go.Proofs.Ytmdhihgfnlnbnaa
