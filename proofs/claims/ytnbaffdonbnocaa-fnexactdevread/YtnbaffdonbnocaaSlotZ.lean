/-
  Contracts of laws.szPut, szPutS: how much slots hold.
-/
import Derived.Test.YtnbaffdonbnocaaSmallI
import Derived.Test.YtnbaffdonbnocaaMathL
namespace Go.Proofs.Ytnbaffdonbnocaa
open Go.ChangeShapes Go.WideShapes Go.ChangeAt Go.RowKit

theorem szPut_any (t : Int) (k : ByteArray) (left : Int) (w : World) (hk : k.size ≤ maxLen) (h0 : 0 ≤ left) (h1 : left ≤ 1048576) :
    Calls Try.prog 58 #[.agg #[.int .i64 t, .string k], .int .i64 left] w fun e w' => e = .returned (.int .i64 (if left < k.size then -1 else left - k.size)) ∧ Below w.heap.size w w' := by
  unfold maxLen at hk
  by_cases hc : left < k.size
  · rw [if_pos hc]
    go_enter Try.func58, Try.ntmps58
    go_wp2
    go_ret
    exact ⟨rfl, (Below.refl _ _).alloc (Nat.le_refl _) _⟩
  · rw [if_neg hc]
    go_enter Try.func58, Try.ntmps58
    go_wp2
    go_ret
    exact ⟨rfl, (Below.refl _ _).alloc (Nat.le_refl _) _⟩

/-- the result of a size: an int, not negative only if all fits -/
def SzPost (w : World) (P : Prop) (e : Ending) (w' : World) : Prop := ∃ x : Int, e = .returned (.int .i64 x) ∧ -1 ≤ x ∧ x ≤ 1048576 ∧ (0 ≤ x → P) ∧ Below w.heap.size w w'

theorem szPutS_any (a : Option Addr) (cap : Nat) (L : List Slot) (left : Int) (w : World) (hr : SlotRd w w.heap.size a L) (hl : L.length ≤ maxLen) (hk : ∀ j, (ky L j).size ≤ maxLen) (h0 : 0 ≤ left) (h1 : left ≤ 1048576) :
    Calls Try.prog 40 #[.slice a L.length cap, .int .i64 left] w (SzPost w (L.length ≤ 1048576 ∧ ∀ j, j < L.length → (ky L j).size ≤ 1048576)) := by
  have HR := hide hr
  have HK := hide hk
  clear hr hk
  unfold maxLen at hl
  obtain ⟨n, hn⟩ : ∃ n, n = L.length := ⟨_, rfl⟩
  have HN := hide hn
  rw [← hn] at hl
  rw [← hn]
  by_cases hc : left < n
  · clear hn
    go_enter Try.func40, Try.ntmps40
    go_wp2
    go_ret
    exact ⟨_, rfl, by omega, by omega, fun h => by omega, Below.refl _ _⟩
  · clear hn
    go_enter Try.func40, Try.ntmps40
    go_wp2_with fail
    go_loopw [1, 5] (fun l i wr => ∃ (x : Int) (j : Nat), l = .int .i64 x ∧ i = .int .i64 j ∧ j ≤ n ∧ 0 ≤ x ∧ x ≤ 1048576 ∧ Hid (∀ i, i < j → (ky L i).size ≤ 1048576) ∧ Hid (Below w.heap.size w wr)) (fun _ i _ => n - (intOf i).toNat)
    case atStart => exact ⟨_, 0, rfl, rfl, by omega, by omega, by omega, fun i hi => by omega, Below.refl _ _⟩
    case round =>
      obtain ⟨x, j, rfl, rfl, hj, hx0, hx1, HA, HB⟩ := hrel
      by_cases hlt : j < n
      · obtain ⟨b, off, rfl, hb, hcell⟩ := HR.out (by rw [← HN.out]; omega)
        obtain ⟨c0, c1⟩ := hcell j (by rw [← HN.out]; exact hlt)
        have d0 := (HB.out.cell (p := ⟨b, off + j * 2, none⟩) hb).trans c0
        have d1 := (HB.out.cell (p := ⟨b, off + j * 2 + 1, none⟩) hb).trans c1
        clear hcell c0 c1
        go_wp2_with fail
        have hkj := HK.out j
        refine (szPut_any (tn L j) (ky L j) x _ hkj hx0 hx1).mono ?_
        unfold maxLen at hkj
        rintro e w1 ⟨rfl, hb1⟩
        have HB1 := hide (HB.out.trans (hb1.mono HB.out.size))
        clear hb1 d0 d1 HB
        by_cases hs : x < (ky L j).size
        · rw [if_pos hs]
          clear hs
          go_wp2_with fail
          go_ret
          exact ⟨_, rfl, by omega, by omega, fun h => by omega, HB1.out⟩
        · rw [if_neg hs]
          obtain ⟨y, hy⟩ : ∃ y, y = x - ((ky L j).size : Int) := ⟨_, rfl⟩
          rw [← hy]
          have hy0 : 0 ≤ y := by omega
          have hy1 : y ≤ 1048576 := by omega
          have HS := hide (show (ky L j).size ≤ 1048576 by omega)
          clear hs hy hkj
          go_wp2_with fail
          go_roundw
          case rel => exact ⟨y, j + 1, rfl, by go_num, by omega, hy0, hy1, fun i hi => by
            rcases Nat.lt_or_ge i j with h | h
            · exact HA.out i h
            · rw [show i = j by omega]; exact HS.out, HB1⟩
          case measure => simp [intOf]; omega
      · have HJ := hide (show j = n by omega)
        go_wp2_with fail
        go_ret
        exact ⟨_, rfl, by omega, by omega, fun _ => ⟨by omega, fun i hi => HA.out i (by rw [HJ.out]; exact hi)⟩, HB.out⟩

end Go.Proofs.Ytnbaffdonbnocaa
