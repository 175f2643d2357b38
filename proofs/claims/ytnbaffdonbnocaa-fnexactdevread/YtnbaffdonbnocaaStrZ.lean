/-
  Contracts of laws.szStringS, szDev: how much a device holds.
-/
import Derived.Test.YtnbaffdonbnocaaSlotZ
import Derived.Test.YtnbaffdonbnocaaOwnT
namespace Go.Proofs.Ytnbaffdonbnocaa
open Go.ChangeShapes Go.WideShapes Go.ChangeAt Go.RowKit

theorem szStringS_any (a : Option Addr) (cap : Nat) (S : List ByteArray) (left : Int) (w : World) (hr : StrRd w w.heap.size a S) (hl : S.length ≤ maxLen) (hk : ∀ j, (st S j).size ≤ maxLen) (h0 : 0 ≤ left) (h1 : left ≤ 1048576) :
    Calls Try.prog 39 #[.slice a S.length cap, .int .i64 left] w (SzPost w (S.length ≤ 1048576)) := by
  have HR := hide hr
  have HK := hide hk
  clear hr hk
  unfold maxLen at hl
  obtain ⟨n, hn⟩ : ∃ n, n = S.length := ⟨_, rfl⟩
  have HN := hide hn
  rw [← hn] at hl
  rw [← hn]
  by_cases hc : left < n
  · clear hn
    go_enter Try.func39, Try.ntmps39
    go_wp2
    go_ret
    exact ⟨_, rfl, by omega, by omega, fun h => by omega, Below.refl _ _⟩
  · clear hn
    go_enter Try.func39, Try.ntmps39
    go_wp2_with fail
    go_loopw [1, 5] (fun l i wr => ∃ (x : Int) (j : Nat), l = .int .i64 x ∧ i = .int .i64 j ∧ j ≤ n ∧ 0 ≤ x ∧ x ≤ 1048576 ∧ Hid (Below w.heap.size w wr)) (fun _ i _ => n - (intOf i).toNat)
    case atStart => exact ⟨_, 0, rfl, rfl, by omega, by omega, by omega, Below.refl _ _⟩
    case round =>
      obtain ⟨x, j, rfl, rfl, hj, hx0, hx1, HB⟩ := hrel
      by_cases hlt : j < n
      · obtain ⟨b, off, rfl, hb, hcell⟩ := HR.out (by rw [← HN.out]; omega)
        have c0 := hcell j (by rw [← HN.out]; exact hlt)
        have d0 := (HB.out.cell (p := ⟨b, off + j, none⟩) hb).trans c0
        clear hcell c0
        have hkj := HK.out j
        unfold maxLen at hkj
        by_cases hs : x < (st S j).size
        · go_wp2_with fail
          go_ret
          exact ⟨_, rfl, by omega, by omega, fun h => by omega, HB.out⟩
        · go_wp2_with fail
          go_roundw
          case rel => exact ⟨x - (st S j).size, j + 1, by go_num, by go_num, by omega, by omega, by omega, HB⟩
          case measure => simp [intOf]; omega
      · go_wp2_with fail
        go_ret
        exact ⟨_, rfl, by omega, by omega, fun _ => by omega, HB.out⟩

/-- a device: its sectors, what is cached, its count of writes -/
def sdV (a : Option Addr) (n cap : Nat) (a' : Option Addr) (n' cap' : Nat) (x : Int) : Value := .agg #[.slice a n cap, .slice a' n' cap', .int .i64 x]

theorem szDev_any (a a' : Option Addr) (cap cap' : Nat) (S : List ByteArray) (L : List Slot) (x left : Int) (w : World) (hs : StrRd w w.heap.size a S) (hsl : S.length ≤ maxLen) (hsk : ∀ j, (st S j).size ≤ maxLen) (hr : SlotRd w w.heap.size a' L) (hl : L.length ≤ maxLen) (hk : ∀ j, (ky L j).size ≤ maxLen) (h0 : 0 ≤ left) (h1 : left ≤ 1048576) :
    Calls Try.prog 18 #[.agg #[.slice a S.length cap, .slice a' L.length cap', .int .i64 x], .int .i64 left] w (SzPost w (S.length ≤ 1048576 ∧ L.length ≤ 1048576)) := by
  have HS := hide hs
  have HSL := hide hsl
  have HSK := hide hsk
  have HR := hide hr
  have HK := hide hk
  have HL := hide hl
  clear hr hk hl hs hsl hsk
  go_enter Try.func18, Try.ntmps18
  go_wp2_with fail
  have hal := fun o => (Below.refl w.heap.size w).alloc (Nat.le_refl _) o
  refine (szStringS_any a cap S left _ ((HS.out.below (hal _) (Nat.le_refl _)).mono (by simp)) HSL.out HSK.out h0 h1).mono ?_
  rintro e w1 ⟨y, rfl, hy0, hy1, hP, hb1⟩
  have HP := hide hP
  obtain ⟨oc, _⟩ := oldCells hb1
  simp only [Go.Deep.nblk_alloc] at oc
  have HB1 := hide ((hal _).trans (hb1.mono (by simp)))
  clear hP hb1 hal
  by_cases hy : y < 0
  · go_wp2_with fail
    go_ret
    exact ⟨_, rfl, by omega, by omega, fun h => by omega, HB1.out⟩
  · go_wp2_with fail
    refine (szPutS_any a' cap' L y _ ((HR.out.below HB1.out (Nat.le_refl _)).mono HB1.out.size) HL.out HK.out (by omega) hy1).mono ?_
    rintro e w2 ⟨z, rfl, hz0, hz1, hQ, hb2⟩
    have HQ := hide hQ
    have HB2 := hide (HB1.out.trans (hb2.mono HB1.out.size))
    clear hQ hb2 HB1 oc
    by_cases hz : z < 0
    · go_wp2_with fail
      go_ret
      exact ⟨_, rfl, by omega, by omega, fun h => by omega, HB2.out⟩
    · go_wp2_with fail
      go_ret
      exact ⟨_, rfl, by omega, by omega, fun h => ⟨HP.out (by omega), (HQ.out h).1⟩, HB2.out⟩
end Go.Proofs.Ytnbaffdonbnocaa
