/-
  Contracts of laws.szEnt, toEnt and of their rows. (Written by mkrow.py.)
-/
import Derived.Test.YtphfakdbgohhgaaRowEnt
namespace Go.Proofs.Ytphfakdbgohhgaa
open Go.ChangeShapes Go.WideShapes Go.ChangeAt Go.RowKit

theorem szEnt_any (f0 : ByteArray) (f1 : Int) (f2 : Bool) (f3 : ByteArray) (left : Int) (w : World) (hf0 : f0.size ≤ maxLen) (hf3 : f3.size ≤ maxLen) (h0 : 0 ≤ left) (h1 : left ≤ 1048576) :
    Calls Try.prog 67 #[.agg #[.string f0, .int .i64 f1, .bool f2, .string f3], .int .i64 left] w fun e w' => ∃ x : Int, e = .returned (.int .i64 x) ∧ -1 ≤ x ∧ x ≤ left ∧ (0 ≤ x → fitEnt (f0, f1, f2, f3)) ∧ Below w.heap.size w w' := by
  unfold maxLen at hf0 hf3
  by_cases cf0 : left < (f0.size : Int)
  · go_enter Try.func67, Try.ntmps67
    go_wp2
    go_ret
    exact ⟨_, rfl, by omega, by omega, fun h => by omega, (Below.refl _ _).alloc (Nat.le_refl _) _⟩
  by_cases cf3 : left - f0.size < (f3.size : Int)
  · go_enter Try.func67, Try.ntmps67
    go_wp2
    go_ret
    exact ⟨_, rfl, by omega, by omega, fun h => by omega, (Below.refl _ _).alloc (Nat.le_refl _) _⟩
  go_enter Try.func67, Try.ntmps67
  go_wp2
  go_ret
  exact ⟨_, rfl, by omega, by omega, fun _ => by unfold fitEnt; simp only; omega, (Below.refl _ _).alloc (Nat.le_refl _) _⟩

theorem szEntS_any (a : Option Addr) (cap : Nat) (L : List EntE) (left : Int) (w : World) (hr : elEnt.Rd w w.heap.size a L) (hl : L.length ≤ maxLen) (hk : ∀ x ∈ L, x.1.size ≤ maxLen ∧ x.2.2.2.size ≤ maxLen) (h0 : 0 ≤ left) (h1 : left ≤ 1048576) :
    Calls Try.prog 23 #[.slice a L.length cap, .int .i64 left] w (SzPost w (L.length ≤ 1048576 ∧ ∀ x ∈ L, fitEnt x)) := by
  have HR := hide hr
  have HK := hide hk
  clear hr hk
  unfold maxLen at hl
  obtain ⟨n, hn⟩ : ∃ n, n = L.length := ⟨_, rfl⟩
  have HN := hide hn
  rw [← hn] at hl
  rw [← hn]
  by_cases hc : left < n
  · clear hn
    go_enter Try.func23, Try.ntmps23
    go_wp2
    go_ret
    exact ⟨_, rfl, by omega, by omega, fun h => by omega, Below.refl _ _⟩
  · clear hn
    go_enter Try.func23, Try.ntmps23
    go_wp2_with fail
    go_loopw [1, 5] (fun l i wr => ∃ (x : Int) (j : Nat), l = .int .i64 x ∧ i = .int .i64 j ∧ j ≤ n ∧ 0 ≤ x ∧ x ≤ 1048576 ∧ Hid (∀ i x, i < j → L[i]? = some x → fitEnt x) ∧ Hid (Below w.heap.size w wr)) (fun _ i _ => n - (intOf i).toNat)
    case atStart => exact ⟨_, 0, rfl, rfl, by omega, by omega, by omega, fun i _ hi _ => by omega, Below.refl _ _⟩
    case round =>
      obtain ⟨x, j, rfl, rfl, hj, hx0, hx1, HA, HB⟩ := hrel
      by_cases hlt : j < n
      · have hjL : j < L.length := by rw [← HN.out]; exact hlt
        obtain ⟨b, off, rfl, hb, hcell⟩ := HR.out (by omega)
        obtain ⟨f0, f1, f2, f3, hx⟩ := partsEnt L[j]
        obtain ⟨c0, c1, c2, c3⟩ := cellsEnt hx (hcell j hjL)
        have d0 := (HB.out.cell (p := ⟨b, off + j * 4, none⟩) hb).trans c0
        have d1 := (HB.out.cell (p := ⟨b, off + j * 4 + 1, none⟩) hb).trans c1
        have d2 := (HB.out.cell (p := ⟨b, off + j * 4 + 2, none⟩) hb).trans c2
        have d3 := (HB.out.cell (p := ⟨b, off + j * 4 + 3, none⟩) hb).trans c3
        have hkj := HK.out L[j] (List.getElem_mem hjL)
        rw [hx] at hkj
        have HX := hide (show L[j]? = some (f0, f1, f2, f3) by rw [List.getElem?_eq_getElem hjL, hx])
        clear hcell c0 c1 c2 c3 hx hjL
        go_wp2_with fail
        refine (szEnt_any f0 f1 f2 f3 x _ hkj.1 hkj.2 hx0 hx1).mono ?_
        rintro e w1 ⟨y, rfl, hy0, hy1, hyf, hb1⟩
        have HB1 := hide (HB.out.trans (hb1.mono HB.out.size))
        have HF := hide hyf
        clear hb1 d0 d1 d2 d3 HB hkj hyf
        by_cases hs : y < 0
        · go_wp2_with fail
          go_ret
          exact ⟨_, rfl, by omega, by omega, fun h => by omega, HB1.out⟩
        · go_wp2_with fail
          go_roundw
          case rel => exact ⟨y, j + 1, rfl, by go_num, by omega, by omega, by omega, fun i z hij hz => by
            rcases Nat.lt_or_ge i j with h | h
            · exact HA.out i z h hz
            · rw [show i = j by omega, HX.out] at hz
              rw [← Option.some.inj hz]
              exact HF.out (by omega), HB1⟩
          case measure => simp [intOf]; omega
      · have HJ := hide (show j = n by omega)
        go_wp2_with fail
        go_ret
        exact ⟨_, rfl, by omega, by omega, fun _ => ⟨by omega, fun z hz => by
          obtain ⟨i, hi, e⟩ := List.getElem_of_mem hz
          exact HA.out i z (by rw [HJ.out, HN.out]; exact hi) (by rw [List.getElem?_eq_getElem hi, e])⟩, HB.out⟩

theorem toEnt_any (f0 : ByteArray) (f1 : Int) (f2 : Bool) (f3 : ByteArray) (w : World) :
    Calls Try.prog 69 #[.agg #[.string f0, .int .i64 f1, .bool f2, .string f3]] w fun e w' => e = .returned (.agg #[.string f0, .int .i64 f1, .bool f2, .string f3]) ∧ Below w.heap.size w w' := by
  go_enter Try.func69, Try.ntmps69
  go_wp2
  exact bodyPost_ret (v := .agg #[.string f0, .int .i64 f1, .bool f2, .string f3]) (by simp [results, Try.results69, go_sem]) rfl ⟨rfl, (((Below.refl _ _).alloc (Nat.le_refl _) _).alloc (by simp) _).alloc (by simp; omega) _⟩

theorem toEntS_any (a : Option Addr) (cap : Nat) (L : List EntE) (w : World) (hr : elEnt.Rd w w.heap.size a L) (hl : L.length ≤ 1048576) :
    Calls Try.prog 25 #[.slice a L.length cap] w fun e w' => e = .returned (.slice (some ⟨w.heap.size, 0, none⟩) L.length L.length) ∧ elEnt.Holds w' w.heap.size L ∧ Below w.heap.size w w' ∧ w.heap.size < w'.heap.size := by
  have HR := hide hr
  clear hr
  obtain ⟨n, hn⟩ : ∃ n, n = L.length := ⟨_, rfl⟩
  have HN := hide hn
  rw [← hn] at hl
  rw [← hn]
  clear hn
  have hmk := makeEnt n (by omega) w
  go_enter Try.func25, Try.ntmps25
  go_wp2_with fail
  clear hmk
  go_loopw [4] (fun i wr => ∃ j : Nat, i = .int .i64 j ∧ j ≤ n ∧ Hid (elEnt.Holds wr w.heap.size (fillG zeroEnt L j)) ∧ Hid (Below w.heap.size w wr) ∧ w.heap.size < wr.heap.size) (fun i _ => n - (intOf i).toNat)
  case atStart =>
    refine ⟨0, rfl, by omega, ?_, (Below.refl _ _).alloc (Nat.le_refl _) _, by simp⟩
    show elEnt.Holds _ _ _
    rw [fillG_zero, ← HN.out]
    exact El.Holds.new w _
  case round =>
    obtain ⟨j, rfl, hj, HH, HB, hsz⟩ := hrel
    by_cases hlt : j < n
    · have hjL : j < L.length := by rw [← HN.out]; exact hlt
      obtain ⟨b, off, rfl, hb, hcell⟩ := HR.out (by omega)
      obtain ⟨f0, f1, f2, f3, hx⟩ := partsEnt L[j]
      obtain ⟨c0, c1, c2, c3⟩ := cellsEnt hx (hcell j hjL)
      have d0 := (HB.out.cell (p := ⟨b, off + j * 4, none⟩) hb).trans c0
      have d1 := (HB.out.cell (p := ⟨b, off + j * 4 + 1, none⟩) hb).trans c1
      have d2 := (HB.out.cell (p := ⟨b, off + j * 4 + 2, none⟩) hb).trans c2
      have d3 := (HB.out.cell (p := ⟨b, off + j * 4 + 3, none⟩) hb).trans c3
      have HJ := hide (show j < L.length from hjL)
      have HX := hide (show L[j]? = some (f0, f1, f2, f3) by rw [List.getElem?_eq_getElem hjL, hx])
      clear hcell c0 c1 c2 c3 hx hjL
      go_wp2_with fail
      refine (toEnt_any f0 f1 f2 f3 _).mono ?_
      rintro e w1 ⟨rfl, hb1⟩
      have HH1 := hide (HH.out.below hb1 hsz)
      have HB1 := hide (HB.out.trans (hb1.mono HB.out.size))
      have hsz1 : w.heap.size < w1.heap.size := by have := hb1.size; omega
      clear hb1 d0 d1 d2 d3 HB HH hsz
      have hlf : j < (fillG zeroEnt L j).length := by rw [length_fillG _ L j (by have := HJ.out; omega)]; exact HJ.out
      obtain ⟨q0, q1, q2, q3, hq⟩ := partsEnt (fillG zeroEnt L j)[j]
      obtain ⟨e0, e1, e2, e3⟩ := cells0Ent hq (HH1.out.cell j hlf)
      have g0 := HH1.out.frozen (j * 4)
      have g1 := HH1.out.frozen (j * 4 + 1)
      have g2 := HH1.out.frozen (j * 4 + 2)
      have g3 := HH1.out.frozen (j * 4 + 3)
      have HQ := hide (show (fillG zeroEnt L j)[j]? = some (q0, q1, q2, q3) by rw [List.getElem?_eq_getElem hlf, hq])
      clear hq hlf
      go_wp2_with fail
      go_roundw
      case rel =>
        refine ⟨j + 1, by go_num, by omega, ?_, ((((HB1.out.setCell (Nat.le_refl _) _).setCell (Nat.le_refl _) _).setCell (Nat.le_refl _) _).setCell (Nat.le_refl _) _), by simpa using hsz1⟩
        show elEnt.Holds _ _ _
        rw [← fillG_put zeroEnt L j _ HX.out]
        have s0 := HH1.out.setAt j _ HQ.out 0 (by decide) (.string f0) (f0, q1, q2, q3) rfl
        have s1 := s0.setAt j _ (set_at _ HQ.out) 1 (by decide) (.int .i64 f1) (f0, f1, q2, q3) rfl
        rw [List.set_set] at s1
        have s2 := s1.setAt j _ (set_at _ HQ.out) 2 (by decide) (.bool f2) (f0, f1, f2, q3) rfl
        rw [List.set_set] at s2
        have s3 := s2.setAt j _ (set_at _ HQ.out) 3 (by decide) (.string f3) (f0, f1, f2, f3) rfl
        rw [List.set_set] at s3
        exact s3
      case measure => simp [intOf]; omega
    · have HJ := hide (show fillG zeroEnt L j = L by rw [show j = L.length by rw [← HN.out]; omega, fillG_all])
      go_wp2_with fail
      go_ret
      exact ⟨rfl, by rw [← HJ.out]; exact HH.out, HB.out, hsz⟩
end Go.Proofs.Ytphfakdbgohhgaa
