/-
  Contracts of impl.Bytes and spec.Bytes.
-/
import Derived.Test.YthgkohgbkgakmaaMapP
namespace Go.Proofs.Ythgkohgbkgakmaa
open Go.ChangeShapes Go.WideShapes Go.ChangeAt Go.RowKit

theorem below_drewM {B : Nat} {a b : World} (h : Below B a b) (n : Nat) : Below B a (b.drewN n) := ⟨h.os, h.tape, h.output, h.size, h.block⟩
theorem bytesL_next {L : List KV} {j : Nat} {x : KV} (h : L[j]? = some x) : bytesL (L.take (j + 1)) = bytesL (L.take j) + (x.1.size + x.2.size) := by
  rw [← bytesL_snoc, List.take_add_one, h]
  rfl
theorem bytesV_yes {L : List KV} (h : mapOk L) : bytesV L = bytesL L := if_pos h
theorem bytesV_no {L : List KV} (h : ¬ mapOk L) : bytesV L = 0 := if_neg h

set_option maxHeartbeats 1000000 in
theorem iBytes_any (a : Option Addr) (cap : Nat) (L : List KV) (w : World) (hr : elKV.Rd w w.heap.size a L) (hl : L.length ≤ 2097152) :
    Calls Try.prog 15 #[.slice a L.length cap] w (IntPost w (bytesV L : Nat)) := by
  have HR := hide hr
  clear hr
  obtain ⟨V, hV⟩ : ∃ V, V = bytesV L := ⟨_, rfl⟩
  have HV := hide hV
  rw [← hV]
  have HL := hide hl
  have HC := hide (fun W hr => iMapOk_any a cap L W hr HL.out)
  obtain ⟨n, hn⟩ : ∃ n, n = L.length := ⟨_, rfl⟩
  have HN := hide hn
  rw [← hn] at hl HC
  rw [← hn]
  clear hn hV
  by_cases hm : mapOk L
  · have HK := hide hm.1
    have HV1 := hide (HV.out.trans (bytesV_yes hm))
    go_enter Try.func15, Try.ntmps15
    go_wp2_with fail
    refine (HC.out _ HR.out).mono ?_
    rintro e w1 ⟨rfl, hb1⟩
    rw [decide_eq_true hm]
    have HB0 := hide hb1
    clear hb1 hm
    go_wp2_with fail
    go_loopw [3, 11] (fun t i wr => ∃ x j : Nat, t = .int .i64 x ∧ i = .int .i64 j ∧ j ≤ n ∧ x ≤ 26 * j ∧ Hid (x = bytesL (L.take j)) ∧ Hid (Below w.heap.size w wr)) (fun _ i _ => n - (intOf i).toNat)
    case atStart => exact ⟨0, 0, rfl, rfl, by omega, by omega, rfl, HB0⟩
    case round =>
      obtain ⟨x, j, rfl, rfl, hj, hx26, HX0, HB⟩ := hrel
      by_cases hlt : j < n
      · have hjL : j < L.length := by rw [← HN.out]; exact hlt
        obtain ⟨b, off, rfl, hb, hcell⟩ := HR.out (by omega)
        obtain ⟨f0, f1, hx⟩ := partsKV L[j]
        obtain ⟨c0, c1⟩ := cellsKV hx (hcell j hjL)
        have d0 := (HB.out.cell (p := ⟨b, off + j * 2, none⟩) hb).trans c0
        have d1 := (HB.out.cell (p := ⟨b, off + j * 2 + 1, none⟩) hb).trans c1
        have HX := hide (show L[j]? = some (f0, f1) by rw [List.getElem?_eq_getElem hjL, hx])
        have hk := HK.out _ (List.mem_of_getElem? HX.out)
        have hk0 : f0.size ≤ 10 := hk.2.1
        have hk1 : f1.size ≤ 16 := hk.2.2
        have hs := HB.out.size
        clear hcell c0 c1 hx hjL hk
        have HX1 := hide (show x + (f0.size + f1.size) = bytesL (L.take (j + 1)) by rw [bytesL_next HX.out, ← HX0.out])
        go_wp2_with fail
        go_roundw
        case rel => exact ⟨x + (f0.size + f1.size), j + 1, by go_num, by go_num, by omega, by omega, HX1, HB.out.alloc hs _⟩
        case measure => simp [intOf]; omega
      · have HV2 := hide (show V = x by rw [HV1.out, HX0.out, List.take_of_length_le (by rw [← HN.out]; omega)])
        go_wp2_with fail
        go_ret
        exact ⟨by rw [HV2.out]; rfl, HB.out⟩
  · have HV1 := hide (HV.out.trans (bytesV_no hm))
    go_enter Try.func15, Try.ntmps15
    go_wp2_with fail
    refine (HC.out _ HR.out).mono ?_
    rintro e w1 ⟨rfl, hb1⟩
    rw [decide_eq_false hm]
    have HB0 := hide hb1
    clear hb1 hm
    go_wp2_with fail
    go_ret
    exact ⟨by rw [HV1.out]; rfl, HB0.out⟩

set_option maxHeartbeats 1000000 in
theorem sBytes_any (a : Option Addr) (cap : Nat) (L : List KV) (w : World) (hr : elKV.Rd w w.heap.size a L) (hl : L.length ≤ 2097152) :
    Calls Try.prog 16 #[.slice a L.length cap] w (IntPost w (bytesV L : Nat)) := by
  have HR := hide hr
  clear hr
  obtain ⟨V, hV⟩ : ∃ V, V = bytesV L := ⟨_, rfl⟩
  have HV := hide hV
  rw [← hV]
  have HL := hide hl
  have HC := hide (fun W hr => sMapOk_any a cap L W hr HL.out)
  obtain ⟨n, hn⟩ : ∃ n, n = L.length := ⟨_, rfl⟩
  have HN := hide hn
  rw [← hn] at hl HC
  rw [← hn]
  clear hn hV
  by_cases hm : mapOk L
  · have HK := hide hm.1
    have HV1 := hide (HV.out.trans (bytesV_yes hm))
    have HM := hide (decide_eq_true hm)
    clear hm
    go_enter Try.func16, Try.ntmps16
    go_wp2_with fail
    go_loopw [3, 4] (fun t i wr => ∃ x j : Nat, t = .int .i64 x ∧ i = .int .i64 j ∧ j ≤ n ∧ x ≤ 26 * j ∧ Hid (x = bytesL (L.take j)) ∧ Hid (Below w.heap.size w wr)) (fun _ i _ => n - (intOf i).toNat)
    case atStart => exact ⟨0, 0, rfl, rfl, by omega, by omega, rfl, Below.refl _ _⟩
    case round =>
      obtain ⟨x, j, rfl, rfl, hj, hx26, HX0, HB⟩ := hrel
      by_cases hlt : j < n
      · have hjL : j < L.length := by rw [← HN.out]; exact hlt
        have HJ := hide hjL
        clear hjL
        go_wp2_with fail
        refine (HC.out _ ((HR.out.below HB.out (Nat.le_refl _)).mono HB.out.size)).mono ?_
        rintro e w1 ⟨rfl, hb1⟩
        rw [HM.out]
        have HB1 := hide (HB.out.trans (hb1.mono HB.out.size))
        clear hb1
        obtain ⟨b, off, rfl, hb, hcell⟩ := HR.out (by have := HJ.out; omega)
        obtain ⟨f0, f1, hx⟩ := partsKV (L[j]'HJ.out)
        obtain ⟨c0, c1⟩ := cellsKV hx (hcell j HJ.out)
        have d0 := (HB1.out.cell (p := ⟨b, off + j * 2, none⟩) hb).trans c0
        have d1 := (HB1.out.cell (p := ⟨b, off + j * 2 + 1, none⟩) hb).trans c1
        have HX := hide (show L[j]? = some (f0, f1) by rw [List.getElem?_eq_getElem HJ.out, hx])
        have hk := HK.out _ (List.mem_of_getElem? HX.out)
        have hk0 : f0.size ≤ 10 := hk.2.1
        have hk1 : f1.size ≤ 16 := hk.2.2
        clear hcell c0 c1 hx hk
        have HX1 := hide (show x + f0.size + f1.size = bytesL (L.take (j + 1)) by rw [bytesL_next HX.out, ← HX0.out, Nat.add_assoc])
        go_wp2_with fail
        go_quiet (fail)
        go_wp2_with fail
        go_roundw
        case rel => exact ⟨x + f0.size + f1.size, j + 1, by go_num, by go_num, by omega, by omega, HX1, below_drewM HB1.out _⟩
        case measure => simp [intOf]; omega
      · have HV2 := hide (show V = x by rw [HV1.out, HX0.out, List.take_of_length_le (by rw [← HN.out]; omega)])
        go_wp2_with fail
        go_ret
        exact ⟨by rw [HV2.out]; rfl, HB.out⟩
  · have HV1 := hide (HV.out.trans (bytesV_no hm))
    have HM := hide (decide_eq_false hm)
    have hn0 : 0 < n := by
      rcases Nat.eq_zero_or_pos n with h | h
      · exfalso
        apply hm
        have e := List.eq_nil_of_length_eq_zero (HN.out.symm.trans h)
        rw [e]
        exact ⟨fun _ h => (by cases h), List.Pairwise.nil⟩
      · exact h
    clear hm
    go_enter Try.func16, Try.ntmps16
    go_wp2_with fail
    go_loopw [3, 4] (fun t i wr => t = .int .i64 0 ∧ i = .int .i64 0 ∧ Hid (Below w.heap.size w wr)) (fun _ _ _ => 0)
    case atStart => exact ⟨rfl, rfl, Below.refl _ _⟩
    case round =>
      obtain ⟨rfl, rfl, HB⟩ := hrel
      go_wp2_with fail
      refine (HC.out _ ((HR.out.below HB.out (Nat.le_refl _)).mono HB.out.size)).mono ?_
      rintro e w1 ⟨rfl, hb1⟩
      rw [HM.out]
      have HB1 := hide (HB.out.trans (hb1.mono HB.out.size))
      clear hb1
      go_wp2_with fail
      go_ret
      exact ⟨by rw [HV1.out]; rfl, HB1.out⟩
end Go.Proofs.Ythgkohgbkgakmaa
