/-
  Contracts of laws.markStringS, heldStringS, markDev, heldDev: marks are written into a device, and found there.
-/
import Derived.Test.YtnbaffdonbnocaaSlotM
import Derived.Test.YtnbaffdonbnocaaDevQ
namespace Go.Proofs.Ytnbaffdonbnocaa
open Go.ChangeShapes Go.WideShapes Go.ChangeAt Go.RowKit

/-- n marked strings, from number k on -/
def markT (k n : Nat) : List ByteArray := (List.range n).map fun i => markS (k + i)
theorem length_markT (k n : Nat) : (markT k n).length = n := by simp [markT]
theorem st_markT (k n i : Nat) (h : i < n) : st (markT k n) i = markS (k + i) := by simp [st, markT, List.getD, h]
def mixT (S : List ByteArray) (k j : Nat) : List ByteArray := markT k j ++ S.drop j
theorem length_mixT (S : List ByteArray) (k j : Nat) (h : j ≤ S.length) : (mixT S k j).length = S.length := by simp [mixT, length_markT]; omega
theorem mixT_zero (S : List ByteArray) (k : Nat) : mixT S k 0 = S := by simp [mixT, markT]
theorem mixT_all (S : List ByteArray) (k : Nat) : mixT S k S.length = markT k S.length := by simp [mixT]
theorem mixT_step (S : List ByteArray) (k j : Nat) (h : j < S.length) : (mixT S k j).set j (markS (k + j)) = mixT S k (j + 1) := by
  unfold mixT
  rw [List.set_append_right _ _ (by rw [length_markT]; exact Nat.le_refl _), length_markT, Nat.sub_self, List.drop_eq_getElem_cons h, List.set_cons_zero]
  simp [markT, List.range_succ]

def MarkTPost (B : Nat) (w : World) (a : Option Addr) (n cap k : Nat) (e : Ending) (w' : World) : Prop :=
  e = .returned (.int .i64 ((k + n : Nat) : Int)) ∧ OwnsT B w' (.slice a n cap) (markT k n) ∧ Only (Value.slice a n cap).ownBlock w w'

theorem markStringS_any (B : Nat) (a : Option Addr) (cap k : Nat) (S : List ByteArray) (w : World) (hO : OwnsT B w (.slice a S.length cap) S) (hk : 0 < k) (hl : k + S.length ≤ 4194304) :
    Calls Try.prog 47 #[.slice a S.length cap, .int .i64 k] w (MarkTPost B w a S.length cap k) := by
  have HO := hide hO
  clear hO
  obtain ⟨n, hn⟩ : ∃ n, n = S.length := ⟨_, rfl⟩
  have HN := hide hn
  rw [← hn] at hl HO
  rw [← hn]
  clear hn
  go_enter Try.func47, Try.ntmps47
  go_wp2_with fail
  go_loopw [1, 5] (fun q i wr => ∃ j : Nat, i = .int .i64 j ∧ q = .int .i64 ((k + j : Nat) : Int) ∧ j ≤ n ∧ Hid (OwnsT B wr (.slice a n cap) (mixT S k j)) ∧ Hid (Only (Value.slice a n cap).ownBlock w wr)) (fun _ i _ => n - (intOf i).toNat)
  case atStart => exact ⟨0, rfl, rfl, by omega, by rw [mixT_zero]; exact HO, Only.refl _ _⟩
  case round =>
    obtain ⟨j, rfl, rfl, hj, HW, HT⟩ := hrel
    by_cases hlt : j < n
    · have hjL : j < S.length := by rw [← HN.out]; exact hlt
      have HM := hide (length_mixT S k j (by omega))
      have hlm : (mixT S k j).length = n := by rw [HM.out, HN.out]
      obtain ⟨g, rfl, hg, hgz⟩ := HW.out.pos (by rw [HM.out]; omega)
      have HS := hide (mixT_step S k j hjL)
      have HLM := hide hlm
      clear hjL hlm
      go_wp2_with fail
      refine (markText_z (↑k + ↑j) (k + j) _ (by omega) (by omega) (by omega)).mono ?_
      rintro e w1 ⟨rfl, hb1⟩
      have HW1 := hide (HW.out.below hb1 (Nat.le_refl _))
      have HT1 := hide (HT.out.then_below hb1 HT.out.size)
      clear hb1 HW HT hgz
      have c0 := HW1.out.cellAt HLM.out j (by rw [HLM.out]; exact hlt)
      have z0 := HW1.out.frozenAt HLM.out j
      have HW2 := hide (show OwnsT B (w1.setCell ⟨g, j, none⟩ (.string (markS (k + j)))) (.slice (some ⟨g, 0, none⟩) n cap) (mixT S k (j + 1)) from by
        rw [← HS.out]
        exact HW1.out.set HLM.out j (markS (k + j)))
      have HT2 := hide (HT1.out.trans (Only.set g j w1 (.string (markS (k + j)))))
      clear HS HW1
      go_wp2_with fail
      go_roundw
      case rel => exact ⟨j + 1, by go_num, by go_num, by omega, HW2, HT2⟩
      case measure => simp [intOf]; omega
    · have hjn : j = n := by omega
      subst hjn
      have HW1 := hide (show OwnsT B wr (.slice a j cap) (markT k j) from by
        have := HW.out
        rwa [HN.out, mixT_all, ← HN.out] at this)
      go_wp2_with fail
      go_ret
      exact ⟨rfl, HW1.out, HT.out⟩

theorem heldStringS_any (a : Option Addr) (cap k n : Nat) (w : World) (hr : StrRd w w.heap.size a (markT k n)) (hk : 0 < k) (hl : k + n ≤ 4194304) :
    Calls Try.prog 49 #[.slice a n cap, .int .i64 k] w (fun e w' => e = .returned (.int .i64 ((k + n : Nat) : Int)) ∧ Below w.heap.size w w') := by
  have HR := hide hr
  clear hr
  go_enter Try.func49, Try.ntmps49
  go_wp2_with fail
  go_loopw [1, 5] (fun q i wr => ∃ j : Nat, i = .int .i64 j ∧ q = .int .i64 ((k + j : Nat) : Int) ∧ j ≤ n ∧ Hid (Below w.heap.size w wr)) (fun _ i _ => n - (intOf i).toNat)
  case atStart => exact ⟨0, rfl, rfl, by omega, Below.refl _ _⟩
  case round =>
    obtain ⟨j, rfl, rfl, hj, HB⟩ := hrel
    by_cases hlt : j < n
    · obtain ⟨b, o, rfl, hb, hc⟩ := HR.out (by rw [length_markT]; omega)
      have p0 := hc j (by rw [length_markT]; exact hlt)
      rw [st_markT k n j hlt] at p0
      have d1 := (HB.out.cell (p := ⟨b, o + j, none⟩) hb).trans p0
      clear hc p0
      have hi0 : (j : Int) < (n : Int) := by omega
      go_wp2_with fail
      go_region_held3 (fun w' => w'.cell? ⟨b, o + j, none⟩ = some (.string (markS (k + j))))
        (first
          | exact d1
          | exact d2)
        (first
          | (go_at_call 61; refine (markText_z (↑k + ↑j) (k + j) _ (by omega) (by omega) (by omega)).mono ?_; rintro e w1 ⟨rfl, hb1⟩; have HB1 := hide (HB.out.drew.trans (hb1.mono HB.out.size)); have d2 := (hb1.cell (p := ⟨b, o + j, none⟩) (Nat.lt_of_lt_of_le hb HB.out.size)).trans d1; clear hb1))
      all_goals go_wp2_with fail
      all_goals go_roundw
      all_goals first
        | exact ⟨j + 1, by go_num, by go_num, by omega, HB1⟩
        | (simp [intOf]; omega)
    · have hjn : j = n := by omega
      subst hjn
      go_wp2_with fail
      go_ret
      exact ⟨rfl, HB.out⟩

def MarkDPost (w : World) (a a' : Option Addr) (n m cap cap' : Nat) (e : Ending) (w' : World) : Prop :=
  e = .returned (.int .i64 ((1 + n + 2 * m : Nat) : Int)) ∧ OwnsT 0 w' (.slice a n cap) (markT 1 n) ∧ OwnsS 0 w' (.slice a' m cap') (markL (1 + n) m) ∧ ∃ wm, Only (Value.slice a n cap).ownBlock w wm ∧ Only (Value.slice a' m cap').ownBlock wm w'

set_option maxHeartbeats 1000000 in
theorem markDev1 (a a' : Option Addr) (cap cap' : Nat) (S : List ByteArray) (L : List Slot) (x : Int) (w : World) (hT : OwnsT 0 w (.slice a S.length cap) S) (hO : OwnsS 0 w (.slice a' L.length cap') L) (hsl : S.length ≤ 1048578) (hl : L.length ≤ 1048578) :
    Calls Try.prog 22 #[.agg #[.slice a S.length cap, .slice a' L.length cap', .int .i64 x], .int .i64 1] w (MarkDPost w a a' S.length L.length cap cap') := by
  have HT := hide hT
  have HO := hide hO
  clear hT hO
  have hal := fun o => (Below.refl w.heap.size w).alloc (Nat.le_refl _) o
  go_enter Try.func22, Try.ntmps22
  go_wp2_with fail
  refine (markStringS_any 0 a cap 1 S _ (HT.out.alloc _) (by omega) (by omega)).mono ?_
  rintro e w1 ⟨rfl, ht1, hn1⟩
  have HX1 := hide ((BoxB.new 27 w (.slice a S.length cap) (.slice a' L.length cap') (.int .i64 x)).only hn1 (fun e => by have := (HT.out.lt _ e.symm).2; omega))
  have HO1 := hide ((HO.out.alloc (.cells #[.slice a S.length cap, .slice a' L.length cap', .int .i64 x] 27)).only hn1 (fun k e e' => apart HT.out HO.out k e'.symm e))
  have HN1 := hide (show Only (Value.slice a S.length cap).ownBlock w w1 from ⟨hn1.os, hn1.tape, hn1.output, Nat.le_trans (by simp) hn1.size, fun i hi hne => (hn1.block i (by simp; omega) hne).trans (Below.heap_alloc w _ i hi)⟩)
  have HT1 := hide ht1
  clear ht1 hn1 hal
  obtain ⟨c0, c1, c2⟩ := HX1.out.cells
  go_wp2_with fail
  refine (markPutS_any 0 a' cap' (1 + S.length) L _ HO1.out (by omega) (by omega)).mono ?_
  rintro e w2 ⟨rfl, ho2, hn2⟩
  have HT2 := hide (HT1.out.only hn2 (fun k e e' => apart HT1.out HO1.out k e e'.symm))
  have HO2 := hide ho2
  have HN2 := hide hn2
  clear ho2 hn2 HX1 c0 c1 c2
  go_wp2_with fail
  go_ret
  exact ⟨rfl, HT2.out, HO2.out, w1, HN1.out, HN2.out⟩

set_option maxHeartbeats 1000000 in
theorem heldDev1 (a a' : Option Addr) (cap cap' n m : Nat) (x : Int) (w : World) (hT : OwnsT 0 w (.slice a n cap) (markT 1 n)) (hO : OwnsS 0 w (.slice a' m cap') (markL (1 + n) m)) (hsl : n ≤ 1048578) (hl : m ≤ 1048578) :
    Calls Try.prog 23 #[.agg #[.slice a n cap, .slice a' m cap', .int .i64 x], .int .i64 1] w (fun e w' => e = .returned (.int .i64 ((1 + n + 2 * m : Nat) : Int)) ∧ Below w.heap.size w w') := by
  have HT := hide hT
  have HO := hide hO
  clear hT hO
  have hal := fun o => (Below.refl w.heap.size w).alloc (Nat.le_refl _) o
  go_enter Try.func23, Try.ntmps23
  go_wp2_with fail
  refine (heldStringS_any a cap 1 n _ (HT.out.alloc _).rd (by omega) (by omega)).mono ?_
  rintro e w1 ⟨rfl, hb1⟩
  have HX1 := hide ((BoxB.new 27 w (.slice a n cap) (.slice a' m cap') (.int .i64 x)).below hb1 (by simp))
  have HO1 := hide ((HO.out.alloc (.cells #[.slice a n cap, .slice a' m cap', .int .i64 x] 27)).below hb1 (Nat.le_refl _))
  have HB1 := hide ((hal _).trans (hb1.mono (by simp)))
  clear hb1 hal
  obtain ⟨c0, c1, c2⟩ := HX1.out.cells
  go_wp2_with fail
  refine (heldPutS_any a' cap' (1 + n) m _ HO1.out.rd (by omega) (by omega)).mono ?_
  rintro e w2 ⟨rfl, hb2⟩
  have HB2 := hide (HB1.out.trans (hb2.mono HB1.out.size))
  clear hb2 HX1 HB1 c0 c1 c2
  go_wp2_with fail
  go_ret
  exact ⟨rfl, HB2.out⟩
end Go.Proofs.Ytnbaffdonbnocaa
