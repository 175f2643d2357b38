/-
  Contracts of laws.toStringS, toDev: a device of the program's type, in new memory.
-/
import Derived.Test.YtnbaffdonbnocaaSlotT
import Derived.Test.YtnbaffdonbnocaaOwnT
namespace Go.Proofs.Ytnbaffdonbnocaa
open Go.ChangeShapes Go.WideShapes Go.ChangeAt Go.RowKit

def fillT (S : List ByteArray) (j : Nat) : List ByteArray := S.take j ++ List.replicate (S.length - j) zeroT
theorem length_fillT (S : List ByteArray) (j : Nat) (h : j ≤ S.length) : (fillT S j).length = S.length := by simp [fillT]; omega
theorem fillT_zero (S : List ByteArray) : fillT S 0 = List.replicate S.length zeroT := by simp [fillT]
theorem fillT_all (S : List ByteArray) : fillT S S.length = S := by simp [fillT]
theorem fillT_set (S : List ByteArray) (j : Nat) (h : j < S.length) : (fillT S j).set j (st S j) = fillT S (j + 1) := by
  rw [st_at S j h]
  apply List.ext_getElem?
  intro i
  by_cases hi : i < S.length
  · rw [List.getElem?_set]
    by_cases hij : j = i
    · subst hij
      rw [if_pos rfl, if_pos (by rw [length_fillT S j (by omega)]; exact h)]
      simp [fillT, List.getElem?_append, show j < min (j + 1) S.length by omega]
    · rw [if_neg hij]
      simp only [fillT, List.getElem?_append, List.length_take]
      by_cases h2 : i < j
      · rw [if_pos (by omega), if_pos (by omega)]; simp [h2, show i < j + 1 by omega]
      · rw [if_neg (by omega), if_neg (by omega)]
        rw [List.getElem?_replicate, List.getElem?_replicate, if_pos (by omega), if_pos (by omega)]
  · rw [List.getElem?_eq_none (by rw [List.length_set, length_fillT S j (by omega)]; omega), List.getElem?_eq_none (by rw [length_fillT S (j + 1) (by omega)]; omega)]

theorem toStringS_any (a : Option Addr) (cap : Nat) (S : List ByteArray) (w : World) (hr : StrRd w w.heap.size a S) (hl : S.length ≤ 1048576) :
    Calls Try.prog 41 #[.slice a S.length cap] w fun e w' => e = .returned (.slice (some ⟨w.heap.size, 0, none⟩) S.length S.length) ∧ HoldsT w' w.heap.size S ∧ Below w.heap.size w w' ∧ w.heap.size < w'.heap.size := by
  have HR := hide hr
  clear hr
  obtain ⟨n, hn⟩ : ∃ n, n = S.length := ⟨_, rfl⟩
  have HN := hide hn
  rw [← hn] at hl
  rw [← hn]
  clear hn
  have hmk := run_makeT n (by omega) w
  go_enter Try.func41, Try.ntmps41
  go_wp2_with fail
  clear hmk
  go_loopw [4] (fun i wr => ∃ j : Nat, i = .int .i64 j ∧ j ≤ n ∧ Hid (HoldsT wr w.heap.size (fillT S j)) ∧ Hid (Below w.heap.size w wr) ∧ w.heap.size < wr.heap.size) (fun i _ => n - (intOf i).toNat)
  case atStart =>
    refine ⟨0, rfl, by omega, ?_, (Below.refl _ _).alloc (Nat.le_refl _) _, by simp⟩
    show HoldsT _ _ _
    rw [fillT_zero, ← HN.out]
    exact HoldsT.new w _
  case round =>
    obtain ⟨j, rfl, hj, HH, HB, hsz⟩ := hrel
    by_cases hlt : j < n
    · have hjL : j < S.length := by rw [← HN.out]; exact hlt
      obtain ⟨b, off, rfl, hb, hcell⟩ := HR.out (by omega)
      have d0 := (HB.out.cell (p := ⟨b, off + j, none⟩) hb).trans (hcell j hjL)
      have HJ := hide hjL
      clear hcell hjL
      have hlf : j < (fillT S j).length := by rw [length_fillT S j (by have := HJ.out; omega)]; exact HJ.out
      have f0 := HH.out.cells j hlf
      have g0 := HH.out.frozen j
      go_wp2_with fail
      go_roundw
      case rel =>
        refine ⟨j + 1, by go_num, by omega, ?_, HB.out.setCell (Nat.le_refl _) _, by simpa using hsz⟩
        show HoldsT _ _ _
        rw [← fillT_set S j HJ.out]
        exact HH.out.set j (st S j)
      case measure => simp [intOf]; omega
    · have HJ := hide (show fillT S j = S by rw [show j = S.length by rw [← HN.out]; omega, fillT_all])
      go_wp2_with fail
      go_ret
      exact ⟨rfl, by rw [← HJ.out]; exact HH.out, HB.out, hsz⟩

def ToPost (w : World) (S : List ByteArray) (L : List Slot) (x : Int) (e : Ending) (w' : World) : Prop :=
  ∃ g h, e = .returned (.agg #[.slice (some ⟨g, 0, none⟩) S.length S.length, .slice (some ⟨h, 0, none⟩) L.length L.length, .int .i64 x]) ∧ w.heap.size ≤ g ∧ g < h ∧ h < w'.heap.size ∧ HoldsT w' g S ∧ HoldsS w' h L ∧ Below w.heap.size w w'

theorem three_boxes (T T' : TypeId) (w : World) (v0 v1 v2 u0 u1 u2 : Value) : ∃ W, W = ((w.alloc (.cells #[v0, v1, v2] T)).alloc (.cells #[u0, u1, u2] T')).alloc (.cells #[u0, u1, u2] T') ∧ W.heap.size = w.heap.size + 1 + 1 + 1 ∧ Below w.heap.size w W ∧
    BoxB T W w.heap.size v0 v1 v2 ∧ BoxB T' W (w.heap.size + 1) u0 u1 u2 ∧ BoxB T' W (w.heap.size + 1 + 1) u0 u1 u2 := by
  refine ⟨_, rfl, by simp, (((Below.refl _ _).alloc (Nat.le_refl _) _).alloc (by simp) _).alloc (by simp <;> omega) _, ((BoxB.new _ w _ _ _).alloc _).alloc _, ?_, ?_⟩
  · have := (BoxB.new T' (w.alloc (.cells #[v0, v1, v2] T)) u0 u1 u2).alloc (.cells #[u0, u1, u2] T')
    simp only [Go.Deep.nblk_alloc] at this
    exact this
  · have := BoxB.new T' ((w.alloc (.cells #[v0, v1, v2] T)).alloc (.cells #[u0, u1, u2] T')) u0 u1 u2
    simp only [Go.Deep.nblk_alloc] at this
    exact this
theorem res_dev {fn : Func} {p : Tmp} (h : fn.results = #[.cell p 27]) (tmps : Array Value) (w : World) (g : Nat) (ht : tmps.getD p undef = .pointer (some ⟨g, 0, none⟩)) {v0 v1 v2 : Value} (hx : BoxB 27 w g v0 v1 v2) :
    (results fn tmps).run Try.prog w = .ok (.agg #[v0, v1, v2]) w := by
  obtain ⟨c0, c1, c2⟩ := hx.cells
  rw [Array.getD_eq_getD_getElem?] at ht
  simp only [results, h]
  simp [ht, go_sem, c0, c1, c2]
theorem res_dev_tmp {fn : Func} {p u : Tmp} (h : fn.results = #[.cell p 27, .tmp u]) (tmps : Array Value) (w : World) (g : Nat) (ht : tmps.getD p undef = .pointer (some ⟨g, 0, none⟩)) {v0 v1 v2 : Value} (hx : BoxB 27 w g v0 v1 v2) :
    (results fn tmps).run Try.prog w = .ok (.tuple #[.agg #[v0, v1, v2], tmps.getD u undef]) w := by
  obtain ⟨c0, c1, c2⟩ := hx.cells
  rw [Array.getD_eq_getD_getElem?] at ht
  simp only [results, h]
  simp [ht, go_sem, c0, c1, c2]

set_option maxHeartbeats 1000000 in
theorem toDev_any (a a' : Option Addr) (cap cap' : Nat) (S : List ByteArray) (L : List Slot) (x : Int) (w : World) (hs : StrRd w w.heap.size a S) (hsl : S.length ≤ 1048576) (hr : SlotRd w w.heap.size a' L) (hl : L.length ≤ 1048576) :
    Calls Try.prog 19 #[.agg #[.slice a S.length cap, .slice a' L.length cap', .int .i64 x]] w (ToPost w S L x) := by
  have HS := hide hs
  have HSL := hide hsl
  have HR := hide hr
  have HL := hide hl
  clear hr hl hs hsl
  obtain ⟨W, hW, hWs, hWb, hX, hY, hZ⟩ := three_boxes 43 27 w (.slice a S.length cap) (.slice a' L.length cap') (.int .i64 x) (.slice none 0 0) (.slice none 0 0) (.int .i64 0)
  go_enter Try.func19, Try.ntmps19
  go_wp2_with fail
  rw [← hW]
  have HX := hide hX
  have HY := hide hY
  have HZ := hide hZ
  have HWb := hide hWb
  clear hW hX hY hZ hWb
  refine (toStringS_any a cap S _ ((HS.out.below HWb.out (Nat.le_refl _)).mono (by omega)) HSL.out).mono ?_
  rw [hWs]
  rintro e w1 ⟨rfl, hh1, hb1, hz1⟩
  have hb1' : Below W.heap.size W w1 := by rw [hWs]; exact hb1
  have HX1 := hide (HX.out.below hb1' HX.out.lt)
  have HY1 := hide (HY.out.below hb1' HY.out.lt)
  have HZ1 := hide (HZ.out.below hb1' HZ.out.lt)
  have HB1 := hide (HWb.out.trans (hb1'.mono HWb.out.size))
  have HT1 := hide hh1
  clear hb1 hb1' hh1 HX HY HZ HWb hWs HS
  obtain ⟨x0, x1, x2⟩ := HX1.out.cells
  obtain ⟨z0, z1, z2⟩ := HZ1.out.cells
  obtain ⟨f0, f1, f2⟩ := HZ1.out.frozen
  have hs1 := HB1.out.size
  obtain ⟨W2, hW2⟩ : ∃ W2, W2 = w1.setCell ⟨w.heap.size + 1 + 1, 0, none⟩ (.slice (some ⟨w.heap.size + 1 + 1 + 1, 0, none⟩) S.length S.length) := ⟨_, rfl⟩
  have HX2 := hide (show BoxB 43 W2 w.heap.size _ _ _ from hW2 ▸ HX1.out.set_other (by simp <;> omega) _)
  have HY2 := hide (show BoxB 27 W2 (w.heap.size + 1) _ _ _ from hW2 ▸ HY1.out.set_other (by simp) _)
  have HZ2 := hide (show BoxB 27 W2 (w.heap.size + 1 + 1) _ _ _ from hW2 ▸ HZ1.out.set0 _)
  have HT2 := hide (show HoldsT W2 (w.heap.size + 1 + 1 + 1) S from hW2 ▸ HT1.out.set_other (by simp) _)
  have HB2 := hide (show Below w.heap.size w W2 from hW2 ▸ HB1.out.setCell (by simp <;> omega) _)
  have hs2 : W2.heap.size = w1.heap.size := by rw [hW2]; simp
  go_wp2_with fail
  rw [← hW2]
  clear hW2 HX1 HY1 HZ1 HT1 HB1 x0 x1 x2 z0 z1 z2 f0 f1 f2
  refine (toPutS_any a' cap' L _ ((HR.out.below HB2.out (Nat.le_refl _)).mono HB2.out.size) HL.out).mono ?_
  rintro e w3 ⟨rfl, hh3, hb3, hz3⟩
  have HX3 := hide (HX2.out.below hb3 HX2.out.lt)
  have HY3 := hide (HY2.out.below hb3 HY2.out.lt)
  have HZ3 := hide (HZ2.out.below hb3 HZ2.out.lt)
  have HT3 := hide (HT2.out.below hb3 (by omega))
  have HB3 := hide (HB2.out.trans (hb3.mono HB2.out.size))
  rw [hs2] at hh3 hz3
  have HH3 := hide hh3
  clear hb3 hh3 HX2 HY2 HZ2 HT2 HB2
  obtain ⟨x0, x1, x2⟩ := HX3.out.cells
  obtain ⟨y0, y1, y2⟩ := HY3.out.cells
  obtain ⟨z0, z1, z2⟩ := HZ3.out.cells
  obtain ⟨f0, f1, f2⟩ := HZ3.out.frozen
  obtain ⟨k0, k1, k2⟩ := HY3.out.frozen
  go_wp2_with fail
  have n1 : (w.heap.size + 1 + 1) ≠ w.heap.size + 1 := by omega
  refine bodyPost_ret (res_dev rfl _ _ (w.heap.size + 1) rfl (((((HY3.out.set_other n1 _).set_other n1 _).set0 _).set1 _).set2 _)) rfl ?_
  refine ⟨w.heap.size + 1 + 1 + 1, w1.heap.size, rfl, by omega, by omega, by simpa using hz3, ?_, ?_, ?_⟩
  · exact ((((HT3.out.set_other (by simp) _).set_other (by simp) _).set_other (by simp) _).set_other (by simp) _).set_other (by simp) _
  · have hne : ∀ k, k ≤ w.heap.size + 1 + 1 → k ≠ w1.heap.size := fun k hk => by omega
    exact ((((HH3.out.set_other (hne _ (Nat.le_refl _)) _).set_other (hne _ (Nat.le_refl _)) _).set_other (hne _ (Nat.le_succ _)) _).set_other (hne _ (Nat.le_succ _)) _).set_other (hne _ (Nat.le_succ _)) _
  · exact ((((HB3.out.setCell (by simp <;> omega) _).setCell (by simp <;> omega) _).setCell (by simp) _).setCell (by simp) _).setCell (by simp) _
end Go.Proofs.Ytnbaffdonbnocaa
