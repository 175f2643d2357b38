/-
  Contracts of (impl.Dev).copySectors and (impl.Dev).clone.
-/
import Derived.Test.YtnbaffdonbnocaaStrT
import Derived.Test.YtnbaffdonbnocaaSlotC
import Derived.Test.YtnbaffdonbnocaaDevM
import Derived.Laws.CopyOwn
import Derived.StillTailTactics
import Derived.Deep.RegionHeld3
namespace Go.Proofs.Ytnbaffdonbnocaa
open Go.ChangeShapes Go.WideShapes Go.ChangeAt Go.RowKit

theorem infoT1 : (Try.prog.info? 9).map (·.size) = some 1 := by kernel_rfl

theorem copySectors_any (B : Nat) (v v' : Value) (S : List ByteArray) (x : Int) (w : World) (hO : OwnsT B w v S) (hl : S.length ≤ 2097152) :
    Calls Try.prog 55 #[.agg #[v, v', .int .i64 x]] w (StrsPost w S) := by
  obtain ⟨a, cap, rfl, hrd, _⟩ := hO.form
  have HR := hide hrd
  clear hO hrd
  obtain ⟨n, hn⟩ : ∃ n, n = S.length := ⟨_, rfl⟩
  have HN := hide hn
  rw [← hn] at hl
  rw [← hn]
  clear hn
  have hB := fun o => (Below.refl w.heap.size w).alloc (Nat.le_refl _) o
  have hmk : ∀ o, (Instr.makeSlice 24 (.int .i64 (n : Int)) (.int .i64 (n : Int))).run Try.prog (w.alloc o) = .ok (.slice (some ⟨w.heap.size + 1, 0, none⟩) n n) ((w.alloc o).alloc (.cells (strVals (List.replicate n zeroT)).toArray 9)) := fun o => by
    rw [run_makeT n (by omega) (w.alloc o)]; simp
  have HH : ∀ o, Hid (((w.alloc o).alloc (.cells (strVals (List.replicate n zeroT)).toArray 9)).heap[w.heap.size + 1]? = some (.cells (strVals (List.replicate n zeroT)).toArray 9 (0, 0))) := fun o => by
    have := HoldsT.new (w.alloc o) (List.replicate n zeroT)
    simp only [Go.Deep.nblk_alloc] at this
    exact this
  have HB2 : ∀ o o2, Below w.heap.size w ((w.alloc o).alloc o2) := fun o o2 => (hB o).alloc (by simp) o2
  have C1 : Hid ((strVals S).length = Nat.min n n) := hide (by rw [length_strVals, ← HN.out]; simp)
  have C2 : ∀ v2, Hid (0 < (strVals S).length → (some ⟨w.heap.size + 1, 0, none⟩ : Option Addr) = some ⟨w.heap.size + 1, 0, none⟩ ∧ ∃ ad, a = some ad ∧ ∀ j u, (strVals S)[j]? = some u → ((w.alloc (.cells #[.slice a n cap, v2, .int .i64 x] 27)).alloc (.cells (strVals (List.replicate n zeroT)).toArray 9)).cell? (ad.add j) = some u) := fun v2 => hide (by
    intro hp
    obtain ⟨b, off, rfl, hb, hc⟩ := HR.out (by rw [length_strVals] at hp; omega)
    refine ⟨rfl, _, rfl, fun j u hj => ?_⟩
    have hjl : j < S.length := by
      have := (List.getElem?_eq_some_iff.1 hj).1
      rw [length_strVals] at this
      omega
    rw [strVals_at S j hjl] at hj
    rw [addr_add, (HB2 _ _).cell (p := ⟨b, off + j, none⟩) hb, hc j hjl]
    exact hj)
  have C3 : Hid (0 + (strVals S).length ≤ (strVals (List.replicate n zeroT)).length) := hide (by rw [length_strVals, length_strVals, List.length_replicate, ← HN.out]; omega)
  have C4 : Hid ((strVals S).length = n) := hide (by rw [length_strVals, ← HN.out]; omega)
  go_enter Try.func55, Try.ntmps55
  go_wp2_with ((with_reducible refine wpList_copy_splice (o := ⟨some 11, _, _, _, _, _⟩) rfl (.tmp 8) (.tmp 10) 24 24 rfl 9 Try.underlying24 infoT1 _ _ _ _ _ _ rfl rfl (w.heap.size + 1) 0 (strVals (List.replicate n zeroT)) 9 (HH _).out (strVals S) C1.out (C2 _).out C3.out (strVals_one S) w.heap.size w (HB2 _ _) (Nat.le_succ _) ?_); intro w2 HG2 hb2; unfold goInt; rw [C4.out])
  have HT2 := hide (show HoldsT w2 (w.heap.size + 1) S from by
    have := HG2.out
    unfold splice at this
    unfold HoldsT
    rw [this, List.take_zero, List.nil_append, Nat.zero_add, List.drop_of_length_le (by rw [length_strVals, length_strVals, List.length_replicate, HN.out]; exact Nat.le_refl _), List.append_nil])
  have HB := hide hb2
  go_ret
  refine ⟨_, rfl, ?_, HB.out⟩
  have := HT2.out.owns (B := w.heap.size) (by omega) (by rw [← HN.out]; unfold maxLen; omega)
  rw [← HN.out] at this
  exact this

/-- what a call hands back: a device in memory of its own -/
def DevPost (w : World) (S : List ByteArray) (L : List Slot) (x : Int) (e : Ending) (w' : World) : Prop :=
  ∃ v v', e = .returned (.agg #[v, v', .int .i64 x]) ∧ OwnsT w.heap.size w' v S ∧ OwnsS w.heap.size w' v' L ∧ Below w.heap.size w w'
theorem two_boxes (w : World) (v0 v1 v2 : Value) : ∃ W, W = (w.alloc (.cells #[v0, v1, v2] 27)).alloc (.cells #[.slice none 0 0, .slice none 0 0, .int .i64 0] 27) ∧ W.heap.size = w.heap.size + 1 + 1 ∧ Below w.heap.size w W ∧
    BoxB 27 W w.heap.size v0 v1 v2 ∧ BoxB 27 W (w.heap.size + 1) (.slice none 0 0) (.slice none 0 0) (.int .i64 0) := by
  refine ⟨_, rfl, by simp, ((Below.refl _ _).alloc (Nat.le_refl _) _).alloc (by simp) _, (BoxB.new _ w _ _ _).alloc _, ?_⟩
  have := BoxB.new 27 (w.alloc (.cells #[v0, v1, v2] 27)) (.slice none 0 0) (.slice none 0 0) (.int .i64 0)
  simp only [Go.Deep.nblk_alloc] at this
  exact this

set_option maxHeartbeats 2000000 in
theorem devClone_any (B B' : Nat) (v v' : Value) (S : List ByteArray) (L : List Slot) (x : Int) (w : World) (hT : OwnsT B w v S) (hsl : S.length ≤ 2097152) (hO : OwnsS B' w v' L) (hl : L.length ≤ 2097152) :
    Calls Try.prog 37 #[.agg #[v, v', .int .i64 x]] w (DevPost w S L x) := by
  obtain ⟨a, cap, rfl, _⟩ := hT.form
  obtain ⟨a', cap', rfl, _⟩ := hO.form
  have HO := hide hO
  have HT := hide hT
  have HL := hide hl
  have HSL := hide hsl
  obtain ⟨n, hn⟩ : ∃ n, S.length = n := ⟨_, rfl⟩
  obtain ⟨m, hm⟩ : ∃ m, L.length = m := ⟨_, rfl⟩
  have HN := hide hn
  have HM := hide hm
  rw [hn] at HT ⊢
  rw [hm] at HO ⊢
  clear hl hO hn hm hT hsl
  obtain ⟨W, hW, hWs, hWb, hX, hY⟩ := two_boxes w (.slice a n cap) (.slice a' m cap') (.int .i64 x)
  go_enter Try.func37, Try.ntmps37
  go_wp2_with fail
  rw [← hW]
  have HX := hide hX
  have HY := hide hY
  have HWb := hide hWb
  have HO1 := hide (HO.out.below hWb (Nat.le_refl _))
  have HT1 := hide (HT.out.below hWb (Nat.le_refl _))
  clear hW hX hY hWb hWs HO HT
  obtain ⟨c0, c1, c2⟩ := HX.out.cells
  go_region_held3 (fun w' => w'.cell? ⟨w.heap.size, 0, none⟩ = some (.slice a n cap) ∧ w'.cell? ⟨w.heap.size, 1, none⟩ = some (.slice a' m cap') ∧ w'.cell? ⟨w.heap.size, 2, none⟩ = some (.int .i64 x))
    (first
      | with_reducible exact HX.out.cells
      | with_reducible exact HX.out.drew.cells
      | with_reducible exact HX2.out.cells
      | with_reducible exact HX3.out.cells
      | with_reducible exact (((HX3.out.set_other (by simp) _).set_other (by simp) _).set_other (by simp) _).cells)
    (first
      | (go_at_call 57; refine (sliceClone_any B' _ L _ HO2.out HL.out).mono ?_; rintro e w3 ⟨v3, rfl, ho3, hb3⟩; obtain ⟨a3, cap3, rfl, _⟩ := ho3.form; rw [HM.out] at ho3 ⊢; have HO3 := hide ho3; have HT3 := hide (HT2.out.below hb3 (Nat.le_refl _)); have HX3 := hide (HX2.out.below hb3 HX2.out.lt); have HY3 := hide (HY2.out.below hb3 HY2.out.lt); have HB3 := hide (HB2.out.trans (hb3.mono HB2.out.size)); clear ho3 hb3; obtain ⟨y0, y1, y2⟩ := HY3.out.cells; obtain ⟨z0, z1, z2⟩ := HY3.out.frozen)
      | (go_at_call 55; refine (copySectors_any B _ _ S x _ (show OwnsT B W.drew _ _ from HT1.out) HSL.out).mono ?_; rintro e w2 ⟨v2, rfl, ho2, hb2⟩; obtain ⟨a2, cap2, rfl, _⟩ := ho2.form; rw [HN.out] at ho2 ⊢; have HT2 := hide ho2; have HB2 := hide (below_of_drew hb2); have HX2 := hide (HX.out.below HB2.out HX.out.lt); have HY2 := hide (HY.out.below HB2.out HY.out.lt); have HO2 := hide (HO1.out.below HB2.out (Nat.le_refl _)); clear ho2 hb2))
  all_goals go_wp2_with fail
  all_goals refine bodyPost_ret (res_dev rfl _ _ (w.heap.size + 1) rfl (((HY3.out.set0 _).set1 _).set2 _)) rfl ?_
  all_goals refine ⟨_, _, rfl, ?_, ?_, HWb.out.trans ((((HB3.out.mono HWb.out.size).setCell (by simp) _).setCell (by simp) _).setCell (by simp) _)⟩
  all_goals first
    | exact (((HT3.out.set_other (show _ < _ from HY.out.lt) _).set_other (show _ < _ from HY.out.lt) _).set_other (show _ < _ from HY.out.lt) _).mono HWb.out.size
    | exact (((HO3.out.set_other (show _ < _ from HY2.out.lt) _).set_other (show _ < _ from HY2.out.lt) _).set_other (show _ < _ from HY2.out.lt) _).mono (Nat.le_trans HWb.out.size HB2.out.size)
end Go.Proofs.Ytnbaffdonbnocaa
