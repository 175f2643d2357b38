/-
  Contracts of impl.IterNew, of moved and cursor, and of the two iterators over a list's places.
-/
import Derived.RangeFuncNested
import Derived.RangeFuncBound
import Derived.RangeFuncCalls
import Derived.RangeFuncLeaves
import Derived.Shelf.Abstract
import Derived.Shelf.RegionOpen
import Derived.WalkKit
import Derived.OwnWalkIn
import Derived.TacticsInMore
import Derived.LoopNIn
import Derived.LoopIn
import Derived.Test.YtphfakdbgohhgaaIterH
namespace Go.Proofs.Ytphfakdbgohhgaa
open Go.ChangeShapes Go.WideShapes Go.ChangeAt Go.RowKit Go.Shelf
attribute [local go_sem] Oper.semAt_some

section
set_option maxHeartbeats 1000000 in
theorem iIterNew_any (B : Nat) (a : Option Addr) (cap : Nat) (L : List KV) (f t : ByteArray) (w : World) (hO : elKV.Owns B w (.slice a L.length cap) L) (hl : L.length ≤ 2097152) :
    Calls Try.prog 39 #[.slice a L.length cap, .string f, .string t] w (NewPost w (newV L f t)) := by
  have HO := hide hO
  have HOK := hide (fun W (h : elKV.Owns B W (.slice a L.length cap) L) => iMapOk_any a cap L W (owns_rdK h) hl)
  have HCP := hide (fun W (h : elKV.Owns B W (.slice a L.length cap) L) => cloneKv_any B (.slice a L.length cap) L W h hl)
  unfold KvPost at HCP
  obtain ⟨n, hn⟩ : ∃ n, n = L.length := ⟨_, rfl⟩
  have HN := hide hn.symm
  rw [← hn] at hl HO HOK HCP ⊢
  have hal := fun o => (Below.refl w.heap.size w).alloc (Nat.le_refl _) o
  by_cases hk : mapOk L
  · have HV := hide (show newV L f t = ((L, f, t, -1), true) from if_pos hk)
    rw [decide_eq_true hk] at HOK
    clear hO hn hk
    go_enter Try.func39, Try.ntmps39
    go_wp2_with fail
    refine (HOK.out _ (HO.out.alloc _)).mono ?_
    rintro e w1 ⟨rfl, hb1⟩
    have HX1 := hide ((BoxV.new 56 w #[.slice none 0 0, .string ⟨#[]⟩, .string ⟨#[]⟩, .int .i64 0]).below hb1 (by simp))
    have HO1 := hide ((HO.out.alloc _).below hb1 (Nat.le_refl _))
    have HB1 := hide ((hal _).trans (hb1.mono (by simp)))
    clear hb1 hal HO HOK
    go_wp2_with fail
    refine (HCP.out _ HO1.out).mono ?_
    rintro e w2 ⟨v, rfl, ho2, hb2⟩
    obtain ⟨a2, d2, rfl, _⟩ := ho2.form
    have HX2 := hide (HX1.out.below hb2 HX1.out.lt)
    have hl1 := HX1.out.lt
    have HB2 := hide (HB1.out.trans (hb2.mono HB1.out.size))
    have HO2 := hide ho2
    obtain ⟨c0, c1, c2, c3⟩ := HX2.out.four'
    have z0 := HX2.out.frozen 0
    have z1 := HX2.out.frozen 1
    have z2 := HX2.out.frozen 2
    have z3 := HX2.out.frozen 3
    have hl2 := HX2.out.lt
    have hw1 := HB1.out.size
    clear ho2 hb2 HX1 HB1 HO1 HCP
    go_wp2_with fail
    rw [HV.out]
    refine bodyPost_ret (res_itb rfl _ _ w.heap.size rfl (HX2.out.all4 _ _ _ _)) rfl ?_
    exact ⟨_, rfl, El.Owns.mono ((((HO2.out.set_other hl1 _).set_other hl1 _).set_other hl1 _).set_other hl1 _) hw1, below_four HB2.out (Nat.le_refl _) _ _ _ _⟩
  · have HV := hide (show newV L f t = (zeroIt, false) from if_neg hk)
    rw [decide_eq_false hk] at HOK
    clear hO hn hk
    go_enter Try.func39, Try.ntmps39
    go_wp2_with fail
    refine (HOK.out _ (HO.out.alloc _)).mono ?_
    rintro e w1 ⟨rfl, hb1⟩
    have HX2 := hide ((BoxV.new 56 w #[.slice none 0 0, .string ⟨#[]⟩, .string ⟨#[]⟩, .int .i64 0]).below hb1 (by simp))
    have HB2 := hide ((hal _).trans (hb1.mono (by simp)))
    obtain ⟨c0, c1, c2, c3⟩ := HX2.out.four'
    have z0 := HX2.out.frozen 0
    have z1 := HX2.out.frozen 1
    have z2 := HX2.out.frozen 2
    have z3 := HX2.out.frozen 3
    have hl2 := HX2.out.lt
    clear hb1 hal HO HOK
    go_wp2_with fail
    rw [HV.out]
    refine bodyPost_ret (res_itb rfl _ _ w.heap.size rfl (HX2.out.all4 _ _ _ _)) rfl ?_
    exact ⟨_, rfl, El.Owns.nil _ _, below_four HB2.out (Nat.le_refl _) _ _ _ _⟩

theorem moved_any (B : Nat) (a : Option Addr) (cap : Nat) (L : List KV) (f t : ByteArray) (i p : Int) (w : World) (hO : elKV.Owns B w (.slice a L.length cap) L) (hl : L.length ≤ 2097152) :
    Calls Try.prog 97 #[itV (.slice a L.length cap) (L, f, t, i), .int .i64 p] w (ItPost w (L, f, t, p)) := by
  have HO := hide hO
  have HCP := hide (fun W (h : elKV.Owns B W (.slice a L.length cap) L) => cloneKv_any B (.slice a L.length cap) L W h hl)
  unfold KvPost at HCP
  obtain ⟨n, hn⟩ : ∃ n, n = L.length := ⟨_, rfl⟩
  have HN := hide hn.symm
  rw [← hn] at hl HO HCP ⊢
  obtain ⟨W0, hW0⟩ : ∃ W0, W0 = (w.alloc (.cells #[.slice a n cap, .string f, .string t, .int .i64 i] 56)).alloc (.cells #[.slice none 0 0, .string ⟨#[]⟩, .string ⟨#[]⟩, .int .i64 0] 56) := ⟨_, rfl⟩
  have HO0 := hide (show elKV.Owns B W0 _ L from hW0 ▸ (HO.out.alloc _).alloc _)
  have HX0 := hide (show BoxV 56 W0 w.heap.size #[.slice a n cap, .string f, .string t, .int .i64 i] from hW0 ▸ (BoxV.new _ w _).alloc _)
  have HY0 := hide (show BoxV 56 W0 (w.heap.size + 1) #[.slice none 0 0, .string ⟨#[]⟩, .string ⟨#[]⟩, .int .i64 0] from by
    have := BoxV.new 56 (w.alloc (.cells #[.slice a n cap, .string f, .string t, .int .i64 i] 56)) #[.slice none 0 0, .string ⟨#[]⟩, .string ⟨#[]⟩, .int .i64 0]
    rw [← hW0, Go.Deep.nblk_alloc] at this
    exact this)
  have HB0 := hide (show Below w.heap.size w W0 from hW0 ▸ ((Below.refl w.heap.size w).alloc (Nat.le_refl _) _).alloc (by simp) _)
  have hz0 : W0.heap.size = w.heap.size + 1 + 1 := by rw [hW0]; simp
  obtain ⟨c0, c1, c2, c3⟩ := HX0.out.four'
  clear hO hn HO
  go_enter Try.func97, Try.ntmps97
  go_wp2_with fail
  rw [← hW0]
  clear hW0 c0 c1 c2 c3
  refine (HCP.out _ HO0.out).mono ?_
  rintro e w1 ⟨v, rfl, ho1, hb1⟩
  obtain ⟨a1, c1, rfl, _⟩ := ho1.form
  have HX1 := hide (HX0.out.below hb1 HX0.out.lt)
  have HY1 := hide (HY0.out.below hb1 HY0.out.lt)
  have HB1 := hide (HB0.out.trans (hb1.mono HB0.out.size))
  have HO1 := hide (show elKV.Owns (w.heap.size + 1 + 1) w1 _ L from by rw [← hz0]; exact ho1)
  obtain ⟨c0, c1', c2, c3⟩ := HX1.out.four'
  have z0 := HX1.out.frozen 0
  have z3 := HX1.out.frozen 3
  have y0 := HY1.out.frozen 0
  have y1 := HY1.out.frozen 1
  have y2 := HY1.out.frozen 2
  have y3 := HY1.out.frozen 3
  obtain ⟨d0, d1, d2, d3⟩ := HY1.out.four'
  have hl1 := HX1.out.lt
  have hl2 := HY1.out.lt
  clear ho1 hb1 HX0 HY0 HB0 HO0 HCP
  go_wp2_with fail
  have hne : w.heap.size ≠ w.heap.size + 1 := by omega
  have q1 : w.heap.size < w.heap.size + 1 + 1 := by omega
  have q2 : w.heap.size + 1 < w.heap.size + 1 + 1 := by omega
  refine bodyPost_ret (res_it rfl _ _ (w.heap.size + 1) rfl (((HY1.out.set_other hne _).set_other hne _).all4 _ _ _ _)) rfl ?_
  exact ⟨_, rfl, El.Owns.mono ((((((HO1.out.set_other q1 _).set_other q1 _).set_other q2 _).set_other q2 _).set_other q2 _).set_other q2 _) (by omega), below_four ((HB1.out.setCell (Nat.le_refl _) _).setCell (Nat.le_refl _) _) (by omega) _ _ _ _⟩

theorem cursor_any (a : Option Addr) (n cap : Nat) (f t : ByteArray) (i : Int) (w : World) :
    Calls Try.prog 80 #[.agg #[.slice a n cap, .string f, .string t, .int .i64 i]] w (fun e w' => e = .returned (.agg #[.slice a n cap, .int .i64 i]) ∧ Below w.heap.size w w') := by
  go_enter Try.func80, Try.ntmps80
  go_wp2
  refine bodyPost_ret (v := .agg #[.slice a n cap, .int .i64 i]) (by simp [results, Try.results80, go_sem]) rfl ⟨rfl, ?_⟩
  exact ((Below.refl w.heap.size w).alloc (Nat.le_refl _) _).alloc (by simp) _

theorem after_any (a : Option Addr) (n cap : Nat) (i : Int) (w : World) :
    Calls Try.prog 81 #[.agg #[.slice a n cap, .int .i64 i]] w (fun e w' => e = .returned (.func (.func 98) #[] #[.pointer (some ⟨w.heap.size, 0, none⟩)]) ∧ w' = w.alloc (.cells #[.slice a n cap, .int .i64 i] 108)) := by
  go_enter Try.func81, Try.ntmps81
  go_wp2
  go_ret
  exact ⟨rfl, rfl⟩
theorem before_any (a : Option Addr) (n cap : Nat) (i : Int) (w : World) :
    Calls Try.prog 82 #[.agg #[.slice a n cap, .int .i64 i]] w (fun e w' => e = .returned (.func (.func 99) #[] #[.pointer (some ⟨w.heap.size, 0, none⟩)]) ∧ w' = w.alloc (.cells #[.slice a n cap, .int .i64 i] 108)) := by
  go_enter Try.func82, Try.ntmps82
  go_wp2
  go_ret
  exact ⟨rfl, rfl⟩
end
end Go.Proofs.Ytphfakdbgohhgaa
