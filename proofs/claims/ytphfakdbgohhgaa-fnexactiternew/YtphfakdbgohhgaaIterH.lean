/-
  Contract of spec.IterNew.
-/
import Derived.Test.YtphfakdbgohhgaaIterG
namespace Go.Proofs.Ytphfakdbgohhgaa
open Go.ChangeShapes Go.WideShapes Go.ChangeAt Go.RowKit

theorem owns_rdK {α : Type} {e : El α} {B n c : Nat} {w : World} {a : Option Addr} {L : List α} (h : e.Owns B w (.slice a n c) L) : e.Rd w w.heap.size a L := by
  obtain ⟨a', c', e1, h1, _⟩ := h.form
  injection e1 with e1 _ _
  rw [e1]
  exact h1
set_option maxHeartbeats 1000000 in
theorem sIterNew_any (B : Nat) (a : Option Addr) (cap : Nat) (L : List KV) (f t : ByteArray) (w : World) (hO : elKV.Owns B w (.slice a L.length cap) L) (hl : L.length ≤ 2097152) :
    Calls Try.prog 37 #[.slice a L.length cap, .string f, .string t] w (NewPost w (newV L f t)) := by
  have HO := hide hO
  have HOK := hide (fun W (h : elKV.Owns B W (.slice a L.length cap) L) => sMapOk_any a cap L W (owns_rdK h) hl)
  have HCP := hide (fun W (h : elKV.Owns B W (.slice a L.length cap) L) => sCopy_any B a cap (L, f, t, -1) W h hl)
  unfold ItPost itV at HCP
  dsimp only at HCP
  obtain ⟨n, hn⟩ : ∃ n, n = L.length := ⟨_, rfl⟩
  have HN := hide hn.symm
  rw [← hn] at hl HO HOK HCP ⊢
  have hal := fun o => (Below.refl w.heap.size w).alloc (Nat.le_refl _) o
  by_cases hk : mapOk L
  · have HV := hide (show newV L f t = ((L, f, t, -1), true) from if_pos hk)
    rw [decide_eq_true hk] at HOK
    clear hO hn hk
    go_enter Try.func37, Try.ntmps37
    go_wp2_with fail
    refine (HOK.out _ (HO.out.alloc _)).mono ?_
    rintro e w1 ⟨rfl, hb1⟩
    have HX1 := hide ((BoxV.new 56 w #[.slice none 0 0, .string ⟨#[]⟩, .string ⟨#[]⟩, .int .i64 0]).below hb1 (by simp))
    have HO1 := hide ((HO.out.alloc _).below hb1 (Nat.le_refl _))
    have HB1 := hide ((hal _).trans (hb1.mono (by simp)))
    clear hb1 hal HO HOK
    go_wp2_with fail
    refine (HCP.out _ HO1.out).mono ?_
    rintro e w2 ⟨v, rfl, ho2, hb2⟩
    obtain ⟨a2, d2, rfl, _⟩ := ho2.form
    have HX2 := hide (HX1.out.below hb2 HX1.out.lt)
    have hl1 := HX1.out.lt
    have HB2 := hide (HB1.out.trans (hb2.mono HB1.out.size))
    have HO2 := hide ho2
    obtain ⟨c0, c1, c2, c3⟩ := HX2.out.four'
    have z0 := HX2.out.frozen 0
    have z1 := HX2.out.frozen 1
    have z2 := HX2.out.frozen 2
    have z3 := HX2.out.frozen 3
    have hl2 := HX2.out.lt
    have hw1 := HB1.out.size
    clear ho2 hb2 HX1 HB1 HO1 HCP
    go_wp2_with fail
    rw [HV.out]
    refine bodyPost_ret (res_itb rfl _ _ w.heap.size rfl (HX2.out.all4 _ _ _ _)) rfl ?_
    exact ⟨_, rfl, El.Owns.mono ((((HO2.out.set_other hl1 _).set_other hl1 _).set_other hl1 _).set_other hl1 _) hw1, below_four HB2.out (Nat.le_refl _) _ _ _ _⟩
  · have HV := hide (show newV L f t = (zeroIt, false) from if_neg hk)
    rw [decide_eq_false hk] at HOK
    clear hO hn hk
    go_enter Try.func37, Try.ntmps37
    go_wp2_with fail
    refine (HOK.out _ (HO.out.alloc _)).mono ?_
    rintro e w1 ⟨rfl, hb1⟩
    have HX2 := hide ((BoxV.new 56 w #[.slice none 0 0, .string ⟨#[]⟩, .string ⟨#[]⟩, .int .i64 0]).below hb1 (by simp))
    have HB2 := hide ((hal _).trans (hb1.mono (by simp)))
    obtain ⟨c0, c1, c2, c3⟩ := HX2.out.four'
    have z0 := HX2.out.frozen 0
    have z1 := HX2.out.frozen 1
    have z2 := HX2.out.frozen 2
    have z3 := HX2.out.frozen 3
    have hl2 := HX2.out.lt
    clear hb1 hal HO HOK
    go_wp2_with fail
    rw [HV.out]
    refine bodyPost_ret (res_itb rfl _ _ w.heap.size rfl (HX2.out.all4 _ _ _ _)) rfl ?_
    exact ⟨_, rfl, El.Owns.nil _ _, below_four HB2.out (Nat.le_refl _) _ _ _ _⟩
/-- an answer that has come: the iterator in block g, the element in the next -/
def MvK (s g : Nat) (v0 v1 v2 v3 u0 u1 : Value) (W : World) : Prop := (BoxV 56 W g #[v0, v1, v2, v3] ∧ BoxV 41 W (g + 1) #[u0, u1]) ∧ s + 1 + 1 < g
section
variable {s g : Nat} {v0 v1 v2 v3 u0 u1 : Value} {W : World}
theorem MvK.new (w : World) (s : Nat) (v0 v1 v2 v3 u0 u1 : Value) (hs : s + 1 + 1 < w.heap.size) : MvK s w.heap.size v0 v1 v2 v3 u0 u1 ((w.alloc (.cells #[v0, v1, v2, v3] 56)).alloc (.cells #[u0, u1] 41)) := by
  obtain ⟨h1, h2, _⟩ := two_boxV (w := w) (T := 56) (U := 41) (A := #[v0, v1, v2, v3]) (B := #[u0, u1]) (Below.refl _ _)
  exact ⟨⟨h1, h2⟩, hs⟩
theorem MvK.s8 (h : MvK s g v0 v1 v2 v3 u0 u1 W) (x0 x1 x2 x3 : Value) : MvK s g v0 v1 v2 v3 u0 u1 ((((W.setCell ⟨s + 1, 0, none⟩ x0).setCell ⟨s + 1, 1, none⟩ x1).setCell ⟨s + 1, 2, none⟩ x2).setCell ⟨s + 1, 3, none⟩ x3) := by
  have h1 := h.2
  have n1 : s + 1 ≠ g := by omega
  have n2 : s + 1 ≠ g + 1 := by omega
  exact ⟨⟨(((h.1.1.set_other n1 _).set_other n1 _).set_other n1 _).set_other n1 _, (((h.1.2.set_other n2 _).set_other n2 _).set_other n2 _).set_other n2 _⟩, h1⟩
theorem MvK.s9 (h : MvK s g v0 v1 v2 v3 u0 u1 W) (x0 x1 : Value) : MvK s g v0 v1 v2 v3 u0 u1 ((W.setCell ⟨s + 1 + 1, 0, none⟩ x0).setCell ⟨s + 1 + 1, 1, none⟩ x1) := by
  have h1 := h.2
  have n1 : s + 1 + 1 ≠ g := by omega
  have n2 : s + 1 + 1 ≠ g + 1 := by omega
  exact ⟨⟨(h.1.1.set_other n1 _).set_other n1 _, (h.1.2.set_other n2 _).set_other n2 _⟩, h1⟩
theorem MvK.sel (h : MvK s g v0 v1 v2 v3 u0 u1 W) : (W.drew.cell? ⟨g, 0, none⟩ = some v0 ∧ W.drew.cell? ⟨g, 1, none⟩ = some v1 ∧ W.drew.cell? ⟨g, 2, none⟩ = some v2 ∧ W.drew.cell? ⟨g, 3, none⟩ = some v3) ∧ (W.drew.cell? ⟨g + 1, 0, none⟩ = some u0 ∧ W.drew.cell? ⟨g + 1, 1, none⟩ = some u1) := ⟨h.1.1.drew.four', h.1.2.drew.two'⟩
end
end Go.Proofs.Ytphfakdbgohhgaa
