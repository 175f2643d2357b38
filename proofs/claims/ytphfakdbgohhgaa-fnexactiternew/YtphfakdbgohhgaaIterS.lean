/-
  Contracts of spec.l14Copy and spec.IterNew.
-/
import Derived.Test.YtphfakdbgohhgaaIterT
import Derived.Deep.RegionHeld3
namespace Go.Proofs.Ytphfakdbgohhgaa
open Go.ChangeShapes Go.WideShapes Go.ChangeAt Go.RowKit

set_option maxHeartbeats 1000000 in
theorem sCopy_any (B : Nat) (a : Option Addr) (cap : Nat) (x : ItE) (w : World) (hO : elKV.Owns B w (.slice a x.1.length cap) x.1) (hl : x.1.length ≤ 2097152) :
    Calls Try.prog 75 #[itV (.slice a x.1.length cap) x] w (ItPost w x) := by
  obtain ⟨L, f, t, i⟩ := x
  dsimp only at *
  have HO := hide hO
  obtain ⟨n, hn⟩ : ∃ n, n = L.length := ⟨_, rfl⟩
  have HN := hide hn.symm
  rw [← hn] at hl HO ⊢
  have P1 : ∀ o1 o2, Hid (elKV.Owns (w.heap.size + 1 + 1) (((w.alloc o1).alloc o2).alloc (.cells #[] 41)) (.slice (some ⟨w.heap.size + 1 + 1, 0, none⟩) 0 0) []) := fun o1 o2 => by
    have h := El.Owns.lit (e := elKV) (w.heap.size + 1 + 1) ((w.alloc o1).alloc o2) [] #[] 0 rfl rfl (by simp) (by simp [maxLen])
    rw [Go.Deep.nblk_alloc, Go.Deep.nblk_alloc] at h
    exact h
  have P2 : ∀ o1 o2 o3, Hid (elKV.Src (((w.alloc o1).alloc o2).alloc o3) (.slice a n cap) L) := fun o1 o2 o3 => ((HO.out.src.alloc o1).alloc o2).alloc o3
  have P4 : ∀ o1 o2 o3, w.heap.size + 1 + 1 ≤ (((w.alloc o1).alloc o2).alloc o3).heap.size := fun o1 o2 o3 => by simp
  have HBX := hide (fun (A B : Array Value) o3 W (h : Below (w.heap.size + 1 + 1) (((w.alloc (.cells A 56)).alloc (.cells B 56)).alloc o3) W) => two_boxV (T := 56) (U := 56) (A := A) (B := B) (w := w) (w1 := W) (by
    have h3 := (Below.refl (w.heap.size + 1 + 1) ((w.alloc (.cells A 56)).alloc (.cells B 56))).alloc (by simp) o3
    rw [Go.Deep.nblk_alloc, Go.Deep.nblk_alloc]
    exact h3.trans h))
  clear hO hn
  go_enter Try.func75, Try.ntmps75
  go_wp2_with (at_builtin; go_loud (refine El.appendSrc (e := elKV) rfl (.tmp 3) (.tmp 5) 37 rfl Try.underlying37 _ _ infoKV rfl (by decide) (by decide) (w.heap.size + 1 + 1) _ _ _ _ [] L rfl rfl (P1 _ _) (P2 _ _ _) (hide (Below.refl _ _)) (P4 _ _ _) L n rfl HN.out (by omega) ?_); intro a6 c6 w6 HO6 HB6 hz6 _; obtain ⟨k1, k2, k3⟩ := HBX.out _ _ _ _ HB6.out; obtain ⟨c0, c1, c2, c3⟩ := k1.four'; have z0 := k1.frozen 0; have hl1 := k1.lt; obtain ⟨d0, d1, d2, d3⟩ := k2.four'; have y0 := k2.frozen 0; have y1 := k2.frozen 1; have y2 := k2.frozen 2; have y3 := k2.frozen 3; have hl2 := k2.lt; have HX1 := hide k1; have HX2 := hide k2; have HB7 := hide k3; clear k1 k2 k3)
  refine bodyPost_ret (res_it rfl _ _ (w.heap.size + 1) rfl ((HX2.out.set_other (by simp) _).all4 _ _ _ _)) rfl ?_
  refine ⟨_, rfl, ?_, below_four (HB7.out.setCell (Nat.le_refl _) _) (by omega) _ _ _ _⟩
  exact El.Owns.mono (B := w.heap.size + 1 + 1) (((((HO6.out.set_other (by simp; omega) _).set_other (by simp) _).set_other (by simp) _).set_other (by simp) _).set_other (by simp) _) (by omega)
end Go.Proofs.Ytphfakdbgohhgaa
