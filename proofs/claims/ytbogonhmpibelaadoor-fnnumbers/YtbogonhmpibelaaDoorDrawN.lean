/-
  Contracts of spec.l1PickInt and l1Num.
-/
import Derived.Test.YtbogonhmpibelaaDoorDrawB
namespace Go.Proofs.YtbogonhmpibelaaDoor
open Go.ChangeShapes Go.WideShapes Go.ChangeAt Go.RowKit

theorem l1PickInt_any {B g : Nat} {a : Option Addr} {cap : Nat} {bs : List Int} {w : World} {c : Cu} (N n : Nat) (zs : List Int) (h0 : 0 < n) (hn : n ≤ 1048576) (hN : N < w.heap.size) (hg : N ≠ g)
    (hcell : ∀ j, j < n → w.cell? ⟨N, j, none⟩ = some (.int .i64 (zs[j]?.getD 0))) (h : Cursor B g a cap bs w c) :
    Calls Tryd.prog 32 #[.pointer (some ⟨g, 0, none⟩), .slice (some ⟨N, 0, none⟩) n n] w (Drew B g a cap bs w (.int .i64 (zs[(cBelow bs n c).toNat]?.getD 0)) (aBelow bs n c)) := by
  have H := hide h
  have HC := hide hcell
  have hb := cBelow_bd bs n c (by omega)
  clear h hcell
  go_enter Tryd.func32, Tryd.ntmps32
  go_wp2_with (go_at_call 31; refine (l1Below_any (n : Int) (by omega) H.out).mono ?_; rintro e w1 ⟨rfl, hc1, ht1⟩; have hx := (ht1.cell (p := ⟨N, (cBelow bs n c).toNat, none⟩) hN hg).trans (HC.out _ (by omega)); have HC1 := hide hc1; have HT1 := hide ht1; clear hc1 ht1)
  go_ret
  exact ⟨rfl, HC1.out, HT1.out⟩

set_option maxHeartbeats 1000000 in
set_option maxRecDepth 20000 in
theorem l1Num_any {B g : Nat} {a : Option Addr} {cap : Nat} {bs : List Int} {w : World} {c : Cu} (h : Cursor B g a cap bs w c) :
    Calls Tryd.prog 21 #[.pointer (some ⟨g, 0, none⟩)] w (Drew B g a cap bs w (.int .i64 (cNum bs c)) (aNum bs c)) := by
  have H := hide h
  clear h
  have hb8 := cBelow_bd bs 8 c (by omega)
  have EC := hide (cNum.eq_def bs c)
  have EA := hide (aNum.eq_def bs c)
  by_cases k0 : cBelow bs 8 c = 0
  · rw [if_pos k0] at EC EA
    have t0 : (cBelow bs 8 c == 0) = true := by rw [beq_iff_eq]; exact k0
    clear k0
    go_enter Tryd.func21, Tryd.ntmps21
    go_wp2_with fail
    refine (l1Below_any 8 (by omega) H.out).mono ?_
    rintro e w1 ⟨rfl, hc1, ht1⟩
    have HC1 := hide hc1
    have HT1 := hide ht1
    have hlt := hc1.lt
    clear hc1 ht1
    go_wp2_with fail
    refine (l1PickInt_any (c := aBelow bs 8 c) w1.heap.size 17 pickL (by omega) (by omega) (by simp) (by omega) (fun j hj => ints_new 3 w1 pickL j hj) (HC1.out.keep ((Below.refl _ _).alloc hlt _))).mono ?_
    rintro e w2 ⟨rfl, hc2, ht2⟩
    have HC2 := hide hc2
    have HT2 := hide ht2
    clear hc2 ht2
    go_wp2
    go_ret
    exact ⟨by rw [EC.out]; rfl, by rw [EA.out]; exact HC2.out, (HT1.out.alloc _).trans HT2.out⟩
  · rw [if_neg k0] at EC EA
    have t0 : (cBelow bs 8 c == 0) = false := by rw [beq_eq_false_iff_ne]; exact k0
    clear k0
    by_cases k1 : cBelow bs 8 c = 1
    · rw [if_pos k1] at EC EA
      have t1 : (cBelow bs 8 c == 1) = true := by rw [beq_iff_eq]; exact k1
      clear k1
      have h1 := cBelow_bd bs 1000000000 (aBelow bs 8 c) (by omega)
      have h2 := cBelow_bd bs 1000000000 (aBelow bs 1000000000 (aBelow bs 8 c)) (by omega)
      have hm := mul_bd _ _ h1.1 h1.2 h2.1 h2.2
      go_enter Tryd.func21, Tryd.ntmps21
      go_wp2_with fail
      refine (l1Below_any 8 (by omega) H.out).mono ?_
      rintro e w1 ⟨rfl, hc1, ht1⟩
      have HC1 := hide hc1
      have HT1 := hide ht1
      clear hc1 ht1
      go_wp2_with fail
      refine (l1Below_any 1000000000 (by omega) HC1.out).mono ?_
      rintro e w2 ⟨rfl, hc2, ht2⟩
      have HC2 := hide hc2
      have HT2 := hide ht2
      clear hc2 ht2
      go_wp2_with fail
      refine (l1Below_any 1000000000 (by omega) HC2.out).mono ?_
      rintro e w3 ⟨rfl, hc3, ht3⟩
      have HC3 := hide hc3
      have HT3 := hide ht3
      clear hc3 ht3
      go_wp2
      go_ret
      exact ⟨by rw [EC.out]; rfl, by rw [EA.out]; exact HC3.out, (HT1.out.trans HT2.out).trans HT3.out⟩
    · rw [if_neg k1] at EC EA
      have t1 : (cBelow bs 8 c == 1) = false := by rw [beq_eq_false_iff_ne]; exact k1
      clear k1
      by_cases k2 : cBelow bs 8 c = 2
      · rw [if_pos k2] at EC EA
        have t2 : (cBelow bs 8 c == 2) = true := by rw [beq_iff_eq]; exact k2
        clear k2
        have h1 := cBelow_bd bs 100000 (aBelow bs 8 c) (by omega)
        go_enter Tryd.func21, Tryd.ntmps21
        go_wp2_with fail
        refine (l1Below_any 8 (by omega) H.out).mono ?_
        rintro e w1 ⟨rfl, hc1, ht1⟩
        have HC1 := hide hc1
        have HT1 := hide ht1
        clear hc1 ht1
        go_wp2_with fail
        refine (l1Below_any 100000 (by omega) HC1.out).mono ?_
        rintro e w2 ⟨rfl, hc2, ht2⟩
        have HC2 := hide hc2
        have HT2 := hide ht2
        clear hc2 ht2
        go_wp2
        go_ret
        exact ⟨by rw [EC.out]; rfl, by rw [EA.out]; exact HC2.out, HT1.out.trans HT2.out⟩
      · rw [if_neg k2] at EC EA
        have t2 : (cBelow bs 8 c == 2) = false := by rw [beq_eq_false_iff_ne]; exact k2
        clear k2
        have h1 := cBelow_bd bs 70000 (aBelow bs 8 c) (by omega)
        go_enter Tryd.func21, Tryd.ntmps21
        go_wp2_with fail
        refine (l1Below_any 8 (by omega) H.out).mono ?_
        rintro e w1 ⟨rfl, hc1, ht1⟩
        have HC1 := hide hc1
        have HT1 := hide ht1
        clear hc1 ht1
        go_wp2_with fail
        refine (l1Below_any 70000 (by omega) HC1.out).mono ?_
        rintro e w2 ⟨rfl, hc2, ht2⟩
        have HC2 := hide hc2
        have HT2 := hide ht2
        clear hc2 ht2
        go_wp2
        go_ret
        exact ⟨by rw [EC.out]; rfl, by rw [EA.out]; exact HC2.out, HT1.out.trans HT2.out⟩
end Go.Proofs.YtbogonhmpibelaaDoor
