/-
  Contract of spec.l1PickInt.
-/
import Derived.Test.YtncfodifcgjicaaDoorDrawB
namespace Go.Proofs.YtncfodifcgjicaaDoor
open Go.ChangeShapes Go.WideShapes Go.ChangeAt Go.RowKit

theorem l1PickInt_any {B g : Nat} {a : Option Addr} {cap : Nat} {bs : List Int} {w : World} {c : Cu} (N n : Nat) (zs : List Int) (h0 : 0 < n) (hn : n ≤ 1048576) (hN : N < w.heap.size) (hg : N ≠ g)
    (hcell : ∀ j, j < n → w.cell? ⟨N, j, none⟩ = some (.int .i64 (zs[j]?.getD 0))) (h : Cursor B g a cap bs w c) :
    Calls Tryd.prog 18 #[.pointer (some ⟨g, 0, none⟩), .slice (some ⟨N, 0, none⟩) n n] w (Drew B g a cap bs w (.int .i64 (zs[(cBelow bs n c).toNat]?.getD 0)) (aBelow bs n c)) := by
  have H := hide h
  have HC := hide hcell
  have hb := cBelow_bd bs n c (by omega)
  clear h hcell
  go_enter Tryd.func18, Tryd.ntmps18
  go_wp2_with (go_at_call 28; refine (l1Below_any (n : Int) (by omega) H.out).mono ?_; rintro e w1 ⟨rfl, hc1, ht1⟩; have hx := (ht1.cell (p := ⟨N, (cBelow bs n c).toNat, none⟩) hN hg).trans (HC.out _ (by omega)); have HC1 := hide hc1; have HT1 := hide ht1; clear hc1 ht1)
  go_ret
  exact ⟨rfl, HC1.out, HT1.out⟩
end Go.Proofs.YtncfodifcgjicaaDoor
