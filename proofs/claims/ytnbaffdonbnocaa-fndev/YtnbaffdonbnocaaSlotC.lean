/-
  Contracts of slices.Clone.
-/
import Derived.Test.YtnbaffdonbnocaaOwnG
import Derived.Test.YtnbaffdonbnocaaOwnB
import Derived.Laws.CopyRow
import Derived.StillTailTactics
import Derived.Deep.RegionHeld3
namespace Go.Proofs.Ytnbaffdonbnocaa
open Go.ChangeShapes Go.WideShapes Go.ChangeAt Go.RowKit

theorem sliceClone_any (B : Nat) (v : Value) (L : List Slot) (w : World) (hO : OwnsS B w v L) (hl : L.length ≤ 2097152) :
    Calls Try.prog 57 #[v] w (SlotsPost w L) := by
  have HO := hide hO
  obtain ⟨h1, ⟨rfl, h0⟩ | ⟨g, cap, cur, rfl, hr⟩⟩ := hO
  · obtain rfl : L = [] := List.eq_nil_of_length_eq_zero h0
    have hq := fun W => Lib.run_eql_slice_nil (P := Try.prog) W 25 36 none 0 0 0 0 Try.underlying25
    clear HO h1 h0
    go_enter Try.func57, Try.ntmps57
    go_wp2_with fail
    go_ret
    exact ⟨_, rfl, OwnsS.nil _ _, Below.refl _ _⟩
  · obtain ⟨n, hn⟩ : ∃ n, n = L.length := ⟨_, rfl⟩
    have HN := hide hn.symm
    rw [← hn] at hl HO
    rw [← hn]
    have hq := fun W => Lib.run_eql_slice_nil (P := Try.prog) W 25 36 (some ⟨g, 0, none⟩) n cap 0 0 Try.underlying25
    clear h1 hr hn
    have P1 : Hid (OwnsS w.heap.size (w.alloc (.cells #[] 36)) (.slice (some ⟨w.heap.size, 0, none⟩) 0 0) []) := OwnsS.lit0 _ w (Nat.le_refl _)
    have P2 : ∀ o, Hid (OwnsS B (w.alloc o) (.slice (some ⟨g, 0, none⟩) n cap) L) := fun o => HO.out.alloc o
    have P3 : ∀ o, Hid (Below w.heap.size w (w.alloc o)) := fun o => (Below.refl _ _).alloc (Nat.le_refl _) _
    have P4 : ∀ o, w.heap.size ≤ (w.alloc o).heap.size := fun o => by simp
    go_enter Try.func57, Try.ntmps57
    go_wp2_with (at_builtin; go_loud (refine appendS rfl (.tmp 5) (.tmp 6) rfl w.heap.size B w _ _ _ [] L rfl rfl P1 (P2 _) (P3 _) (P4 _) L n rfl HN.out (by omega) ?_); intro a' c' w' HO' HB' hsz')
    go_ret
    exact ⟨_, rfl, HO'.out, HB'.out⟩

end Go.Proofs.Ytnbaffdonbnocaa
