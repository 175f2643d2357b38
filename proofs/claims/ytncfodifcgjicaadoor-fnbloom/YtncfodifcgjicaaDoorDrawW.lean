/-
  Contract of spec.l1New: a new cursor.
-/
import Derived.Test.YtncfodifcgjicaaDoorDrawA
namespace Go.Proofs.YtncfodifcgjicaaDoor
open Go.ChangeShapes Go.WideShapes Go.ChangeAt Go.RowKit

def NewPost (B : Nat) (a : Option Addr) (cap : Nat) (bs : List Int) (w : World) (e : Ending) (w' : World) : Prop :=
  e = .returned (.pointer (some ⟨w.heap.size, 0, none⟩)) ∧ Cursor B w.heap.size a cap bs w' (newC bs) ∧ Below w.heap.size w w'

theorem l1New_any {B : Nat} (a : Option Addr) (cap : Nat) (bs : List Int) (w : World) (hB : B ≤ w.heap.size) (hc : CodeAt B w a bs) (hm : bs.length ≤ 1048576) :
    Calls Tryd.prog 16 #[.slice a bs.length cap] w (NewPost B a cap bs w) := by
  have H := hide hc
  clear hc
  obtain ⟨n, hn⟩ : ∃ n, n = bs.length := ⟨_, rfl⟩
  rw [← hn]
  rw [← hn] at hm
  have HN := hide hn
  clear hn
  go_enter Tryd.func16, Tryd.ntmps16
  go_wp2
  go_loop [3, 4] (fun x i => ∃ j : Nat, j ≤ n ∧ j ≤ 4000 ∧ i = .int .i64 j ∧ x = .int .i64 (nH (bs.take j) (10101 + (n : Int)))) (fun _ i => 4000 - (intOf i).toNat)
  case atStart => exact ⟨0, by omega, by omega, rfl, rfl⟩
  case round =>
    obtain ⟨j, hj, hj4, rfl, rfl⟩ := hrel
    have hb := nH_bd (bs.take j) (10101 + (n : Int)) (by omega) (by omega)
    by_cases hlt : j < n ∧ j < 4000
    · obtain ⟨h1, h2⟩ := hlt
      have d1 : decide ((j : Int) < 4000) = true := decide_eq_true (by omega)
      have hjl : j < bs.length := by rw [← HN.out]; exact h1
      obtain ⟨b, off, rfl, _, hcell⟩ := H.out.2 (by omega)
      have hx := hcell j hjl
      have hz := H.out.1 (bs[j]) (List.getElem_mem hjl)
      have hz' : 0 ≤ bs[j]?.getD 0 ∧ bs[j]?.getD 0 ≤ 255 := by simpa [hjl] using hz
      have HT := hide (take_snocI bs j hjl)
      have HS := hide (nH_snoc (bs.take j) (bs[j]?.getD 0) (10101 + (n : Int)))
      clear hcell hz hjl
      go_wp2
      go_round
      case rel => exact ⟨j + 1, by omega, by omega, by go_num, by rw [HT.out, HS.out]; rfl⟩
      case measure => simp [intOf]; omega
    · have HE := hide (show nH (bs.take j) (10101 + (n : Int)) = (newC bs).2 by
        rw [newC, ← HN.out]
        by_cases h4 : j = 4000
        · rw [h4]
        · rw [List.take_of_length_le (by rw [← HN.out]; omega), List.take_of_length_le (by rw [← HN.out]; omega)])
      by_cases h4 : j < n
      · have d1 : decide ((j : Int) < 4000) = false := decide_eq_false (by omega)
        clear hlt
        go_wp2
        go_ret
        refine ⟨rfl, ⟨?_, (H.out.below ((Below.refl B w).alloc hB _)), hB, by rw [← HN.out]; exact hm, Nat.zero_le _⟩, (Below.refl _ _).alloc (Nat.le_refl _) _⟩
        unfold CurAt
        rw [← HN.out, ← HE.out]
        exact Go.Deep.blk_alloc_new w _
      · have d1 : decide ((j : Int) < (n : Int)) = false := decide_eq_false (by omega)
        clear hlt
        go_wp2
        go_ret
        refine ⟨rfl, ⟨?_, (H.out.below ((Below.refl B w).alloc hB _)), hB, by rw [← HN.out]; exact hm, Nat.zero_le _⟩, (Below.refl _ _).alloc (Nat.le_refl _) _⟩
        unfold CurAt
        rw [← HN.out, ← HE.out]
        exact Go.Deep.blk_alloc_new w _
end Go.Proofs.YtncfodifcgjicaaDoor
