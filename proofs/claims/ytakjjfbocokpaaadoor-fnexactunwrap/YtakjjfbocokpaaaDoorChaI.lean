/-
  Contract of impl.ChaBlock.
-/
import Derived.Test.YtakjjfbocokpaaaDoorChaD
import Derived.Test.YtakjjfbocokpaaaDoorChaF
import Derived.Test.YtakjjfbocokpaaaDoorChaT
import Derived.Test.YtakjjfbocokpaaaDoorMathF
namespace Go.Proofs.YtakjjfbocokpaaaDoor
open Go.ChangeShapes Go.WideShapes Go.ChangeAt Go.RowKit

set_option maxRecDepth 100000

theorem zeros_arr : #[Value.int .u32 0, .int .u32 0, .int .u32 0, .int .u32 0, .int .u32 0, .int .u32 0, .int .u32 0, .int .u32 0, .int .u32 0, .int .u32 0, .int .u32 0, .int .u32 0, .int .u32 0, .int .u32 0, .int .u32 0, .int .u32 0] = (wordVals .u32 (List.replicate 16 0) ++ []).toArray := rfl
theorem QPost.new (T : TypeId) (w : World) : QPost .u32 T [] (w.alloc (.cells #[Value.int .u32 0, .int .u32 0, .int .u32 0, .int .u32 0, .int .u32 0, .int .u32 0, .int .u32 0, .int .u32 0, .int .u32 0, .int .u32 0, .int .u32 0, .int .u32 0, .int .u32 0, .int .u32 0, .int .u32 0, .int .u32 0] T)) w.heap.size (List.replicate 16 0) (w.alloc (.cells #[Value.int .u32 0, .int .u32 0, .int .u32 0, .int .u32 0, .int .u32 0, .int .u32 0, .int .u32 0, .int .u32 0, .int .u32 0, .int .u32 0, .int .u32 0, .int .u32 0, .int .u32 0, .int .u32 0, .int .u32 0, .int .u32 0] T)) := by
  refine ⟨?_, by simp, fun x hx => ?_, Below.refl _ _, rfl⟩
  · unfold Words; rw [← zeros_arr]; exact Go.Deep.blk_alloc_new w _
  · have := List.eq_of_mem_replicate hx; omega

theorem QPost.setN {k : IntKind} {T : TypeId} {tl : List Value} {w w1 : World} {g : Nat} {L : List Nat} (h : QPost k T tl w g L w1) (j x : Nat) (hj : j < 16) (hx : x < 4294967296) :
    QPost k T tl w g (L.set j x) (w1.setCell ⟨g, j, none⟩ (.int k x)) := by
  obtain ⟨h1, h2, h3, h4, h5⟩ := h
  exact ⟨h1.set j x (by omega) _ rfl, by simp [h2], h3.set _ _ hx, h4.setCell (Nat.le_refl _) _, by rw [← h5]; exact size_setCell _ _ _⟩
theorem list16 (S : List Nat) (h : S.length = 16) : S = [wd S 0, wd S 1, wd S 2, wd S 3, wd S 4, wd S 5, wd S 6, wd S 7, wd S 8, wd S 9, wd S 10, wd S 11, wd S 12, wd S 13, wd S 14, wd S 15] := by
  refine ext_wd (by simp [h]) fun j hj => ?_
  rw [h] at hj
  have : j = 0 ∨ j = 1 ∨ j = 2 ∨ j = 3 ∨ j = 4 ∨ j = 5 ∨ j = 6 ∨ j = 7 ∨ j = 8 ∨ j = 9 ∨ j = 10 ∨ j = 11 ∨ j = 12 ∨ j = 13 ∨ j = 14 ∨ j = 15 := by omega
  rcases this with rfl | rfl | rfl | rfl | rfl | rfl | rfl | rfl | rfl | rfl | rfl | rfl | rfl | rfl | rfl | rfl <;> rfl
def arr16 (S : List Nat) : Array Value := #[.int .u32 (wd S 0 : Nat), .int .u32 (wd S 1 : Nat), .int .u32 (wd S 2 : Nat), .int .u32 (wd S 3 : Nat), .int .u32 (wd S 4 : Nat), .int .u32 (wd S 5 : Nat), .int .u32 (wd S 6 : Nat), .int .u32 (wd S 7 : Nat), .int .u32 (wd S 8 : Nat), .int .u32 (wd S 9 : Nat), .int .u32 (wd S 10 : Nat), .int .u32 (wd S 11 : Nat), .int .u32 (wd S 12 : Nat), .int .u32 (wd S 13 : Nat), .int .u32 (wd S 14 : Nat), .int .u32 (wd S 15 : Nat)]
theorem arr16_eq (S : List Nat) (h : S.length = 16) : arr16 S = (wordVals .u32 S ++ []).toArray := by
  conv => rhs; rw [list16 S h]
  rfl
theorem QPost.copy (T : TypeId) (w : World) (S : List Nat) (h : S.length = 16) (hF : Fit S) : QPost .u32 T [] (w.alloc (.cells (arr16 S) T)) w.heap.size S (w.alloc (.cells (arr16 S) T)) := by
  refine ⟨?_, h, hF, Below.refl _ _, rfl⟩
  unfold Words; rw [arr16_eq S h]; exact Go.Deep.blk_alloc_new w _

set_option maxHeartbeats 4000000 in
theorem iBlock_yes (k n : ByteArray) (c : Nat) (w : World) (hk : k.size = 32) (hn : n.size = 12) (hc : c < 4294967296) :
    Calls Tryd.prog 79 #[.string k, .int .i64 c, .string n] w (StrPost w (chaB (bl k) c (bl n))) := by
  have d1 : ((k.size : Int) != 32) = false := by rw [hk]; rfl
  have d2 : ((n.size : Int) != 12) = false := by rw [hn]; rfl
  have d3 : decide ((c : Int) < 0) = false := by simp
  have d4 : decide ((4294967295 : Int) < (c : Int)) = false := by simp; omega
  go_enter Tryd.func79, Tryd.ntmps79
  go_wp2_with fail
  refine (iFill 123 w.heap.size 0 _ _ _ _ (QPost.new _ w) (by decide)).mono ?_
  rintro e w1 ⟨rfl, hq1⟩
  have HQ1 := hide hq1
  clear hq1
  go_wp2_with fail
  refine (iFill 123 w.heap.size 4 k _ _ _ HQ1.out (by omega)).mono ?_
  rintro e w2 ⟨rfl, hq2⟩
  have c12 := hq2.cell 12 (by omega)
  have f12 := hq2.frozen 12
  have HQ2 := hide hq2
  clear hq2 HQ1
  go_wp2_with fail
  refine (iFill 123 w.heap.size 13 n _ _ _ (HQ2.out.setN 12 c (by omega) hc) (by omega)).mono ?_
  rintro e w3 ⟨rfl, hq3⟩
  rw [show fillL (((fillL (fillL (List.replicate 16 0) 0 (bl ⟨#[101, 120, 112, 97, 110, 100, 32, 51, 50, 45, 98, 121, 116, 101, 32, 107]⟩) (ByteArray.size ⟨#[101, 120, 112, 97, 110, 100, 32, 51, 50, 45, 98, 121, 116, 101, 32, 107]⟩)) 4 (bl k) k.size).set 12 c)) 13 (bl n) n.size = chaStart (bl k) c (bl n) by rw [← chaLaid_eq, hk, hn]; rfl] at hq3
  have HQ3 := hide hq3
  clear hq3 HQ2 c12 f12
  obtain ⟨S, hS⟩ : ∃ S, S = chaStart (bl k) c (bl n) := ⟨_, rfl⟩
  rw [← hS] at HQ3
  have HS := hide hS
  clear hS
  have c0 := HQ3.out.cell 0 (by omega)
  have c1 := HQ3.out.cell 1 (by omega)
  have c2 := HQ3.out.cell 2 (by omega)
  have c3 := HQ3.out.cell 3 (by omega)
  have c4 := HQ3.out.cell 4 (by omega)
  have c5 := HQ3.out.cell 5 (by omega)
  have c6 := HQ3.out.cell 6 (by omega)
  have c7 := HQ3.out.cell 7 (by omega)
  have c8 := HQ3.out.cell 8 (by omega)
  have c9 := HQ3.out.cell 9 (by omega)
  have c10 := HQ3.out.cell 10 (by omega)
  have c11 := HQ3.out.cell 11 (by omega)
  have c12 := HQ3.out.cell 12 (by omega)
  have c13 := HQ3.out.cell 13 (by omega)
  have c14 := HQ3.out.cell 14 (by omega)
  have c15 := HQ3.out.cell 15 (by omega)
  go_wp2_with fail
  clear c0 c1 c2 c3 c4 c5 c6 c7 c8 c9 c10 c11 c12 c13 c14 c15
  have hG : w3.heap.size = w.heap.size + 1 := by have := HQ3.out.2.2.2.2; rw [Go.Deep.nblk_alloc] at this; exact this
  have HG := hide hG
  clear hG
  have HC := hide (QPost.copy 123 w3 S HQ3.out.2.1 HQ3.out.2.2.1)
  have HB0 := hide (((Below.refl _ w).alloc (Nat.le_refl _) _).trans HQ3.out.2.2.2.1)
  unfold arr16 at HC
  have HA := hide (show ∀ W, Below w3.heap.size (w3.alloc (.cells (arr16 S) 123)) W → Words .u32 123 [] W w.heap.size S ∧ Below w.heap.size w W from fun W hW => by
    have hlt : w.heap.size < w3.heap.size := by rw [HG.out]; omega
    exact ⟨(HQ3.out.1.alloc hlt _).below hW hlt, (HB0.out.alloc (by omega) _).trans (hW.mono (by omega))⟩)
  unfold arr16 at HA
  have HF := hide HQ3.out.2.2.1
  have HL := hide HQ3.out.2.1
  have HZ := hide (show w3.heap.size < (w3.alloc (.cells (arr16 S) 123)).heap.size by rw [Go.Deep.nblk_alloc]; omega)
  unfold arr16 at HZ
  clear HB0 HQ3
  generalize (w3.alloc (.cells #[.int .u32 (wd S 0 : Nat), .int .u32 (wd S 1 : Nat), .int .u32 (wd S 2 : Nat), .int .u32 (wd S 3 : Nat), .int .u32 (wd S 4 : Nat), .int .u32 (wd S 5 : Nat), .int .u32 (wd S 6 : Nat), .int .u32 (wd S 7 : Nat), .int .u32 (wd S 8 : Nat), .int .u32 (wd S 9 : Nat), .int .u32 (wd S 10 : Nat), .int .u32 (wd S 11 : Nat), .int .u32 (wd S 12 : Nat), .int .u32 (wd S 13 : Nat), .int .u32 (wd S 14 : Nat), .int .u32 (wd S 15 : Nat)] 123)) = W3 at HC HA HZ ⊢
  generalize w3.heap.size = G at HC HA HG HZ ⊢
  go_loopw [35] (fun i wr => ∃ j : Nat, j ≤ 10 ∧ i = .int .i64 j ∧ Hid (QPost .u32 123 [] W3 G (drounds S j) wr)) (fun i _ => 10 - (intOf i).toNat)
  case atStart => exact ⟨0, by omega, rfl, HC⟩
  case round =>
    obtain ⟨j, hj, rfl, HR⟩ := hrel
    by_cases hlt : j < 10
    · go_wp2_with (go_at_call 108; refine (iDouble 123 G _ _ _ HR.out).mono ?_; rintro e w' ⟨rfl, hq⟩; have HN := hide hq; clear hq)
      go_roundw
      case rel => exact ⟨j + 1, by omega, by go_num, HN⟩
      case measure => simp [intOf]; omega
    · have e4 : j = 10 := by omega
      rw [e4] at HR
      clear e4
      go_wp2_with fail
      go_loopw [9, 39] (fun _ i wr => ∃ j : Nat, j ≤ 16 ∧ i = .int .i64 j ∧ Hid (QPost .u32 123 [] W3 G (sumW (drounds S 10) S j) wr)) (fun _ i _ => 16 - (intOf i).toNat)
      case atStart => exact ⟨0, by omega, rfl, HR⟩
      case round =>
        obtain ⟨j, hj, rfl, HR⟩ := hrel
        by_cases hlt : j < 16
        · go_wp2_with fail
          have i1 : (j : Int) < 16 := by omega
          have c1 := HR.out.cell j hlt
          have f1 := HR.out.frozen j
          have c2 := (HA.out _ HR.out.2.2.2.1).1.cell j (by rw [HL.out]; exact hlt)
          refine wp_region_still_tail 8 (by kernel_rfl) (by kernel_rfl) ?_
          simp only [List.take_succ_cons, List.take_zero, List.drop_succ_cons, List.drop_zero]
          iterate 8 still_step
          refine wpStill_nil ?_
          go_wp2_with fail
          go_roundw
          case rel =>
            refine ⟨j + 1, by omega, by go_num, ?_⟩
            exact HR.out.set j _ hlt (Nat.mod_lt _ (by omega)) _ (by omega)
          case measure => simp [intOf]; omega
        · have e4 : j = 16 := by omega
          rw [e4, sumW_all _ _ (by rw [length_drounds, HL.out])] at HR
          clear e4
          go_wp2_with (go_at_call 109; refine (iText 123 G _ _ HR.out.1 HR.out.2.1 HR.out.2.2.1 (by rw [HR.out.2.2.2.2]; exact HZ.out)).mono ?_; rintro e w' ⟨rfl, hb⟩; have HN := hide hb; clear hb)
          go_ret
          refine ⟨by rw [chaB, ← HS.out]; rfl, ?_⟩
          have h1 := (HA.out _ HR.out.2.2.2.1).2
          exact h1.trans (HN.out.mono h1.size)
end Go.Proofs.YtakjjfbocokpaaaDoor
