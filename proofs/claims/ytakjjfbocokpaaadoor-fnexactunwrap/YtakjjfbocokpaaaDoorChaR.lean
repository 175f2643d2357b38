/-
  Contract of spec.l3Quarter.
-/
import Derived.Test.YtakjjfbocokpaaaDoorChaQ
namespace Go.Proofs.YtakjjfbocokpaaaDoor
open Go.ChangeShapes Go.WideShapes Go.ChangeAt Go.RowKit


set_option maxHeartbeats 8000000 in
set_option maxRecDepth 40000 in
theorem sQuarter (T : TypeId) (tl : List Value) (g cap a b c d : Nat) (L : List Nat) (w w0 : World) (hW : QPost .i64 T tl w0 g L w) (ha : a < 16) (hb : b < 16) (hc : c < 16) (hd : d < 16) :
    Calls Tryd.prog 121 #[.slice (some ⟨g, 0, none⟩) 16 cap, .int .i64 a, .int .i64 b, .int .i64 c, .int .i64 d] w fun e w' => e = .returned (.slice (some ⟨g, 0, none⟩) 16 cap) ∧ QPost .i64 T tl w0 g (quarter L a b c d) w' := by
  have ia : (a : Int) < 16 := by omega
  have ib : (b : Int) < 16 := by omega
  have ic : (c : Int) < 16 := by omega
  have id : (d : Int) < 16 := by omega
  have HQ := hide hW
  obtain ⟨L9, h9⟩ : ∃ L9, L9 = quarter L a b c d := ⟨_, rfl⟩
  rw [← h9]
  unfold quarter at h9
  have HE := hide h9
  clear h9 hW
  go_enter Tryd.func121, Tryd.ntmps121
  go_wp2_with fail
  have c1 := HQ.out.cell a ha
  have c2 := HQ.out.cell b hb
  have f1 := HQ.out.frozen a
  have b1 := HQ.out.lt a
  have b2 := HQ.out.lt b
  have hx : IntKind.i64.wrap ((wd L a : Nat) + (wd L b : Nat)) = ((wd L a + wd L b : Nat) : Int) := by rw [IntKind.wrap_i64]; omega
  have hr := fun W => (l3Word_any (wd L a + wd L b) (by omega) W).mono fun _ _ h => (⟨h.1, h.2.symm⟩ : _ ∧ _)
  refine wp_region_still_tail 13 (by kernel_rfl) (by kernel_rfl) ?_
  simp only [List.take_succ_cons, List.take_zero, List.drop_succ_cons, List.drop_zero]
  iterate 11 still_step
  still_call (hr _)
  still_step
  refine wpStill_nil ?_
  go_wp2_with fail
  have HN := hide (HQ.out.add a b ha)
  clear c1 c2 f1 b1 b2 hx hr HQ
  generalize (w.setCell ⟨g, a, none⟩ (.int .i64 (((wd L a : Nat) + (wd L b : Nat)) % 4294967296))).drew = w1 at HN ⊢
  generalize addW L a b = L1 at HN HE
  have HQ := HN
  clear HN
  have c1 := HQ.out.cell d hd
  have c2 := HQ.out.cell a ha
  have f1 := HQ.out.frozen d
  have b1 := HQ.out.lt d
  have b2 := HQ.out.lt a
  have hx := i64_xor_nat (wd L1 d) (wd L1 a) (by omega) (by omega)
  have hr := fun W => (left16 (wd L1 d ^^^ wd L1 a) (xorlt _ _ b1 b2) W).mono fun _ _ h => (⟨h.1, h.2.symm⟩ : _ ∧ _)
  refine wp_region_still_tail 13 (by kernel_rfl) (by kernel_rfl) ?_
  simp only [List.take_succ_cons, List.take_zero, List.drop_succ_cons, List.drop_zero]
  iterate 11 still_step
  still_call (hr _)
  still_step
  refine wpStill_nil ?_
  go_wp2_with fail
  have HN := hide (HQ.out.rot d a 16 hd)
  clear c1 c2 f1 b1 b2 hx hr HQ
  generalize (w1.setCell ⟨g, d, none⟩ (.int .i64 (rotl (wd L1 d ^^^ wd L1 a) 16 : Nat))).drew = w2 at HN ⊢
  generalize rotW L1 d a 16 = L2 at HN HE
  have HQ := HN
  clear HN
  have c1 := HQ.out.cell c hc
  have c2 := HQ.out.cell d hd
  have f1 := HQ.out.frozen c
  have b1 := HQ.out.lt c
  have b2 := HQ.out.lt d
  have hx : IntKind.i64.wrap ((wd L2 c : Nat) + (wd L2 d : Nat)) = ((wd L2 c + wd L2 d : Nat) : Int) := by rw [IntKind.wrap_i64]; omega
  have hr := fun W => (l3Word_any (wd L2 c + wd L2 d) (by omega) W).mono fun _ _ h => (⟨h.1, h.2.symm⟩ : _ ∧ _)
  refine wp_region_still_tail 13 (by kernel_rfl) (by kernel_rfl) ?_
  simp only [List.take_succ_cons, List.take_zero, List.drop_succ_cons, List.drop_zero]
  iterate 11 still_step
  still_call (hr _)
  still_step
  refine wpStill_nil ?_
  go_wp2_with fail
  have HN := hide (HQ.out.add c d hc)
  clear c1 c2 f1 b1 b2 hx hr HQ
  generalize (w2.setCell ⟨g, c, none⟩ (.int .i64 (((wd L2 c : Nat) + (wd L2 d : Nat)) % 4294967296))).drew = w3 at HN ⊢
  generalize addW L2 c d = L3 at HN HE
  have HQ := HN
  clear HN
  have c1 := HQ.out.cell b hb
  have c2 := HQ.out.cell c hc
  have f1 := HQ.out.frozen b
  have b1 := HQ.out.lt b
  have b2 := HQ.out.lt c
  have hx := i64_xor_nat (wd L3 b) (wd L3 c) (by omega) (by omega)
  have hr := fun W => (left12 (wd L3 b ^^^ wd L3 c) (xorlt _ _ b1 b2) W).mono fun _ _ h => (⟨h.1, h.2.symm⟩ : _ ∧ _)
  refine wp_region_still_tail 13 (by kernel_rfl) (by kernel_rfl) ?_
  simp only [List.take_succ_cons, List.take_zero, List.drop_succ_cons, List.drop_zero]
  iterate 11 still_step
  still_call (hr _)
  still_step
  refine wpStill_nil ?_
  go_wp2_with fail
  have HN := hide (HQ.out.rot b c 12 hb)
  clear c1 c2 f1 b1 b2 hx hr HQ
  generalize (w3.setCell ⟨g, b, none⟩ (.int .i64 (rotl (wd L3 b ^^^ wd L3 c) 12 : Nat))).drew = w4 at HN ⊢
  generalize rotW L3 b c 12 = L4 at HN HE
  have HQ := HN
  clear HN
  have c1 := HQ.out.cell a ha
  have c2 := HQ.out.cell b hb
  have f1 := HQ.out.frozen a
  have b1 := HQ.out.lt a
  have b2 := HQ.out.lt b
  have hx : IntKind.i64.wrap ((wd L4 a : Nat) + (wd L4 b : Nat)) = ((wd L4 a + wd L4 b : Nat) : Int) := by rw [IntKind.wrap_i64]; omega
  have hr := fun W => (l3Word_any (wd L4 a + wd L4 b) (by omega) W).mono fun _ _ h => (⟨h.1, h.2.symm⟩ : _ ∧ _)
  refine wp_region_still_tail 13 (by kernel_rfl) (by kernel_rfl) ?_
  simp only [List.take_succ_cons, List.take_zero, List.drop_succ_cons, List.drop_zero]
  iterate 11 still_step
  still_call (hr _)
  still_step
  refine wpStill_nil ?_
  go_wp2_with fail
  have HN := hide (HQ.out.add a b ha)
  clear c1 c2 f1 b1 b2 hx hr HQ
  generalize (w4.setCell ⟨g, a, none⟩ (.int .i64 (((wd L4 a : Nat) + (wd L4 b : Nat)) % 4294967296))).drew = w5 at HN ⊢
  generalize addW L4 a b = L5 at HN HE
  have HQ := HN
  clear HN
  have c1 := HQ.out.cell d hd
  have c2 := HQ.out.cell a ha
  have f1 := HQ.out.frozen d
  have b1 := HQ.out.lt d
  have b2 := HQ.out.lt a
  have hx := i64_xor_nat (wd L5 d) (wd L5 a) (by omega) (by omega)
  have hr := fun W => (left8 (wd L5 d ^^^ wd L5 a) (xorlt _ _ b1 b2) W).mono fun _ _ h => (⟨h.1, h.2.symm⟩ : _ ∧ _)
  refine wp_region_still_tail 13 (by kernel_rfl) (by kernel_rfl) ?_
  simp only [List.take_succ_cons, List.take_zero, List.drop_succ_cons, List.drop_zero]
  iterate 11 still_step
  still_call (hr _)
  still_step
  refine wpStill_nil ?_
  go_wp2_with fail
  have HN := hide (HQ.out.rot d a 8 hd)
  clear c1 c2 f1 b1 b2 hx hr HQ
  generalize (w5.setCell ⟨g, d, none⟩ (.int .i64 (rotl (wd L5 d ^^^ wd L5 a) 8 : Nat))).drew = w6 at HN ⊢
  generalize rotW L5 d a 8 = L6 at HN HE
  have HQ := HN
  clear HN
  have c1 := HQ.out.cell c hc
  have c2 := HQ.out.cell d hd
  have f1 := HQ.out.frozen c
  have b1 := HQ.out.lt c
  have b2 := HQ.out.lt d
  have hx : IntKind.i64.wrap ((wd L6 c : Nat) + (wd L6 d : Nat)) = ((wd L6 c + wd L6 d : Nat) : Int) := by rw [IntKind.wrap_i64]; omega
  have hr := fun W => (l3Word_any (wd L6 c + wd L6 d) (by omega) W).mono fun _ _ h => (⟨h.1, h.2.symm⟩ : _ ∧ _)
  refine wp_region_still_tail 13 (by kernel_rfl) (by kernel_rfl) ?_
  simp only [List.take_succ_cons, List.take_zero, List.drop_succ_cons, List.drop_zero]
  iterate 11 still_step
  still_call (hr _)
  still_step
  refine wpStill_nil ?_
  go_wp2_with fail
  have HN := hide (HQ.out.add c d hc)
  clear c1 c2 f1 b1 b2 hx hr HQ
  generalize (w6.setCell ⟨g, c, none⟩ (.int .i64 (((wd L6 c : Nat) + (wd L6 d : Nat)) % 4294967296))).drew = w7 at HN ⊢
  generalize addW L6 c d = L7 at HN HE
  have HQ := HN
  clear HN
  have c1 := HQ.out.cell b hb
  have c2 := HQ.out.cell c hc
  have f1 := HQ.out.frozen b
  have b1 := HQ.out.lt b
  have b2 := HQ.out.lt c
  have hx := i64_xor_nat (wd L7 b) (wd L7 c) (by omega) (by omega)
  have hr := fun W => (left7 (wd L7 b ^^^ wd L7 c) (xorlt _ _ b1 b2) W).mono fun _ _ h => (⟨h.1, h.2.symm⟩ : _ ∧ _)
  refine wp_region_still_tail 13 (by kernel_rfl) (by kernel_rfl) ?_
  simp only [List.take_succ_cons, List.take_zero, List.drop_succ_cons, List.drop_zero]
  iterate 11 still_step
  still_call (hr _)
  still_step
  refine wpStill_nil ?_
  go_wp2_with fail
  have HN := hide (HQ.out.rot b c 7 hb)
  clear c1 c2 f1 b1 b2 hx hr HQ
  generalize (w7.setCell ⟨g, b, none⟩ (.int .i64 (rotl (wd L7 b ^^^ wd L7 c) 7 : Nat))).drew = w8 at HN ⊢
  generalize rotW L7 b c 7 = L8 at HN HE
  have HQ := HN
  clear HN
  go_ret
  exact ⟨rfl, by rw [HE.out]; exact HQ.out⟩
end Go.Proofs.YtakjjfbocokpaaaDoor
