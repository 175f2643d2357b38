/-
  Contract of (*impl.chaWords).quarter.
-/
import Derived.Test.YtakjjfbocokpaaaDoorChaW
import Derived.StillTailTactics
namespace Go.Proofs.YtakjjfbocokpaaaDoor
open Go.ChangeShapes Go.WideShapes Go.ChangeAt Go.RowKit

/-- block g holds the words L, and no block below it has changed -/
def QPost (k : IntKind) (T : TypeId) (tl : List Value) (w : World) (g : Nat) (L : List Nat) (w' : World) : Prop :=
  Words k T tl w' g L ∧ L.length = 16 ∧ Fit L ∧ Below g w w' ∧ w'.heap.size = w.heap.size
theorem size_setCell (w : World) (p : Addr) (v : Value) : (w.setCell p v).heap.size = w.heap.size := by simp [World.setCell]
theorem QPost.set {k : IntKind} {T : TypeId} {tl : List Value} {w w1 : World} {g : Nat} {L : List Nat} (h : QPost k T tl w g L w1) (j x : Nat) (hj : j < 16) (hx : x < 4294967296) (y : Int) (hy : y = (x : Int)) :
    QPost k T tl w g (L.set j x) (w1.setCell ⟨g, j, none⟩ (.int k y)).drew := by
  obtain ⟨h1, h2, h3, h4, h5⟩ := h
  exact ⟨(h1.set j x (by omega) y hy).drew, by simp [h2], h3.set _ _ hx, (h4.setCell (Nat.le_refl _) _).drew, by rw [← h5]; exact size_setCell _ _ _⟩
theorem QPost.cell {k : IntKind} {T : TypeId} {tl : List Value} {w w1 : World} {g : Nat} {L : List Nat} (h : QPost k T tl w g L w1) (j : Nat) (hj : j < 16) : w1.cell? ⟨g, j, none⟩ = some (.int k (wd L j : Nat)) := h.1.cell j (by rw [h.2.1]; exact hj)
theorem QPost.frozen {k : IntKind} {T : TypeId} {tl : List Value} {w w1 : World} {g : Nat} {L : List Nat} (h : QPost k T tl w g L w1) (j : Nat) : w1.frozen? ⟨g, j, none⟩ = false := h.1.frozen j
theorem QPost.lt {k : IntKind} {T : TypeId} {tl : List Value} {w w1 : World} {g : Nat} {L : List Nat} (h : QPost k T tl w g L w1) (j : Nat) : wd L j < 4294967296 := h.2.2.1.wd j
theorem QPost.add {k : IntKind} {T : TypeId} {tl : List Value} {w w1 : World} {g : Nat} {L : List Nat} (h : QPost k T tl w g L w1) (a b : Nat) (ha : a < 16) :
    QPost k T tl w g (addW L a b) (w1.setCell ⟨g, a, none⟩ (.int k (((wd L a : Nat) + (wd L b : Nat)) % 4294967296))).drew := h.set a _ ha (Nat.mod_lt _ (by omega)) _ (by omega)
theorem QPost.rot {k : IntKind} {T : TypeId} {tl : List Value} {w w1 : World} {g : Nat} {L : List Nat} (h : QPost k T tl w g L w1) (d a n : Nat) (hd : d < 16) :
    QPost k T tl w g (rotW L d a n) (w1.setCell ⟨g, d, none⟩ (.int k (rotl (wd L d ^^^ wd L a) n : Nat))).drew := h.set d _ hd (rotl_lt _ _ (xorlt _ _ (h.lt _) (h.lt _))) _ rfl

set_option maxHeartbeats 8000000 in
set_option maxRecDepth 40000 in
theorem iQuarter (T : TypeId) (g a b c d : Nat) (L : List Nat) (w w0 : World) (hW : QPost .u32 T [] w0 g L w) (ha : a < 16) (hb : b < 16) (hc : c < 16) (hd : d < 16) :
    Calls Tryd.prog 119 #[.pointer (some ⟨g, 0, none⟩), .int .i64 a, .int .i64 b, .int .i64 c, .int .i64 d] w fun e w' => e = .returned (.tuple #[]) ∧ QPost .u32 T [] w0 g (quarter L a b c d) w' := by
  have ia : (a : Int) < 16 := by omega
  have ib : (b : Int) < 16 := by omega
  have ic : (c : Int) < 16 := by omega
  have id : (d : Int) < 16 := by omega
  have HQ := hide hW
  obtain ⟨L9, h9⟩ : ∃ L9, L9 = quarter L a b c d := ⟨_, rfl⟩
  rw [← h9]
  unfold quarter at h9
  have HE := hide h9
  clear h9 hW
  go_enter Tryd.func119, Tryd.ntmps119
  go_wp2_with fail
  have c1 := HQ.out.cell a ha
  have c2 := HQ.out.cell b hb
  have f1 := HQ.out.frozen a
  refine wp_region_still_tail 13 (by kernel_rfl) (by kernel_rfl) ?_
  simp only [List.take_succ_cons, List.take_zero, List.drop_succ_cons, List.drop_zero]
  iterate 13 still_step
  refine wpStill_nil ?_
  go_wp2_with fail
  have HN := hide (HQ.out.add a b ha)
  clear c1 c2 f1 HQ
  generalize (w.setCell ⟨g, a, none⟩ (.int .u32 (((wd L a : Nat) + (wd L b : Nat)) % 4294967296))).drew = w1 at HN ⊢
  generalize addW L a b = L1 at HN HE
  have HQ := HN
  clear HN
  have c1 := HQ.out.cell d hd
  have c2 := HQ.out.cell a ha
  have f1 := HQ.out.frozen d
  have hx := u32_xor_nat (wd L1 d) (wd L1 a) (HQ.out.lt _) (HQ.out.lt _)
  have hr := fun W => (rot16 (wd L1 d ^^^ wd L1 a) (xorlt _ _ (HQ.out.lt _) (HQ.out.lt _)) W).mono fun _ _ h => (⟨h.1, h.2.symm⟩ : _ ∧ _)
  refine wp_region_still_tail 16 (by kernel_rfl) (by kernel_rfl) ?_
  simp only [List.take_succ_cons, List.take_zero, List.drop_succ_cons, List.drop_zero]
  iterate 13 still_step
  still_call (hr _)
  iterate 2 still_step
  refine wpStill_nil ?_
  go_wp2_with fail
  have HN := hide (HQ.out.rot d a 16 hd)
  clear c1 c2 f1 hx hr HQ
  generalize (w1.setCell ⟨g, d, none⟩ (.int .u32 ((rotl (wd L1 d ^^^ wd L1 a) 16 : Nat)))).drew = w2 at HN ⊢
  generalize rotW L1 d a 16 = L2 at HN HE
  have HQ := HN
  clear HN
  have c1 := HQ.out.cell c hc
  have c2 := HQ.out.cell d hd
  have f1 := HQ.out.frozen c
  refine wp_region_still_tail 13 (by kernel_rfl) (by kernel_rfl) ?_
  simp only [List.take_succ_cons, List.take_zero, List.drop_succ_cons, List.drop_zero]
  iterate 13 still_step
  refine wpStill_nil ?_
  go_wp2_with fail
  have HN := hide (HQ.out.add c d hc)
  clear c1 c2 f1 HQ
  generalize (w2.setCell ⟨g, c, none⟩ (.int .u32 (((wd L2 c : Nat) + (wd L2 d : Nat)) % 4294967296))).drew = w3 at HN ⊢
  generalize addW L2 c d = L3 at HN HE
  have HQ := HN
  clear HN
  have c1 := HQ.out.cell b hb
  have c2 := HQ.out.cell c hc
  have f1 := HQ.out.frozen b
  have hx := u32_xor_nat (wd L3 b) (wd L3 c) (HQ.out.lt _) (HQ.out.lt _)
  have hr := fun W => (rot12 (wd L3 b ^^^ wd L3 c) (xorlt _ _ (HQ.out.lt _) (HQ.out.lt _)) W).mono fun _ _ h => (⟨h.1, h.2.symm⟩ : _ ∧ _)
  refine wp_region_still_tail 16 (by kernel_rfl) (by kernel_rfl) ?_
  simp only [List.take_succ_cons, List.take_zero, List.drop_succ_cons, List.drop_zero]
  iterate 13 still_step
  still_call (hr _)
  iterate 2 still_step
  refine wpStill_nil ?_
  go_wp2_with fail
  have HN := hide (HQ.out.rot b c 12 hb)
  clear c1 c2 f1 hx hr HQ
  generalize (w3.setCell ⟨g, b, none⟩ (.int .u32 ((rotl (wd L3 b ^^^ wd L3 c) 12 : Nat)))).drew = w4 at HN ⊢
  generalize rotW L3 b c 12 = L4 at HN HE
  have HQ := HN
  clear HN
  have c1 := HQ.out.cell a ha
  have c2 := HQ.out.cell b hb
  have f1 := HQ.out.frozen a
  refine wp_region_still_tail 13 (by kernel_rfl) (by kernel_rfl) ?_
  simp only [List.take_succ_cons, List.take_zero, List.drop_succ_cons, List.drop_zero]
  iterate 13 still_step
  refine wpStill_nil ?_
  go_wp2_with fail
  have HN := hide (HQ.out.add a b ha)
  clear c1 c2 f1 HQ
  generalize (w4.setCell ⟨g, a, none⟩ (.int .u32 (((wd L4 a : Nat) + (wd L4 b : Nat)) % 4294967296))).drew = w5 at HN ⊢
  generalize addW L4 a b = L5 at HN HE
  have HQ := HN
  clear HN
  have c1 := HQ.out.cell d hd
  have c2 := HQ.out.cell a ha
  have f1 := HQ.out.frozen d
  have hx := u32_xor_nat (wd L5 d) (wd L5 a) (HQ.out.lt _) (HQ.out.lt _)
  have hr := fun W => (rot8 (wd L5 d ^^^ wd L5 a) (xorlt _ _ (HQ.out.lt _) (HQ.out.lt _)) W).mono fun _ _ h => (⟨h.1, h.2.symm⟩ : _ ∧ _)
  refine wp_region_still_tail 16 (by kernel_rfl) (by kernel_rfl) ?_
  simp only [List.take_succ_cons, List.take_zero, List.drop_succ_cons, List.drop_zero]
  iterate 13 still_step
  still_call (hr _)
  iterate 2 still_step
  refine wpStill_nil ?_
  go_wp2_with fail
  have HN := hide (HQ.out.rot d a 8 hd)
  clear c1 c2 f1 hx hr HQ
  generalize (w5.setCell ⟨g, d, none⟩ (.int .u32 ((rotl (wd L5 d ^^^ wd L5 a) 8 : Nat)))).drew = w6 at HN ⊢
  generalize rotW L5 d a 8 = L6 at HN HE
  have HQ := HN
  clear HN
  have c1 := HQ.out.cell c hc
  have c2 := HQ.out.cell d hd
  have f1 := HQ.out.frozen c
  refine wp_region_still_tail 13 (by kernel_rfl) (by kernel_rfl) ?_
  simp only [List.take_succ_cons, List.take_zero, List.drop_succ_cons, List.drop_zero]
  iterate 13 still_step
  refine wpStill_nil ?_
  go_wp2_with fail
  have HN := hide (HQ.out.add c d hc)
  clear c1 c2 f1 HQ
  generalize (w6.setCell ⟨g, c, none⟩ (.int .u32 (((wd L6 c : Nat) + (wd L6 d : Nat)) % 4294967296))).drew = w7 at HN ⊢
  generalize addW L6 c d = L7 at HN HE
  have HQ := HN
  clear HN
  have c1 := HQ.out.cell b hb
  have c2 := HQ.out.cell c hc
  have f1 := HQ.out.frozen b
  have hx := u32_xor_nat (wd L7 b) (wd L7 c) (HQ.out.lt _) (HQ.out.lt _)
  have hr := fun W => (rot7 (wd L7 b ^^^ wd L7 c) (xorlt _ _ (HQ.out.lt _) (HQ.out.lt _)) W).mono fun _ _ h => (⟨h.1, h.2.symm⟩ : _ ∧ _)
  refine wp_region_still_tail 16 (by kernel_rfl) (by kernel_rfl) ?_
  simp only [List.take_succ_cons, List.take_zero, List.drop_succ_cons, List.drop_zero]
  iterate 13 still_step
  still_call (hr _)
  iterate 2 still_step
  refine wpStill_nil ?_
  go_wp2_with fail
  have HN := hide (HQ.out.rot b c 7 hb)
  clear c1 c2 f1 hx hr HQ
  generalize (w7.setCell ⟨g, b, none⟩ (.int .u32 ((rotl (wd L7 b ^^^ wd L7 c) 7 : Nat)))).drew = w8 at HN ⊢
  generalize rotW L7 b c 7 = L8 at HN HE
  have HQ := HN
  clear HN
  go_end0
  exact ⟨rfl, by rw [HE.out]; exact HQ.out⟩

/-- The same, the places as numbers of their own. -/
theorem iQuarterI (T : TypeId) (g a b c d : Nat) (a' b' c' d' : Int) (L : List Nat) (w w0 : World) (hW : QPost .u32 T [] w0 g L w) (ha : a < 16) (hb : b < 16) (hc : c < 16) (hd : d < 16) (ea : a' = (a : Int)) (eb : b' = (b : Int)) (ec : c' = (c : Int)) (ed : d' = (d : Int)) :
    Calls Tryd.prog 119 #[.pointer (some ⟨g, 0, none⟩), .int .i64 a', .int .i64 b', .int .i64 c', .int .i64 d'] w fun e w' => e = .returned (.tuple #[]) ∧ QPost .u32 T [] w0 g (quarter L a b c d) w' := by
  subst ea eb ec ed
  exact iQuarter T g a b c d L w w0 hW ha hb hc hd
end Go.Proofs.YtakjjfbocokpaaaDoor
