/-
  Texts of this proof, put together: ChaQ, ChaD, ChaF, MathF, ChaL, ChaR.
-/
import Derived.Test.YtakjjfbocokpaaaDoorPackAD
import Derived.StillTailTactics
import Derived.Test.YtakjjfbocokpaaaDoorPackAC

/-
  Contract of (*impl.chaWords).quarter.
-/
namespace Go.Proofs.YtakjjfbocokpaaaDoor
open Go.ChangeShapes Go.WideShapes Go.ChangeAt Go.RowKit

/-- block g holds the words L, and no block below it has changed -/
def QPost (k : IntKind) (T : TypeId) (tl : List Value) (w : World) (g : Nat) (L : List Nat) (w' : World) : Prop :=
  Words k T tl w' g L ∧ L.length = 16 ∧ Fit L ∧ Below g w w' ∧ w'.heap.size = w.heap.size
theorem size_setCell (w : World) (p : Addr) (v : Value) : (w.setCell p v).heap.size = w.heap.size := by simp [World.setCell]
theorem QPost.set {k : IntKind} {T : TypeId} {tl : List Value} {w w1 : World} {g : Nat} {L : List Nat} (h : QPost k T tl w g L w1) (j x : Nat) (hj : j < 16) (hx : x < 4294967296) (y : Int) (hy : y = (x : Int)) :
    QPost k T tl w g (L.set j x) (w1.setCell ⟨g, j, none⟩ (.int k y)).drew := by
  obtain ⟨h1, h2, h3, h4, h5⟩ := h
  exact ⟨(h1.set j x (by omega) y hy).drew, by simp [h2], h3.set _ _ hx, (h4.setCell (Nat.le_refl _) _).drew, by rw [← h5]; exact size_setCell _ _ _⟩
theorem QPost.cell {k : IntKind} {T : TypeId} {tl : List Value} {w w1 : World} {g : Nat} {L : List Nat} (h : QPost k T tl w g L w1) (j : Nat) (hj : j < 16) : w1.cell? ⟨g, j, none⟩ = some (.int k (wd L j : Nat)) := h.1.cell j (by rw [h.2.1]; exact hj)
theorem QPost.frozen {k : IntKind} {T : TypeId} {tl : List Value} {w w1 : World} {g : Nat} {L : List Nat} (h : QPost k T tl w g L w1) (j : Nat) : w1.frozen? ⟨g, j, none⟩ = false := h.1.frozen j
theorem QPost.lt {k : IntKind} {T : TypeId} {tl : List Value} {w w1 : World} {g : Nat} {L : List Nat} (h : QPost k T tl w g L w1) (j : Nat) : wd L j < 4294967296 := h.2.2.1.wd j
theorem QPost.add {k : IntKind} {T : TypeId} {tl : List Value} {w w1 : World} {g : Nat} {L : List Nat} (h : QPost k T tl w g L w1) (a b : Nat) (ha : a < 16) :
    QPost k T tl w g (addW L a b) (w1.setCell ⟨g, a, none⟩ (.int k (((wd L a : Nat) + (wd L b : Nat)) % 4294967296))).drew := h.set a _ ha (Nat.mod_lt _ (by omega)) _ (by omega)
theorem QPost.rot {k : IntKind} {T : TypeId} {tl : List Value} {w w1 : World} {g : Nat} {L : List Nat} (h : QPost k T tl w g L w1) (d a n : Nat) (hd : d < 16) :
    QPost k T tl w g (rotW L d a n) (w1.setCell ⟨g, d, none⟩ (.int k (rotl (wd L d ^^^ wd L a) n : Nat))).drew := h.set d _ hd (rotl_lt _ _ (xorlt _ _ (h.lt _) (h.lt _))) _ rfl

set_option maxHeartbeats 8000000 in
set_option maxRecDepth 40000 in
theorem iQuarter (T : TypeId) (g a b c d : Nat) (L : List Nat) (w w0 : World) (hW : QPost .u32 T [] w0 g L w) (ha : a < 16) (hb : b < 16) (hc : c < 16) (hd : d < 16) :
    Calls Tryd.prog 119 #[.pointer (some ⟨g, 0, none⟩), .int .i64 a, .int .i64 b, .int .i64 c, .int .i64 d] w fun e w' => e = .returned (.tuple #[]) ∧ QPost .u32 T [] w0 g (quarter L a b c d) w' := by
  have ia : (a : Int) < 16 := by omega
  have ib : (b : Int) < 16 := by omega
  have ic : (c : Int) < 16 := by omega
  have id : (d : Int) < 16 := by omega
  have HQ := hide hW
  obtain ⟨L9, h9⟩ : ∃ L9, L9 = quarter L a b c d := ⟨_, rfl⟩
  rw [← h9]
  unfold quarter at h9
  have HE := hide h9
  clear h9 hW
  go_enter Tryd.func119, Tryd.ntmps119
  go_wp2_with fail
  have c1 := HQ.out.cell a ha
  have c2 := HQ.out.cell b hb
  have f1 := HQ.out.frozen a
  refine wp_region_still_tail 13 (by kernel_rfl) (by kernel_rfl) ?_
  simp only [List.take_succ_cons, List.take_zero, List.drop_succ_cons, List.drop_zero]
  iterate 13 still_step
  refine wpStill_nil ?_
  go_wp2_with fail
  have HN := hide (HQ.out.add a b ha)
  clear c1 c2 f1 HQ
  generalize (w.setCell ⟨g, a, none⟩ (.int .u32 (((wd L a : Nat) + (wd L b : Nat)) % 4294967296))).drew = w1 at HN ⊢
  generalize addW L a b = L1 at HN HE
  have HQ := HN
  clear HN
  have c1 := HQ.out.cell d hd
  have c2 := HQ.out.cell a ha
  have f1 := HQ.out.frozen d
  have hx := u32_xor_nat (wd L1 d) (wd L1 a) (HQ.out.lt _) (HQ.out.lt _)
  have hr := fun W => (rot16 (wd L1 d ^^^ wd L1 a) (xorlt _ _ (HQ.out.lt _) (HQ.out.lt _)) W).mono fun _ _ h => (⟨h.1, h.2.symm⟩ : _ ∧ _)
  refine wp_region_still_tail 16 (by kernel_rfl) (by kernel_rfl) ?_
  simp only [List.take_succ_cons, List.take_zero, List.drop_succ_cons, List.drop_zero]
  iterate 13 still_step
  still_call (hr _)
  iterate 2 still_step
  refine wpStill_nil ?_
  go_wp2_with fail
  have HN := hide (HQ.out.rot d a 16 hd)
  clear c1 c2 f1 hx hr HQ
  generalize (w1.setCell ⟨g, d, none⟩ (.int .u32 ((rotl (wd L1 d ^^^ wd L1 a) 16 : Nat)))).drew = w2 at HN ⊢
  generalize rotW L1 d a 16 = L2 at HN HE
  have HQ := HN
  clear HN
  have c1 := HQ.out.cell c hc
  have c2 := HQ.out.cell d hd
  have f1 := HQ.out.frozen c
  refine wp_region_still_tail 13 (by kernel_rfl) (by kernel_rfl) ?_
  simp only [List.take_succ_cons, List.take_zero, List.drop_succ_cons, List.drop_zero]
  iterate 13 still_step
  refine wpStill_nil ?_
  go_wp2_with fail
  have HN := hide (HQ.out.add c d hc)
  clear c1 c2 f1 HQ
  generalize (w2.setCell ⟨g, c, none⟩ (.int .u32 (((wd L2 c : Nat) + (wd L2 d : Nat)) % 4294967296))).drew = w3 at HN ⊢
  generalize addW L2 c d = L3 at HN HE
  have HQ := HN
  clear HN
  have c1 := HQ.out.cell b hb
  have c2 := HQ.out.cell c hc
  have f1 := HQ.out.frozen b
  have hx := u32_xor_nat (wd L3 b) (wd L3 c) (HQ.out.lt _) (HQ.out.lt _)
  have hr := fun W => (rot12 (wd L3 b ^^^ wd L3 c) (xorlt _ _ (HQ.out.lt _) (HQ.out.lt _)) W).mono fun _ _ h => (⟨h.1, h.2.symm⟩ : _ ∧ _)
  refine wp_region_still_tail 16 (by kernel_rfl) (by kernel_rfl) ?_
  simp only [List.take_succ_cons, List.take_zero, List.drop_succ_cons, List.drop_zero]
  iterate 13 still_step
  still_call (hr _)
  iterate 2 still_step
  refine wpStill_nil ?_
  go_wp2_with fail
  have HN := hide (HQ.out.rot b c 12 hb)
  clear c1 c2 f1 hx hr HQ
  generalize (w3.setCell ⟨g, b, none⟩ (.int .u32 ((rotl (wd L3 b ^^^ wd L3 c) 12 : Nat)))).drew = w4 at HN ⊢
  generalize rotW L3 b c 12 = L4 at HN HE
  have HQ := HN
  clear HN
  have c1 := HQ.out.cell a ha
  have c2 := HQ.out.cell b hb
  have f1 := HQ.out.frozen a
  refine wp_region_still_tail 13 (by kernel_rfl) (by kernel_rfl) ?_
  simp only [List.take_succ_cons, List.take_zero, List.drop_succ_cons, List.drop_zero]
  iterate 13 still_step
  refine wpStill_nil ?_
  go_wp2_with fail
  have HN := hide (HQ.out.add a b ha)
  clear c1 c2 f1 HQ
  generalize (w4.setCell ⟨g, a, none⟩ (.int .u32 (((wd L4 a : Nat) + (wd L4 b : Nat)) % 4294967296))).drew = w5 at HN ⊢
  generalize addW L4 a b = L5 at HN HE
  have HQ := HN
  clear HN
  have c1 := HQ.out.cell d hd
  have c2 := HQ.out.cell a ha
  have f1 := HQ.out.frozen d
  have hx := u32_xor_nat (wd L5 d) (wd L5 a) (HQ.out.lt _) (HQ.out.lt _)
  have hr := fun W => (rot8 (wd L5 d ^^^ wd L5 a) (xorlt _ _ (HQ.out.lt _) (HQ.out.lt _)) W).mono fun _ _ h => (⟨h.1, h.2.symm⟩ : _ ∧ _)
  refine wp_region_still_tail 16 (by kernel_rfl) (by kernel_rfl) ?_
  simp only [List.take_succ_cons, List.take_zero, List.drop_succ_cons, List.drop_zero]
  iterate 13 still_step
  still_call (hr _)
  iterate 2 still_step
  refine wpStill_nil ?_
  go_wp2_with fail
  have HN := hide (HQ.out.rot d a 8 hd)
  clear c1 c2 f1 hx hr HQ
  generalize (w5.setCell ⟨g, d, none⟩ (.int .u32 ((rotl (wd L5 d ^^^ wd L5 a) 8 : Nat)))).drew = w6 at HN ⊢
  generalize rotW L5 d a 8 = L6 at HN HE
  have HQ := HN
  clear HN
  have c1 := HQ.out.cell c hc
  have c2 := HQ.out.cell d hd
  have f1 := HQ.out.frozen c
  refine wp_region_still_tail 13 (by kernel_rfl) (by kernel_rfl) ?_
  simp only [List.take_succ_cons, List.take_zero, List.drop_succ_cons, List.drop_zero]
  iterate 13 still_step
  refine wpStill_nil ?_
  go_wp2_with fail
  have HN := hide (HQ.out.add c d hc)
  clear c1 c2 f1 HQ
  generalize (w6.setCell ⟨g, c, none⟩ (.int .u32 (((wd L6 c : Nat) + (wd L6 d : Nat)) % 4294967296))).drew = w7 at HN ⊢
  generalize addW L6 c d = L7 at HN HE
  have HQ := HN
  clear HN
  have c1 := HQ.out.cell b hb
  have c2 := HQ.out.cell c hc
  have f1 := HQ.out.frozen b
  have hx := u32_xor_nat (wd L7 b) (wd L7 c) (HQ.out.lt _) (HQ.out.lt _)
  have hr := fun W => (rot7 (wd L7 b ^^^ wd L7 c) (xorlt _ _ (HQ.out.lt _) (HQ.out.lt _)) W).mono fun _ _ h => (⟨h.1, h.2.symm⟩ : _ ∧ _)
  refine wp_region_still_tail 16 (by kernel_rfl) (by kernel_rfl) ?_
  simp only [List.take_succ_cons, List.take_zero, List.drop_succ_cons, List.drop_zero]
  iterate 13 still_step
  still_call (hr _)
  iterate 2 still_step
  refine wpStill_nil ?_
  go_wp2_with fail
  have HN := hide (HQ.out.rot b c 7 hb)
  clear c1 c2 f1 hx hr HQ
  generalize (w7.setCell ⟨g, b, none⟩ (.int .u32 ((rotl (wd L7 b ^^^ wd L7 c) 7 : Nat)))).drew = w8 at HN ⊢
  generalize rotW L7 b c 7 = L8 at HN HE
  have HQ := HN
  clear HN
  go_end0
  exact ⟨rfl, by rw [HE.out]; exact HQ.out⟩

/-- The same, the places as numbers of their own. -/
theorem iQuarterI (T : TypeId) (g a b c d : Nat) (a' b' c' d' : Int) (L : List Nat) (w w0 : World) (hW : QPost .u32 T [] w0 g L w) (ha : a < 16) (hb : b < 16) (hc : c < 16) (hd : d < 16) (ea : a' = (a : Int)) (eb : b' = (b : Int)) (ec : c' = (c : Int)) (ed : d' = (d : Int)) :
    Calls Tryd.prog 119 #[.pointer (some ⟨g, 0, none⟩), .int .i64 a', .int .i64 b', .int .i64 c', .int .i64 d'] w fun e w' => e = .returned (.tuple #[]) ∧ QPost .u32 T [] w0 g (quarter L a b c d) w' := by
  subst ea eb ec ed
  exact iQuarter T g a b c d L w w0 hW ha hb hc hd
end Go.Proofs.YtakjjfbocokpaaaDoor

/-
  Contract of (*impl.chaWords).doubleRound.
-/
namespace Go.Proofs.YtakjjfbocokpaaaDoor
open Go.ChangeShapes Go.WideShapes Go.ChangeAt Go.RowKit

set_option maxRecDepth 100000

theorem iDouble (T : TypeId) (g : Nat) (L : List Nat) (w w0 : World) (hW : QPost .u32 T [] w0 g L w) :
    Calls Tryd.prog 108 #[.pointer (some ⟨g, 0, none⟩)] w fun e w' => e = .returned (.tuple #[]) ∧ QPost .u32 T [] w0 g (dround L) w' := by
  have HW := hide hW
  clear hW
  go_enter Tryd.func108, Tryd.ntmps108
  go_wp2
  go_loopw [2, 4] (fun _ i wr => ∃ j : Nat, j ≤ 4 ∧ i = .int .i64 j ∧ Hid (QPost .u32 T [] w0 g (colRound L j) wr)) (fun _ i _ => 4 - (intOf i).toNat)
  case atStart => exact ⟨0, by omega, rfl, HW⟩
  case round =>
    obtain ⟨j, hj, rfl, HR⟩ := hrel
    by_cases hlt : j < 4
    · go_wp2_with (go_at_call 119; refine (iQuarterI T g j (4 + j) (8 + j) (12 + j) _ _ _ _ _ _ _ HR.out (by omega) (by omega) (by omega) (by omega) (by omega) (by omega) (by omega) (by omega)).mono ?_; rintro e w' ⟨rfl, hq⟩; have HN := hide hq; clear hq)
      go_roundw
      case rel => exact ⟨j + 1, by omega, by go_num, HN⟩
      case measure => simp [intOf]; omega
    · have e4 : j = 4 := by omega
      rw [e4] at HR
      clear e4
      go_wp2
      go_loopw [3, 17] (fun _ i wr => ∃ j : Nat, j ≤ 4 ∧ i = .int .i64 j ∧ Hid (QPost .u32 T [] w0 g (diaRound (colRound L 4) j) wr)) (fun _ i _ => 4 - (intOf i).toNat)
      case atStart => exact ⟨0, by omega, rfl, HR⟩
      case round =>
        obtain ⟨j, hj, rfl, HR⟩ := hrel
        by_cases hlt : j < 4
        · go_wp2_with (go_at_call 119; refine (iQuarterI T g j (4 + (j + 1) % 4) (8 + (j + 2) % 4) (12 + (j + 3) % 4) _ _ _ _ _ _ _ HR.out (by omega) (by omega) (by omega) (by omega) (by omega) (by omega) (by omega) (by omega)).mono ?_; rintro e w' ⟨rfl, hq⟩; have HN := hide hq; clear hq)
          go_roundw
          case rel => exact ⟨j + 1, by omega, by go_num, HN⟩
          case measure => simp [intOf]; omega
        · have e4 : j = 4 := by omega
          rw [e4] at HR
          clear e4
          go_wp2
          go_end0
          exact ⟨rfl, HR.out⟩
end Go.Proofs.YtakjjfbocokpaaaDoor

/-
  Contract of (*impl.chaWords).fill.
-/
namespace Go.Proofs.YtakjjfbocokpaaaDoor
open Go.ChangeShapes Go.WideShapes Go.ChangeAt Go.RowKit

def fillL (L : List Nat) (p : Nat) (l : List UInt8) : Nat → List Nat
  | 0 => L
  | i + 1 => (fillL L p l i).set (p + i / 4) (wd (fillL L p l i) (p + i / 4) ||| (l.getD i 0).toNat * 2 ^ (8 * (i % 4)))

set_option maxHeartbeats 8000000 in
set_option maxRecDepth 40000 in
theorem iFill (T : TypeId) (g p : Nat) (s : ByteArray) (L : List Nat) (w w0 : World) (hW : QPost .u32 T [] w0 g L w) (hp : 4 * p + s.size ≤ 64) :
    Calls Tryd.prog 107 #[.pointer (some ⟨g, 0, none⟩), .int .i64 p, .string s] w fun e w' => e = .returned (.tuple #[]) ∧ QPost .u32 T [] w0 g (fillL L p (bl s) s.size) w' := by
  have HW := hide hW
  clear hW
  go_enter Tryd.func107, Tryd.ntmps107
  go_wp2
  go_loopw [6, 9] (fun _ i wr => ∃ j : Nat, j ≤ s.size ∧ i = .int .i64 j ∧ Hid (QPost .u32 T [] w0 g (fillL L p (bl s) j) wr)) (fun _ i _ => s.size - (intOf i).toNat)
  case atStart => exact ⟨0, by omega, rfl, HW⟩
  case round =>
    obtain ⟨j, hj, rfl, HR⟩ := hrel
    by_cases hlt : j < s.size
    · go_wp2_with fail
      obtain ⟨q, hq⟩ : ∃ q, q = j / 4 := ⟨_, rfl⟩
      obtain ⟨m, hm⟩ : ∃ m, m = p + q := ⟨_, rfl⟩
      obtain ⟨r, hr⟩ : ∃ r, r = j % 4 := ⟨_, rfl⟩
      obtain ⟨t, ht⟩ : ∃ t, t = 8 * r := ⟨_, rfl⟩
      have e1 : IntKind.i64.wrap ((j : Int) / 4) = (q : Int) := by rw [IntKind.wrap_i64]; omega
      have e2 : IntKind.i64.wrap ((p : Int) + (q : Int)) = (m : Int) := by rw [IntKind.wrap_i64]; omega
      have e3 : (j : Int).tmod 4 = (r : Int) := by rw [Int.tmod_eq_emod_of_nonneg (by omega)]; omega
      have e4 : IntKind.i64.wrap (8 * (r : Int)) = (t : Int) := by rw [IntKind.wrap_i64]; omega
      have c1 := HR.out.cell m (by omega)
      have f1 := HR.out.frozen m
      have i1 : (m : Int) < 16 := by omega
      have b1 := HR.out.lt m
      have bs : (s[j]'hlt).toNat < 256 := (s[j]'hlt).toNat_lt
      have e5 : IntKind.u32.wrap ((s[j]'hlt).toNat : Int) = ((s[j]'hlt).toNat : Int) := by rw [IntKind.wrap_u32]; omega
      have i2 : (t : Int) ≤ 32 := by omega
      obtain ⟨x, hx⟩ : ∃ x, x = (s[j]'hlt).toNat * 2 ^ t := ⟨_, rfl⟩
      have bx : x < 4294967296 := by
        have : r = 0 ∨ r = 1 ∨ r = 2 ∨ r = 3 := by omega
        rcases this with h | h | h | h <;> (rw [ht, h] at hx; simp at hx; omega)
      have e6 : IntKind.u32.wrap (((s[j]'hlt).toNat : Int) * 2 ^ t) = (x : Int) := by
        have h2 : (x : Int) = ((s[j]'hlt).toNat : Int) * 2 ^ t := by rw [hx, Int.natCast_mul, Int.natCast_pow]; rfl
        rw [IntKind.wrap_u32, ← h2]
        omega
      have e7 := u32_or_nat (wd (fillL L p (bl s) j) m) x b1 bx
      have Hx := hide hx
      clear hx
      have Hq := hide hq
      have Hm := hide hm
      have Hr := hide hr
      have Ht := hide ht
      clear hq hm hr ht
      refine wp_region_still_tail 19 (by kernel_rfl) (by kernel_rfl) ?_
      simp only [List.take_succ_cons, List.take_zero, List.drop_succ_cons, List.drop_zero]
      iterate 19 still_step
      refine wpStill_nil ?_
      go_wp2_with fail
      go_roundw
      case rel =>
        refine ⟨j + 1, by omega, by go_num, ?_⟩
        have := HR.out.set m (wd (fillL L p (bl s) j) m ||| x) (by omega) (Nat.or_lt_two_pow (n := 32) b1 bx) _ rfl
        have e : fillL L p (bl s) (j + 1) = (fillL L p (bl s) j).set m (wd (fillL L p (bl s) j) m ||| x) := by
          rw [Hx.out, Hm.out, Hq.out, Ht.out, Hr.out]
          show List.set _ _ _ = _
          rw [show (bl s).getD j 0 = s[j]'hlt by simp [List.getD, bl_len, hlt, bl_at s j hlt]]
        show QPost _ _ _ _ _ _ _
        rw [e]
        exact this
      case measure => simp [intOf]; omega
    · have e4 : j = s.size := by omega
      rw [e4] at HR
      go_wp2
      go_end0
      exact ⟨rfl, HR.out⟩
end Go.Proofs.YtakjjfbocokpaaaDoor

/-
  Plain mathematics for chapter 3: bytes gathered into words one by one.
-/
namespace Go.Proofs.YtakjjfbocokpaaaDoor
open Go.RowKit

theorem length_fillL (L : List Nat) (p : Nat) (l : List UInt8) : ∀ i, (fillL L p l i).length = L.length
  | 0 => rfl
  | i + 1 => by rw [fillL, List.length_set, length_fillL L p l i]
theorem fillL_step (L : List Nat) (p : Nat) (l : List UInt8) (i : Nat) (h : p + i / 4 < L.length) (j : Nat) :
    wd (fillL L p l (i + 1)) j = if p + i / 4 = j then wd (fillL L p l i) j ||| (l.getD i 0).toNat * 2 ^ (8 * (i % 4)) else wd (fillL L p l i) j := by
  rw [fillL, wd_set _ _ _ _ (by rw [length_fillL]; exact h)]
  split
  · rename_i e; rw [e]
  · rfl
theorem fillL_word (L : List Nat) (p : Nat) (l : List UInt8) (n : Nat) (h : p + n < L.length) (j : Nat) :
    wd (fillL L p l (4 * n + 4)) j = if p + n = j then (((wd (fillL L p l (4 * n)) j ||| (l.getD (4 * n) 0).toNat) ||| (l.getD (4 * n + 1) 0).toNat * 256) ||| (l.getD (4 * n + 2) 0).toNat * 65536) ||| (l.getD (4 * n + 3) 0).toNat * 16777216 else wd (fillL L p l (4 * n)) j := by
  have e0 : 4 * n / 4 = n := by omega
  have e1 : (4 * n + 1) / 4 = n := by omega
  have e2 : (4 * n + 2) / 4 = n := by omega
  have e3 : (4 * n + 3) / 4 = n := by omega
  have m0 : 4 * n % 4 = 0 := by omega
  have m1 : (4 * n + 1) % 4 = 1 := by omega
  have m2 : (4 * n + 2) % 4 = 2 := by omega
  have m3 : (4 * n + 3) % 4 = 3 := by omega
  rw [show 4 * n + 4 = 4 * n + 3 + 1 from rfl, fillL_step _ _ _ _ (by omega), show 4 * n + 3 = 4 * n + 2 + 1 from rfl, fillL_step _ _ _ _ (by omega), show 4 * n + 2 = 4 * n + 1 + 1 from rfl, fillL_step _ _ _ _ (by omega), fillL_step _ _ _ _ (by omega)]
  simp only [Nat.add_assoc, Nat.reduceAdd, e0, e1, e2, e3, m0, m1, m2, m3, Nat.reduceMul, Nat.reducePow, Nat.mul_one, Nat.mul_zero, Nat.pow_zero]
  split <;> rfl
theorem fillL_all (L : List Nat) (p : Nat) (l : List UInt8) (hz : ∀ q, p ≤ q → wd L q = 0) : ∀ n, p + n ≤ L.length → ∀ j, wd (fillL L p l (4 * n)) j = if p ≤ j ∧ j < p + n then leW l (4 * (j - p)) else wd L j
  | 0, _, j => by rw [if_neg (by omega)]; rfl
  | n + 1, h, j => by
    rw [show 4 * (n + 1) = 4 * n + 4 by omega, fillL_word L p l n (by omega)]
    have ih := fillL_all L p l hz n (by omega) j
    by_cases hj : p + n = j
    · rw [if_pos hj, if_pos (by omega), ih, if_neg (by omega), hz j (by omega), show 4 * (j - p) = 4 * n by omega, Nat.zero_or]
      rfl
    · rw [if_neg hj, ih]
      by_cases h2 : p ≤ j ∧ j < p + n
      · rw [if_pos h2, if_pos (by omega)]
      · rw [if_neg h2, if_neg (by omega)]
def chaText : List UInt8 := [101, 120, 112, 97, 110, 100, 32, 51, 50, 45, 98, 121, 116, 101, 32, 107]
theorem wd_append (A B : List Nat) (j : Nat) : wd (A ++ B) j = if j < A.length then wd A j else wd B (j - A.length) := by
  unfold wd
  split
  · rename_i h; simp only [List.getD]; rw [List.getElem?_append_left h]
  · rename_i h; simp only [List.getD]; rw [List.getElem?_append_right (by omega)]
theorem wd_leWs (l : List UInt8) (n j : Nat) (h : j < n) : wd (leWs l n) j = leW l (4 * j) := by
  rw [wd_eq _ _ (by simp [leWs]; exact h)]; simp [leWs]
theorem wd_zero (n j : Nat) : wd (List.replicate n 0) j = 0 := by
  unfold wd
  simp only [List.getD, List.getElem?_replicate]
  split <;> rfl
/-- the four steps by which the program lays a block's words -/
def chaLaid (k : List UInt8) (c : Nat) (n : List UInt8) : List Nat :=
  fillL ((fillL (fillL (List.replicate 16 0) 0 chaText 16) 4 k 32).set 12 c) 13 n 12
theorem chaLaid_eq (k : List UInt8) (c : Nat) (n : List UInt8) : chaLaid k c n = chaStart k c n := by
  have l1 : (fillL (List.replicate 16 0) 0 chaText 16).length = 16 := by rw [length_fillL]; simp
  have l2 : (fillL (fillL (List.replicate 16 0) 0 chaText 16) 4 k 32).length = 16 := by rw [length_fillL, l1]
  have l3 : ((fillL (fillL (List.replicate 16 0) 0 chaText 16) 4 k 32).set 12 c).length = 16 := by rw [List.length_set, l2]
  have f1 := fillL_all (List.replicate 16 0) 0 chaText (fun q _ => wd_zero _ _) 4 (by simp)
  have f2 := fillL_all (fillL (List.replicate 16 0) 0 chaText 16) 4 k (fun q hq => by rw [f1, if_neg (by omega), wd_zero]) 8 (by omega)
  have f3 : ∀ j, wd ((fillL (fillL (List.replicate 16 0) 0 chaText 16) 4 k 32).set 12 c) j = if 12 = j then c else wd (fillL (fillL (List.replicate 16 0) 0 chaText 16) 4 k 32) j := fun j => wd_set _ _ _ _ (by omega)
  have f4 := fillL_all ((fillL (fillL (List.replicate 16 0) 0 chaText 16) 4 k 32).set 12 c) 13 n (fun q hq => by rw [f3, if_neg (by omega), f2, if_neg (by omega), f1, if_neg (by omega), wd_zero]) 3 (by omega)
  refine ext_wd (by rw [chaLaid, length_fillL, l3, length_chaStart]) fun j hj => ?_
  rw [chaLaid, length_fillL, l3] at hj
  rw [chaLaid, f4, f3, f2, f1, wd_zero, chaStart, wd_append, wd_append, wd_append]
  have e1 : (chaConst ++ leWs k 8 ++ [c]).length = 13 := by simp [chaConst, leWs]
  have e2 : (chaConst ++ leWs k 8).length = 12 := by simp [chaConst, leWs]
  have e3 : chaConst.length = 4 := rfl
  rw [e1, e2, e3]
  by_cases h1 : j < 4
  · rw [if_neg (by omega), if_neg (by omega), if_neg (by omega), if_pos (by omega), if_pos (by omega), if_pos (by omega), if_pos (by omega)]
    have : ∀ j : Fin 4, leW chaText (4 * (j.val - 0)) = wd chaConst j.val := by decide
    exact this ⟨j, h1⟩
  by_cases h2 : j < 12
  · rw [if_neg (by omega), if_neg (by omega), if_pos (by omega), if_pos (by omega), if_pos (by omega), if_neg (by omega), wd_leWs _ _ _ (by omega)]
  by_cases h3 : j = 12
  · subst h3; rfl
  · rw [if_pos (by omega), if_neg (by omega), wd_leWs _ _ _ (by omega)]
end Go.Proofs.YtakjjfbocokpaaaDoor

/-
  Contract of spec.l3Little.
-/
namespace Go.Proofs.YtakjjfbocokpaaaDoor
open Go.ChangeShapes Go.WideShapes Go.ChangeAt Go.RowKit

theorem getD_bl (s : ByteArray) (p : Nat) (h : p < s.size) : (bl s).getD p 0 = s[p]'h := by
  simp [List.getD, bl_len, h, bl_at s p h]
set_option maxRecDepth 40000 in
theorem sLittle (s : ByteArray) (p : Nat) (h : p + 3 < s.size) (hm : s.size ≤ maxLen) (w : World) :
    Calls Tryd.prog 120 #[.string s, .int .i64 p] w fun e w' => e = .returned (.int .i64 (leW (bl s) p : Nat)) ∧ w' = w.drew := by
  unfold maxLen at hm
  obtain ⟨p1, q1⟩ : ∃ x, x = p + 1 := ⟨_, rfl⟩
  obtain ⟨p2, q2⟩ : ∃ x, x = p + 2 := ⟨_, rfl⟩
  obtain ⟨p3, q3⟩ : ∃ x, x = p + 3 := ⟨_, rfl⟩
  have w1 : IntKind.i64.wrap ((p : Int) + 1) = (p1 : Int) := by rw [IntKind.wrap_i64]; omega
  have w2 : IntKind.i64.wrap ((p : Int) + 2) = (p2 : Int) := by rw [IntKind.wrap_i64]; omega
  have w3 : IntKind.i64.wrap ((p : Int) + 3) = (p3 : Int) := by rw [IntKind.wrap_i64]; omega
  have h0 : p < s.size := by omega
  have h1 : p1 < s.size := by omega
  have h2 : p2 < s.size := by omega
  have h3 : p3 < s.size := by omega
  have HL : Hid (leW (bl s) p = (((s[p].toNat ||| s[p1].toNat * 256) ||| s[p2].toNat * 65536) ||| s[p3].toNat * 16777216)) := by
    subst q1 q2 q3
    show _ = _
    rw [leW, getD_bl s p h0, getD_bl s (p + 1) h1, getD_bl s (p + 2) h2, getD_bl s (p + 3) h3]
  have Q1 := hide q1
  have Q2 := hide q2
  have Q3 := hide q3
  clear q1 q2 q3
  have b0 : s[p].toNat < 256 := s[p].toNat_lt
  have b1 : s[p1].toNat < 256 := s[p1].toNat_lt
  have b2 : s[p2].toNat < 256 := s[p2].toNat_lt
  have b3 : s[p3].toNat < 256 := s[p3].toNat_lt
  obtain ⟨x1, y1⟩ : ∃ x, x = s[p1].toNat * 256 := ⟨_, rfl⟩
  obtain ⟨x2, y2⟩ : ∃ x, x = s[p2].toNat * 65536 := ⟨_, rfl⟩
  obtain ⟨x3, y3⟩ : ∃ x, x = s[p3].toNat * 16777216 := ⟨_, rfl⟩
  rw [← y1, ← y2, ← y3] at HL
  have v0 : IntKind.i64.wrap (s[p].toNat : Int) = (s[p].toNat : Int) := by rw [IntKind.wrap_i64]; omega
  have v1 : IntKind.i64.wrap (s[p1].toNat : Int) = (s[p1].toNat : Int) := by rw [IntKind.wrap_i64]; omega
  have v2 : IntKind.i64.wrap (s[p2].toNat : Int) = (s[p2].toNat : Int) := by rw [IntKind.wrap_i64]; omega
  have v3 : IntKind.i64.wrap (s[p3].toNat : Int) = (s[p3].toNat : Int) := by rw [IntKind.wrap_i64]; omega
  have u1 : IntKind.i64.wrap ((s[p1].toNat : Int) * 256) = (x1 : Int) := by rw [IntKind.wrap_i64]; omega
  have u2 : IntKind.i64.wrap ((s[p2].toNat : Int) * 65536) = (x2 : Int) := by rw [IntKind.wrap_i64]; omega
  have u3 : IntKind.i64.wrap ((s[p3].toNat : Int) * 16777216) = (x3 : Int) := by rw [IntKind.wrap_i64]; omega
  have z1 : s[p].toNat ||| x1 < 4294967296 := Nat.or_lt_two_pow (n := 32) (by omega) (by omega)
  have z2 : s[p].toNat ||| x1 ||| x2 < 4294967296 := Nat.or_lt_two_pow (n := 32) z1 (by omega)
  have o1 := i64_or_nat s[p].toNat x1 (by omega) (by omega)
  have o2 := i64_or_nat (s[p].toNat ||| x1) x2 (by omega) (by omega)
  have o3 := i64_or_nat (s[p].toNat ||| x1 ||| x2) x3 (by omega) (by omega)
  clear y1 y2 y3 z1 z2
  go_enter Tryd.func120, Tryd.ntmps120
  go_wp2_with fail
  refine wp_region_still_lit (by kernel_rfl) (by kernel_rfl) ?_
  iterate 26 still_step
  refine wpStill_nil ?_
  go_wp2_with fail
  go_ret
  exact ⟨ret_int (by rw [HL.out]), rfl⟩
end Go.Proofs.YtakjjfbocokpaaaDoor

/-
  Contract of spec.l3Quarter.
-/
namespace Go.Proofs.YtakjjfbocokpaaaDoor
open Go.ChangeShapes Go.WideShapes Go.ChangeAt Go.RowKit


set_option maxHeartbeats 8000000 in
set_option maxRecDepth 40000 in
theorem sQuarter (T : TypeId) (tl : List Value) (g cap a b c d : Nat) (L : List Nat) (w w0 : World) (hW : QPost .i64 T tl w0 g L w) (ha : a < 16) (hb : b < 16) (hc : c < 16) (hd : d < 16) :
    Calls Tryd.prog 121 #[.slice (some ⟨g, 0, none⟩) 16 cap, .int .i64 a, .int .i64 b, .int .i64 c, .int .i64 d] w fun e w' => e = .returned (.slice (some ⟨g, 0, none⟩) 16 cap) ∧ QPost .i64 T tl w0 g (quarter L a b c d) w' := by
  have ia : (a : Int) < 16 := by omega
  have ib : (b : Int) < 16 := by omega
  have ic : (c : Int) < 16 := by omega
  have id : (d : Int) < 16 := by omega
  have HQ := hide hW
  obtain ⟨L9, h9⟩ : ∃ L9, L9 = quarter L a b c d := ⟨_, rfl⟩
  rw [← h9]
  unfold quarter at h9
  have HE := hide h9
  clear h9 hW
  go_enter Tryd.func121, Tryd.ntmps121
  go_wp2_with fail
  have c1 := HQ.out.cell a ha
  have c2 := HQ.out.cell b hb
  have f1 := HQ.out.frozen a
  have b1 := HQ.out.lt a
  have b2 := HQ.out.lt b
  have hx : IntKind.i64.wrap ((wd L a : Nat) + (wd L b : Nat)) = ((wd L a + wd L b : Nat) : Int) := by rw [IntKind.wrap_i64]; omega
  have hr := fun W => (l3Word_any (wd L a + wd L b) (by omega) W).mono fun _ _ h => (⟨h.1, h.2.symm⟩ : _ ∧ _)
  refine wp_region_still_tail 13 (by kernel_rfl) (by kernel_rfl) ?_
  simp only [List.take_succ_cons, List.take_zero, List.drop_succ_cons, List.drop_zero]
  iterate 11 still_step
  still_call (hr _)
  still_step
  refine wpStill_nil ?_
  go_wp2_with fail
  have HN := hide (HQ.out.add a b ha)
  clear c1 c2 f1 b1 b2 hx hr HQ
  generalize (w.setCell ⟨g, a, none⟩ (.int .i64 (((wd L a : Nat) + (wd L b : Nat)) % 4294967296))).drew = w1 at HN ⊢
  generalize addW L a b = L1 at HN HE
  have HQ := HN
  clear HN
  have c1 := HQ.out.cell d hd
  have c2 := HQ.out.cell a ha
  have f1 := HQ.out.frozen d
  have b1 := HQ.out.lt d
  have b2 := HQ.out.lt a
  have hx := i64_xor_nat (wd L1 d) (wd L1 a) (by omega) (by omega)
  have hr := fun W => (left16 (wd L1 d ^^^ wd L1 a) (xorlt _ _ b1 b2) W).mono fun _ _ h => (⟨h.1, h.2.symm⟩ : _ ∧ _)
  refine wp_region_still_tail 13 (by kernel_rfl) (by kernel_rfl) ?_
  simp only [List.take_succ_cons, List.take_zero, List.drop_succ_cons, List.drop_zero]
  iterate 11 still_step
  still_call (hr _)
  still_step
  refine wpStill_nil ?_
  go_wp2_with fail
  have HN := hide (HQ.out.rot d a 16 hd)
  clear c1 c2 f1 b1 b2 hx hr HQ
  generalize (w1.setCell ⟨g, d, none⟩ (.int .i64 (rotl (wd L1 d ^^^ wd L1 a) 16 : Nat))).drew = w2 at HN ⊢
  generalize rotW L1 d a 16 = L2 at HN HE
  have HQ := HN
  clear HN
  have c1 := HQ.out.cell c hc
  have c2 := HQ.out.cell d hd
  have f1 := HQ.out.frozen c
  have b1 := HQ.out.lt c
  have b2 := HQ.out.lt d
  have hx : IntKind.i64.wrap ((wd L2 c : Nat) + (wd L2 d : Nat)) = ((wd L2 c + wd L2 d : Nat) : Int) := by rw [IntKind.wrap_i64]; omega
  have hr := fun W => (l3Word_any (wd L2 c + wd L2 d) (by omega) W).mono fun _ _ h => (⟨h.1, h.2.symm⟩ : _ ∧ _)
  refine wp_region_still_tail 13 (by kernel_rfl) (by kernel_rfl) ?_
  simp only [List.take_succ_cons, List.take_zero, List.drop_succ_cons, List.drop_zero]
  iterate 11 still_step
  still_call (hr _)
  still_step
  refine wpStill_nil ?_
  go_wp2_with fail
  have HN := hide (HQ.out.add c d hc)
  clear c1 c2 f1 b1 b2 hx hr HQ
  generalize (w2.setCell ⟨g, c, none⟩ (.int .i64 (((wd L2 c : Nat) + (wd L2 d : Nat)) % 4294967296))).drew = w3 at HN ⊢
  generalize addW L2 c d = L3 at HN HE
  have HQ := HN
  clear HN
  have c1 := HQ.out.cell b hb
  have c2 := HQ.out.cell c hc
  have f1 := HQ.out.frozen b
  have b1 := HQ.out.lt b
  have b2 := HQ.out.lt c
  have hx := i64_xor_nat (wd L3 b) (wd L3 c) (by omega) (by omega)
  have hr := fun W => (left12 (wd L3 b ^^^ wd L3 c) (xorlt _ _ b1 b2) W).mono fun _ _ h => (⟨h.1, h.2.symm⟩ : _ ∧ _)
  refine wp_region_still_tail 13 (by kernel_rfl) (by kernel_rfl) ?_
  simp only [List.take_succ_cons, List.take_zero, List.drop_succ_cons, List.drop_zero]
  iterate 11 still_step
  still_call (hr _)
  still_step
  refine wpStill_nil ?_
  go_wp2_with fail
  have HN := hide (HQ.out.rot b c 12 hb)
  clear c1 c2 f1 b1 b2 hx hr HQ
  generalize (w3.setCell ⟨g, b, none⟩ (.int .i64 (rotl (wd L3 b ^^^ wd L3 c) 12 : Nat))).drew = w4 at HN ⊢
  generalize rotW L3 b c 12 = L4 at HN HE
  have HQ := HN
  clear HN
  have c1 := HQ.out.cell a ha
  have c2 := HQ.out.cell b hb
  have f1 := HQ.out.frozen a
  have b1 := HQ.out.lt a
  have b2 := HQ.out.lt b
  have hx : IntKind.i64.wrap ((wd L4 a : Nat) + (wd L4 b : Nat)) = ((wd L4 a + wd L4 b : Nat) : Int) := by rw [IntKind.wrap_i64]; omega
  have hr := fun W => (l3Word_any (wd L4 a + wd L4 b) (by omega) W).mono fun _ _ h => (⟨h.1, h.2.symm⟩ : _ ∧ _)
  refine wp_region_still_tail 13 (by kernel_rfl) (by kernel_rfl) ?_
  simp only [List.take_succ_cons, List.take_zero, List.drop_succ_cons, List.drop_zero]
  iterate 11 still_step
  still_call (hr _)
  still_step
  refine wpStill_nil ?_
  go_wp2_with fail
  have HN := hide (HQ.out.add a b ha)
  clear c1 c2 f1 b1 b2 hx hr HQ
  generalize (w4.setCell ⟨g, a, none⟩ (.int .i64 (((wd L4 a : Nat) + (wd L4 b : Nat)) % 4294967296))).drew = w5 at HN ⊢
  generalize addW L4 a b = L5 at HN HE
  have HQ := HN
  clear HN
  have c1 := HQ.out.cell d hd
  have c2 := HQ.out.cell a ha
  have f1 := HQ.out.frozen d
  have b1 := HQ.out.lt d
  have b2 := HQ.out.lt a
  have hx := i64_xor_nat (wd L5 d) (wd L5 a) (by omega) (by omega)
  have hr := fun W => (left8 (wd L5 d ^^^ wd L5 a) (xorlt _ _ b1 b2) W).mono fun _ _ h => (⟨h.1, h.2.symm⟩ : _ ∧ _)
  refine wp_region_still_tail 13 (by kernel_rfl) (by kernel_rfl) ?_
  simp only [List.take_succ_cons, List.take_zero, List.drop_succ_cons, List.drop_zero]
  iterate 11 still_step
  still_call (hr _)
  still_step
  refine wpStill_nil ?_
  go_wp2_with fail
  have HN := hide (HQ.out.rot d a 8 hd)
  clear c1 c2 f1 b1 b2 hx hr HQ
  generalize (w5.setCell ⟨g, d, none⟩ (.int .i64 (rotl (wd L5 d ^^^ wd L5 a) 8 : Nat))).drew = w6 at HN ⊢
  generalize rotW L5 d a 8 = L6 at HN HE
  have HQ := HN
  clear HN
  have c1 := HQ.out.cell c hc
  have c2 := HQ.out.cell d hd
  have f1 := HQ.out.frozen c
  have b1 := HQ.out.lt c
  have b2 := HQ.out.lt d
  have hx : IntKind.i64.wrap ((wd L6 c : Nat) + (wd L6 d : Nat)) = ((wd L6 c + wd L6 d : Nat) : Int) := by rw [IntKind.wrap_i64]; omega
  have hr := fun W => (l3Word_any (wd L6 c + wd L6 d) (by omega) W).mono fun _ _ h => (⟨h.1, h.2.symm⟩ : _ ∧ _)
  refine wp_region_still_tail 13 (by kernel_rfl) (by kernel_rfl) ?_
  simp only [List.take_succ_cons, List.take_zero, List.drop_succ_cons, List.drop_zero]
  iterate 11 still_step
  still_call (hr _)
  still_step
  refine wpStill_nil ?_
  go_wp2_with fail
  have HN := hide (HQ.out.add c d hc)
  clear c1 c2 f1 b1 b2 hx hr HQ
  generalize (w6.setCell ⟨g, c, none⟩ (.int .i64 (((wd L6 c : Nat) + (wd L6 d : Nat)) % 4294967296))).drew = w7 at HN ⊢
  generalize addW L6 c d = L7 at HN HE
  have HQ := HN
  clear HN
  have c1 := HQ.out.cell b hb
  have c2 := HQ.out.cell c hc
  have f1 := HQ.out.frozen b
  have b1 := HQ.out.lt b
  have b2 := HQ.out.lt c
  have hx := i64_xor_nat (wd L7 b) (wd L7 c) (by omega) (by omega)
  have hr := fun W => (left7 (wd L7 b ^^^ wd L7 c) (xorlt _ _ b1 b2) W).mono fun _ _ h => (⟨h.1, h.2.symm⟩ : _ ∧ _)
  refine wp_region_still_tail 13 (by kernel_rfl) (by kernel_rfl) ?_
  simp only [List.take_succ_cons, List.take_zero, List.drop_succ_cons, List.drop_zero]
  iterate 11 still_step
  still_call (hr _)
  still_step
  refine wpStill_nil ?_
  go_wp2_with fail
  have HN := hide (HQ.out.rot b c 7 hb)
  clear c1 c2 f1 b1 b2 hx hr HQ
  generalize (w7.setCell ⟨g, b, none⟩ (.int .i64 (rotl (wd L7 b ^^^ wd L7 c) 7 : Nat))).drew = w8 at HN ⊢
  generalize rotW L7 b c 7 = L8 at HN HE
  have HQ := HN
  clear HN
  go_ret
  exact ⟨rfl, by rw [HE.out]; exact HQ.out⟩
end Go.Proofs.YtakjjfbocokpaaaDoor
