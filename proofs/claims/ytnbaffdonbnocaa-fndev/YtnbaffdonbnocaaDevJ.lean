/-
  Contract of impl.DevRead.
-/
import Derived.Test.YtnbaffdonbnocaaDevI
namespace Go.Proofs.Ytnbaffdonbnocaa
open Go.ChangeShapes Go.WideShapes Go.ChangeAt Go.RowKit Go.Shelf
attribute [local go_sem] Oper.semAt_some

/-- of the first j cached writes the last to sector t; else what the sector holds -/
def lastF (S : List ByteArray) (L : List Slot) (t : Int) : Nat → ByteArray
  | 0 => st S t.toNat
  | j + 1 => if tn L j = t then ky L j else lastF S L t j
theorem lastF_yes {S : List ByteArray} {L : List Slot} {t : Int} {j : Nat} (h : tn L j = t) : lastF S L t (j + 1) = ky L j := by rw [lastF, if_pos h]
theorem lastF_no {S : List ByteArray} {L : List Slot} {t : Int} {j : Nat} (h : tn L j ≠ t) : lastF S L t (j + 1) = lastF S L t j := by rw [lastF, if_neg h]
theorem lastF_skip {S : List ByteArray} {L : List Slot} {t : Int} (k m : Nat) (hk : k ≤ m) (h : ∀ i, k ≤ i → i < m → tn L i ≠ t) : lastF S L t m = lastF S L t k := by
  induction m with
  | zero => rw [show k = 0 by omega]
  | succ m ih =>
    rcases Nat.lt_or_ge m k with h1 | h1
    · rw [show k = m + 1 by omega]
    · rw [lastF_no (h m h1 (by omega))]
      exact ih h1 (fun i hi hm => h i hi (by omega))
def ReadPost (w : World) (s : ByteArray) (b : Bool) (e : Ending) (w' : World) : Prop := e = .returned (.tuple #[.string s, .bool b]) ∧ Below w.heap.size w w'

theorem boxBel {W W' : World} {B B' : Nat} {T : TypeId} {v : Value} (h : Boxed W B T v) (hb : Below B' W W') (hB : B < B') : Boxed W' B T v := (hb.block B hB).trans h
theorem boxB_own {β : Type} (T : TypeId) (g : Nat) (v0 v1 v2 : Value) : Own (fun (_ : β) W => BoxB T W g v0 v1 v2) := fun _ X _ _ hs hg hr =>
  (hg.block g hs.lt (fun e => by obtain ⟨o, ho, hc⟩ := hr g e.symm; rw [show X.heap[g]? = _ from hs] at ho; cases ho; cases hc)).trans hs
theorem boxP_own {β : Type} (T : TypeId) (g : Nat) (v0 v1 : Value) : Own (fun (_ : β) W => BoxP T W g v0 v1) := fun _ X _ _ hs hg hr =>
  (hg.block g hs.lt (fun e => by obtain ⟨o, ho, hc⟩ := hr g e.symm; rw [show X.heap[g]? = _ from hs] at ho; cases ho; cases hc)).trans hs
theorem read_boxes (w : World) (v0 v1 v2 u : Value) : ∃ W, W = (((w.alloc (.cells #[v0, v1, v2] 27)).alloc (.cells #[u] 3)).alloc (.cells #[.string ⟨#[]⟩] 9)).alloc (.cells #[.bool false] 4) ∧ Below w.heap.size w W ∧ W.heap.size = w.heap.size + 1 + 1 + 1 + 1 ∧
    BoxB 27 W w.heap.size v0 v1 v2 ∧ Boxed W (w.heap.size + 1) 3 u ∧ Boxed W (w.heap.size + 1 + 1) 9 (.string ⟨#[]⟩) ∧ Boxed W (w.heap.size + 1 + 1 + 1) 4 (.bool false) := by
  refine ⟨_, rfl, ((((Below.refl _ _).alloc (Nat.le_refl _) _).alloc (by simp) _).alloc (by simp <;> omega) _).alloc (by simp <;> omega) _, by simp, (((BoxB.new _ w _ _ _).alloc _).alloc _).alloc _, ?_, ?_, ?_⟩
  · have := ((Boxed.new (w.alloc (.cells #[v0, v1, v2] 27)) 3 u).alloc (.cells #[.string ⟨#[]⟩] 9)).alloc (.cells #[.bool false] 4)
    simp only [Go.Deep.nblk_alloc] at this
    exact this
  · have := (Boxed.new ((w.alloc (.cells #[v0, v1, v2] 27)).alloc (.cells #[u] 3)) 9 (.string ⟨#[]⟩)).alloc (.cells #[.bool false] 4)
    simp only [Go.Deep.nblk_alloc] at this
    exact this
  · have := Boxed.new (((w.alloc (.cells #[v0, v1, v2] 27)).alloc (.cells #[u] 3)).alloc (.cells #[.string ⟨#[]⟩] 9)) 4 (.bool false)
    simp only [Go.Deep.nblk_alloc] at this
    exact this

set_option maxRecDepth 100000 in
set_option maxHeartbeats 4000000 in
theorem iDevRead_good (a a' : Option Addr) (cap cap' : Nat) (S : List ByteArray) (L : List Slot) (x : Int) (t : Nat) (w : World) (hs : StrRd w w.heap.size a S) (hr : SlotRd w w.heap.size a' L) (hd : DevGood S L x) (ht : t < S.length) :
    Calls Try.prog 13 #[.agg #[.slice a S.length cap, .slice a' L.length cap', .int .i64 x], .int .i64 t] w (ReadPost w (lastF S L t L.length) true) := by
  have HS := hide hs
  have HR := hide hr
  have HG := hide hd
  obtain ⟨n, hn⟩ : ∃ n, S.length = n := ⟨_, rfl⟩
  obtain ⟨m, hm⟩ : ∃ m, L.length = m := ⟨_, rfl⟩
  have HN := hide hn
  have HM := hide hm
  have hnb : n ≤ 16 := by rw [← hn]; exact hd.1.2.1
  have hmb : m ≤ 20 := by rw [← hm]; exact hd.2.1.1
  have HC := hide (fun W h1 h2 => iDevOk_any a a' cap cap' S L x W h1 (by omega) h2 (by omega))
  have HOK := hide (show devOkB S L x = true from yes_true hd)
  rw [HOK.out] at HC
  rw [hn] at ht HC ⊢
  rw [hm] at HC ⊢
  clear hs hr hd hn hm
  refine (callsIn_wide (n := 6)).1 ?_
  refine callsIn_of_wp_marks Try.func13 rfl trivial ?_ rfl
  simp only [Try.ntmps13, List.size_toArray, List.length_cons, List.length_nil, Nat.reduceAdd, Nat.reduceSub, Array.replicate_succ, Array.replicate_zero, List.push_toArray, List.append_toArray, List.nil_append, List.cons_append]
  obtain ⟨W, hW, hWb, hWs, hX, hA, hC, hD⟩ := read_boxes w (.slice a n cap) (.slice a' m cap') (.int .i64 x) (.int .i64 t)
  gi_wp2
  rw [← hW]
  have HX := hide hX
  have HA := hide hA
  have HRs := hide hC
  have HRb := hide hD
  have HWb := hide hWb
  have HWs := hide hWs
  clear hW hX hA hC hD hWb hWs
  refine ⟨trivial, (callsIn_wide.2 (HC.out _ ((HS.out.below HWb.out (Nat.le_refl _)).mono HWb.out.size) ((HR.out.below HWb.out (Nat.le_refl _)).mono HWb.out.size))).mono ?_⟩
  rintro e w1 ⟨rfl, hb1⟩
  have HX1 := hide (HX.out.below hb1 HX.out.lt)
  have HA1 := hide (boxBel HA.out hb1 HA.out.lt)
  have HRs1 := hide (boxBel HRs.out hb1 HRs.out.lt)
  have HRb1 := hide (boxBel HRb.out hb1 HRb.out.lt)
  have HB1 := hide (HWb.out.trans (hb1.mono HWb.out.size))
  clear hb1 HC HX HA HRs HRb HWb HWs
  obtain ⟨c0, c1, c2⟩ := HX1.out.cells
  have cA := HA1.out.cell
  gi_wp2
  refine ⟨trivial, (callsIn_wide.2 (hasSector_any _ n cap _ x t _)).mono ?_⟩
  rintro e w2 ⟨rfl, hb2⟩
  have e1 : (decide (0 ≤ (t : Int)) && decide ((t : Int) < (n : Int))) = true := by simp; omega
  rw [e1]
  have HX2 := hide (HX1.out.below hb2 HX1.out.lt)
  have HA2 := hide (boxBel HA1.out hb2 HA1.out.lt)
  have HRs2 := hide (boxBel HRs1.out hb2 HRs1.out.lt)
  have HRb2 := hide (boxBel HRb1.out hb2 HRb1.out.lt)
  have HB2 := hide (HB1.out.trans (hb2.mono HB1.out.size))
  clear hb2 e1 HX1 HA1 HRs1 HRb1 HB1 c0 c1 c2 cA
  obtain ⟨c0, c1, c2⟩ := HX2.out.cells
  gi_wp2
  refine ⟨trivial, (backward_in Fence.wide _ trivial rfl _ _ _ _).mono ?_⟩
  rintro e w3 ⟨rfl, hw3⟩
  have hal : Below w2.heap.size w2 w3 := by rw [hw3]; exact (Below.refl _ _).alloc (Nat.le_refl _) _
  have HBs := hide (show Boxed w3 w2.heap.size 25 (.slice a' m cap') from hw3 ▸ Boxed.new w2 _ _)
  have hs3 : w3.heap.size = w2.heap.size + 1 := by rw [hw3]; simp
  have HX3 := hide (HX2.out.below hal HX2.out.lt)
  have HA3 := hide (boxBel HA2.out hal HA2.out.lt)
  have HRs3 := hide (boxBel HRs2.out hal HRs2.out.lt)
  have HRb3 := hide (boxBel HRb2.out hal HRb2.out.lt)
  have HB3 := hide (HB2.out.trans (hal.mono HB2.out.size))
  clear hw3 hal HX2 HA2 HRs2 HRb2 HB2 c0 c1 c2
  gi_wp2
  have hd3 := HRb3.out.lt
  have hw3 := HB3.out.size
  refine wpIn_rangeFunc_ownH rfl (by omega) (gf := 56) (lb := #[.pointer (some ⟨w2.heap.size, 0, none⟩)]) rfl trivial (enters_of Try.func56 (by kernel_rfl) rfl)
    (backward_stops Fence.wide (6 - 1) trivial rfl (by omega) w2.heap.size a' cap' L (by have := HM.out; omega) w3 (by omega) (by rw [HM.out]; exact HBs.out.cell) ((HR.out.below HB3.out (Nat.le_refl _)).mono HB3.out.size)) belowK_t (belowK_b (Nat.le_refl _)) (Below.refl _ _) (fun _ => rfl)
    (fun pre V => (∀ p ∈ pre, p.2.1 ≠ (t : Int)) ∧ Below w3.heap.size w3 V)
    (fun c pre V => ((c = .ret ∧ ∃ ini last, pre = ini ++ [last] ∧ (∀ p ∈ ini, p.2.1 ≠ (t : Int)) ∧ last.2.1 = (t : Int) ∧ Boxed V (w.heap.size + 1 + 1) 9 (.string last.2.2)) ∧ Boxed V (w.heap.size + 1 + 1 + 1) 4 (.bool true)) ∧ Below w.heap.size w V)
    (OwnFrom.and (ownFrom_pure _ _) (ownFrom_below (Nat.le_refl _) (Nat.le_refl _)))
    (fun c => OwnFrom.and (OwnFrom.and (fun s X Y row hs hg hr => by obtain ⟨h1, ini, last, h2, h3, h4, h5⟩ := hs; exact ⟨h1, ini, last, h2, h3, h4, boxed_own _ _ (fun (_ : Unit) => Value.string last.2.2) () X Y row h5 hg (fun r e => (hr r e).2)⟩) (Own.from (boxed_own _ _ _) _)) (ownFrom_below (Nat.le_refl _) hw3))
    ⟨by simp, Below.refl _ _⟩
    (fun y a'' V => ∃ Bx, w.heap.size + 1 + 1 + 1 < Bx ∧ BoxP 36 V Bx (.int .i64 y.2.1) (.string y.2.2) ∧ a'' = { tmps := #[.agg #[.slice a n cap, .slice a' m cap', .int .i64 x], .int .i64 t, .pointer (some ⟨w.heap.size, 0, none⟩), .pointer (some ⟨w.heap.size + 1, 0, none⟩), .pointer (some ⟨w.heap.size + 1 + 1, 0, none⟩), .pointer (some ⟨w.heap.size + 1 + 1 + 1, 0, none⟩), undef, .pointer (some ⟨Bx, 0, none⟩),
        .agg #[.slice a n cap, .slice a' m cap', .int .i64 x], .bool true, .bool false, .bool false, .agg #[.slice a n cap, .slice a' m cap', .int .i64 x], .int .i64 t, .bool true, .bool false, .bool false, .pointer (some ⟨w.heap.size, 1, none⟩), .slice a' m cap', .func (.func 56) #[] #[.pointer (some ⟨w2.heap.size, 0, none⟩)], .int .i64 (y.1 : Int), .agg #[.int .i64 y.2.1, .string y.2.2], undef, undef, undef, undef, undef, undef, undef, undef, undef, undef, undef], defers := [] })
    (fun y a'' _ X Y row hs hg hr => by obtain ⟨Bx, h1, h2, h3⟩ := hs; exact ⟨Bx, h1, boxP_own _ Bx _ _ () X Y row h2 hg (fun r e => (hr r e).2), h3⟩)
    ?assign ?body ?done ?stop
  case assign =>
    rintro l pre y V K ⟨hp, hB⟩ hK
    have hs := hB.size
    gi_wp2
    exact hK _ _ ((KeepsOthers.alloc _ _).from _) ((Below.refl _ V).alloc hs _) ⟨hp, hB.alloc hs _⟩ ⟨V.heap.size, by omega, BoxP.new _ V _ _, rfl⟩
  case body =>
    rintro l pre y a'' V hl ⟨r, hr⟩ ⟨hp, hB⟩ ⟨Bx, hBx, bP, rfl⟩ hlt
    have bS := boxBel HRs3.out hB HRs3.out.lt
    have bB := boxBel HRb3.out hB HRb3.out.lt
    have cA := (boxBel HA3.out hB HA3.out.lt).cell
    have cS := bS.cell
    have fS := bS.frozen
    have cB := bB.cell
    have fB := bB.frozen
    obtain ⟨q0, q1⟩ := bP.cells
    by_cases hy : y.2.1 = (t : Int)
    · have hy1 : (y.2.1 == (t : Int)) = true := by rw [beq_iff_eq]; exact hy
      gi_wp2
      exact ⟨((KeepsOthers.setCell _ _ _).trans (KeepsOthers.setCell _ _ _)).from _, ⟨⟨rfl, pre, y, rfl, hp, hy, (bS.set _).other (by omega) _⟩, (bB.other (by omega) _).set _⟩, ((HB3.out.trans (hB.mono hw3)).setCell (by simp; omega) _).setCell (by simp; omega) _⟩
    · have hy1 : (y.2.1 == (t : Int)) = false := by rw [beq_eq_false_iff_ne]; exact hy
      gi_wp2
      exact ⟨KeepsFrom.refl _ _, Below.refl _ _, fun p hp' => (List.mem_append.1 hp').elim (hp p) (fun e => by simp at e; subst e; exact hy), hB⟩
  case done =>
    rintro D ys V hD rfl ⟨hp, hB⟩ hK
    have bS := boxBel HRs3.out hB HRs3.out.lt
    have bB := boxBel HRb3.out hB HRb3.out.lt
    have cA := (boxBel HA3.out hB HA3.out.lt).cell
    have cS := bS.cell
    have fS := bS.frozen
    have cB := bB.cell
    have fB := bB.frozen
    obtain ⟨c0, c1, c2⟩ := (HX3.out.below hB HX3.out.lt).cells
    obtain ⟨b, o, rfl, hb, hcc⟩ := HS.out (by have := HN.out; omega)
    have d0 := ((HB3.out.trans (hB.mono hw3)).cell (p := ⟨b, o + t, none⟩) hb).trans (hcc t (by rw [HN.out]; exact ht))
    have hV : lastF S L t m = st S t := by
      rw [lastF_skip 0 m (Nat.zero_le _) (fun i _ hi => ?_)]
      · simp [lastF]
      · exact hp (i, (tn L i, ky L i)) (mem_upto.2 ⟨m - 1 - i, by have := HM.out; omega, by unfold backF; rw [HM.out, show m - 1 - (m - 1 - i) = i by omega]⟩)
    gi_wp2
    have hK' := ((KeepsOthers.setCell V ⟨w.heap.size + 1 + 1, 0, none⟩ (.string (st S t))).trans (KeepsOthers.setCell _ ⟨w.heap.size + 1 + 1 + 1, 0, none⟩ (.bool true))).same D _ hK rfl
    have bS2 := (bS.set (.string (st S t))).other (show w.heap.size + 1 + 1 ≠ w.heap.size + 1 + 1 + 1 by omega) (.bool true)
    have bB2 := (bB.other (show w.heap.size + 1 + 1 + 1 ≠ w.heap.size + 1 + 1 by omega) (.string (st S t))).set (.bool true)
    refine ⟨by simp, .inl ⟨_, _, rfl, run_takeDeferred hK', ?_⟩⟩
    have hc5 := cell_kept bS2.cell (grownBy_putObj' _ D (.deferred none)) (fun r e => by cases e; exact ⟨_, hK', rfl⟩)
    have hc6 := cell_kept bB2.cell (grownBy_putObj' _ D (.deferred none)) (fun r e => by cases e; exact ⟨_, hK', rfl⟩)
    refine ⟨.tuple #[.string (st S t), .bool true], ?_, ⟨by rw [hV], (((HB3.out.trans (hB.mono hw3)).setCell (by simp; omega) _).setCell (by simp; omega) _).trans (belowK_b (w := w) (Nat.le_refl _) _ D _ _ (by omega) hK' rfl rfl)⟩⟩
    simp [results, Try.f13, go_sem, hc5, hc6]
  case stop =>
    rintro D c pre V hD ⟨k, hk, rfl⟩ ⟨⟨⟨rfl, ini, last, e1, e2, e3, bS⟩, bB⟩, hB⟩ hK
    gi_wp2
    refine ⟨by simp, .inl ⟨_, _, rfl, run_takeDeferred hK, ?_⟩⟩
    have hc5 := cell_kept bS.cell (grownBy_putObj' _ D (.deferred none)) (fun r e => by cases e; exact ⟨_, hK, rfl⟩)
    have hc6 := cell_kept bB.cell (grownBy_putObj' _ D (.deferred none)) (fun r e => by cases e; exact ⟨_, hK, rfl⟩)
    obtain ⟨k', rfl⟩ : ∃ k', k = k' + 1 := by
      cases k with
      | zero => simp [upto] at e1
      | succ k' => exact ⟨k', rfl⟩
    rw [upto_succ] at e1
    obtain ⟨rfl, e5⟩ := List.append_inj' e1 rfl
    obtain rfl : backF L k' = last := by simpa using e5
    have hV : lastF S L t m = (backF L k').2.2 := by
      have hm := HM.out
      rw [lastF_skip (m - 1 - k' + 1) m (by omega) (fun i h1 h2 => ?_)]
      · unfold backF at e3 ⊢
        rw [hm] at e3 ⊢
        rw [lastF_yes e3]
      · exact e2 (i, (tn L i, ky L i)) (mem_upto.2 ⟨m - 1 - i, by omega, by unfold backF; rw [hm, show m - 1 - (m - 1 - i) = i by omega]⟩)
    refine ⟨.tuple #[.string (backF L k').2.2, .bool true], ?_, ⟨by rw [hV], hB.trans (belowK_b (w := w) (Nat.le_refl _) V D _ _ (by omega) hK rfl rfl)⟩⟩
    simp [results, Try.f13, go_sem, hc5, hc6]
end Go.Proofs.Ytnbaffdonbnocaa
