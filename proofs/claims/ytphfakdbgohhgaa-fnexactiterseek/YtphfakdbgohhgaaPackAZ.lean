/-
  Texts of this proof, put together: IterI, IterK.
-/
import Derived.RangeFuncNested
import Derived.RangeFuncBound
import Derived.RangeFuncCalls
import Derived.RangeFuncLeaves
import Derived.Shelf.Abstract
import Derived.Shelf.RegionOpen
import Derived.WalkKit
import Derived.OwnWalkIn
import Derived.TacticsInMore
import Derived.LoopNIn
import Derived.LoopIn
import Derived.Test.YtphfakdbgohhgaaPackAY

/-
  Contracts of impl.IterNew, of moved and cursor, and of the two iterators over a list's places.
-/
namespace Go.Proofs.Ytphfakdbgohhgaa
open Go.ChangeShapes Go.WideShapes Go.ChangeAt Go.RowKit Go.Shelf
attribute [local go_sem] Oper.semAt_some

section
set_option maxHeartbeats 1000000 in
theorem iIterNew_any (B : Nat) (a : Option Addr) (cap : Nat) (L : List KV) (f t : ByteArray) (w : World) (hO : elKV.Owns B w (.slice a L.length cap) L) (hl : L.length ≤ 2097152) :
    Calls Try.prog 39 #[.slice a L.length cap, .string f, .string t] w (NewPost w (newV L f t)) := by
  have HO := hide hO
  have HOK := hide (fun W (h : elKV.Owns B W (.slice a L.length cap) L) => iMapOk_any a cap L W (owns_rdK h) hl)
  have HCP := hide (fun W (h : elKV.Owns B W (.slice a L.length cap) L) => cloneKv_any B (.slice a L.length cap) L W h hl)
  unfold KvPost at HCP
  obtain ⟨n, hn⟩ : ∃ n, n = L.length := ⟨_, rfl⟩
  have HN := hide hn.symm
  rw [← hn] at hl HO HOK HCP ⊢
  have hal := fun o => (Below.refl w.heap.size w).alloc (Nat.le_refl _) o
  by_cases hk : mapOk L
  · have HV := hide (show newV L f t = ((L, f, t, -1), true) from if_pos hk)
    rw [decide_eq_true hk] at HOK
    clear hO hn hk
    go_enter Try.func39, Try.ntmps39
    go_wp2_with fail
    refine (HOK.out _ (HO.out.alloc _)).mono ?_
    rintro e w1 ⟨rfl, hb1⟩
    have HX1 := hide ((BoxV.new 56 w #[.slice none 0 0, .string ⟨#[]⟩, .string ⟨#[]⟩, .int .i64 0]).below hb1 (by simp))
    have HO1 := hide ((HO.out.alloc _).below hb1 (Nat.le_refl _))
    have HB1 := hide ((hal _).trans (hb1.mono (by simp)))
    clear hb1 hal HO HOK
    go_wp2_with fail
    refine (HCP.out _ HO1.out).mono ?_
    rintro e w2 ⟨v, rfl, ho2, hb2⟩
    obtain ⟨a2, d2, rfl, _⟩ := ho2.form
    have HX2 := hide (HX1.out.below hb2 HX1.out.lt)
    have hl1 := HX1.out.lt
    have HB2 := hide (HB1.out.trans (hb2.mono HB1.out.size))
    have HO2 := hide ho2
    obtain ⟨c0, c1, c2, c3⟩ := HX2.out.four'
    have z0 := HX2.out.frozen 0
    have z1 := HX2.out.frozen 1
    have z2 := HX2.out.frozen 2
    have z3 := HX2.out.frozen 3
    have hl2 := HX2.out.lt
    have hw1 := HB1.out.size
    clear ho2 hb2 HX1 HB1 HO1 HCP
    go_wp2_with fail
    rw [HV.out]
    refine bodyPost_ret (res_itb rfl _ _ w.heap.size rfl (HX2.out.all4 _ _ _ _)) rfl ?_
    exact ⟨_, rfl, El.Owns.mono ((((HO2.out.set_other hl1 _).set_other hl1 _).set_other hl1 _).set_other hl1 _) hw1, below_four HB2.out (Nat.le_refl _) _ _ _ _⟩
  · have HV := hide (show newV L f t = (zeroIt, false) from if_neg hk)
    rw [decide_eq_false hk] at HOK
    clear hO hn hk
    go_enter Try.func39, Try.ntmps39
    go_wp2_with fail
    refine (HOK.out _ (HO.out.alloc _)).mono ?_
    rintro e w1 ⟨rfl, hb1⟩
    have HX2 := hide ((BoxV.new 56 w #[.slice none 0 0, .string ⟨#[]⟩, .string ⟨#[]⟩, .int .i64 0]).below hb1 (by simp))
    have HB2 := hide ((hal _).trans (hb1.mono (by simp)))
    obtain ⟨c0, c1, c2, c3⟩ := HX2.out.four'
    have z0 := HX2.out.frozen 0
    have z1 := HX2.out.frozen 1
    have z2 := HX2.out.frozen 2
    have z3 := HX2.out.frozen 3
    have hl2 := HX2.out.lt
    clear hb1 hal HO HOK
    go_wp2_with fail
    rw [HV.out]
    refine bodyPost_ret (res_itb rfl _ _ w.heap.size rfl (HX2.out.all4 _ _ _ _)) rfl ?_
    exact ⟨_, rfl, El.Owns.nil _ _, below_four HB2.out (Nat.le_refl _) _ _ _ _⟩

theorem moved_any (B : Nat) (a : Option Addr) (cap : Nat) (L : List KV) (f t : ByteArray) (i p : Int) (w : World) (hO : elKV.Owns B w (.slice a L.length cap) L) (hl : L.length ≤ 2097152) :
    Calls Try.prog 97 #[itV (.slice a L.length cap) (L, f, t, i), .int .i64 p] w (ItPost w (L, f, t, p)) := by
  have HO := hide hO
  have HCP := hide (fun W (h : elKV.Owns B W (.slice a L.length cap) L) => cloneKv_any B (.slice a L.length cap) L W h hl)
  unfold KvPost at HCP
  obtain ⟨n, hn⟩ : ∃ n, n = L.length := ⟨_, rfl⟩
  have HN := hide hn.symm
  rw [← hn] at hl HO HCP ⊢
  obtain ⟨W0, hW0⟩ : ∃ W0, W0 = (w.alloc (.cells #[.slice a n cap, .string f, .string t, .int .i64 i] 56)).alloc (.cells #[.slice none 0 0, .string ⟨#[]⟩, .string ⟨#[]⟩, .int .i64 0] 56) := ⟨_, rfl⟩
  have HO0 := hide (show elKV.Owns B W0 _ L from hW0 ▸ (HO.out.alloc _).alloc _)
  have HX0 := hide (show BoxV 56 W0 w.heap.size #[.slice a n cap, .string f, .string t, .int .i64 i] from hW0 ▸ (BoxV.new _ w _).alloc _)
  have HY0 := hide (show BoxV 56 W0 (w.heap.size + 1) #[.slice none 0 0, .string ⟨#[]⟩, .string ⟨#[]⟩, .int .i64 0] from by
    have := BoxV.new 56 (w.alloc (.cells #[.slice a n cap, .string f, .string t, .int .i64 i] 56)) #[.slice none 0 0, .string ⟨#[]⟩, .string ⟨#[]⟩, .int .i64 0]
    rw [← hW0, Go.Deep.nblk_alloc] at this
    exact this)
  have HB0 := hide (show Below w.heap.size w W0 from hW0 ▸ ((Below.refl w.heap.size w).alloc (Nat.le_refl _) _).alloc (by simp) _)
  have hz0 : W0.heap.size = w.heap.size + 1 + 1 := by rw [hW0]; simp
  obtain ⟨c0, c1, c2, c3⟩ := HX0.out.four'
  clear hO hn HO
  go_enter Try.func97, Try.ntmps97
  go_wp2_with fail
  rw [← hW0]
  clear hW0 c0 c1 c2 c3
  refine (HCP.out _ HO0.out).mono ?_
  rintro e w1 ⟨v, rfl, ho1, hb1⟩
  obtain ⟨a1, c1, rfl, _⟩ := ho1.form
  have HX1 := hide (HX0.out.below hb1 HX0.out.lt)
  have HY1 := hide (HY0.out.below hb1 HY0.out.lt)
  have HB1 := hide (HB0.out.trans (hb1.mono HB0.out.size))
  have HO1 := hide (show elKV.Owns (w.heap.size + 1 + 1) w1 _ L from by rw [← hz0]; exact ho1)
  obtain ⟨c0, c1', c2, c3⟩ := HX1.out.four'
  have z0 := HX1.out.frozen 0
  have z3 := HX1.out.frozen 3
  have y0 := HY1.out.frozen 0
  have y1 := HY1.out.frozen 1
  have y2 := HY1.out.frozen 2
  have y3 := HY1.out.frozen 3
  obtain ⟨d0, d1, d2, d3⟩ := HY1.out.four'
  have hl1 := HX1.out.lt
  have hl2 := HY1.out.lt
  clear ho1 hb1 HX0 HY0 HB0 HO0 HCP
  go_wp2_with fail
  have hne : w.heap.size ≠ w.heap.size + 1 := by omega
  have q1 : w.heap.size < w.heap.size + 1 + 1 := by omega
  have q2 : w.heap.size + 1 < w.heap.size + 1 + 1 := by omega
  refine bodyPost_ret (res_it rfl _ _ (w.heap.size + 1) rfl (((HY1.out.set_other hne _).set_other hne _).all4 _ _ _ _)) rfl ?_
  exact ⟨_, rfl, El.Owns.mono ((((((HO1.out.set_other q1 _).set_other q1 _).set_other q2 _).set_other q2 _).set_other q2 _).set_other q2 _) (by omega), below_four ((HB1.out.setCell (Nat.le_refl _) _).setCell (Nat.le_refl _) _) (by omega) _ _ _ _⟩

theorem cursor_any (a : Option Addr) (n cap : Nat) (f t : ByteArray) (i : Int) (w : World) :
    Calls Try.prog 80 #[.agg #[.slice a n cap, .string f, .string t, .int .i64 i]] w (fun e w' => e = .returned (.agg #[.slice a n cap, .int .i64 i]) ∧ Below w.heap.size w w') := by
  go_enter Try.func80, Try.ntmps80
  go_wp2
  refine bodyPost_ret (v := .agg #[.slice a n cap, .int .i64 i]) (by simp [results, Try.results80, go_sem]) rfl ⟨rfl, ?_⟩
  exact ((Below.refl w.heap.size w).alloc (Nat.le_refl _) _).alloc (by simp) _

theorem after_any (a : Option Addr) (n cap : Nat) (i : Int) (w : World) :
    Calls Try.prog 81 #[.agg #[.slice a n cap, .int .i64 i]] w (fun e w' => e = .returned (.func (.func 98) #[] #[.pointer (some ⟨w.heap.size, 0, none⟩)]) ∧ w' = w.alloc (.cells #[.slice a n cap, .int .i64 i] 108)) := by
  go_enter Try.func81, Try.ntmps81
  go_wp2
  go_ret
  exact ⟨rfl, rfl⟩
theorem before_any (a : Option Addr) (n cap : Nat) (i : Int) (w : World) :
    Calls Try.prog 82 #[.agg #[.slice a n cap, .int .i64 i]] w (fun e w' => e = .returned (.func (.func 99) #[] #[.pointer (some ⟨w.heap.size, 0, none⟩)]) ∧ w' = w.alloc (.cells #[.slice a n cap, .int .i64 i] 108)) := by
  go_enter Try.func82, Try.ntmps82
  go_wp2
  go_ret
  exact ⟨rfl, rfl⟩
end
end Go.Proofs.Ytphfakdbgohhgaa

/-
  The two iterators over a list's places from a cursor on: which elements come, in which order.
-/
namespace Go.Proofs.Ytphfakdbgohhgaa
open Go.ChangeShapes Go.WideShapes Go.ChangeAt Go.RowKit Go.Shelf
attribute [local go_sem] Oper.semAt_some

/-- what has come when k rounds are over -/
def uptoX {α : Type} (f : Nat → α) (k : Nat) : List α := (List.range k).map f
theorem uptoX_succ {α : Type} (f : Nat → α) (k : Nat) : uptoX f (k + 1) = uptoX f k ++ [f k] := by simp [uptoX, List.range_succ]
theorem uptoX_length {α : Type} (f : Nat → α) (k : Nat) : (uptoX f k).length = k := by simp [uptoX]
theorem mem_uptoX {α : Type} {f : Nat → α} {k : Nat} {x : α} : x ∈ uptoX f k ↔ ∃ j, j < k ∧ f j = x := by simp [uptoX]
abbrev PlE := Nat × KV
def kvAt (L : List KV) (i : Nat) : KV := L.getD i (⟨#[]⟩, ⟨#[]⟩)
theorem kvAt_of {L : List KV} {i : Nat} (h : i < L.length) : kvAt L i = L[i] := by simp [kvAt, h]
/-- the k-th behind place p - 1, with its place; the k-th ahead of place n -/
def fwdX (L : List KV) (p k : Nat) : PlE := (p + k, kvAt L (p + k))
def bwdX (L : List KV) (n k : Nat) : PlE := (n - 1 - k, kvAt L (n - 1 - k))
abbrev encPl (x : PlE) : Array Value := #[Value.int .i64 (x.1 : Int), .agg #[.string x.2.1, .string x.2.2]]

set_option maxRecDepth 100000 in
set_option maxHeartbeats 2000000 in
theorem after1_in (F : Fence) (m : Nat) (hf : F.fn 98) (hro : F.round = none) (hm : 1 ≤ m) (l Bs n₀ : Nat) (a : Option Addr) (cap p : Nat) (L : List KV) (hl : L.length ≤ 2097152) (hp : p ≤ L.length + 1) (J Jx : List PlE → World → Prop)
    (hY : ∀ pre x W, J pre W → pre.length < L.length - p → YieldAt F (m - 1) Try.prog l (encPl x) W fun e W' =>
      (e = .returned (.bool true) ∧ J (pre ++ [x]) W' ∧ Below n₀ W W') ∨ (e = .returned (.bool false) ∧ Jx (pre ++ [x]) W'))
    (W : World) (hBs : Bs < n₀) (hc0 : W.cell? ⟨Bs, 0, none⟩ = some (.slice a L.length cap)) (hc1 : W.cell? ⟨Bs, 1, none⟩ = some (.int .i64 ((p : Int) - 1))) (hr : elKV.Rd W n₀ a L) (h0 : J [] W) :
    CallsIn F m Try.prog 98 #[.func (.yield l) #[] #[], .pointer (some ⟨Bs, 0, none⟩)] W fun e W' => (∃ v, e = .returned v) ∧
      ((∃ ys, ys = uptoX (fwdX L p) (L.length - p) ∧ J ys W') ∨ (∃ pre, (∃ k, k ≤ L.length - p ∧ pre = uptoX (fwdX L p) k) ∧ Jx pre W')) := by
  have HR := hide hr
  clear hr
  obtain ⟨n, hn⟩ : ∃ n, L.length = n := ⟨_, rfl⟩
  have HN := hide hn
  rw [hn] at hl hp hY hc0 ⊢
  clear hn
  have hwp : IntKind.i64.wrap ((p : Int) - 1 + 1) = (p : Int) := by rw [IntKind.wrap_i64]; omega
  refine callsIn_of_wp Try.func98 rfl hf ?_ hro
  simp only [Try.ntmps98, List.size_toArray, List.length_cons, List.length_nil, Nat.reduceAdd, Nat.reduceSub, Array.replicate_succ, Array.replicate_zero, List.push_toArray, List.append_toArray, List.nil_append, List.cons_append]
  gi_wp2
  gi_loopw [3] (fun q wr => ∃ k i : Nat, k ≤ n - p ∧ p + k = i ∧ q = .int .i64 (i : Int) ∧ J (uptoX (fwdX L p) k) wr ∧ Below n₀ W wr) (fun q _ => (n + 1 - (intOf q).toNat))
  case atStart => exact ⟨0, p, by omega, rfl, rfl, h0, Below.refl _ _⟩
  case round =>
    obtain ⟨k, i, hk, hi, rfl, hJs, hnx⟩ := hrel
    have hcx := (hnx.cell (p := ⟨Bs, 0, none⟩) hBs).trans hc0
    by_cases hlt : i < n
    · have hkL : i < L.length := by rw [HN.out]; exact hlt
      obtain ⟨b, o, rfl, hb, hcc⟩ := HR.out (by omega)
      obtain ⟨f0, f1, hx⟩ := partsKV (L[i]'hkL)
      have hbk : fwdX L p k = (i, (f0, f1)) := by unfold fwdX; rw [hi, kvAt_of hkL, hx]
      have p0 := hcc i hkL 0 (by decide)
      have p1 := hcc i hkL 1 (by decide)
      rw [hx] at p0 p1
      have d0 : wr.cell? ⟨b, o + i * 2, none⟩ = some (.string f0) := (hnx.cell (p := ⟨b, o + i * 2, none⟩) hb).trans p0
      have d1 : wr.cell? ⟨b, o + i * 2 + 1, none⟩ = some (.string f1) := (hnx.cell (p := ⟨b, o + i * 2 + 1, none⟩) hb).trans p1
      obtain ⟨fn, tmps, assign, body, hy, hR⟩ := hY _ (i, (f0, f1)) wr hJs (by rw [uptoX_length]; omega)
      dsimp only [encPl] at hy
      have HUp := hide (show uptoX (fwdX L p) k ++ [(i, (f0, f1))] = uptoX (fwdX L p) (k + 1) by rw [uptoX_succ, hbk])
      rw [HUp.out] at hR
      have hws : IntKind.i64.wrap ((i : Int) + 1) = (i : Int) + 1 := by rw [IntKind.wrap_i64]; omega
      clear hbk hcc p0 p1 hx
      gi_wp2
      refine hR.mono ?_
      rintro e W3 (⟨rfl, hJ3, hk3⟩ | ⟨rfl, hJx3⟩)
      · gi_wp2
        go_roundw
        case rel => exact ⟨k + 1, i + 1, by omega, by omega, by go_num, hJ3, hnx.trans hk3⟩
        case measure => simp [intOf]; omega
      · gi_wp2
        refine bodyPost_ret (results_none rfl _ _ _) rfl ?_
        exact ⟨⟨_, rfl⟩, .inr ⟨_, ⟨k + 1, by omega, rfl⟩, hJx3⟩⟩
    · obtain rfl : k = n - p := by omega
      gi_wp2
      go_end0
      first
        | exact ⟨⟨_, rfl⟩, .inl ⟨_, rfl, hJs⟩⟩
        | exact ⟨⟨_, rfl⟩, .inl hJs⟩

set_option maxRecDepth 100000 in
set_option maxHeartbeats 2000000 in
theorem before1_in (F : Fence) (m : Nat) (hf : F.fn 99) (hro : F.round = none) (hm : 1 ≤ m) (l Bs n₀ : Nat) (a : Option Addr) (cap : Nat) (z : Int) (L : List KV) (hl : L.length ≤ 2097152) (hz : -1 ≤ z) (hz1 : z ≤ (L.length : Int)) (J Jx : List PlE → World → Prop)
    (hY : ∀ pre x W, J pre W → pre.length < z.toNat → YieldAt F (m - 1) Try.prog l (encPl x) W fun e W' =>
      (e = .returned (.bool true) ∧ J (pre ++ [x]) W' ∧ Below n₀ W W') ∨ (e = .returned (.bool false) ∧ Jx (pre ++ [x]) W'))
    (W : World) (hBs : Bs < n₀) (hc0 : W.cell? ⟨Bs, 0, none⟩ = some (.slice a L.length cap)) (hc1 : W.cell? ⟨Bs, 1, none⟩ = some (.int .i64 z)) (hr : elKV.Rd W n₀ a L) (h0 : J [] W) :
    CallsIn F m Try.prog 99 #[.func (.yield l) #[] #[], .pointer (some ⟨Bs, 0, none⟩)] W fun e W' => (∃ v, e = .returned v) ∧
      ((∃ ys, ys = uptoX (bwdX L z.toNat) z.toNat ∧ J ys W') ∨ (∃ pre, (∃ k, k ≤ z.toNat ∧ pre = uptoX (bwdX L z.toNat) k) ∧ Jx pre W')) := by
  have HR := hide hr
  clear hr
  obtain ⟨n, hn⟩ : ∃ n, L.length = n := ⟨_, rfl⟩
  have HN := hide hn
  rw [hn] at hl hz1 hc0
  clear hn
  obtain ⟨c, hc⟩ : ∃ c, z.toNat = c := ⟨_, rfl⟩
  rw [hc] at hY ⊢
  have hwp : IntKind.i64.wrap (z - 1) = z - 1 := by rw [IntKind.wrap_i64]; omega
  refine callsIn_of_wp Try.func99 rfl hf ?_ hro
  simp only [Try.ntmps99, List.size_toArray, List.length_cons, List.length_nil, Nat.reduceAdd, Nat.reduceSub, Array.replicate_succ, Array.replicate_zero, List.push_toArray, List.append_toArray, List.nil_append, List.cons_append]
  gi_wp2
  gi_loopw [3] (fun q wr => ∃ (k i : Nat) (y : Int), k + i = c ∧ q = .int .i64 y ∧ (y = (i : Int) - 1 ∨ (i = 0 ∧ y = -2)) ∧ J (uptoX (bwdX L c) k) wr ∧ Below n₀ W wr) (fun q _ => (intOf q + 2).toNat)
  case atStart => exact ⟨0, c, z - 1, by omega, rfl, by omega, h0, Below.refl _ _⟩
  case round =>
    obtain ⟨k, i, y, hk, rfl, hy2, hJs, hnx⟩ := hrel
    have hcx := (hnx.cell (p := ⟨Bs, 0, none⟩) hBs).trans hc0
    cases i with
    | zero =>
      obtain rfl : k = c := by omega
      have hy3 : ¬ (0 : Int) ≤ y := by omega
      have hy4 : decide ((0 : Int) ≤ y) = false := decide_eq_false hy3
      gi_wp2
      go_end0
      first
        | exact ⟨⟨_, rfl⟩, .inl ⟨_, rfl, hJs⟩⟩
        | exact ⟨⟨_, rfl⟩, .inl hJs⟩
    | succ i =>
      obtain rfl : y = (i : Int) := by omega
      clear hy2
      have hkL : i < L.length := by rw [HN.out]; omega
      have hin : i < n := by omega
      obtain ⟨b, o, rfl, hb, hcc⟩ := HR.out (by omega)
      obtain ⟨f0, f1, hx⟩ := partsKV (L[i]'hkL)
      have hbk : bwdX L c k = (i, (f0, f1)) := by unfold bwdX; rw [show c - 1 - k = i by omega, kvAt_of hkL, hx]
      have p0 := hcc i hkL 0 (by decide)
      have p1 := hcc i hkL 1 (by decide)
      rw [hx] at p0 p1
      have d0 : wr.cell? ⟨b, o + i * 2, none⟩ = some (.string f0) := (hnx.cell (p := ⟨b, o + i * 2, none⟩) hb).trans p0
      have d1 : wr.cell? ⟨b, o + i * 2 + 1, none⟩ = some (.string f1) := (hnx.cell (p := ⟨b, o + i * 2 + 1, none⟩) hb).trans p1
      obtain ⟨fn, tmps, assign, body, hy, hR⟩ := hY _ (i, (f0, f1)) wr hJs (by rw [uptoX_length]; omega)
      dsimp only [encPl] at hy
      have HUp := hide (show uptoX (bwdX L c) k ++ [(i, (f0, f1))] = uptoX (bwdX L c) (k + 1) by rw [uptoX_succ, hbk])
      rw [HUp.out] at hR
      have hws : IntKind.i64.wrap ((i : Int) - 1) = (i : Int) - 1 := by rw [IntKind.wrap_i64]; omega
      clear hbk hcc p0 p1 hx
      gi_wp2
      refine hR.mono ?_
      rintro e W3 (⟨rfl, hJ3, hk3⟩ | ⟨rfl, hJx3⟩)
      · gi_wp2
        go_roundw
        case rel => exact ⟨k + 1, i, _, by omega, rfl, by omega, hJ3, hnx.trans hk3⟩
        case measure => simp [intOf]; omega
      · gi_wp2
        refine bodyPost_ret (results_none rfl _ _ _) rfl ?_
        exact ⟨⟨_, rfl⟩, .inr ⟨_, ⟨k + 1, by omega, rfl⟩, hJx3⟩⟩

theorem after_stops (F : Fence) (m : Nat) (hf : F.fn 98) (hro : F.round = none) (hm : 1 ≤ m) (Bs : Nat) (a : Option Addr) (cap p : Nat) (L : List KV) (hl : L.length ≤ 2097152) (hp : p ≤ L.length + 1) (w : World) (hBs : Bs < w.heap.size)
    (hx : BoxV 108 w Bs #[.slice a L.length cap, .int .i64 ((p : Int) - 1)]) (hr : elKV.Rd w w.heap.size a L) :
    SeqStopsK F m Try.prog 98 #[.pointer (some ⟨Bs, 0, none⟩)] encPl (Below w.heap.size) (fun ys => ys = uptoX (fwdX L p) (L.length - p))
      (fun pre => ∃ k, k ≤ L.length - p ∧ pre = uptoX (fwdX L p) k) (L.length - p) w := fun l J Jx W hW _ _ hY h0 =>
  after1_in F m hf hro hm l Bs w.heap.size a cap p L hl hp J Jx hY W hBs ((hW.cell (p := ⟨Bs, 0, none⟩) hBs).trans hx.two'.1) ((hW.cell (p := ⟨Bs, 1, none⟩) hBs).trans hx.two'.2) (hr.below hW (Nat.le_refl _)) h0
theorem before_stops (F : Fence) (m : Nat) (hf : F.fn 99) (hro : F.round = none) (hm : 1 ≤ m) (Bs : Nat) (a : Option Addr) (cap : Nat) (z : Int) (L : List KV) (hl : L.length ≤ 2097152) (hz : -1 ≤ z) (hz1 : z ≤ (L.length : Int)) (w : World) (hBs : Bs < w.heap.size)
    (hx : BoxV 108 w Bs #[.slice a L.length cap, .int .i64 z]) (hr : elKV.Rd w w.heap.size a L) :
    SeqStopsK F m Try.prog 99 #[.pointer (some ⟨Bs, 0, none⟩)] encPl (Below w.heap.size) (fun ys => ys = uptoX (bwdX L z.toNat) z.toNat)
      (fun pre => ∃ k, k ≤ z.toNat ∧ pre = uptoX (bwdX L z.toNat) k) z.toNat w := fun l J Jx W hW _ _ hY h0 =>
  before1_in F m hf hro hm l Bs w.heap.size a cap z L hl hz hz1 J Jx hY W hBs ((hW.cell (p := ⟨Bs, 0, none⟩) hBs).trans hx.two'.1) ((hW.cell (p := ⟨Bs, 1, none⟩) hBs).trans hx.two'.2) (hr.below hW (Nat.le_refl _)) h0
end Go.Proofs.Ytphfakdbgohhgaa
