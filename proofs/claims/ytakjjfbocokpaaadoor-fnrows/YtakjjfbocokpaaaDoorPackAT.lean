/-
  Texts of this proof, put together: LogW, LogX.
-/
import Derived.Test.YtakjjfbocokpaaaDoorPackAK
import Derived.Test.YtakjjfbocokpaaaDoorPackAF
import Derived.Test.YtakjjfbocokpaaaDoorPackAL
import Derived.Test.YtakjjfbocokpaaaDoorPackAS
import Derived.Test.YtakjjfbocokpaaaDoorPackAG
import Derived.Test.YtakjjfbocokpaaaDoorPackAO
import Derived.Deep.DeepCutAuto

/-
  Draws of chapter 8: contract of spec.l8Row.
-/
namespace Go.Proofs.YtakjjfbocokpaaaDoor
open Go.ChangeShapes Go.WideShapes Go.ChangeAt Go.RowKit

section
variable {B g : Nat} {a : Option Addr} {cap : Nat} {bs : List Int} {w w' : World}
theorem pickI_cell (w : World) (vs : Array Value) (zs : List Int) (hv : vs = (zs.map (Value.int .i64)).toArray) (j : Nat) (hj : j < zs.length) : (w.alloc (.cells vs 3)).cell? ⟨w.heap.size, j, none⟩ = some (.int .i64 (zs[j]?.getD 0)) := by
  subst hv
  rw [World.cell?_alloc_mark]
  simp [hj]
theorem pickI_new (n : Nat) (vs : Array Value) (zs : List Int) (hv : vs = (zs.map (Value.int .i64)).toArray) (h0 : 0 < n) (hn : n ≤ 1048576) (hs : zs.length = n) (h : CurS B g a cap bs w) :
    Calls Tryd.prog 63 #[.pointer (some ⟨g, 0, none⟩), .slice (some ⟨w.heap.size, 0, none⟩) n n] (w.alloc (.cells vs 3)) fun e w' => ∃ x : Int, e = .returned (.int .i64 x) ∧ CurS B g a cap bs w' ∧ Turned g w w' := by
  have hlt := h.lt
  have hb := (Below.refl w.heap.size w).alloc (Nat.le_refl _) (.cells vs 3)
  obtain ⟨c, hc⟩ := h.keep (hb.mono hlt)
  refine (l1PickInt_any w.heap.size n zs h0 hn (by simp) (by omega) (fun j hj => pickI_cell w vs zs hv j (by omega)) hc).mono ?_
  rintro e w' ⟨rfl, h3, h4⟩
  exact ⟨_, rfl, ⟨_, h3⟩, (Turned.of_below hb (Nat.le_refl _)).trans h4⟩
theorem spoil_some (s : ByteArray) (hs : s.size ≤ 1048576) (h : CurS B g a cap bs w) :
    Calls Tryd.prog 49 #[.pointer (some ⟨g, 0, none⟩), .string s] w fun e w' => ∃ l : List UInt8, l.length ≤ s.size + 3 ∧ e = .returned (.string ⟨l.toArray⟩) ∧ Turned g w w' := by
  obtain ⟨c, h⟩ := h
  refine (l1Spoil_any s hs h).mono ?_
  rintro e w' ⟨rfl, h2⟩
  have := cSpoil_len bs (bl s) c
  rw [bl_len] at this
  exact ⟨_, this, rfl, h2⟩
theorem BoxV.turned {T : TypeId} {N : Nat} {vs : Array Value} (h : BoxV T w N vs) (ht : Turned g w w') (hg : N ≠ g) : BoxV T w' N vs := (ht.block N h.lt (fun e => hg (Option.some.inj e))).trans h
theorem res_row1 {fn : Func} {p : Tmp} (h : fn.results = #[.cell p 49]) (tmps : Array Value) (w : World) (g : Nat) (ht : tmps.getD p undef = .pointer (some ⟨g, 0, none⟩)) {v0 v1 v2 v3 v4 : Value} (hx : BoxV 49 w g #[v0, v1, v2, v3, v4]) :
    (results fn tmps).run Tryd.prog w = .ok (.agg #[v0, v1, v2, v3, v4]) w := by
  obtain ⟨c0, c1, c2, c3, c4⟩ := hx.five
  rw [Array.getD_eq_getD_getElem?] at ht
  simp only [results, h]
  simp [ht, go_sem, c0, c1, c2, c3, c4]

/-- ahead of the row's box: the cursor, what turned, the result's box -/
structure L0 (B g : Nat) (a : Option Addr) (cap : Nat) (bs : List Int) (w W : World) : Prop where
  cur : CurS B g a cap bs W
  tu : Turned g w W
  hg : g < w.heap.size
  res : BoxV 49 W w.heap.size #[.int .i64 0, .int .i64 0, .int .i64 0, .string ⟨#[]⟩, .bool false]
theorem L0.draw {W W' : World} (h : L0 B g a cap bs w W) (hc : CurS B g a cap bs W') (ht : Turned g W W') : L0 B g a cap bs w W' :=
  ⟨hc, h.tu.trans ht, h.hg, h.res.turned ht (by have := h.hg; omega)⟩
/-- behind it: the row's box N too -/
structure L1 (B g : Nat) (a : Option Addr) (cap : Nat) (bs : List Int) (w : World) (N : Nat) (W : World) (v0 v1 v2 v3 v4 : Value) : Prop where
  l0 : L0 B g a cap bs w W
  hN : w.heap.size < N
  row : BoxV 49 W N #[v0, v1, v2, v3, v4]
theorem L1.draw {N : Nat} {W W' : World} {v0 v1 v2 v3 v4 : Value} (h : L1 B g a cap bs w N W v0 v1 v2 v3 v4) (hc : CurS B g a cap bs W') (ht : Turned g W W') : L1 B g a cap bs w N W' v0 v1 v2 v3 v4 :=
  ⟨h.l0.draw hc ht, h.hN, h.row.turned ht (by have := h.hN; have := h.l0.hg; omega)⟩
theorem L1.grow {N : Nat} {W W' : World} {v0 v1 v2 v3 v4 : Value} (h : L1 B g a cap bs w N W v0 v1 v2 v3 v4) (hb : Below W.heap.size W W') : L1 B g a cap bs w N W' v0 v1 v2 v3 v4 :=
  ⟨⟨h.l0.cur.keep (hb.mono h.l0.cur.lt), h.l0.tu.trans (Turned.of_below hb (Nat.le_refl _)), h.l0.hg, h.l0.res.below hb h.l0.res.lt⟩, h.hN, h.row.below hb h.row.lt⟩
theorem L1.keep {N D : Nat} {W W' : World} {v0 v1 v2 v3 v4 : Value} (h : L1 B g a cap bs w N W v0 v1 v2 v3 v4) (hb : Below D W W') (hD : N < D) : L1 B g a cap bs w N W' v0 v1 v2 v3 v4 := by
  have hN := h.hN
  have hg := h.l0.hg
  exact ⟨⟨h.l0.cur.keep (hb.mono (by omega)), ⟨hb.os.trans h.l0.tu.os, hb.tape.trans h.l0.tu.tape, hb.output.trans h.l0.tu.output, Nat.le_trans h.l0.tu.size hb.size, fun k hk hne => (hb.block k (by omega)).trans (h.l0.tu.block k hk hne)⟩, hg, h.l0.res.below hb (by omega)⟩, hN, h.row.below hb hD⟩
def slLen : Value → Nat
  | .slice _ n _ => n
  | _ => 0
theorem Owns8.form {D : Nat} {W : World} {v : Value} {l : List UInt8} (h : Owns8 D W v l) : ∃ b c, v = .slice b l.length c := by
  obtain ⟨hl, ⟨rfl, h0⟩ | ⟨k, c, cur, rfl, hk, hh, hr⟩⟩ := h
  · exact ⟨none, 0, by rw [h0]⟩
  · exact ⟨_, _, rfl⟩
theorem L0.row {W : World} (h : L0 B g a cap bs w W) (v0 v1 v2 v3 v4 : Value) : L1 B g a cap bs w W.heap.size (W.alloc (.cells #[v0, v1, v2, v3, v4] 49)) v0 v1 v2 v3 v4 :=
  ⟨⟨h.cur.keep (((Below.refl W.heap.size W).alloc (Nat.le_refl _) _).mono h.cur.lt), h.tu.alloc _, h.hg, h.res.alloc _⟩, h.res.lt, BoxV.new _ W _⟩
theorem Turned.setC {W : World} (h : Turned g w W) (p : Addr) (hp : w.heap.size ≤ p.block) (u : Value) : Turned g w (W.setCell p u) :=
  ⟨h.os, h.tape, h.output, by simpa using h.size, fun k hk hne => (Below.heap_setCell W p u k (by omega)).trans (h.block k hk hne)⟩
theorem CurS.setC {W : World} (h : CurS B g a cap bs W) (p : Addr) (hp : g < p.block) (u : Value) : CurS B g a cap bs (W.setCell p u) :=
  h.keep ((Below.refl (g + 1) W).setCell (by omega) u)
theorem L1.put {N : Nat} {W : World} {v0 v1 v2 v3 v4 : Value} (h : L1 B g a cap bs w N W v0 v1 v2 v3 v4) (u : Value) :
    L1 B g a cap bs w N (W.setCell ⟨N, 0, none⟩ u) u v1 v2 v3 v4 ∧ L1 B g a cap bs w N (W.setCell ⟨N, 1, none⟩ u) v0 u v2 v3 v4 ∧ L1 B g a cap bs w N (W.setCell ⟨N, 2, none⟩ u) v0 v1 u v3 v4 ∧ L1 B g a cap bs w N (W.setCell ⟨N, 3, none⟩ u) v0 v1 v2 u v4 := by
  obtain ⟨p0, p1, p2, p3⟩ := h.row.put5 u
  have hN := h.hN
  have hg := h.l0.hg
  have k : ∀ i, L0 B g a cap bs w (W.setCell ⟨N, i, none⟩ u) := fun i => ⟨h.l0.cur.setC _ (by show g < N; omega) u, h.l0.tu.setC _ (by show _ ≤ N; omega) u, hg, h.l0.res.set_other (by show N ≠ _; omega) u⟩
  exact ⟨⟨k 0, hN, p0⟩, ⟨k 1, hN, p1⟩, ⟨k 2, hN, p2⟩, ⟨k 3, hN, p3⟩⟩
theorem L1.fill {N : Nat} {W : World} {v0 v1 v2 v3 v4 : Value} (h : L1 B g a cap bs w N W v0 v1 v2 v3 v4) :
    BoxV 49 (((((W.setCell ⟨w.heap.size, 0, none⟩ v0).setCell ⟨w.heap.size, 1, none⟩ v1).setCell ⟨w.heap.size, 2, none⟩ v2).setCell ⟨w.heap.size, 3, none⟩ v3).setCell ⟨w.heap.size, 4, none⟩ v4) w.heap.size #[v0, v1, v2, v3, v4] ∧
    CurS B g a cap bs (((((W.setCell ⟨w.heap.size, 0, none⟩ v0).setCell ⟨w.heap.size, 1, none⟩ v1).setCell ⟨w.heap.size, 2, none⟩ v2).setCell ⟨w.heap.size, 3, none⟩ v3).setCell ⟨w.heap.size, 4, none⟩ v4) ∧
    Turned g w (((((W.setCell ⟨w.heap.size, 0, none⟩ v0).setCell ⟨w.heap.size, 1, none⟩ v1).setCell ⟨w.heap.size, 2, none⟩ v2).setCell ⟨w.heap.size, 3, none⟩ v3).setCell ⟨w.heap.size, 4, none⟩ v4) := by
  have hg := h.l0.hg
  exact ⟨h.l0.res.fill5 v0 v1 v2 v3 v4, ((((h.l0.cur.setC _ hg _).setC _ hg _).setC _ hg _).setC _ hg _).setC _ hg _, ((((h.l0.tu.setC _ (Nat.le_refl _) _).setC _ (Nat.le_refl _) _).setC _ (Nat.le_refl _) _).setC _ (Nat.le_refl _) _).setC _ (Nat.le_refl _) _⟩
theorem L1.cells {N : Nat} {W : World} {v0 v1 v2 v3 v4 : Value} (h : L1 B g a cap bs w N W v0 v1 v2 v3 v4) :
    (W.cell? ⟨N, 0, none⟩ = some v0 ∧ W.cell? ⟨N, 1, none⟩ = some v1 ∧ W.cell? ⟨N, 2, none⟩ = some v2 ∧ W.cell? ⟨N, 3, none⟩ = some v3 ∧ W.cell? ⟨N, 4, none⟩ = some v4) ∧
    (W.cell? ⟨w.heap.size, 0, none⟩ = some (.int .i64 0) ∧ W.cell? ⟨w.heap.size, 1, none⟩ = some (.int .i64 0) ∧ W.cell? ⟨w.heap.size, 2, none⟩ = some (.int .i64 0) ∧ W.cell? ⟨w.heap.size, 3, none⟩ = some (.string ⟨#[]⟩) ∧ W.cell? ⟨w.heap.size, 4, none⟩ = some (.bool false)) ∧
    (∀ i, W.frozen? ⟨N, i, none⟩ = false) ∧ (∀ i, W.frozen? ⟨w.heap.size, i, none⟩ = false) ∧ N < W.heap.size ∧ w.heap.size < W.heap.size := ⟨h.row.five, h.l0.res.five, h.row.frozen, h.l0.res.frozen, h.row.lt, h.l0.res.lt⟩
def RowDrawn (B g : Nat) (a : Option Addr) (cap : Nat) (bs : List Int) (w : World) (e : Ending) (w' : World) : Prop :=
  ∃ (t b n : Int) (x : ByteArray) (y : Bool), e = .returned (.agg #[.int .i64 t, .int .i64 b, .int .i64 n, .string x, .bool y]) ∧ CurS B g a cap bs w' ∧ Turned g w w'

set_option maxHeartbeats 2000000 in
set_option maxRecDepth 20000 in
theorem l8Row_some (h : CurS B g a cap bs w) : Calls Tryd.prog 66 #[.pointer (some ⟨g, 0, none⟩)] w (RowDrawn B g a cap bs w) := by
  have HA0 := hide (show L0 B g a cap bs w (w.alloc (.cells #[.int .i64 0, .int .i64 0, .int .i64 0, .string ⟨#[]⟩, .bool false] 49)) from ⟨h.keep (((Below.refl w.heap.size w).alloc (Nat.le_refl _) _).mono h.lt), (Turned.refl g w).alloc _, h.lt, BoxV.new _ w _⟩)
  clear h
  go_enter Tryd.func66, Tryd.ntmps66
  go_wp2_with fail
  refine (below_some 4 (by omega) (by omega) HA0.out.cur).mono ?_
  rintro e w1 ⟨x1, hx1, rfl, hc, ht⟩
  have HA1 := hide (HA0.out.draw hc ht)
  clear hc ht HA0
  go_wp2_with fail
  refine (below_some 3 (by omega) (by omega) HA1.out.cur).mono ?_
  rintro e w2 ⟨x2, hx2, rfl, hc, ht⟩
  have HA2 := hide (HA1.out.draw hc ht)
  clear hc ht HA1
  go_wp2_with fail
  refine (below_some 300 (by omega) (by omega) HA2.out.cur).mono ?_
  rintro e w3 ⟨x3, hx3, rfl, hc, ht⟩
  have HA3 := hide (HA2.out.draw hc ht)
  clear hc ht HA2
  go_wp2_with fail
  refine (text_some 9 (by omega) HA3.out.cur).mono ?_
  rintro e w4 ⟨x4, hx4, rfl, hc, ht⟩
  have HA4 := hide (HA3.out.draw hc ht)
  clear hc ht HA3
  go_wp2_with fail
  refine (once_some 2 (by omega) HA4.out.cur).mono ?_
  rintro e w5 ⟨x5, rfl, hc, ht⟩
  have HA5 := hide (HA4.out.draw hc ht)
  clear hc ht HA4
  obtain ⟨t, ht0⟩ : ∃ t : Int, t = 1 + (x1 : Int) := ⟨_, rfl⟩
  have HL := hide (HA5.out.row (.int .i64 t) (.int .i64 (x2 : Int)) (.int .i64 (x3 : Int)) (.string ⟨x4.toArray⟩) (.bool x5))
  obtain ⟨N, hN⟩ : ∃ N, N = w5.heap.size := ⟨_, rfl⟩
  go_wp2_with fail
  rw [← ht0, ← hN]
  rw [← hN] at HL
  refine (once_some 10 (by omega) HL.out.l0.cur).mono ?_
  rintro e w6 ⟨x6, rfl, hc, ht⟩
  have HL6 := hide (HL.out.draw hc ht)
  clear hc ht HL HA5 hN ht0 hx1 hx2 hx3 hx4
  cases x6 with
  | false =>
    obtain ⟨⟨c0, c1, c2, c3, c4⟩, ⟨p0, p1, p2, p3, p4⟩, _, hf, _, hlt⟩ := HL6.out.cells
    have y0 := hf 0
    have y1 := hf 1
    have y2 := hf 2
    have y3 := hf 3
    have y4 := hf 4
    clear hf
    go_wp2_with fail
    obtain ⟨f1, f2, f3⟩ := HL6.out.fill
    exact bodyPost_ret (res_row1 rfl _ _ w.heap.size rfl f1) rfl ⟨_, _, _, _, _, rfl, f2, f3⟩
  | true =>
    go_wp2_with fail
    refine (below_some 4 (by omega) (by omega) HL6.out.l0.cur).mono ?_
    rintro e w7 ⟨x7, hx7, rfl, hc, ht⟩
    have HL7 := hide (HL6.out.draw hc ht)
    clear hc ht HL6
    obtain rfl | rfl | rfl | rfl : x7 = 0 ∨ x7 = 1 ∨ x7 = 2 ∨ x7 = 3 := by omega
    · go_wp2_with fail
      refine (pickI_new 3 _ [0, 99, 100] rfl (by omega) (by omega) rfl HL7.out.l0.cur).mono ?_
      rintro e w8 ⟨x8, rfl, hc, ht⟩
      have HL8 := hide (HL7.out.draw hc ht)
      clear hc ht HL7
      obtain ⟨⟨c0, c1, c2, c3, c4⟩, _, hf, _, hlt, _⟩ := HL8.out.cells
      have z := hf 0
      clear hf
      go_upto_region 15 with (fail)
      clear c0 c1 c2 c3 c4 z hlt
      have HL9 := hide (HL8.out.put (.int .i64 x8)).1
      obtain ⟨W9, hW9⟩ : ∃ W9, W9 = w8.setCell ⟨N, 0, none⟩ (.int .i64 x8) := ⟨_, rfl⟩
      rw [← hW9] at HL9 ⊢
      clear hW9 HL8
      obtain ⟨⟨c0, c1, c2, c3, c4⟩, ⟨p0, p1, p2, p3, p4⟩, _, hf, _, hlt⟩ := HL9.out.cells
      have y0 := hf 0
      have y1 := hf 1
      have y2 := hf 2
      have y3 := hf 3
      have y4 := hf 4
      clear hf
      go_wp2_with fail
      obtain ⟨f1, f2, f3⟩ := HL9.out.fill
      exact bodyPost_ret (res_row1 rfl _ _ w.heap.size rfl f1) rfl ⟨_, _, _, _, _, rfl, f2, f3⟩
    · go_wp2_with fail
      refine (pickI_new 3 _ [-1, 1000, 1001] rfl (by omega) (by omega) rfl HL7.out.l0.cur).mono ?_
      rintro e w8 ⟨x8, rfl, hc, ht⟩
      have HL8 := hide (HL7.out.draw hc ht)
      clear hc ht HL7
      obtain ⟨⟨c0, c1, c2, c3, c4⟩, _, hf, _, hlt, _⟩ := HL8.out.cells
      have z := hf 1
      clear hf
      go_upto_region 15 with (fail)
      clear c0 c1 c2 c3 c4 z hlt
      have HL9 := hide (HL8.out.put (.int .i64 x8)).2.1
      obtain ⟨W9, hW9⟩ : ∃ W9, W9 = w8.setCell ⟨N, 1, none⟩ (.int .i64 x8) := ⟨_, rfl⟩
      rw [← hW9] at HL9 ⊢
      clear hW9 HL8
      obtain ⟨⟨c0, c1, c2, c3, c4⟩, ⟨p0, p1, p2, p3, p4⟩, _, hf, _, hlt⟩ := HL9.out.cells
      have y0 := hf 0
      have y1 := hf 1
      have y2 := hf 2
      have y3 := hf 3
      have y4 := hf 4
      clear hf
      go_wp2_with fail
      obtain ⟨f1, f2, f3⟩ := HL9.out.fill
      exact bodyPost_ret (res_row1 rfl _ _ w.heap.size rfl f1) rfl ⟨_, _, _, _, _, rfl, f2, f3⟩
    · go_wp2_with fail
      refine (pickI_new 3 _ [-1, 999999, 1000000] rfl (by omega) (by omega) rfl HL7.out.l0.cur).mono ?_
      rintro e w8 ⟨x8, rfl, hc, ht⟩
      have HL8 := hide (HL7.out.draw hc ht)
      clear hc ht HL7
      obtain ⟨⟨c0, c1, c2, c3, c4⟩, _, hf, _, hlt, _⟩ := HL8.out.cells
      have z := hf 2
      clear hf
      go_upto_region 15 with (fail)
      clear c0 c1 c2 c3 c4 z hlt
      have HL9 := hide (HL8.out.put (.int .i64 x8)).2.2.1
      obtain ⟨W9, hW9⟩ : ∃ W9, W9 = w8.setCell ⟨N, 2, none⟩ (.int .i64 x8) := ⟨_, rfl⟩
      rw [← hW9] at HL9 ⊢
      clear hW9 HL8
      obtain ⟨⟨c0, c1, c2, c3, c4⟩, ⟨p0, p1, p2, p3, p4⟩, _, hf, _, hlt⟩ := HL9.out.cells
      have y0 := hf 0
      have y1 := hf 1
      have y2 := hf 2
      have y3 := hf 3
      have y4 := hf 4
      clear hf
      go_wp2_with fail
      obtain ⟨f1, f2, f3⟩ := HL9.out.fill
      exact bodyPost_ret (res_row1 rfl _ _ w.heap.size rfl f1) rfl ⟨_, _, _, _, _, rfl, f2, f3⟩
    · have HLa := hide (HL7.out.grow ((Below.refl _ w7).alloc (Nat.le_refl _) (.cells #[] 5)))
      have HOa := hide (Owns8.lit w7.heap.size w7 [] (Nat.le_refl _) (by simp [maxLen]))
      go_wp2_with fail
      refine (below_some 2 (by omega) (by omega) HLa.out.l0.cur).mono ?_
      rintro e w8 ⟨x8, hx8, rfl, hc, ht⟩
      have HL8 := hide (HLa.out.draw hc ht)
      have hN7 := HL7.out.row.lt
      have hg7 : g < w7.heap.size := by have := HL7.out.hN; have := HL7.out.l0.hg; omega
      have HO8 := hide (HOa.out.turned ht hg7)
      have hs8 : w7.heap.size ≤ w8.heap.size := by have := ht.size; rw [Go.Deep.nblk_alloc] at this; omega
      obtain ⟨M, hM⟩ : ∃ M : Nat, M = 300 + x8 := ⟨_, rfl⟩
      have hMi : (300 : Int) + (x8 : Int) = (M : Int) := by omega
      have hMb : M ≤ 302 := by omega
      clear hc ht HLa HOa hM hx8
      go_wp2_with fail
      clear hMi
      go_loopw [4] (fun v wr => ∃ (k : Nat) (b' : Option Addr) (c' : Nat) (l : List UInt8), v = .slice b' k c' ∧ k ≤ M ∧ Hid (l.length = k) ∧ Hid (Owns8 w7.heap.size wr (.slice b' k c') l) ∧ Hid (Below w7.heap.size w8 wr)) (fun v _ => M - slLen v)
      case atStart => exact ⟨0, _, _, [], rfl, by omega, rfl, HO8, Below.refl _ _⟩
      case round =>
        obtain ⟨k, b', c', l, rfl, hk, HK, HO, HB⟩ := hrel
        have hs := Nat.le_trans hs8 HB.out.size
        by_cases hlt : k < M
        · have C1 := hide (show #[Value.int .u8 65] = (byteVals [65]).toArray by simp [byteVals])
          have hkl : l.length + 1 ≤ 1099511627776 := by have := HK.out; omega
          go_wp2_with (at_builtin; refine append8 rfl (.tmp 30) (.tmp 31) rfl w7.heap.size w8 wr _ l [65] 1 _ rfl rfl HO HB hs C1.out rfl hkl ?_; intro v' w' HO' HB' hsz')
          obtain ⟨b2, c2, hv'⟩ := HO'.out.form
          have hl2 : (l ++ [(65 : UInt8)]).length = k + 1 := by rw [List.length_append, HK.out]; rfl
          rw [hl2] at hv'
          subst hv'
          go_roundw
          case rel => exact ⟨k + 1, b2, c2, _, rfl, by omega, hl2, HO', HB'⟩
          case measure => simp [slLen]; omega
        · have HL9' := hide (L1.keep HL8.out HB.out hN7)
          have hcv := run_convOwn w7.heap.size wr _ _ HO.out
          obtain ⟨⟨c0, c1, c2, c3, c4⟩, _, hf, _, hltN, _⟩ := HL9'.out.cells
          have z := hf 3
          clear hf
          go_upto_region 15 with (fail)
          clear c0 c1 c2 c3 c4 z hltN
          have HL9 := hide (HL9'.out.put (.string ⟨l.toArray⟩)).2.2.2
          obtain ⟨W9, hW9⟩ : ∃ W9, W9 = wr.setCell ⟨N, 3, none⟩ (.string ⟨l.toArray⟩) := ⟨_, rfl⟩
          rw [← hW9] at HL9 ⊢
          clear hW9 HL9'
          obtain ⟨⟨c0, c1, c2, c3, c4⟩, ⟨p0, p1, p2, p3, p4⟩, _, hf, _, hlt⟩ := HL9.out.cells
          have y0 := hf 0
          have y1 := hf 1
          have y2 := hf 2
          have y3 := hf 3
          have y4 := hf 4
          clear hf
          go_wp2_with fail
          obtain ⟨f1, f2, f3⟩ := HL9.out.fill
          exact bodyPost_ret (res_row1 rfl _ _ w.heap.size rfl f1) rfl ⟨_, _, _, _, _, rfl, f2, f3⟩
end
end Go.Proofs.YtakjjfbocokpaaaDoor

/-
  Draws of chapter 8: contract of spec.DrawScanRows.
-/
namespace Go.Proofs.YtakjjfbocokpaaaDoor
open Go.ChangeShapes Go.WideShapes Go.ChangeAt Go.RowKit

def TextDrawn (w : World) (e : Ending) (w' : World) : Prop := ∃ l : List UInt8, e = .returned (.string ⟨l.toArray⟩) ∧ l.length ≤ 5000 ∧ Below w.heap.size w w'
set_option maxHeartbeats 2000000 in
set_option maxRecDepth 20000 in
theorem drawScan_any {B : Nat} (a : Option Addr) (cap : Nat) (bs : List Int) (w : World) (hB : B ≤ w.heap.size) (hc : CodeAt B w a bs) (hm : bs.length ≤ 1048576) :
    Calls Tryd.prog 27 #[.slice a bs.length cap] w (TextDrawn w) := by
  have H := hide hc
  clear hc
  have HN := hide (l1New_any a cap bs w hB H.out hm)
  unfold NewPost at HN
  obtain ⟨m, hmm⟩ : ∃ m, m = bs.length := ⟨_, rfl⟩
  rw [← hmm] at HN ⊢
  clear hmm hm
  go_enter Tryd.func27, Tryd.ntmps27
  go_wp2_with fail
  refine HN.out.mono ?_
  rintro e w1 ⟨rfl, hc1, hb1⟩
  have HC1 := hide (show CurS B w.heap.size a cap bs w1 from ⟨_, hc1⟩)
  have HB1 := hide hb1
  clear hc1 hb1 HN H
  go_wp2_with fail
  refine (below_some 6 (by omega) (by omega) HC1.out).mono ?_
  rintro e w2 ⟨x1, hx1, rfl, hc2, ht2⟩
  have HC2 := hide hc2
  have HB2 := hide (HB1.out.trans (ht2.below (Nat.le_refl _) HB1.out.size))
  clear hc2 ht2 HC1 HB1
  go_wp2_with fail
  go_loopw [4, 5] (fun s i wr => ∃ (l : List UInt8) (k : Nat), s = .string ⟨l.toArray⟩ ∧ i = .int .i64 k ∧ l.length + 332 * k ≤ 1660 ∧ Hid (CurS B w.heap.size a cap bs wr) ∧ Hid (Below w.heap.size w wr)) (fun _ i _ => (intOf i).toNat)
  case atStart => exact ⟨[], x1, rfl, rfl, by simp; omega, HC2, HB2⟩
  case round =>
    obtain ⟨l, k, rfl, rfl, hlk, HC, HB⟩ := hrel
    by_cases hk : 0 < k
    · have hk0 : (0 : Int) < (k : Int) := by omega
      go_wp2_with fail
      refine (l8Row_some HC.out).mono ?_
      rintro e w3 ⟨t, b, n, x, y, rfl, hc3, ht3⟩
      have HC3 := hide hc3
      have HB3 := hide (HB.out.trans (ht3.below (Nat.le_refl _) HB.out.size))
      have HSR := hide (fun W => sShowRow_any t b n x y W)
      obtain ⟨F, hF⟩ : ∃ F, F = showR (t, b, n, x, y) := ⟨_, rfl⟩
      have hFl : F.length ≤ 332 := by rw [hF]; exact showR_len _
      rw [← hF] at HSR
      have hcat := run_cat l F (by omega)
      clear hc3 ht3 hF
      go_wp2_with fail
      refine (HSR.out _).mono ?_
      rintro e w4 ⟨rfl, hb4⟩
      have HC4 := hide (HC3.out.keep (hb4.mono HC3.out.lt))
      have HB4 := hide (HB3.out.trans (hb4.mono HB3.out.size))
      clear hb4
      go_wp2_with fail
      go_roundw
      case rel => exact ⟨l ++ F, k - 1, rfl, by go_num, by rw [List.length_append]; omega, HC4, HB4⟩
      case measure => simp [intOf]; omega
    · obtain rfl : k = 0 := by omega
      go_wp2_with fail
      refine (below_some 5 (by omega) (by omega) HC.out).mono ?_
      rintro e w3 ⟨x, hx, rfl, hc3, ht3⟩
      have HC3 := hide hc3
      have HB3 := hide (HB.out.trans (ht3.below (Nat.le_refl _) HB.out.size))
      clear hc3 ht3
      obtain rfl | rfl | rfl | hx3 : x = 0 ∨ x = 1 ∨ x = 2 ∨ 3 ≤ x := by omega
      · have HSP := hide (spoil_some ⟨l.toArray⟩ (by rw [size_of]; omega) HC3.out)
        rw [size_of] at HSP
        go_wp2_with fail
        refine HSP.out.mono ?_
        rintro e w4 ⟨l', hl', rfl, ht4⟩
        have HB4 := hide (HB3.out.trans (ht4.below (Nat.le_refl _) HB3.out.size))
        clear ht4
        go_wp2_with fail
        go_ret
        exact ⟨_, rfl, by omega, HB4.out⟩
      · go_wp2_with fail
        refine (text_some 9 (by omega) HC3.out).mono ?_
        rintro e w4 ⟨T, hT, rfl, hc4, ht4⟩
        have HB4 := hide (HB3.out.trans (ht4.below (Nat.le_refl _) HB3.out.size))
        have hcat := run_cat l T (by omega)
        clear hc4 ht4
        go_wp2_with fail
        go_ret
        exact ⟨l ++ T, rfl, by rw [List.length_append]; omega, HB4.out⟩
      · have HBS := hide (below_some (l.length + 1) (by omega) (by omega) HC3.out)
        rw [show ((l.length + 1 : Nat) : Int) = (l.length : Int) + 1 by omega] at HBS
        have hsz := size_of l
        go_wp2_with fail
        refine HBS.out.mono ?_
        rintro e w4 ⟨z, hz, rfl, hc4, ht4⟩
        have HB4 := hide (HB3.out.trans (ht4.below (Nat.le_refl _) HB3.out.size))
        have HX := hide (ext_take ⟨l.toArray⟩ z)
        rw [bl_of l] at HX
        have hz1 : (z : Int) ≤ (l.length : Int) := by omega
        have hz0 : (0 : Int) ≤ (z : Int) := by omega
        clear hc4 ht4
        go_wp2_with fail
        go_ret
        exact ⟨l.take z, by rw [← HX.out]; rfl, by rw [List.length_take]; omega, HB4.out⟩
      · have e0 : ((x : Int) == 0) = false := by rw [beq_eq_false_iff_ne]; omega
        have e1 : ((x : Int) == 1) = false := by rw [beq_eq_false_iff_ne]; omega
        have e2 : ((x : Int) == 2) = false := by rw [beq_eq_false_iff_ne]; omega
        go_wp2_with fail
        go_ret
        exact ⟨l, rfl, by omega, HB3.out⟩
end Go.Proofs.YtakjjfbocokpaaaDoor
