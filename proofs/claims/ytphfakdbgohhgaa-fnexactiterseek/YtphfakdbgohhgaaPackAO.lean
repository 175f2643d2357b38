/-
  Texts of this proof, put together: IterT, IterS.
-/
import Derived.Test.YtphfakdbgohhgaaPackAE
import Derived.Test.YtphfakdbgohhgaaPackAF
import Derived.Test.YtphfakdbgohhgaaPackAD
import Derived.Test.YtphfakdbgohhgaaPackAL
import Derived.Test.YtphfakdbgohhgaaPackAN
import Derived.Lib.SmallJoins
import Derived.StillTailTactics
import Derived.Deep.RegionHeld3

/-
  Iterators in memory: posts, results; slices.Clone of a list; spec.IterOk and impl.IterOk.
-/
namespace Go.Proofs.Ytphfakdbgohhgaa
open Go.ChangeShapes Go.WideShapes Go.ChangeAt Go.RowKit

/-- an iterator's value: its list is the slice v -/
abbrev itV (v : Value) (x : ItE) : Value := .agg #[v, .string x.2.1, .string x.2.2.1, .int .i64 x.2.2.2]
abbrev itBox (v : Value) (x : ItE) : Array Value := #[v, .string x.2.1, .string x.2.2.1, .int .i64 x.2.2.2]
abbrev kvV (y : KV) : Value := .agg #[.string y.1, .string y.2]
def KvPost (w : World) (L : List KV) (e : Ending) (w' : World) : Prop := ∃ v, e = .returned v ∧ elKV.Owns w.heap.size w' v L ∧ Below w.heap.size w w'
def ItPost (w : World) (x : ItE) (e : Ending) (w' : World) : Prop := ∃ v, e = .returned (itV v x) ∧ elKV.Owns w.heap.size w' v x.1 ∧ Below w.heap.size w w'
def NewPost (w : World) (r : ItE × Bool) (e : Ending) (w' : World) : Prop := ∃ v, e = .returned (.tuple #[itV v r.1, .bool r.2]) ∧ elKV.Owns w.heap.size w' v r.1.1 ∧ Below w.heap.size w w'
def MovPost (w : World) (r : ItE × KV × Bool) (e : Ending) (w' : World) : Prop := ∃ v, e = .returned (.tuple #[itV v r.1, kvV r.2.1, .bool r.2.2]) ∧ elKV.Owns w.heap.size w' v r.1.1 ∧ Below w.heap.size w w'

section
variable {w : World} {g g' : Nat} {v0 v1 v2 v3 u0 u1 : Value}
/-- a result that is an iterator in a block of its own -/
theorem res_it {fn : Func} {p : Tmp} (h : fn.results = #[.cell p 56]) (tmps : Array Value) (w : World) (g : Nat) (ht : tmps.getD p undef = .pointer (some ⟨g, 0, none⟩)) (hx : BoxV 56 w g #[v0, v1, v2, v3]) :
    (results fn tmps).run Try.prog w = .ok (.agg #[v0, v1, v2, v3]) w := by
  obtain ⟨c0, c1, c2, c3⟩ := hx.four'
  rw [Array.getD_eq_getD_getElem?] at ht
  simp only [results, h]
  simp [ht, go_sem, c0, c1, c2, c3]
theorem res_itb {fn : Func} {p u : Tmp} (h : fn.results = #[.cell p 56, .tmp u]) (tmps : Array Value) (w : World) (g : Nat) (ht : tmps.getD p undef = .pointer (some ⟨g, 0, none⟩)) (hx : BoxV 56 w g #[v0, v1, v2, v3]) :
    (results fn tmps).run Try.prog w = .ok (.tuple #[.agg #[v0, v1, v2, v3], tmps.getD u undef]) w := by
  obtain ⟨c0, c1, c2, c3⟩ := hx.four'
  rw [Array.getD_eq_getD_getElem?] at ht
  simp only [results, h]
  simp [ht, go_sem, c0, c1, c2, c3]
theorem res_mov {fn : Func} {p q u : Tmp} (h : fn.results = #[.cell p 56, .cell q 41, .tmp u]) (tmps : Array Value) (w : World) (g g' : Nat) (ht : tmps.getD p undef = .pointer (some ⟨g, 0, none⟩)) (ht' : tmps.getD q undef = .pointer (some ⟨g', 0, none⟩)) (hx : BoxV 56 w g #[v0, v1, v2, v3]) (hy : BoxV 41 w g' #[u0, u1]) :
    (results fn tmps).run Try.prog w = .ok (.tuple #[.agg #[v0, v1, v2, v3], .agg #[u0, u1], tmps.getD u undef]) w := by
  obtain ⟨c0, c1, c2, c3⟩ := hx.four'
  obtain ⟨d0, d1⟩ := hy.two'
  rw [Array.getD_eq_getD_getElem?] at ht ht'
  simp only [results, h]
  simp [ht, ht', go_sem, c0, c1, c2, c3, d0, d1]
theorem res_movb {fn : Func} {p q u : Tmp} (h : fn.results = #[.cell p 56, .cell q 41, .cell u 4]) (tmps : Array Value) (w : World) (g g' g'' : Nat) {b : Value} (ht : tmps.getD p undef = .pointer (some ⟨g, 0, none⟩)) (ht' : tmps.getD q undef = .pointer (some ⟨g', 0, none⟩)) (ht'' : tmps.getD u undef = .pointer (some ⟨g'', 0, none⟩)) (hx : BoxV 56 w g #[v0, v1, v2, v3]) (hy : BoxV 41 w g' #[u0, u1]) (hz : w.cell? ⟨g'', 0, none⟩ = some b) :
    (results fn tmps).run Try.prog w = .ok (.tuple #[.agg #[v0, v1, v2, v3], .agg #[u0, u1], b]) w := by
  obtain ⟨c0, c1, c2, c3⟩ := hx.four'
  obtain ⟨d0, d1⟩ := hy.two'
  rw [Array.getD_eq_getD_getElem?] at ht ht' ht''
  simp only [results, h]
  simp [ht, ht', ht'', go_sem, c0, c1, c2, c3, d0, d1, hz]
end

theorem cloneKv_any (B : Nat) (v : Value) (L : List KVE) (w : World) (hO : elKV.Owns B w v L) (hl : L.length ≤ 2097152) :
    Calls Try.prog 77 #[v] w (KvPost w L) := by
  have HO := hide hO
  obtain ⟨h1, ⟨rfl, h0⟩ | ⟨g, cap, cur, rfl, hr⟩⟩ := hO
  · obtain rfl : L = [] := List.eq_nil_of_length_eq_zero h0
    have hq := fun W => Lib.run_eql_slice_nil (P := Try.prog) W 37 41 none 0 0 0 0 Try.underlying37
    clear HO h1 h0
    go_enter Try.func77, Try.ntmps77
    go_wp2_with fail
    go_ret
    exact ⟨_, rfl, El.Owns.nil _ _, Below.refl _ _⟩
  · obtain ⟨n, hn⟩ : ∃ n, n = L.length := ⟨_, rfl⟩
    have HN := hide hn.symm
    rw [← hn] at hl HO
    rw [← hn]
    have hq := fun W => Lib.run_eql_slice_nil (P := Try.prog) W 37 41 (some ⟨g, 0, none⟩) n cap 0 0 Try.underlying37
    clear h1 hr hn
    have P1 : Hid (elKV.Owns w.heap.size (w.alloc (.cells #[] 41)) (.slice (some ⟨w.heap.size, 0, none⟩) 0 0) []) := El.Owns.lit (e := elKV) w.heap.size w [] #[] 0 rfl rfl (Nat.le_refl _) (by simp [maxLen])
    have P2 : ∀ o, Hid (elKV.Src (w.alloc o) (.slice (some ⟨g, 0, none⟩) n cap) L) := fun o => HO.out.src.alloc o
    have P3 : ∀ o, Hid (Below w.heap.size w (w.alloc o)) := fun o => (Below.refl _ _).alloc (Nat.le_refl _) _
    have P4 : ∀ o, w.heap.size ≤ (w.alloc o).heap.size := fun o => by simp
    go_enter Try.func77, Try.ntmps77
    go_wp2_with (at_builtin; go_loud (refine El.appendSrc (e := elKV) rfl (.tmp 5) (.tmp 6) 37 rfl Try.underlying37 _ _ infoKV rfl (by decide) (by decide) w.heap.size w _ _ _ [] L rfl rfl P1 (P2 _) (P3 _) (P4 _) L n rfl HN.out (by omega) ?_); intro a' c' w' HO' HB' hsz' _)
    go_ret
    exact ⟨_, rfl, HO'.out, HB'.out⟩

theorem sIterOk_any (a : Option Addr) (cap : Nat) (x : ItE) (w : World) (hr : elKV.Rd w w.heap.size a x.1) (hl : x.1.length ≤ 2097152) :
    Calls Try.prog 32 #[itV (.slice a x.1.length cap) x] w (BoolPost w (decide (itOk x))) := by
  obtain ⟨L, f, t, i⟩ := x
  dsimp only at *
  have HR := hide hr
  have HC := hide (fun W (h : elKV.Rd W W.heap.size a L) => sMapOk_any a cap L W h hl)
  obtain ⟨V, hV⟩ : ∃ V, V = decide (itOk (L, f, t, i)) := ⟨_, rfl⟩
  rw [← hV]
  obtain ⟨n, hn⟩ : ∃ n, n = L.length := ⟨_, rfl⟩
  have HN := hide hn
  rw [← hn] at HC hl ⊢
  have hal := fun o => (Below.refl w.heap.size w).alloc (Nat.le_refl _) o
  by_cases hm : mapOk L
  · rw [decide_eq_true hm] at HC
    have HV := hide (show V = (decide (-1 ≤ i) && decide (i ≤ (n : Int))) by
      rw [hV, ← Bool.decide_and]
      exact decide_eq_decide.2 ⟨fun h => by have := h.2; rw [hn]; exact this, fun h => ⟨hm, by rw [hn] at h; exact h⟩⟩)
    clear hV hm hr hn
    go_enter Try.func32, Try.ntmps32
    go_wp2_with fail
    refine (HC.out _ ((HR.out.below (hal _) (Nat.le_refl _)).mono (by simp))).mono ?_
    rintro e w1 ⟨rfl, hb1⟩
    obtain ⟨c0, c1, c2, c3⟩ := ((BoxV.new 56 w #[.slice a n cap, .string f, .string t, .int .i64 i]).below hb1 (by simp)).four'
    have HB1 := hide ((hal _).trans (hb1.mono (by simp)))
    clear hb1 HR HC hal
    go_wp2_with fail
    refine (l1In_any _ _ _ _).mono ?_
    rintro e w2 ⟨rfl, rfl⟩
    go_wp2_with fail
    go_ret
    exact ⟨by rw [HV.out]; rfl, HB1.out⟩
  · rw [decide_eq_false hm] at HC
    have HV := hide (show V = false from hV.trans (decide_eq_false fun h => hm h.1))
    clear hV hm hr hn
    go_enter Try.func32, Try.ntmps32
    go_wp2_with fail
    refine (HC.out _ ((HR.out.below (hal _) (Nat.le_refl _)).mono (by simp))).mono ?_
    rintro e w1 ⟨rfl, hb1⟩
    obtain ⟨c0, c1, c2, c3⟩ := ((BoxV.new 56 w #[.slice a n cap, .string f, .string t, .int .i64 i]).below hb1 (by simp)).four'
    have HB1 := hide ((hal _).trans (hb1.mono (by simp)))
    clear hb1 HR HC hal
    go_wp2_with fail
    go_ret
    exact ⟨by rw [HV.out]; rfl, HB1.out⟩

theorem iIterOk_any (a : Option Addr) (cap : Nat) (x : ItE) (w : World) (hr : elKV.Rd w w.heap.size a x.1) (hl : x.1.length ≤ 2097152) :
    Calls Try.prog 34 #[itV (.slice a x.1.length cap) x] w (BoolPost w (decide (itOk x))) := by
  obtain ⟨L, f, t, i⟩ := x
  dsimp only at *
  have HR := hide hr
  have HC := hide (fun W (h : elKV.Rd W W.heap.size a L) => iMapOk_any a cap L W h hl)
  obtain ⟨V, hV⟩ : ∃ V, V = decide (itOk (L, f, t, i)) := ⟨_, rfl⟩
  rw [← hV]
  obtain ⟨n, hn⟩ : ∃ n, n = L.length := ⟨_, rfl⟩
  have HN := hide hn
  rw [← hn] at HC hl ⊢
  have hal := fun o => (Below.refl w.heap.size w).alloc (Nat.le_refl _) o
  have HV := hide (show V = (decide (mapOk L) && (decide (-1 ≤ i) && decide (i ≤ (n : Int)))) by
    rw [hV, ← Bool.decide_and, ← Bool.decide_and]
    exact decide_eq_decide.2 ⟨fun h => by rw [hn]; exact h, fun h => by rw [hn] at h; exact h⟩)
  obtain ⟨q, hq⟩ : ∃ q, q = decide (mapOk L) := ⟨_, rfl⟩
  rw [← hq] at HC HV
  clear hV hr hn hq
  go_enter Try.func34, Try.ntmps34
  go_wp2_with fail
  refine (HC.out _ ((HR.out.below (hal _) (Nat.le_refl _)).mono (by simp))).mono ?_
  rintro e w1 ⟨rfl, hb1⟩
  obtain ⟨c0, c1, c2, c3⟩ := ((BoxV.new 56 w #[.slice a n cap, .string f, .string t, .int .i64 i]).below hb1 (by simp)).four'
  have HB1 := hide ((hal _).trans (hb1.mono (by simp)))
  clear hb1 HR HC hal
  cases q with
  | false =>
    go_wp2_with fail
    go_ret
    exact ⟨by rw [HV.out]; rfl, HB1.out⟩
  | true =>
    by_cases h1 : -1 ≤ i
    · have E1 := hide (decide_eq_true h1)
      by_cases h2 : i ≤ (n : Int)
      · have E2 := hide (decide_eq_true h2)
        go_wp2_with fail
        go_ret
        exact ⟨by rw [HV.out, E1.out, E2.out]; rfl, HB1.out⟩
      · have E2 := hide (decide_eq_false h2)
        go_wp2_with fail
        go_ret
        exact ⟨by rw [HV.out, E1.out, E2.out]; rfl, HB1.out⟩
    · have E1 := hide (decide_eq_false h1)
      go_wp2_with fail
      go_ret
      exact ⟨by rw [HV.out, E1.out]; rfl, HB1.out⟩
end Go.Proofs.Ytphfakdbgohhgaa

/-
  Contracts of spec.l14Copy and spec.IterNew.
-/
namespace Go.Proofs.Ytphfakdbgohhgaa
open Go.ChangeShapes Go.WideShapes Go.ChangeAt Go.RowKit

set_option maxHeartbeats 1000000 in
theorem sCopy_any (B : Nat) (a : Option Addr) (cap : Nat) (x : ItE) (w : World) (hO : elKV.Owns B w (.slice a x.1.length cap) x.1) (hl : x.1.length ≤ 2097152) :
    Calls Try.prog 75 #[itV (.slice a x.1.length cap) x] w (ItPost w x) := by
  obtain ⟨L, f, t, i⟩ := x
  dsimp only at *
  have HO := hide hO
  obtain ⟨n, hn⟩ : ∃ n, n = L.length := ⟨_, rfl⟩
  have HN := hide hn.symm
  rw [← hn] at hl HO ⊢
  have P1 : ∀ o1 o2, Hid (elKV.Owns (w.heap.size + 1 + 1) (((w.alloc o1).alloc o2).alloc (.cells #[] 41)) (.slice (some ⟨w.heap.size + 1 + 1, 0, none⟩) 0 0) []) := fun o1 o2 => by
    have h := El.Owns.lit (e := elKV) (w.heap.size + 1 + 1) ((w.alloc o1).alloc o2) [] #[] 0 rfl rfl (by simp) (by simp [maxLen])
    rw [Go.Deep.nblk_alloc, Go.Deep.nblk_alloc] at h
    exact h
  have P2 : ∀ o1 o2 o3, Hid (elKV.Src (((w.alloc o1).alloc o2).alloc o3) (.slice a n cap) L) := fun o1 o2 o3 => ((HO.out.src.alloc o1).alloc o2).alloc o3
  have P4 : ∀ o1 o2 o3, w.heap.size + 1 + 1 ≤ (((w.alloc o1).alloc o2).alloc o3).heap.size := fun o1 o2 o3 => by simp
  have HBX := hide (fun (A B : Array Value) o3 W (h : Below (w.heap.size + 1 + 1) (((w.alloc (.cells A 56)).alloc (.cells B 56)).alloc o3) W) => two_boxV (T := 56) (U := 56) (A := A) (B := B) (w := w) (w1 := W) (by
    have h3 := (Below.refl (w.heap.size + 1 + 1) ((w.alloc (.cells A 56)).alloc (.cells B 56))).alloc (by simp) o3
    rw [Go.Deep.nblk_alloc, Go.Deep.nblk_alloc]
    exact h3.trans h))
  clear hO hn
  go_enter Try.func75, Try.ntmps75
  go_wp2_with (at_builtin; go_loud (refine El.appendSrc (e := elKV) rfl (.tmp 3) (.tmp 5) 37 rfl Try.underlying37 _ _ infoKV rfl (by decide) (by decide) (w.heap.size + 1 + 1) _ _ _ _ [] L rfl rfl (P1 _ _) (P2 _ _ _) (hide (Below.refl _ _)) (P4 _ _ _) L n rfl HN.out (by omega) ?_); intro a6 c6 w6 HO6 HB6 hz6 _; obtain ⟨k1, k2, k3⟩ := HBX.out _ _ _ _ HB6.out; obtain ⟨c0, c1, c2, c3⟩ := k1.four'; have z0 := k1.frozen 0; have hl1 := k1.lt; obtain ⟨d0, d1, d2, d3⟩ := k2.four'; have y0 := k2.frozen 0; have y1 := k2.frozen 1; have y2 := k2.frozen 2; have y3 := k2.frozen 3; have hl2 := k2.lt; have HX1 := hide k1; have HX2 := hide k2; have HB7 := hide k3; clear k1 k2 k3)
  refine bodyPost_ret (res_it rfl _ _ (w.heap.size + 1) rfl ((HX2.out.set_other (by simp) _).all4 _ _ _ _)) rfl ?_
  refine ⟨_, rfl, ?_, below_four (HB7.out.setCell (Nat.le_refl _) _) (by omega) _ _ _ _⟩
  exact El.Owns.mono (B := w.heap.size + 1 + 1) (((((HO6.out.set_other (by simp; omega) _).set_other (by simp) _).set_other (by simp) _).set_other (by simp) _).set_other (by simp) _) (by omega)
end Go.Proofs.Ytphfakdbgohhgaa
