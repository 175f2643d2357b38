/-
  Contracts of impl.cutText and cutOp.
-/
import Derived.Test.YthgkohgbkgakmaaMathJ
import Derived.Test.YthgkohgbkgakmaaReadVarI
import Derived.Test.YthgkohgbkgakmaaTakeS
import Derived.Test.YthgkohgbkgakmaaShowO
namespace Go.Proofs.Ythgkohgbkgakmaa
open Go.ChangeShapes Go.WideShapes Go.ChangeAt Go.RowKit

def CutPost (w : World) (a b : List UInt8) (e : Ending) (w' : World) : Prop := e = .returned (.tuple #[.string ⟨a.toArray⟩, .string ⟨b.toArray⟩]) ∧ Below w.heap.size w w'
set_option maxHeartbeats 1000000 in
set_option maxRecDepth 20000 in
theorem cutText_any (s : ByteArray) (hm : s.size ≤ 1048576) (w : World) :
    Calls Try.prog 86 #[.string s] w (CutPost w (cutT (bl s)) (cutR (bl s))) := by
  have HC := hide (fun W => iReadVar_any s W (by unfold maxLen; omega))
  unfold RvPost at HC
  obtain ⟨x, n, hr⟩ : ∃ x n, readVarL (bl s) = (x, n) := ⟨_, _, rfl⟩
  obtain ⟨hx, hn⟩ := readVarL_le (bl s)
  rw [hr, bl_len] at hn
  rw [hr] at HC hx
  simp only at hx hn HC
  by_cases hf : (s.size : Int) - n < x
  · obtain ⟨e1, e2⟩ := cut_far hr (by rw [bl_len]; exact hf)
    rw [e1, e2]
    unfold CutPost
    rw [str_of]
    have hd : decide ((s.size : Int) - n < x) = true := decide_eq_true hf
    clear e1 e2 hr
    go_enter Try.func86, Try.ntmps86
    go_wp2_with fail
    refine (HC.out _).mono ?_
    rintro e w1 ⟨rfl, hb1⟩
    have HB1 := hide hb1
    clear hb1
    go_wp2_with fail
    go_ret2
    exact ⟨rfl, HB1.out⟩
  · obtain ⟨e1, e2⟩ := cut_near hr (by rw [bl_len]; exact hf)
    rw [e1, e2]
    have hd : decide ((s.size : Int) - n < x) = false := decide_eq_false hf
    have hnx : n + x ≤ s.size := by omega
    have HT := hide (ext_mid s n x)
    have HU := hide (ext_drop s (n + x))
    obtain ⟨T, hT⟩ : ∃ T, T = ((bl s).drop n).take x := ⟨_, rfl⟩
    obtain ⟨U, hU⟩ : ∃ U, U = (bl s).drop (n + x) := ⟨_, rfl⟩
    rw [← hT] at HT
    rw [← hU] at HU
    rw [← hT, ← hU]
    clear e1 e2 hr hT hU hf
    unfold CutPost
    go_enter Try.func86, Try.ntmps86
    go_wp2_with fail
    refine (HC.out _).mono ?_
    rintro e w1 ⟨rfl, hb1⟩
    have HB1 := hide hb1
    clear hb1
    go_wp2_with fail
    go_region
    all_goals go_wp2_with fail
    all_goals go_ret2
    all_goals exact ⟨by rw [← HT.out, ← HU.out]; rfl, HB1.out.drew⟩

theorem BoxV.set {T : TypeId} {w : World} {g i : Nat} {vs : Array Value} (h : BoxV T w g vs) (u : Value) : BoxV T (w.setCell ⟨g, i, none⟩ u) g (vs.setIfInBounds i u) := heap_setCell_same w g i _ T u h
theorem BoxV.set_other {T : TypeId} {w : World} {g : Nat} {vs : Array Value} {p : Addr} (h : BoxV T w g vs) (hp : p.block ≠ g) (u : Value) : BoxV T (w.setCell p u) g vs := (heap_setCell_other w p g u (fun e => hp e.symm)).trans h
theorem BoxV.alloc {T : TypeId} {w : World} {g : Nat} {vs : Array Value} (h : BoxV T w g vs) (o : Obj) : BoxV T (w.alloc o) g vs := (Below.heap_alloc w o g h.lt).trans h
theorem BoxV.drew {T : TypeId} {w : World} {g : Nat} {vs : Array Value} (h : BoxV T w g vs) : BoxV T w.drew g vs := h
theorem BoxV.frozen {T : TypeId} {w : World} {g : Nat} {vs : Array Value} (h : BoxV T w g vs) (i : Nat) : w.frozen? ⟨g, i, none⟩ = false := frozen_of_row w g i _ T h
theorem BoxV.three {T : TypeId} {w : World} {g : Nat} {v0 v1 v2 : Value} (h : BoxV T w g #[v0, v1, v2]) : w.cell? ⟨g, 0, none⟩ = some v0 ∧ w.cell? ⟨g, 1, none⟩ = some v1 ∧ w.cell? ⟨g, 2, none⟩ = some v2 :=
  ⟨h.cell 0 v0 rfl, h.cell 1 v1 rfl, h.cell 2 v2 rfl⟩
theorem res_op {fn : Func} {p q : Tmp} (h : fn.results = #[.cell p 62, .tmp q]) (tmps : Array Value) (w : World) (g : Nat) (ht : tmps.getD p undef = .pointer (some ⟨g, 0, none⟩)) {v0 v1 v2 : Value} (hx : BoxV 62 w g #[v0, v1, v2]) (u : Value) (hu : tmps.getD q undef = u) :
    (results fn tmps).run Try.prog w = .ok (.tuple #[.agg #[v0, v1, v2], u]) w := by
  obtain ⟨c0, c1, c2⟩ := hx.three
  rw [Array.getD_eq_getD_getElem?] at ht hu
  simp only [results, h]
  simp [ht, hu, go_sem, c0, c1, c2]
def CutOPost (w : World) (o : Opn) (b : List UInt8) (e : Ending) (w' : World) : Prop := e = .returned (.tuple #[.agg #[.string o.1, .bool o.2.1, .string o.2.2], .string ⟨b.toArray⟩]) ∧ Below w.heap.size w w'
end Go.Proofs.Ythgkohgbkgakmaa
