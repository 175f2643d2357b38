/-
  Texts of this proof, put together: StepG.
-/
import Derived.Test.YtdlkgpobjacgeaaGreatDoorPackAY
import Derived.Test.YtdlkgpobjacgeaaGreatDoorPackAL
import Derived.Test.YtdlkgpobjacgeaaGreatDoorPackAJ

/-
  Append as a step of a region that draws its order, for elements of any type; rows of different types lie apart. Nothing here names a type of the program but entries.
-/
namespace Go.Proofs.YtdlkgpobjacgeaaGreatDoor
open Go.ChangeShapes Go.WideShapes Go.ChangeAt Go.RowKit

section
variable {α β : Type} {e : El α} {e' : El β} {A B : Nat} {w w' : World} {v u : Value} {L : List α} {M : List β}
theorem El.Owns.type (h : e.Owns B w v L) : ∀ k, v.ownBlock = some k → B ≤ k ∧ ∃ cs, w.heap[k]? = some (.cells cs e.T (0, 0)) := by
  intro k hk
  obtain ⟨_, ⟨rfl, _⟩ | ⟨g, cap, cur, rfl, hg, hh, _⟩⟩ := h
  · cases hk
  · injection hk with hk
    subst hk
    exact ⟨hg, cur, hh⟩
theorem El.Owns.apart (h : e.Owns A w v L) (k : e'.Owns B w u M) (hT : e.T ≠ e'.T) : ∀ j, v.ownBlock = some j → u.ownBlock = some j → False := by
  intro j h1 h2
  obtain ⟨_, c1, e1⟩ := h.type j h1
  obtain ⟨_, c2, e2⟩ := k.type j h2
  rw [e1] at e2
  injection e2 with e2
  injection e2 with _ e3
  exact hT e3
/-- a row of another type was appended to: this one stands -/
theorem El.Owns.other (h : e.Owns A w v L) (k : e'.Owns B w u M) (hT : e.T ≠ e'.T) (hg : Only u.ownBlock w w') : e.Owns A w' v L :=
  row_keep h fun j hj _ hl => hg.block j hl fun x => h.apart k hT j hj x.symm
theorem BoxV.other {T : TypeId} {g : Nat} {vs : Array Value} (h : BoxV T w g vs) (k : e'.Owns B w u M) (hT : T ≠ e'.T) (hg : Only u.ownBlock w w') : BoxV T w' g vs :=
  (hg.block g h.lt fun x => by
    obtain ⟨_, c2, e2⟩ := k.type g x.symm
    have h1 : w.heap[g]? = _ := h
    rw [h1] at e2
    injection e2 with e2
    injection e2 with _ e3
    exact hT e3).trans h
end
/-- append of elements that lie somewhere, as a step of a region that draws its order -/
theorem El.stepSrc {α : Type} {e : El α} {ops : Array Oper} {o : Oper} {a : Act} {tm : Array Value} {K : Act → World → Prop} {Q : Exit → Act → World → Prop} {E : Prop} (hgd : o.guard = none) (s x : Operand) (ST : TypeId)
    (ho : o.op = .call { callee := .builtin .append, args := #[s, x], argTypes := #[ST, ST] }) (hST : Tryz.prog.underlying ST = some (.slice e.T)) (z : Value) (bytes : Nat)
    (hinf : (Tryz.prog.info? e.T).map (fun i => (i.zero, i.size, i.bytes)) = some (some z, e.c, bytes)) (hz : z.cells.size = e.c) (hc0 : 0 < e.c) (hby : bytes ≤ 64)
    (B : Nat) (w0 wr : World) (v : Value) (ad : Addr) (c m : Nat) (l cs : List α) (hs : a.eval s = v) (hx : a.eval x = .slice (some ad) m c) (hm : cs.length = m)
    (hown : Hid (e.Owns B wr v l)) (hc : ∀ j u, (e.vals cs)[j]? = some u → wr.cell? (ad.add j) = some u) (hbel : Hid (Below B w0 wr)) (hB : B ≤ wr.heap.size) (M : List α) (n : Nat) (hM : l ++ cs = M) (hn : M.length = n) (hlen : n ≤ 1099511627776)
    (h : ∀ a' c' w', Hid (e.Owns B w' (.slice a' n c') M) → Hid (Below B w0 w') → wr.heap.size ≤ w'.heap.size → Hid (Only v.ownBlock wr w') → K (a.put o.dst (.slice a' n c')) w') :
    if Region.wanted o (yielded ops tm) = true then Oper.wp Tryz.prog o a wr K Q else E := by
  have hw : Region.wanted o (yielded ops tm) = true := by simp [Region.wanted, hgd]
  rw [if_pos hw]
  subst hm
  obtain ⟨i0, hi, hz0, hz1, hz2⟩ := info_parts hinf
  have hlen' : l.length + cs.length ≤ 1099511627776 := by rw [← List.length_append, hM, hn]; exact hlen
  refine wp_append_own _ s x ST ho B e.T i0 z e.c bytes hST hi hz0 hz1 hz2 hz hc0 v l.length (e.vals l) hs hown.out
    ad cs.length c (e.vals cs) hx (e.length_vals cs) hc (e.vals_mem cs) (by unfold maxLen; omega) ?_ hB ?_
  · exact Nat.le_trans (Nat.mul_le_mul hlen' hby) (by decide)
  intro v' w' h1 h2 _
  have h1' : e.Owns B w' v' (l ++ cs) := by
    show World.ownsRow _ _ _ _ _ _ _
    rw [List.length_append, e.vals_append]
    exact h1
  obtain ⟨a', c', rfl, _⟩ := h1'.form
  rw [hM, hn] at h1' ⊢
  exact h a' c' w' h1' (Below.grown hbel.out h2 hB (fun k hk => (World.ownsRow.lt hown.out k hk).1)) h2.size h2
/-- what lies in a new block of literals -/
theorem El.lit_cells {α : Type} (e : El α) (w : World) (L : List α) (vs : Array Value) (hv : vs = (e.vals L).toArray) : ∀ j u, (e.vals L)[j]? = some u → (w.alloc (.cells vs e.T)).cell? ((⟨w.heap.size, 0, none⟩ : Addr).add j) = some u := by
  intro j u hj
  subst hv
  have h : (w.alloc (.cells (e.vals L).toArray e.T)).heap[w.heap.size]? = some (.cells (e.vals L).toArray e.T (0, 0)) := Go.Deep.blk_alloc_new w _
  rw [addr_add0]
  unfold World.cell?
  simp only [h]
  simpa using hj
/-- l[p:q] and l[p:q:q] of a slice of entries -/
theorem runMidEnt (b off n cap p q : Nat) (h1 : p < q) (h2 : q ≤ cap) (w : World) : (Instr.slice 33 (.slice (some ⟨b, off, none⟩) n cap) (some (.int .i64 (p : Int))) (some (.int .i64 (q : Int))) none).run Tryz.prog w = .ok (.slice (some ⟨b, off + p * 4, none⟩) (q - p) (cap - p)) w := by
  obtain ⟨i0, hi0, hz0, hz1, hz2⟩ := info_parts infoEnt
  rw [run_slice_lh (P := Tryz.prog) w 33 (some ⟨b, off, none⟩) n cap (by kernel_rfl) .i64 .i64 (p : Int) (q : Int) (by omega) (by omega) (by omega)]
  rw [show Tryz.prog.elem 33 = 30 by kernel_rfl]
  have hne : cap ≠ p := by omega
  simp [sizeOf, typeInfo, hi0, hz1, sliced, hne, Addr.add]
theorem runMid3Ent (b off n cap p q : Nat) (h1 : p < q) (h2 : q ≤ cap) (w : World) : (Instr.slice 33 (.slice (some ⟨b, off, none⟩) n cap) (some (.int .i64 (p : Int))) (some (.int .i64 (q : Int))) (some (.int .i64 (q : Int)))).run Tryz.prog w = .ok (.slice (some ⟨b, off + p * 4, none⟩) (q - p) (q - p)) w := by
  obtain ⟨i0, hi0, hz0, hz1, hz2⟩ := info_parts infoEnt
  rw [run_slice_lhm (P := Tryz.prog) w 33 (some ⟨b, off, none⟩) n cap (by kernel_rfl) .i64 .i64 .i64 (p : Int) (q : Int) (q : Int) (by omega) (by omega) (by omega) (by omega)]
  rw [show Tryz.prog.elem 33 = 30 by kernel_rfl]
  have hne : q ≠ p := by omega
  simp [sizeOf, typeInfo, hi0, hz1, sliced, hne, Addr.add]
end Go.Proofs.YtdlkgpobjacgeaaGreatDoor
