/-
  A slice of strings that the call itself owns: made, filled, appended to, read.
-/
import Derived.Test.YtnbaffdonbnocaaOwnG
import Derived.Test.YtnbaffdonbnocaaOwnB
import Derived.Test.YtnbaffdonbnocaaMathT
namespace Go.Proofs.Ytnbaffdonbnocaa
open Go.ChangeShapes Go.WideShapes Go.ChangeAt Go.RowKit

theorem infoT : (Try.prog.info? 9).map (fun i => (i.zero, i.size, i.bytes)) = some (some (.string ⟨#[]⟩), 1, 16) := by kernel_rfl
def zeroT : ByteArray := ⟨#[]⟩
theorem made_strs (n : Nat) : madeCells #[.string ⟨#[]⟩] (n * 1) = (strVals (List.replicate n zeroT)).toArray := by
  apply Array.ext_getElem?
  intro i
  by_cases h : i < n
  · simp [madeCells, strVals, zeroT, h, Nat.mod_one]
  · simp [madeCells, strVals, h]
theorem run_makeT (n : Nat) (hn : n ≤ 1099511627776) (w : World) : (Instr.makeSlice 24 (.int .i64 (n : Int)) (.int .i64 (n : Int))).run Try.prog w = .ok (.slice (some ⟨w.heap.size, 0, none⟩) n n) (w.alloc (.cells (strVals (List.replicate n zeroT)).toArray 9)) := by
  obtain ⟨i, hi, hz0, hz1, hz2⟩ := info_parts infoT
  have h := run_make (P := Try.prog) w 24 9 i (.string ⟨#[]⟩) Try.underlying24 hi hz0 .i64 .i64 n n (by omega) (by omega) (by rw [hz2]; omega) (by omega)
  rw [h, hz1]
  simp only [Value.cells, Int.toNat_natCast]
  rw [made_strs]

/-- block g is a row of the strings S -/
def HoldsT (w : World) (g : Nat) (S : List ByteArray) : Prop := w.heap[g]? = some (.cells (strVals S).toArray 9 (0, 0))
theorem HoldsT.cells {w : World} {g : Nat} {S : List ByteArray} (h : HoldsT w g S) (j : Nat) (hj : j < S.length) : w.cell? ⟨g, j, none⟩ = some (.string (st S j)) := by
  unfold HoldsT at h
  have h0 := strVals_at S j hj
  simp [World.cell?, h, h0]
theorem HoldsT.frozen {w : World} {g : Nat} {S : List ByteArray} (h : HoldsT w g S) (o : Nat) : w.frozen? ⟨g, o, none⟩ = false := frozen_of_row w g o _ 9 h
theorem HoldsT.new (w : World) (S : List ByteArray) : HoldsT (w.alloc (.cells (strVals S).toArray 9)) w.heap.size S := by
  unfold HoldsT; exact Go.Deep.blk_alloc_new w _
theorem HoldsT.block {w w' : World} {g : Nat} {S : List ByteArray} (h : HoldsT w g S) (e : w'.heap[g]? = w.heap[g]?) : HoldsT w' g S := by
  unfold HoldsT at *; rw [e, h]
theorem HoldsT.below {w w' : World} {g B : Nat} {S : List ByteArray} (h : HoldsT w g S) (hb : Below B w w') (hg : g < B) : HoldsT w' g S := h.block (hb.block g hg)
theorem HoldsT.set {w : World} {g : Nat} {S : List ByteArray} (h : HoldsT w g S) (j : Nat) (k : ByteArray) : HoldsT (w.setCell ⟨g, j, none⟩ (.string k)) g (S.set j k) := by
  unfold HoldsT at *
  have h1 := heap_setCell_same w g j _ 9 (.string k) h
  rw [h1, strVals_set, List.setIfInBounds_toArray]
theorem HoldsT.set_other {w : World} {g : Nat} {S : List ByteArray} {p : Addr} (h : HoldsT w g S) (hp : p.block ≠ g) (u : Value) : HoldsT (w.setCell p u) g S := h.block (heap_setCell_other w p g u (fun e => hp e.symm))
theorem HoldsT.drew {w : World} {g : Nat} {S : List ByteArray} (h : HoldsT w g S) : HoldsT w.drew g S := h
theorem HoldsT.alloc {w : World} {g : Nat} {S : List ByteArray} (h : HoldsT w g S) (o : Obj) : HoldsT (w.alloc o) g S := h.block (Below.heap_alloc w o g (Array.getElem?_eq_some_iff.1 h).1)
theorem HoldsT.rd {w : World} {g : Nat} {S : List ByteArray} (h : HoldsT w g S) : StrRd w w.heap.size (some ⟨g, 0, none⟩) S := fun _ =>
  ⟨g, 0, rfl, (Array.getElem?_eq_some_iff.1 h).1, fun j hj => by rw [Nat.zero_add]; exact h.cells j hj⟩

def OwnsT (B : Nat) (w : World) (v : Value) (S : List ByteArray) : Prop := w.ownsRow B 9 1 v S.length (strVals S)
theorem HoldsT.owns {w : World} {g B : Nat} {S : List ByteArray} (h : HoldsT w g S) (hB : B ≤ g) (hl : S.length ≤ maxLen) : OwnsT B w (.slice (some ⟨g, 0, none⟩) S.length S.length) S :=
  ⟨length_strVals S, .inr ⟨g, S.length, (strVals S).toArray, rfl, hB, h, Nat.le_refl _, hl, by simp [strVals], by rw [← length_strVals S]; simp⟩⟩
theorem OwnsT.nil (B : Nat) (w : World) : OwnsT B w (.slice none 0 0) [] := ⟨rfl, .inl ⟨rfl, rfl⟩⟩
/-- What is owned is a slice, its block and its cells. -/
theorem OwnsT.form {B : Nat} {w : World} {v : Value} {S : List ByteArray} (h : OwnsT B w v S) : ∃ a cap, v = .slice a S.length cap ∧ StrRd w w.heap.size a S ∧ S.length ≤ cap ∧ cap ≤ maxLen := by
  obtain ⟨hl, ⟨rfl, h0⟩ | ⟨g, cap, cur, rfl, hg, hh, hn, hc, hs, ht⟩⟩ := h
  · refine ⟨none, 0, by rw [h0], fun hp => by omega, by omega, by unfold maxLen; omega⟩
  · refine ⟨_, cap, rfl, fun _ => ⟨g, 0, rfl, (Array.getElem?_eq_some_iff.1 hh).1, fun j hj => ?_⟩, hn, hc⟩
    have e0 : cur[j]? = (strVals S)[j]? := by
      rw [← ht, List.getElem?_take, if_pos (by omega), Array.getElem?_toList]
    rw [strVals_at S j hj] at e0
    simp [World.cell?, hh, e0]
theorem OwnsT.keep {B : Nat} {w w' : World} {v : Value} {S : List ByteArray} (h : OwnsT B w v S) (hk : ∀ g, B ≤ g → g < w.heap.size → w'.heap[g]? = w.heap[g]?) : OwnsT B w' v S := by
  obtain ⟨hl, ⟨rfl, h0⟩ | ⟨g, cap, cur, rfl, hg, hh, hr⟩⟩ := h
  · exact ⟨hl, .inl ⟨rfl, h0⟩⟩
  · exact ⟨hl, .inr ⟨g, cap, cur, rfl, hg, by rw [hk g hg (Array.getElem?_eq_some_iff.1 hh).1]; exact hh, hr⟩⟩
theorem OwnsT.below {B B' : Nat} {w w' : World} {v : Value} {S : List ByteArray} (h : OwnsT B w v S) (hb : Below B' w w') (hB : w.heap.size ≤ B') : OwnsT B w' v S :=
  h.keep fun g _ hg => hb.block g (by omega)
theorem OwnsT.mono {B B' : Nat} {w : World} {v : Value} {S : List ByteArray} (h : OwnsT B w v S) (hB : B' ≤ B) : OwnsT B' w v S := by
  obtain ⟨hl, ⟨rfl, h0⟩ | ⟨g, cap, cur, rfl, hg, hr⟩⟩ := h
  · exact ⟨hl, .inl ⟨rfl, h0⟩⟩
  · exact ⟨hl, .inr ⟨g, cap, cur, rfl, by omega, hr⟩⟩
theorem OwnsT.lit0 (B : Nat) (w : World) (hB : B ≤ w.heap.size) : OwnsT B (w.alloc (.cells #[] 9)) (.slice (some ⟨w.heap.size, 0, none⟩) 0 0) [] :=
  (HoldsT.new w []).owns hB (by simp [maxLen])
theorem OwnsT.drew {B : Nat} {w : World} {v : Value} {S : List ByteArray} (h : OwnsT B w v S) : OwnsT B w.drew v S := h
theorem OwnsT.alloc {B : Nat} {w : World} {v : Value} {S : List ByteArray} (h : OwnsT B w v S) (o : Obj) : OwnsT B (w.alloc o) v S :=
  h.below ((Below.refl w.heap.size w).alloc (Nat.le_refl _) o) (Nat.le_refl _)
theorem OwnsT.set_other {B : Nat} {w : World} {v : Value} {S : List ByteArray} {p : Addr} (h : OwnsT B w v S) (hp : p.block < B) (u : Value) : OwnsT B (w.setCell p u) v S :=
  h.keep fun g hg _ => heap_setCell_other w p g u (fun e => by omega)
theorem OwnsT.set_ne {B : Nat} {w : World} {v : Value} {S : List ByteArray} {p : Addr} (h : OwnsT B w v S) (hk : ∀ k, v.ownBlock = some k → k ≠ p.block) (u : Value) : OwnsT B (w.setCell p u) v S := by
  obtain ⟨hl, ⟨rfl, h0⟩ | ⟨g, cap, cur, rfl, hg, hh, hr⟩⟩ := h
  · exact ⟨hl, .inl ⟨rfl, h0⟩⟩
  · exact ⟨hl, .inr ⟨g, cap, cur, rfl, hg, (heap_setCell_other w p g u (hk g rfl)).trans hh, hr⟩⟩
theorem OwnsT.lt {B : Nat} {w : World} {v : Value} {S : List ByteArray} (h : OwnsT B w v S) : ∀ k, v.ownBlock = some k → B ≤ k ∧ k < w.heap.size := World.ownsRow.lt h
theorem OwnsT.only {B : Nat} {w w' : World} {v : Value} {S : List ByteArray} {o : Option Nat} (h : OwnsT B w v S) (hk : Only o w w') (hne : ∀ k, v.ownBlock = some k → some k ≠ o) : OwnsT B w' v S := by
  have hlt := h.lt
  obtain ⟨hl, ⟨rfl, h0⟩ | ⟨g, cap, cur, rfl, hg, hh, hr⟩⟩ := h
  · exact ⟨hl, .inl ⟨rfl, h0⟩⟩
  · exact ⟨hl, .inr ⟨g, cap, cur, rfl, hg, (hk.block g (hlt g rfl).2 (hne g rfl)).trans hh, hr⟩⟩
theorem OwnsT.rd {B : Nat} {w : World} {a : Option Addr} {n cap : Nat} {S : List ByteArray} (h : OwnsT B w (.slice a n cap) S) : StrRd w w.heap.size a S := by
  obtain ⟨a', cap', e, hr, _⟩ := h.form
  simp only [Value.slice.injEq] at e
  rw [e.1]
  exact hr
theorem HoldsT.own0 {w : World} {g : Nat} {S : List ByteArray} (h : HoldsT w g S) (hl : S.length ≤ 1048576) : OwnsT 0 w (.slice (some ⟨g, 0, none⟩) S.length S.length) S := h.owns (Nat.zero_le _) (by unfold maxLen; omega)
theorem OwnsT.pos {B n cap : Nat} {a : Option Addr} {w : World} {S : List ByteArray} (h : OwnsT B w (.slice a n cap) S) (hp : 0 < S.length) : ∃ g, a = some ⟨g, 0, none⟩ ∧ B ≤ g ∧ g < w.heap.size := by
  obtain ⟨_, ⟨_, h0⟩ | ⟨g, c, cur, e, hg, hh, _⟩⟩ := h
  · omega
  · simp only [Value.slice.injEq] at e
    exact ⟨g, e.1, hg, (Array.getElem?_eq_some_iff.1 hh).1⟩
theorem OwnsT.cellAt {B g n cap : Nat} {w : World} {S : List ByteArray} (h : OwnsT B w (.slice (some ⟨g, 0, none⟩) n cap) S) (hn : S.length = n) (j : Nat) (hj : j < S.length) : w.cell? ⟨g, j, none⟩ = some (.string (st S j)) := by
  subst hn
  exact (World.ownsRow.cellAt h j (by omega)).trans (strVals_at S j hj)
theorem OwnsT.frozenAt {B g n cap : Nat} {w : World} {S : List ByteArray} (h : OwnsT B w (.slice (some ⟨g, 0, none⟩) n cap) S) (hn : S.length = n) (o : Nat) : w.frozen? ⟨g, o, none⟩ = false := by
  subst hn
  exact World.ownsRow.frozenAt h o
theorem OwnsT.set {B g n cap : Nat} {w : World} {S : List ByteArray} (h : OwnsT B w (.slice (some ⟨g, 0, none⟩) n cap) S) (hn : S.length = n) (j : Nat) (k : ByteArray) : OwnsT B (w.setCell ⟨g, j, none⟩ (.string k)) (.slice (some ⟨g, 0, none⟩) n cap) (S.set j k) := by
  subst hn
  have := (World.ownsRow.stored h j (.string k)).1
  rw [← strVals_set] at this
  unfold OwnsT
  rw [List.length_set]
  exact this

theorem OwnsS.only {B : Nat} {w w' : World} {v : Value} {L : List Slot} {o : Option Nat} (h : OwnsS B w v L) (hk : Only o w w') (hne : ∀ k, v.ownBlock = some k → some k ≠ o) : OwnsS B w' v L := by
  have hlt := h.lt
  obtain ⟨hl, ⟨rfl, h0⟩ | ⟨g, cap, cur, rfl, hg, hh, hr⟩⟩ := h
  · exact ⟨hl, .inl ⟨rfl, h0⟩⟩
  · exact ⟨hl, .inr ⟨g, cap, cur, rfl, hg, (hk.block g (hlt g rfl).2 (hne g rfl)).trans hh, hr⟩⟩
theorem OwnsS.rd {B : Nat} {w : World} {a : Option Addr} {n cap : Nat} {L : List Slot} (h : OwnsS B w (.slice a n cap) L) : SlotRd w w.heap.size a L := by
  obtain ⟨a', cap', e, hr, _⟩ := h.form
  simp only [Value.slice.injEq] at e
  rw [e.1]
  exact hr
theorem HoldsS.own0 {w : World} {g : Nat} {L : List Slot} (h : HoldsS w g L) (hl : L.length ≤ 1048576) : OwnsS 0 w (.slice (some ⟨g, 0, none⟩) L.length L.length) L := h.owns (Nat.zero_le _) (by unfold maxLen; omega)
theorem BoxB.only {T : TypeId} {w w' : World} {g : Nat} {v0 v1 v2 : Value} {o : Option Nat} (h : BoxB T w g v0 v1 v2) (hk : Only o w w') (hne : some g ≠ o) : BoxB T w' g v0 v1 v2 := (hk.block g h.lt hne).trans h

theorem appendT {ops : Array Oper} {rest : List Oper} {o : Oper} {a : Act} {Q : Exit → Act → World → Prop} (hgd : o.guard = none) (s x : Operand)
    (ho : o.op = .call { callee := .builtin .append, args := #[s, x], argTypes := #[24, 24] })
    (B B2 : Nat) (w0 wr : World) (v vx : Value) (l cs : List ByteArray) (hs : a.eval s = v) (hx : a.eval x = vx)
    (hown : Hid (OwnsT B wr v l)) (hsrc : Hid (OwnsT B2 wr vx cs)) (hbel : Hid (Below B w0 wr)) (hB : B ≤ wr.heap.size) (M : List ByteArray) (n : Nat) (hM : l ++ cs = M) (hn : M.length = n) (hlen : n ≤ 1099511627776)
    (h : ∀ a' c' w', Hid (OwnsT B w' (.slice a' n c') M) → Hid (Below B w0 w') → wr.heap.size ≤ w'.heap.size → wpList Try.prog ops Q rest (a.put o.dst (.slice a' n c')) w') :
    wpList Try.prog ops Q (o :: rest) a wr := by
  obtain ⟨i0, hi, hz0, hz1, hz2⟩ := info_parts infoT
  have hlen' : l.length + cs.length ≤ 1099511627776 := by rw [← List.length_append, hM, hn]; exact hlen
  have fin : ∀ v' w', OwnsT B w' v' (l ++ cs) → Below B w0 w' → wr.heap.size ≤ w'.heap.size → wpList Try.prog ops Q rest (a.put o.dst v') w' := fun v' w' h1 h2 h3 => by
    obtain ⟨a', c', rfl, _⟩ := h1.form
    rw [hM, hn] at h1 ⊢
    exact h a' c' w' h1 h2 h3
  have hsrc' := hsrc.out
  obtain ⟨hl, ⟨rfl, h0⟩ | ⟨g, cap, cur, rfl, hg, hh, hn, hc, hss, ht⟩⟩ := hsrc'
  · obtain rfl : cs = [] := List.eq_nil_of_length_eq_zero h0
    refine wpList_append_own_none hgd s x 24 ho B 9 i0 1 Try.underlying24 hi v l.length (strVals l) hs hown.out hx (fin v wr (by rw [List.append_nil]; exact hown.out) hbel.out (Nat.le_refl _))
  · refine wpList_plain hgd fun K hK => ?_
    refine wp_append_own _ s x 24 ho B 9 i0 (.string ⟨#[]⟩) 1 16 Try.underlying24 hi hz0 hz1 hz2 rfl (by decide) v l.length (strVals l) hs hown.out
      ⟨g, 0, none⟩ cs.length cap (strVals cs) hx (by rw [length_strVals]) ?_ (strVals_one cs) (by unfold maxLen; omega) (by omega) hB ?_
    · intro j u hj
      have hjl : j < cs.length * 1 := by
        have := (List.getElem?_eq_some_iff.1 hj).1
        rwa [length_strVals] at this
      rw [addr_add0, ← hj, ← ht, List.getElem?_take, if_pos hjl]
      simp [World.cell?, hh]
    · intro v' w' h1 h2 _
      refine hK _ _ (fin v' w' ?_ (Below.grown hbel.out h2 hB (fun k hk => (World.ownsRow.lt hown.out k hk).1)) h2.size)
      show World.ownsRow _ _ _ _ _ _ _
      rw [List.length_append, strVals_append]
      exact h1
def StrsPost (w : World) (S : List ByteArray) (e : Ending) (w' : World) : Prop :=
  ∃ v, e = .returned v ∧ OwnsT w.heap.size w' v S ∧ Below w.heap.size w w'
end Go.Proofs.Ytnbaffdonbnocaa
