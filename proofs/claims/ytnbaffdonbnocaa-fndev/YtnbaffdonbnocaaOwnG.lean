/-
  Slots appended to slots that the call owns.
-/
import Derived.Test.YtnbaffdonbnocaaBox
import Derived.Laws.AppendOwnNone
namespace Go.Proofs.Ytnbaffdonbnocaa
open Go.ChangeShapes Go.WideShapes Go.ChangeAt Go.RowKit

theorem OwnsS.lit0 (B : Nat) (w : World) (hB : B ≤ w.heap.size) : OwnsS B (w.alloc (.cells #[] 36)) (.slice (some ⟨w.heap.size, 0, none⟩) 0 0) [] :=
  (HoldsS.new w []).owns hB (by simp [maxLen])
theorem OwnsS.lit1 (B : Nat) (w : World) (t : Int) (k : ByteArray) (hB : B ≤ w.heap.size) : OwnsS B (w.alloc (.cells #[.int .i64 t, .string k] 36)) (.slice (some ⟨w.heap.size, 0, none⟩) 1 1) [(t, k)] :=
  (HoldsS.new w [(t, k)]).owns hB (by simp [maxLen])
theorem OwnsS.drew {B : Nat} {w : World} {v : Value} {L : List Slot} (h : OwnsS B w v L) : OwnsS B w.drew v L := h
theorem OwnsS.alloc {B : Nat} {w : World} {v : Value} {L : List Slot} (h : OwnsS B w v L) (o : Obj) : OwnsS B (w.alloc o) v L :=
  h.below ((Below.refl w.heap.size w).alloc (Nat.le_refl _) o) (Nat.le_refl _)

theorem appendS {ops : Array Oper} {rest : List Oper} {o : Oper} {a : Act} {Q : Exit → Act → World → Prop} (hgd : o.guard = none) (s x : Operand)
    (ho : o.op = .call { callee := .builtin .append, args := #[s, x], argTypes := #[25, 25] })
    (B B2 : Nat) (w0 wr : World) (v vx : Value) (l cs : List Slot) (hs : a.eval s = v) (hx : a.eval x = vx)
    (hown : Hid (OwnsS B wr v l)) (hsrc : Hid (OwnsS B2 wr vx cs)) (hbel : Hid (Below B w0 wr)) (hB : B ≤ wr.heap.size) (M : List Slot) (n : Nat) (hM : l ++ cs = M) (hn : M.length = n) (hlen : n ≤ 1099511627776)
    (h : ∀ a' c' w', Hid (OwnsS B w' (.slice a' n c') M) → Hid (Below B w0 w') → wr.heap.size ≤ w'.heap.size → wpList Try.prog ops Q rest (a.put o.dst (.slice a' n c')) w') :
    wpList Try.prog ops Q (o :: rest) a wr := by
  obtain ⟨i0, hi, hz0, hz1, hz2⟩ := info_parts infoS
  have hlen' : l.length + cs.length ≤ 1099511627776 := by rw [← List.length_append, hM, hn]; exact hlen
  have fin : ∀ v' w', OwnsS B w' v' (l ++ cs) → Below B w0 w' → wr.heap.size ≤ w'.heap.size → wpList Try.prog ops Q rest (a.put o.dst v') w' := fun v' w' h1 h2 h3 => by
    obtain ⟨a', c', rfl, _⟩ := h1.form
    rw [hM, hn] at h1 ⊢
    exact h a' c' w' h1 h2 h3
  have hsrc' := hsrc.out
  obtain ⟨hl, ⟨rfl, h0⟩ | ⟨g, cap, cur, rfl, hg, hh, hn, hc, hss, ht⟩⟩ := hsrc'
  · obtain rfl : cs = [] := List.eq_nil_of_length_eq_zero h0
    refine wpList_append_own_none hgd s x 25 ho B 36 i0 2 Try.underlying25 hi v l.length (slotVals l) hs hown.out hx (fin v wr (by rw [List.append_nil]; exact hown.out) hbel.out (Nat.le_refl _))
  · refine wpList_plain hgd fun K hK => ?_
    refine wp_append_own _ s x 25 ho B 36 i0 (.agg #[.int .i64 0, .string ⟨#[]⟩]) 2 24 Try.underlying25 hi hz0 hz1 hz2 rfl (by decide) v l.length (slotVals l) hs hown.out
      ⟨g, 0, none⟩ cs.length cap (slotVals cs) hx (by rw [length_slotVals]) ?_ (slotVals_one cs) (by unfold maxLen; omega) (by omega) hB ?_
    · intro j u hj
      have hjl : j < cs.length * 2 := by
        have := (List.getElem?_eq_some_iff.1 hj).1
        rwa [length_slotVals] at this
      rw [addr_add0, ← hj, ← ht, List.getElem?_take, if_pos hjl]
      simp [World.cell?, hh]
    · intro v' w' h1 h2 _
      refine hK _ _ (fin v' w' ?_ (Below.grown hbel.out h2 hB (fun k hk => (World.ownsRow.lt hown.out k hk).1)) h2.size)
      show World.ownsRow _ _ _ _ _ _ _
      rw [List.length_append, slotVals_append]
      exact h1

theorem OwnsS.set_other {B : Nat} {w : World} {v : Value} {L : List Slot} {p : Addr} (h : OwnsS B w v L) (hp : p.block < B) (u : Value) : OwnsS B (w.setCell p u) v L :=
  h.keep fun g hg _ => heap_setCell_other w p g u (fun e => by omega)
theorem OwnsS.set_ne {B : Nat} {w : World} {v : Value} {L : List Slot} {p : Addr} (h : OwnsS B w v L) (hk : ∀ k, v.ownBlock = some k → k ≠ p.block) (u : Value) : OwnsS B (w.setCell p u) v L := by
  obtain ⟨hl, ⟨rfl, h0⟩ | ⟨g, cap, cur, rfl, hg, hh, hr⟩⟩ := h
  · exact ⟨hl, .inl ⟨rfl, h0⟩⟩
  · exact ⟨hl, .inr ⟨g, cap, cur, rfl, hg, (heap_setCell_other w p g u (hk g rfl)).trans hh, hr⟩⟩
theorem OwnsS.lt {B : Nat} {w : World} {v : Value} {L : List Slot} (h : OwnsS B w v L) : ∀ k, v.ownBlock = some k → B ≤ k ∧ k < w.heap.size := World.ownsRow.lt h
theorem oldB {B : Nat} {W w1 : World} (hb : Below B W w1) : (∀ b o, b < B → w1.cell? ⟨b, o, none⟩ = W.cell? ⟨b, o, none⟩) ∧ (∀ b o, b < B → w1.frozen? ⟨b, o, none⟩ = W.frozen? ⟨b, o, none⟩) :=
  ⟨fun _ _ h => hb.cell h, fun _ _ h => hb.frozen h⟩
def SlotsPost (w : World) (L : List Slot) (e : Ending) (w' : World) : Prop :=
  ∃ v, e = .returned v ∧ OwnsS w.heap.size w' v L ∧ Below w.heap.size w w'

end Go.Proofs.Ytnbaffdonbnocaa
