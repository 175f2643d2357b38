/-
  Texts of this proof, put together: SrcG.
-/
import Derived.Test.YtphfakdbgohhgaaPackAI
import Derived.Test.YtphfakdbgohhgaaPackAH
import Derived.Laws.AppendOwnNone
import Derived.Deep.Slices

/-
  Elements that lie somewhere in memory and can be appended; parts of a slice. Nothing here names a type of the program.
-/
namespace Go.Proofs.Ytphfakdbgohhgaa
open Go.ChangeShapes Go.WideShapes Go.ChangeAt Go.RowKit

section
variable {α : Type} {e : El α}
def El.Src (e : El α) (w : World) (v : Value) (cs : List α) : Prop :=
  (v = .slice none 0 0 ∧ cs = []) ∨ ∃ ad c, v = .slice (some ad) cs.length c ∧ ∀ j u, (e.vals cs)[j]? = some u → w.cell? (ad.add j) = some u
theorem El.Src.keep {w w' : World} {v : Value} {cs : List α} {B : Nat} (h : e.Src w v cs) (hb : Below B w w') (hB : w.heap.size ≤ B) : e.Src w' v cs := by
  rcases h with h | ⟨ad, c, rfl, hc⟩
  · exact .inl h
  · refine .inr ⟨ad, c, rfl, fun j u hj => ?_⟩
    have h1 := hc j u hj
    have hlt := World.block_lt_of_cell? w _ h1
    rw [hb.cell (p := ad.add j) (by omega)]
    exact h1
theorem El.Src.alloc {w : World} {v : Value} {cs : List α} (h : e.Src w v cs) (o : Obj) : e.Src (w.alloc o) v cs := h.keep ((Below.refl w.heap.size w).alloc (Nat.le_refl _) o) (Nat.le_refl _)
theorem El.Src.drew {w : World} {v : Value} {cs : List α} (h : e.Src w v cs) : e.Src w.drew v cs := h
theorem El.Src.form {w : World} {v : Value} {cs : List α} (h : e.Src w v cs) : ∃ a c, v = .slice a cs.length c := by
  rcases h with ⟨rfl, rfl⟩ | ⟨ad, c, rfl, _⟩
  · exact ⟨none, 0, rfl⟩
  · exact ⟨some ad, c, rfl⟩
theorem El.vals_drop (e : El α) : ∀ (L : List α) (n : Nat), e.vals (L.drop n) = (e.vals L).drop (n * e.c)
  | [], n => by simp [El.vals]
  | x :: L, 0 => by simp
  | x :: L, n + 1 => by
    rw [List.drop_succ_cons, El.vals_cons, El.vals_drop e L n, List.drop_append, e.len, List.drop_of_length_le (l := e.enc x) (by rw [e.len, Nat.succ_mul]; omega), List.nil_append, show (n + 1) * e.c - e.c = n * e.c by rw [Nat.succ_mul]; omega]
theorem El.Owns.src {B : Nat} {w : World} {v : Value} {L : List α} (h : e.Owns B w v L) : e.Src w v L := by
  obtain ⟨hl, ⟨rfl, h0⟩ | ⟨g, cap, cur, rfl, hg, hh, hn, hc, hss, ht⟩⟩ := h
  · exact .inl ⟨rfl, List.eq_nil_of_length_eq_zero h0⟩
  · refine .inr ⟨⟨g, 0, none⟩, cap, rfl, fun j u hj => ?_⟩
    have hjl : j < L.length * e.c := by
      have := (List.getElem?_eq_some_iff.1 hj).1
      rwa [e.length_vals] at this
    rw [addr_add0, ← hj, ← ht, List.getElem?_take, if_pos hjl]
    simp [World.cell?, hh]
theorem El.Owns.of_row {B g n cap : Nat} {w : World} {L : List α} {cur : Array Value} (hh : w.heap[g]? = some (.cells cur e.T (0, 0))) (hg : B ≤ g) (hn : L.length = n) (h1 : n ≤ cap) (h2 : cap ≤ maxLen) (h3 : cur.size = cap * e.c) (h4 : cur.toList.take (n * e.c) = e.vals L) : e.Owns B w (.slice (some ⟨g, 0, none⟩) n cap) L := by
  subst hn
  exact ⟨e.length_vals L, .inr ⟨g, cap, cur, rfl, hg, hh, h1, h2, h3, h4⟩⟩
theorem El.Owns.src_take {B n cap : Nat} {a : Option Addr} {w : World} {L : List α} (h : e.Owns B w (.slice a n cap) L) (hn : L.length = n) (p : Nat) (hp : p ≤ n) : e.Src w (.slice a p cap) (L.take p) := by
  have hl : (L.take p).length = p := by rw [List.length_take]; omega
  rcases h.src with ⟨q, rfl⟩ | ⟨ad, c, q, hc⟩
  · simp only [Value.slice.injEq] at q
    obtain ⟨rfl, rfl, rfl⟩ := q
    left
    obtain rfl : p = 0 := by omega
    exact ⟨rfl, rfl⟩
  · simp only [Value.slice.injEq] at q
    obtain ⟨rfl, _, rfl⟩ := q
    refine .inr ⟨ad, cap, by rw [hl], fun j u hj => hc j u ?_⟩
    rw [El.vals_take, List.getElem?_take] at hj
    split at hj
    · exact hj
    · cases hj
theorem El.Owns.src_drop {B n cap : Nat} {a : Option Addr} {w : World} {L : List α} (h : e.Owns B w (.slice a n cap) L) (hn : L.length = n) (p : Nat) (hp : p ≤ n) : e.Src w (.slice (if cap = p then a else a.map (·.add (p * e.c))) (n - p) (cap - p)) (L.drop p) := by
  have hl : (L.drop p).length = n - p := by rw [List.length_drop]; omega
  rcases h.src with ⟨q, rfl⟩ | ⟨ad, c, q, hc⟩
  · simp only [Value.slice.injEq] at q
    obtain ⟨rfl, rfl, rfl⟩ := q
    left
    obtain rfl : p = 0 := by omega
    exact ⟨rfl, rfl⟩
  · simp only [Value.slice.injEq] at q
    obtain ⟨rfl, _, rfl⟩ := q
    by_cases hcp : cap = p
    · rw [if_pos hcp]
      refine .inr ⟨ad, cap - p, by rw [hl], fun j u hj => ?_⟩
      have hcn : n ≤ cap := by
        obtain ⟨_, ⟨q, _⟩ | ⟨g, c', cur, q, _, _, h1, _⟩⟩ := h
        · simp at q
        · simp only [Value.slice.injEq] at q
          omega
      have : (L.drop p) = [] := List.eq_nil_of_length_eq_zero (by omega)
      rw [this] at hj
      simp [El.vals] at hj
    · rw [if_neg hcp, Option.map_some]
      refine .inr ⟨ad.add (p * e.c), cap - p, by rw [hl], fun j u hj => ?_⟩
      rw [El.vals_drop, List.getElem?_drop] at hj
      rw [Go.Deep.add_add]
      exact hc _ u hj
theorem El.appendSrc {ops : Array Oper} {rest : List Oper} {o : Oper} {a : Act} {Q : Exit → Act → World → Prop} (hgd : o.guard = none) (s x : Operand) (ST : TypeId)
    (ho : o.op = .call { callee := .builtin .append, args := #[s, x], argTypes := #[ST, ST] }) (hST : Try.prog.underlying ST = some (.slice e.T)) (z : Value) (bytes : Nat)
    (hinf : (Try.prog.info? e.T).map (fun i => (i.zero, i.size, i.bytes)) = some (some z, e.c, bytes)) (hz : z.cells.size = e.c) (hc0 : 0 < e.c) (hby : bytes ≤ 64)
    (B : Nat) (w0 wr : World) (v vx : Value) (l cs : List α) (hs : a.eval s = v) (hx : a.eval x = vx)
    (hown : Hid (e.Owns B wr v l)) (hsrc : Hid (e.Src wr vx cs)) (hbel : Hid (Below B w0 wr)) (hB : B ≤ wr.heap.size) (M : List α) (n : Nat) (hM : l ++ cs = M) (hn : M.length = n) (hlen : n ≤ 1099511627776)
    (h : ∀ a' c' w', Hid (e.Owns B w' (.slice a' n c') M) → Hid (Below B w0 w') → wr.heap.size ≤ w'.heap.size → Hid (Only v.ownBlock wr w') → wpList Try.prog ops Q rest (a.put o.dst (.slice a' n c')) w') :
    wpList Try.prog ops Q (o :: rest) a wr := by
  obtain ⟨i0, hi, hz0, hz1, hz2⟩ := info_parts hinf
  have hlen' : l.length + cs.length ≤ 1099511627776 := by rw [← List.length_append, hM, hn]; exact hlen
  have fin : ∀ v' w', e.Owns B w' v' (l ++ cs) → Below B w0 w' → wr.heap.size ≤ w'.heap.size → Only v.ownBlock wr w' → wpList Try.prog ops Q rest (a.put o.dst v') w' := fun v' w' h1 h2 h3 h4 => by
    obtain ⟨a', c', rfl, _⟩ := h1.form
    rw [hM, hn] at h1 ⊢
    exact h a' c' w' h1 h2 h3 h4
  rcases hsrc.out with ⟨rfl, rfl⟩ | ⟨ad, c, rfl, hc⟩
  · exact wpList_append_own_none hgd s x ST ho B e.T i0 e.c hST hi v l.length (e.vals l) hs hown.out hx (fin v wr (by rw [List.append_nil]; exact hown.out) hbel.out (Nat.le_refl _) (Only.refl _ _))
  · refine wpList_plain hgd fun K hK => ?_
    refine wp_append_own _ s x ST ho B e.T i0 z e.c bytes hST hi hz0 hz1 hz2 hz hc0 v l.length (e.vals l) hs hown.out
      ad cs.length c (e.vals cs) hx (e.length_vals cs) hc (e.vals_mem cs) (by unfold maxLen; omega) ?_ hB ?_
    · refine Nat.le_trans (Nat.mul_le_mul hlen' hby) (by decide)
    intro v' w' h1 h2 _
    refine hK _ _ (fin v' w' ?_ (Below.grown hbel.out h2 hB (fun k hk => (World.ownsRow.lt hown.out k hk).1)) h2.size h2)
    show World.ownsRow _ _ _ _ _ _ _
    rw [List.length_append, e.vals_append]
    exact h1
end
theorem map_add0' (a : Option Addr) : a.map (·.add 0) = a := by cases a <;> simp [Addr.add]
theorem below_drew' {w w' : World} (h : Below w.drew.heap.size w.drew w') : Below w.heap.size w w' := ⟨h.os, h.tape, h.output, h.size, h.block⟩
end Go.Proofs.Ytphfakdbgohhgaa
