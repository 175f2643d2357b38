/-
  A slice of ints that the call itself owns: appended to, and read as words.
-/
import Derived.Test.YtakjjfbocokpaaaDoorOwn
import Derived.Test.YtakjjfbocokpaaaDoorMathX
import Derived.WalkKit
import Derived.ProofKit
namespace Go.Proofs.YtakjjfbocokpaaaDoor
open Go.ChangeShapes Go.WideShapes Go.ChangeAt Go.RowKit

theorem infoI : (Tryd.prog.info? 3).map (fun i => (i.zero, i.size, i.bytes)) = some (some (.int .i64 0), 1, 8) := by kernel_rfl
theorem wordVals_one (k : IntKind) (L : List Nat) : ∀ v ∈ wordVals k L, v.oneCell' = true := by
  intro v hv
  simp [wordVals] at hv
  obtain ⟨c, _, rfl⟩ := hv
  rfl
theorem wordVals_append (k : IntKind) (L M : List Nat) : wordVals k L ++ wordVals k M = wordVals k (L ++ M) := by simp [wordVals]
theorem wordVals_some (k : IntKind) (L : List Nat) (j : Nat) (v : Value) (h : (wordVals k L)[j]? = some v) : ∃ _ : j < L.length, v = .int k (wd L j : Nat) := by
  have hj : j < L.length := by have := (List.getElem?_eq_some_iff.1 h).1; simpa [wordVals] using this
  refine ⟨hj, ?_⟩
  have : (wordVals k L)[j]? = some (.int k (wd L j : Nat)) := by simp [wordVals, wd, hj]
  rw [this] at h
  exact (Option.some.inj h).symm

def OwnsW (B : Nat) (w : World) (v : Value) (L : List Nat) : Prop := w.ownsRow B 3 1 v L.length (wordVals .i64 L)
theorem OwnsW.lit (B : Nat) (w : World) (L : List Nat) (hB : B ≤ w.heap.size) (hl : L.length ≤ maxLen) : OwnsW B (w.alloc (.cells (wordVals .i64 L).toArray 3)) (.slice (some ⟨w.heap.size, 0, none⟩) L.length L.length) L := by
  have := World.ownsRow_lit (base := B) (e := 3) (size := 1) w (wordVals .i64 L).toArray L.length hB hl (by simp [length_wordVals])
  simpa [OwnsW] using this
/-- What is owned and not empty is a block of words. -/
theorem OwnsW.words {B : Nat} {w : World} {v : Value} {L : List Nat} (h : OwnsW B w v L) (hp : 0 < L.length) : ∃ g cap tl, v = .slice (some ⟨g, 0, none⟩) L.length cap ∧ B ≤ g ∧ g < w.heap.size ∧ Words .i64 3 tl w g L := by
  obtain ⟨hl, ⟨rfl, h0⟩ | ⟨g, cap, cur, rfl, hg, hh, hn, hc, hs, ht⟩⟩ := h
  · omega
  · refine ⟨g, cap, cur.toList.drop L.length, rfl, hg, ?_, ?_⟩
    · exact (Array.getElem?_eq_some_iff.1 hh).1
    · unfold Words
      rw [Nat.mul_one] at ht
      rw [← ht, List.take_append_drop]
      exact hh

theorem wp_appendW {o : Oper} {a : Act} {K : Act → World → Prop} {Q : Exit → Act → World → Prop} (s x : Operand)
    (ho : o.op = .call { callee := .builtin .append, args := #[s, x], argTypes := #[77, 77] })
    (B : Nat) (w0 wr : World) (ad : Addr) (v : Value) (l cs : List Nat) (m c : Nat) (hs : a.eval s = v) (hx : a.eval x = .slice (some ad) m c)
    (hown : OwnsW B wr v l) (hbel : Below B w0 wr) (hB : B ≤ wr.heap.size)
    (hc : ∀ j, j < cs.length → wr.cell? (ad.add j) = some (.int .i64 (wd cs j : Nat))) (hm : cs.length = m) (hlen : l.length + m ≤ 1099511627776)
    (h : ∀ v' w', Hid (OwnsW B w' v' (l ++ cs)) → Hid (Below B w0 w') → wr.heap.size ≤ w'.heap.size → K (a.put o.dst v') w') :
    o.wp Tryd.prog a wr K Q := by
  obtain ⟨i0, hi, hz0, hz1, hz2⟩ := info_parts infoI
  refine wp_append_own _ s x 77 ho B 3 i0 (.int .i64 0) 1 8 Tryd.underlying77 hi hz0 hz1 hz2 rfl (by decide) v l.length (wordVals .i64 l) hs hown
    ad m c (wordVals .i64 cs) hx (by rw [length_wordVals, hm]; omega) ?_ (wordVals_one _ cs) (by unfold maxLen; omega) (by omega) hB ?_
  · intro j u hj
    obtain ⟨hj', rfl⟩ := wordVals_some _ cs j u hj
    exact hc j hj'
  · intro v' w' h1 h2 _
    refine h v' w' ?_ ?_ h2.size
    · show World.ownsRow _ _ _ _ _ _ _
      rw [List.length_append, hm]
      rwa [wordVals_append] at h1
    · exact Below.grown hbel h2 hB (fun k hk => (World.ownsRow.lt hown k hk).1)

theorem Words.new (T : TypeId) (k : IntKind) (w : World) (L : List Nat) : Words k T [] (w.alloc (.cells (wordVals k L).toArray T)) w.heap.size L := by
  unfold Words; rw [List.append_nil]; exact Go.Deep.blk_alloc_new w _
/-- what is appended lies in a new block -/
theorem appendW {ops : Array Oper} {rest : List Oper} {o : Oper} {a : Act} {Q : Exit → Act → World → Prop} (hgd : o.guard = none) (s x : Operand)
    (ho : o.op = .call { callee := .builtin .append, args := #[s, x], argTypes := #[77, 77] })
    (B : Nat) (w0 wr : World) (v : Value) (l cs : List Nat) (m : Nat) (vs : Array Value) (hs : a.eval s = v) (hx : a.eval x = .slice (some ⟨wr.heap.size, 0, none⟩) m m)
    (hown : Hid (OwnsW B wr v l)) (hbel : Hid (Below B w0 wr)) (hB : B ≤ wr.heap.size)
    (hv : vs = (wordVals .i64 cs).toArray) (hm : cs.length = m) (hlen : l.length + m ≤ 1099511627776)
    (h : ∀ v' w', Hid (OwnsW B w' v' (l ++ cs)) → Hid (Below B w0 w') → wr.heap.size < w'.heap.size → wpList Tryd.prog ops Q rest (a.put o.dst v') w') :
    wpList Tryd.prog ops Q (o :: rest) a (wr.alloc (.cells vs 3)) := by
  subst hv
  refine wpList_plain hgd fun K hK => ?_
  refine wp_appendW s x ho B w0 _ ⟨wr.heap.size, 0, none⟩ v l cs m m hs hx (World.ownsRow.alloc (h := hown.out) (o := .cells (wordVals .i64 cs).toArray 3)) (hbel.out.alloc hB _) (by rw [Go.Deep.nblk_alloc]; omega) (fun j hj => by rw [addr_add0]; exact (Words.new 3 .i64 wr cs).cell j hj) hm hlen fun v' w' h1 h2 h3 => hK _ _ (h v' w' h1 h2 ?_)
  rw [Go.Deep.nblk_alloc] at h3
  omega
/-- what is appended, to a new slice without a cell, are the words of block g -/
theorem appendCopy {ops : Array Oper} {rest : List Oper} {o : Oper} {a : Act} {Q : Exit → Act → World → Prop} (hgd : o.guard = none) (s x : Operand)
    (ho : o.op = .call { callee := .builtin .append, args := #[s, x], argTypes := #[77, 77] })
    (wr : World) (cs : List Nat) (m c g : Nat) (tl : List Value) (hs : a.eval s = .slice (some ⟨wr.heap.size, 0, none⟩) 0 0) (hx : a.eval x = .slice (some ⟨g, 0, none⟩) m c)
    (hw : Hid (Words .i64 3 tl wr g cs)) (hg : g < wr.heap.size) (hm : cs.length = m) (hlen : m ≤ 1099511627776)
    (h : ∀ v' w', Hid (OwnsW wr.heap.size w' v' cs) → Hid (Below wr.heap.size wr w') → wr.heap.size < w'.heap.size → wpList Tryd.prog ops Q rest (a.put o.dst v') w') :
    wpList Tryd.prog ops Q (o :: rest) a (wr.alloc (.cells #[] 3)) := by
  refine wpList_plain hgd fun K hK => ?_
  refine wp_appendW s x ho wr.heap.size wr _ ⟨g, 0, none⟩ _ [] cs m c hs hx (OwnsW.lit _ wr [] (Nat.le_refl _) (by unfold maxLen; simp)) ((Below.refl _ _).alloc (Nat.le_refl _) _) (by rw [Go.Deep.nblk_alloc]; omega) (fun j hj => by rw [addr_add0]; exact (hw.out.alloc hg _).cell j hj) hm (by simp; omega) fun v' w' h1 h2 h3 => hK _ _ (h v' w' h1 h2 ?_)
  rw [Go.Deep.nblk_alloc] at h3
  omega
end Go.Proofs.YtakjjfbocokpaaaDoor
