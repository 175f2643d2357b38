/-
  Texts of this proof, put together: Conv, Own.
-/
import Derived.Test.YtphfakdbgohhgaaPackAD
import Derived.Test.YtphfakdbgohhgaaPackAA
import Derived.Laws.IdiomStrings
import Derived.OwnWalk

/-
  Slices of bytes made, and turned into strings, over this program.
-/
namespace Go.Proofs.Ytphfakdbgohhgaa
open Go.ChangeShapes Go.WideShapes Go.ChangeAt Go.RowKit

theorem info8 : (Try.prog.info? 5).map (fun i => (i.zero, i.size, i.bytes)) = some (some (.int .u8 0), 1, 1) := by kernel_rfl

theorem run_make8 (n : Nat) (hn : n ≤ 1099511627776) (w : World) : (Instr.makeSlice 22 (.int .i64 (n : Int)) (.int .i64 (n : Int))).run Try.prog w = .ok (.slice (some ⟨w.heap.size, 0, none⟩) n n) (w.alloc (.cells (byteVals (List.replicate n 0)).toArray 5)) := by
  obtain ⟨i, hi, hz0, hz1, hz2⟩ := info_parts info8
  have h := run_make (P := Try.prog) w 22 5 i (.int .u8 0) Try.underlying22 hi hz0 .i64 .i64 n n (by omega) (by omega) (by rw [hz2]; omega) (by omega)
  rw [h, hz1]
  simp [Value.cells, made_zero]

theorem run_conv1 (v : Int) (c : UInt8) (hc : v = (c.toNat : Int)) (w : World) : (convert 22 9 (.slice (some ⟨w.heap.size, 0, none⟩) 1 1)).run Try.prog (w.alloc (.cells #[.int .u8 v] 5)) = .ok (.string ⟨#[c]⟩) (w.alloc (.cells #[.int .u8 v] 5)) := by
  subst hc
  exact run_convert_bytes_back (P := Try.prog) _ 22 9 5 ⟨w.heap.size, 0, none⟩ 1 [c] Try.underlying22 Try.underlying5 Try.underlying9 (fun i hi => by rw [addr_add0]; exact (Holds8.new 5 w [c]).cell i hi)

theorem run_convTake (g k cap : Nat) (L l : List UInt8) (w : World) (h : Holds8 5 w g L) (hk : l.length = k) (hp : L.take k = l) : (convert 22 9 (.slice (some ⟨g, 0, none⟩) k cap)).run Try.prog w = .ok (.string ⟨l.toArray⟩) w := by
  subst hk
  refine run_convert_bytes_back (P := Try.prog) w 22 9 5 ⟨g, 0, none⟩ cap l Try.underlying22 Try.underlying5 Try.underlying9 (fun i hi => ?_)
  have hi2 : i < L.length := by
    have := congrArg List.length hp
    simp at this
    omega
  rw [addr_add0, h.cell i hi2]
  have : l[i] = L[i] := (List.getElem_of_eq hp.symm hi).trans List.getElem_take
  rw [this]

def StrPost (w : World) (l : List UInt8) (e : Ending) (w' : World) : Prop := e = .returned (.string ⟨l.toArray⟩) ∧ Below w.heap.size w w'
end Go.Proofs.Ytphfakdbgohhgaa

/-
  A slice of bytes that the call itself owns: appended to, and turned into a string.
-/
namespace Go.Proofs.Ytphfakdbgohhgaa
open Go.ChangeShapes Go.WideShapes Go.ChangeAt Go.RowKit

def Owns8 (B : Nat) (w : World) (v : Value) (l : List UInt8) : Prop := w.ownsRow B 5 1 v l.length (byteVals l)

theorem Owns8.lit (B : Nat) (w : World) (l : List UInt8) (hB : B ≤ w.heap.size) (hl : l.length ≤ maxLen) : Owns8 B (w.alloc (.cells (byteVals l).toArray 5)) (.slice (some ⟨w.heap.size, 0, none⟩) l.length l.length) l := by
  have := World.ownsRow_lit (base := B) (e := 5) (size := 1) w (byteVals l).toArray l.length hB hl (by simp [length_byteVals])
  simpa [Owns8] using this

theorem wp_append8 {o : Oper} {a : Act} {K : Act → World → Prop} {Q : Exit → Act → World → Prop} (s x : Operand)
    (ho : o.op = .call { callee := .builtin .append, args := #[s, x], argTypes := #[22, 22] })
    (B : Nat) (w0 wr : World) (ad : Addr) (v : Value) (l cs : List UInt8) (m : Nat) (hs : a.eval s = v) (hx : a.eval x = .slice (some ad) m m)
    (hown : Owns8 B wr v l) (hbel : Below B w0 wr) (hB : B ≤ wr.heap.size)
    (hc : ∀ j (h : j < cs.length), wr.cell? (ad.add j) = some (.int .u8 (cs[j].toNat : Int))) (hm : cs.length = m) (hlen : l.length + m ≤ 1099511627776)
    (h : ∀ v' w', Hid (Owns8 B w' v' (l ++ cs)) → Hid (Below B w0 w') → wr.heap.size ≤ w'.heap.size → K (a.put o.dst v') w') :
    o.wp Try.prog a wr K Q := by
  obtain ⟨i0, hi, hz0, hz1, hz2⟩ := info_parts info8
  refine wp_append_own _ s x 22 ho B 5 i0 (.int .u8 0) 1 1 Try.underlying22 hi hz0 hz1 hz2 rfl (by decide) v l.length (byteVals l) hs hown
    ad m m (byteVals cs) hx (by rw [length_byteVals, hm]; omega) ?_ (byteVals_one cs) (by unfold maxLen; omega) (by omega) hB ?_
  · intro j u hj
    obtain ⟨hj', rfl⟩ := byteVals_some cs j u hj
    exact hc j hj'
  · intro v' w' h1 h2 _
    refine h v' w' ?_ ?_ h2.size
    · show World.ownsRow _ _ _ _ _ _ _
      rw [List.length_append, hm]
      rwa [show byteVals l ++ byteVals cs = byteVals (l ++ cs) by simp [byteVals]] at h1
    · exact Below.grown hbel h2 hB (fun k hk => (World.ownsRow.lt hown k hk).1)

theorem append8 {ops : Array Oper} {rest : List Oper} {o : Oper} {a : Act} {Q : Exit → Act → World → Prop} (hgd : o.guard = none) (s x : Operand)
    (ho : o.op = .call { callee := .builtin .append, args := #[s, x], argTypes := #[22, 22] })
    (B : Nat) (w0 wr : World) (v : Value) (l cs : List UInt8) (m : Nat) (vs : Array Value) (hs : a.eval s = v) (hx : a.eval x = .slice (some ⟨wr.heap.size, 0, none⟩) m m)
    (hown : Hid (Owns8 B wr v l)) (hbel : Hid (Below B w0 wr)) (hB : B ≤ wr.heap.size)
    (hv : vs = (byteVals cs).toArray) (hm : cs.length = m) (hlen : l.length + m ≤ 1099511627776)
    (h : ∀ v' w', Hid (Owns8 B w' v' (l ++ cs)) → Hid (Below B w0 w') → wr.heap.size < w'.heap.size → wpList Try.prog ops Q rest (a.put o.dst v') w') :
    wpList Try.prog ops Q (o :: rest) a (wr.alloc (.cells vs 5)) := by
  subst hv
  refine wpList_plain hgd fun K hK => ?_
  refine wp_append8 s x ho B w0 _ ⟨wr.heap.size, 0, none⟩ v l cs m hs hx (World.ownsRow.alloc (h := hown.out) (o := .cells (byteVals cs).toArray 5)) (hbel.out.alloc hB _) (by rw [Go.Deep.nblk_alloc]; omega) (fun j hj => by rw [addr_add0]; exact (Holds8.new 5 wr cs).cell j hj) hm hlen fun v' w' h1 h2 h3 => hK _ _ (h v' w' h1 h2 ?_)
  rw [Go.Deep.nblk_alloc] at h3
  omega

/-- The same as a step of a region that draws its order. -/
theorem step_append8 {ops : Array Oper} {o : Oper} {a : Act} {K : Act → World → Prop} {Q : Exit → Act → World → Prop} {E : Prop} (hgd : o.guard = none) (s x : Operand)
    (ho : o.op = .call { callee := .builtin .append, args := #[s, x], argTypes := #[22, 22] })
    (B : Nat) (w0 wr : World) (v : Value) (l cs : List UInt8) (m : Nat) (vs : Array Value) (hs : a.eval s = v) (hx : a.eval x = .slice (some ⟨wr.heap.size, 0, none⟩) m m)
    (hown : Hid (Owns8 B wr v l)) (hbel : Hid (Below B w0 wr)) (hB : B ≤ wr.heap.size)
    (hv : vs = (byteVals cs).toArray) (hm : cs.length = m) (hlen : l.length + m ≤ 1099511627776)
    (h : ∀ v' w', Hid (Owns8 B w' v' (l ++ cs)) → Hid (Below B w0 w') → wr.heap.size < w'.heap.size → K (a.put o.dst v') w') :
    if Region.wanted o (yielded ops a.tmps) = true then Oper.wp Try.prog o a (wr.alloc (.cells vs 5)).drew K Q else E := by
  subst hv
  have hw : Region.wanted o (yielded ops a.tmps) = true := by simp [Region.wanted, hgd]
  rw [if_pos hw]
  refine wp_append8 s x ho B w0 _ ⟨wr.heap.size, 0, none⟩ v l cs m hs hx (World.ownsRow.alloc (h := hown.out) (o := .cells (byteVals cs).toArray 5)) (hbel.out.alloc hB _).drew (show B ≤ (wr.alloc _).heap.size by rw [Go.Deep.nblk_alloc]; omega) (fun j hj => by rw [addr_add0]; exact (Holds8.new 5 wr cs).cell j hj) hm hlen fun v' w' h1 h2 h3 => h v' w' h1 h2 ?_
  have : (wr.alloc (.cells (byteVals cs).toArray 5)).heap.size ≤ w'.heap.size := h3
  rw [Go.Deep.nblk_alloc] at this
  omega

theorem run_convOwn (B : Nat) (w : World) (v : Value) (l : List UInt8) (h : Owns8 B w v l) : (convert 22 9 v).run Try.prog w = .ok (.string ⟨l.toArray⟩) w := by
  obtain ⟨hl, ⟨rfl, h0⟩ | ⟨g, cap, cur, rfl, _, hg, hn, hc, hs, ht⟩⟩ := h
  · obtain rfl : l = [] := List.eq_nil_of_length_eq_zero h0
    rw [run_convert_bytes_string w _ _ 5 none 0 0 Try.underlying22 Try.underlying5 Try.underlying9]
    rfl
  · refine run_convert_bytes_back (P := Try.prog) w 22 9 5 ⟨g, 0, none⟩ cap l Try.underlying22 Try.underlying5 Try.underlying9 (fun j hj => ?_)
    rw [addr_add0]
    have e : cur[j]? = (byteVals l)[j]? := by
      rw [← ht, Nat.mul_one, List.getElem?_take, if_pos hj, Array.getElem?_toList]
    rw [byteVals_at l j hj] at e
    simp [World.cell?, hg, e]
end Go.Proofs.Ytphfakdbgohhgaa
