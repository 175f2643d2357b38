/-
  Texts of this proof, put together: OwnI, StrK, MkO, ShowP.
-/
import Derived.Test.YtdlkgpobjacgeaaDoorPackAH
import Derived.Test.YtdlkgpobjacgeaaDoorPackAB
import Derived.WalkKit
import Derived.ProofKit
import Derived.Test.YtdlkgpobjacgeaaDoorPackAD

/-
  A slice of ints that the call itself owns: appended to, and read as words.
-/
namespace Go.Proofs.YtdlkgpobjacgeaaDoor
open Go.ChangeShapes Go.WideShapes Go.ChangeAt Go.RowKit

theorem infoI : (Tryd.prog.info? 3).map (fun i => (i.zero, i.size, i.bytes)) = some (some (.int .i64 0), 1, 8) := by kernel_rfl
theorem wordVals_one (k : IntKind) (L : List Nat) : ∀ v ∈ wordVals k L, v.oneCell' = true := by
  intro v hv
  simp [wordVals] at hv
  obtain ⟨c, _, rfl⟩ := hv
  rfl
theorem wordVals_append (k : IntKind) (L M : List Nat) : wordVals k L ++ wordVals k M = wordVals k (L ++ M) := by simp [wordVals]
theorem wordVals_some (k : IntKind) (L : List Nat) (j : Nat) (v : Value) (h : (wordVals k L)[j]? = some v) : ∃ _ : j < L.length, v = .int k (wd L j : Nat) := by
  have hj : j < L.length := by have := (List.getElem?_eq_some_iff.1 h).1; simpa [wordVals] using this
  refine ⟨hj, ?_⟩
  have : (wordVals k L)[j]? = some (.int k (wd L j : Nat)) := by simp [wordVals, wd, hj]
  rw [this] at h
  exact (Option.some.inj h).symm

def OwnsW (B : Nat) (w : World) (v : Value) (L : List Nat) : Prop := w.ownsRow B 3 1 v L.length (wordVals .i64 L)
theorem OwnsW.lit (B : Nat) (w : World) (L : List Nat) (hB : B ≤ w.heap.size) (hl : L.length ≤ maxLen) : OwnsW B (w.alloc (.cells (wordVals .i64 L).toArray 3)) (.slice (some ⟨w.heap.size, 0, none⟩) L.length L.length) L := by
  have := World.ownsRow_lit (base := B) (e := 3) (size := 1) w (wordVals .i64 L).toArray L.length hB hl (by simp [length_wordVals])
  simpa [OwnsW] using this
/-- What is owned and not empty is a block of words. -/
theorem OwnsW.words {B : Nat} {w : World} {v : Value} {L : List Nat} (h : OwnsW B w v L) (hp : 0 < L.length) : ∃ g cap tl, v = .slice (some ⟨g, 0, none⟩) L.length cap ∧ B ≤ g ∧ g < w.heap.size ∧ Words .i64 3 tl w g L := by
  obtain ⟨hl, ⟨rfl, h0⟩ | ⟨g, cap, cur, rfl, hg, hh, hn, hc, hs, ht⟩⟩ := h
  · omega
  · refine ⟨g, cap, cur.toList.drop L.length, rfl, hg, ?_, ?_⟩
    · exact (Array.getElem?_eq_some_iff.1 hh).1
    · unfold Words
      rw [Nat.mul_one] at ht
      rw [← ht, List.take_append_drop]
      exact hh

theorem wp_appendW {o : Oper} {a : Act} {K : Act → World → Prop} {Q : Exit → Act → World → Prop} (s x : Operand)
    (ho : o.op = .call { callee := .builtin .append, args := #[s, x], argTypes := #[76, 76] })
    (B : Nat) (w0 wr : World) (ad : Addr) (v : Value) (l cs : List Nat) (m c : Nat) (hs : a.eval s = v) (hx : a.eval x = .slice (some ad) m c)
    (hown : OwnsW B wr v l) (hbel : Below B w0 wr) (hB : B ≤ wr.heap.size)
    (hc : ∀ j, j < cs.length → wr.cell? (ad.add j) = some (.int .i64 (wd cs j : Nat))) (hm : cs.length = m) (hlen : l.length + m ≤ 1099511627776)
    (h : ∀ v' w', Hid (OwnsW B w' v' (l ++ cs)) → Hid (Below B w0 w') → wr.heap.size ≤ w'.heap.size → K (a.put o.dst v') w') :
    o.wp Tryd.prog a wr K Q := by
  obtain ⟨i0, hi, hz0, hz1, hz2⟩ := info_parts infoI
  refine wp_append_own _ s x 76 ho B 3 i0 (.int .i64 0) 1 8 Tryd.underlying76 hi hz0 hz1 hz2 rfl (by decide) v l.length (wordVals .i64 l) hs hown
    ad m c (wordVals .i64 cs) hx (by rw [length_wordVals, hm]; omega) ?_ (wordVals_one _ cs) (by unfold maxLen; omega) (by omega) hB ?_
  · intro j u hj
    obtain ⟨hj', rfl⟩ := wordVals_some _ cs j u hj
    exact hc j hj'
  · intro v' w' h1 h2 _
    refine h v' w' ?_ ?_ h2.size
    · show World.ownsRow _ _ _ _ _ _ _
      rw [List.length_append, hm]
      rwa [wordVals_append] at h1
    · exact Below.grown hbel h2 hB (fun k hk => (World.ownsRow.lt hown k hk).1)

theorem Words.new (T : TypeId) (k : IntKind) (w : World) (L : List Nat) : Words k T [] (w.alloc (.cells (wordVals k L).toArray T)) w.heap.size L := by
  unfold Words; rw [List.append_nil]; exact Go.Deep.blk_alloc_new w _
/-- what is appended lies in a new block -/
theorem appendW {ops : Array Oper} {rest : List Oper} {o : Oper} {a : Act} {Q : Exit → Act → World → Prop} (hgd : o.guard = none) (s x : Operand)
    (ho : o.op = .call { callee := .builtin .append, args := #[s, x], argTypes := #[76, 76] })
    (B : Nat) (w0 wr : World) (v : Value) (l cs : List Nat) (m : Nat) (vs : Array Value) (hs : a.eval s = v) (hx : a.eval x = .slice (some ⟨wr.heap.size, 0, none⟩) m m)
    (hown : Hid (OwnsW B wr v l)) (hbel : Hid (Below B w0 wr)) (hB : B ≤ wr.heap.size)
    (hv : vs = (wordVals .i64 cs).toArray) (hm : cs.length = m) (hlen : l.length + m ≤ 1099511627776)
    (h : ∀ v' w', Hid (OwnsW B w' v' (l ++ cs)) → Hid (Below B w0 w') → wr.heap.size < w'.heap.size → wpList Tryd.prog ops Q rest (a.put o.dst v') w') :
    wpList Tryd.prog ops Q (o :: rest) a (wr.alloc (.cells vs 3)) := by
  subst hv
  refine wpList_plain hgd fun K hK => ?_
  refine wp_appendW s x ho B w0 _ ⟨wr.heap.size, 0, none⟩ v l cs m m hs hx (World.ownsRow.alloc (h := hown.out) (o := .cells (wordVals .i64 cs).toArray 3)) (hbel.out.alloc hB _) (by rw [Go.Deep.nblk_alloc]; omega) (fun j hj => by rw [addr_add0]; exact (Words.new 3 .i64 wr cs).cell j hj) hm hlen fun v' w' h1 h2 h3 => hK _ _ (h v' w' h1 h2 ?_)
  rw [Go.Deep.nblk_alloc] at h3
  omega
/-- what is appended, to a new slice without a cell, are the words of block g -/
theorem appendCopy {ops : Array Oper} {rest : List Oper} {o : Oper} {a : Act} {Q : Exit → Act → World → Prop} (hgd : o.guard = none) (s x : Operand)
    (ho : o.op = .call { callee := .builtin .append, args := #[s, x], argTypes := #[76, 76] })
    (wr : World) (cs : List Nat) (m c g : Nat) (tl : List Value) (hs : a.eval s = .slice (some ⟨wr.heap.size, 0, none⟩) 0 0) (hx : a.eval x = .slice (some ⟨g, 0, none⟩) m c)
    (hw : Hid (Words .i64 3 tl wr g cs)) (hg : g < wr.heap.size) (hm : cs.length = m) (hlen : m ≤ 1099511627776)
    (h : ∀ v' w', Hid (OwnsW wr.heap.size w' v' cs) → Hid (Below wr.heap.size wr w') → wr.heap.size < w'.heap.size → wpList Tryd.prog ops Q rest (a.put o.dst v') w') :
    wpList Tryd.prog ops Q (o :: rest) a (wr.alloc (.cells #[] 3)) := by
  refine wpList_plain hgd fun K hK => ?_
  refine wp_appendW s x ho wr.heap.size wr _ ⟨g, 0, none⟩ _ [] cs m c hs hx (OwnsW.lit _ wr [] (Nat.le_refl _) (by unfold maxLen; simp)) ((Below.refl _ _).alloc (Nat.le_refl _) _) (by rw [Go.Deep.nblk_alloc]; omega) (fun j hj => by rw [addr_add0]; exact (hw.out.alloc hg _).cell j hj) hm (by simp; omega) fun v' w' h1 h2 h3 => hK _ _ (h v' w' h1 h2 ?_)
  rw [Go.Deep.nblk_alloc] at h3
  omega
end Go.Proofs.YtdlkgpobjacgeaaDoor

/-
  Strings as lists of bytes, in the words of the walk; l1In where its answer is known.
-/
namespace Go.Proofs.YtdlkgpobjacgeaaDoor
open Go.ChangeShapes Go.WideShapes Go.ChangeAt Go.RowKit

theorem bl_of (l : List UInt8) : bl ⟨l.toArray⟩ = l := rfl
theorem size_of (l : List UInt8) : (ByteArray.mk l.toArray).size = l.length := by simp [ByteArray.size]
theorem run_cat (a b : List UInt8) (h : a.length + b.length ≤ 1048576) (W : World) : (Op.stringOp .add ⟨a.toArray⟩ ⟨b.toArray⟩).run Tryd.prog W = .ok (.string ⟨(a ++ b).toArray⟩) W := by
  rw [run_string_add_sum (P := Tryd.prog) (w := W) _ _ (by rw [size_of, size_of]; omega), ByteArray.mk_append_mk]
theorem below_of_drew' {w w' : World} (h : Below w.drew.heap.size w.drew w') : Below w.heap.size w w' := ⟨h.os, h.tape, h.output, h.size, h.block⟩
theorem ne_str {a : List UInt8} {s : ByteArray} (h : a ≠ bl s) : (a == s.toList) = false := by
  rw [beq_eq_false_iff_ne, ByteArray.toList_eq]
  exact h
theorem str_of (s : ByteArray) : (⟨(bl s).toArray⟩ : ByteArray) = s := by
  obtain ⟨⟨l⟩⟩ := s
  rfl
theorem cut_mk (l : List UInt8) (d : Nat) : (ByteArray.mk l.toArray).extract d l.length = ⟨(l.drop d).toArray⟩ := by
  have := ext_drop (ByteArray.mk l.toArray) d
  rw [size_of] at this
  exact this
theorem in_yes (x a b : Int) (w : World) (h0 : a ≤ x) (h1 : x ≤ b) :
    Calls Tryd.prog 56 #[.int .i64 x, .int .i64 a, .int .i64 b] w fun e w' => e = .returned (.bool true) ∧ w = w' :=
  (l1In_any x a b w).mono fun e w' ⟨he, hw⟩ => ⟨by rw [he, decide_eq_true h0, decide_eq_true h1]; rfl, hw⟩
theorem in_no (x a b : Int) (w : World) (h : x < a ∨ b < x) :
    Calls Tryd.prog 56 #[.int .i64 x, .int .i64 a, .int .i64 b] w fun e w' => e = .returned (.bool false) ∧ w = w' :=
  (l1In_any x a b w).mono fun e w' ⟨he, hw⟩ => ⟨by
    rw [he]
    rcases h with h | h
    · rw [decide_eq_false (by omega : ¬ a ≤ x)]; rfl
    · rw [decide_eq_false (by omega : ¬ x ≤ b), Bool.and_false], hw⟩
end Go.Proofs.YtdlkgpobjacgeaaDoor

/-
  Contract of impl.markOf.
-/
namespace Go.Proofs.YtdlkgpobjacgeaaDoor
open Go.ChangeShapes Go.WideShapes Go.ChangeAt Go.RowKit

/-- the byte of a mark -/
def mkB (d : Bool) : List UInt8 := if d = true then [1] else [0]
theorem markOf_any (d : Bool) (w : World) : Calls Tryd.prog 97 #[.bool d] w fun e w' => e = .returned (.string ⟨(mkB d).toArray⟩) ∧ w = w' := by
  cases d with
  | true =>
    rw [show mkB true = [1] from rfl]
    go_enter Tryd.func97, Tryd.ntmps97
    go_wp2
    all_goals go_ret
    all_goals exact ⟨rfl, rfl⟩
  | false =>
    rw [show mkB false = [0] from rfl]
    go_enter Tryd.func97, Tryd.ntmps97
    go_wp2
    all_goals go_ret
    all_goals exact ⟨rfl, rfl⟩
end Go.Proofs.YtdlkgpobjacgeaaDoor

/-
  Contracts of impl.sizedText and of spec.l6Piece.
-/
namespace Go.Proofs.YtdlkgpobjacgeaaDoor
open Go.ChangeShapes Go.WideShapes Go.ChangeAt Go.RowKit

theorem varV_len' (n : Int) : (varV n).length ≤ 7 := by
  unfold varV
  split
  · exact varL_len7 _ (by omega)
  · exact Nat.zero_le _
theorem piece_var {s : ByteArray} (h : s.size ≤ 1000) : pieceL (bl s) = varV (s.size : Int) ++ bl s := by
  rw [pieceL, varV, if_pos (by omega), bl_len]
  rfl
theorem piece_len {s : ByteArray} (h : s.size ≤ 1000) : (pieceL (bl s)).length ≤ 7 + s.size := by
  rw [piece_var h, List.length_append, bl_len]
  have := varV_len' (s.size : Int)
  omega
theorem run_cat_s (a : List UInt8) (s : ByteArray) (h : a.length + s.size ≤ 1048576) (W : World) : (Op.stringOp .add ⟨a.toArray⟩ s).run Tryd.prog W = .ok (.string ⟨(a ++ bl s).toArray⟩) W := by
  have := run_cat a (bl s) (by rw [bl_len]; exact h) W
  rwa [str_of] at this

theorem sizedText_any (s : ByteArray) (hs : s.size ≤ 1000) (w : World) : Calls Tryd.prog 50 #[.string s] w (StrPost w (pieceL (bl s))) := by
  have HT := hide (fun W => iVar_any (s.size : Int) W)
  obtain ⟨VT, hT⟩ : ∃ VT, VT = varV (s.size : Int) := ⟨_, rfl⟩
  have hv := varV_len' (s.size : Int)
  have HV := hide (piece_var hs)
  rw [← hT] at HT HV hv
  have ha := run_cat_s VT s (by omega)
  clear hT hs hv
  go_enter Tryd.func50, Tryd.ntmps50
  go_wp2_with fail
  refine (HT.out _).mono ?_
  rintro e w1 ⟨rfl, hb1⟩
  have HB1 := hide hb1
  clear hb1
  go_wp2_with fail
  go_ret
  exact ⟨by rw [HV.out]; rfl, HB1.out⟩
theorem l6Piece_any (s : ByteArray) (hs : s.size ≤ 1000) (w : World) : Calls Tryd.prog 47 #[.string s] w (StrPost w (pieceL (bl s))) := by
  have HT := hide (fun W => sVar_any (s.size : Int) W)
  obtain ⟨VT, hT⟩ : ∃ VT, VT = varV (s.size : Int) := ⟨_, rfl⟩
  have hv := varV_len' (s.size : Int)
  have HV := hide (piece_var hs)
  rw [← hT] at HT HV hv
  have ha := run_cat_s VT s (by omega)
  clear hT hs hv
  go_enter Tryd.func47, Tryd.ntmps47
  go_wp2_with fail
  refine (HT.out _).mono ?_
  rintro e w1 ⟨rfl, hb1⟩
  have HB1 := hide hb1
  clear hb1
  go_wp2_with fail
  go_ret
  exact ⟨by rw [HV.out]; rfl, HB1.out⟩

end Go.Proofs.YtdlkgpobjacgeaaDoor
