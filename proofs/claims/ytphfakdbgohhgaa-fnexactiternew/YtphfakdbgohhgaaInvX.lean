/-
  What stays while a law goes on: boxes (structs in blocks of their own) and rows (slices of whatever element), no two in one block.
-/
import Derived.Test.YtphfakdbgohhgaaBoxN
import Derived.Test.YtphfakdbgohhgaaRowH
namespace Go.Proofs.Ytphfakdbgohhgaa
open Go.ChangeShapes Go.WideShapes Go.ChangeAt Go.RowKit

/-- a box: its type, its block, its cells -/
abbrev BxE := TypeId × Nat × Array Value
/-- a row: its element's type and number of cells, the slice, its length, its cells -/
abbrev RwE := TypeId × Nat × Value × Nat × List Value
def RwE.In (r : RwE) (B : Nat) (w : World) : Prop := w.ownsRow B r.1 r.2.1 r.2.2.1 r.2.2.2.1 r.2.2.2.2
def RwE.blk (r : RwE) : Option Nat := r.2.2.1.ownBlock
structure InvX (w : World) (bs : List BxE) (rs : List RwE) (wc : World) : Prop where
  below : Below w.heap.size w wc
  box : ∀ b ∈ bs, BoxV b.1 wc b.2.1 b.2.2
  row : ∀ r ∈ rs, r.In w.heap.size wc
  offs : ∀ b ∈ bs, w.heap.size ≤ b.2.1 ∧ ∀ r ∈ rs, r.blk ≠ some b.2.1
  apart : rs.Pairwise fun r s => ∀ k, r.blk = some k → s.blk ≠ some k

theorem rowKeepX {B : Nat} {w w' : World} {T : TypeId} {c n : Nat} {v : Value} {L : List Value} (h : w.ownsRow B T c v n L) (hk : ∀ k, v.ownBlock = some k → w'.heap[k]? = w.heap[k]?) : w'.ownsRow B T c v n L := by
  obtain ⟨hl, ⟨rfl, h0⟩ | ⟨g, cap, cur, rfl, hg, hh, hr⟩⟩ := h
  · exact ⟨hl, .inl ⟨rfl, h0⟩⟩
  · exact ⟨hl, .inr ⟨g, cap, cur, rfl, hg, (hk g rfl).trans hh, hr⟩⟩
theorem rowBaseX {B : Nat} {w : World} {T : TypeId} {c n : Nat} {v : Value} {L : List Value} (h : w.ownsRow 0 T c v n L) (hB : ∀ k, v.ownBlock = some k → B ≤ k) : w.ownsRow B T c v n L := by
  obtain ⟨hl, ⟨rfl, h0⟩ | ⟨g, cap, cur, rfl, hg, hh, hr⟩⟩ := h
  · exact ⟨hl, .inl ⟨rfl, h0⟩⟩
  · exact ⟨hl, .inr ⟨g, cap, cur, rfl, hB g rfl, hh, hr⟩⟩
theorem rowDownX {B B' : Nat} {w : World} {T : TypeId} {c n : Nat} {v : Value} {L : List Value} (h : w.ownsRow B T c v n L) (hB : B' ≤ B) : w.ownsRow B' T c v n L := by
  obtain ⟨hl, ⟨rfl, h0⟩ | ⟨g, cap, cur, rfl, hg, hh, hr⟩⟩ := h
  · exact ⟨hl, .inl ⟨rfl, h0⟩⟩
  · exact ⟨hl, .inr ⟨g, cap, cur, rfl, Nat.le_trans hB hg, hh, hr⟩⟩
section
variable {w wc wc' : World} {bs : List BxE} {rs : List RwE}
theorem InvX.start (w : World) : InvX w [] [] w := ⟨Below.refl _ _, fun _ h => (by cases h), fun _ h => (by cases h), fun _ h => (by cases h), .nil⟩
theorem InvX.lt (h : InvX w bs rs wc) {r : RwE} (hr : r ∈ rs) {k : Nat} (hk : r.blk = some k) : w.heap.size ≤ k ∧ k < wc.heap.size := World.ownsRow.lt (h.row r hr) k hk
theorem InvX.keep (h : InvX w bs rs wc) (hb : Below wc.heap.size wc wc') : InvX w bs rs wc' :=
  ⟨h.below.trans (hb.mono h.below.size), fun b hm => (h.box b hm).below hb (h.box b hm).lt, fun r hm => rowKeepX (h.row r hm) fun k hk => hb.block k (h.lt hm hk).2, h.offs, h.apart⟩
theorem InvX.drew (h : InvX w bs rs wc) : InvX w bs rs wc.drew :=
  ⟨h.below.drew, fun b hm => (h.box b hm).drew, fun r hm => rowKeepX (h.row r hm) fun _ _ => rfl, h.offs, h.apart⟩
theorem InvX.addBox (h : InvX w bs rs wc) (T : TypeId) (vs : Array Value) : InvX w ((T, wc.heap.size, vs) :: bs) rs (wc.alloc (.cells vs T)) := by
  have hk := h.keep ((Below.refl wc.heap.size wc).alloc (Nat.le_refl _) (.cells vs T))
  refine ⟨hk.below, fun b hm => ?_, hk.row, fun b hm => ?_, h.apart⟩
  · rcases List.mem_cons.1 hm with rfl | hm
    · exact BoxV.new T wc vs
    · exact hk.box b hm
  · rcases List.mem_cons.1 hm with rfl | hm
    · exact ⟨h.below.size, fun r hr e => Nat.lt_irrefl _ (h.lt hr (k := wc.heap.size) e).2⟩
    · exact h.offs b hm
/-- a call has answered a row of its own -/
theorem InvX.call (h : InvX w bs rs wc) (hb : Below wc.heap.size wc wc') {T : TypeId} {c n : Nat} {v : Value} {L : List Value} (ho : wc'.ownsRow wc.heap.size T c v n L) : InvX w bs ((T, c, v, n, L) :: rs) wc' := by
  have hk := h.keep hb
  refine ⟨hk.below, hk.box, fun r hm => ?_, fun b hm => ⟨(h.offs b hm).1, fun r hr => ?_⟩, List.pairwise_cons.2 ⟨fun r hr k e1 e2 => ?_, h.apart⟩⟩
  · rcases List.mem_cons.1 hm with rfl | hm
    · exact rowDownX ho h.below.size
    · exact hk.row r hm
  · rcases List.mem_cons.1 hr with rfl | hr
    · intro e
      have h1 := (World.ownsRow.lt ho _ e).1
      have h2 := (h.box b hm).lt
      omega
    · exact (h.offs b hm).2 r hr
  · have h1 := (World.ownsRow.lt ho _ e1).1
    have h2 := (h.lt hr e2).2
    omega
/-- a row is written into -/
theorem InvX.mark {pre post : List RwE} {T : TypeId} {c n : Nat} {v : Value} {L : List Value} (h : InvX w bs (pre ++ (T, c, v, n, L) :: post) wc) (hk : Only v.ownBlock wc wc') {N : List Value} (ho : wc'.ownsRow 0 T c v n N) : InvX w bs (pre ++ (T, c, v, n, N) :: post) wc' := by
  have hm : (T, c, v, n, L) ∈ pre ++ (T, c, v, n, L) :: post := by simp
  have hlt := fun k e => h.lt hm (k := k) e
  obtain ⟨p1, p2, p3⟩ := List.pairwise_append.1 h.apart
  obtain ⟨p4, p5⟩ := List.pairwise_cons.1 p2
  refine ⟨h.below.trans (hk.below (fun g e => (hlt g e).1) h.below.size), fun b hb => ?_, fun r hr => ?_, fun b hb => ⟨(h.offs b hb).1, fun r hr => ?_⟩, List.pairwise_append.2 ⟨p1, List.pairwise_cons.2 ⟨p4, p5⟩, fun r hr s hs => ?_⟩⟩
  · exact (hk.block b.2.1 (h.box b hb).lt (fun e => (h.offs b hb).2 _ hm e.symm)).trans (h.box b hb)
  · rcases List.mem_append.1 hr with hr | hr
    · exact rowKeepX (h.row r (by simp [hr])) fun k e => hk.block k (h.lt (by simp [hr]) e).2 (fun e' => p3 r hr _ (List.mem_cons_self ..) k e e'.symm)
    · rcases List.mem_cons.1 hr with rfl | hr
      · exact rowBaseX ho fun k e => (hlt k e).1
      · exact rowKeepX (h.row r (by simp [hr])) fun k e => hk.block k (h.lt (by simp [hr]) e).2 (fun e' => p4 r hr k e'.symm e)
  · rcases List.mem_append.1 hr with hr | hr
    · exact (h.offs b hb).2 r (by simp [hr])
    · rcases List.mem_cons.1 hr with rfl | hr
      · exact (h.offs b hb).2 (T, c, v, n, L) hm
      · exact (h.offs b hb).2 r (by simp [hr])
  · rcases List.mem_cons.1 hs with rfl | hs
    · exact p3 r hr (T, c, v, n, L) (by simp)
    · exact p3 r hr s (List.mem_cons_of_mem _ hs)
section
variable {T : TypeId} {c n : Nat} {v : Value} {L N : List Value} {x y z u : RwE}
theorem InvX.mark0 (h : InvX w bs ((T, c, v, n, L) :: rs) wc) (hk : Only v.ownBlock wc wc') (ho : wc'.ownsRow 0 T c v n N) : InvX w bs ((T, c, v, n, N) :: rs) wc' := InvX.mark (pre := []) h hk ho
theorem InvX.mark1 (h : InvX w bs (x :: (T, c, v, n, L) :: rs) wc) (hk : Only v.ownBlock wc wc') (ho : wc'.ownsRow 0 T c v n N) : InvX w bs (x :: (T, c, v, n, N) :: rs) wc' := InvX.mark (pre := [x]) h hk ho
theorem InvX.mark2 (h : InvX w bs (x :: y :: (T, c, v, n, L) :: rs) wc) (hk : Only v.ownBlock wc wc') (ho : wc'.ownsRow 0 T c v n N) : InvX w bs (x :: y :: (T, c, v, n, N) :: rs) wc' := InvX.mark (pre := [x, y]) h hk ho
theorem InvX.r0 (h : InvX w bs ((T, c, v, n, L) :: rs) wc) : wc.ownsRow 0 T c v n L := rowDownX (show wc.ownsRow _ T c v n L from h.row (T, c, v, n, L) (by simp)) (Nat.zero_le _)
theorem InvX.r1 (h : InvX w bs (x :: (T, c, v, n, L) :: rs) wc) : wc.ownsRow 0 T c v n L := rowDownX (show wc.ownsRow _ T c v n L from h.row (T, c, v, n, L) (by simp)) (Nat.zero_le _)
theorem InvX.r2 (h : InvX w bs (x :: y :: (T, c, v, n, L) :: rs) wc) : wc.ownsRow 0 T c v n L := rowDownX (show wc.ownsRow _ T c v n L from h.row (T, c, v, n, L) (by simp)) (Nat.zero_le _)
theorem InvX.r3 (h : InvX w bs (x :: y :: z :: (T, c, v, n, L) :: rs) wc) : wc.ownsRow 0 T c v n L := rowDownX (show wc.ownsRow _ T c v n L from h.row (T, c, v, n, L) (by simp)) (Nat.zero_le _)
/-- the newest row is forgotten -/
theorem InvX.drop0 (h : InvX w bs (x :: rs) wc) : InvX w bs rs wc :=
  ⟨h.below, h.box, fun r hr => h.row r (List.mem_cons_of_mem _ hr), fun b hb => ⟨(h.offs b hb).1, fun r hr => (h.offs b hb).2 r (List.mem_cons_of_mem _ hr)⟩, (List.pairwise_cons.1 h.apart).2⟩
end
section
variable {T : TypeId} {g : Nat} {vs : Array Value} {x y z u q : BxE}
theorem InvX.b0 (h : InvX w ((T, g, vs) :: bs) rs wc) : BoxV T wc g vs := h.box (T, g, vs) (by simp)
theorem InvX.b1 (h : InvX w (x :: (T, g, vs) :: bs) rs wc) : BoxV T wc g vs := h.box (T, g, vs) (by simp)
theorem InvX.b2 (h : InvX w (x :: y :: (T, g, vs) :: bs) rs wc) : BoxV T wc g vs := h.box (T, g, vs) (by simp)
theorem InvX.b3 (h : InvX w (x :: y :: z :: (T, g, vs) :: bs) rs wc) : BoxV T wc g vs := h.box (T, g, vs) (by simp)
theorem InvX.b4 (h : InvX w (x :: y :: z :: u :: (T, g, vs) :: bs) rs wc) : BoxV T wc g vs := h.box (T, g, vs) (by simp)
theorem InvX.b5 (h : InvX w (x :: y :: z :: u :: q :: (T, g, vs) :: bs) rs wc) : BoxV T wc g vs := h.box (T, g, vs) (by simp)
end
end
end Go.Proofs.Ytphfakdbgohhgaa
