/-
  Texts of this proof, put together: SmallI, Set8, Small, Put.
-/
import Derived.Test.YtakjjfbocokpaaaDoorRows
import Derived.Test.YtakjjfbocokpaaaDoorPackAA
import Derived.WalkKit
import Derived.ProofKit
import Derived.OpenShut
import Derived.ShutString
import Derived.WalkSpells
import Derived.Laws.CopyOwn

/-
  Contract of spec.l1In.
-/
namespace Go.Proofs.YtakjjfbocokpaaaDoor
open Go.ChangeShapes Go.WideShapes Go.ChangeAt Go.RowKit

theorem l1In_any (x a b : Int) (w : World) :
    Calls Tryd.prog 52 #[.int .i64 x, .int .i64 a, .int .i64 b] w fun e w' => e = .returned (.bool (decide (a ≤ x) && decide (x ≤ b))) ∧ w = w' := by
  go_enter Tryd.func52, Tryd.ntmps52
  go_wp2
  all_goals go_ret
  all_goals (refine ⟨?_, rfl⟩; simp [*] <;> omega)
end Go.Proofs.YtakjjfbocokpaaaDoor

/-
  A row of bytes that is known whole: one byte stored into.
-/
namespace Go.Proofs.YtakjjfbocokpaaaDoor
open Go.ChangeShapes Go.WideShapes Go.ChangeAt Go.RowKit

theorem Holds8.set {T : TypeId} {w : World} {g : Nat} {L : List UInt8} (h : Holds8 T w g L) (j : Nat) (b : UInt8) (y : Int) (hy : y = (b.toNat : Int)) : Holds8 T (w.setCell ⟨g, j, none⟩ (.int .u8 y)) g (L.set j b) := by
  subst hy
  unfold Holds8 at *
  simp only [World.setCell, Array.getElem?_modify, h]
  simp [byteVals, List.map_set]
theorem Holds8.frozen {T : TypeId} {w : World} {g : Nat} {L : List UInt8} (h : Holds8 T w g L) (j : Nat) : w.frozen? ⟨g, j, none⟩ = false := by
  unfold Holds8 at h
  simp [World.frozen?, h]
theorem rowOf_set (l : List UInt8) (j : Nat) (h : j < l.length) : (rowOf l j).set j l[j] = rowOf l (j + 1) := by
  have := rowOf_step l j 1 (by omega)
  rw [take1_drop l j h] at this
  rw [← this]
  unfold splice
  rw [List.set_eq_take_append_cons_drop, if_pos (by rw [length_rowOf l j (by omega)]; exact h)]
  simp
end Go.Proofs.YtakjjfbocokpaaaDoor

/-
  Contract of impl.widthOk.
-/
namespace Go.Proofs.YtakjjfbocokpaaaDoor
open Go.ChangeShapes Go.WideShapes Go.ChangeAt Go.RowKit

theorem widthOk_any (x : Int) (w : World) :
    Calls Tryd.prog 110 #[.int .i64 x] w fun e w' => e = .returned (.bool (decide (1 ≤ x) && decide (x ≤ 7))) ∧ w = w' := by
  go_enter Tryd.func110, Tryd.ntmps110
  go_wp2
  all_goals go_ret
  all_goals (refine ⟨?_, rfl⟩; simp [*] <;> omega)
end Go.Proofs.YtakjjfbocokpaaaDoor

/-
  Contract of impl.putBytes: bytes go over into a row that is known whole.
-/
namespace Go.Proofs.YtakjjfbocokpaaaDoor
open Go.ChangeShapes Go.WideShapes Go.ChangeAt Go.RowKit

def PutPost (T : TypeId) (w : World) (g p m : Nat) (L cs : List UInt8) (e : Ending) (w' : World) : Prop :=
  e = .returned (.int .i64 ((p + m : Nat) : Int)) ∧ Holds8 T w' g (splice L p cs) ∧ Below g w w'

theorem putBytes_any (g n p m mc : Nat) (ad : Addr) (L cs : List UInt8) (w : World)
    (hg : Holds8 5 w g L) (hL : L.length = n) (hm : cs.length = m) (hfit : p + m ≤ n) (hpos : 0 < m) (hn : n ≤ 1099511627776)
    (hsrc : ∀ j (h : j < cs.length), w.cell? (ad.add j) = some (.int .u8 (cs[j].toNat : Int))) :
    Calls Tryd.prog 104 #[.slice (some ⟨g, 0, none⟩) n n, .int .i64 p, .slice (some ad) m mc] w (PutPost 5 w g p m L cs) := by
  have HL := hide hL
  have HM := hide hm
  have HG := hide hg
  have HS := hide hsrc
  have HG1 : Hid (w.heap[g]? = some (.cells (byteVals L).toArray 5 (0, 0))) := hg
  clear hL hm hg hsrc
  have hpn : p < n := by omega
  have C1 := hide (show (byteVals cs).length = Nat.min m (n - p) by rw [length_byteVals, HM.out]; exact (Nat.min_eq_left (by omega)).symm)
  have C2 := hide (show ∀ j v, (byteVals cs)[j]? = some v → w.cell? (ad.add j) = some v by
    intro j v hv
    obtain ⟨hj, rfl⟩ := byteVals_some cs j v hv
    exact HS.out j hj)
  have C3 := hide (show p + (byteVals cs).length ≤ (byteVals L).length by rw [length_byteVals, length_byteVals, HM.out, HL.out]; exact hfit)
  have C4 := hide (show ((byteVals cs).length : Int) = (m : Int) by rw [length_byteVals, HM.out])
  go_enter Tryd.func104, Tryd.ntmps104
  go_wp2_with ((with_reducible refine wpList_copy_splice (o := ⟨some 12, _, _, _, _, _⟩) rfl (.tmp 10) (.tmp 11) 22 22 rfl 5 Tryd.underlying22 (by kernel_rfl) _ _ _ _ _ _ rfl rfl g p (byteVals L) 5 HG1.out (byteVals cs) C1.out (fun _ => ⟨rfl, ad, rfl, C2.out⟩) C3.out (byteVals_one cs) g w (Below.refl _ _) (Nat.le_refl _) ?_); intro w2 HG2 hB2; unfold goInt; rw [C4.out])
  go_ret
  exact ⟨rfl, by unfold Holds8; rw [← splice_byteVals]; exact HG2.out, hB2⟩

def PutNew (T : TypeId) (w : World) (g p m : Nat) (L cs : List UInt8) (e : Ending) (w' : World) : Prop :=
  e = .returned (.int .i64 ((p + m : Nat) : Int)) ∧ Holds8 T w' g (splice L p cs) ∧ Below g w w' ∧ w.heap.size < w'.heap.size

/-- The bytes come in a new block, laid just ahead of the call. -/
theorem put_new (g n p m : Nat) (L cs : List UInt8) (vs : Array Value) (w : World)
    (hg : Holds8 5 w g L) (hlt : g < w.heap.size) (hv : vs = (byteVals cs).toArray) (hL : L.length = n) (hm : cs.length = m) (hfit : p + m ≤ n) (hpos : 0 < m) (hn : n ≤ 1099511627776) :
    Calls Tryd.prog 104 #[.slice (some ⟨g, 0, none⟩) n n, .int .i64 p, .slice (some ⟨w.heap.size, 0, none⟩) m m] (w.alloc (.cells vs 5)) (PutNew 5 w g p m L cs) := by
  subst hv
  refine (putBytes_any g n p m m ⟨w.heap.size, 0, none⟩ L cs _ (hg.alloc hlt _) hL hm hfit hpos hn ?_).mono ?_
  · intro j hj
    rw [addr_add0]
    exact (Holds8.new 5 w cs).cell j hj
  · rintro e w' ⟨rfl, h1, h2⟩
    refine ⟨rfl, h1, ((Below.refl g w).alloc (by omega) _).trans h2, ?_⟩
    have := h2.size
    simp at this
    omega

/-- The same behind a draw, the place as a number of its own. -/
theorem put_drew (g n p m : Nat) (q : Int) (L cs : List UInt8) (vs : Array Value) (w : World)
    (hg : Holds8 5 w g L) (hlt : g < w.heap.size) (hq : (p : Int) = q) (hv : vs = (byteVals cs).toArray) (hL : L.length = n) (hm : cs.length = m) (hfit : p + m ≤ n) (hpos : 0 < m) (hn : n ≤ 1099511627776) :
    Calls Tryd.prog 104 #[.slice (some ⟨g, 0, none⟩) n n, .int .i64 q, .slice (some ⟨w.heap.size, 0, none⟩) m m] (w.alloc (.cells vs 5)).drew (PutNew 5 w g p m L cs) := by
  subst hv hq
  refine (putBytes_any g n p m m ⟨w.heap.size, 0, none⟩ L cs _ (show Holds8 5 (w.alloc _).drew g L from hg.alloc hlt _) hL hm hfit hpos hn ?_).mono ?_
  · intro j hj
    rw [addr_add0]
    exact (Holds8.new 5 w cs).cell j hj
  · rintro e w' ⟨rfl, h1, h2⟩
    refine ⟨rfl, h1, (((Below.refl g w).alloc (by omega) _).drew).trans h2, ?_⟩
    have := h2.size
    simp at this
    omega
end Go.Proofs.YtakjjfbocokpaaaDoor
