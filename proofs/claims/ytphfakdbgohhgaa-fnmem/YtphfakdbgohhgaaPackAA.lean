/-
  Texts of this proof, put together: Math.
-/
import Derived.WalkKit
import Derived.Laws.BitsAllLaws
import Derived.Laws.CopyOwn
import Derived.Laws.OwnMore
import Derived.Deep.Heap

/-
  Plain mathematics for chapter 1 (numbers as bytes): nothing here speaks of a program.
-/
namespace Go.Proofs.Ytphfakdbgohhgaa
open Go.RowKit

theorem ret_int {k : IntKind} {a b : Int} (h : a = b) : Ending.returned (.int k a) = .returned (.int k b) := by rw [h]
theorem hide {p : Prop} (h : p) : Hid p := h

/-! ### or and shifts on int -/
theorem i64_or_nat (a b : Nat) (ha : a < 9223372036854775808) (hb : b < 9223372036854775808) : bits .or .i64 (a : Int) (b : Int) = ((a ||| b : Nat) : Int) := by
  have hx : a ||| b < 2 ^ 63 := Nat.or_lt_two_pow (by omega) (by omega)
  show IntKind.i64.wrap ((BitVec.ofInt 64 (a : Int) ||| BitVec.ofInt 64 (b : Int)).toNat : Int) = _
  rw [BitVec.toNat_or, ofInt_u64 a (by omega), ofInt_u64 b (by omega), IntKind.wrap_i64]
  omega
theorem i64_xor_nat (a b : Nat) (ha : a < 9223372036854775808) (hb : b < 9223372036854775808) : bits .xor .i64 (a : Int) (b : Int) = ((a ^^^ b : Nat) : Int) := by
  have hx : a ^^^ b < 2 ^ 63 := Nat.xor_lt_two_pow (by omega) (by omega)
  show IntKind.i64.wrap ((BitVec.ofInt 64 (a : Int) ^^^ BitVec.ofInt 64 (b : Int)).toNat : Int) = _
  rw [BitVec.toNat_xor, ofInt_u64 a (by omega), ofInt_u64 b (by omega), IntKind.wrap_i64]
  omega
theorem i64_join (i : Nat) (a b : Int) (ha0 : 0 ≤ a) (ha : a < 9223372036854775808) (hb0 : 0 ≤ b) (hb : b < 9223372036854775808) (hm : a.toNat % 2 ^ i = 0) (hl : b.toNat < 2 ^ i) : bits .or .i64 a b = a + b := by
  have h := i64_or_nat a.toNat b.toNat (by omega) (by omega)
  rw [nat_join i _ _ hm hl] at h
  rw [show ((a.toNat : Nat) : Int) = a by omega, show ((b.toNat : Nat) : Int) = b by omega] at h
  rw [h]; omega

/-! ### bytes, the greatest first -/
def be (l : List UInt8) : Int := l.foldl (fun n c => n * 256 + (c.toNat : Int)) 0
theorem be_snoc (l : List UInt8) (c : UInt8) : be (l ++ [c]) = be l * 256 + (c.toNat : Int) := by simp [be]
theorem take_snoc (s : ByteArray) (k : Nat) (h : k < s.size) : s.data.toList.take (k + 1) = s.data.toList.take k ++ [s[k]] := by
  rw [List.take_succ_eq_append_getElem (by simpa using h)]; rfl
theorem be_go (l : List UInt8) : ∀ a : Int, 0 ≤ a → a * 256 ^ l.length ≤ l.foldl (fun n c => n * 256 + (c.toNat : Int)) a ∧ l.foldl (fun n c => n * 256 + (c.toNat : Int)) a < (a + 1) * 256 ^ l.length := by
  induction l with
  | nil => intro a h; simp; omega
  | cons c r ih =>
    intro a h
    have hc : c.toNat < 256 := c.toNat_lt
    obtain ⟨h1, h2⟩ := ih (a * 256 + (c.toNat : Int)) (by omega)
    have hp : (0 : Int) ≤ 256 ^ r.length := Int.pow_nonneg (by omega)
    simp only [List.foldl_cons, List.length_cons, Int.pow_succ]
    refine ⟨Int.le_trans ?_ h1, Int.lt_of_lt_of_le h2 ?_⟩
    · rw [show a * (256 ^ r.length * 256) = (a * 256) * 256 ^ r.length by rw [Int.mul_assoc, Int.mul_comm 256 (256 ^ r.length)]]
      exact Int.mul_le_mul_of_nonneg_right (by omega) hp
    · rw [show (a + 1) * (256 ^ r.length * 256) = ((a + 1) * 256) * 256 ^ r.length by rw [Int.mul_assoc, Int.mul_comm 256 (256 ^ r.length)]]
      exact Int.mul_le_mul_of_nonneg_right (by omega) hp
theorem be_bd (l : List UInt8) : 0 ≤ be l ∧ be l < 256 ^ l.length := by
  have := be_go l 0 (by omega)
  simp at this
  exact this
theorem be_bd6 (l : List UInt8) (k : Nat) (h : k ≤ 6) : 0 ≤ be (l.take k) ∧ be (l.take k) < 281474976710656 := by
  obtain ⟨h1, h2⟩ := be_bd (l.take k)
  refine ⟨h1, ?_⟩
  have h3 : (l.take k).length ≤ 6 := by simp; omega
  generalize (l.take k).length = m at *
  have : m = 0 ∨ m = 1 ∨ m = 2 ∨ m = 3 ∨ m = 4 ∨ m = 5 ∨ m = 6 := by omega
  rcases this with rfl | rfl | rfl | rfl | rfl | rfl | rfl <;> simp at h2 <;> omega
theorem be_join (n c : Int) (h0 : 0 ≤ n) (h1 : n < 281474976710656) (c0 : 0 ≤ c) (c1 : c < 256) : bits .or .i64 (n * 256) c = n * 256 + c :=
  i64_join 8 _ _ (by omega) (by omega) c0 (by omega) (by omega) (by omega)

/-! ### rows of bytes in memory -/
def byteVals (l : List UInt8) : List Value := l.map fun c => .int .u8 (c.toNat : Int)
theorem length_byteVals (l : List UInt8) : (byteVals l).length = l.length := by simp [byteVals]
theorem byteVals_at (l : List UInt8) (j : Nat) (h : j < l.length) : (byteVals l)[j]? = some (.int .u8 (l[j].toNat : Int)) := by simp [byteVals, h]
theorem byteVals_some (l : List UInt8) (j : Nat) (v : Value) (h : (byteVals l)[j]? = some v) : ∃ hj : j < l.length, v = .int .u8 (l[j].toNat : Int) := by
  have hj : j < l.length := by have := (List.getElem?_eq_some_iff.1 h).1; simpa [byteVals] using this
  refine ⟨hj, ?_⟩
  rw [byteVals_at l j hj] at h
  exact (Option.some.inj h).symm
theorem byteVals_one (l : List UInt8) : ∀ v ∈ byteVals l, v.oneCell' = true := by
  intro v hv
  simp [byteVals] at hv
  obtain ⟨c, _, rfl⟩ := hv
  rfl
theorem splice_byteVals (L : List UInt8) (p : Nat) (cs : List UInt8) : splice (byteVals L) p (byteVals cs) = byteVals (splice L p cs) := by
  simp [splice, byteVals]
/-- the row of block g holds the bytes L -/
def Holds8 (T : TypeId) (w : World) (g : Nat) (L : List UInt8) : Prop := w.heap[g]? = some (.cells (byteVals L).toArray T (0, 0))
theorem Holds8.cell {T : TypeId} {w : World} {g : Nat} {L : List UInt8} (h : Holds8 T w g L) (j : Nat) (hj : j < L.length) : w.cell? ⟨g, j, none⟩ = some (.int .u8 (L[j].toNat : Int)) := by
  unfold Holds8 at h
  simp [World.cell?, h, byteVals, hj]
theorem Holds8.below {T : TypeId} {w w' : World} {g B : Nat} {L : List UInt8} (h : Holds8 T w g L) (hb : Below B w w') (hg : g < B) : Holds8 T w' g L := by
  unfold Holds8 at *; rw [hb.block g hg, h]
theorem Holds8.alloc {T : TypeId} {w : World} {g : Nat} {L : List UInt8} (h : Holds8 T w g L) (hg : g < w.heap.size) (o : Obj) : Holds8 T (w.alloc o) g L := by
  unfold Holds8 at *; rw [Below.heap_alloc w o g hg, h]
theorem Holds8.new (T : TypeId) (w : World) (L : List UInt8) : Holds8 T (w.alloc (.cells (byteVals L).toArray T)) w.heap.size L := by
  unfold Holds8; exact Go.Deep.blk_alloc_new w _
theorem addr_add (b o j : Nat) : (⟨b, o, none⟩ : Addr).add j = ⟨b, o + j, none⟩ := by unfold Addr.add; split <;> simp_all
theorem addr_add0 (b j : Nat) : (⟨b, 0, none⟩ : Addr).add j = ⟨b, j, none⟩ := by rw [addr_add, Nat.zero_add]

/-! ### the k low bytes of n, the greatest first -/
def lowB (n : Nat) : Nat → List UInt8
  | 0 => []
  | j + 1 => UInt8.ofNat (n / 256 ^ j % 256) :: lowB n j
theorem length_lowB (n : Nat) : ∀ k, (lowB n k).length = k
  | 0 => rfl
  | k + 1 => by simp [lowB, length_lowB n k]
theorem lowB_at (n : Nat) : ∀ (k j : Nat) (h : j < (lowB n k).length), (lowB n k)[j] = UInt8.ofNat (n / 256 ^ (k - 1 - j) % 256)
  | 0, j, h => by simp [lowB] at h
  | k + 1, 0, h => by simp [lowB]
  | k + 1, j + 1, h => by
    have hk : j < k := by simp [lowB, length_lowB] at h; exact h
    simp only [lowB, List.getElem_cons_succ]
    rw [lowB_at n k j (by rw [length_lowB]; exact hk), show k + 1 - 1 - (j + 1) = k - 1 - j by omega]
theorem pow2_256 (k : Nat) : (2 : Int) ^ (8 * k) = ((256 ^ k : Nat) : Int) := by
  rw [Int.pow_mul]
  simp
theorem take1_drop {α : Type} (l : List α) (j : Nat) (h : j < l.length) : (l.drop j).take 1 = [l[j]] := by
  rw [List.drop_eq_getElem_cons h]; rfl
/-- a row of which the first bytes are written -/
def rowOf (l : List UInt8) (j : Nat) : List UInt8 := l.take j ++ List.replicate (l.length - j) 0
theorem length_rowOf (l : List UInt8) (j : Nat) (h : j ≤ l.length) : (rowOf l j).length = l.length := by simp [rowOf]; omega
theorem rowOf_zero (l : List UInt8) : rowOf l 0 = List.replicate l.length 0 := by simp [rowOf]
theorem rowOf_all (l : List UInt8) : rowOf l l.length = l := by simp [rowOf]
theorem rowOf_step (l : List UInt8) (j m : Nat) (h : j + m ≤ l.length) : splice (rowOf l j) j ((l.drop j).take m) = rowOf l (j + m) := by
  have hlen : ((l.drop j).take m).length = m := by simp; omega
  have ht : (rowOf l j).take j = l.take j := by
    unfold rowOf
    rw [List.take_append_of_le_length (by simp; omega), List.take_take, Nat.min_self]
  have hd : (rowOf l j).drop (j + m) = List.replicate (l.length - (j + m)) 0 := by
    unfold rowOf
    rw [List.drop_append, List.drop_of_length_le (by simp; omega), List.nil_append, List.drop_replicate, List.length_take]
    congr 1
    omega
  unfold splice
  rw [hlen, ht, hd, ← List.append_assoc]
  unfold rowOf
  congr 1
  rw [List.take_add]
theorem made_zero (n : Nat) : madeCells #[.int .u8 0] n = (byteVals (List.replicate n 0)).toArray := by
  apply Array.toList_inj.1
  rw [toList_madeCells_one]
  simp [byteVals]
end Go.Proofs.Ytphfakdbgohhgaa
