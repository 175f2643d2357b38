/-
  Texts of this proof, put together: Math, Math2, Math3, MathR, VarsM, CutV.
-/
import Derived.WalkKit
import Derived.Laws.BitsAllLaws
import Derived.Laws.CopyOwn
import Derived.Laws.OwnMore
import Derived.Deep.Heap

/-
  Plain mathematics for chapter 1 (numbers as bytes): nothing here speaks of a program.
-/
namespace Go.Proofs.YtakjjfbocokpaaaDoor
open Go.RowKit

theorem ret_int {k : IntKind} {a b : Int} (h : a = b) : Ending.returned (.int k a) = .returned (.int k b) := by rw [h]
theorem hide {p : Prop} (h : p) : Hid p := h

/-! ### or and shifts on int -/
theorem i64_or_nat (a b : Nat) (ha : a < 9223372036854775808) (hb : b < 9223372036854775808) : bits .or .i64 (a : Int) (b : Int) = ((a ||| b : Nat) : Int) := by
  have hx : a ||| b < 2 ^ 63 := Nat.or_lt_two_pow (by omega) (by omega)
  show IntKind.i64.wrap ((BitVec.ofInt 64 (a : Int) ||| BitVec.ofInt 64 (b : Int)).toNat : Int) = _
  rw [BitVec.toNat_or, ofInt_u64 a (by omega), ofInt_u64 b (by omega), IntKind.wrap_i64]
  omega
theorem i64_xor_nat (a b : Nat) (ha : a < 9223372036854775808) (hb : b < 9223372036854775808) : bits .xor .i64 (a : Int) (b : Int) = ((a ^^^ b : Nat) : Int) := by
  have hx : a ^^^ b < 2 ^ 63 := Nat.xor_lt_two_pow (by omega) (by omega)
  show IntKind.i64.wrap ((BitVec.ofInt 64 (a : Int) ^^^ BitVec.ofInt 64 (b : Int)).toNat : Int) = _
  rw [BitVec.toNat_xor, ofInt_u64 a (by omega), ofInt_u64 b (by omega), IntKind.wrap_i64]
  omega
theorem i64_join (i : Nat) (a b : Int) (ha0 : 0 ≤ a) (ha : a < 9223372036854775808) (hb0 : 0 ≤ b) (hb : b < 9223372036854775808) (hm : a.toNat % 2 ^ i = 0) (hl : b.toNat < 2 ^ i) : bits .or .i64 a b = a + b := by
  have h := i64_or_nat a.toNat b.toNat (by omega) (by omega)
  rw [nat_join i _ _ hm hl] at h
  rw [show ((a.toNat : Nat) : Int) = a by omega, show ((b.toNat : Nat) : Int) = b by omega] at h
  rw [h]; omega

/-! ### bytes, the greatest first -/
def be (l : List UInt8) : Int := l.foldl (fun n c => n * 256 + (c.toNat : Int)) 0
theorem be_snoc (l : List UInt8) (c : UInt8) : be (l ++ [c]) = be l * 256 + (c.toNat : Int) := by simp [be]
theorem take_snoc (s : ByteArray) (k : Nat) (h : k < s.size) : s.data.toList.take (k + 1) = s.data.toList.take k ++ [s[k]] := by
  rw [List.take_succ_eq_append_getElem (by simpa using h)]; rfl
theorem be_go (l : List UInt8) : ∀ a : Int, 0 ≤ a → a * 256 ^ l.length ≤ l.foldl (fun n c => n * 256 + (c.toNat : Int)) a ∧ l.foldl (fun n c => n * 256 + (c.toNat : Int)) a < (a + 1) * 256 ^ l.length := by
  induction l with
  | nil => intro a h; simp; omega
  | cons c r ih =>
    intro a h
    have hc : c.toNat < 256 := c.toNat_lt
    obtain ⟨h1, h2⟩ := ih (a * 256 + (c.toNat : Int)) (by omega)
    have hp : (0 : Int) ≤ 256 ^ r.length := Int.pow_nonneg (by omega)
    simp only [List.foldl_cons, List.length_cons, Int.pow_succ]
    refine ⟨Int.le_trans ?_ h1, Int.lt_of_lt_of_le h2 ?_⟩
    · rw [show a * (256 ^ r.length * 256) = (a * 256) * 256 ^ r.length by rw [Int.mul_assoc, Int.mul_comm 256 (256 ^ r.length)]]
      exact Int.mul_le_mul_of_nonneg_right (by omega) hp
    · rw [show (a + 1) * (256 ^ r.length * 256) = ((a + 1) * 256) * 256 ^ r.length by rw [Int.mul_assoc, Int.mul_comm 256 (256 ^ r.length)]]
      exact Int.mul_le_mul_of_nonneg_right (by omega) hp
theorem be_bd (l : List UInt8) : 0 ≤ be l ∧ be l < 256 ^ l.length := by
  have := be_go l 0 (by omega)
  simp at this
  exact this
theorem be_bd6 (l : List UInt8) (k : Nat) (h : k ≤ 6) : 0 ≤ be (l.take k) ∧ be (l.take k) < 281474976710656 := by
  obtain ⟨h1, h2⟩ := be_bd (l.take k)
  refine ⟨h1, ?_⟩
  have h3 : (l.take k).length ≤ 6 := by simp; omega
  generalize (l.take k).length = m at *
  have : m = 0 ∨ m = 1 ∨ m = 2 ∨ m = 3 ∨ m = 4 ∨ m = 5 ∨ m = 6 := by omega
  rcases this with rfl | rfl | rfl | rfl | rfl | rfl | rfl <;> simp at h2 <;> omega
theorem be_join (n c : Int) (h0 : 0 ≤ n) (h1 : n < 281474976710656) (c0 : 0 ≤ c) (c1 : c < 256) : bits .or .i64 (n * 256) c = n * 256 + c :=
  i64_join 8 _ _ (by omega) (by omega) c0 (by omega) (by omega) (by omega)

/-! ### rows of bytes in memory -/
def byteVals (l : List UInt8) : List Value := l.map fun c => .int .u8 (c.toNat : Int)
theorem length_byteVals (l : List UInt8) : (byteVals l).length = l.length := by simp [byteVals]
theorem byteVals_at (l : List UInt8) (j : Nat) (h : j < l.length) : (byteVals l)[j]? = some (.int .u8 (l[j].toNat : Int)) := by simp [byteVals, h]
theorem byteVals_some (l : List UInt8) (j : Nat) (v : Value) (h : (byteVals l)[j]? = some v) : ∃ hj : j < l.length, v = .int .u8 (l[j].toNat : Int) := by
  have hj : j < l.length := by have := (List.getElem?_eq_some_iff.1 h).1; simpa [byteVals] using this
  refine ⟨hj, ?_⟩
  rw [byteVals_at l j hj] at h
  exact (Option.some.inj h).symm
theorem byteVals_one (l : List UInt8) : ∀ v ∈ byteVals l, v.oneCell' = true := by
  intro v hv
  simp [byteVals] at hv
  obtain ⟨c, _, rfl⟩ := hv
  rfl
theorem splice_byteVals (L : List UInt8) (p : Nat) (cs : List UInt8) : splice (byteVals L) p (byteVals cs) = byteVals (splice L p cs) := by
  simp [splice, byteVals]
/-- the row of block g holds the bytes L -/
def Holds8 (T : TypeId) (w : World) (g : Nat) (L : List UInt8) : Prop := w.heap[g]? = some (.cells (byteVals L).toArray T (0, 0))
theorem Holds8.cell {T : TypeId} {w : World} {g : Nat} {L : List UInt8} (h : Holds8 T w g L) (j : Nat) (hj : j < L.length) : w.cell? ⟨g, j, none⟩ = some (.int .u8 (L[j].toNat : Int)) := by
  unfold Holds8 at h
  simp [World.cell?, h, byteVals, hj]
theorem Holds8.below {T : TypeId} {w w' : World} {g B : Nat} {L : List UInt8} (h : Holds8 T w g L) (hb : Below B w w') (hg : g < B) : Holds8 T w' g L := by
  unfold Holds8 at *; rw [hb.block g hg, h]
theorem Holds8.alloc {T : TypeId} {w : World} {g : Nat} {L : List UInt8} (h : Holds8 T w g L) (hg : g < w.heap.size) (o : Obj) : Holds8 T (w.alloc o) g L := by
  unfold Holds8 at *; rw [Below.heap_alloc w o g hg, h]
theorem Holds8.new (T : TypeId) (w : World) (L : List UInt8) : Holds8 T (w.alloc (.cells (byteVals L).toArray T)) w.heap.size L := by
  unfold Holds8; exact Go.Deep.blk_alloc_new w _
theorem addr_add (b o j : Nat) : (⟨b, o, none⟩ : Addr).add j = ⟨b, o + j, none⟩ := by unfold Addr.add; split <;> simp_all
theorem addr_add0 (b j : Nat) : (⟨b, 0, none⟩ : Addr).add j = ⟨b, j, none⟩ := by rw [addr_add, Nat.zero_add]

/-! ### the k low bytes of n, the greatest first -/
def lowB (n : Nat) : Nat → List UInt8
  | 0 => []
  | j + 1 => UInt8.ofNat (n / 256 ^ j % 256) :: lowB n j
theorem length_lowB (n : Nat) : ∀ k, (lowB n k).length = k
  | 0 => rfl
  | k + 1 => by simp [lowB, length_lowB n k]
theorem lowB_at (n : Nat) : ∀ (k j : Nat) (h : j < (lowB n k).length), (lowB n k)[j] = UInt8.ofNat (n / 256 ^ (k - 1 - j) % 256)
  | 0, j, h => by simp [lowB] at h
  | k + 1, 0, h => by simp [lowB]
  | k + 1, j + 1, h => by
    have hk : j < k := by simp [lowB, length_lowB] at h; exact h
    simp only [lowB, List.getElem_cons_succ]
    rw [lowB_at n k j (by rw [length_lowB]; exact hk), show k + 1 - 1 - (j + 1) = k - 1 - j by omega]
theorem pow2_256 (k : Nat) : (2 : Int) ^ (8 * k) = ((256 ^ k : Nat) : Int) := by
  rw [Int.pow_mul]
  simp
theorem take1_drop {α : Type} (l : List α) (j : Nat) (h : j < l.length) : (l.drop j).take 1 = [l[j]] := by
  rw [List.drop_eq_getElem_cons h]; rfl
/-- a row of which the first bytes are written -/
def rowOf (l : List UInt8) (j : Nat) : List UInt8 := l.take j ++ List.replicate (l.length - j) 0
theorem length_rowOf (l : List UInt8) (j : Nat) (h : j ≤ l.length) : (rowOf l j).length = l.length := by simp [rowOf]; omega
theorem rowOf_zero (l : List UInt8) : rowOf l 0 = List.replicate l.length 0 := by simp [rowOf]
theorem rowOf_all (l : List UInt8) : rowOf l l.length = l := by simp [rowOf]
theorem rowOf_step (l : List UInt8) (j m : Nat) (h : j + m ≤ l.length) : splice (rowOf l j) j ((l.drop j).take m) = rowOf l (j + m) := by
  have hlen : ((l.drop j).take m).length = m := by simp; omega
  have ht : (rowOf l j).take j = l.take j := by
    unfold rowOf
    rw [List.take_append_of_le_length (by simp; omega), List.take_take, Nat.min_self]
  have hd : (rowOf l j).drop (j + m) = List.replicate (l.length - (j + m)) 0 := by
    unfold rowOf
    rw [List.drop_append, List.drop_of_length_le (by simp; omega), List.nil_append, List.drop_replicate, List.length_take]
    congr 1
    omega
  unfold splice
  rw [hlen, ht, hd, ← List.append_assoc]
  unfold rowOf
  congr 1
  rw [List.take_add]
theorem made_zero (n : Nat) : madeCells #[.int .u8 0] n = (byteVals (List.replicate n 0)).toArray := by
  apply Array.toList_inj.1
  rw [toList_madeCells_one]
  simp [byteVals]
end Go.Proofs.YtakjjfbocokpaaaDoor

/-
  Plain mathematics for varints: nothing here speaks of a program.
-/
namespace Go.Proofs.YtakjjfbocokpaaaDoor
open Go.RowKit

/-- n as a varint -/
def varL (n : Nat) : List UInt8 := if n < 128 then [UInt8.ofNat n] else UInt8.ofNat (n % 128 + 128) :: varL (n / 128)
termination_by n
decreasing_by omega
theorem varL_small (n : Nat) (h : n < 128) : varL n = [UInt8.ofNat n] := by rw [varL, if_pos h]
theorem varL_big (n : Nat) (h : 128 ≤ n) : varL n = UInt8.ofNat (n % 128 + 128) :: varL (n / 128) := by rw [varL, if_neg (by omega)]
theorem varL_pos (n : Nat) : 0 < (varL n).length := by
  by_cases h : n < 128
  · rw [varL_small n h]; simp
  · rw [varL_big n (by omega)]; simp
theorem varL_len : ∀ (k n : Nat), n < 128 ^ (k + 1) → (varL n).length ≤ k + 1
  | 0, n, h => by rw [varL_small n (by simpa using h)]; simp
  | k + 1, n, h => by
    by_cases hs : n < 128
    · rw [varL_small n hs]; simp
    · rw [varL_big n (by omega), List.length_cons]
      have := varL_len k (n / 128) (by rw [Nat.pow_succ] at h; omega)
      omega
theorem varL_len7 (n : Nat) (h : n ≤ 562949953421311) : (varL n).length ≤ 7 := varL_len 6 n (by omega)

/-- a step of the drop -/
theorem drop_step {α : Type} {l r : List α} {x : α} {j : Nat} (h : l.drop j = x :: r) : j < l.length ∧ l.drop (j + 1) = r ∧ (∀ hj : j < l.length, l[j] = x) := by
  have hj : j < l.length := by
    refine Nat.lt_of_not_le fun hc => ?_
    rw [List.drop_of_length_le hc] at h
    cases h
  rw [List.drop_eq_getElem_cons hj] at h
  injection h with h1 h2
  exact ⟨hj, h2, fun _ => h1⟩

/-- filled up with zeros to n bytes -/
def padTo (n : Nat) (l : List UInt8) : List UInt8 := l ++ List.replicate (n - l.length) 0
theorem length_padTo (n : Nat) (l : List UInt8) (h : l.length ≤ n) : (padTo n l).length = n := by simp [padTo]; omega
theorem padTo_at (n : Nat) (l : List UInt8) (j : Nat) (hj : j < l.length) (h : j < (padTo n l).length) : (padTo n l)[j] = l[j] := by
  simp [padTo, List.getElem_append_left hj]
theorem rowOf_padTo (n : Nat) (l : List UInt8) (h : l.length ≤ n) : rowOf (padTo n l) l.length = padTo n l := by
  unfold rowOf
  rw [length_padTo n l h, padTo, List.take_append_of_le_length (Nat.le_refl _), List.take_length]
end Go.Proofs.YtakjjfbocokpaaaDoor

/-
  Plain mathematics for reading varints: nothing here speaks of a program.
-/
namespace Go.Proofs.YtakjjfbocokpaaaDoor
open Go.RowKit

/-- seven bits a byte, the least first -/
def le7 : List UInt8 → Nat
  | [] => 0
  | c :: r => c.toNat % 128 + 128 * le7 r
theorem le7_lt : ∀ l, le7 l < 128 ^ l.length
  | [] => by simp [le7]
  | c :: r => by
    have := le7_lt r
    rw [le7, List.length_cons, Nat.pow_succ]
    omega
theorem le7_snoc (c : UInt8) : ∀ l, le7 (l ++ [c]) = le7 l + c.toNat % 128 * 128 ^ l.length
  | [] => by simp [le7]
  | d :: r => by
    rw [List.cons_append, le7, le7, le7_snoc c r, List.length_cons, Nat.pow_succ, Nat.mul_add, ← Nat.mul_assoc, Nat.mul_comm (128 ^ r.length), ← Nat.mul_assoc, Nat.mul_comm 128 (c.toNat % 128), Nat.add_assoc]

/-- the varints, byte by byte -/
def good : List UInt8 → Prop
  | [] => False
  | [c] => c.toNat < 128
  | c :: d :: r => 128 ≤ c.toNat ∧ good (d :: r) ∧ d :: r ≠ [0]
theorem good_zero : ∀ l, good l → le7 l = 0 → l = [0]
  | [], h, _ => h.elim
  | [c], h, h0 => by
    simp [good] at h
    simp [le7] at h0
    have : c.toNat = 0 := by omega
    rw [show c = 0 from UInt8.toNat_inj.1 (by simpa using this)]
  | c :: d :: r, h, h0 => by
    obtain ⟨_, h2, h3⟩ := h
    rw [le7] at h0
    exact (h3 (good_zero (d :: r) h2 (by omega))).elim
theorem ofNat_eq (n : Nat) (c : UInt8) (h : n = c.toNat) : UInt8.ofNat n = c := by subst h; simp
theorem good_iff : ∀ l, varL (le7 l) = l ↔ good l
  | [] => by
    simp only [good, iff_false]
    intro h
    have := varL_pos (le7 [])
    rw [h] at this
    simp at this
  | [c] => by
    have e : le7 [c] = c.toNat % 128 := by simp [le7]
    rw [e, varL_small _ (by omega)]
    simp only [good, List.cons.injEq, and_true]
    constructor
    · intro h
      have := congrArg UInt8.toNat h
      simp at this
      omega
    · intro h
      exact ofNat_eq _ _ (by omega)
  | c :: d :: r => by
    have hc : c.toNat < 256 := c.toNat_lt
    constructor
    · intro h
      by_cases hs : le7 (c :: d :: r) < 128
      · rw [varL_small _ hs] at h
        simp at h
      · rw [varL_big _ (by omega)] at h
        injection h with h1 h2
        have e1 : le7 (c :: d :: r) % 128 = c.toNat % 128 := by rw [le7]; omega
        have e2 : le7 (c :: d :: r) / 128 = le7 (d :: r) := by rw [le7]; omega
        rw [e1] at h1
        rw [e2] at h2
        have h3 := congrArg UInt8.toNat h1
        simp at h3
        refine ⟨by omega, (good_iff (d :: r)).1 h2, fun h0 => ?_⟩
        have e3 : le7 (d :: r) = 0 := by rw [h0]; simp [le7]
        rw [le7] at hs
        omega
    · rintro ⟨h1, h2, h3⟩
      have hp : 0 < le7 (d :: r) := Nat.pos_of_ne_zero fun h0 => h3 (good_zero _ h2 h0)
      have hb : 128 ≤ le7 (c :: d :: r) := by rw [le7]; omega
      rw [varL_big _ hb]
      have e1 : le7 (c :: d :: r) % 128 = c.toNat % 128 := by rw [le7]; omega
      have e2 : le7 (c :: d :: r) / 128 = le7 (d :: r) := by rw [le7]; omega
      rw [e1, e2, (good_iff (d :: r)).2 h2, ofNat_eq (c.toNat % 128 + 128) c (by omega)]

/-- where the first byte below 128 stands, among the first k -/
def rvPos : List UInt8 → Nat → Option Nat
  | _, 0 => none
  | [], _ => none
  | c :: r, k + 1 => if c.toNat < 128 then some 0 else (rvPos r k).map (· + 1)
def readVarL (l : List UInt8) : Nat × Nat :=
  match rvPos l 7 with
  | none => (0, 0)
  | some i => if l[i]?.getD 0 = 0 ∧ 0 < i then (0, 0) else (le7 (l.take (i + 1)), i + 1)
theorem rvPos_some : ∀ (l : List UInt8) (k i : Nat) (hi : i < l.length), i < k → (∀ j (hj : j < l.length), j < i → 128 ≤ l[j].toNat) → l[i].toNat < 128 → rvPos l k = some i
  | [], _, i, hi, _, _, _ => by simp at hi
  | c :: r, 0, i, hi, hk, _, _ => by omega
  | c :: r, k + 1, 0, hi, hk, _, h => by simp at h; simp [rvPos, h]
  | c :: r, k + 1, i + 1, hi, hk, ha, h => by
    have h0 := ha 0 (by simp) (by omega)
    simp at h0
    have := rvPos_some r k i (by simpa using hi) (by omega) (fun j hj hji => by have := ha (j + 1) (by simpa using hj) (by omega); simpa using this) (by simpa using h)
    simp [rvPos, this]
    omega
theorem rvPos_none : ∀ (l : List UInt8) (k : Nat), (∀ j (hj : j < l.length), j < k → 128 ≤ l[j].toNat) → rvPos l k = none
  | [], 0, _ => rfl
  | [], k + 1, _ => rfl
  | c :: r, 0, _ => rfl
  | c :: r, k + 1, ha => by
    have h0 := ha 0 (by simp) (by omega)
    simp at h0
    have := rvPos_none r k (fun j hj hjk => by have := ha (j + 1) (by simpa using hj) (by omega); simpa using this)
    simp [rvPos, this]
    omega
theorem readVarL_zero {l : List UInt8} {i : Nat} (hi : i < l.length) (h7 : i < 7) (ha : ∀ j (hj : j < l.length), j < i → 128 ≤ l[j].toNat) (h0 : l[i] = 0) (hp : 0 < i) : readVarL l = (0, 0) := by
  rw [readVarL, rvPos_some l 7 i hi h7 ha (by rw [h0]; decide)]
  simp [hi, h0, hp]
theorem readVarL_at {l : List UInt8} {i : Nat} (hi : i < l.length) (h7 : i < 7) (ha : ∀ j (hj : j < l.length), j < i → 128 ≤ l[j].toNat) (hs : l[i].toNat < 128) (hn : ¬ (l[i] = 0 ∧ 0 < i)) : readVarL l = (le7 (l.take (i + 1)), i + 1) := by
  rw [readVarL, rvPos_some l 7 i hi h7 ha hs]
  simp only [List.getElem?_eq_getElem hi, Option.getD_some]
  rw [if_neg hn]
theorem readVarL_none {l : List UInt8} (ha : ∀ j (hj : j < l.length), j < 7 → 128 ≤ l[j].toNat) : readVarL l = (0, 0) := by
  rw [readVarL, rvPos_none l 7 ha]

theorem good_take : ∀ (l : List UInt8) (i : Nat) (hi : i < l.length), good (l.take (i + 1)) ↔ (∀ j (hj : j < l.length), j < i → 128 ≤ l[j].toNat) ∧ l[i].toNat < 128 ∧ ¬ (l[i] = 0 ∧ 0 < i)
  | [], i, hi => by simp at hi
  | c :: r, 0, hi => by simp [good]
  | [c], i + 1, hi => by simp at hi
  | c :: d :: r, i + 1, hi => by
    have ih := good_take (d :: r) i (by simpa using hi)
    rw [List.take_succ_cons, List.take_succ_cons]
    rw [List.take_succ_cons] at ih
    simp only [good]
    rw [ih]
    simp only [List.getElem_cons_succ]
    constructor
    · rintro ⟨h1, ⟨h2, h3, h4⟩, h5⟩
      refine ⟨fun j hj hji => ?_, h3, ?_⟩
      · cases j with
        | zero => simpa using h1
        | succ j => have := h2 j (by simpa using hj) (by omega); simpa using this
      · rintro ⟨h6, _⟩
        cases i with
        | zero => simp at h6; simp [h6] at h5
        | succ i => exact h4 ⟨h6, by omega⟩
    · rintro ⟨h1, h2, h3⟩
      refine ⟨by have := h1 0 (by simp) (by omega); simpa using this, ⟨fun j hj hji => by have := h1 (j + 1) (by simpa using hj) (by omega); simpa using this, h2, fun h => h3 ⟨h.1, by omega⟩⟩, ?_⟩
      intro h
      cases i with
      | zero => simp at h; simp [h] at h3
      | succ i =>
        have h5 := congrArg List.length h
        simp only [List.length_cons, List.length_take, List.length_nil] at h5
        simp only [List.length_cons] at hi
        omega
/-- the first beginning that is a varint -/
theorem readVarL_good {l : List UInt8} {k : Nat} (hk : k < l.length) (h7 : k < 7) (h : varL (le7 (l.take (k + 1))) = l.take (k + 1)) : readVarL l = (le7 (l.take (k + 1)), k + 1) := by
  obtain ⟨h1, h2, h3⟩ := (good_take l k hk).1 ((good_iff _).1 h)
  exact readVarL_at hk h7 h1 h2 h3
theorem readVarL_bad {l : List UInt8} (h : ∀ k, k < l.length → k < 7 → varL (le7 (l.take (k + 1))) ≠ l.take (k + 1)) : readVarL l = (0, 0) := by
  unfold readVarL
  split
  · rfl
  · rename_i i hi
    have key : ∀ (l : List UInt8) (k i : Nat), rvPos l k = some i → ∃ hi : i < l.length, i < k ∧ (∀ j (hj : j < l.length), j < i → 128 ≤ l[j].toNat) ∧ l[i].toNat < 128 := by
      intro l
      induction l with
      | nil => intro k i h; cases k <;> simp [rvPos] at h
      | cons c r ih =>
        intro k i h
        cases k with
        | zero => simp [rvPos] at h
        | succ k =>
          rw [rvPos] at h
          split at h
          · rename_i hc
            injection h with h
            subst h
            exact ⟨by simp, by omega, fun j _ hj => by omega, by simpa using hc⟩
          · rename_i hc
            simp at h
            obtain ⟨a, ha, rfl⟩ := h
            obtain ⟨h1, h2, h3, h4⟩ := ih k a ha
            refine ⟨by simpa using h1, by omega, fun j hj hja => ?_, by simpa using h4⟩
            cases j with
            | zero => simp; omega
            | succ j => have := h3 j (by simpa using hj) (by omega); simpa using this
    obtain ⟨h1, h2, h3, h4⟩ := key l 7 i hi
    simp only [List.getElem?_eq_getElem h1, Option.getD_some]
    split
    · rfl
    · rename_i hn
      exact (h i h1 h2 ((good_iff _).2 ((good_take l i h1).2 ⟨h3, h4, hn⟩))).elim
theorem le7_take_lt (l : List UInt8) (k : Nat) (hk : k ≤ 7) : le7 (l.take k) ≤ 562949953421311 := by
  have h := le7_lt (l.take k)
  have h2 : (l.take k).length ≤ 7 := by simp; omega
  have h3 : 128 ^ (l.take k).length ≤ 128 ^ 7 := Nat.pow_le_pow_right (by omega) h2
  omega
theorem le7_drop_lt (l : List UInt8) (j q : Nat) (hj : j < 7) : le7 ((l.take (j + 1)).drop (q + 1)) < 4398046511104 := by
  have h := le7_lt ((l.take (j + 1)).drop (q + 1))
  have h2 : ((l.take (j + 1)).drop (q + 1)).length ≤ 6 := by simp only [List.length_drop, List.length_take]; omega
  have h3 : 128 ^ ((l.take (j + 1)).drop (q + 1)).length ≤ 128 ^ 6 := Nat.pow_le_pow_right (by omega) h2
  omega
theorem le7_join (l : List UInt8) (i : Nat) (c : UInt8) (hi : i < 7) (hl : l.length = i) : bits .or .i64 ((le7 l : Nat) : Int) (wrap64 ((c.toNat : Int) % 128 * 2 ^ (7 * i))) = ((le7 (l ++ [c]) : Nat) : Int) := by
  have h := le7_lt l
  rw [hl] at h
  have hp : (128 : Nat) ^ i ≤ 128 ^ 6 := Nat.pow_le_pow_right (by omega) (by omega)
  have e : ((c.toNat : Int) % 128 * 2 ^ (7 * i)) = ((c.toNat % 128 * 128 ^ i : Nat) : Int) := by
    rw [Int.pow_mul]; simp
  have hm : c.toNat % 128 * 128 ^ i ≤ 127 * 128 ^ i := Nat.mul_le_mul_right _ (by omega)
  have hw : wrap64 ((c.toNat % 128 * 128 ^ i : Nat) : Int) = ((c.toNat % 128 * 128 ^ i : Nat) : Int) := by
    unfold wrap64
    omega
  rw [e, hw, le7_snoc, hl, i64_or_nat _ _ (by omega) (by omega), Nat.or_comm, nat_join (7 * i) (c.toNat % 128 * 128 ^ i) (le7 l)]
  · rw [Nat.add_comm]
  · rw [Nat.pow_mul]; exact Nat.mul_mod_left _ _
  · rw [Nat.pow_mul]; exact h
end Go.Proofs.YtakjjfbocokpaaaDoor

/-
  Plain mathematics: a varint that is written is read again, and no other string is. Nothing here speaks of a program.
-/
namespace Go.Proofs.YtakjjfbocokpaaaDoor
open Go.RowKit

theorem le7_varL (m : Nat) : le7 (varL m) = m := by
  induction m using Nat.strongRecOn with
  | _ m ih =>
    by_cases h : m < 128
    · rw [varL_small m h]; simp [le7]; omega
    · rw [varL_big m (by omega), le7, ih (m / 128) (by omega)]
      simp
      omega
theorem readVarL_var (m : Nat) (hm : m ≤ 562949953421311) (T : List UInt8) : readVarL (varL m ++ T) = (m, (varL m).length) := by
  have hp := varL_pos m
  have h7 := varL_len7 m hm
  have ht : (varL m ++ T).take ((varL m).length - 1 + 1) = varL m := by
    rw [show (varL m).length - 1 + 1 = (varL m).length by omega, List.take_append_of_le_length (Nat.le_refl _), List.take_length]
  have h := readVarL_good (l := varL m ++ T) (k := (varL m).length - 1) (by rw [List.length_append]; omega) (by omega) (by rw [ht, le7_varL])
  rw [h, ht, le7_varL, show (varL m).length - 1 + 1 = (varL m).length by omega]
theorem readVarL_back {D : List UInt8} (h : (readVarL D).2 ≠ 0) : varL (readVarL D).1 = D.take (readVarL D).2 ∧ (readVarL D).1 ≤ 562949953421311 ∧ (readVarL D).2 ≤ D.length := by
  by_cases hb : ∀ k, k < D.length → k < 7 → varL (le7 (D.take (k + 1))) ≠ D.take (k + 1)
  · rw [readVarL_bad hb] at h
    exact (h rfl).elim
  · have hx : ∃ k, k < D.length ∧ k < 7 ∧ varL (le7 (D.take (k + 1))) = D.take (k + 1) := by
      refine Classical.byContradiction fun hc => hb fun k h1 h2 h3 => hc ⟨k, h1, h2, h3⟩
    obtain ⟨k, h1, h2, h3⟩ := hx
    rw [readVarL_good h1 h2 h3]
    exact ⟨h3, le7_take_lt D (k + 1) (by omega), h1⟩
theorem readVarL_le (D : List UInt8) : (readVarL D).1 ≤ 562949953421311 ∧ (readVarL D).2 ≤ D.length := by
  by_cases h : (readVarL D).2 = 0
  · have h1 : (readVarL D).1 = 0 := by
      unfold readVarL at h ⊢
      split
      · rfl
      · rename_i i hi
        rw [hi] at h
        simp only at h
        split
        · rfl
        · rename_i hn
          rw [if_neg hn] at h
          simp at h
    omega
  · exact ⟨(readVarL_back h).2.1, (readVarL_back h).2.2⟩
end Go.Proofs.YtakjjfbocokpaaaDoor

/-
  So many varints, one behind another: what l6Vars answers, on lists. Nothing here speaks of the program.
-/
namespace Go.Proofs.YtakjjfbocokpaaaDoor
open Go.RowKit

def varsF (s : List UInt8) : Nat → Int → List Nat × Int
  | 0, p => ([], p)
  | n + 1, p => if p < 0 ∨ (s.length : Int) < p then ([], -1) else
      if (readVarL (s.drop p.toNat)).2 = 0 then ([], -1) else
        ((readVarL (s.drop p.toNat)).1 :: (varsF s n (p + ((readVarL (s.drop p.toNat)).2 : Nat))).1, (varsF s n (p + ((readVarL (s.drop p.toNat)).2 : Nat))).2)
theorem varsF_zero (s : List UInt8) (p : Int) : varsF s 0 p = ([], p) := rfl
theorem varsF_out (s : List UInt8) (n : Nat) (p : Int) (h : p < 0 ∨ (s.length : Int) < p) : varsF s (n + 1) p = ([], -1) := by rw [varsF, if_pos h]
theorem varsF_none (s : List UInt8) (n : Nat) (p : Nat) (h : p ≤ s.length) (h0 : (readVarL (s.drop p)).2 = 0) : varsF s (n + 1) p = ([], -1) := by
  rw [varsF, if_neg (by omega), Int.toNat_natCast, if_pos h0]
theorem varsF_step (s : List UInt8) (n : Nat) (p : Nat) (h : p ≤ s.length) (h0 : (readVarL (s.drop p)).2 ≠ 0) : varsF s (n + 1) p = ((readVarL (s.drop p)).1 :: (varsF s n ((p + (readVarL (s.drop p)).2 : Nat) : Int)).1, (varsF s n ((p + (readVarL (s.drop p)).2 : Nat) : Int)).2) := by
  rw [varsF, if_neg (by omega), Int.toNat_natCast, if_neg h0, Int.natCast_add]
end Go.Proofs.YtakjjfbocokpaaaDoor

/-
  A varint cut off a string: what it says, and what follows it. Nothing here speaks of a program.
-/
namespace Go.Proofs.YtakjjfbocokpaaaDoor
open Go.RowKit

def cutVn (l : List UInt8) : Nat := (readVarL l).1
def cutVr (l : List UInt8) : List UInt8 := l.drop (readVarL l).2
theorem cutV_var (m : Nat) (hm : m ≤ 562949953421311) (T : List UInt8) : cutVn (varL m ++ T) = m ∧ cutVr (varL m ++ T) = T := by
  have h := readVarL_var m hm T
  unfold cutVn cutVr
  rw [h]
  exact ⟨rfl, List.drop_left⟩
theorem cutVr_le (l : List UInt8) : (cutVr l).length ≤ l.length := by unfold cutVr; rw [List.length_drop]; omega
end Go.Proofs.YtakjjfbocokpaaaDoor
