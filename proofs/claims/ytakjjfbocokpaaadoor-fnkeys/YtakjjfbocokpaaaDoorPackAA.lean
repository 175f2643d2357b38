/-
  Texts of this proof, put together: Math, MathL, MathO, MathI, MathW, MathA.
-/
import Derived.WalkKit
import Derived.Laws.BitsAllLaws
import Derived.Laws.CopyOwn
import Derived.Laws.OwnMore
import Derived.Deep.Heap

/-
  Plain mathematics for chapter 1 (numbers as bytes): nothing here speaks of a program.
-/
namespace Go.Proofs.YtakjjfbocokpaaaDoor
open Go.RowKit

theorem ret_int {k : IntKind} {a b : Int} (h : a = b) : Ending.returned (.int k a) = .returned (.int k b) := by rw [h]
theorem hide {p : Prop} (h : p) : Hid p := h

/-! ### or and shifts on int -/
theorem i64_or_nat (a b : Nat) (ha : a < 9223372036854775808) (hb : b < 9223372036854775808) : bits .or .i64 (a : Int) (b : Int) = ((a ||| b : Nat) : Int) := by
  have hx : a ||| b < 2 ^ 63 := Nat.or_lt_two_pow (by omega) (by omega)
  show IntKind.i64.wrap ((BitVec.ofInt 64 (a : Int) ||| BitVec.ofInt 64 (b : Int)).toNat : Int) = _
  rw [BitVec.toNat_or, ofInt_u64 a (by omega), ofInt_u64 b (by omega), IntKind.wrap_i64]
  omega
theorem i64_xor_nat (a b : Nat) (ha : a < 9223372036854775808) (hb : b < 9223372036854775808) : bits .xor .i64 (a : Int) (b : Int) = ((a ^^^ b : Nat) : Int) := by
  have hx : a ^^^ b < 2 ^ 63 := Nat.xor_lt_two_pow (by omega) (by omega)
  show IntKind.i64.wrap ((BitVec.ofInt 64 (a : Int) ^^^ BitVec.ofInt 64 (b : Int)).toNat : Int) = _
  rw [BitVec.toNat_xor, ofInt_u64 a (by omega), ofInt_u64 b (by omega), IntKind.wrap_i64]
  omega
theorem i64_join (i : Nat) (a b : Int) (ha0 : 0 ≤ a) (ha : a < 9223372036854775808) (hb0 : 0 ≤ b) (hb : b < 9223372036854775808) (hm : a.toNat % 2 ^ i = 0) (hl : b.toNat < 2 ^ i) : bits .or .i64 a b = a + b := by
  have h := i64_or_nat a.toNat b.toNat (by omega) (by omega)
  rw [nat_join i _ _ hm hl] at h
  rw [show ((a.toNat : Nat) : Int) = a by omega, show ((b.toNat : Nat) : Int) = b by omega] at h
  rw [h]; omega

/-! ### bytes, the greatest first -/
def be (l : List UInt8) : Int := l.foldl (fun n c => n * 256 + (c.toNat : Int)) 0
theorem be_snoc (l : List UInt8) (c : UInt8) : be (l ++ [c]) = be l * 256 + (c.toNat : Int) := by simp [be]
theorem take_snoc (s : ByteArray) (k : Nat) (h : k < s.size) : s.data.toList.take (k + 1) = s.data.toList.take k ++ [s[k]] := by
  rw [List.take_succ_eq_append_getElem (by simpa using h)]; rfl
theorem be_go (l : List UInt8) : ∀ a : Int, 0 ≤ a → a * 256 ^ l.length ≤ l.foldl (fun n c => n * 256 + (c.toNat : Int)) a ∧ l.foldl (fun n c => n * 256 + (c.toNat : Int)) a < (a + 1) * 256 ^ l.length := by
  induction l with
  | nil => intro a h; simp; omega
  | cons c r ih =>
    intro a h
    have hc : c.toNat < 256 := c.toNat_lt
    obtain ⟨h1, h2⟩ := ih (a * 256 + (c.toNat : Int)) (by omega)
    have hp : (0 : Int) ≤ 256 ^ r.length := Int.pow_nonneg (by omega)
    simp only [List.foldl_cons, List.length_cons, Int.pow_succ]
    refine ⟨Int.le_trans ?_ h1, Int.lt_of_lt_of_le h2 ?_⟩
    · rw [show a * (256 ^ r.length * 256) = (a * 256) * 256 ^ r.length by rw [Int.mul_assoc, Int.mul_comm 256 (256 ^ r.length)]]
      exact Int.mul_le_mul_of_nonneg_right (by omega) hp
    · rw [show (a + 1) * (256 ^ r.length * 256) = ((a + 1) * 256) * 256 ^ r.length by rw [Int.mul_assoc, Int.mul_comm 256 (256 ^ r.length)]]
      exact Int.mul_le_mul_of_nonneg_right (by omega) hp
theorem be_bd (l : List UInt8) : 0 ≤ be l ∧ be l < 256 ^ l.length := by
  have := be_go l 0 (by omega)
  simp at this
  exact this
theorem be_bd6 (l : List UInt8) (k : Nat) (h : k ≤ 6) : 0 ≤ be (l.take k) ∧ be (l.take k) < 281474976710656 := by
  obtain ⟨h1, h2⟩ := be_bd (l.take k)
  refine ⟨h1, ?_⟩
  have h3 : (l.take k).length ≤ 6 := by simp; omega
  generalize (l.take k).length = m at *
  have : m = 0 ∨ m = 1 ∨ m = 2 ∨ m = 3 ∨ m = 4 ∨ m = 5 ∨ m = 6 := by omega
  rcases this with rfl | rfl | rfl | rfl | rfl | rfl | rfl <;> simp at h2 <;> omega
theorem be_join (n c : Int) (h0 : 0 ≤ n) (h1 : n < 281474976710656) (c0 : 0 ≤ c) (c1 : c < 256) : bits .or .i64 (n * 256) c = n * 256 + c :=
  i64_join 8 _ _ (by omega) (by omega) c0 (by omega) (by omega) (by omega)

/-! ### rows of bytes in memory -/
def byteVals (l : List UInt8) : List Value := l.map fun c => .int .u8 (c.toNat : Int)
theorem length_byteVals (l : List UInt8) : (byteVals l).length = l.length := by simp [byteVals]
theorem byteVals_at (l : List UInt8) (j : Nat) (h : j < l.length) : (byteVals l)[j]? = some (.int .u8 (l[j].toNat : Int)) := by simp [byteVals, h]
theorem byteVals_some (l : List UInt8) (j : Nat) (v : Value) (h : (byteVals l)[j]? = some v) : ∃ hj : j < l.length, v = .int .u8 (l[j].toNat : Int) := by
  have hj : j < l.length := by have := (List.getElem?_eq_some_iff.1 h).1; simpa [byteVals] using this
  refine ⟨hj, ?_⟩
  rw [byteVals_at l j hj] at h
  exact (Option.some.inj h).symm
theorem byteVals_one (l : List UInt8) : ∀ v ∈ byteVals l, v.oneCell' = true := by
  intro v hv
  simp [byteVals] at hv
  obtain ⟨c, _, rfl⟩ := hv
  rfl
theorem splice_byteVals (L : List UInt8) (p : Nat) (cs : List UInt8) : splice (byteVals L) p (byteVals cs) = byteVals (splice L p cs) := by
  simp [splice, byteVals]
/-- the row of block g holds the bytes L -/
def Holds8 (T : TypeId) (w : World) (g : Nat) (L : List UInt8) : Prop := w.heap[g]? = some (.cells (byteVals L).toArray T (0, 0))
theorem Holds8.cell {T : TypeId} {w : World} {g : Nat} {L : List UInt8} (h : Holds8 T w g L) (j : Nat) (hj : j < L.length) : w.cell? ⟨g, j, none⟩ = some (.int .u8 (L[j].toNat : Int)) := by
  unfold Holds8 at h
  simp [World.cell?, h, byteVals, hj]
theorem Holds8.below {T : TypeId} {w w' : World} {g B : Nat} {L : List UInt8} (h : Holds8 T w g L) (hb : Below B w w') (hg : g < B) : Holds8 T w' g L := by
  unfold Holds8 at *; rw [hb.block g hg, h]
theorem Holds8.alloc {T : TypeId} {w : World} {g : Nat} {L : List UInt8} (h : Holds8 T w g L) (hg : g < w.heap.size) (o : Obj) : Holds8 T (w.alloc o) g L := by
  unfold Holds8 at *; rw [Below.heap_alloc w o g hg, h]
theorem Holds8.new (T : TypeId) (w : World) (L : List UInt8) : Holds8 T (w.alloc (.cells (byteVals L).toArray T)) w.heap.size L := by
  unfold Holds8; exact Go.Deep.blk_alloc_new w _
theorem addr_add (b o j : Nat) : (⟨b, o, none⟩ : Addr).add j = ⟨b, o + j, none⟩ := by unfold Addr.add; split <;> simp_all
theorem addr_add0 (b j : Nat) : (⟨b, 0, none⟩ : Addr).add j = ⟨b, j, none⟩ := by rw [addr_add, Nat.zero_add]

/-! ### the k low bytes of n, the greatest first -/
def lowB (n : Nat) : Nat → List UInt8
  | 0 => []
  | j + 1 => UInt8.ofNat (n / 256 ^ j % 256) :: lowB n j
theorem length_lowB (n : Nat) : ∀ k, (lowB n k).length = k
  | 0 => rfl
  | k + 1 => by simp [lowB, length_lowB n k]
theorem lowB_at (n : Nat) : ∀ (k j : Nat) (h : j < (lowB n k).length), (lowB n k)[j] = UInt8.ofNat (n / 256 ^ (k - 1 - j) % 256)
  | 0, j, h => by simp [lowB] at h
  | k + 1, 0, h => by simp [lowB]
  | k + 1, j + 1, h => by
    have hk : j < k := by simp [lowB, length_lowB] at h; exact h
    simp only [lowB, List.getElem_cons_succ]
    rw [lowB_at n k j (by rw [length_lowB]; exact hk), show k + 1 - 1 - (j + 1) = k - 1 - j by omega]
theorem pow2_256 (k : Nat) : (2 : Int) ^ (8 * k) = ((256 ^ k : Nat) : Int) := by
  rw [Int.pow_mul]
  simp
theorem take1_drop {α : Type} (l : List α) (j : Nat) (h : j < l.length) : (l.drop j).take 1 = [l[j]] := by
  rw [List.drop_eq_getElem_cons h]; rfl
/-- a row of which the first bytes are written -/
def rowOf (l : List UInt8) (j : Nat) : List UInt8 := l.take j ++ List.replicate (l.length - j) 0
theorem length_rowOf (l : List UInt8) (j : Nat) (h : j ≤ l.length) : (rowOf l j).length = l.length := by simp [rowOf]; omega
theorem rowOf_zero (l : List UInt8) : rowOf l 0 = List.replicate l.length 0 := by simp [rowOf]
theorem rowOf_all (l : List UInt8) : rowOf l l.length = l := by simp [rowOf]
theorem rowOf_step (l : List UInt8) (j m : Nat) (h : j + m ≤ l.length) : splice (rowOf l j) j ((l.drop j).take m) = rowOf l (j + m) := by
  have hlen : ((l.drop j).take m).length = m := by simp; omega
  have ht : (rowOf l j).take j = l.take j := by
    unfold rowOf
    rw [List.take_append_of_le_length (by simp; omega), List.take_take, Nat.min_self]
  have hd : (rowOf l j).drop (j + m) = List.replicate (l.length - (j + m)) 0 := by
    unfold rowOf
    rw [List.drop_append, List.drop_of_length_le (by simp; omega), List.nil_append, List.drop_replicate, List.length_take]
    congr 1
    omega
  unfold splice
  rw [hlen, ht, hd, ← List.append_assoc]
  unfold rowOf
  congr 1
  rw [List.take_add]
theorem made_zero (n : Nat) : madeCells #[.int .u8 0] n = (byteVals (List.replicate n 0)).toArray := by
  apply Array.toList_inj.1
  rw [toList_madeCells_one]
  simp [byteVals]
end Go.Proofs.YtakjjfbocokpaaaDoor

/-
  Lists of slots (a tenant and a key): nothing here speaks of the program.
-/
namespace Go.Proofs.YtakjjfbocokpaaaDoor
open Go.RowKit

abbrev Slot := Int × ByteArray
def tn (L : List Slot) (i : Nat) : Int := (L.getD i (0, ByteArray.empty)).1
def ky (L : List Slot) (i : Nat) : ByteArray := (L.getD i (0, ByteArray.empty)).2
theorem tn_at (L : List Slot) (i : Nat) (h : i < L.length) : tn L i = L[i].1 := by simp [tn, List.getD, h]
theorem ky_at (L : List Slot) (i : Nat) (h : i < L.length) : ky L i = L[i].2 := by simp [ky, List.getD, h]
theorem pair_at (L : List Slot) (i : Nat) (h : i < L.length) : L[i] = (tn L i, ky L i) := by rw [tn_at L i h, ky_at L i h]
def slotVals (L : List Slot) : List Value := L.flatMap fun s => [.int .i64 s.1, .string s.2]
theorem slotVals_cons (s : Slot) (L : List Slot) : slotVals (s :: L) = .int .i64 s.1 :: .string s.2 :: slotVals L := by simp [slotVals]
theorem slotVals_append (L M : List Slot) : slotVals (L ++ M) = slotVals L ++ slotVals M := by simp [slotVals]
theorem length_slotVals (L : List Slot) : (slotVals L).length = L.length * 2 := by
  induction L with
  | nil => rfl
  | cons s r ih => rw [slotVals_cons, List.length_cons, List.length_cons, ih, List.length_cons]; omega
theorem slotVals_at0 : ∀ (L : List Slot) (j : Nat), j < L.length → (slotVals L)[j * 2]? = some (.int .i64 (tn L j))
  | [], j, h => by simp at h
  | s :: r, 0, _ => by simp [slotVals_cons, tn]
  | s :: r, j + 1, h => by
    rw [slotVals_cons, show (j + 1) * 2 = j * 2 + 1 + 1 by omega, List.getElem?_cons_succ, List.getElem?_cons_succ, slotVals_at0 r j (by simpa using h)]
    simp [tn]
theorem slotVals_at1 : ∀ (L : List Slot) (j : Nat), j < L.length → (slotVals L)[j * 2 + 1]? = some (.string (ky L j))
  | [], j, h => by simp at h
  | s :: r, 0, _ => by simp [slotVals_cons, ky]
  | s :: r, j + 1, h => by
    rw [slotVals_cons, show (j + 1) * 2 + 1 = j * 2 + 1 + 1 + 1 by omega, List.getElem?_cons_succ, List.getElem?_cons_succ, slotVals_at1 r j (by simpa using h)]
    simp [ky]
theorem slotVals_one (L : List Slot) : ∀ v ∈ slotVals L, v.oneCell' = true := by
  intro v hv
  simp only [slotVals, List.mem_flatMap, List.mem_cons, List.not_mem_nil, or_false] at hv
  obtain ⟨s, _, rfl | rfl⟩ := hv <;> rfl
theorem slotVals_take (L : List Slot) (n : Nat) : slotVals (L.take n) = (slotVals L).take (n * 2) := by
  induction L generalizing n with
  | nil => simp [slotVals]
  | cons s r ih =>
    cases n with
    | zero => simp [slotVals]
    | succ n => rw [List.take_succ_cons, slotVals_cons, slotVals_cons, ih, show (n + 1) * 2 = n * 2 + 1 + 1 by omega, List.take_succ_cons, List.take_succ_cons]
theorem slotVals_set (L : List Slot) (j : Nat) (s : Slot) : slotVals (L.set j s) = ((slotVals L).set (j * 2) (.int .i64 s.1)).set (j * 2 + 1) (.string s.2) := by
  induction L generalizing j with
  | nil => simp [slotVals]
  | cons r L ih =>
    cases j with
    | zero => simp [slotVals_cons]
    | succ j => rw [List.set_cons_succ, slotVals_cons, slotVals_cons, ih, show (j + 1) * 2 = j * 2 + 1 + 1 by omega, List.set_cons_succ, List.set_cons_succ, List.set_cons_succ, List.set_cons_succ]

/-- The slice at a reads as L, in a block below B. -/
def SlotRd (w : World) (B : Nat) (a : Option Addr) (L : List Slot) : Prop :=
  0 < L.length → ∃ b off, a = some ⟨b, off, none⟩ ∧ b < B ∧ ∀ j, j < L.length → w.cell? ⟨b, off + j * 2, none⟩ = some (.int .i64 (tn L j)) ∧ w.cell? ⟨b, off + j * 2 + 1, none⟩ = some (.string (ky L j))
theorem SlotRd.below {w w' : World} {B B' : Nat} {a : Option Addr} {L : List Slot} (h : SlotRd w B a L) (hb : Below B' w w') (hB : B ≤ B') : SlotRd w' B a L := fun hp => by
  obtain ⟨b, off, ha, hlt, hc⟩ := h hp
  refine ⟨b, off, ha, hlt, fun j hj => ?_⟩
  rw [hb.cell (p := ⟨b, off + j * 2, none⟩) (Nat.lt_of_lt_of_le hlt hB), hb.cell (p := ⟨b, off + j * 2 + 1, none⟩) (Nat.lt_of_lt_of_le hlt hB)]
  exact hc j hj
theorem SlotRd.mono {w : World} {B B' : Nat} {a : Option Addr} {L : List Slot} (h : SlotRd w B a L) (hB : B ≤ B') : SlotRd w B' a L := fun hp => by
  obtain ⟨b, off, ha, hlt, hc⟩ := h hp
  exact ⟨b, off, ha, by omega, hc⟩
end Go.Proofs.YtakjjfbocokpaaaDoor

/-
  When a device is valid: nothing here speaks of the program.
-/
namespace Go.Proofs.YtakjjfbocokpaaaDoor
open Go.RowKit

def slotOkB (t : Int) (k : ByteArray) : Bool := decide (1 ≤ t ∧ t ≤ 99 ∧ k.size = 32)
def Asc (L : List Slot) : Prop := ∀ i, i < L.length - 1 → tn L i < tn L (i + 1)
instance (L : List Slot) : Decidable (Asc L) := inferInstanceAs (Decidable (∀ i, i < L.length - 1 → tn L i < tn L (i + 1)))
def ascB (L : List Slot) : Bool := decide (Asc L)
def SlotsOk (L : List Slot) : Prop := L.length ≤ 4 ∧ Asc L ∧ ∀ i, i < L.length → slotOkB (tn L i) (ky L i) = true
instance (L : List Slot) : Decidable (SlotsOk L) := inferInstanceAs (Decidable (L.length ≤ 4 ∧ Asc L ∧ ∀ i, i < L.length → slotOkB (tn L i) (ky L i) = true))
def slotsOkB (L : List Slot) : Bool := decide (SlotsOk L)
def DevOk (m : ByteArray) (L : List Slot) (x : Int) : Prop := m.size = 32 ∧ SlotsOk L ∧ 0 ≤ x ∧ x ≤ 1000000
instance (m : ByteArray) (L : List Slot) (x : Int) : Decidable (DevOk m L x) := inferInstanceAs (Decidable (m.size = 32 ∧ SlotsOk L ∧ 0 ≤ x ∧ x ≤ 1000000))
def devOkB (m : ByteArray) (L : List Slot) (x : Int) : Bool := decide (DevOk m L x)
theorem slotOkB_true {t : Int} {k : ByteArray} (h0 : 1 ≤ t) (h1 : t ≤ 99) (h2 : k.size = 32) : slotOkB t k = true := decide_eq_true ⟨h0, h1, h2⟩
theorem slotOkB_false {t : Int} {k : ByteArray} (h : t < 1 ∨ 99 < t ∨ k.size ≠ 32) : slotOkB t k = false := decide_eq_false (by omega)
theorem slotOkB_iff {t : Int} {k : ByteArray} : slotOkB t k = true ↔ 1 ≤ t ∧ t ≤ 99 ∧ k.size = 32 := decide_eq_true_iff
theorem ascB_false {L : List Slot} (i : Nat) (hi : i + 1 < L.length) (h : tn L (i + 1) ≤ tn L i) : ascB L = false := decide_eq_false fun ha => by
  have := ha i (by omega)
  omega
theorem slotsOkB_false {L : List Slot} (h : 4 < L.length ∨ ascB L = false ∨ ∃ i, i < L.length ∧ slotOkB (tn L i) (ky L i) = false) : slotsOkB L = false := decide_eq_false fun hs => by
  rcases h with h | h | ⟨i, hi, h⟩
  · have := hs.1; omega
  · exact absurd hs.2.1 (of_decide_eq_false h)
  · rw [hs.2.2 i hi] at h; cases h
theorem slotsOkB_true {L : List Slot} (h0 : L.length ≤ 4) (h1 : ascB L = true) (h2 : ∀ i, i < L.length → slotOkB (tn L i) (ky L i) = true) : slotsOkB L = true := decide_eq_true ⟨h0, of_decide_eq_true h1, h2⟩
theorem devOkB_true {m : ByteArray} {L : List Slot} {x : Int} (h0 : m.size = 32) (h1 : slotsOkB L = true) (h2 : 0 ≤ x) (h3 : x ≤ 1000000) : devOkB m L x = true := decide_eq_true ⟨h0, of_decide_eq_true h1, h2, h3⟩
theorem devOkB_false {m : ByteArray} {L : List Slot} {x : Int} (h : m.size ≠ 32 ∨ slotsOkB L = false ∨ x < 0 ∨ 1000000 < x) : devOkB m L x = false := decide_eq_false fun hd => by
  rcases h with h | h | h | h
  · exact h hd.1
  · exact absurd hd.2.1 (of_decide_eq_false h)
  · have := hd.2.2.1; omega
  · have := hd.2.2.2; omega
theorem devOkB_iff {m : ByteArray} {L : List Slot} {x : Int} : devOkB m L x = true ↔ DevOk m L x := decide_eq_true_iff

/-- cmp.Compare on int -/
def cmpI (a b : Int) : Int := if a < b then -1 else if b < a then 1 else 0
theorem cmpI_bd (a b : Int) : -1 ≤ cmpI a b ∧ cmpI a b ≤ 1 := by unfold cmpI; split <;> (try split) <;> omega
theorem cmpI_lt {a b : Int} : cmpI a b < 0 ↔ a < b := by unfold cmpI; split <;> (try split) <;> omega
theorem cmpI_zero {a b : Int} : cmpI a b = 0 ↔ a = b := by unfold cmpI; split <;> (try split) <;> omega
end Go.Proofs.YtakjjfbocokpaaaDoor

/-
  Where a tenant's slot lies in a list: nothing here speaks of the program.
-/
namespace Go.Proofs.YtakjjfbocokpaaaDoor
open Go.RowKit

def slotIx (L : List Slot) (t : Int) : Option Nat := L.findIdx? fun s => s.1 == t
theorem slotIx_some {L : List Slot} {t : Int} (i : Nat) (hi : i < L.length) (h : tn L i = t) (hb : ∀ j, j < i → tn L j ≠ t) : slotIx L t = some i := by
  unfold slotIx
  rw [List.findIdx?_eq_some_iff_getElem]
  refine ⟨hi, by rw [← tn_at L i hi, h]; simp, fun j hj => ?_⟩
  have := hb j hj
  rw [tn_at L j (by omega)] at this
  simp [this]
theorem slotIx_none {L : List Slot} {t : Int} (h : ∀ j, j < L.length → tn L j ≠ t) : slotIx L t = none := by
  unfold slotIx
  rw [List.findIdx?_eq_none_iff]
  intro s hs
  obtain ⟨j, hj, rfl⟩ := List.mem_iff_getElem.1 hs
  have := h j hj
  rw [tn_at L j hj] at this
  simp [this]
theorem slotIx_of_some {L : List Slot} {t : Int} {i : Nat} (h : slotIx L t = some i) : i < L.length ∧ tn L i = t ∧ ∀ j, j < i → tn L j ≠ t := by
  unfold slotIx at h
  rw [List.findIdx?_eq_some_iff_getElem] at h
  obtain ⟨hi, h1, h2⟩ := h
  refine ⟨hi, by rw [tn_at L i hi]; simpa using h1, fun j hj => ?_⟩
  rw [tn_at L j (by omega)]
  simpa using h2 j hj
theorem slotIx_of_none {L : List Slot} {t : Int} (h : slotIx L t = none) : ∀ j, j < L.length → tn L j ≠ t := by
  unfold slotIx at h
  rw [List.findIdx?_eq_none_iff] at h
  intro j hj
  have := h L[j] (List.getElem_mem hj)
  rw [tn_at L j hj]
  simpa using this
def ixI : Option Nat → Int
  | some i => i
  | none => -1
def noKey : ByteArray := ⟨#[]⟩
def ixK (L : List Slot) : Option Nat → ByteArray
  | some i => ky L i
  | none => noKey
def keyOfV (m : ByteArray) (L : List Slot) (x t : Int) : ByteArray := if devOkB m L x = true then ixK L (slotIx L t) else noKey
theorem keyOfV_no {m : ByteArray} {L : List Slot} {x t : Int} (h : devOkB m L x = false) : keyOfV m L x t = noKey := by unfold keyOfV; rw [h]; rfl
theorem keyOfV_yes {m : ByteArray} {L : List Slot} {x t : Int} (h : devOkB m L x = true) : keyOfV m L x t = ixK L (slotIx L t) := by unfold keyOfV; rw [if_pos h]
end Go.Proofs.YtakjjfbocokpaaaDoor

/-
  What KeyWipe and KeyAdd answer, on lists of slots: nothing here speaks of the program.
-/
namespace Go.Proofs.YtakjjfbocokpaaaDoor
open Go.RowKit

theorem Asc.lt {L : List Slot} (h : Asc L) (i j : Nat) (hij : i < j) (hj : j < L.length) : tn L i < tn L j := by
  induction j with
  | zero => omega
  | succ j ih =>
    have h1 := h j (by omega)
    rcases Nat.lt_or_ge i j with h2 | h2
    · have := ih h2 (by omega); omega
    · rw [show i = j by omega]; exact h1
/-- the slots of the others -/
def filtL (L : List Slot) (t : Int) : List Slot := L.filter fun s => s.1 != t
theorem filtL_snoc (L : List Slot) (t : Int) (j : Nat) (hj : j < L.length) : filtL (L.take (j + 1)) t = filtL (L.take j) t ++ (if tn L j = t then [] else [(tn L j, ky L j)]) := by
  rw [List.take_succ_eq_append_getElem hj, filtL, List.filter_append, pair_at L j hj]
  by_cases h : tn L j = t
  · rw [if_pos h]; simp [filtL, h]
  · rw [if_neg h]; simp [filtL, h]
theorem filter_keep (L : List Slot) (t : Int) (h : ∀ s ∈ L, s.1 ≠ t) : filtL L t = L := by
  unfold filtL
  rw [List.filter_eq_self]
  intro s hs
  simpa using h s hs
theorem filtL_none {L : List Slot} {t : Int} (h : slotIx L t = none) : filtL L t = L := by
  refine filter_keep L t fun s hs => ?_
  obtain ⟨j, hj, rfl⟩ := List.mem_iff_getElem.1 hs
  rw [← tn_at L j hj]
  exact slotIx_of_none h j hj
theorem filtL_some {L : List Slot} {t : Int} {i : Nat} (ha : Asc L) (h : slotIx L t = some i) : filtL L t = L.eraseIdx i := by
  obtain ⟨hi, ht, hb⟩ := slotIx_of_some h
  have e : L = L.take i ++ L[i] :: L.drop (i + 1) := by rw [List.getElem_cons_drop, List.take_append_drop]
  have h1 : filtL (L.take i) t = L.take i := by
    refine filter_keep _ t fun s hs => ?_
    obtain ⟨j, hj, rfl⟩ := List.mem_iff_getElem.1 hs
    rw [List.length_take] at hj
    rw [List.getElem_take, ← tn_at L j (by omega)]
    exact hb j (by omega)
  have h2 : filtL (L.drop (i + 1)) t = L.drop (i + 1) := by
    refine filter_keep _ t fun s hs => ?_
    obtain ⟨j, hj, rfl⟩ := List.mem_iff_getElem.1 hs
    rw [List.length_drop] at hj
    rw [List.getElem_drop, ← tn_at L (i + 1 + j) (by omega)]
    have := ha.lt i (i + 1 + j) (by omega) (by omega)
    omega
  have h3 : filtL L t = filtL (L.take i) t ++ filtL (L.drop (i + 1)) t := by
    conv => lhs; rw [e]
    unfold filtL
    rw [List.filter_append, List.filter_cons, if_neg (by simp [← tn_at L i hi, ht])]
  rw [h3, h1, h2, List.eraseIdx_eq_take_drop_succ]

/-- a device and a truth, as KeyAdd and KeyWipe answer them -/
structure DevR where
  m : ByteArray
  L : List Slot
  x : Int
  ok : Bool
def wipeV (m : ByteArray) (L : List Slot) (x t : Int) : DevR :=
  if devOkB m L x = true then (if x = 1000000 then ⟨m, L, x, false⟩ else (match slotIx L t with
    | some i => ⟨m, L.eraseIdx i, x + 1, true⟩
    | none => ⟨m, L, x, false⟩)) else ⟨noKey, [], 0, false⟩
theorem wipeV_bad {m : ByteArray} {L : List Slot} {x t : Int} (h : devOkB m L x = false) : wipeV m L x t = ⟨noKey, [], 0, false⟩ := by unfold wipeV; rw [h]; rfl
theorem wipeV_full {m : ByteArray} {L : List Slot} {x t : Int} (h : devOkB m L x = true) (hx : x = 1000000) : wipeV m L x t = ⟨m, L, x, false⟩ := by unfold wipeV; rw [if_pos h, if_pos hx]
theorem wipeV_none {m : ByteArray} {L : List Slot} {x t : Int} (h : devOkB m L x = true) (hi : slotIx L t = none) : wipeV m L x t = ⟨m, L, x, false⟩ := by
  unfold wipeV
  rw [if_pos h]
  split
  · rfl
  · rw [hi]
theorem wipeV_some {m : ByteArray} {L : List Slot} {x t : Int} {i : Nat} (h : devOkB m L x = true) (hx : x ≠ 1000000) (hi : slotIx L t = some i) : wipeV m L x t = ⟨m, L.eraseIdx i, x + 1, true⟩ := by
  unfold wipeV
  rw [if_pos h, if_neg hx, hi]
end Go.Proofs.YtakjjfbocokpaaaDoor

/-
  Where a slot is added in order, and what KeyAdd answers: nothing here speaks of the program.
-/
namespace Go.Proofs.YtakjjfbocokpaaaDoor
open Go.RowKit

/-- the first place whose tenant is not less -/
def posL : List Slot → Int → Nat
  | [], _ => 0
  | s :: r, t => if t ≤ s.1 then 0 else posL r t + 1
theorem posL_eq : ∀ (L : List Slot) (t : Int) (p : Nat), p ≤ L.length → (∀ k, k < p → tn L k < t) → (p < L.length → t ≤ tn L p) → posL L t = p
  | [], t, p, hp, _, _ => by simp at hp; simp [posL, hp]
  | s :: r, t, 0, _, _, h2 => by
    have := h2 (by simp)
    simp [tn] at this
    simp [posL, this]
  | s :: r, t, p + 1, hp, h1, h2 => by
    have h0 := h1 0 (by omega)
    simp [tn] at h0
    rw [posL, if_neg (by omega), posL_eq r t p (by simpa using hp) (fun k hk => by have := h1 (k + 1) (by omega); simpa [tn] using this) (fun h => by have := h2 (by simpa using h); simpa [tn] using this)]
theorem posL_le : ∀ (L : List Slot) (t : Int), posL L t ≤ L.length
  | [], _ => Nat.le_refl _
  | s :: r, t => by
    unfold posL
    split
    · simp
    · have := posL_le r t; simp; omega
theorem posL_lt : ∀ (L : List Slot) (t : Int) (k : Nat), k < posL L t → tn L k < t
  | [], _, k, h => by simp [posL] at h
  | s :: r, t, k, h => by
    unfold posL at h
    split at h
    · omega
    · rename_i hs
      cases k with
      | zero => simp [tn]; omega
      | succ k => have := posL_lt r t k (by omega); simpa [tn] using this
theorem posL_at : ∀ (L : List Slot) (t : Int), posL L t < L.length → t ≤ tn L (posL L t)
  | [], _, h => by simp at h
  | s :: r, t, h => by
    unfold posL at h ⊢
    split
    · rename_i hs; simpa [tn] using hs
    · rename_i hs
      rw [if_neg hs] at h
      have := posL_at r t (by simpa using h)
      simpa [tn] using this
def insL (L : List Slot) (t : Int) (k : ByteArray) : List Slot := L.take (posL L t) ++ (t, k) :: L.drop (posL L t)
theorem length_insL (L : List Slot) (t : Int) (k : ByteArray) : (insL L t k).length = L.length + 1 := by
  have := posL_le L t
  simp [insL]
  omega
def addV (m : ByteArray) (L : List Slot) (x t : Int) (k : ByteArray) : DevR :=
  if devOkB m L x = true then (if devOkB m (insL L t k) x = true then ⟨m, insL L t k, x, true⟩ else ⟨m, L, x, false⟩) else ⟨noKey, [], 0, false⟩
theorem addV_bad {m : ByteArray} {L : List Slot} {x t : Int} {k : ByteArray} (h : devOkB m L x = false) : addV m L x t k = ⟨noKey, [], 0, false⟩ := by unfold addV; rw [h]; rfl
theorem addV_no {m : ByteArray} {L : List Slot} {x t : Int} {k : ByteArray} (h : devOkB m L x = true) (h2 : devOkB m (insL L t k) x = false) : addV m L x t k = ⟨m, L, x, false⟩ := by unfold addV; rw [if_pos h, h2]; rfl
theorem addV_yes {m : ByteArray} {L : List Slot} {x t : Int} {k : ByteArray} (h : devOkB m L x = true) (h2 : devOkB m (insL L t k) x = true) : addV m L x t k = ⟨m, insL L t k, x, true⟩ := by unfold addV; rw [if_pos h, if_pos h2]
theorem length_addV (m : ByteArray) (L : List Slot) (x t : Int) (k : ByteArray) : (addV m L x t k).L.length ≤ L.length + 1 := by
  unfold addV
  split
  · split
    · simp only; rw [length_insL]; exact Nat.le_refl _
    · simp only; omega
  · exact Nat.zero_le _
end Go.Proofs.YtakjjfbocokpaaaDoor
