/-
  Texts of this proof, put together: Draw.
-/
import Derived.Test.YtphfakdbgohhgaaPackAA
import Derived.Deep.Draws
import Derived.Laws.IdiomStrings

/-
  The draws of the laws, as functions: nothing here speaks of a program.
-/
namespace Go.Proofs.Ytphfakdbgohhgaa
open Go.RowKit

/-- a cursor: how many bytes are used, and the running number -/
abbrev Cu := Nat × Int

def nextH (h : Int) : Int := wrap64 (wrap64 (h * 6364136223846793005) + 1442695040888963407)
def mixH (h : Int) : Int := bits .and .i64 (bits .xor .i64 (h / 8589934592) (h / 35184372088832)) 255
def addB (x z : Int) : Int := bits .and .i64 (wrap64 (x + z)) 255
def cByte (bs : List Int) (c : Cu) : Int := if c.1 < bs.length then addB (mixH (nextH c.2)) (bs[c.1]?.getD 0) else mixH (nextH c.2)
def aByte (bs : List Int) (c : Cu) : Cu := (if c.1 < bs.length then c.1 + 1 else c.1, nextH c.2)
def cBelow (bs : List Int) (n : Int) (c : Cu) : Int :=
  if n ≤ 0 then 0 else if n ≤ 256 then cByte bs c % n
  else (cByte bs c * 16777216 + cByte bs (aByte bs c) * 65536 + cByte bs (aByte bs (aByte bs c)) * 256 + cByte bs (aByte bs (aByte bs (aByte bs c)))) % n
def aBelow (bs : List Int) (n : Int) (c : Cu) : Cu :=
  if n ≤ 0 then c else if n ≤ 256 then aByte bs c else aByte bs (aByte bs (aByte bs (aByte bs c)))

theorem and255 (y : Int) : 0 ≤ bits .and .i64 y 255 ∧ bits .and .i64 y 255 ≤ 255 := by
  show 0 ≤ IntKind.i64.wrap ((BitVec.ofInt 64 y &&& BitVec.ofInt 64 255).toNat : Int) ∧ IntKind.i64.wrap ((BitVec.ofInt 64 y &&& BitVec.ofInt 64 255).toNat : Int) ≤ 255
  have h : (BitVec.ofInt 64 y &&& BitVec.ofInt 64 255).toNat ≤ 255 := by
    rw [BitVec.toNat_and]
    exact Nat.and_le_right
  rw [IntKind.wrap_i64]
  omega
theorem mixH_bd (h : Int) : 0 ≤ mixH h ∧ mixH h ≤ 255 := and255 _
theorem cByte_bd (bs : List Int) (c : Cu) : 0 ≤ cByte bs c ∧ cByte bs c ≤ 255 := by
  unfold cByte addB
  split
  · exact and255 _
  · exact mixH_bd _
theorem cBelow_bd (bs : List Int) (n : Int) (c : Cu) (h : 0 < n) : 0 ≤ cBelow bs n c ∧ cBelow bs n c < n := by
  unfold cBelow
  rw [if_neg (by omega)]
  split
  · exact ⟨Int.emod_nonneg _ (by omega), Int.emod_lt_of_pos _ h⟩
  · exact ⟨Int.emod_nonneg _ (by omega), Int.emod_lt_of_pos _ h⟩
theorem aByte_le (bs : List Int) (c : Cu) (h : c.1 ≤ bs.length) : (aByte bs c).1 ≤ bs.length := by
  unfold aByte; dsimp only; split <;> omega
theorem aBelow_le (bs : List Int) (n : Int) (c : Cu) (h : c.1 ≤ bs.length) : (aBelow bs n c).1 ≤ bs.length := by
  unfold aBelow
  split
  · exact h
  · split
    · exact aByte_le bs c h
    · exact aByte_le _ _ (aByte_le _ _ (aByte_le _ _ (aByte_le bs c h)))
theorem nextH_bd (h : Int) : -9223372036854775808 ≤ nextH h ∧ nextH h ≤ 9223372036854775807 := by
  unfold nextH wrap64; omega

/-! ### the cursor in memory, and the bytes that it walks over -/
/-- Block g is the cursor over the slice sv. -/
def CurAt (T : TypeId) (w : World) (g : Nat) (sv : Value) (c : Cu) : Prop := w.heap[g]? = some (.cells #[sv, .int .i64 (c.1 : Int), .int .i64 c.2] T (0, 0))
/-- The slice's bytes, in old memory. -/
def CodeAt (B : Nat) (w : World) (a : Option Addr) (bs : List Int) : Prop :=
  (∀ z ∈ bs, 0 ≤ z ∧ z ≤ 255) ∧ (0 < bs.length → ∃ b off, a = some ⟨b, off, none⟩ ∧ b < B ∧ ∀ j, j < bs.length → w.cell? ⟨b, off + j, none⟩ = some (.int .u8 (bs[j]?.getD 0)))
theorem CodeAt.keep {B : Nat} {w w' : World} {a : Option Addr} {bs : List Int} (h : CodeAt B w a bs) (hk : ∀ k, k < B → w'.heap[k]? = w.heap[k]?) : CodeAt B w' a bs := by
  refine ⟨h.1, fun hp => ?_⟩
  obtain ⟨b, off, e, hb, hc⟩ := h.2 hp
  exact ⟨b, off, e, hb, fun j hj => (World.cell?_of_block (hk b hb)).trans (hc j hj)⟩
theorem CodeAt.below {B : Nat} {w w' : World} {a : Option Addr} {bs : List Int} (h : CodeAt B w a bs) (hb : Below B w w') : CodeAt B w' a bs := h.keep fun k hk => hb.block k hk
theorem CurAt.cells {T : TypeId} {w : World} {g : Nat} {sv : Value} {c : Cu} (h : CurAt T w g sv c) :
    w.cell? ⟨g, 0, none⟩ = some sv ∧ w.cell? ⟨g, 1, none⟩ = some (.int .i64 (c.1 : Int)) ∧ w.cell? ⟨g, 2, none⟩ = some (.int .i64 c.2) := by
  unfold CurAt at h
  simp [World.cell?, h]
theorem CurAt.frozen {T : TypeId} {w : World} {g : Nat} {sv : Value} {c : Cu} (h : CurAt T w g sv c) (o : Nat) : w.frozen? ⟨g, o, none⟩ = false := by
  unfold CurAt at h
  simp [World.frozen?, h]
theorem CurAt.lt {T : TypeId} {w : World} {g : Nat} {sv : Value} {c : Cu} (h : CurAt T w g sv c) : g < w.heap.size := by
  unfold CurAt at h
  refine Nat.lt_of_not_le fun hc => ?_
  rw [Array.getElem?_eq_none hc] at h
  cases h
theorem CurAt.of_block {T : TypeId} {w w' : World} {g : Nat} {sv : Value} {c : Cu} (h : CurAt T w g sv c) (hb : w'.heap[g]? = w.heap[g]?) : CurAt T w' g sv c := by
  unfold CurAt at *; rw [hb, h]

theorem CurAt.set2 {T : TypeId} {w : World} {g : Nat} {sv : Value} {c : Cu} (h : CurAt T w g sv c) (x : Int) : CurAt T (w.setCell ⟨g, 2, none⟩ (.int .i64 x)) g sv (c.1, x) := by
  unfold CurAt at *
  have hg : g < w.heap.size := CurAt.lt h
  simp [World.setCell, Array.getElem?_modify, h]
theorem CurAt.set1 {T : TypeId} {w : World} {g : Nat} {sv : Value} {c : Cu} (h : CurAt T w g sv c) (x : Nat) : CurAt T (w.setCell ⟨g, 1, none⟩ (.int .i64 (x : Int))) g sv (x, c.2) := by
  unfold CurAt at *
  have hg : g < w.heap.size := CurAt.lt h
  simp [World.setCell, Array.getElem?_modify, h]
/-- What a draw does to memory: of the old blocks the cursor alone may turn. -/
def Turned (g : Nat) (w w' : World) : Prop := w.grownBy w' (some g)
theorem Turned.refl (g : Nat) (w : World) : Turned g w w := ⟨rfl, rfl, rfl, Nat.le_refl _, fun _ _ _ => rfl⟩
theorem Turned.set (g : Nat) (w : World) (o : Nat) (v : Value) : Turned g w (w.setCell ⟨g, o, none⟩ v) :=
  ⟨rfl, rfl, rfl, by simp, fun k _ hne => Below.heap_setCell w ⟨g, o, none⟩ v k (fun e => hne (by rw [e]))⟩
theorem Turned.trans {g : Nat} {a b c : World} (h : Turned g a b) (k : Turned g b c) : Turned g a c :=
  ⟨k.os.trans h.os, k.tape.trans h.tape, k.output.trans h.output, Nat.le_trans h.size k.size, fun j hj hne => (k.block j (Nat.lt_of_lt_of_le hj h.size) hne).trans (h.block j hj hne)⟩
theorem Turned.drewN {g : Nat} {a b : World} (h : Turned g a b) (n : Nat) : Turned g a (b.drewN n) := ⟨h.os, h.tape, h.output, h.size, h.block⟩
theorem Turned.drew {g : Nat} {a b : World} (h : Turned g a b) : Turned g a b.drew := ⟨h.os, h.tape, h.output, h.size, h.block⟩
theorem Turned.alloc {g : Nat} {a b : World} (h : Turned g a b) (o : Obj) : Turned g a (b.alloc o) :=
  ⟨h.os, h.tape, h.output, by rw [Go.Deep.nblk_alloc]; exact Nat.le_succ_of_le h.size, fun k hk hne => (Below.heap_alloc b o k (Nat.lt_of_lt_of_le hk h.size)).trans (h.block k hk hne)⟩
theorem Turned.below {g B : Nat} {w w' : World} (h : Turned g w w') (hB : B ≤ g) (hs : B ≤ w.heap.size) : Below B w w' :=
  ⟨h.os, h.tape, h.output, h.size, fun k hk => h.block k (by omega) (fun e => by injection e with e; omega)⟩
theorem Turned.code {g B : Nat} {w w' : World} {a : Option Addr} {bs : List Int} (h : Turned g w w') (hB : B ≤ g) (hs : B ≤ w.heap.size) (hc : CodeAt B w a bs) : CodeAt B w' a bs := hc.below (h.below hB hs)
theorem Turned.of_below {g B : Nat} {w w' : World} (h : Below B w w') (hB : w.heap.size ≤ B) : Turned g w w' :=
  ⟨h.os, h.tape, h.output, h.size, fun k hk _ => h.block k (by omega)⟩
theorem Turned.cell {g : Nat} {w w' : World} (h : Turned g w w') {p : Addr} (hlt : p.block < w.heap.size) (hne : p.block ≠ g) : w'.cell? p = w.cell? p :=
  World.cell?_of_block (h.block p.block hlt (fun e => hne (by injection e)))

/-! ### a number, small, at a limit, or any -/
def pickL : List Int := [-1, 0, 127, 128, 255, 256, 16383, 16384, 65535, 65536, 562949953421311, 562949953421312, 999999999, 1000000000, -999999999, 9223372036854775807, -9223372036854775808]
def cNum (bs : List Int) (c : Cu) : Int :=
  if cBelow bs 8 c = 0 then pickL[(cBelow bs 17 (aBelow bs 8 c)).toNat]?.getD 0
  else if cBelow bs 8 c = 1 then cBelow bs 1000000000 (aBelow bs 8 c) * cBelow bs 1000000000 (aBelow bs 1000000000 (aBelow bs 8 c))
  else if cBelow bs 8 c = 2 then -cBelow bs 100000 (aBelow bs 8 c)
  else cBelow bs 70000 (aBelow bs 8 c)
def aNum (bs : List Int) (c : Cu) : Cu :=
  if cBelow bs 8 c = 0 then aBelow bs 17 (aBelow bs 8 c)
  else if cBelow bs 8 c = 1 then aBelow bs 1000000000 (aBelow bs 1000000000 (aBelow bs 8 c))
  else if cBelow bs 8 c = 2 then aBelow bs 100000 (aBelow bs 8 c)
  else aBelow bs 70000 (aBelow bs 8 c)
theorem pick_bd : ∀ k, k < 17 → -9223372036854775808 ≤ pickL[k]?.getD 0 ∧ pickL[k]?.getD 0 ≤ 9223372036854775807 := by decide
theorem mul_bd (x y : Int) (h0 : 0 ≤ x) (h1 : x < 1000000000) (g0 : 0 ≤ y) (g1 : y < 1000000000) : 0 ≤ x * y ∧ x * y ≤ 1000000000000000000 := by
  refine ⟨Int.mul_nonneg h0 g0, ?_⟩
  have h := Int.mul_le_mul (show x ≤ 1000000000 by omega) (show y ≤ 1000000000 by omega) g0 (by omega)
  omega
theorem cNum_bd (bs : List Int) (c : Cu) : -9223372036854775808 ≤ cNum bs c ∧ cNum bs c ≤ 9223372036854775807 := by
  unfold cNum
  split
  · have h := cBelow_bd bs 17 (aBelow bs 8 c) (by omega)
    exact pick_bd _ (by omega)
  · split
    · have h1 := cBelow_bd bs 1000000000 (aBelow bs 8 c) (by omega)
      have h2 := cBelow_bd bs 1000000000 (aBelow bs 1000000000 (aBelow bs 8 c)) (by omega)
      have := mul_bd _ _ h1.1 h1.2 h2.1 h2.2
      omega
    · split
      · have h1 := cBelow_bd bs 100000 (aBelow bs 8 c) (by omega)
        omega
      · have h1 := cBelow_bd bs 70000 (aBelow bs 8 c) (by omega)
        omega
theorem ints_new (T : TypeId) (w : World) (zs : List Int) (j : Nat) (hj : j < zs.length) : (w.alloc (.cells (zs.map (Value.int .i64)).toArray T)).cell? ⟨w.heap.size, j, none⟩ = some (.int .i64 (zs[j]?.getD 0)) := by
  rw [World.cell?_alloc_mark]
  simp [hj]
theorem Turned.then_below {g B : Nat} {a b c : World} (h : Turned g a b) (k : Below B b c) (hB : a.heap.size ≤ B) : Turned g a c :=
  ⟨k.os.trans h.os, k.tape.trans h.tape, k.output.trans h.output, Nat.le_trans h.size k.size, fun j hj hne => (k.block j (by omega)).trans (h.block j hj hne)⟩

/-! ### a text -/
def styl (s b : Int) : Int := if s = 1 then b % 2 else if s = 2 then 97 + b % 4 else b
theorem styl_bd (s b : Int) (h0 : 0 ≤ b) (h1 : b ≤ 255) : 0 ≤ styl s b ∧ styl s b ≤ 255 := by unfold styl; split <;> (try split) <;> omega
def tByte (bs : List Int) (s : Int) (c : Cu) : UInt8 := UInt8.ofNat (styl s (cByte bs c)).toNat
theorem tByte_toNat (bs : List Int) (s : Int) (c : Cu) : ((tByte bs s c).toNat : Int) = styl s (cByte bs c) := by
  have h := cByte_bd bs c
  have h2 := styl_bd s _ h.1 h.2
  simp [tByte]; omega
def tLoop (bs : List Int) (s : Int) : Nat → Cu → List UInt8
  | 0, _ => []
  | n + 1, c => tByte bs s c :: tLoop bs s n (aByte bs c)
def tCur (bs : List Int) : Nat → Cu → Cu
  | 0, c => c
  | n + 1, c => tCur bs n (aByte bs c)
def cText (bs : List Int) (m : Int) (c : Cu) : List UInt8 := tLoop bs (cBelow bs 4 c) (cBelow bs (m + 1) (aBelow bs 4 c)).toNat (aBelow bs (m + 1) (aBelow bs 4 c))
def aText (bs : List Int) (m : Int) (c : Cu) : Cu := tCur bs (cBelow bs (m + 1) (aBelow bs 4 c)).toNat (aBelow bs (m + 1) (aBelow bs 4 c))
theorem length_tLoop (bs : List Int) (s : Int) : ∀ (n : Nat) (c : Cu), (tLoop bs s n c).length = n
  | 0, _ => rfl
  | n + 1, c => by simp [tLoop, length_tLoop bs s n]
theorem cText_len (bs : List Int) (m : Int) (c : Cu) (h : 0 ≤ m) : ((cText bs m c).length : Int) ≤ m := by
  have := cBelow_bd bs (m + 1) (aBelow bs 4 c) (by omega)
  rw [cText, length_tLoop]
  omega

/-! ### a text with a byte turned, dropped or added -/
def oneB (x : Int) : UInt8 := UInt8.ofNat x.toNat
theorem oneB_toNat (x : Int) (h0 : 0 ≤ x) (h1 : x ≤ 255) : ((oneB x).toNat : Int) = x := by simp [oneB]; omega
/-- the byte at k, turned -/
def turnB (z : Nat) (y : Int) : Int := bits .xor .i64 (z : Int) (1 + y) % 256
theorem turnB_bd (z : Nat) (y : Int) : 0 ≤ turnB z y ∧ turnB z y ≤ 255 := by unfold turnB; omega
def cSpoil (bs : List Int) (l : List UInt8) (c : Cu) : List UInt8 :=
  if l.length = 0 then cText bs 3 c
  else if cBelow bs 4 (aBelow bs l.length c) = 0 then l.take (cBelow bs l.length c).toNat ++ l.drop ((cBelow bs l.length c).toNat + 1)
  else if cBelow bs 4 (aBelow bs l.length c) = 1 then l.take (cBelow bs l.length c).toNat ++ [oneB (cByte bs (aBelow bs 4 (aBelow bs l.length c)))] ++ l.drop (cBelow bs l.length c).toNat
  else if cBelow bs 4 (aBelow bs l.length c) = 2 then l.take (cBelow bs l.length c).toNat
  else l.take (cBelow bs l.length c).toNat ++ [oneB (turnB (l[(cBelow bs l.length c).toNat]?.getD 0).toNat (cBelow bs 255 (aBelow bs 4 (aBelow bs l.length c))))] ++ l.drop ((cBelow bs l.length c).toNat + 1)
theorem cSpoil_len (bs : List Int) (l : List UInt8) (c : Cu) : (cSpoil bs l c).length ≤ l.length + 3 := by
  unfold cSpoil
  split
  · have := cText_len bs 3 c (by omega); omega
  · split
    · simp; omega
    · split
      · simp; omega
      · split
        · simp; omega
        · simp; omega

/-! ### a new cursor -/
def hStep (h z : Int) : Int := bits .and .i64 (h * 131 + z + 7) 1073741823
def nH (l : List Int) (h : Int) : Int := l.foldl hStep h
theorem nH_snoc (l : List Int) (z h : Int) : nH (l ++ [z]) h = hStep (nH l h) z := by simp [nH]
theorem hStep_bd (h z : Int) : 0 ≤ hStep h z ∧ hStep h z ≤ 1073741823 := by
  show 0 ≤ IntKind.i64.wrap ((BitVec.ofInt 64 (h * 131 + z + 7) &&& BitVec.ofInt 64 1073741823).toNat : Int) ∧ IntKind.i64.wrap ((BitVec.ofInt 64 (h * 131 + z + 7) &&& BitVec.ofInt 64 1073741823).toNat : Int) ≤ 1073741823
  have hh : (BitVec.ofInt 64 (h * 131 + z + 7) &&& BitVec.ofInt 64 1073741823).toNat ≤ 1073741823 := by
    rw [BitVec.toNat_and]
    exact Nat.and_le_right
  rw [IntKind.wrap_i64]
  omega
theorem nH_bd : ∀ (l : List Int) (h : Int), 0 ≤ h → h ≤ 1073741823 → 0 ≤ nH l h ∧ nH l h ≤ 1073741823
  | [], h, h0, h1 => ⟨h0, h1⟩
  | z :: r, h, _, _ => by
    have := hStep_bd h z
    exact nH_bd r (hStep h z) this.1 this.2
def newC (bs : List Int) : Cu := (0, nH (bs.take 4000) (10101 + (bs.length : Int)))
theorem take_snocI (l : List Int) (k : Nat) (h : k < l.length) : l.take (k + 1) = l.take k ++ [l[k]?.getD 0] := by
  rw [List.take_succ_eq_append_getElem h, List.getElem?_eq_getElem h]; rfl
end Go.Proofs.Ytphfakdbgohhgaa
