/-
  Contract of spec.l1Byte: the next byte of a cursor.
-/
import Derived.Test.YtncfodifcgjicaaDoorDraw
import Derived.Test.YtncfodifcgjicaaDoorSmallI
import Derived.Deep.QuietTactic
import Derived.BigQuiet
namespace Go.Proofs.YtncfodifcgjicaaDoor
open Go.ChangeShapes Go.WideShapes Go.ChangeAt Go.RowKit

def DrawPost (g : Nat) (sv : Value) (w : World) (x : Value) (c : Cu) (e : Ending) (w' : World) : Prop :=
  e = .returned x ∧ CurAt 53 w' g sv c ∧ Turned g w w'

set_option maxRecDepth 20000 in
theorem l1Byte_in (g b off len cap : Nat) (i : Nat) (h : Int) (bs : List Int) (w : World) (hl : bs.length = len) (hi : i < len) (hm : len ≤ 1048576)
    (hc : CurAt 53 w g (.slice (some ⟨b, off, none⟩) len cap) (i, h)) (hcell : w.cell? ⟨b, off + i, none⟩ = some (.int .u8 (bs[i]?.getD 0))) (hne : b ≠ g) (hz : 0 ≤ bs[i]?.getD 0 ∧ bs[i]?.getD 0 ≤ 255) :
    Calls Tryd.prog 31 #[.pointer (some ⟨g, 0, none⟩)] w (DrawPost g (.slice (some ⟨b, off, none⟩) len cap) w (.int .i64 (cByte bs (i, h))) (aByte bs (i, h))) := by
  obtain ⟨c0, c1, c2⟩ := hc.cells
  have f1 := hc.frozen 1
  have f2 := hc.frozen 2
  have HC := hide hc
  have HL := hide hl
  clear hc hl
  dsimp only at c1 c2
  go_enter Tryd.func31, Tryd.ntmps31
  go_wp2
  go_quiet (fail)
  go_wp2
  go_quiet (fail)
  go_wp2
  go_quiet (fail)
  go_wp2
  go_ret
  have e1 : cByte bs (i, h) = addB (mixH (nextH h)) (bs[i]?.getD 0) := by rw [cByte, if_pos (by rw [HL.out]; exact hi)]
  have e2 : aByte bs (i, h) = (i + 1, nextH h) := by rw [aByte, if_pos (by rw [HL.out]; exact hi)]
  rw [e1, e2]
  exact ⟨rfl, (HC.out.set2 (nextH h)).set1 (i + 1), ((Turned.set g w 2 _).drewN _).trans (Turned.set g _ 1 _)⟩

set_option maxRecDepth 20000 in
theorem l1Byte_out (g : Nat) (a : Option Addr) (len cap : Nat) (i : Nat) (h : Int) (bs : List Int) (w : World) (hl : bs.length = len) (hi : ¬ i < len) (_hm : len ≤ 1048576) (_him : i ≤ 1048576)
    (hc : CurAt 53 w g (.slice a len cap) (i, h)) :
    Calls Tryd.prog 31 #[.pointer (some ⟨g, 0, none⟩)] w (DrawPost g (.slice a len cap) w (.int .i64 (cByte bs (i, h))) (aByte bs (i, h))) := by
  obtain ⟨c0, c1, c2⟩ := hc.cells
  have f1 := hc.frozen 1
  have f2 := hc.frozen 2
  have HC := hide hc
  have HL := hide hl
  clear hc hl
  dsimp only at c1 c2
  go_enter Tryd.func31, Tryd.ntmps31
  go_wp2
  go_quiet (fail)
  go_wp2
  go_quiet (fail)
  go_wp2
  go_ret
  have e1 : cByte bs (i, h) = mixH (nextH h) := by rw [cByte, if_neg (by rw [HL.out]; exact hi)]
  have e2 : aByte bs (i, h) = (i, nextH h) := by rw [aByte, if_neg (by rw [HL.out]; exact hi)]
  rw [e1, e2]
  exact ⟨rfl, HC.out.set2 (nextH h), ((Turned.set g w 2 _).drewN _).drewN _⟩

/-- What goes from draw to draw: the cursor in block g, over the bytes bs in old memory (below block B). -/
structure Cursor (B g : Nat) (a : Option Addr) (cap : Nat) (bs : List Int) (w : World) (c : Cu) : Prop where
  cur : CurAt 53 w g (.slice a bs.length cap) c
  code : CodeAt B w a bs
  le : B ≤ g
  many : bs.length ≤ 1048576
  used : c.1 ≤ bs.length
theorem Cursor.lt {B g : Nat} {a : Option Addr} {cap : Nat} {bs : List Int} {w : World} {c : Cu} (h : Cursor B g a cap bs w c) : g < w.heap.size := h.cur.lt
theorem Cursor.turn {B g : Nat} {a : Option Addr} {cap : Nat} {bs : List Int} {w w' : World} {c c' : Cu} (h : Cursor B g a cap bs w c) (hc : CurAt 53 w' g (.slice a bs.length cap) c') (ht : Turned g w w') (hu : c'.1 ≤ bs.length) : Cursor B g a cap bs w' c' :=
  ⟨hc, ht.code h.le (by have := h.lt; have := h.le; omega) h.code, h.le, h.many, hu⟩
/-- Whatever leaves the cursor's block and the old memory as they were. -/
theorem Cursor.keep {B g : Nat} {a : Option Addr} {cap : Nat} {bs : List Int} {w w' : World} {c : Cu} (h : Cursor B g a cap bs w c) (hb : Below (g + 1) w w') : Cursor B g a cap bs w' c :=
  ⟨h.cur.of_block (hb.block g (by omega)), h.code.keep (fun k hk => hb.block k (by have := h.le; omega)), h.le, h.many, h.used⟩

theorem Cursor.drew {B g : Nat} {a : Option Addr} {cap : Nat} {bs : List Int} {w : World} {c : Cu} (h : Cursor B g a cap bs w c) : Cursor B g a cap bs w.drew c := ⟨h.cur, h.code, h.le, h.many, h.used⟩

/-- A draw: its value, the cursor behind it, and what it did to memory. -/
def Drew (B g : Nat) (a : Option Addr) (cap : Nat) (bs : List Int) (w : World) (x : Value) (c : Cu) (e : Ending) (w' : World) : Prop :=
  e = .returned x ∧ Cursor B g a cap bs w' c ∧ Turned g w w'

theorem l1Byte_any {B g : Nat} {a : Option Addr} {cap : Nat} {bs : List Int} {w : World} {c : Cu} (h : Cursor B g a cap bs w c) :
    Calls Tryd.prog 31 #[.pointer (some ⟨g, 0, none⟩)] w (Drew B g a cap bs w (.int .i64 (cByte bs c)) (aByte bs c)) := by
  obtain ⟨i, hh⟩ := c
  by_cases hi : i < bs.length
  · obtain ⟨b, off, rfl, hb, hc⟩ := h.code.2 (by omega)
    have hz := h.code.1 (bs[i]) (List.getElem_mem hi)
    refine (l1Byte_in g b off bs.length cap i hh bs w rfl hi h.many h.cur (hc i hi) (by have := h.le; omega) (by simpa [hi] using hz)).mono ?_
    rintro e w' ⟨rfl, h1, h2⟩
    exact ⟨rfl, h.turn h1 h2 (aByte_le bs _ h.used), h2⟩
  · refine (l1Byte_out g a bs.length cap i hh bs w rfl hi h.many (Nat.le_trans h.used h.many) h.cur).mono ?_
    rintro e w' ⟨rfl, h1, h2⟩
    exact ⟨rfl, h.turn h1 h2 (aByte_le bs _ h.used), h2⟩
end Go.Proofs.YtncfodifcgjicaaDoor
