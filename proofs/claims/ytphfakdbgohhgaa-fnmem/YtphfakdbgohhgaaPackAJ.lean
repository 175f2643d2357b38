/-
  Texts of this proof, put together: DrawO, DrawZ, DrawI.
-/
import Derived.Test.YtphfakdbgohhgaaPackAE
import Derived.Test.YtphfakdbgohhgaaPackAG
import Derived.Test.YtphfakdbgohhgaaPackAI
import Derived.Test.YtphfakdbgohhgaaPackAH

/-
  Draws of which only 'some value' is said.
-/
namespace Go.Proofs.Ytphfakdbgohhgaa
open Go.ChangeShapes Go.WideShapes Go.ChangeAt Go.RowKit

/-- the cursor stands somewhere -/
def CurS (B g : Nat) (a : Option Addr) (cap : Nat) (bs : List Int) (w : World) : Prop := ∃ c, Cursor B g a cap bs w c
section
variable {B g : Nat} {a : Option Addr} {cap : Nat} {bs : List Int} {w w' : World}
theorem CurS.lt (h : CurS B g a cap bs w) : g < w.heap.size := by obtain ⟨c, h⟩ := h; exact h.lt
theorem CurS.keep (h : CurS B g a cap bs w) (hb : Below (g + 1) w w') : CurS B g a cap bs w' := by obtain ⟨c, h⟩ := h; exact ⟨c, h.keep hb⟩
theorem CurS.le (h : CurS B g a cap bs w) : B ≤ g := by obtain ⟨c, h⟩ := h; exact h.le
theorem Turned.grown {o : Option Nat} {W W' : World} (h : Turned g w W) (k : W.grownBy W' o) (ho : ∀ i, o = some i → w.heap.size ≤ i) : Turned g w W' :=
  ⟨k.os.trans h.os, k.tape.trans h.tape, k.output.trans h.output, Nat.le_trans h.size k.size, fun j hj hne => (k.block j (Nat.lt_of_lt_of_le hj h.size) (fun e => by have := ho j e.symm; omega)).trans (h.block j hj hne)⟩
theorem El.Owns.turned {α : Type} {e : El α} {D : Nat} {v : Value} {L : List α} (h : e.Owns D w v L) (ht : Turned g w w') (hg : g < D) : e.Owns D w' v L := by
  obtain ⟨hl, ⟨rfl, h0⟩ | ⟨k, c, cur, rfl, hk, hh, hr⟩⟩ := h
  · exact ⟨hl, .inl ⟨rfl, h0⟩⟩
  · exact ⟨hl, .inr ⟨k, c, cur, rfl, hk, (ht.block k (Array.getElem?_eq_some_iff.1 hh).1 (fun e => by have := Option.some.inj e; omega)).trans hh, hr⟩⟩
theorem below_some (n : Nat) (h0 : 0 < n) (hn : n ≤ 1099511627776) (h : CurS B g a cap bs w) :
    Calls Try.prog 52 #[.pointer (some ⟨g, 0, none⟩), .int .i64 n] w fun e w' => ∃ x : Nat, x < n ∧ e = .returned (.int .i64 x) ∧ CurS B g a cap bs w' ∧ Turned g w w' := by
  obtain ⟨c, h⟩ := h
  refine (l1Below_any (n : Int) (by omega) h).mono ?_
  rintro e w' ⟨rfl, h1, h2⟩
  have := cBelow_bd bs n c (by omega)
  exact ⟨(cBelow bs n c).toNat, by omega, by rw [Int.toNat_of_nonneg this.1], ⟨_, h1⟩, h2⟩
theorem once_some (n : Int) (hn : n ≤ 1099511627776) (h : CurS B g a cap bs w) :
    Calls Try.prog 54 #[.pointer (some ⟨g, 0, none⟩), .int .i64 n] w fun e w' => ∃ b, e = .returned (.bool b) ∧ CurS B g a cap bs w' ∧ Turned g w w' := by
  obtain ⟨c, h⟩ := h
  refine (l1Once_any n hn h).mono ?_
  rintro e w' ⟨rfl, h1, h2⟩
  exact ⟨_, rfl, ⟨_, h1⟩, h2⟩
theorem text_some (m : Nat) (hm : m ≤ 1000) (h : CurS B g a cap bs w) :
    Calls Try.prog 53 #[.pointer (some ⟨g, 0, none⟩), .int .i64 m] w fun e w' => ∃ l : List UInt8, l.length ≤ m ∧ e = .returned (.string ⟨l.toArray⟩) ∧ CurS B g a cap bs w' ∧ Turned g w w' := by
  obtain ⟨c, h⟩ := h
  refine (l1Text_any (m : Int) (by omega) (by omega) h).mono ?_
  rintro e w' ⟨rfl, h1, h2⟩
  have := cText_len bs m c (by omega)
  exact ⟨_, by omega, rfl, ⟨_, h1⟩, h2⟩
end
end Go.Proofs.Ytphfakdbgohhgaa

/-
  Contracts of spec.l1Pick and l7Key.
-/
namespace Go.Proofs.Ytphfakdbgohhgaa
open Go.ChangeShapes Go.WideShapes Go.ChangeAt Go.RowKit

section
variable {B g : Nat} {a : Option Addr} {cap : Nat} {bs : List Int} {w w' : World}
theorem pick_some (N n : Nat) (ss : List ByteArray) (h0 : 0 < n) (hn : n ≤ 1048576) (hs : ss.length = n) (hN : N < w.heap.size) (hg : N ≠ g)
    (hcell : ∀ j (hj : j < ss.length), w.cell? ⟨N, j, none⟩ = some (.string ss[j])) (h : CurS B g a cap bs w) :
    Calls Try.prog 62 #[.pointer (some ⟨g, 0, none⟩), .slice (some ⟨N, 0, none⟩) n n] w fun e w' => ∃ s, s ∈ ss ∧ e = .returned (.string s) ∧ CurS B g a cap bs w' ∧ Turned g w w' := by
  have HB := hide (below_some n h0 (by omega) h)
  have HC := hide hcell
  have HS := hide hs
  clear h hcell hs
  go_enter Try.func62, Try.ntmps62
  go_wp2_with fail
  refine HB.out.mono ?_
  rintro e w1 ⟨x, hx, rfl, hc1, ht1⟩
  have hxs : x < ss.length := by rw [HS.out]; exact hx
  obtain ⟨s, hs⟩ : ∃ s, s = ss[x] := ⟨_, rfl⟩
  have d0 := (ht1.cell (p := ⟨N, x, none⟩) hN hg).trans (HC.out x hxs)
  rw [← hs] at d0
  have HM := hide (show s ∈ ss by rw [hs]; exact List.getElem_mem _)
  have HC1 := hide hc1
  have HT1 := hide ht1
  clear hc1 ht1 hs hxs HB HC
  go_wp2_with fail
  go_ret
  exact ⟨s, HM.out, rfl, HC1.out, HT1.out⟩
/-- a row of strings just laid, as a pick reads it -/
theorem strs_new (w : World) (vs : Array Value) (ss : List ByteArray) (hv : vs = (ss.map Value.string).toArray) (j : Nat) (hj : j < ss.length) : (w.alloc (.cells vs 9)).cell? ⟨w.heap.size, j, none⟩ = some (.string ss[j]) := by
  subst hv
  rw [World.cell?_alloc_mark]
  simp [hj]
theorem pick_new (n : Nat) (vs : Array Value) (ss : List ByteArray) (hv : vs = (ss.map Value.string).toArray) (h0 : 0 < n) (hn : n ≤ 1048576) (hs : ss.length = n) (h : CurS B g a cap bs w) :
    Calls Try.prog 62 #[.pointer (some ⟨g, 0, none⟩), .slice (some ⟨w.heap.size, 0, none⟩) n n] (w.alloc (.cells vs 9)) fun e w' => ∃ s, s ∈ ss ∧ e = .returned (.string s) ∧ CurS B g a cap bs w' ∧ Turned g w w' := by
  have hlt := h.lt
  have hb := (Below.refl w.heap.size w).alloc (Nat.le_refl _) (.cells vs 9)
  refine (pick_some w.heap.size n ss h0 hn hs (by simp) (by omega) (fun j hj => strs_new w vs ss hv j hj) (h.keep (hb.mono hlt))).mono ?_
  rintro e w' ⟨s, h1, h2, h3, h4⟩
  exact ⟨s, h1, h2, h3, (Turned.of_below hb (Nat.le_refl _)).trans h4⟩
theorem l7Key_some (h : CurS B g a cap bs w) :
    Calls Try.prog 51 #[.pointer (some ⟨g, 0, none⟩)] w fun e w' => ∃ s : ByteArray, e = .returned (.string s) ∧ CurS B g a cap bs w' ∧ Turned g w w' := by
  have H := hide h
  clear h
  go_enter Try.func51, Try.ntmps51
  go_wp2_with fail
  refine (pick_new 8 _ [⟨#[97]⟩, ⟨#[98]⟩, ⟨#[97, 98]⟩, ⟨#[97, 98, 99]⟩, ⟨#[98, 48]⟩, ⟨#[99]⟩, ⟨#[0]⟩, ⟨#[122, 122]⟩] rfl (by omega) (by omega) rfl H.out).mono ?_
  rintro e w1 ⟨s, _, rfl, hc1, ht1⟩
  have HC1 := hide hc1
  have HT1 := hide ht1
  clear hc1 ht1
  go_wp2_with fail
  go_ret
  exact ⟨s, rfl, HC1.out, HT1.out⟩
end
end Go.Proofs.Ytphfakdbgohhgaa

/-
  Contract of spec.l1PickInt, of which only 'some number of the row' is said.
-/
namespace Go.Proofs.Ytphfakdbgohhgaa
open Go.ChangeShapes Go.WideShapes Go.ChangeAt Go.RowKit

theorem pickInt_new {B g : Nat} {a : Option Addr} {cap : Nat} {bs : List Int} {w : World} (n : Nat) (vs : Array Value) (zs : List Int) (hv : vs = (zs.map (Value.int .i64)).toArray) (h0 : 0 < n) (hn : n ≤ 1048576) (hs : zs.length = n) (h : CurS B g a cap bs w) :
    Calls Try.prog 84 #[.pointer (some ⟨g, 0, none⟩), .slice (some ⟨w.heap.size, 0, none⟩) n n] (w.alloc (.cells vs 3)) fun e w' => ∃ z : Int, e = .returned (.int .i64 z) ∧ CurS B g a cap bs w' ∧ Turned g w w' := by
  subst hv hs
  obtain ⟨c, h⟩ := h
  have hlt := h.lt
  have hb := (Below.refl w.heap.size w).alloc (Nat.le_refl _) (.cells (zs.map (Value.int .i64)).toArray 3)
  refine (l1PickInt_any w.heap.size zs.length zs h0 hn (by simp) (by omega) (fun j hj => ints_new 3 w zs j hj) (h.keep (hb.mono hlt))).mono ?_
  rintro e w' ⟨rfl, h3, h4⟩
  exact ⟨_, rfl, ⟨_, h3⟩, (Turned.of_below hb (Nat.le_refl _)).trans h4⟩
end Go.Proofs.Ytphfakdbgohhgaa
