/-
  Texts of this proof, put together: WriA, WriB, WriC.
-/
import Derived.Test.YtdlkgpobjacgeaaDoorPackAK
import Derived.Test.YtdlkgpobjacgeaaDoorPackAI
import Derived.Test.YtdlkgpobjacgeaaDoorPackAH
import Derived.Test.YtdlkgpobjacgeaaDoorPackAL
import Derived.Test.YtdlkgpobjacgeaaDoorPackAE
import Derived.Test.YtdlkgpobjacgeaaDoorPackAM
import Derived.Lib.AppendStr

/-
  Writers of texts and of blocks: what lies in their block, and which blocks a write may turn.
-/
namespace Go.Proofs.YtdlkgpobjacgeaaDoor
open Go.ChangeShapes Go.WideShapes Go.ChangeAt Go.RowKit

/-- of what was there, block g and rows of bytes may have turned, and nothing below g -/
structure Bent (g : Nat) (w w' : World) : Prop where
  below : Below g w w'
  keep : ∀ j cs T f, j ≠ g → T ≠ 5 → w.heap[j]? = some (.cells cs T f) → w'.heap[j]? = some (.cells cs T f)
theorem Bent.refl (g : Nat) (w : World) : Bent g w w := ⟨Below.refl _ _, fun _ _ _ _ _ _ h => h⟩
theorem Bent.trans {g : Nat} {a b c : World} (h : Bent g a b) (k : Bent g b c) : Bent g a c := ⟨h.below.trans k.below, fun j cs T f h1 h2 h3 => k.keep j cs T f h1 h2 (h.keep j cs T f h1 h2 h3)⟩
theorem Bent.of_below {g B : Nat} {w w' : World} (h : Below B w w') (hB : w.heap.size ≤ B) (hg : g ≤ B) : Bent g w w' :=
  ⟨h.mono hg, fun j _ _ _ _ _ h3 => (h.block j (Nat.lt_of_lt_of_le (Array.getElem?_eq_some_iff.1 h3).1 hB)).trans h3⟩
theorem Bent.set (g o : Nat) (w : World) (v : Value) : Bent g w (w.setCell ⟨g, o, none⟩ v) :=
  ⟨(Below.refl g w).setCell (p := ⟨g, o, none⟩) (Nat.le_refl g) v, fun j _ _ _ h1 _ h3 => (heap_setCell_other w ⟨g, o, none⟩ j v h1).trans h3⟩
theorem Owns8.lt {B : Nat} {w : World} {v : Value} {l : List UInt8} (h : Owns8 B w v l) : ∀ k, v.ownBlock = some k → B ≤ k ∧ k < w.heap.size := World.ownsRow.lt h
theorem Owns8.type {B : Nat} {w : World} {v : Value} {l : List UInt8} (h : Owns8 B w v l) : ∀ k, v.ownBlock = some k → ∃ cs, w.heap[k]? = some (.cells cs 5 (0, 0)) := by
  intro k hk
  obtain ⟨_, ⟨rfl, _⟩ | ⟨g, cap, cur, rfl, _, hh, _⟩⟩ := h
  · cases hk
  · injection hk with hk
    subst hk
    exact ⟨cur, hh⟩
theorem Bent.grown {g B : Nat} {w w' : World} {v : Value} {l : List UInt8} (ho : Owns8 B w v l) (hB : g + 1 ≤ B) (hg : g < w.heap.size) (h : w.grownBy w' v.ownBlock) : Bent g w w' :=
  ⟨(Below.refl g w).grown h (by omega) (fun k hk => by have := (ho.lt k hk).1; omega), fun j cs T f h1 h2 h3 =>
    (h.block j (Array.getElem?_eq_some_iff.1 h3).1 (fun e => by
      obtain ⟨cs', hc⟩ := ho.type j e.symm
      rw [hc] at h3
      injection h3 with h3
      injection h3 with h4 h5
      exact h2 h5.symm)).trans h3⟩

/-- a block writer in block g: what it has written, the key ahead, where its restarts begin -/
structure WriAt (w : World) (g : Nat) (X k : List UInt8) (P : List Nat) (v u : Value) : Prop where
  box : BoxV 118 w g #[v, .string ⟨k.toArray⟩, u]
  text : Owns8 (g + 1) w v X
  rest : OwnsW (g + 1) w u P
def Wri (w : World) (g : Nat) (X k : List UInt8) (P : List Nat) : Prop := ∃ v u, WriAt w g X k P v u
theorem row_keep {B : Nat} {w w' : World} {e : TypeId} {z : Nat} {v : Value} {n : Nat} {xs : List Value} (h : w.ownsRow B e z v n xs) (hk : ∀ j, v.ownBlock = some j → B ≤ j → j < w.heap.size → w'.heap[j]? = w.heap[j]?) : w'.ownsRow B e z v n xs := by
  obtain ⟨hl, ⟨rfl, h0⟩ | ⟨g, cap, cur, rfl, hg, hh, hr⟩⟩ := h
  · exact ⟨hl, .inl ⟨rfl, h0⟩⟩
  · exact ⟨hl, .inr ⟨g, cap, cur, rfl, hg, (hk g rfl hg (Array.getElem?_eq_some_iff.1 hh).1).trans hh, hr⟩⟩
theorem OwnsW.type {B : Nat} {w : World} {v : Value} {L : List Nat} (h : OwnsW B w v L) : ∀ k, v.ownBlock = some k → B ≤ k ∧ ∃ cs, w.heap[k]? = some (.cells cs 3 (0, 0)) := by
  intro k hk
  obtain ⟨_, ⟨rfl, _⟩ | ⟨g, cap, cur, rfl, hg, hh, _⟩⟩ := h
  · cases hk
  · injection hk with hk
    subst hk
    exact ⟨hg, cur, hh⟩
/-- rows of bytes and rows of ints lie in different blocks -/
theorem apart8 {A B : Nat} {w : World} {v u : Value} {l : List UInt8} {L : List Nat} (h : Owns8 A w v l) (k : OwnsW B w u L) : ∀ j, v.ownBlock = some j → u.ownBlock = some j → False := by
  intro j h1 h2
  obtain ⟨c1, e1⟩ := h.type j h1
  obtain ⟨_, c2, e2⟩ := k.type j h2
  rw [e1] at e2
  injection e2 with e2
  injection e2 with _ e3
  exact absurd e3 (by decide)
section
variable {w w' : World} {g : Nat} {X k : List UInt8} {P : List Nat} {v u : Value}
theorem WriAt.lt (h : WriAt w g X k P v u) : g < w.heap.size := h.box.lt
theorem WriAt.kept {B : Nat} (h : WriAt w g X k P v u) (hb : Below B w w') (hB : w.heap.size ≤ B) : WriAt w' g X k P v u :=
  ⟨h.box.below hb (Nat.lt_of_lt_of_le h.lt hB), row_keep h.text fun j _ _ hj => hb.block j (by omega), row_keep h.rest fun j _ _ hj => hb.block j (by omega)⟩
theorem WriAt.alloc (h : WriAt w g X k P v u) (o : Obj) : WriAt (w.alloc o) g X k P v u := h.kept ((Below.refl w.heap.size w).alloc (Nat.le_refl _) o) (Nat.le_refl _)
theorem WriAt.drew (h : WriAt w g X k P v u) : WriAt w.drew g X k P v u := ⟨h.box, h.text, h.rest⟩
theorem WriAt.set0 (h : WriAt w g X k P v u) {v' : Value} {X' : List UInt8} (h8 : Owns8 (g + 1) w v' X') : WriAt (w.setCell ⟨g, 0, none⟩ v') g X' k P v' u :=
  ⟨h.box.set (i := 0) v', row_keep h8 fun j _ hj _ => heap_setCell_other w ⟨g, 0, none⟩ j v' (by show j ≠ g; omega), row_keep h.rest fun j _ hj _ => heap_setCell_other w ⟨g, 0, none⟩ j v' (by show j ≠ g; omega)⟩
theorem WriAt.set1 (h : WriAt w g X k P v u) (k' : List UInt8) : WriAt (w.setCell ⟨g, 1, none⟩ (.string ⟨k'.toArray⟩)) g X k' P v u :=
  ⟨h.box.set (i := 1) _, row_keep h.text fun j _ hj _ => heap_setCell_other w ⟨g, 1, none⟩ j _ (by show j ≠ g; omega), row_keep h.rest fun j _ hj _ => heap_setCell_other w ⟨g, 1, none⟩ j _ (by show j ≠ g; omega)⟩
theorem WriAt.set2 (h : WriAt w g X k P v u) {u' : Value} {P' : List Nat} (hu : OwnsW (g + 1) w u' P') : WriAt (w.setCell ⟨g, 2, none⟩ u') g X k P' v u' :=
  ⟨h.box.set (i := 2) u', row_keep h.text fun j _ hj _ => heap_setCell_other w ⟨g, 2, none⟩ j u' (by show j ≠ g; omega), row_keep hu fun j _ hj _ => heap_setCell_other w ⟨g, 2, none⟩ j u' (by show j ≠ g; omega)⟩
/-- bytes appended to the text's row: the rest stands -/
theorem WriAt.grown8 (h : WriAt w g X k P v u) (hg : w.grownBy w' v.ownBlock) {v' : Value} {X' : List UInt8} (h8 : Owns8 (g + 1) w' v' X') : BoxV 118 w' g #[v, .string ⟨k.toArray⟩, u] ∧ OwnsW (g + 1) w' u P ∧ WriAt (w'.setCell ⟨g, 0, none⟩ v') g X' k P v' u := by
  have hb : BoxV 118 w' g #[v, .string ⟨k.toArray⟩, u] := (hg.block g h.lt (fun e => by have := (h.text.lt g e.symm).1; omega)).trans h.box
  have hr : OwnsW (g + 1) w' u P := row_keep h.rest fun j hj _ hl => hg.block j hl (fun e => apart8 h.text h.rest j e.symm hj)
  exact ⟨hb, hr, hb.set (i := 0) v', row_keep h8 fun j _ hj _ => heap_setCell_other w' ⟨g, 0, none⟩ j v' (by show j ≠ g; omega), row_keep hr fun j _ hj _ => heap_setCell_other w' ⟨g, 0, none⟩ j v' (by show j ≠ g; omega)⟩
/-- a number appended to the restarts' row: the rest stands -/
theorem WriAt.grownW (h : WriAt w g X k P v u) (hg : w.grownBy w' u.ownBlock) {u' : Value} {P' : List Nat} (hu : OwnsW (g + 1) w' u' P') : BoxV 118 w' g #[v, .string ⟨k.toArray⟩, u] ∧ WriAt (w'.setCell ⟨g, 2, none⟩ u') g X k P' v u' := by
  have hb : BoxV 118 w' g #[v, .string ⟨k.toArray⟩, u] := (hg.block g h.lt (fun e => by have := (h.rest.type g e.symm).1; omega)).trans h.box
  have ht : Owns8 (g + 1) w' v X := row_keep h.text fun j hj _ hl => hg.block j hl (fun e => apart8 h.text h.rest j hj e.symm)
  exact ⟨hb, hb.set (i := 2) u', row_keep ht fun j _ hj _ => heap_setCell_other w' ⟨g, 2, none⟩ j u' (by show j ≠ g; omega), row_keep hu fun j _ hj _ => heap_setCell_other w' ⟨g, 2, none⟩ j u' (by show j ≠ g; omega)⟩
theorem Wri.kept {B : Nat} (h : Wri w g X k P) (hb : Below B w w') (hB : w.heap.size ≤ B) : Wri w' g X k P := by
  obtain ⟨v, u, h⟩ := h
  exact ⟨v, u, h.kept hb hB⟩
theorem Wri.alloc (h : Wri w g X k P) (o : Obj) : Wri (w.alloc o) g X k P := by
  obtain ⟨v, u, h⟩ := h
  exact ⟨v, u, h.alloc o⟩
theorem Wri.lt (h : Wri w g X k P) : g < w.heap.size := by
  obtain ⟨v, u, h⟩ := h
  exact h.lt
end
/-- a new writer -/
theorem Wri.new (w : World) : Wri (w.alloc (.cells #[.slice none 0 0, .string ⟨#[]⟩, .slice none 0 0] 118)) w.heap.size [] [] [] :=
  ⟨.slice none 0 0, .slice none 0 0, BoxV.new _ w _, ⟨by simp [byteVals], .inl ⟨rfl, rfl⟩⟩, ⟨by simp [wordVals], .inl ⟨rfl, rfl⟩⟩⟩

theorem Owns8.form' {B : Nat} {w : World} {v : Value} {l : List UInt8} (h : Owns8 B w v l) : ∃ a c, v = .slice a l.length c := by
  obtain ⟨_, ⟨rfl, h0⟩ | ⟨g, cap, cur, rfl, _⟩⟩ := h
  · exact ⟨none, 0, by rw [h0]⟩
  · exact ⟨_, cap, rfl⟩
theorem OwnsW.form' {B : Nat} {w : World} {v : Value} {l : List Nat} (h : OwnsW B w v l) : ∃ a c, v = .slice a l.length c := by
  obtain ⟨_, ⟨rfl, h0⟩ | ⟨g, cap, cur, rfl, _⟩⟩ := h
  · exact ⟨none, 0, by rw [h0]⟩
  · exact ⟨_, cap, rfl⟩
theorem strCells_byteVals (t : ByteArray) : Go.Lib.strCells t = byteVals (bl t) := rfl
/-- append(b, s...), b a row of bytes of the call's own -/
theorem appendText {ops : Array Oper} {rest : List Oper} {o : Oper} {a : Act} {Q : Exit → Act → World → Prop} {w : World} (hgd : o.guard = none) (s x : Operand)
    (ho : o.op = .call { callee := .builtin .append, args := #[s, x], argTypes := #[71, 9] })
    (B : Nat) (v : Value) (l : List UInt8) (t : ByteArray) (hs : a.eval s = v) (hx : a.eval x = .string t)
    (hown : Hid (Owns8 B w v l)) (hB : B ≤ w.heap.size) (hlen : l.length + t.size ≤ 1099511627776)
    (n : Nat) (hn : (l ++ bl t).length = n)
    (h : ∀ a' c' w', Hid (Owns8 B w' (.slice a' n c') (l ++ bl t)) → Hid (w.grownBy w' v.ownBlock) → wpList Tryd.prog ops Q rest (a.put o.dst (.slice a' n c')) w') :
    wpList Tryd.prog ops Q (o :: rest) a w := by
  obtain ⟨i0, hi, hz0, hz1, hz2⟩ := info_parts info8
  refine Go.Lib.wpList_append_own_string w hgd s x _ _ ho B 5 i0 Tryd.underlying71 Tryd.underlying9 hi hz0 hz1 hz2 v l.length (byteVals l) hs hown.out t hx (by unfold maxLen; omega) (by omega) hB ?_
  intro v' w' h1 h2 _
  have h3 : Owns8 B w' v' (l ++ bl t) := by
    show World.ownsRow _ _ _ _ _ _ _
    rw [List.length_append, bl_len]
    rwa [strCells_byteVals, show byteVals l ++ byteVals (bl t) = byteVals (l ++ bl t) by simp [byteVals]] at h1
  obtain ⟨a', c', rfl⟩ := h3.form'
  rw [hn] at h3 ⊢
  exact h a' c' w' h3 h2
end Go.Proofs.YtdlkgpobjacgeaaDoor

/-
  Contracts of impl's (*textWriter).size, text and write.
-/
namespace Go.Proofs.YtdlkgpobjacgeaaDoor
open Go.ChangeShapes Go.WideShapes Go.ChangeAt Go.RowKit

theorem size_any {w : World} {g : Nat} {X k : List UInt8} {P : List Nat} (hw : Wri w g X k P) :
    Calls Tryd.prog 95 #[.pointer (some ⟨g, 0, none⟩)] w fun e w' => e = .returned (.int .i64 (X.length : Int)) ∧ w = w' := by
  obtain ⟨v, u, hx, ht, hr⟩ := hw
  obtain ⟨a, c, rfl⟩ := ht.form'
  obtain ⟨c0, c1, c2⟩ := hx.three
  obtain ⟨n, hn⟩ : ∃ n, n = X.length := ⟨_, rfl⟩
  rw [← hn] at c0 ⊢
  clear hn ht hr hx
  go_enter Tryd.func95, Tryd.ntmps95
  go_wp2
  all_goals go_ret
  all_goals exact ⟨rfl, rfl⟩
theorem text_any {w : World} {g : Nat} {X k : List UInt8} {P : List Nat} (hw : Wri w g X k P) :
    Calls Tryd.prog 51 #[.pointer (some ⟨g, 0, none⟩)] w fun e w' => e = .returned (.string ⟨X.toArray⟩) ∧ w = w' := by
  obtain ⟨v, u, hx, ht, hr⟩ := hw
  obtain ⟨c0, c1, c2⟩ := hx.three
  have hcv := run_convOwn (g + 1) w v X ht
  clear ht hr hx
  go_enter Tryd.func51, Tryd.ntmps51
  go_wp2
  all_goals go_ret
  all_goals exact ⟨rfl, rfl⟩

def catL (S : List ByteArray) : List UInt8 := S.flatMap bl
theorem catL_next {S : List ByteArray} {j : Nat} {t : ByteArray} (h : S[j]? = some t) : catL (S.take (j + 1)) = catL (S.take j) ++ bl t := by
  rw [List.take_add_one, h]
  simp [catL]
def WritePost (g : Nat) (X k : List UInt8) (P : List Nat) (u : Value) (w : World) (e : Ending) (w' : World) : Prop := e = .returned (.tuple #[]) ∧ (∃ v, WriAt w' g X k P v u) ∧ Bent g w w'
set_option maxHeartbeats 1000000 in
set_option maxRecDepth 20000 in
theorem write_any (g b : Nat) (X k : List UInt8) (P : List Nat) (S : List ByteArray) (n : Nat) (w : World) {v0 u : Value} (hw : WriAt w g X k P v0 u) (hS : elStr.Holds w b S) (hn : S.length = n) (hn16 : n ≤ 16) (hs : ∀ s ∈ S, s.size ≤ 1000) (hX : X.length ≤ 1000000) :
    Calls Tryd.prog 48 #[.pointer (some ⟨g, 0, none⟩), .slice (some ⟨b, 0, none⟩) n n] w (WritePost g (X ++ catL S) k P u w) := by
  have hbg : b ≠ g := by
    rintro rfl
    have h1 : w.heap[b]? = _ := hw.box
    have h2 : w.heap[b]? = _ := hS
    rw [h1] at h2
    injection h2 with h2
    injection h2 with _ h3
    exact absurd h3 (by decide)
  have HC := hide (fun (wr : World) (hb : Bent g w wr) (j : Nat) (hj : j < S.length) => show wr.cell? ⟨b, j, none⟩ = some (.string S[j]) from by
    have h1 : elStr.Holds wr b S := hb.keep b _ _ _ hbg (by decide) hS
    have h2 := h1.cell j hj 0 (by decide)
    rwa [show j * elStr.c + 0 = j by show j * 1 + 0 = j; omega] at h2)
  have HN := hide hn
  have HS := hide hs
  have HX := hide hX
  have HW0 := hide hw
  clear hw hS hn hs hX hbg
  go_enter Tryd.func48, Tryd.ntmps48
  go_wp2_with fail
  go_loopw [8] (fun i wr => ∃ (j : Nat) (Y : List UInt8), i = .int .i64 j ∧ j ≤ n ∧ Hid (Y = X ++ catL (S.take j)) ∧ Hid (Y.length ≤ 1000000 + 1000 * j) ∧ Hid (∃ v, WriAt wr g Y k P v u) ∧ Hid (Bent g w wr)) (fun i _ => n - (intOf i).toNat)
  case atStart => exact ⟨0, X, rfl, by omega, by simp [Hid, catL], HX, hide ⟨_, HW0.out⟩, hide (Bent.refl _ _)⟩
  case round =>
    obtain ⟨j, Y, rfl, hj, HY, HL, HW, HB⟩ := hrel
    by_cases hlt : j < n
    · have hjS : j < S.length := by have := HN.out; omega
      have d0 := HC.out wr HB.out j hjS
      obtain ⟨t, ht⟩ : ∃ t, t = S[j] := ⟨_, rfl⟩
      have HT := hide (show S[j]? = some t by rw [List.getElem?_eq_getElem hjS, ht])
      have hsz := HS.out t (by rw [ht]; exact List.getElem_mem _)
      rw [← ht] at d0
      obtain ⟨v, hx⟩ := HW.out
      have hgl := hx.lt
      have HXW := hide hx
      have HO := hide hx.text
      obtain ⟨c0, c1, c2⟩ := hx.box.three
      have hlen : Y.length + t.size ≤ 1099511627776 := by have := HL.out; omega
      have HY2 := hide (show Y ++ bl t = X ++ catL (S.take (j + 1)) by rw [HY.out, catL_next HT.out, List.append_assoc])
      have HL2 := hide (show (Y ++ bl t).length ≤ 1000000 + 1000 * (j + 1) by have := HL.out; rw [List.length_append, bl_len]; omega)
      have HBG := hide (fun (w' : World) (h : wr.grownBy w' v.ownBlock) (v' : Value) (h8 : Owns8 (g + 1) w' v' (Y ++ bl t)) => show (∃ v, WriAt (w'.setCell ⟨g, 0, none⟩ v') g (Y ++ bl t) k P v u) ∧ Bent g w (w'.setCell ⟨g, 0, none⟩ v') ∧ w'.frozen? ⟨g, 0, none⟩ = false ∧ w'.cell? ⟨g, 0, none⟩ = some v ∧ g < w'.heap.size from by
        obtain ⟨h1, h2, h3⟩ := HXW.out.grown8 h h8
        exact ⟨⟨_, h3⟩, (HB.out.trans (Bent.grown HXW.out.text (Nat.le_refl _) HXW.out.lt h)).trans (Bent.set g 0 w' v'), h1.frozen 0, h1.cell 0 _ rfl, h1.lt⟩)
      obtain ⟨m, hm⟩ : ∃ m, (Y ++ bl t).length = m := ⟨_, rfl⟩
      have HM := hide hm
      clear hx ht hsz hjS hm
      go_wp2_with (at_builtin; refine appendText rfl (.tmp 16) (.tmp 17) rfl (g + 1) v Y t rfl rfl HO hgl hlen m HM.out ?_; intro a' c' w' HO' HG'; obtain ⟨p1, p2, z0, y0, hgl'⟩ := HBG.out w' HG'.out _ HO'.out; have HP1 := hide p1; have HP2 := hide p2; clear p1 p2 HG' HO' HBG)
      go_roundw
      case rel => exact ⟨j + 1, Y ++ bl t, by go_num, by omega, HY2, HL2, HP1, HP2⟩
      case measure => simp [intOf]; omega
    · have hY := hide (show Y = X ++ catL S by rw [HY.out, List.take_of_length_le (by have := HN.out; omega)])
      go_wp2_with fail
      go_end0
      exact ⟨rfl, by rw [← hY.out]; exact HW.out, HB.out⟩
/-- append(p, n) onto a row of ints of the call's own, as a step of a region that draws its order -/
theorem step_growW {ops : Array Oper} {o : Oper} {a : Act} {K : Act → World → Prop} {Q : Exit → Act → World → Prop} {E : Prop} (hgd : o.guard = none) (s x : Operand)
    (ho : o.op = .call { callee := .builtin .append, args := #[s, x], argTypes := #[76, 76] })
    (B : Nat) (wr : World) (v : Value) (l cs : List Nat) (m : Nat) (vs : Array Value) (hs : a.eval s = v) (hx : a.eval x = .slice (some ⟨wr.heap.size, 0, none⟩) m m)
    (hown : Hid (OwnsW B wr v l)) (hB : B ≤ wr.heap.size)
    (hv : vs = (wordVals .i64 cs).toArray) (hm : cs.length = m) (hlen : l.length + m ≤ 1099511627776) (n : Nat) (hn : (l ++ cs).length = n)
    (h : ∀ a' c' w', Hid (OwnsW B w' (.slice a' n c') (l ++ cs)) → Hid ((wr.alloc (.cells vs 3)).grownBy w' v.ownBlock) → K (a.put o.dst (.slice a' n c')) w') :
    if Region.wanted o (yielded ops a.tmps) = true then Oper.wp Tryd.prog o a (wr.alloc (.cells vs 3)).drew K Q else E := by
  subst hv
  have hw : Region.wanted o (yielded ops a.tmps) = true := by simp [Region.wanted, hgd]
  rw [if_pos hw]
  obtain ⟨i0, hi, hz0, hz1, hz2⟩ := info_parts infoI
  have hal : OwnsW B (wr.alloc (.cells (wordVals .i64 cs).toArray 3)) v l := World.ownsRow.alloc (h := hown.out) (o := .cells (wordVals .i64 cs).toArray 3)
  refine wp_append_own _ s x 76 ho B 3 i0 (.int .i64 0) 1 8 Tryd.underlying76 hi hz0 hz1 hz2 rfl (by decide) v l.length (wordVals .i64 l) hs (World.ownsRow.drew hal)
    ⟨wr.heap.size, 0, none⟩ m m (wordVals .i64 cs) hx (by rw [length_wordVals, hm]; omega) ?_ (wordVals_one _ cs) (by unfold maxLen; omega) (by omega) ?_ ?_
  · intro j u hj
    obtain ⟨hj', rfl⟩ := wordVals_some _ cs j u hj
    rw [addr_add0]
    exact (Words.new 3 .i64 wr cs).cell j hj'
  · show B ≤ (wr.alloc _).heap.size
    rw [Go.Deep.nblk_alloc]
    omega
  · intro v' w' h1 h2 _
    have h3 : OwnsW B w' v' (l ++ cs) := by
      show World.ownsRow _ _ _ _ _ _ _
      rw [List.length_append, hm]
      rwa [wordVals_append] at h1
    obtain ⟨a', c', rfl⟩ := h3.form'
    rw [hn] at h3 ⊢
    exact h a' c' w' h3 ⟨h2.os, h2.tape, h2.output, h2.size, h2.block⟩
end Go.Proofs.YtdlkgpobjacgeaaDoor

/-
  Contract of impl's (*blockWriter).restart.
-/
namespace Go.Proofs.YtdlkgpobjacgeaaDoor
open Go.ChangeShapes Go.WideShapes Go.ChangeAt Go.RowKit

def RestPost (g : Nat) (X k : List UInt8) (P : List Nat) (w : World) (e : Ending) (w' : World) : Prop := e = .returned (.tuple #[]) ∧ Wri w' g X k P ∧ Below g w w'
/-- of what was there, block g and rows of bytes and of ints may have turned, and nothing below g -/
structure Bent2 (g : Nat) (w w' : World) : Prop where
  below : Below g w w'
  keep : ∀ j cs T f, j ≠ g → T ≠ 5 → T ≠ 3 → w.heap[j]? = some (.cells cs T f) → w'.heap[j]? = some (.cells cs T f)
def StartPost (g : Nat) (X k : List UInt8) (P : List Nat) (w : World) (e : Ending) (w' : World) : Prop := e = .returned (.tuple #[]) ∧ Wri w' g X k P ∧ Bent2 g w w'
theorem Bent2.of_rest {g B : Nat} {W w w' : World} {u u' : Value} {L : List Nat} (h : Bent2 g w W) (hO : OwnsW B W u L) (hg : W.grownBy w' u.ownBlock) (hb : Below g w (w'.setCell ⟨g, 2, none⟩ u')) : Bent2 g w (w'.setCell ⟨g, 2, none⟩ u') :=
  ⟨hb, fun j cs T f h1 h2 h3 h4 => by
    have h5 := h.keep j cs T f h1 h2 h3 h4
    refine (heap_setCell_other w' ⟨g, 2, none⟩ j u' h1).trans ((hg.block j (Array.getElem?_eq_some_iff.1 h5).1 (fun e => ?_)).trans h5)
    obtain ⟨_, cs', hc⟩ := hO.type j e.symm
    rw [hc] at h5
    injection h5 with h5
    injection h5 with _ h6
    exact h3 h6.symm⟩
set_option maxHeartbeats 1000000 in
set_option maxRecDepth 20000 in
theorem restart_any {w : World} {g : Nat} {X k : List UInt8} {P : List Nat} (hw : Wri w g X k P) (hP : P.length ≤ 1000) :
    Calls Tryd.prog 84 #[.pointer (some ⟨g, 0, none⟩)] w (StartPost g X [] (P ++ [X.length]) w) := by
  obtain ⟨v, u, hx⟩ := hw
  obtain ⟨a, c, rfl⟩ := hx.rest.form'
  obtain ⟨c0, c1, c2⟩ := hx.box.three
  have z1 := hx.box.frozen 1
  have hgl := hx.lt
  obtain ⟨W, hW⟩ : ∃ W, W = w.setCell ⟨g, 1, none⟩ (.string ⟨#[]⟩) := ⟨_, rfl⟩
  have hx1 := hx.set1 []
  rw [← hW] at hx1
  have HBW := hide (show Below g w W by rw [hW]; exact (Below.refl g w).setCell (p := ⟨g, 1, none⟩) (Nat.le_refl g) _)
  have HX := hide hx1
  have HBE := hide (fun o => show Bent2 g w (W.alloc o) from ⟨HBW.out.alloc (Nat.le_of_lt HX.out.lt) o, fun j cs T f h1 _ _ h4 => by
    have h5 : W.heap[j]? = some (.cells cs T f) := by rw [hW]; exact (heap_setCell_other w ⟨g, 1, none⟩ j _ h1).trans h4
    exact (Below.heap_alloc W o j (Array.getElem?_eq_some_iff.1 h5).1).trans h5⟩)
  obtain ⟨n, hn⟩ : ∃ n, n = X.length := ⟨_, rfl⟩
  have HSZ := hide (fun W' (h : Wri W' g X [] P) => size_any h)
  have HS1 := hide (show Wri W g X [] P from ⟨_, _, hx1⟩)
  have HS2 := hide (show Wri W.drew g X [] P from ⟨_, _, hx1.drew⟩)
  rw [← hn] at HSZ ⊢
  obtain ⟨m, hm⟩ : ∃ m, (P ++ [n]).length = m := ⟨_, rfl⟩
  obtain ⟨p, hp⟩ : ∃ p, p = P.length := ⟨_, rfl⟩
  rw [← hp] at HX c2
  have HO := hide (HX.out.rest)
  have hlen : P.length + 1 ≤ 1099511627776 := by omega
  have HM := hide hm
  have HEnd := hide (fun (w' : World) (hg : (W.alloc (.cells #[.int .i64 (n : Int)] 3)).grownBy w' (Value.slice a p c).ownBlock) (u' : Value) (hu : OwnsW (g + 1) w' u' (P ++ [n])) => show Wri (w'.setCell ⟨g, 2, none⟩ u') g X [] (P ++ [n]) ∧ Bent2 g w (w'.setCell ⟨g, 2, none⟩ u') ∧ w'.frozen? ⟨g, 2, none⟩ = false ∧ w'.cell? ⟨g, 2, none⟩ = some (.slice a p c) ∧ g < w'.heap.size from by
    have h0 := HX.out.alloc (.cells #[.int .i64 (n : Int)] 3)
    obtain ⟨h1, h2⟩ := h0.grownW hg hu
    refine ⟨⟨_, _, h2⟩, ?_, h1.frozen 2, h1.cell 2 _ rfl, h1.lt⟩
    have h3 := HBW.out.alloc (Nat.le_of_lt HX.out.lt) (.cells #[.int .i64 (n : Int)] 3)
    refine Bent2.of_rest (B := g + 1) (HBE.out _) h0.rest hg ((h3.grown hg (Nat.le_of_lt h0.lt) (fun k hk => by have := (h0.rest.type k hk).1; omega)).setCell (p := ⟨g, 2, none⟩) (Nat.le_refl g) u'))
  clear hx hx1 hn hm hp hP
  go_enter Tryd.func84, Tryd.ntmps84
  go_upto_region 1 with (fail)
  rw [← hW]
  clear hW c0 c1 c2 z1 hgl
  obtain ⟨d0, d1, d2⟩ := HX.out.box.three
  have hgl := HX.out.lt
  go_region_law
    (first
      | (go_simp
         go_at_call 95
         refine (HSZ.out _ (by first | with_reducible exact HS1.out | with_reducible exact HS2.out)).mono ?_
         rintro e w2 ⟨rfl, rfl⟩)
      | (refine step_growW rfl (.tmp 9) (.tmp 14) rfl (g + 1) W (.slice a p c) P [n] 1 _ rfl rfl HO hgl rfl rfl hlen m HM.out ?_
         intro a' c' w' HO' HG'
         obtain ⟨p1, p2, z2, y2, hgl'⟩ := HEnd.out w' HG'.out _ HO'.out
         have HP1 := hide p1
         have HP2 := hide p2
         clear p1 p2 HG' HO'))
  all_goals
    go_wp2_with fail
    go_end0
    exact ⟨rfl, HP1.out, HP2.out⟩
end Go.Proofs.YtdlkgpobjacgeaaDoor
