/-
  A block device that is drawn: what goes from draw to draw beside the cursor.
-/
import Derived.Test.YtnbaffdonbnocaaDrawP
import Derived.Test.YtnbaffdonbnocaaDrawT
import Derived.Test.YtnbaffdonbnocaaDevH
namespace Go.Proofs.Ytnbaffdonbnocaa
open Go.ChangeShapes Go.WideShapes Go.ChangeAt Go.RowKit

theorem BoxB.turned {T : TypeId} {w w' : World} {g b : Nat} {v0 v1 v2 : Value} (h : BoxB T w b v0 v1 v2) (ht : Turned g w w') (hne : b ≠ g) : BoxB T w' b v0 v1 v2 :=
  (ht.block b h.lt (fun e => hne (Option.some.inj e))).trans h
theorem OwnsS.turned {B : Nat} {w w' : World} {g : Nat} {v : Value} {L : List Slot} (h : OwnsS B w v L) (ht : Turned g w w') (hB : g < B) : OwnsS B w' v L :=
  h.keep fun k hk hlt => ht.block k hlt (fun e => by have := Option.some.inj e; omega)
theorem OwnsT.turned {B : Nat} {w w' : World} {g : Nat} {v : Value} {S : List ByteArray} (h : OwnsT B w v S) (ht : Turned g w w') (hB : g < B) : OwnsT B w' v S :=
  h.keep fun k hk hlt => ht.block k hlt (fun e => by have := Option.some.inj e; omega)

/-- the cursor in block g; the result's box gr; the device's box g3: sectors and cached writes of the call's own, a count -/
structure DS (B g : Nat) (a : Option Addr) (cap : Nat) (bs : List Int) (w : World) (gr g3 : Nat) (v : Value) (S : List ByteArray) (u : Value) (L : List Slot) (x : Int) (c : Cu) (W : World) : Prop where
  cur : Cursor B g a cap bs W c
  turned : Turned g w W
  res : BoxB 27 W gr (.slice none 0 0) (.slice none 0 0) (.int .i64 0)
  dev : BoxB 27 W g3 v u (.int .i64 x)
  ownT : OwnsT w.heap.size W v S
  ownS : OwnsS w.heap.size W u L
  lg : g < w.heap.size
  lr : w.heap.size ≤ gr
  l3 : gr < g3

section
variable {B g : Nat} {a : Option Addr} {cap : Nat} {bs : List Int} {w : World} {gr g3 : Nat} {v : Value} {S : List ByteArray} {u : Value} {L : List Slot} {x : Int} {c c' : Cu} {W W' : World}
theorem DS.turn (h : DS B g a cap bs w gr g3 v S u L x c W) (hc : Cursor B g a cap bs W' c') (ht : Turned g W W') : DS B g a cap bs w gr g3 v S u L x c' W' := by
  have h1 := h.lg
  have h2 := h.lr
  have h3 := h.l3
  exact ⟨hc, h.turned.trans ht, h.res.turned ht (by omega), h.dev.turned ht (by omega), h.ownT.turned ht h1, h.ownS.turned ht h1, h1, h2, h3⟩
theorem DS.below (h : DS B g a cap bs w gr g3 v S u L x c W) (hb : Below W.heap.size W W') : DS B g a cap bs w gr g3 v S u L x c W' :=
  ⟨h.cur.keep (hb.mono h.cur.lt), h.turned.then_below hb h.turned.size, h.res.below hb h.res.lt, h.dev.below hb h.dev.lt, h.ownT.below hb (Nat.le_refl _), h.ownS.below hb (Nat.le_refl _), h.lg, h.lr, h.l3⟩
theorem DS.alloc (h : DS B g a cap bs w gr g3 v S u L x c W) (o : Obj) : DS B g a cap bs w gr g3 v S u L x c (W.alloc o) := h.below ((Below.refl _ _).alloc (Nat.le_refl _) _)
theorem DS.drew (h : DS B g a cap bs w gr g3 v S u L x c W) : DS B g a cap bs w gr g3 v S u L x c W.drew := ⟨h.cur.drew, h.turned.drew, h.res, h.dev, h.ownT, h.ownS, h.lg, h.lr, h.l3⟩
/-- a store into the device's box -/
theorem DS.set {o : Nat} {q : Value} (h : DS B g a cap bs w gr g3 v S u L x c W) {v' : Value} {S' : List ByteArray} {u' : Value} {L' : List Slot} {x' : Int} (hd : BoxB 27 (W.setCell ⟨g3, o, none⟩ q) g3 v' u' (.int .i64 x')) (ht : OwnsT w.heap.size W v' S') (ho : OwnsS w.heap.size W u' L') :
    DS B g a cap bs w gr g3 v' S' u' L' x' c (W.setCell ⟨g3, o, none⟩ q) := by
  have h1 := h.lg
  have h2 := h.lr
  have h3 := h.l3
  exact ⟨h.cur.keep ((Below.refl _ _).setCell (show g + 1 ≤ g3 by omega) _), ⟨h.turned.os, h.turned.tape, h.turned.output, by simpa using h.turned.size, fun k hk hn => (heap_setCell_other W ⟨g3, o, none⟩ k q (by show k ≠ g3; omega)).trans (h.turned.block k hk hn)⟩,
    h.res.set_other (show g3 ≠ gr by omega) _, hd, ht.set_ne (fun k e => ht.offBox h.dev k e) _, ho.set_ne (fun k e => ho.offBox h.dev k e) _, h1, h2, h3⟩
/-- a whole device is stored into the box -/
theorem DS.take3 (h : DS B g a cap bs w gr g3 v S u L x c W) {v' : Value} {S' : List ByteArray} {u' : Value} {L' : List Slot} {x' : Int} (ht : OwnsT w.heap.size W v' S') (ho : OwnsS w.heap.size W u' L') :
    DS B g a cap bs w gr g3 v' S' u' L' x' c (((W.setCell ⟨g3, 0, none⟩ v').setCell ⟨g3, 1, none⟩ u').setCell ⟨g3, 2, none⟩ (.int .i64 x')) := by
  have h1 := h.set (v' := v') (S' := S') (h.dev.set0 v') ht h.ownS
  have h2 := h1.set (u' := u') (L' := L') (h1.dev.set1 u') h1.ownT (ho.set_ne (fun k e => ho.offBox h.dev k e) _)
  exact h2.set (h2.dev.set2 (.int .i64 x')) h2.ownT h2.ownS
/-- block q is younger than all that DS speaks of -/
def Fresh (w : World) (gr g3 q : Nat) : Prop := w.heap.size ≤ q ∧ gr < q ∧ g3 < q
theorem DS.fresh (h : DS B g a cap bs w gr g3 v S u L x c W) : Fresh w gr g3 W.heap.size := ⟨h.turned.size, h.res.lt, h.dev.lt⟩
/-- a store into another device's box -/
theorem DS.put (h : DS B g a cap bs w gr g3 v S u L x c W) {q : Nat} {v0 v1 v2 : Value} (hf : Fresh w gr g3 q) (hz : BoxB 27 W q v0 v1 v2) (o : Nat) (z : Value) : DS B g a cap bs w gr g3 v S u L x c (W.setCell ⟨q, o, none⟩ z) := by
  have h1 := h.lg
  obtain ⟨f1, f2, f3⟩ := hf
  exact ⟨h.cur.keep ((Below.refl _ _).setCell (show g + 1 ≤ q by omega) _), ⟨h.turned.os, h.turned.tape, h.turned.output, by simpa using h.turned.size, fun k hk hn => (heap_setCell_other W ⟨q, o, none⟩ k z (by show k ≠ q; omega)).trans (h.turned.block k hk hn)⟩,
    h.res.set_other (show q ≠ gr by omega) _, h.dev.set_other (show q ≠ g3 by omega) _, h.ownT.set_ne (h.ownT.offBox hz) _, h.ownS.set_ne (h.ownS.offBox hz) _, h.lg, h.lr, h.l3⟩
theorem DS.put3 (h : DS B g a cap bs w gr g3 v S u L x c W) {q : Nat} {v0 v1 v2 : Value} (hf : Fresh w gr g3 q) (hz : BoxB 27 W q v0 v1 v2) (z0 z1 z2 : Value) : DS B g a cap bs w gr g3 v S u L x c (((W.setCell ⟨q, 0, none⟩ z0).setCell ⟨q, 1, none⟩ z1).setCell ⟨q, 2, none⟩ z2) :=
  ((h.put hf hz 0 z0).put hf (hz.set0 z0) 1 z1).put hf ((hz.set0 z0).set1 z1) 2 z2
/-- an append to what is cached -/
theorem DS.app_dev (h : DS B g a cap bs w gr g3 v S u L x c W) (ho : Only u.ownBlock W W') : BoxB 27 W' g3 v u (.int .i64 x) :=
  h.dev.only ho (fun e => h.ownS.offBox h.dev g3 e.symm rfl)
theorem DS.app (h : DS B g a cap bs w gr g3 v S u L x c W) (ho : Only u.ownBlock W W') (hb : Below w.heap.size W W') {u' : Value} {M : List Slot} (hn : OwnsS w.heap.size W' u' M) :
    DS B g a cap bs w gr g3 v S u' M x c (W'.setCell ⟨g3, 1, none⟩ u') := by
  have h1 := h.lg
  have h2 := h.lr
  have h3 := h.l3
  have hr : BoxB 27 W' gr (.slice none 0 0) (.slice none 0 0) (.int .i64 0) := h.res.only ho (fun e => h.ownS.offBox h.res gr e.symm rfl)
  have hd := h.app_dev ho
  have hT : OwnsT w.heap.size W' v S := h.ownT.only ho (fun k e e' => apart h.ownT h.ownS k e e'.symm)
  have ht : Turned g w W' := h.turned.then_below hb (Nat.le_refl _)
  exact ⟨(h.cur.keep (hb.mono h1)).keep ((Below.refl _ _).setCell (show g + 1 ≤ g3 by omega) _), ⟨ht.os, ht.tape, ht.output, by simpa using ht.size, fun k hk hn' => (heap_setCell_other W' ⟨g3, 1, none⟩ k u' (by show k ≠ g3; omega)).trans (ht.block k hk hn')⟩,
    hr.set_other (show g3 ≠ gr by omega) _, hd.set1 u', hT.set_ne (hT.offBox hd) _, hn.set_ne (hn.offBox hd) _, h1, h2, h3⟩
/-- the device goes into the result's box -/
theorem DS.done (h : DS B g a cap bs w gr g3 v S u L x c W) (u0 u1 u2 : Value) :
    OwnsT w.heap.size (((W.setCell ⟨gr, 0, none⟩ u0).setCell ⟨gr, 1, none⟩ u1).setCell ⟨gr, 2, none⟩ u2) v S ∧ OwnsS w.heap.size (((W.setCell ⟨gr, 0, none⟩ u0).setCell ⟨gr, 1, none⟩ u1).setCell ⟨gr, 2, none⟩ u2) u L ∧ Cursor B g a cap bs (((W.setCell ⟨gr, 0, none⟩ u0).setCell ⟨gr, 1, none⟩ u1).setCell ⟨gr, 2, none⟩ u2) c ∧ Turned g w (((W.setCell ⟨gr, 0, none⟩ u0).setCell ⟨gr, 1, none⟩ u1).setCell ⟨gr, 2, none⟩ u2) := by
  have h1 := h.lg
  have h2 := h.lr
  have hT := h.ownT.offBox h.res
  have hS := h.ownS.offBox h.res
  have hb : Below w.heap.size W (((W.setCell ⟨gr, 0, none⟩ u0).setCell ⟨gr, 1, none⟩ u1).setCell ⟨gr, 2, none⟩ u2) := (((Below.refl _ _).setCell h2 _).setCell h2 _).setCell h2 _
  exact ⟨((h.ownT.set_ne hT _).set_ne hT _).set_ne hT _, ((h.ownS.set_ne hS _).set_ne hS _).set_ne hS _, h.cur.keep (hb.mono h1), h.turned.then_below hb (Nat.le_refl _)⟩
end

theorem step_appendG {ops : Array Oper} {o : Oper} {a : Act} {tm : Array Value} {K : Act → World → Prop} {Q : Exit → Act → World → Prop} {E : Prop} (hgd : o.guard = none) (s x : Operand)
    (ho : o.op = .call { callee := .builtin .append, args := #[s, x], argTypes := #[25, 25] })
    (B : Nat) (w0 wr : World) (v : Value) (ad : Addr) (c : Nat) (l cs : List Slot) (hs : a.eval s = v) (hx : a.eval x = .slice (some ad) cs.length c)
    (hown : Hid (OwnsS B wr v l)) (hc : ∀ j u, (slotVals cs)[j]? = some u → wr.cell? (ad.add j) = some u) (hbel : Hid (Below B w0 wr)) (hB : B ≤ wr.heap.size) (M : List Slot) (n : Nat) (hM : l ++ cs = M) (hn : M.length = n) (hlen : n ≤ 1099511627776)
    (h : ∀ a' c' w', Hid (OwnsS B w' (.slice a' n c') M) → Hid (Below B w0 w') → wr.heap.size ≤ w'.heap.size → Hid (Only v.ownBlock wr w') → K (a.put o.dst (.slice a' n c')) w') :
    if Region.wanted o (yielded ops tm) = true then Oper.wp Try.prog o a wr K Q else E := by
  have hw : Region.wanted o (yielded ops tm) = true := by simp [Region.wanted, hgd]
  rw [if_pos hw]
  obtain ⟨i0, hi, hz0, hz1, hz2⟩ := info_parts infoS
  have hlen' : l.length + cs.length ≤ 1099511627776 := by rw [← List.length_append, hM, hn]; exact hlen
  refine wp_append_own _ s x 25 ho B 36 i0 (.agg #[.int .i64 0, .string ⟨#[]⟩]) 2 24 Try.underlying25 hi hz0 hz1 hz2 rfl (by decide) v l.length (slotVals l) hs hown.out
    ad cs.length c (slotVals cs) hx (by rw [length_slotVals]) hc (slotVals_one cs) (by unfold maxLen; omega) (by omega) hB ?_
  intro v' w' h1 h2 _
  have h1' : OwnsS B w' v' (l ++ cs) := by
    show World.ownsRow _ _ _ _ _ _ _
    rw [List.length_append, slotVals_append]
    exact h1
  obtain ⟨a', c', rfl, _⟩ := h1'.form
  rw [hM, hn] at h1' ⊢
  exact h a' c' w' h1' (Below.grown hbel.out h2 hB (fun k hk => (World.ownsRow.lt hown.out k hk).1)) h2.size h2
theorem lit1_cells (w : World) (t : Int) (k : ByteArray) : ∀ j u, (slotVals [(t, k)])[j]? = some u → (w.alloc (.cells #[.int .i64 t, .string k] 36)).cell? ((⟨w.heap.size, 0, none⟩ : Addr).add j) = some u := by
  intro j u hj
  have h := (HoldsS.new w [(t, k)])
  unfold HoldsS at h
  rw [addr_add0]
  have h2 : (slotVals [(t, k)]).toArray[j]? = some u := by simpa using hj
  have h3 : (w.alloc (.cells (slotVals [(t, k)]).toArray 36)).cell? ⟨w.heap.size, j, none⟩ = some u := by
    simp only [World.cell?, h]
    exact h2
  exact h3

/-- what DevPut and DevFlush leave, as a drawn device wants it -/
def DevSPost (w : World) (e : Ending) (w' : World) : Prop :=
  ∃ (R : DevR) (a5 : Option Addr) (n5 c5 : Nat) (a6 : Option Addr) (n6 c6 : Nat), e = .returned (.tuple #[.agg #[.slice a5 n5 c5, .slice a6 n6 c6, .int .i64 R.x], .bool R.ok]) ∧ OwnsT w.heap.size w' (.slice a5 n5 c5) R.S ∧ OwnsS w.heap.size w' (.slice a6 n6 c6) R.L ∧ (R.S.length ≤ 16 ∧ (R.ok = true → R.L.length ≤ 20)) ∧ Below w.heap.size w w'
theorem put_dev (B : Nat) (v u : Value) (S : List ByteArray) (L : List Slot) (x t : Int) (k : ByteArray) (w : World) (hT : OwnsT B w v S) (hO : OwnsS B w u L) (hl : S.length ≤ 16 ∧ L.length ≤ 20) :
    Calls Try.prog 17 #[.agg #[v, u, .int .i64 x], .int .i64 t, .string k] w (DevSPost w) := by
  refine (sDevPut_any B B v u S L x t k w hT (by omega) hO (by omega)).mono ?_
  rintro e w' ⟨v', u', rfl, ht, ho, hb⟩
  obtain ⟨a5, c5, rfl, _⟩ := ht.form
  obtain ⟨a6, c6, rfl, _⟩ := ho.form
  refine ⟨_, a5, _, c5, a6, _, c6, rfl, ht, ho, ?_, hb⟩
  unfold putV
  split
  · split
    · rename_i h2
      exact ⟨hl.1, fun _ => (yes_iff.1 h2).2.1.1⟩
    · exact ⟨hl.1, fun _ => hl.2⟩
  · exact ⟨Nat.zero_le _, fun _ => Nat.zero_le _⟩
def FlushPost (w : World) (e : Ending) (w' : World) : Prop :=
  ∃ (R : DevR) (a5 : Option Addr) (n5 c5 : Nat) (a6 : Option Addr) (n6 c6 : Nat), e = .returned (.tuple #[.agg #[.slice a5 n5 c5, .slice a6 n6 c6, .int .i64 R.x], .bool R.ok]) ∧ OwnsT w.heap.size w' (.slice a5 n5 c5) R.S ∧ OwnsS w.heap.size w' (.slice a6 n6 c6) R.L ∧ (R.S.length ≤ 16 ∧ R.L.length ≤ 20) ∧ Below w.heap.size w w'
theorem flush_dev (B : Nat) (v u : Value) (S : List ByteArray) (L : List Slot) (x : Int) (w : World) (hT : OwnsT B w v S) (hO : OwnsS B w u L) (hl : S.length ≤ 16 ∧ L.length ≤ 20) :
    Calls Try.prog 25 #[.agg #[v, u, .int .i64 x]] w (FlushPost w) := by
  refine (sDevFlush_any B B v u S L x w hT (by omega) hO (by omega)).mono ?_
  rintro e w' ⟨v', u', rfl, ht, ho, hb⟩
  obtain ⟨a5, c5, rfl, _⟩ := ht.form
  obtain ⟨a6, c6, rfl, _⟩ := ho.form
  have := length_fallV S L x (fun _ => true)
  exact ⟨_, a5, _, c5, a6, _, c6, rfl, ht, ho, ⟨by omega, by omega⟩, hb⟩

/-- behind the statement that puts (or flushes): the new device's box, and the old state -/
def KeptA (B g : Nat) (a : Option Addr) (cap : Nat) (bs : List Int) (w : World) (gr g3 : Nat) (v : Value) (S : List ByteArray) (u : Value) (L : List Slot) (x : Int) (s5 s6 : Value) (wF : World) : Prop :=
  ∃ (g5 : Nat) (R : DevR) (a5 : Option Addr) (n5 c5 : Nat) (a6 : Option Addr) (n6 c6 : Nat) (c' : Cu), s5 = .pointer (some ⟨g5, 0, none⟩) ∧ s6 = .bool R.ok ∧ Hid (BoxB 27 wF g5 (.slice a5 n5 c5) (.slice a6 n6 c6) (.int .i64 R.x)) ∧ Hid (OwnsT w.heap.size wF (.slice a5 n5 c5) R.S) ∧ Hid (OwnsS w.heap.size wF (.slice a6 n6 c6) R.L) ∧
    Hid (R.S.length ≤ 16 ∧ (R.ok = true → R.L.length ≤ 20)) ∧ Hid (DS B g a cap bs w gr g3 v S u L x c' wF) ∧ Hid (g3 ≠ g5)

section
variable {B g : Nat} {a : Option Addr} {cap : Nat} {bs : List Int} {w : World} {gr g3 : Nat} {v : Value} {S : List ByteArray} {u : Value} {L : List Slot} {x : Int} {c' : Cu} {W W6 : World} {R : DevR} {a5 : Option Addr} {n5 c5 : Nat} {a6 : Option Addr} {n6 c6 q : Nat}
theorem KeptA.late (hd : DS B g a cap bs w gr g3 v S u L x c' W) (ht : OwnsT W6.heap.size W (.slice a5 n5 c5) R.S) (ho : OwnsS W6.heap.size W (.slice a6 n6 c6) R.L) (hf : Fresh w gr g3 W6.heap.size) (hR : R.S.length ≤ 16 ∧ (R.ok = true → R.L.length ≤ 20)) :
    KeptA B g a cap bs w gr g3 v S u L x (.pointer (some ⟨W.heap.size, 0, none⟩)) (.bool R.ok) (W.alloc (.cells #[.slice a5 n5 c5, .slice a6 n6 c6, .int .i64 R.x] 27)) :=
  ⟨W.heap.size, R, a5, n5, c5, a6, n6, c6, c', rfl, rfl, hide (BoxB.new _ W _ _ _), hide ((ht.mono hf.1).alloc _), hide ((ho.mono hf.1).alloc _), hide hR, hide (hd.alloc _), hide (by have := hd.dev.lt; omega)⟩
theorem KeptA.early (hd : DS B g a cap bs w gr g3 v S u L x c' W) (ht : OwnsT W6.heap.size W (.slice a5 n5 c5) R.S) (ho : OwnsS W6.heap.size W (.slice a6 n6 c6) R.L) (hz : BoxB 27 W q (.slice none 0 0) (.slice none 0 0) (.int .i64 0)) (hq : q < W6.heap.size) (hf : Fresh w gr g3 q) (hR : R.S.length ≤ 16 ∧ (R.ok = true → R.L.length ≤ 20)) :
    KeptA B g a cap bs w gr g3 v S u L x (.pointer (some ⟨q, 0, none⟩)) (.bool R.ok) (((W.setCell ⟨q, 0, none⟩ (.slice a5 n5 c5)).setCell ⟨q, 1, none⟩ (.slice a6 n6 c6)).setCell ⟨q, 2, none⟩ (.int .i64 R.x)) := by
  have h1 := hf.1
  have h3 := hf.2.2
  have nT := ht.offBox hz
  have nS := ho.offBox hz
  exact ⟨q, R, a5, n5, c5, a6, n6, c6, c', rfl, rfl, hide (((hz.set0 _).set1 _).set2 _), hide ((((ht.mono (by omega)).set_ne nT _).set_ne nT _).set_ne nT _), hide ((((ho.mono (by omega)).set_ne nS _).set_ne nS _).set_ne nS _), hide hR, hide (hd.put3 hf hz _ _ _), hide (by omega)⟩
end
end Go.Proofs.Ytnbaffdonbnocaa
