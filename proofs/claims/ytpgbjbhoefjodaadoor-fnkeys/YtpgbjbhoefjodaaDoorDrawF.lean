/-
  A device that is drawn: a new box beside it, and what is made of it.
-/
import Derived.Test.YtpgbjbhoefjodaaDoorDrawD
import Derived.Test.YtpgbjbhoefjodaaDoorKeyC
namespace Go.Proofs.YtpgbjbhoefjodaaDoor
open Go.ChangeShapes Go.WideShapes Go.ChangeAt Go.RowKit

/-- block q is younger than all that DS speaks of -/
def Fresh (w : World) (gr g3 : Nat) (v : Value) (q : Nat) : Prop := w.heap.size ≤ q ∧ gr < q ∧ g3 < q ∧ ∀ k, v.ownBlock = some k → k < q

section
variable {B g : Nat} {a : Option Addr} {cap : Nat} {bs : List Int} {w : World} {gr g3 : Nat} {m : ByteArray} {v : Value} {L : List Slot} {x : Int} {c c' : Cu} {W W' : World}
theorem DS.fresh (h : DS B g a cap bs w gr g3 m v L x c W) : Fresh w gr g3 v W.heap.size := ⟨h.turned.size, h.res.lt, h.dev.lt, fun k hk => (h.own.lt k hk).2⟩
theorem DS.put (h : DS B g a cap bs w gr g3 m v L x c W) {q : Nat} (hf : Fresh w gr g3 v q) (o : Nat) (u : Value) : DS B g a cap bs w gr g3 m v L x c (W.setCell ⟨q, o, none⟩ u) := by
  have h1 := h.lg
  obtain ⟨f1, f2, f3, f4⟩ := hf
  exact ⟨h.cur.keep ((Below.refl _ _).setCell (show g + 1 ≤ q by omega) _), ⟨h.turned.os, h.turned.tape, h.turned.output, by simpa using h.turned.size, fun k hk hn => (heap_setCell_other W ⟨q, o, none⟩ k u (by show k ≠ q; omega)).trans (h.turned.block k hk hn)⟩,
    h.res.set_other (show q ≠ gr by omega) _, h.dev.set_other (show q ≠ g3 by omega) _, h.own.set_ne (fun k e => Nat.ne_of_lt (f4 k e)) _, h.lg, h.lr, h.l3, h.ne⟩
/-- a whole device is stored into the box -/
theorem DS.take3 (h : DS B g a cap bs w gr g3 m v L x c W) {m' : ByteArray} {v' : Value} {L' : List Slot} {x' : Int} (ho : OwnsS w.heap.size W v' L') (hne : ∀ k, v'.ownBlock = some k → k ≠ gr ∧ k ≠ g3) :
    DS B g a cap bs w gr g3 m' v' L' x' c (((W.setCell ⟨g3, 0, none⟩ (.string m')).setCell ⟨g3, 1, none⟩ v').setCell ⟨g3, 2, none⟩ (.int .i64 x')) := by
  have h1 := h.set (m' := m') (h.dev.set0 (.string m')) h.own h.ne
  have h2 := h1.set (v' := v') (L' := L') (h1.dev.set1 v') (ho.set_ne (fun k e => (hne k e).2) _) hne
  exact h2.set (h2.dev.set2 (.int .i64 x')) h2.own hne
theorem OwnsS.ne_box {B k0 : Nat} {w : World} {v v0 v1 v2 : Value} {L : List Slot} (h : OwnsS B w v L) (hb : BoxB 31 w k0 v0 v1 v2) : ∀ k, v.ownBlock = some k → k ≠ k0 := by
  rintro k hk rfl
  obtain ⟨hl, ⟨rfl, h0⟩ | ⟨g, cap, cur, rfl, hg, hh, hr⟩⟩ := h
  · cases hk
  · obtain rfl : g = k := Option.some.inj hk
    unfold BoxB at hb
    rw [hb] at hh
    have := Option.some.inj hh
    simp at this
/-- an append to the device's slots -/
theorem DS.app_dev (h : DS B g a cap bs w gr g3 m v L x c W) (ho : Only v.ownBlock W W') : BoxB 31 W' g3 (.string m) v (.int .i64 x) :=
  (ho.block g3 h.dev.lt (fun e => (h.ne _ e.symm).2 rfl)).trans h.dev
theorem DS.app (h : DS B g a cap bs w gr g3 m v L x c W) (ho : Only v.ownBlock W W') (hb : Below w.heap.size W W') {v' : Value} {M : List Slot} (hn : OwnsS w.heap.size W' v' M) :
    DS B g a cap bs w gr g3 m v' M x c (W'.setCell ⟨g3, 1, none⟩ v') := by
  have h1 := h.lg
  have h2 := h.lr
  have h3 := h.l3
  have hr : BoxB 31 W' gr (.string ⟨#[]⟩) (.slice none 0 0) (.int .i64 0) := (ho.block gr h.res.lt (fun e => (h.ne _ e.symm).1 rfl)).trans h.res
  have hd := h.app_dev ho
  have hne : ∀ k, v'.ownBlock = some k → k ≠ gr ∧ k ≠ g3 := fun k e => ⟨hn.ne_box hr k e, hn.ne_box hd k e⟩
  have ht : Turned g w W' := h.turned.then_below hb (Nat.le_refl _)
  exact ⟨(h.cur.keep (hb.mono h1)).keep ((Below.refl _ _).setCell (show g + 1 ≤ g3 by omega) _), ⟨ht.os, ht.tape, ht.output, by simpa using ht.size, fun k hk hn' => (heap_setCell_other W' ⟨g3, 1, none⟩ k v' (by show k ≠ g3; omega)).trans (ht.block k hk hn')⟩,
    hr.set_other (show g3 ≠ gr by omega) _, hd.set1 v', hn.set_ne (fun k e => (hne k e).2) _, h1, h2, h3, hne⟩
/-- the device goes into the result's box -/
theorem DS.done (h : DS B g a cap bs w gr g3 m v L x c W) (u0 u1 u2 : Value) :
    OwnsS w.heap.size (((W.setCell ⟨gr, 0, none⟩ u0).setCell ⟨gr, 1, none⟩ u1).setCell ⟨gr, 2, none⟩ u2) v L ∧ Cursor B g a cap bs (((W.setCell ⟨gr, 0, none⟩ u0).setCell ⟨gr, 1, none⟩ u1).setCell ⟨gr, 2, none⟩ u2) c ∧ Turned g w (((W.setCell ⟨gr, 0, none⟩ u0).setCell ⟨gr, 1, none⟩ u1).setCell ⟨gr, 2, none⟩ u2) := by
  have h1 := h.lg
  have h2 := h.lr
  have hne : ∀ k, v.ownBlock = some k → k ≠ gr := fun k e => (h.ne k e).1
  have hb : Below w.heap.size W (((W.setCell ⟨gr, 0, none⟩ u0).setCell ⟨gr, 1, none⟩ u1).setCell ⟨gr, 2, none⟩ u2) := (((Below.refl _ _).setCell h2 _).setCell h2 _).setCell h2 _
  exact ⟨((h.own.set_ne hne _).set_ne hne _).set_ne hne _, h.cur.keep (hb.mono h1), h.turned.then_below hb (Nat.le_refl _)⟩
end

theorem step_appendG {ops : Array Oper} {o : Oper} {a : Act} {tm : Array Value} {K : Act → World → Prop} {Q : Exit → Act → World → Prop} {E : Prop} (hgd : o.guard = none) (s x : Operand)
    (ho : o.op = .call { callee := .builtin .append, args := #[s, x], argTypes := #[29, 29] })
    (B : Nat) (w0 wr : World) (v : Value) (ad : Addr) (c : Nat) (l cs : List Slot) (hs : a.eval s = v) (hx : a.eval x = .slice (some ad) cs.length c)
    (hown : Hid (OwnsS B wr v l)) (hc : ∀ j u, (slotVals cs)[j]? = some u → wr.cell? (ad.add j) = some u) (hbel : Hid (Below B w0 wr)) (hB : B ≤ wr.heap.size) (M : List Slot) (n : Nat) (hM : l ++ cs = M) (hn : M.length = n) (hlen : n ≤ 1099511627776)
    (h : ∀ a' c' w', Hid (OwnsS B w' (.slice a' n c') M) → Hid (Below B w0 w') → wr.heap.size ≤ w'.heap.size → Hid (Only v.ownBlock wr w') → K (a.put o.dst (.slice a' n c')) w') :
    if Region.wanted o (yielded ops tm) = true then Oper.wp Tryd.prog o a wr K Q else E := by
  have hw : Region.wanted o (yielded ops tm) = true := by simp [Region.wanted, hgd]
  rw [if_pos hw]
  obtain ⟨i0, hi, hz0, hz1, hz2⟩ := info_parts infoS
  have hlen' : l.length + cs.length ≤ 1099511627776 := by rw [← List.length_append, hM, hn]; exact hlen
  refine wp_append_own _ s x 29 ho B 58 i0 (.agg #[.int .i64 0, .string ⟨#[]⟩]) 2 24 Tryd.underlying29 hi hz0 hz1 hz2 rfl (by decide) v l.length (slotVals l) hs hown.out
    ad cs.length c (slotVals cs) hx (by rw [length_slotVals]) hc (slotVals_one cs) (by unfold maxLen; omega) (by omega) hB ?_
  intro v' w' h1 h2 _
  have h1' : OwnsS B w' v' (l ++ cs) := by
    show World.ownsRow _ _ _ _ _ _ _
    rw [List.length_append, slotVals_append]
    exact h1
  obtain ⟨a', c', rfl, _⟩ := h1'.form
  rw [hM, hn] at h1' ⊢
  exact h a' c' w' h1' (Below.grown hbel.out h2 hB (fun k hk => (World.ownsRow.lt hown.out k hk).1)) h2.size h2
theorem lit1_cells (w : World) (t : Int) (k : ByteArray) : ∀ j u, (slotVals [(t, k)])[j]? = some u → (w.alloc (.cells #[.int .i64 t, .string k] 58)).cell? ((⟨w.heap.size, 0, none⟩ : Addr).add j) = some u := by
  rcases (OwnsS.lit1 w.heap.size w t k (Nat.le_refl _)).src with ⟨e, _⟩ | ⟨ad, c, e, h⟩
  · cases e
  · simp only [Value.slice.injEq, Option.some.injEq] at e
    obtain ⟨rfl, _⟩ := e
    exact h

/-- what KeyAdd and KeyWipe leave, as a drawn device wants it -/
def DevSPost (w : World) (e : Ending) (w' : World) : Prop :=
  ∃ (R : DevR) (a5 : Option Addr) (n5 c5 : Nat), e = .returned (.tuple #[.agg #[.string R.m, .slice a5 n5 c5, .int .i64 R.x], .bool R.ok]) ∧ OwnsS w.heap.size w' (.slice a5 n5 c5) R.L ∧ (R.ok = true → R.L.length ≤ 4) ∧ Below w.heap.size w w'
theorem add_dev (B : Nat) (m : ByteArray) (v : Value) (L : List Slot) (x t : Int) (key : ByteArray) (w : World) (hO : OwnsS B w v L) (hl : L.length ≤ 4) :
    Calls Tryd.prog 16 #[.agg #[.string m, v, .int .i64 x], .int .i64 t, .string key] w (DevSPost w) := by
  refine (sKeyAdd_any B m v L x t key w hO (by omega)).mono ?_
  rintro e w' ⟨v', rfl, ho, hb⟩
  obtain ⟨a5, c5, rfl, _⟩ := ho.form
  exact ⟨_, a5, _, c5, rfl, ho, addV_ok_len, hb⟩
theorem wipe_dev (B : Nat) (m : ByteArray) (v : Value) (L : List Slot) (x t : Int) (w : World) (hO : OwnsS B w v L) (hl : L.length ≤ 4) :
    Calls Tryd.prog 13 #[.agg #[.string m, v, .int .i64 x], .int .i64 t] w (DevSPost w) := by
  refine (sKeyWipe_any B m v L x t w hO (by omega)).mono ?_
  rintro e w' ⟨v', rfl, ho, hb⟩
  obtain ⟨a5, c5, rfl, _⟩ := ho.form
  refine ⟨_, a5, _, c5, rfl, ho, fun _ => ?_, hb⟩
  unfold wipeV
  split
  · split
    · exact hl
    · split
      · exact Nat.le_trans (List.length_eraseIdx_le _ _) hl
      · exact hl
  · exact Nat.zero_le _

/-- behind the statement that adds (or wipes): the new device's box, and the old state -/
def KeptA (B g : Nat) (a : Option Addr) (cap : Nat) (bs : List Int) (w : World) (gr g3 : Nat) (m : ByteArray) (v : Value) (L : List Slot) (x : Int) (s5 s6 : Value) (wF : World) : Prop :=
  ∃ (g5 : Nat) (R : DevR) (a5 : Option Addr) (n5 c5 : Nat) (c' : Cu), s5 = .pointer (some ⟨g5, 0, none⟩) ∧ s6 = .bool R.ok ∧ Hid (BoxB 31 wF g5 (.string R.m) (.slice a5 n5 c5) (.int .i64 R.x)) ∧ Hid (OwnsS w.heap.size wF (.slice a5 n5 c5) R.L) ∧
    Hid (R.ok = true → R.L.length ≤ 4) ∧ Hid (DS B g a cap bs w gr g3 m v L x c' wF) ∧ Hid (∀ k, (Value.slice a5 n5 c5).ownBlock = some k → k ≠ gr ∧ k ≠ g3) ∧ Hid (g3 ≠ g5)

section
variable {B g : Nat} {a : Option Addr} {cap : Nat} {bs : List Int} {w : World} {gr g3 : Nat} {m : ByteArray} {v : Value} {L : List Slot} {x : Int} {c' : Cu} {W W6 : World} {R : DevR} {a5 : Option Addr} {n5 c5 q : Nat}
theorem KeptA.late (hd : DS B g a cap bs w gr g3 m v L x c' W) (ho : OwnsS W6.heap.size W (.slice a5 n5 c5) R.L) (hf : Fresh w gr g3 v W6.heap.size) (hR : R.ok = true → R.L.length ≤ 4) :
    KeptA B g a cap bs w gr g3 m v L x (.pointer (some ⟨W.heap.size, 0, none⟩)) (.bool R.ok) (W.alloc (.cells #[.string R.m, .slice a5 n5 c5, .int .i64 R.x] 31)) :=
  ⟨W.heap.size, R, a5, n5, c5, c', rfl, rfl, hide (BoxB.new _ W _ _ _), hide ((ho.mono hf.1).alloc _), hide hR, hide (hd.alloc _),
    hide (fun k hk => by have h1 := (ho.lt k hk).1; have h2 := hf.2.1; have h3 := hf.2.2.1; exact ⟨by omega, by omega⟩), hide (by have := hd.dev.lt; omega)⟩
theorem KeptA.early (hd : DS B g a cap bs w gr g3 m v L x c' W) (ho : OwnsS W6.heap.size W (.slice a5 n5 c5) R.L) (hz : BoxB 31 W q (.string ⟨#[]⟩) (.slice none 0 0) (.int .i64 0)) (hq : q < W6.heap.size) (hf : Fresh w gr g3 v q) (hR : R.ok = true → R.L.length ≤ 4) :
    KeptA B g a cap bs w gr g3 m v L x (.pointer (some ⟨q, 0, none⟩)) (.bool R.ok) (((W.setCell ⟨q, 0, none⟩ (.string R.m)).setCell ⟨q, 1, none⟩ (.slice a5 n5 c5)).setCell ⟨q, 2, none⟩ (.int .i64 R.x)) := by
  have hne : ∀ k, (Value.slice a5 n5 c5).ownBlock = some k → k ≠ q := fun k hk => by have h1 := (ho.lt k hk).1; omega
  have hf1 := hf.1
  have h2 := hf.2.1
  have h3 := hf.2.2.1
  exact ⟨q, R, a5, n5, c5, c', rfl, rfl, hide (((hz.set0 _).set1 _).set2 _), hide ((((ho.mono (by omega)).set_ne hne _).set_ne hne _).set_ne hne _), hide hR, hide (((hd.put hf _ _).put hf _ _).put hf _ _),
    hide (fun k hk => by have h1 := (ho.lt k hk).1; exact ⟨by omega, by omega⟩), hide (by omega)⟩
end
end Go.Proofs.YtpgbjbhoefjodaaDoor
