/-
  Texts of this proof, put together: DrawD, DrawF, DrawE, DrawX, DrawY.
-/
import Derived.Test.YtakjjfbocokpaaaDoorPackAI
import Derived.Test.YtakjjfbocokpaaaDoorPackAH
import Derived.Test.YtakjjfbocokpaaaDoorPackBB
import Derived.Test.YtakjjfbocokpaaaDoorPackBA
import Derived.Deep.RegionHeld3
import Derived.Deep.DeepCutAuto

/-
  A device that is drawn: what goes from draw to draw beside the cursor.
-/
namespace Go.Proofs.YtakjjfbocokpaaaDoor
open Go.ChangeShapes Go.WideShapes Go.ChangeAt Go.RowKit
set_option maxRecDepth 20000

theorem BoxB.turned {T : TypeId} {w w' : World} {g b : Nat} {v0 v1 v2 : Value} (h : BoxB T w b v0 v1 v2) (ht : Turned g w w') (hne : b ≠ g) : BoxB T w' b v0 v1 v2 :=
  (ht.block b h.lt (fun e => hne (Option.some.inj e))).trans h
theorem OwnsS.turned {B : Nat} {w w' : World} {g : Nat} {v : Value} {L : List Slot} (h : OwnsS B w v L) (ht : Turned g w w') (hB : g < B) : OwnsS B w' v L :=
  h.keep fun k hk hlt => ht.block k hlt (fun e => by have := Option.some.inj e; omega)

/-- the cursor in block g; the result's box gr; the device's box g3: a master, slots of the call's own, a count -/
structure DS (B g : Nat) (a : Option Addr) (cap : Nat) (bs : List Int) (w : World) (gr g3 : Nat) (m : ByteArray) (v : Value) (L : List Slot) (x : Int) (c : Cu) (W : World) : Prop where
  cur : Cursor B g a cap bs W c
  turned : Turned g w W
  res : BoxB 31 W gr (.string ⟨#[]⟩) (.slice none 0 0) (.int .i64 0)
  dev : BoxB 31 W g3 (.string m) v (.int .i64 x)
  own : OwnsS w.heap.size W v L
  lg : g < w.heap.size
  lr : w.heap.size ≤ gr
  l3 : gr < g3
  ne : ∀ k, v.ownBlock = some k → k ≠ gr ∧ k ≠ g3

section
variable {B g : Nat} {a : Option Addr} {cap : Nat} {bs : List Int} {w : World} {gr g3 : Nat} {m : ByteArray} {v : Value} {L : List Slot} {x : Int} {c c' : Cu} {W W' : World}
theorem DS.turn (h : DS B g a cap bs w gr g3 m v L x c W) (hc : Cursor B g a cap bs W' c') (ht : Turned g W W') : DS B g a cap bs w gr g3 m v L x c' W' := by
  have h1 := h.lg
  have h2 := h.lr
  have h3 := h.l3
  exact ⟨hc, h.turned.trans ht, h.res.turned ht (by omega), h.dev.turned ht (by omega), h.own.turned ht h1, h1, h2, h3, h.ne⟩
theorem DS.below (h : DS B g a cap bs w gr g3 m v L x c W) (hb : Below W.heap.size W W') : DS B g a cap bs w gr g3 m v L x c W' :=
  ⟨h.cur.keep (hb.mono h.cur.lt), h.turned.then_below hb h.turned.size, h.res.below hb h.res.lt, h.dev.below hb h.dev.lt, h.own.below hb (Nat.le_refl _), h.lg, h.lr, h.l3, h.ne⟩
theorem DS.alloc (h : DS B g a cap bs w gr g3 m v L x c W) (o : Obj) : DS B g a cap bs w gr g3 m v L x c (W.alloc o) := h.below ((Below.refl _ _).alloc (Nat.le_refl _) _)
theorem DS.drew (h : DS B g a cap bs w gr g3 m v L x c W) : DS B g a cap bs w gr g3 m v L x c W.drew := ⟨h.cur.drew, h.turned.drew, h.res, h.dev, h.own, h.lg, h.lr, h.l3, h.ne⟩
/-- a store into the device's box -/
theorem DS.set {o : Nat} {u : Value} (h : DS B g a cap bs w gr g3 m v L x c W) {m' : ByteArray} {v' : Value} {L' : List Slot} {x' : Int} (hd : BoxB 31 (W.setCell ⟨g3, o, none⟩ u) g3 (.string m') v' (.int .i64 x')) (ho : OwnsS w.heap.size W v' L') (hne : ∀ k, v'.ownBlock = some k → k ≠ gr ∧ k ≠ g3) :
    DS B g a cap bs w gr g3 m' v' L' x' c (W.setCell ⟨g3, o, none⟩ u) := by
  have h1 := h.lg
  have h2 := h.lr
  have h3 := h.l3
  exact ⟨h.cur.keep ((Below.refl _ _).setCell (show g + 1 ≤ g3 by omega) _), ⟨h.turned.os, h.turned.tape, h.turned.output, by simpa using h.turned.size, fun k hk hn => (heap_setCell_other W ⟨g3, o, none⟩ k u (by show k ≠ g3; omega)).trans (h.turned.block k hk hn)⟩,
    h.res.set_other (show g3 ≠ gr by omega) _, hd, ho.set_ne (fun k e => (hne k e).2) _, h1, h2, h3, hne⟩
end
theorem addV_ok_len {m : ByteArray} {L : List Slot} {x t : Int} {k : ByteArray} (h : (addV m L x t k).ok = true) : (addV m L x t k).L.length ≤ 4 := by
  unfold addV at h ⊢
  split
  · rename_i h1
    rw [if_pos h1] at h
    split
    · rename_i h2
      exact (devOkB_iff.1 h2).2.1.1
    · rename_i h2
      rw [if_neg h2] at h
      cases h
  · exact Nat.zero_le _
end Go.Proofs.YtakjjfbocokpaaaDoor

/-
  A device that is drawn: a new box beside it, and what is made of it.
-/
namespace Go.Proofs.YtakjjfbocokpaaaDoor
open Go.ChangeShapes Go.WideShapes Go.ChangeAt Go.RowKit
set_option maxRecDepth 20000

/-- block q is younger than all that DS speaks of -/
def Fresh (w : World) (gr g3 : Nat) (v : Value) (q : Nat) : Prop := w.heap.size ≤ q ∧ gr < q ∧ g3 < q ∧ ∀ k, v.ownBlock = some k → k < q

section
variable {B g : Nat} {a : Option Addr} {cap : Nat} {bs : List Int} {w : World} {gr g3 : Nat} {m : ByteArray} {v : Value} {L : List Slot} {x : Int} {c c' : Cu} {W W' : World}
theorem DS.fresh (h : DS B g a cap bs w gr g3 m v L x c W) : Fresh w gr g3 v W.heap.size := ⟨h.turned.size, h.res.lt, h.dev.lt, fun k hk => (h.own.lt k hk).2⟩
theorem DS.put (h : DS B g a cap bs w gr g3 m v L x c W) {q : Nat} (hf : Fresh w gr g3 v q) (o : Nat) (u : Value) : DS B g a cap bs w gr g3 m v L x c (W.setCell ⟨q, o, none⟩ u) := by
  have h1 := h.lg
  obtain ⟨f1, f2, f3, f4⟩ := hf
  exact ⟨h.cur.keep ((Below.refl _ _).setCell (show g + 1 ≤ q by omega) _), ⟨h.turned.os, h.turned.tape, h.turned.output, by simpa using h.turned.size, fun k hk hn => (heap_setCell_other W ⟨q, o, none⟩ k u (by show k ≠ q; omega)).trans (h.turned.block k hk hn)⟩,
    h.res.set_other (show q ≠ gr by omega) _, h.dev.set_other (show q ≠ g3 by omega) _, h.own.set_ne (fun k e => Nat.ne_of_lt (f4 k e)) _, h.lg, h.lr, h.l3, h.ne⟩
/-- a whole device is stored into the box -/
theorem DS.take3 (h : DS B g a cap bs w gr g3 m v L x c W) {m' : ByteArray} {v' : Value} {L' : List Slot} {x' : Int} (ho : OwnsS w.heap.size W v' L') (hne : ∀ k, v'.ownBlock = some k → k ≠ gr ∧ k ≠ g3) :
    DS B g a cap bs w gr g3 m' v' L' x' c (((W.setCell ⟨g3, 0, none⟩ (.string m')).setCell ⟨g3, 1, none⟩ v').setCell ⟨g3, 2, none⟩ (.int .i64 x')) := by
  have h1 := h.set (m' := m') (h.dev.set0 (.string m')) h.own h.ne
  have h2 := h1.set (v' := v') (L' := L') (h1.dev.set1 v') (ho.set_ne (fun k e => (hne k e).2) _) hne
  exact h2.set (h2.dev.set2 (.int .i64 x')) h2.own hne
theorem OwnsS.ne_box {B k0 : Nat} {w : World} {v v0 v1 v2 : Value} {L : List Slot} (h : OwnsS B w v L) (hb : BoxB 31 w k0 v0 v1 v2) : ∀ k, v.ownBlock = some k → k ≠ k0 := by
  rintro k hk rfl
  obtain ⟨hl, ⟨rfl, h0⟩ | ⟨g, cap, cur, rfl, hg, hh, hr⟩⟩ := h
  · cases hk
  · obtain rfl : g = k := Option.some.inj hk
    unfold BoxB at hb
    rw [hb] at hh
    have := Option.some.inj hh
    simp at this
/-- an append to the device's slots -/
theorem DS.app_dev (h : DS B g a cap bs w gr g3 m v L x c W) (ho : Only v.ownBlock W W') : BoxB 31 W' g3 (.string m) v (.int .i64 x) :=
  (ho.block g3 h.dev.lt (fun e => (h.ne _ e.symm).2 rfl)).trans h.dev
theorem DS.app (h : DS B g a cap bs w gr g3 m v L x c W) (ho : Only v.ownBlock W W') (hb : Below w.heap.size W W') {v' : Value} {M : List Slot} (hn : OwnsS w.heap.size W' v' M) :
    DS B g a cap bs w gr g3 m v' M x c (W'.setCell ⟨g3, 1, none⟩ v') := by
  have h1 := h.lg
  have h2 := h.lr
  have h3 := h.l3
  have hr : BoxB 31 W' gr (.string ⟨#[]⟩) (.slice none 0 0) (.int .i64 0) := (ho.block gr h.res.lt (fun e => (h.ne _ e.symm).1 rfl)).trans h.res
  have hd := h.app_dev ho
  have hne : ∀ k, v'.ownBlock = some k → k ≠ gr ∧ k ≠ g3 := fun k e => ⟨hn.ne_box hr k e, hn.ne_box hd k e⟩
  have ht : Turned g w W' := h.turned.then_below hb (Nat.le_refl _)
  exact ⟨(h.cur.keep (hb.mono h1)).keep ((Below.refl _ _).setCell (show g + 1 ≤ g3 by omega) _), ⟨ht.os, ht.tape, ht.output, by simpa using ht.size, fun k hk hn' => (heap_setCell_other W' ⟨g3, 1, none⟩ k v' (by show k ≠ g3; omega)).trans (ht.block k hk hn')⟩,
    hr.set_other (show g3 ≠ gr by omega) _, hd.set1 v', hn.set_ne (fun k e => (hne k e).2) _, h1, h2, h3, hne⟩
/-- the device goes into the result's box -/
theorem DS.done (h : DS B g a cap bs w gr g3 m v L x c W) (u0 u1 u2 : Value) :
    OwnsS w.heap.size (((W.setCell ⟨gr, 0, none⟩ u0).setCell ⟨gr, 1, none⟩ u1).setCell ⟨gr, 2, none⟩ u2) v L ∧ Cursor B g a cap bs (((W.setCell ⟨gr, 0, none⟩ u0).setCell ⟨gr, 1, none⟩ u1).setCell ⟨gr, 2, none⟩ u2) c ∧ Turned g w (((W.setCell ⟨gr, 0, none⟩ u0).setCell ⟨gr, 1, none⟩ u1).setCell ⟨gr, 2, none⟩ u2) := by
  have h1 := h.lg
  have h2 := h.lr
  have hne : ∀ k, v.ownBlock = some k → k ≠ gr := fun k e => (h.ne k e).1
  have hb : Below w.heap.size W (((W.setCell ⟨gr, 0, none⟩ u0).setCell ⟨gr, 1, none⟩ u1).setCell ⟨gr, 2, none⟩ u2) := (((Below.refl _ _).setCell h2 _).setCell h2 _).setCell h2 _
  exact ⟨((h.own.set_ne hne _).set_ne hne _).set_ne hne _, h.cur.keep (hb.mono h1), h.turned.then_below hb (Nat.le_refl _)⟩
end

theorem step_appendG {ops : Array Oper} {o : Oper} {a : Act} {tm : Array Value} {K : Act → World → Prop} {Q : Exit → Act → World → Prop} {E : Prop} (hgd : o.guard = none) (s x : Operand)
    (ho : o.op = .call { callee := .builtin .append, args := #[s, x], argTypes := #[29, 29] })
    (B : Nat) (w0 wr : World) (v : Value) (ad : Addr) (c : Nat) (l cs : List Slot) (hs : a.eval s = v) (hx : a.eval x = .slice (some ad) cs.length c)
    (hown : Hid (OwnsS B wr v l)) (hc : ∀ j u, (slotVals cs)[j]? = some u → wr.cell? (ad.add j) = some u) (hbel : Hid (Below B w0 wr)) (hB : B ≤ wr.heap.size) (M : List Slot) (n : Nat) (hM : l ++ cs = M) (hn : M.length = n) (hlen : n ≤ 1099511627776)
    (h : ∀ a' c' w', Hid (OwnsS B w' (.slice a' n c') M) → Hid (Below B w0 w') → wr.heap.size ≤ w'.heap.size → Hid (Only v.ownBlock wr w') → K (a.put o.dst (.slice a' n c')) w') :
    if Region.wanted o (yielded ops tm) = true then Oper.wp Tryd.prog o a wr K Q else E := by
  have hw : Region.wanted o (yielded ops tm) = true := by simp [Region.wanted, hgd]
  rw [if_pos hw]
  obtain ⟨i0, hi, hz0, hz1, hz2⟩ := info_parts infoS
  have hlen' : l.length + cs.length ≤ 1099511627776 := by rw [← List.length_append, hM, hn]; exact hlen
  refine wp_append_own _ s x 29 ho B 74 i0 (.agg #[.int .i64 0, .string ⟨#[]⟩]) 2 24 Tryd.underlying29 hi hz0 hz1 hz2 rfl (by decide) v l.length (slotVals l) hs hown.out
    ad cs.length c (slotVals cs) hx (by rw [length_slotVals]) hc (slotVals_one cs) (by unfold maxLen; omega) (by omega) hB ?_
  intro v' w' h1 h2 _
  have h1' : OwnsS B w' v' (l ++ cs) := by
    show World.ownsRow _ _ _ _ _ _ _
    rw [List.length_append, slotVals_append]
    exact h1
  obtain ⟨a', c', rfl, _⟩ := h1'.form
  rw [hM, hn] at h1' ⊢
  exact h a' c' w' h1' (Below.grown hbel.out h2 hB (fun k hk => (World.ownsRow.lt hown.out k hk).1)) h2.size h2
theorem lit1_cells (w : World) (t : Int) (k : ByteArray) : ∀ j u, (slotVals [(t, k)])[j]? = some u → (w.alloc (.cells #[.int .i64 t, .string k] 74)).cell? ((⟨w.heap.size, 0, none⟩ : Addr).add j) = some u := by
  rcases (OwnsS.lit1 w.heap.size w t k (Nat.le_refl _)).src with ⟨e, _⟩ | ⟨ad, c, e, h⟩
  · cases e
  · simp only [Value.slice.injEq, Option.some.injEq] at e
    obtain ⟨rfl, _⟩ := e
    exact h

/-- what KeyAdd and KeyWipe leave, as a drawn device wants it -/
def DevSPost (w : World) (e : Ending) (w' : World) : Prop :=
  ∃ (R : DevR) (a5 : Option Addr) (n5 c5 : Nat), e = .returned (.tuple #[.agg #[.string R.m, .slice a5 n5 c5, .int .i64 R.x], .bool R.ok]) ∧ OwnsS w.heap.size w' (.slice a5 n5 c5) R.L ∧ (R.ok = true → R.L.length ≤ 4) ∧ Below w.heap.size w w'
theorem add_dev (B : Nat) (m : ByteArray) (v : Value) (L : List Slot) (x t : Int) (key : ByteArray) (w : World) (hO : OwnsS B w v L) (hl : L.length ≤ 4) :
    Calls Tryd.prog 22 #[.agg #[.string m, v, .int .i64 x], .int .i64 t, .string key] w (DevSPost w) := by
  refine (sKeyAdd_any B m v L x t key w hO (by omega)).mono ?_
  rintro e w' ⟨v', rfl, ho, hb⟩
  obtain ⟨a5, c5, rfl, _⟩ := ho.form
  exact ⟨_, a5, _, c5, rfl, ho, addV_ok_len, hb⟩
theorem wipe_dev (B : Nat) (m : ByteArray) (v : Value) (L : List Slot) (x t : Int) (w : World) (hO : OwnsS B w v L) (hl : L.length ≤ 4) :
    Calls Tryd.prog 19 #[.agg #[.string m, v, .int .i64 x], .int .i64 t] w (DevSPost w) := by
  refine (sKeyWipe_any B m v L x t w hO (by omega)).mono ?_
  rintro e w' ⟨v', rfl, ho, hb⟩
  obtain ⟨a5, c5, rfl, _⟩ := ho.form
  refine ⟨_, a5, _, c5, rfl, ho, fun _ => ?_, hb⟩
  unfold wipeV
  split
  · split
    · exact hl
    · split
      · exact Nat.le_trans (List.length_eraseIdx_le _ _) hl
      · exact hl
  · exact Nat.zero_le _

/-- behind the statement that adds (or wipes): the new device's box, and the old state -/
def KeptA (B g : Nat) (a : Option Addr) (cap : Nat) (bs : List Int) (w : World) (gr g3 : Nat) (m : ByteArray) (v : Value) (L : List Slot) (x : Int) (s5 s6 : Value) (wF : World) : Prop :=
  ∃ (g5 : Nat) (R : DevR) (a5 : Option Addr) (n5 c5 : Nat) (c' : Cu), s5 = .pointer (some ⟨g5, 0, none⟩) ∧ s6 = .bool R.ok ∧ Hid (BoxB 31 wF g5 (.string R.m) (.slice a5 n5 c5) (.int .i64 R.x)) ∧ Hid (OwnsS w.heap.size wF (.slice a5 n5 c5) R.L) ∧
    Hid (R.ok = true → R.L.length ≤ 4) ∧ Hid (DS B g a cap bs w gr g3 m v L x c' wF) ∧ Hid (∀ k, (Value.slice a5 n5 c5).ownBlock = some k → k ≠ gr ∧ k ≠ g3) ∧ Hid (g3 ≠ g5)

section
variable {B g : Nat} {a : Option Addr} {cap : Nat} {bs : List Int} {w : World} {gr g3 : Nat} {m : ByteArray} {v : Value} {L : List Slot} {x : Int} {c' : Cu} {W W6 : World} {R : DevR} {a5 : Option Addr} {n5 c5 q : Nat}
theorem KeptA.late (hd : DS B g a cap bs w gr g3 m v L x c' W) (ho : OwnsS W6.heap.size W (.slice a5 n5 c5) R.L) (hf : Fresh w gr g3 v W6.heap.size) (hR : R.ok = true → R.L.length ≤ 4) :
    KeptA B g a cap bs w gr g3 m v L x (.pointer (some ⟨W.heap.size, 0, none⟩)) (.bool R.ok) (W.alloc (.cells #[.string R.m, .slice a5 n5 c5, .int .i64 R.x] 31)) :=
  ⟨W.heap.size, R, a5, n5, c5, c', rfl, rfl, hide (BoxB.new _ W _ _ _), hide ((ho.mono hf.1).alloc _), hide hR, hide (hd.alloc _),
    hide (fun k hk => by have h1 := (ho.lt k hk).1; have h2 := hf.2.1; have h3 := hf.2.2.1; exact ⟨by omega, by omega⟩), hide (by have := hd.dev.lt; omega)⟩
theorem KeptA.early (hd : DS B g a cap bs w gr g3 m v L x c' W) (ho : OwnsS W6.heap.size W (.slice a5 n5 c5) R.L) (hz : BoxB 31 W q (.string ⟨#[]⟩) (.slice none 0 0) (.int .i64 0)) (hq : q < W6.heap.size) (hf : Fresh w gr g3 v q) (hR : R.ok = true → R.L.length ≤ 4) :
    KeptA B g a cap bs w gr g3 m v L x (.pointer (some ⟨q, 0, none⟩)) (.bool R.ok) (((W.setCell ⟨q, 0, none⟩ (.string R.m)).setCell ⟨q, 1, none⟩ (.slice a5 n5 c5)).setCell ⟨q, 2, none⟩ (.int .i64 R.x)) := by
  have hne : ∀ k, (Value.slice a5 n5 c5).ownBlock = some k → k ≠ q := fun k hk => by have h1 := (ho.lt k hk).1; omega
  have hf1 := hf.1
  have h2 := hf.2.1
  have h3 := hf.2.2.1
  exact ⟨q, R, a5, n5, c5, c', rfl, rfl, hide (((hz.set0 _).set1 _).set2 _), hide ((((ho.mono (by omega)).set_ne hne _).set_ne hne _).set_ne hne _), hide hR, hide (((hd.put hf _ _).put hf _ _).put hf _ _),
    hide (fun k hk => by have h1 := (ho.lt k hk).1; exact ⟨by omega, by omega⟩), hide (by omega)⟩
end
end Go.Proofs.YtakjjfbocokpaaaDoor

/-
  Contract of spec.l4Some: a device is drawn.
-/
namespace Go.Proofs.YtakjjfbocokpaaaDoor
open Go.ChangeShapes Go.WideShapes Go.ChangeAt Go.RowKit
set_option maxRecDepth 20000

def SomePost (B g : Nat) (a : Option Addr) (cap : Nat) (bs : List Int) (w : World) (e : Ending) (w' : World) : Prop :=
  ∃ (c' : Cu) (m : ByteArray) (a' : Option Addr) (n' cp : Nat) (L : List Slot) (x : Int), e = .returned (.agg #[.string m, .slice a' n' cp, .int .i64 x]) ∧ OwnsS w.heap.size w' (.slice a' n' cp) L ∧ L.length ≤ 5 ∧ Cursor B g a cap bs w' c' ∧ Turned g w w'
set_option maxHeartbeats 4000000 in
set_option maxRecDepth 100000 in
theorem l4Some_any {B g : Nat} {a : Option Addr} {cap : Nat} {bs : List Int} {w : World} {c : Cu} (h : Cursor B g a cap bs w c) :
    Calls Tryd.prog 56 #[.pointer (some ⟨g, 0, none⟩)] w (SomePost B g a cap bs w) := by
  have H := hide h
  have hlt := h.lt
  clear h
  go_enter Tryd.func56, Tryd.ntmps56
  go_wp2_with fail
  refine (l3Key_any (H.out.keep ((Below.refl _ _).alloc hlt _))).mono ?_
  rintro e w1 ⟨rfl, hc1, ht1⟩
  have HY1 := hide ((BoxB.new 31 w (.string ⟨#[]⟩) (.slice none 0 0) (.int .i64 0)).turned ht1 (by omega))
  have HT1 := hide (((Turned.refl g w).alloc (.cells #[.string ⟨#[]⟩, .slice none 0 0, .int .i64 0] 31)).trans ht1)
  have HC1 := hide hc1
  clear hc1 ht1
  generalize cKey bs c = key at *
  generalize aKey bs c = c1 at *
  have hy1 := HY1.out.lt
  obtain ⟨W2, hW2⟩ : ∃ W2, W2 = w1.alloc (.cells #[.string ⟨key.toArray⟩, .slice none 0 0, .int .i64 0] 31) := ⟨_, rfl⟩
  have HD2 := hide (show DS B g a cap bs w w.heap.size w1.heap.size ⟨key.toArray⟩ (.slice none 0 0) [] 0 c1 W2 from hW2 ▸
    ⟨HC1.out.keep ((Below.refl _ _).alloc HC1.out.lt _), HT1.out.alloc _, HY1.out.alloc _, BoxB.new _ w1 _ _ _, OwnsS.nil _ _, hlt, Nat.le_refl _, hy1, fun k e => by cases e⟩)
  have hg3 : w.heap.size < w1.heap.size := hy1
  go_wp2_with fail
  rw [← hW2]
  clear hW2 HY1 HT1 HC1 H
  refine (l1Below_any 5 (by omega) HD2.out.cur).mono ?_
  rintro e w3 ⟨rfl, hc3, ht3⟩
  have HD3 := hide (HD2.out.turn hc3 ht3)
  have hn0 := cBelow_bd bs 5 c1 (by omega)
  clear hc3 ht3 HD2
  generalize aBelow bs 5 c1 = c3 at *
  obtain ⟨n0, hn0'⟩ : ∃ n0 : Nat, cBelow bs 5 c1 = (n0 : Int) := ⟨(cBelow bs 5 c1).toNat, by omega⟩
  rw [hn0'] at hn0 ⊢
  clear hn0'
  go_wp2_with fail
  go_loopw [4, 5, 6] (fun i _ _ wr => ∃ (j : Nat) (c' : Cu) (m : ByteArray) (a' : Option Addr) (n' cp : Nat) (L : List Slot) (x : Int), i = .int .i64 j ∧ j ≤ 4 ∧ Hid (DS B g a cap bs w w.heap.size w1.heap.size m (.slice a' n' cp) L x c' wr) ∧ Hid (L.length ≤ 4)) (fun i _ _ _ => (intOf i).toNat)
  case atStart => exact ⟨n0, c3, _, none, 0, 0, [], 0, rfl, by omega, HD3, hide (Nat.zero_le _)⟩
  case round =>
    obtain ⟨j, c4, m, a', n', cp, L, x, rfl, hj, HD, HLn⟩ := hrel
    clear HD3
    by_cases hj0 : 0 < j
    · have hgl := HD.out.cur.lt
      have hg3l := HD.out.dev.lt
      go_upto_region 5 with (fail)
      go_cut [5, 6] from 18 to 29 (fun s5 s6 wF => KeptA B g a cap bs w w.heap.size w1.heap.size m (.slice a' n' cp) L x s5 s6 wF)
      case first =>
        go_region_held3 (fun w' => w'.cell? ⟨w1.heap.size, 0, none⟩ = some (.string m) ∧ w'.cell? ⟨w1.heap.size, 1, none⟩ = some (.slice a' n' cp) ∧ w'.cell? ⟨w1.heap.size, 2, none⟩ = some (.int .i64 x))
          (first
            | with_reducible exact HD.out.dev.cells
            | with_reducible exact HD.out.dev.drew.cells
            | with_reducible exact (HD.out.dev.alloc _).drew.cells
            | with_reducible exact HD5.out.dev.cells
            | with_reducible exact (HD5.out.dev.alloc _).cells
            | with_reducible exact HD6.out.dev.cells
            | with_reducible exact (HD6.out.dev.alloc _).cells
            | with_reducible exact HD7.out.dev.cells
            | with_reducible exact (HD7.out.dev.alloc _).cells
            | with_reducible exact (((HD7.out.put F7.out _ _).put F7.out _ _).put F7.out _ _).dev.cells)
          (first
            | (go_at_call 48
               first
               | refine (l1Below_any 6 (by omega) (c := c4) (by with_reducible exact HD.out.drew.cur)).mono ?_
               | refine (l1Below_any 6 (by omega) (c := c4) (by with_reducible exact (HD.out.alloc _).drew.cur)).mono ?_
               rintro e w5 ⟨rfl, hc5, ht5⟩
               generalize aBelow bs 6 c4 = c5 at *
               generalize cBelow bs 6 c4 = t5 at *
               have HD5 : Hid (DS B g a cap bs w w.heap.size w1.heap.size m (.slice a' n' cp) L x c5 w5) := by
                 first
                 | with_reducible exact hide (HD.out.drew.turn hc5 ht5)
                 | with_reducible exact hide ((HD.out.alloc _).drew.turn hc5 ht5)
               (try have Z5 : Hid (BoxB 31 w5 wr.heap.size (.string ⟨#[]⟩) (.slice none 0 0) (.int .i64 0)) := by with_reducible exact hide ((BoxB.new _ wr _ _ _).drew.turned ht5 (Nat.ne_of_gt hgl)))
               have hgl5 := HD5.out.cur.lt
               clear hc5 ht5)
            | (go_at_call 47
               first
               | refine (l3Key_any (c := c5) (by with_reducible exact HD5.out.cur)).mono ?_
               | refine (l3Key_any (c := c5) (by with_reducible exact (HD5.out.alloc _).cur)).mono ?_
               rintro e w6 ⟨rfl, hc6, ht6⟩
               generalize aKey bs c5 = c6 at *
               generalize cKey bs c5 = key6 at *
               have HD6 : Hid (DS B g a cap bs w w.heap.size w1.heap.size m (.slice a' n' cp) L x c6 w6) := by
                 first
                 | with_reducible exact hide (HD5.out.turn hc6 ht6)
                 | with_reducible exact hide ((HD5.out.alloc _).turn hc6 ht6)
               first
               | (have Z6 : Hid (BoxB 31 w6 wr.heap.size (.string ⟨#[]⟩) (.slice none 0 0) (.int .i64 0)) := by with_reducible exact hide (Z5.out.turned ht6 (Nat.ne_of_gt hgl)))
               | (have Z6 : Hid (BoxB 31 w6 w5.heap.size (.string ⟨#[]⟩) (.slice none 0 0) (.int .i64 0)) := by with_reducible exact hide ((BoxB.new _ w5 _ _ _).turned ht6 (Nat.ne_of_gt hgl5)))
               | skip
               have hgl6 := HD6.out.cur.lt
               clear hc6 ht6)
            | (go_at_call 22
               first
               | refine (add_dev _ m _ L x _ _ _ (by with_reducible exact HD6.out.own) HLn.out).mono ?_
               | refine (add_dev _ m _ L x _ _ _ (by with_reducible exact (HD6.out.alloc _).own) HLn.out).mono ?_
               rintro e w7 ⟨R, a5, n5, e5, rfl, ho7, hR7, hb7⟩
               have HR7 := hide hR7
               have HD7 : Hid (DS B g a cap bs w w.heap.size w1.heap.size m (.slice a' n' cp) L x c6 w7) := by
                 first
                 | with_reducible exact hide (HD6.out.below hb7)
                 | with_reducible exact hide ((HD6.out.alloc _).below hb7)
               have HO7 := hide ho7
               first
               | (have Z7 : Hid (BoxB 31 w7 wr.heap.size (.string ⟨#[]⟩) (.slice none 0 0) (.int .i64 0)) := by with_reducible exact hide (Z6.out.below hb7 Z6.out.lt)
                  have F7 : Hid (Fresh w w.heap.size w1.heap.size (.slice a' n' cp) wr.heap.size) := hide HD.out.fresh
                  have Q7 := hide Z6.out.lt
                  obtain ⟨q0, q1, q2⟩ := Z7.out.cells
                  obtain ⟨r0, r1, r2⟩ := Z7.out.frozen)
               | (have Z7 : Hid (BoxB 31 w7 w5.heap.size (.string ⟨#[]⟩) (.slice none 0 0) (.int .i64 0)) := by with_reducible exact hide (Z6.out.below hb7 Z6.out.lt)
                  have F7 : Hid (Fresh w w.heap.size w1.heap.size (.slice a' n' cp) w5.heap.size) := hide HD5.out.fresh
                  have Q7 := hide Z6.out.lt
                  obtain ⟨q0, q1, q2⟩ := Z7.out.cells
                  obtain ⟨r0, r1, r2⟩ := Z7.out.frozen)
               | (have Z7 : Hid (BoxB 31 w7 w6.heap.size (.string ⟨#[]⟩) (.slice none 0 0) (.int .i64 0)) := by with_reducible exact hide ((BoxB.new _ w6 _ _ _).below hb7 (BoxB.new _ w6 _ _ _).lt)
                  have F7 : Hid (Fresh w w.heap.size w1.heap.size (.slice a' n' cp) w6.heap.size) := hide HD6.out.fresh
                  have Q7 := hide (BoxB.new 31 w6 (.string ⟨#[]⟩) (.slice none 0 0) (.int .i64 0)).lt
                  obtain ⟨q0, q1, q2⟩ := Z7.out.cells
                  obtain ⟨r0, r1, r2⟩ := Z7.out.frozen)
               | (have F6 := hide HD6.out.fresh)
               clear ho7 hR7 hb7))
        all_goals go_wp2_with fail
        all_goals go_meet
        all_goals first
          | with_reducible exact KeptA.early HD7.out HO7.out Z7.out Q7.out F7.out HR7.out
          | with_reducible exact KeptA.late HD7.out HO7.out F6.out HR7.out
      case rest =>
        obtain ⟨g5, R, a5, n5, e5, c5, rfl, rfl, HZ, HO, HR, HDF, HNE, HGE⟩ := hcut
        obtain ⟨q0, q1, q2⟩ := HZ.out.cells
        obtain ⟨y0, y1, y2⟩ := HDF.out.dev.cells
        obtain ⟨z0, z1, z2⟩ := HDF.out.dev.frozen
        cases hok : R.ok with
        | true =>
          have HD7 := hide (HDF.out.take3 (m' := R.m) (x' := R.x) HO.out HNE.out)
          go_wp2_with fail
          go_roundw
          case rel => exact ⟨j - 1, c5, _, a5, n5, e5, _, _, by go_num, by omega, HD7, hide (HR.out hok)⟩
          case measure => simp [intOf]; omega
        | false =>
          go_wp2_with fail
          go_roundw
          case rel => exact ⟨j - 1, c5, _, a', n', cp, _, _, by go_num, by omega, HDF, HLn⟩
          case measure => simp [intOf]; omega
    · have hj1 : j = 0 := by omega
      subst hj1
      clear hj0 hj
      go_wp2_with fail
      refine (l1Once_any 3 (by omega) HD.out.cur).mono ?_
      rintro e w4 ⟨rfl, hc4, ht4⟩
      have HD4 := hide (HD.out.turn hc4 ht4)
      have hgl4 := HD4.out.cur.lt
      clear hc4 ht4 HD
      generalize aBelow bs 3 c4 = c8 at *
      generalize (cBelow bs 3 c4 == 0) = t4
      go_upto_if 31 with (fail)
      go_cut [7, 8] from 32 (fun _ _ wF => ∃ (c' : Cu) (m : ByteArray) (a' : Option Addr) (n' cp : Nat) (L : List Slot) (x : Int), Hid (DS B g a cap bs w w.heap.size w1.heap.size m (.slice a' n' cp) L x c' wF) ∧ Hid (L.length ≤ 4))
      case first =>
        cases t4 with
        | false =>
          go_wp2_with fail
          go_meet
          exact ⟨c8, m, a', n', cp, L, x, HD4, HLn⟩
        | true =>
          go_upto_region 9 with (fail)
          go_cut [7, 8] from 32 (fun s7 s8 wF => KeptA B g a cap bs w w.heap.size w1.heap.size m (.slice a' n' cp) L x s7 s8 wF)
          case first =>
            go_region_held3 (fun w' => w'.cell? ⟨w1.heap.size, 0, none⟩ = some (.string m) ∧ w'.cell? ⟨w1.heap.size, 1, none⟩ = some (.slice a' n' cp) ∧ w'.cell? ⟨w1.heap.size, 2, none⟩ = some (.int .i64 x))
              (first
                | with_reducible exact HD4.out.dev.cells
                | with_reducible exact HD4.out.dev.drew.cells
                | with_reducible exact (HD4.out.dev.alloc _).drew.cells
                | with_reducible exact HD5.out.dev.cells
                | with_reducible exact (HD5.out.dev.alloc _).cells
                | with_reducible exact HD7.out.dev.cells
                | with_reducible exact (HD7.out.dev.alloc _).cells
                | with_reducible exact (((HD7.out.put F7.out _ _).put F7.out _ _).put F7.out _ _).dev.cells)
              (first
                | (go_at_call 48
                   first
                   | refine (l1Below_any 6 (by omega) (c := c8) (by with_reducible exact HD4.out.drew.cur)).mono ?_
                   | refine (l1Below_any 6 (by omega) (c := c8) (by with_reducible exact (HD4.out.alloc _).drew.cur)).mono ?_
                   rintro e w5 ⟨rfl, hc5, ht5⟩
                   generalize aBelow bs 6 c8 = c5 at *
                   generalize cBelow bs 6 c8 = t5 at *
                   have HD5 : Hid (DS B g a cap bs w w.heap.size w1.heap.size m (.slice a' n' cp) L x c5 w5) := by
                     first
                     | with_reducible exact hide (HD4.out.drew.turn hc5 ht5)
                     | with_reducible exact hide ((HD4.out.alloc _).drew.turn hc5 ht5)
                   (try have Z5 : Hid (BoxB 31 w5 w4.heap.size (.string ⟨#[]⟩) (.slice none 0 0) (.int .i64 0)) := by with_reducible exact hide ((BoxB.new _ w4 _ _ _).drew.turned ht5 (Nat.ne_of_gt hgl4)))
                   have hgl5 := HD5.out.cur.lt
                   clear hc5 ht5)
                | (go_at_call 19
                   first
                   | refine (wipe_dev _ m _ L x _ _ (by with_reducible exact HD5.out.own) HLn.out).mono ?_
                   | refine (wipe_dev _ m _ L x _ _ (by with_reducible exact (HD5.out.alloc _).own) HLn.out).mono ?_
                   rintro e w7 ⟨R, a5, n5, e5, rfl, ho7, hR7, hb7⟩
                   have HR7 := hide hR7
                   have HD7 : Hid (DS B g a cap bs w w.heap.size w1.heap.size m (.slice a' n' cp) L x c5 w7) := by
                     first
                     | with_reducible exact hide (HD5.out.below hb7)
                     | with_reducible exact hide ((HD5.out.alloc _).below hb7)
                   have HO7 := hide ho7
                   first
                   | (have Z7 : Hid (BoxB 31 w7 w4.heap.size (.string ⟨#[]⟩) (.slice none 0 0) (.int .i64 0)) := by with_reducible exact hide (Z5.out.below hb7 Z5.out.lt)
                      have F7 : Hid (Fresh w w.heap.size w1.heap.size (.slice a' n' cp) w4.heap.size) := hide HD4.out.fresh
                      have Q7 := hide Z5.out.lt
                      obtain ⟨q0, q1, q2⟩ := Z7.out.cells
                      obtain ⟨r0, r1, r2⟩ := Z7.out.frozen)
                   | (have Z7 : Hid (BoxB 31 w7 w5.heap.size (.string ⟨#[]⟩) (.slice none 0 0) (.int .i64 0)) := by with_reducible exact hide ((BoxB.new _ w5 _ _ _).below hb7 (BoxB.new _ w5 _ _ _).lt)
                      have F7 : Hid (Fresh w w.heap.size w1.heap.size (.slice a' n' cp) w5.heap.size) := hide HD5.out.fresh
                      have Q7 := hide (BoxB.new 31 w5 (.string ⟨#[]⟩) (.slice none 0 0) (.int .i64 0)).lt
                      obtain ⟨q0, q1, q2⟩ := Z7.out.cells
                      obtain ⟨r0, r1, r2⟩ := Z7.out.frozen)
                   | (have F5 := hide HD5.out.fresh)
                   clear ho7 hR7 hb7))
            all_goals go_wp2_with fail
            all_goals go_meet
            all_goals first
              | with_reducible exact KeptA.early HD7.out HO7.out Z7.out Q7.out F7.out HR7.out
              | with_reducible exact KeptA.late HD7.out HO7.out F5.out HR7.out
          case rest =>
            obtain ⟨g5, R, a5, n5, e5, c5, rfl, rfl, HZ, HO, HR, HDF, HNE, HGE⟩ := hcut
            obtain ⟨q0, q1, q2⟩ := HZ.out.cells
            obtain ⟨y0, y1, y2⟩ := HDF.out.dev.cells
            obtain ⟨z0, z1, z2⟩ := HDF.out.dev.frozen
            cases hok : R.ok with
            | true =>
              have HD7 := hide (HDF.out.take3 (m' := R.m) (x' := R.x) HO.out HNE.out)
              go_wp2_with fail
              go_meet
              exact ⟨c5, _, a5, n5, e5, _, _, HD7, hide (HR.out hok)⟩
            | false =>
              go_wp2_with fail
              go_meet
              exact ⟨c5, _, a', n', cp, _, _, HDF, HLn⟩
      case rest =>
        clear HLn HD4
        obtain ⟨c4, m, a', n', cp, L, x, HD, HLn⟩ := hcut
        go_wp2_with fail
        refine (l1Once_any 12 (by omega) HD.out.cur).mono ?_
        rintro e w4 ⟨rfl, hc4, ht4⟩
        have HD4 := hide (HD.out.turn hc4 ht4)
        clear hc4 ht4 HD
        generalize aBelow bs 12 c4 = c8 at *
        generalize (cBelow bs 12 c4 == 0) = t4
        go_upto_if 43 with (fail)
        go_cut [49, 55] from 44 (fun _ _ wF => ∃ (c' : Cu) (m : ByteArray) (a' : Option Addr) (n' cp : Nat) (L : List Slot) (x : Int), Hid (DS B g a cap bs w w.heap.size w1.heap.size m (.slice a' n' cp) L x c' wF) ∧ Hid (L.length ≤ 5))
        case first =>
          cases t4 with
          | false =>
            go_wp2_with fail
            go_meet
            exact ⟨c8, m, a', n', cp, L, x, HD4, hide (Nat.le_succ_of_le HLn.out)⟩
          | true =>
            go_wp2_with fail
            refine (l1Below_any 3 (by omega) HD4.out.cur).mono ?_
            rintro e w5 ⟨rfl, hc5, ht5⟩
            have HD5 := hide (HD4.out.turn hc5 ht5)
            have hb5 := cBelow_bd bs 3 c8 (by omega)
            clear hc5 ht5 HD4
            generalize aBelow bs 3 c8 = c5 at *
            generalize cBelow bs 3 c8 = p5 at *
            have hp : p5 = 0 ∨ p5 = 1 ∨ p5 = 2 := by omega
            clear hb5
            obtain ⟨y0, y1, y2⟩ := HD5.out.dev.cells
            obtain ⟨z0, z1, z2⟩ := HD5.out.dev.frozen
            rcases hp with rfl | rfl | rfl
            · have hgl5 := HD5.out.cur.lt
              go_wp2_with fail
              refine (l1PickInt_any (c := c5) w5.heap.size 3 [-1, 1000000, 1000001] (by omega) (by omega) (by simp) (by omega) (fun j hj => ints_new 3 w5 [-1, 1000000, 1000001] j hj) (HD5.out.alloc _).cur).mono ?_
              rintro e w6 ⟨rfl, hc6, ht6⟩
              have HD6 := hide ((HD5.out.alloc _).turn hc6 ht6)
              clear hc6 ht6 y0 y1 y2 z0 z1 z2
              obtain ⟨y0, y1, y2⟩ := HD6.out.dev.cells
              obtain ⟨z0, z1, z2⟩ := HD6.out.dev.frozen
              go_wp2_with fail
              go_meet
              exact ⟨_, m, a', n', cp, L, _, hide (HD6.out.set (HD6.out.dev.set2 _) HD6.out.own HD6.out.ne), hide (Nat.le_succ_of_le HLn.out)⟩
            · have HL5 := hide (Nat.succ_le_succ HLn.out)
              go_upto_region 18 with (fail)
              go_region_law
                (first
                  | (go_simp
                     go_at_call 48
                     refine (l1Below_any 8 (by omega) (c := c5) (by first | with_reducible exact HD5.out.drew.cur | with_reducible exact HD5.out.cur | exact HD5.out.drew.cur)).mono ?_
                     rintro e w6 ⟨rfl, hc6, ht6⟩
                     generalize aBelow bs 8 c5 = c6 at *
                     generalize cBelow bs 8 c5 = t6 at *
                     have HD6 := hide (HD5.out.drew.turn hc6 ht6)
                     clear y0 y1 y2 z0 z1 z2
                     obtain ⟨y0, y1, y2⟩ := HD6.out.dev.cells
                     clear hc6 ht6)
                  | (go_simp
                     go_at_call 47
                     refine (l3Key_any (c := c6) (by with_reducible exact HD6.out.cur)).mono ?_
                     rintro e w7 ⟨rfl, hc7, ht7⟩
                     generalize aKey bs c6 = c7 at *
                     generalize cKey bs c6 = key7 at *
                     have HD7 := hide (HD6.out.turn hc7 ht7)
                     have hl7 := HD7.out.dev.lt
                     clear y0 y1 y2
                     obtain ⟨y0, y1, y2⟩ := HD7.out.dev.cells
                     clear hc7 ht7)
                  | ((refine step_appendG rfl (.tmp 58) (.tmp 64) rfl w.heap.size (w7.alloc (.cells #[.int .i64 t6, .string ⟨key7.toArray⟩] 74)) (w7.alloc (.cells #[.int .i64 t6, .string ⟨key7.toArray⟩] 74)) (.slice a' n' cp) ⟨w7.heap.size, 0, none⟩ 1 L [(t6, ⟨key7.toArray⟩)] rfl rfl (hide (HD7.out.alloc _).own) (lit1_cells w7 t6 _) (hide (Below.refl _ _)) (HD7.out.alloc _).turned.size (L ++ [(t6, ⟨key7.toArray⟩)]) (L.length + 1) rfl (by simp) (by have := HLn.out; omega) ?_)
                     intro a8 e8 w8 HO8 HB8 hsz8 HN8
                     have Y8 := hide ((HD7.out.alloc _).app_dev HN8.out)
                     obtain ⟨y0, y1, y2⟩ := Y8.out.cells
                     obtain ⟨z0, z1, z2⟩ := Y8.out.frozen))
              all_goals go_wp2_with fail
              all_goals go_meet
              all_goals exact ⟨c7, m, a8, _, e8, _, x, hide ((HD7.out.alloc _).app HN8.out HB8.out HO8.out), hide (by simpa using HL5.out)⟩
            · go_wp2_with fail
              refine (l1Text_any 33 (by omega) (by omega) HD5.out.cur).mono ?_
              rintro e w6 ⟨rfl, hc6, ht6⟩
              have HD6 := hide (HD5.out.turn hc6 ht6)
              clear hc6 ht6 y0 y1 y2 z0 z1 z2
              generalize aText bs 33 c5 = c6 at *
              generalize cText bs 33 c5 = p6 at *
              obtain ⟨y0, y1, y2⟩ := HD6.out.dev.cells
              obtain ⟨z0, z1, z2⟩ := HD6.out.dev.frozen
              go_wp2_with fail
              go_meet
              exact ⟨c6, _, a', n', cp, L, x, hide (HD6.out.set (HD6.out.dev.set0 _) HD6.out.own HD6.out.ne), hide (Nat.le_succ_of_le HLn.out)⟩
        case rest =>
          clear HLn HD4
          obtain ⟨c4, m, a', n', cp, L, x, HD, HLn⟩ := hcut
          obtain ⟨y0, y1, y2⟩ := HD.out.dev.cells
          obtain ⟨q0, q1, q2⟩ := HD.out.res.cells
          obtain ⟨r0, r1, r2⟩ := HD.out.res.frozen
          go_wp2_with fail
          refine bodyPost_ret (res_dev rfl _ _ w.heap.size rfl (((HD.out.res.set0 _).set1 _).set2 _)) rfl ?_
          obtain ⟨d1, d2, d3⟩ := HD.out.done (.string m) (.slice a' n' cp) (.int .i64 x)
          exact ⟨c4, m, a', n', cp, L, x, rfl, d1, HLn.out, d2, d3⟩
end Go.Proofs.YtakjjfbocokpaaaDoor

/-
  Contracts of spec.DrawKeyWipe and spec.DrawKeyAdd: what the law needs of them.
-/
namespace Go.Proofs.YtakjjfbocokpaaaDoor
open Go.ChangeShapes Go.WideShapes Go.ChangeAt Go.RowKit
set_option maxRecDepth 20000

theorem res_dev_tmp2 {fn : Func} {p u u' : Tmp} (h : fn.results = #[.cell p 31, .tmp u, .tmp u']) (tmps : Array Value) (w : World) (g : Nat) (ht : tmps.getD p undef = .pointer (some ⟨g, 0, none⟩)) {v0 v1 v2 : Value} (hx : BoxB 31 w g v0 v1 v2) :
    (results fn tmps).run Tryd.prog w = .ok (.tuple #[.agg #[v0, v1, v2], tmps.getD u undef, tmps.getD u' undef]) w := by
  obtain ⟨c0, c1, c2⟩ := hx.cells
  rw [Array.getD_eq_getD_getElem?] at ht
  simp only [results, h]
  simp [ht, go_sem, c0, c1, c2]
theorem OwnsS.turned' {B : Nat} {w w' : World} {g : Nat} {v : Value} {L : List Slot} (h : OwnsS B w v L) (ht : Turned g w w') (hne : ∀ k, v.ownBlock = some k → k ≠ g) : OwnsS B w' v L := by
  obtain ⟨hl, ⟨rfl, h0⟩ | ⟨k, cap, cur, rfl, hg, hh, hr⟩⟩ := h
  · exact ⟨hl, .inl ⟨rfl, h0⟩⟩
  · exact ⟨hl, .inr ⟨k, cap, cur, rfl, hg, (ht.block k (Array.getElem?_eq_some_iff.1 hh).1 (fun e => hne k rfl (Option.some.inj e))).trans hh, hr⟩⟩
def WipeDrawn (w : World) (e : Ending) (w' : World) : Prop :=
  ∃ (m : ByteArray) (a' : Option Addr) (n' cp : Nat) (L : List Slot) (x t : Int), e = .returned (.tuple #[.agg #[.string m, .slice a' n' cp, .int .i64 x], .int .i64 t]) ∧ OwnsS w.heap.size w' (.slice a' n' cp) L ∧ L.length ≤ 5 ∧ Below w.heap.size w w'
def AddDrawn (w : World) (e : Ending) (w' : World) : Prop :=
  ∃ (m : ByteArray) (a' : Option Addr) (n' cp : Nat) (L : List Slot) (x t : Int) (k : List UInt8), e = .returned (.tuple #[.agg #[.string m, .slice a' n' cp, .int .i64 x], .int .i64 t, .string ⟨k.toArray⟩]) ∧ OwnsS w.heap.size w' (.slice a' n' cp) L ∧ L.length ≤ 5 ∧ Below w.heap.size w w'

set_option maxHeartbeats 4000000 in
theorem drawKeyWipe_any {B : Nat} (a : Option Addr) (cap : Nat) (bs : List Int) (w : World) (hB : B ≤ w.heap.size) (hc : CodeAt B w a bs) (hm : bs.length ≤ 1048576) :
    Calls Tryd.prog 17 #[.slice a bs.length cap] w (WipeDrawn w) := by
  have H := hide (hc.keep (fun k hk => Below.heap_alloc w (.cells #[.string ⟨#[]⟩, .slice none 0 0, .int .i64 0] 31) k (by omega)))
  clear hc
  obtain ⟨W, hW⟩ : ∃ W, W = w.alloc (.cells #[.string ⟨#[]⟩, .slice none 0 0, .int .i64 0] 31) := ⟨_, rfl⟩
  have hs : W.heap.size = w.heap.size + 1 := by rw [hW, Go.Deep.nblk_alloc]
  have HR := hide (show BoxB 31 W w.heap.size (.string ⟨#[]⟩) (.slice none 0 0) (.int .i64 0) from hW ▸ BoxB.new _ w _ _ _)
  have HB := hide (show Below w.heap.size w W from hW ▸ (Below.refl _ _).alloc (Nat.le_refl _) _)
  go_enter Tryd.func17, Tryd.ntmps17
  go_wp2_with fail
  rw [← hW] at H ⊢
  clear hW
  refine (l1New_any a cap bs W (by omega) H.out hm).mono ?_
  rintro e w1 ⟨rfl, hc1, hb1⟩
  rw [hs] at hc1 hb1 ⊢
  have HC1 := hide hc1
  have HB1 := hide (HB.out.trans (hb1.mono (by omega)))
  have HR1 := hide (HR.out.below hb1 (by omega))
  clear hc1 hb1 HR HB
  generalize newC bs = c1 at HC1
  go_wp2_with fail
  refine (l4Some_any HC1.out).mono ?_
  rintro e w2 ⟨c2, m, a', n', cp, L, x, rfl, ho2, hl2, hc2, ht2⟩
  have HC2 := hide hc2
  have HB2 := hide (HB1.out.trans (ht2.below (by omega) HB1.out.size))
  have HR2 := hide (HR1.out.turned ht2 (by omega))
  have HO2 := hide (ho2.mono HB1.out.size)
  have HL := hide hl2
  have hne2 : w.heap.size ≠ w2.heap.size := by have := HR2.out.lt; omega
  have HQ3 := hide (fun k hk => (show k ≠ w.heap.size + 1 by have := (ho2.lt k hk).1; have := HC1.out.lt; omega))
  have hne3 : w2.heap.size ≠ w.heap.size + 1 := by have := HC2.out.lt; omega
  have HQ := hide (fun k hk => (show k ≠ w.heap.size by have := (ho2.lt k hk).1; have := HR1.out.lt; omega))
  clear hc2 ht2 ho2 hl2 HC1 HB1 HR1
  obtain ⟨W3, hW3⟩ : ∃ W3, W3 = w2.alloc (.cells #[.string m, .slice a' n' cp, .int .i64 x] 31) := ⟨_, rfl⟩
  have HC3 := hide (show Cursor B (w.heap.size + 1) a cap bs W3 c2 from hW3 ▸ HC2.out.keep ((Below.refl _ _).alloc HC2.out.lt _))
  have HB3 := hide (show Below w.heap.size w W3 from hW3 ▸ HB2.out.alloc HB2.out.size _)
  have HR3 := hide (show BoxB 31 W3 w.heap.size (.string ⟨#[]⟩) (.slice none 0 0) (.int .i64 0) from hW3 ▸ HR2.out.alloc _)
  have HD3 := hide (show BoxB 31 W3 w2.heap.size (.string m) (.slice a' n' cp) (.int .i64 x) from hW3 ▸ BoxB.new _ w2 _ _ _)
  have HO3 := hide (show OwnsS w.heap.size W3 (.slice a' n' cp) L from hW3 ▸ HO2.out.alloc _)
  go_upto_region 3 with (fail)
  rw [← hW3]
  clear hW3 HC2 HB2 HR2 HO2
  go_region_held3 (fun w' => w'.cell? ⟨w2.heap.size, 0, none⟩ = some (.string m) ∧ w'.cell? ⟨w2.heap.size, 1, none⟩ = some (.slice a' n' cp) ∧ w'.cell? ⟨w2.heap.size, 2, none⟩ = some (.int .i64 x))
    (first
      | with_reducible exact HD3.out.cells
      | with_reducible exact HD3.out.drew.cells
      | with_reducible exact HD4.out.cells
      | with_reducible exact (((HD4.out.set_other hne2 _).set_other hne2 _).set_other hne2 _).cells)
    (first
      | (go_at_call 48
         refine (l1Below_any 6 (by omega) (c := c2) (by with_reducible exact HC3.out.drew)).mono ?_
         rintro e w4 ⟨rfl, hc4, ht4⟩
         generalize cBelow bs 6 c2 = t4
         have ht4' : Turned (w.heap.size + 1) W3 w4 := (Turned.refl _ W3).drew.trans ht4
         have HB4 := hide (HB3.out.trans (ht4'.below (by omega) HB3.out.size))
         have HR4 := hide (HR3.out.turned ht4' (by omega))
         have HD4 := hide (HD3.out.turned ht4' hne3)
         have HO4 := hide (HO3.out.turned' ht4' HQ3.out)
         obtain ⟨y0, y1, y2⟩ := HR4.out.cells
         obtain ⟨z0, z1, z2⟩ := HR4.out.frozen
         clear hc4 ht4 ht4'))
  go_wp2_with fail
  refine bodyPost_ret (res_dev_tmp rfl _ _ w.heap.size rfl (((HR4.out.set0 _).set1 _).set2 _)) rfl ?_
  exact ⟨m, a', n', cp, L, x, _, rfl, ((HO4.out.set_ne HQ.out _).set_ne HQ.out _).set_ne HQ.out _, HL.out, ((HB4.out.setCell (Nat.le_refl _) _).setCell (Nat.le_refl _) _).setCell (Nat.le_refl _) _⟩
end Go.Proofs.YtakjjfbocokpaaaDoor

/-
  Contract of spec.DrawKeyAdd: what the law needs of it.
-/
namespace Go.Proofs.YtakjjfbocokpaaaDoor
open Go.ChangeShapes Go.WideShapes Go.ChangeAt Go.RowKit
set_option maxRecDepth 20000

def pick7 : List Int := [1, 2, 3, 5, 99, 0, 100]
set_option maxHeartbeats 1000000 in
theorem drawKeyAdd_any {B : Nat} (a : Option Addr) (cap : Nat) (bs : List Int) (w : World) (hB : B ≤ w.heap.size) (hc : CodeAt B w a bs) (hm : bs.length ≤ 1048576) :
    Calls Tryd.prog 20 #[.slice a bs.length cap] w (AddDrawn w) := by
  have H := hide (hc.keep (fun k hk => Below.heap_alloc w (.cells #[.string ⟨#[]⟩, .slice none 0 0, .int .i64 0] 31) k (by omega)))
  clear hc
  obtain ⟨W, hW⟩ : ∃ W, W = w.alloc (.cells #[.string ⟨#[]⟩, .slice none 0 0, .int .i64 0] 31) := ⟨_, rfl⟩
  have hs : W.heap.size = w.heap.size + 1 := by rw [hW, Go.Deep.nblk_alloc]
  have HR := hide (show BoxB 31 W w.heap.size (.string ⟨#[]⟩) (.slice none 0 0) (.int .i64 0) from hW ▸ BoxB.new _ w _ _ _)
  have HB := hide (show Below w.heap.size w W from hW ▸ (Below.refl _ _).alloc (Nat.le_refl _) _)
  go_enter Tryd.func20, Tryd.ntmps20
  go_wp2_with fail
  rw [← hW] at H ⊢
  clear hW
  refine (l1New_any a cap bs W (by omega) H.out hm).mono ?_
  rintro e w1 ⟨rfl, hc1, hb1⟩
  rw [hs] at hc1 hb1 ⊢
  have HC1 := hide hc1
  have HB1 := hide (HB.out.trans (hb1.mono (by omega)))
  have HR1 := hide (HR.out.below hb1 (by omega))
  clear hc1 hb1 HR HB
  generalize newC bs = c1 at HC1
  go_wp2_with fail
  refine (l4Some_any HC1.out).mono ?_
  rintro e w2 ⟨c2, m, a', n', cp, L, x, rfl, ho2, hl2, hc2, ht2⟩
  have HC2 := hide hc2
  have HB2 := hide (HB1.out.trans (ht2.below (by omega) HB1.out.size))
  have HR2 := hide (HR1.out.turned ht2 (by omega))
  have HO2 := hide (ho2.mono HB1.out.size)
  have HL := hide hl2
  have hne2 : w.heap.size ≠ w2.heap.size := by have := HR2.out.lt; omega
  have HQ3 := hide (fun k hk => (show k ≠ w.heap.size + 1 by have := (ho2.lt k hk).1; have := HC1.out.lt; omega))
  have hne3 : w2.heap.size ≠ w.heap.size + 1 := by have := HC2.out.lt; omega
  have HQ := hide (fun k hk => (show k ≠ w.heap.size by have := (ho2.lt k hk).1; have := HR1.out.lt; omega))
  clear hc2 ht2 ho2 hl2 HC1 HB1 HR1
  obtain ⟨W3, hW3⟩ : ∃ W3, W3 = w2.alloc (.cells #[.string m, .slice a' n' cp, .int .i64 x] 31) := ⟨_, rfl⟩
  have HC3 := hide (show Cursor B (w.heap.size + 1) a cap bs W3 c2 from hW3 ▸ HC2.out.keep ((Below.refl _ _).alloc HC2.out.lt _))
  have HB3 := hide (show Below w.heap.size w W3 from hW3 ▸ HB2.out.alloc HB2.out.size _)
  have HR3 := hide (show BoxB 31 W3 w.heap.size (.string ⟨#[]⟩) (.slice none 0 0) (.int .i64 0) from hW3 ▸ HR2.out.alloc _)
  have HD3 := hide (show BoxB 31 W3 w2.heap.size (.string m) (.slice a' n' cp) (.int .i64 x) from hW3 ▸ BoxB.new _ w2 _ _ _)
  have HO3 := hide (show OwnsS w.heap.size W3 (.slice a' n' cp) L from hW3 ▸ HO2.out.alloc _)
  have hlt3 := HC3.out.lt
  have hs3 : W3.heap.size = w2.heap.size + 1 := by rw [hW3, Go.Deep.nblk_alloc]
  go_wp2_with fail
  rw [← hW3, ← hs3]
  clear hW3 HC2 HB2 HR2 HO2
  refine (l1PickInt_any (c := c2) W3.heap.size 7 pick7 (by omega) (by omega) (by simp) (by omega) (fun j hj => ints_new 3 W3 pick7 j hj) (HC3.out.keep ((Below.refl _ _).alloc hlt3 _))).mono ?_
  rintro e w5 ⟨rfl, hc5, ht5⟩
  generalize pick7[(cBelow bs ((7 : Nat) : Int) c2).toNat]?.getD 0 = t5
  generalize aBelow bs ((7 : Nat) : Int) c2 = c5 at hc5
  have HC5 := hide hc5
  have HB5 := hide ((HB3.out.alloc HB3.out.size _).trans (ht5.below (by omega) (by rw [Go.Deep.nblk_alloc]; have := HB3.out.size; omega)))
  have HR5 := hide ((HR3.out.alloc _).turned ht5 (by omega))
  have HD5 := hide ((HD3.out.alloc _).turned ht5 hne3)
  have HO5 := hide ((HO3.out.alloc _).turned' ht5 HQ3.out)
  clear hc5 ht5 HC3 HB3 HR3 HD3 HO3
  go_upto_region 4 with (fail)
  go_region_held3 (fun w' => w'.cell? ⟨w2.heap.size, 0, none⟩ = some (.string m) ∧ w'.cell? ⟨w2.heap.size, 1, none⟩ = some (.slice a' n' cp) ∧ w'.cell? ⟨w2.heap.size, 2, none⟩ = some (.int .i64 x))
    (first
      | with_reducible exact HD5.out.cells
      | with_reducible exact HD5.out.drew.cells
      | with_reducible exact HD4.out.cells
      | with_reducible exact (((HD4.out.set_other hne2 _).set_other hne2 _).set_other hne2 _).cells)
    (first
      | (go_at_call 47
         refine (l3Key_any (c := c5) (by with_reducible exact HC5.out.drew)).mono ?_
         rintro e w4 ⟨rfl, hc4, ht4⟩
         generalize cKey bs c5 = k4
         have ht4' : Turned (w.heap.size + 1) w5 w4 := (Turned.refl _ w5).drew.trans ht4
         have HB4 := hide (HB5.out.trans (ht4'.below (by omega) HB5.out.size))
         have HR4 := hide (HR5.out.turned ht4' (by omega))
         have HD4 := hide (HD5.out.turned ht4' hne3)
         have HO4 := hide (HO5.out.turned' ht4' HQ3.out)
         obtain ⟨y0, y1, y2⟩ := HR4.out.cells
         obtain ⟨z0, z1, z2⟩ := HR4.out.frozen
         clear hc4 ht4 ht4'))
  go_wp2_with fail
  refine bodyPost_ret (res_dev_tmp2 rfl _ _ w.heap.size rfl (((HR4.out.set0 _).set1 _).set2 _)) rfl ?_
  exact ⟨m, a', n', cp, L, x, _, _, rfl, ((HO4.out.set_ne HQ.out _).set_ne HQ.out _).set_ne HQ.out _, HL.out, ((HB4.out.setCell (Nat.le_refl _) _).setCell (Nat.le_refl _) _).setCell (Nat.le_refl _) _⟩
end Go.Proofs.YtakjjfbocokpaaaDoor
