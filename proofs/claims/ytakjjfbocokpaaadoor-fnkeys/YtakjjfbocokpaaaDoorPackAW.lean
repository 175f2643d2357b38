/-
  Texts of this proof, put together: OwnG, OwnA.
-/
import Derived.Test.YtakjjfbocokpaaaDoorPackAU
import Derived.Laws.AppendOwnNone

/-
  Slots appended to slots that the call owns.
-/
namespace Go.Proofs.YtakjjfbocokpaaaDoor
open Go.ChangeShapes Go.WideShapes Go.ChangeAt Go.RowKit
set_option maxRecDepth 20000

theorem OwnsS.lit0 (B : Nat) (w : World) (hB : B ≤ w.heap.size) : OwnsS B (w.alloc (.cells #[] 74)) (.slice (some ⟨w.heap.size, 0, none⟩) 0 0) [] :=
  (HoldsS.new w []).owns hB (by simp [maxLen])
theorem OwnsS.lit1 (B : Nat) (w : World) (t : Int) (k : ByteArray) (hB : B ≤ w.heap.size) : OwnsS B (w.alloc (.cells #[.int .i64 t, .string k] 74)) (.slice (some ⟨w.heap.size, 0, none⟩) 1 1) [(t, k)] :=
  (HoldsS.new w [(t, k)]).owns hB (by simp [maxLen])
theorem OwnsS.drew {B : Nat} {w : World} {v : Value} {L : List Slot} (h : OwnsS B w v L) : OwnsS B w.drew v L := h
theorem OwnsS.alloc {B : Nat} {w : World} {v : Value} {L : List Slot} (h : OwnsS B w v L) (o : Obj) : OwnsS B (w.alloc o) v L :=
  h.below ((Below.refl w.heap.size w).alloc (Nat.le_refl _) o) (Nat.le_refl _)

theorem appendS {ops : Array Oper} {rest : List Oper} {o : Oper} {a : Act} {Q : Exit → Act → World → Prop} (hgd : o.guard = none) (s x : Operand)
    (ho : o.op = .call { callee := .builtin .append, args := #[s, x], argTypes := #[29, 29] })
    (B B2 : Nat) (w0 wr : World) (v vx : Value) (l cs : List Slot) (hs : a.eval s = v) (hx : a.eval x = vx)
    (hown : Hid (OwnsS B wr v l)) (hsrc : Hid (OwnsS B2 wr vx cs)) (hbel : Hid (Below B w0 wr)) (hB : B ≤ wr.heap.size) (M : List Slot) (n : Nat) (hM : l ++ cs = M) (hn : M.length = n) (hlen : n ≤ 1099511627776)
    (h : ∀ a' c' w', Hid (OwnsS B w' (.slice a' n c') M) → Hid (Below B w0 w') → wr.heap.size ≤ w'.heap.size → wpList Tryd.prog ops Q rest (a.put o.dst (.slice a' n c')) w') :
    wpList Tryd.prog ops Q (o :: rest) a wr := by
  obtain ⟨i0, hi, hz0, hz1, hz2⟩ := info_parts infoS
  have hlen' : l.length + cs.length ≤ 1099511627776 := by rw [← List.length_append, hM, hn]; exact hlen
  have fin : ∀ v' w', OwnsS B w' v' (l ++ cs) → Below B w0 w' → wr.heap.size ≤ w'.heap.size → wpList Tryd.prog ops Q rest (a.put o.dst v') w' := fun v' w' h1 h2 h3 => by
    obtain ⟨a', c', rfl, _⟩ := h1.form
    rw [hM, hn] at h1 ⊢
    exact h a' c' w' h1 h2 h3
  have hsrc' := hsrc.out
  obtain ⟨hl, ⟨rfl, h0⟩ | ⟨g, cap, cur, rfl, hg, hh, hn, hc, hss, ht⟩⟩ := hsrc'
  · obtain rfl : cs = [] := List.eq_nil_of_length_eq_zero h0
    refine wpList_append_own_none hgd s x 29 ho B 74 i0 2 Tryd.underlying29 hi v l.length (slotVals l) hs hown.out hx (fin v wr (by rw [List.append_nil]; exact hown.out) hbel.out (Nat.le_refl _))
  · refine wpList_plain hgd fun K hK => ?_
    refine wp_append_own _ s x 29 ho B 74 i0 (.agg #[.int .i64 0, .string ⟨#[]⟩]) 2 24 Tryd.underlying29 hi hz0 hz1 hz2 rfl (by decide) v l.length (slotVals l) hs hown.out
      ⟨g, 0, none⟩ cs.length cap (slotVals cs) hx (by rw [length_slotVals]) ?_ (slotVals_one cs) (by unfold maxLen; omega) (by omega) hB ?_
    · intro j u hj
      have hjl : j < cs.length * 2 := by
        have := (List.getElem?_eq_some_iff.1 hj).1
        rwa [length_slotVals] at this
      rw [addr_add0, ← hj, ← ht, List.getElem?_take, if_pos hjl]
      simp [World.cell?, hh]
    · intro v' w' h1 h2 _
      refine hK _ _ (fin v' w' ?_ (Below.grown hbel.out h2 hB (fun k hk => (World.ownsRow.lt hown.out k hk).1)) h2.size)
      show World.ownsRow _ _ _ _ _ _ _
      rw [List.length_append, slotVals_append]
      exact h1

theorem OwnsS.set_other {B : Nat} {w : World} {v : Value} {L : List Slot} {p : Addr} (h : OwnsS B w v L) (hp : p.block < B) (u : Value) : OwnsS B (w.setCell p u) v L :=
  h.keep fun g hg _ => heap_setCell_other w p g u (fun e => by omega)
theorem OwnsS.set_ne {B : Nat} {w : World} {v : Value} {L : List Slot} {p : Addr} (h : OwnsS B w v L) (hk : ∀ k, v.ownBlock = some k → k ≠ p.block) (u : Value) : OwnsS B (w.setCell p u) v L := by
  obtain ⟨hl, ⟨rfl, h0⟩ | ⟨g, cap, cur, rfl, hg, hh, hr⟩⟩ := h
  · exact ⟨hl, .inl ⟨rfl, h0⟩⟩
  · exact ⟨hl, .inr ⟨g, cap, cur, rfl, hg, (heap_setCell_other w p g u (hk g rfl)).trans hh, hr⟩⟩
theorem OwnsS.lt {B : Nat} {w : World} {v : Value} {L : List Slot} (h : OwnsS B w v L) : ∀ k, v.ownBlock = some k → B ≤ k ∧ k < w.heap.size := World.ownsRow.lt h
theorem oldB {B : Nat} {W w1 : World} (hb : Below B W w1) : (∀ b o, b < B → w1.cell? ⟨b, o, none⟩ = W.cell? ⟨b, o, none⟩) ∧ (∀ b o, b < B → w1.frozen? ⟨b, o, none⟩ = W.frozen? ⟨b, o, none⟩) :=
  ⟨fun _ _ h => hb.cell h, fun _ _ h => hb.frozen h⟩
def SlotsPost (w : World) (L : List Slot) (e : Ending) (w' : World) : Prop :=
  ∃ v, e = .returned v ∧ OwnsS w.heap.size w' v L ∧ Below w.heap.size w w'

end Go.Proofs.YtakjjfbocokpaaaDoor

/-
  A device as a result; spec.l4Copy.
-/
namespace Go.Proofs.YtakjjfbocokpaaaDoor
open Go.ChangeShapes Go.WideShapes Go.ChangeAt Go.RowKit

/-- a result that is a device in a block of its own -/
theorem res_dev {fn : Func} {p : Tmp} (h : fn.results = #[.cell p 31]) (tmps : Array Value) (w : World) (g : Nat) (ht : tmps.getD p undef = .pointer (some ⟨g, 0, none⟩)) {v0 v1 v2 : Value} (hx : BoxB 31 w g v0 v1 v2) :
    (results fn tmps).run Tryd.prog w = .ok (.agg #[v0, v1, v2]) w := by
  obtain ⟨c0, c1, c2⟩ := hx.cells
  rw [Array.getD_eq_getD_getElem?] at ht
  simp only [results, h]
  simp [ht, go_sem, c0, c1, c2]
theorem res_dev_tmp {fn : Func} {p u : Tmp} (h : fn.results = #[.cell p 31, .tmp u]) (tmps : Array Value) (w : World) (g : Nat) (ht : tmps.getD p undef = .pointer (some ⟨g, 0, none⟩)) {v0 v1 v2 : Value} (hx : BoxB 31 w g v0 v1 v2) :
    (results fn tmps).run Tryd.prog w = .ok (.tuple #[.agg #[v0, v1, v2], tmps.getD u undef]) w := by
  obtain ⟨c0, c1, c2⟩ := hx.cells
  rw [Array.getD_eq_getD_getElem?] at ht
  simp only [results, h]
  simp [ht, go_sem, c0, c1, c2]
def DevPost (w : World) (m : ByteArray) (L : List Slot) (x : Int) (e : Ending) (w' : World) : Prop :=
  ∃ v, e = .returned (.agg #[.string m, v, .int .i64 x]) ∧ OwnsS w.heap.size w' v L ∧ Below w.heap.size w w'
theorem l4Copy_any (B : Nat) (m : ByteArray) (v : Value) (L : List Slot) (x : Int) (w : World) (hO : OwnsS B w v L) (hl : L.length ≤ 2097152) :
    Calls Tryd.prog 62 #[.agg #[.string m, v, .int .i64 x]] w (DevPost w m L x) := by
  obtain ⟨a, cap, rfl, _⟩ := hO.form
  have HO := hide hO
  obtain ⟨n, hn⟩ : ∃ n, n = L.length := ⟨_, rfl⟩
  have HN := hide hn.symm
  rw [← hn] at hl HO
  rw [← hn]
  clear hO hn
  have P1 : ∀ o1 o2, Hid (OwnsS (w.heap.size + 1 + 1) (((w.alloc o1).alloc o2).alloc (.cells #[] 74)) (.slice (some ⟨w.heap.size + 1 + 1, 0, none⟩) 0 0) []) := fun o1 o2 => by
    have := OwnsS.lit0 (w.heap.size + 1 + 1) ((w.alloc o1).alloc o2) (by simp)
    simp only [Go.Deep.nblk_alloc] at this
    exact this
  have P2 : ∀ o1 o2 o3, Hid (OwnsS B (((w.alloc o1).alloc o2).alloc o3) (.slice a n cap) L) := fun o1 o2 o3 => ((HO.out.alloc o1).alloc o2).alloc o3
  have P4 : ∀ o1 o2 o3, w.heap.size + 1 + 1 ≤ (((w.alloc o1).alloc o2).alloc o3).heap.size := fun o1 o2 o3 => by simp
  have PX : ∀ o2 o3, Hid (BoxB 31 (((w.alloc (.cells #[.string m, .slice a n cap, .int .i64 x] 31)).alloc o2).alloc o3) w.heap.size (.string m) (.slice a n cap) (.int .i64 x)) := fun o2 o3 => ((BoxB.new _ w _ _ _).alloc o2).alloc o3
  have PY : ∀ o1 o3, Hid (BoxB 31 (((w.alloc o1).alloc (.cells #[.string ⟨#[]⟩, .slice none 0 0, .int .i64 0] 31)).alloc o3) (w.heap.size + 1) (.string ⟨#[]⟩) (.slice none 0 0) (.int .i64 0)) := fun o1 o3 => by
    have := (BoxB.new 31 (w.alloc o1) (.string ⟨#[]⟩) (.slice none 0 0) (.int .i64 0)).alloc o3
    simp only [Go.Deep.nblk_alloc] at this
    exact this
  have hB0 : ∀ o1 o2 o3, Below w.heap.size w (((w.alloc o1).alloc o2).alloc o3) := fun o1 o2 o3 => (((Below.refl _ _).alloc (Nat.le_refl _) _).alloc (by simp) _).alloc (by simp <;> omega) _
  have HB0 := hide hB0
  clear hB0
  go_enter Tryd.func62, Tryd.ntmps62
  go_wp2_with (at_builtin; go_loud (refine appendS rfl (.tmp 3) (.tmp 5) rfl (w.heap.size + 1 + 1) B _ _ _ _ [] L rfl rfl (P1 _ _) (P2 _ _ _) (hide (Below.refl _ _)) (P4 _ _ _) L n rfl HN.out (by omega) ?_); intro a' c' w' HO' HB' hsz'; have HX := hide ((PX _ _).out.below HB'.out (by omega)); have HY := hide ((PY _ _).out.below HB'.out (by omega)); obtain ⟨c0, c1, c2⟩ := HX.out.cells; obtain ⟨f0, f1, f2⟩ := HX.out.frozen; obtain ⟨d0, d1, d2⟩ := HY.out.cells; obtain ⟨g0, g1, g2⟩ := HY.out.frozen; have HB1 := hide ((HB0.out _ _ _).trans (HB'.out.mono (by omega))); clear HB'; simp only [Go.Deep.nblk_alloc] at hsz')
  refine bodyPost_ret (res_dev rfl _ _ (w.heap.size + 1) rfl ((((HY.out.set_other (by simp) _).set0 _).set1 _).set2 _)) rfl ?_
  refine ⟨_, rfl, ?_, (((HB1.out.setCell (by simp) _).setCell (by simp) _).setCell (by simp) _).setCell (by simp) _⟩
  exact ((((HO'.out.set_other (by simp <;> omega) _).set_other (by simp) _).set_other (by simp) _).set_other (by simp) _).mono (by omega)
end Go.Proofs.YtakjjfbocokpaaaDoor
