/-
  Texts of this proof, put together: KeyC.
-/
import Derived.Test.YtakjjfbocokpaaaDoorPackAZ
import Derived.Test.YtakjjfbocokpaaaDoorPackAX
import Derived.Lib.AppendZeros

/-
  Contracts of slices.Grow (of nil), slices.Concat (of three), impl.insertInOrder over slots.
-/
namespace Go.Proofs.YtakjjfbocokpaaaDoor
open Go.ChangeShapes Go.WideShapes Go.ChangeAt Go.RowKit
set_option maxRecDepth 20000

/-- what can be appended: slots that lie somewhere -/
def Src (w : World) (v : Value) (cs : List Slot) : Prop :=
  (v = .slice none 0 0 ∧ cs = []) ∨ ∃ ad c, v = .slice (some ad) cs.length c ∧ ∀ j u, (slotVals cs)[j]? = some u → w.cell? (ad.add j) = some u
theorem Src.keep {w w' : World} {v : Value} {cs : List Slot} {B : Nat} (h : Src w v cs) (hb : Below B w w') (hB : w.heap.size ≤ B) : Src w' v cs := by
  rcases h with h | ⟨ad, c, rfl, hc⟩
  · exact .inl h
  · refine .inr ⟨ad, c, rfl, fun j u hj => ?_⟩
    have h1 := hc j u hj
    have hlt := World.block_lt_of_cell? w _ h1
    rw [hb.cell (p := ad.add j) (by omega)]
    exact h1
theorem OwnsS.src {B : Nat} {w : World} {v : Value} {L : List Slot} (h : OwnsS B w v L) : Src w v L := by
  obtain ⟨hl, ⟨rfl, h0⟩ | ⟨g, cap, cur, rfl, hg, hh, hn, hc, hss, ht⟩⟩ := h
  · exact .inl ⟨rfl, List.eq_nil_of_length_eq_zero h0⟩
  · refine .inr ⟨⟨g, 0, none⟩, cap, rfl, fun j u hj => ?_⟩
    have hjl : j < L.length * 2 := by
      have := (List.getElem?_eq_some_iff.1 hj).1
      rwa [length_slotVals] at this
    rw [addr_add0, ← hj, ← ht, List.getElem?_take, if_pos hjl]
    simp [World.cell?, hh]
theorem appendG {ops : Array Oper} {rest : List Oper} {o : Oper} {a : Act} {Q : Exit → Act → World → Prop} (hgd : o.guard = none) (s x : Operand)
    (ho : o.op = .call { callee := .builtin .append, args := #[s, x], argTypes := #[29, 29] })
    (B : Nat) (w0 wr : World) (v vx : Value) (l cs : List Slot) (hs : a.eval s = v) (hx : a.eval x = vx)
    (hown : Hid (OwnsS B wr v l)) (hsrc : Hid (Src wr vx cs)) (hbel : Hid (Below B w0 wr)) (hB : B ≤ wr.heap.size) (M : List Slot) (n : Nat) (hM : l ++ cs = M) (hn : M.length = n) (hlen : n ≤ 1099511627776)
    (h : ∀ a' c' w', Hid (OwnsS B w' (.slice a' n c') M) → Hid (Below B w0 w') → wr.heap.size ≤ w'.heap.size → Hid (Only v.ownBlock wr w') → wpList Tryd.prog ops Q rest (a.put o.dst (.slice a' n c')) w') :
    wpList Tryd.prog ops Q (o :: rest) a wr := by
  obtain ⟨i0, hi, hz0, hz1, hz2⟩ := info_parts infoS
  have hlen' : l.length + cs.length ≤ 1099511627776 := by rw [← List.length_append, hM, hn]; exact hlen
  have fin : ∀ v' w', OwnsS B w' v' (l ++ cs) → Below B w0 w' → wr.heap.size ≤ w'.heap.size → Only v.ownBlock wr w' → wpList Tryd.prog ops Q rest (a.put o.dst v') w' := fun v' w' h1 h2 h3 h4 => by
    obtain ⟨a', c', rfl, _⟩ := h1.form
    rw [hM, hn] at h1 ⊢
    exact h a' c' w' h1 h2 h3 h4
  rcases hsrc.out with ⟨rfl, rfl⟩ | ⟨ad, c, rfl, hc⟩
  · exact wpList_append_own_none hgd s x 29 ho B 74 i0 2 Tryd.underlying29 hi v l.length (slotVals l) hs hown.out hx (fin v wr (by rw [List.append_nil]; exact hown.out) hbel.out (Nat.le_refl _) (Only.refl _ _))
  · refine wpList_plain hgd fun K hK => ?_
    refine wp_append_own _ s x 29 ho B 74 i0 (.agg #[.int .i64 0, .string ⟨#[]⟩]) 2 24 Tryd.underlying29 hi hz0 hz1 hz2 rfl (by decide) v l.length (slotVals l) hs hown.out
      ad cs.length c (slotVals cs) hx (by rw [length_slotVals]) hc (slotVals_one cs) (by unfold maxLen; omega) (by omega) hB ?_
    intro v' w' h1 h2 _
    refine hK _ _ (fin v' w' ?_ (Below.grown hbel.out h2 hB (fun k hk => (World.ownsRow.lt hown.out k hk).1)) h2.size h2)
    show World.ownsRow _ _ _ _ _ _ _
    rw [List.length_append, slotVals_append]
    exact h1

theorem growNil_any (n : Nat) (w : World) (h0 : 0 < n) (h1 : n ≤ 4194304) :
    Calls Tryd.prog 115 #[.slice none 0 0, .int .i64 n] w (SlotsPost w []) := by
  obtain ⟨i0, hi, hz0, hz1, hz2⟩ := info_parts infoS
  have hr := fun ty => Lib.run_append_nil_zeros (P := Tryd.prog) w 29 3 ty 74 i0 _ .i64 .i64 Tryd.underlying29 Tryd.underlying3 hi hz0 n h0 (by omega) (by omega) (by rw [hz2]; omega)
  have hge := grownCap_ge w n 0 74
  have hle := grownCap_le_maxLen w n 0 74 (by unfold maxLen; omega)
  generalize grownCap w n 0 74 = c at *
  obtain ⟨cur, hcur⟩ : ∃ cur, cur = Builtin.zeroCells (Value.agg #[.int .i64 0, .string ⟨#[]⟩]).cells n ++ Builtin.zeroCells (Value.agg #[.int .i64 0, .string ⟨#[]⟩]).cells (c - n) := ⟨_, rfl⟩
  rw [← hcur] at hr
  have hcs : cur.size = c * 2 := by rw [hcur]; simp [Builtin.zeroCells, Value.cells]; omega
  have HR := hide hr
  have HCS := hide hcs
  have hcp : (0 : Int) ≤ (c : Int) := by omega
  clear hr hcs hcur
  go_enter Tryd.func115, Tryd.ntmps115
  go_wp2_with (at_builtin; go_loud (refine Lib.wpList_append_run _ rfl (.tmp 20) (.tmp 21) 29 3 rfl _ _ rfl rfl _ _ (HR.out _) ?_))
  go_ret
  refine ⟨_, rfl, ?_, ((Below.refl _ _).drew).alloc (Nat.le_refl _) _⟩
  exact OwnsS.drew (OwnsS.of_row (Go.Deep.blk_alloc_new w _) (Nat.le_refl _) rfl (Nat.zero_le _) hle HCS.out rfl)

/-- behind j of three pieces: what is owned -/
def Cat3 (B : Nat) (w : World) (L0 L1 L2 : List Slot) (o i : Value) (wr : World) : Prop :=
  ∃ a' n' c', o = .slice a' n' c' ∧ Hid (Below w.heap.size w wr) ∧ B ≤ wr.heap.size ∧
    (i = .int .i64 0 ∧ Hid (OwnsS B wr (.slice a' n' c') []) ∨ i = .int .i64 1 ∧ Hid (OwnsS B wr (.slice a' n' c') L0) ∨
      i = .int .i64 2 ∧ Hid (OwnsS B wr (.slice a' n' c') (L0 ++ L1)) ∨ i = .int .i64 3 ∧ Hid (OwnsS B wr (.slice a' n' c') (L0 ++ L1 ++ L2)))

set_option maxHeartbeats 2000000 in
theorem concat3_any (gs : Nat) (v0 v1 v2 : Value) (L0 L1 L2 : List Slot) (w : World) (hg : gs < w.heap.size)
    (hc0 : w.cell? ⟨gs, 0, none⟩ = some v0) (hc1 : w.cell? ⟨gs, 1, none⟩ = some v1) (hc2 : w.cell? ⟨gs, 2, none⟩ = some v2)
    (h0 : Src w v0 L0) (h1 : Src w v1 L1) (h2 : Src w v2 L2) (hp : 0 < L0.length + L1.length + L2.length) (hl : L0.length + L1.length + L2.length ≤ 4194304) :
    Calls Tryd.prog 95 #[.slice (some ⟨gs, 0, none⟩) 3 3] w (SlotsPost w (L0 ++ L1 ++ L2)) := by
  have H0 := hide h0
  have H1 := hide h1
  have H2 := hide h2
  have form : ∀ v L, Src w v L → ∃ a c, v = .slice a L.length c := fun v L h => by
    rcases h with ⟨rfl, rfl⟩ | ⟨ad, c, rfl, _⟩
    · exact ⟨none, 0, rfl⟩
    · exact ⟨some ad, c, rfl⟩
  obtain ⟨a0, c0, rfl⟩ := form v0 L0 h0
  obtain ⟨a1, c1, rfl⟩ := form v1 L1 h1
  obtain ⟨a2, c2, rfl⟩ := form v2 L2 h2
  obtain ⟨n0, e0⟩ : ∃ n0, L0.length = n0 := ⟨_, rfl⟩
  obtain ⟨n1, e1⟩ : ∃ n1, L1.length = n1 := ⟨_, rfl⟩
  obtain ⟨n2, e2⟩ : ∃ n2, L2.length = n2 := ⟨_, rfl⟩
  rw [e0] at hc0 H0
  rw [e1] at hc1 H1
  rw [e2] at hc2 H2
  rw [e0, e1, e2] at hp hl
  have E0 := hide e0
  have E1 := hide e1
  have E2 := hide e2
  obtain ⟨M, hM⟩ : ∃ M, L0 ++ L1 ++ L2 = M := ⟨_, rfl⟩
  have HM := hide hM
  rw [hM]
  have L1n := hide (show ([] ++ L0).length = n0 by rw [List.nil_append, e0])
  have L2n := hide (show (L0 ++ L1).length = n0 + n1 by rw [List.length_append, e0, e1])
  have L3n := hide (show (L0 ++ L1 ++ L2).length = n0 + n1 + n2 by rw [List.length_append, List.length_append, e0, e1, e2])
  clear h0 h1 h2 form e0 e1 e2 hM
  go_enter Tryd.func95, Tryd.ntmps95
  go_wp2_with fail
  go_loop [3, 5, 11] (fun s _ i => i = .int .i64 0 ∧ s = .int .i64 0 ∨ i = .int .i64 1 ∧ s = .int .i64 (n0 : Int) ∨ i = .int .i64 2 ∧ s = .int .i64 ((n0 : Int) + n1) ∨ i = .int .i64 3 ∧ s = .int .i64 ((n0 : Int) + n1 + n2)) (fun _ _ i => 3 - (intOf i).toNat)
  case atStart => exact .inl ⟨rfl, rfl⟩
  case round =>
    rcases hrel with ⟨rfl, rfl⟩ | ⟨rfl, rfl⟩ | ⟨rfl, rfl⟩ | ⟨rfl, rfl⟩
    · go_wp2_with fail
      go_round
      case rel => exact .inr (.inl ⟨rfl, rfl⟩)
      case measure => simp [intOf]
    · go_wp2_with fail
      go_round
      case rel => exact .inr (.inr (.inl ⟨rfl, rfl⟩))
      case measure => simp [intOf]
    · go_wp2_with fail
      go_round
      case rel => exact .inr (.inr (.inr ⟨rfl, rfl⟩))
      case measure => simp [intOf]
    · go_wp2_with fail
      refine (growNil_any (n0 + n1 + n2) _ (by omega) (by omega)).mono ?_
      rintro e w1 ⟨v, rfl, ho, hb⟩
      obtain ⟨a', c', rfl, _⟩ := ho.form
      have HO := hide ho
      have HB := hide hb
      clear ho hb
      go_wp2_with fail
      go_loopw [6, 8, 27] (fun o _ i wr => Cat3 w.heap.size w L0 L1 L2 o i wr) (fun _ _ i _ => 3 - (intOf i).toNat)
      case atStart => exact ⟨a', 0, c', rfl, HB, HB.out.size, .inl ⟨rfl, HO⟩⟩
      case round =>
        obtain ⟨a', n', c', rfl, HB, hsz, hrel⟩ := hrel
        have d0 := (HB.out.cell (p := ⟨gs, 0, none⟩) hg).trans hc0
        have d1 := (HB.out.cell (p := ⟨gs, 1, none⟩) hg).trans hc1
        have d2 := (HB.out.cell (p := ⟨gs, 2, none⟩) hg).trans hc2
        have S0 := hide (H0.out.keep HB.out (Nat.le_refl _))
        have S1 := hide (H1.out.keep HB.out (Nat.le_refl _))
        have S2 := hide (H2.out.keep HB.out (Nat.le_refl _))
        rcases hrel with ⟨rfl, HO⟩ | ⟨rfl, HO⟩ | ⟨rfl, HO⟩ | ⟨rfl, HO⟩
        · go_wp2_with (at_builtin; go_loud (refine appendG rfl (.tmp 31) (.tmp 32) rfl w.heap.size w _ _ _ [] L0 rfl rfl HO S0 HB hsz ([] ++ L0) n0 rfl L1n.out (by omega) ?_); intro a2' c2' w4 HO' HB' hsz' _)
          go_roundw
          case rel => exact ⟨a2', n0, c2', rfl, HB', HB'.out.size, .inr (.inl ⟨rfl, HO'⟩)⟩
          case measure => simp [intOf]
        · go_wp2_with (at_builtin; go_loud (refine appendG rfl (.tmp 31) (.tmp 32) rfl w.heap.size w _ _ _ L0 L1 rfl rfl HO S1 HB hsz (L0 ++ L1) (n0 + n1) rfl L2n.out (by omega) ?_); intro a2' c2' w4 HO' HB' hsz' _)
          go_roundw
          case rel => exact ⟨a2', n0 + n1, c2', rfl, HB', HB'.out.size, .inr (.inr (.inl ⟨rfl, HO'⟩))⟩
          case measure => simp [intOf]
        · go_wp2_with (at_builtin; go_loud (refine appendG rfl (.tmp 31) (.tmp 32) rfl w.heap.size w _ _ _ (L0 ++ L1) L2 rfl rfl HO S2 HB hsz (L0 ++ L1 ++ L2) (n0 + n1 + n2) rfl L3n.out (by omega) ?_); intro a2' c2' w4 HO' HB' hsz' _)
          go_roundw
          case rel => exact ⟨a2', n0 + n1 + n2, c2', rfl, HB', HB'.out.size, .inr (.inr (.inr ⟨rfl, HO'⟩))⟩
          case measure => simp [intOf]
        · go_wp2_with fail
          go_ret
          exact ⟨_, rfl, by rw [← HM.out]; exact HO.out, HB.out⟩
end Go.Proofs.YtakjjfbocokpaaaDoor
