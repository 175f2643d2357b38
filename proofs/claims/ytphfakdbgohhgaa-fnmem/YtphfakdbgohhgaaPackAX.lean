/-
  Texts of this proof, put together: OrdEntB.
-/
import Derived.Test.YtphfakdbgohhgaaPackAL
import Derived.Test.YtphfakdbgohhgaaPackAK
import Derived.StillTailTactics
import Derived.Lib.AppendZeros
import Derived.Deep.DeepCutAuto
import Derived.Deep.QuietTactic
import Derived.BigQuiet

/-
  Contracts of slices.Grow (of nil) and slices.Concat (of three) over rows of impl.Ent. (Written by mkord.py.)
-/
namespace Go.Proofs.Ytphfakdbgohhgaa
open Go.ChangeShapes Go.WideShapes Go.ChangeAt Go.RowKit

def RowPostEnt (w : World) (L : List EntE) (e : Ending) (w' : World) : Prop := ∃ v, e = .returned v ∧ elEnt.Owns w.heap.size w' v L ∧ Below w.heap.size w w'
set_option maxRecDepth 20000 in
theorem growNilEnt_any (n : Nat) (w : World) (h0 : 0 < n) (h1 : n ≤ 4194304) :
    Calls Try.prog 110 #[.slice none 0 0, .int .i64 n] w (RowPostEnt w []) := by
  obtain ⟨i0, hi, hz0, hz1, hz2⟩ := info_parts infoEnt
  have hr := fun ty => Lib.run_append_nil_zeros (P := Try.prog) w 24 3 ty 26 i0 _ .i64 .i64 Try.underlying24 Try.underlying3 hi hz0 n h0 (by omega) (by omega) (by rw [hz2]; omega)
  have hge := grownCap_ge w n 0 26
  have hle := grownCap_le_maxLen w n 0 26 (by unfold maxLen; omega)
  generalize grownCap w n 0 26 = c at *
  obtain ⟨cur, hcur⟩ : ∃ cur, cur = Builtin.zeroCells (Value.agg #[.string ⟨#[]⟩, .int .i64 0, .bool false, .string ⟨#[]⟩]).cells n ++ Builtin.zeroCells (Value.agg #[.string ⟨#[]⟩, .int .i64 0, .bool false, .string ⟨#[]⟩]).cells (c - n) := ⟨_, rfl⟩
  rw [← hcur] at hr
  have hcs : cur.size = c * 4 := by rw [hcur]; simp [Builtin.zeroCells, Value.cells]; omega
  have HR := hide hr
  have HCS := hide hcs
  have hcp : (0 : Int) ≤ (c : Int) := by omega
  clear hr hcs hcur
  go_enter Try.func110, Try.ntmps110
  go_wp2_with (at_builtin; go_loud (refine Lib.wpList_append_run _ rfl (.tmp 20) (.tmp 21) 24 3 rfl _ _ rfl rfl _ _ (HR.out _) ?_))
  go_ret
  refine ⟨_, rfl, ?_, ((Below.refl _ _).drew).alloc (Nat.le_refl _) _⟩
  exact El.Owns.drew (El.Owns.of_row (Go.Deep.blk_alloc_new w _) (Nat.le_refl _) rfl (Nat.zero_le _) hle HCS.out rfl)

/-- behind j of three pieces: what is owned -/
def Cat3Ent (B : Nat) (w : World) (L0 L1 L2 : List EntE) (o i : Value) (wr : World) : Prop :=
  ∃ a' n' c', o = .slice a' n' c' ∧ Hid (Below w.heap.size w wr) ∧ B ≤ wr.heap.size ∧
    (i = .int .i64 0 ∧ Hid (elEnt.Owns B wr (.slice a' n' c') []) ∨ i = .int .i64 1 ∧ Hid (elEnt.Owns B wr (.slice a' n' c') L0) ∨
      i = .int .i64 2 ∧ Hid (elEnt.Owns B wr (.slice a' n' c') (L0 ++ L1)) ∨ i = .int .i64 3 ∧ Hid (elEnt.Owns B wr (.slice a' n' c') (L0 ++ L1 ++ L2)))

set_option maxHeartbeats 2000000 in
set_option maxRecDepth 20000 in
theorem concat3Ent_any (gs : Nat) (v0 v1 v2 : Value) (L0 L1 L2 : List EntE) (w : World) (hg : gs < w.heap.size)
    (hc0 : w.cell? ⟨gs, 0, none⟩ = some v0) (hc1 : w.cell? ⟨gs, 1, none⟩ = some v1) (hc2 : w.cell? ⟨gs, 2, none⟩ = some v2)
    (h0 : elEnt.Src w v0 L0) (h1 : elEnt.Src w v1 L1) (h2 : elEnt.Src w v2 L2) (hp : 0 < L0.length + L1.length + L2.length) (hl : L0.length + L1.length + L2.length ≤ 4194304) :
    Calls Try.prog 105 #[.slice (some ⟨gs, 0, none⟩) 3 3] w (RowPostEnt w (L0 ++ L1 ++ L2)) := by
  have H0 := hide h0
  have H1 := hide h1
  have H2 := hide h2
  obtain ⟨a0, c0, rfl⟩ := h0.form
  obtain ⟨a1, c1, rfl⟩ := h1.form
  obtain ⟨a2, c2, rfl⟩ := h2.form
  obtain ⟨n0, e0⟩ : ∃ n0, L0.length = n0 := ⟨_, rfl⟩
  obtain ⟨n1, e1⟩ : ∃ n1, L1.length = n1 := ⟨_, rfl⟩
  obtain ⟨n2, e2⟩ : ∃ n2, L2.length = n2 := ⟨_, rfl⟩
  rw [e0] at hc0 H0
  rw [e1] at hc1 H1
  rw [e2] at hc2 H2
  rw [e0, e1, e2] at hp hl
  obtain ⟨M, hM⟩ : ∃ M, L0 ++ L1 ++ L2 = M := ⟨_, rfl⟩
  have HM := hide hM
  rw [hM]
  have L1n := hide (show ([] ++ L0).length = n0 by rw [List.nil_append, e0])
  have L2n := hide (show (L0 ++ L1).length = n0 + n1 by rw [List.length_append, e0, e1])
  have L3n := hide (show (L0 ++ L1 ++ L2).length = n0 + n1 + n2 by rw [List.length_append, List.length_append, e0, e1, e2])
  clear h0 h1 h2 e0 e1 e2 hM
  go_enter Try.func105, Try.ntmps105
  go_wp2_with fail
  go_loop [3, 5, 11] (fun s _ i => i = .int .i64 0 ∧ s = .int .i64 0 ∨ i = .int .i64 1 ∧ s = .int .i64 (n0 : Int) ∨ i = .int .i64 2 ∧ s = .int .i64 ((n0 : Int) + n1) ∨ i = .int .i64 3 ∧ s = .int .i64 ((n0 : Int) + n1 + n2)) (fun _ _ i => 3 - (intOf i).toNat)
  case atStart => exact .inl ⟨rfl, rfl⟩
  case round =>
    rcases hrel with ⟨rfl, rfl⟩ | ⟨rfl, rfl⟩ | ⟨rfl, rfl⟩ | ⟨rfl, rfl⟩
    · go_wp2_with fail
      go_round
      case rel => exact .inr (.inl ⟨rfl, rfl⟩)
      case measure => simp [intOf]
    · go_wp2_with fail
      go_round
      case rel => exact .inr (.inr (.inl ⟨rfl, rfl⟩))
      case measure => simp [intOf]
    · go_wp2_with fail
      go_round
      case rel => exact .inr (.inr (.inr ⟨rfl, rfl⟩))
      case measure => simp [intOf]
    · go_wp2_with fail
      refine (growNilEnt_any (n0 + n1 + n2) _ (by omega) (by omega)).mono ?_
      rintro e w1 ⟨v, rfl, ho, hb⟩
      obtain ⟨a', c', rfl, _⟩ := ho.form
      have HO := hide ho
      have HB := hide hb
      clear ho hb
      go_wp2_with fail
      go_loopw [6, 8, 27] (fun o _ i wr => Cat3Ent w.heap.size w L0 L1 L2 o i wr) (fun _ _ i _ => 3 - (intOf i).toNat)
      case atStart => exact ⟨a', 0, c', rfl, HB, HB.out.size, .inl ⟨rfl, HO⟩⟩
      case round =>
        obtain ⟨a', n', c', rfl, HB, hsz, hrel⟩ := hrel
        have d0 := (HB.out.cell (p := ⟨gs, 0, none⟩) hg).trans hc0
        have d1 := (HB.out.cell (p := ⟨gs, 1, none⟩) hg).trans hc1
        have d2 := (HB.out.cell (p := ⟨gs, 2, none⟩) hg).trans hc2
        have S0 := hide (H0.out.keep HB.out (Nat.le_refl _))
        have S1 := hide (H1.out.keep HB.out (Nat.le_refl _))
        have S2 := hide (H2.out.keep HB.out (Nat.le_refl _))
        rcases hrel with ⟨rfl, HO⟩ | ⟨rfl, HO⟩ | ⟨rfl, HO⟩ | ⟨rfl, HO⟩
        · go_wp2_with (at_builtin; go_loud (refine El.appendSrc (e := elEnt) rfl (.tmp 31) (.tmp 32) 24 rfl Try.underlying24 _ _ infoEnt rfl (by decide) (by decide) w.heap.size w _ _ _ [] L0 rfl rfl HO S0 HB hsz ([] ++ L0) n0 rfl L1n.out (by omega) ?_); intro a2' c2' w4 HO' HB' hsz' _)
          go_roundw
          case rel => exact ⟨a2', n0, c2', rfl, HB', HB'.out.size, .inr (.inl ⟨rfl, HO'⟩)⟩
          case measure => simp [intOf]
        · go_wp2_with (at_builtin; go_loud (refine El.appendSrc (e := elEnt) rfl (.tmp 31) (.tmp 32) 24 rfl Try.underlying24 _ _ infoEnt rfl (by decide) (by decide) w.heap.size w _ _ _ L0 L1 rfl rfl HO S1 HB hsz (L0 ++ L1) (n0 + n1) rfl L2n.out (by omega) ?_); intro a2' c2' w4 HO' HB' hsz' _)
          go_roundw
          case rel => exact ⟨a2', n0 + n1, c2', rfl, HB', HB'.out.size, .inr (.inr (.inl ⟨rfl, HO'⟩))⟩
          case measure => simp [intOf]
        · go_wp2_with (at_builtin; go_loud (refine El.appendSrc (e := elEnt) rfl (.tmp 31) (.tmp 32) 24 rfl Try.underlying24 _ _ infoEnt rfl (by decide) (by decide) w.heap.size w _ _ _ (L0 ++ L1) L2 rfl rfl HO S2 HB hsz (L0 ++ L1 ++ L2) (n0 + n1 + n2) rfl L3n.out (by omega) ?_); intro a2' c2' w4 HO' HB' hsz' _)
          go_roundw
          case rel => exact ⟨a2', n0 + n1 + n2, c2', rfl, HB', HB'.out.size, .inr (.inr (.inr ⟨rfl, HO'⟩))⟩
          case measure => simp [intOf]
        · go_wp2_with fail
          go_ret
          exact ⟨_, rfl, by rw [← HM.out]; exact HO.out, HB.out⟩
end Go.Proofs.Ytphfakdbgohhgaa
