/-
  Texts of this proof, put together: TokR.
-/
import Derived.Test.YtoaobhfooccliaaPackAR
import Derived.BigQuiet

/-
  Contract of spec.ReadToken.
-/
namespace Go.Proofs.Ytoaobhfooccliaa
open Go.ChangeShapes Go.WideShapes Go.ChangeAt Go.RowKit

/-- the first two varints of a string -/
theorem vars_two (s : List UInt8) : varsF s 2 0 = if szT s = 0 then ([], -1) else if szE s = 0 then ([claimT s], -1) else ([claimT s, claimE s], ((szT s + szE s : Nat) : Int)) := by
  have h1 := (size_claim s).1
  have e0 : s.drop 0 = s := rfl
  by_cases h0 : szT s = 0
  · rw [if_pos h0]
    exact varsF_none s 1 0 (by omega) h0
  · rw [if_neg h0, show (0 : Int) = ((0 : Nat) : Int) from rfl, varsF_step s 1 0 (by omega) h0, e0]
    rw [show (readVarL s).2 = szT s from rfl, show (readVarL s).1 = claimT s from rfl, Nat.zero_add]
    by_cases h2 : szE s = 0
    · rw [if_pos h2, varsF_none s 0 (szT s) h1 h2]
    · rw [if_neg h2, varsF_step s 0 (szT s) h1 h2, varsF_zero]
      rfl
theorem below_drewN' {B : Nat} {a b : World} (h : Below B a b) (n : Nat) : Below B a (b.drewN n) := ⟨h.os, h.tape, h.output, h.size, h.block⟩
theorem ne_empty {s : ByteArray} (h : bl s ≠ []) : (s.toList == []) = false := by
  rw [beq_eq_false_iff_ne, ByteArray.toList_eq]
  exact h

set_option maxHeartbeats 1000000 in
set_option maxRecDepth 20000 in
theorem sReadToken_any (k s : ByteArray) (hm : s.size ≤ 1048576) (w : World) :
    Calls Try.prog 9 #[.string k, .string s] w (ReadPost w (bl k) (bl s)) := by
  have HY := hide (fun (h : isTok (bl k) (bl s)) e w' => readPost_yes (w := w) (w' := w') (e := e) h)
  have HN := hide (fun (h : ¬ isTok (bl k) (bl s)) e w' => readPost_no (w := w) (w' := w') (e := e) h)
  have HV := hide (fun W => l6Vars_any s (by omega) 0 2 (by omega) W)
  rw [show (2 : Int).toNat = 2 from rfl, vars_two] at HV
  by_cases hz : szT (bl s) = 0 ∨ szE (bl s) = 0
  · have hno : ¬ isTok (bl k) (bl s) := fun h => by have := tok_claims h; omega
    have HP := hide (HN.out hno)
    obtain ⟨L, hL⟩ : ∃ L : List Nat, Hid (∀ W, Calls Try.prog 21 #[.string s, .int .i64 0, .int .i64 2] W (VarsPost W L (-1))) := by
      by_cases h0 : szT (bl s) = 0
      · rw [if_pos h0] at HV; exact ⟨_, HV⟩
      · rw [if_neg h0, if_pos (by omega)] at HV; exact ⟨_, HV⟩
    clear hno HY HN HV hz
    go_enter Try.func9, Try.ntmps9
    go_wp2_with fail
    refine (hL.out _).mono ?_
    rintro e w1 ⟨v, rfl, _, hb1⟩
    have HB1 := hide hb1
    clear hb1
    go_wp2_with fail
    go_quiet (fail)
    all_goals go_wp2_with fail
    all_goals go_ret3
    all_goals exact HP.out _ _ rfl (below_drewN' HB1.out _)
  · obtain ⟨T, hT⟩ : ∃ T, T = claimT (bl s) := ⟨_, rfl⟩
    obtain ⟨E, hE⟩ : ∃ E, E = claimE (bl s) := ⟨_, rfl⟩
    obtain ⟨q, hq⟩ : ∃ q : Nat, q = szT (bl s) + szE (bl s) := ⟨_, rfl⟩
    have hs0 : bl s ≠ [] := by
      intro h0
      have h1 := (size_claim (bl s)).1
      rw [h0] at h1 hz
      simp only [List.length_nil, Nat.le_zero] at h1
      exact hz (Or.inl h1)
    have hne := ne_empty hs0
    have HI := hide (show isTok (bl k) (bl s) ↔ tokV (bl k) T E = bl s by
      rw [hT, hE]; exact ⟨fun h => h.2, fun h => ⟨hs0, h⟩⟩)
    rw [if_neg (fun h => hz (Or.inl h)), if_neg (fun h => hz (Or.inr h)), ← hT, ← hE, ← hq] at HV
    rw [← hT, ← hE] at HY
    have HM := hide (fun W => sMint_any k T E W)
    obtain ⟨V, hV⟩ : ∃ V, V = tokV (bl k) T E := ⟨_, rfl⟩
    rw [← hV] at HM HI
    have hq0 : decide ((q : Int) < 0) = false := decide_eq_false (by omega)
    clear hz hs0 hq hT hE hV
    go_enter Try.func9, Try.ntmps9
    go_wp2_with fail
    refine (HV.out _).mono ?_
    rintro e w1 ⟨v, rfl, ho1, hb1⟩
    obtain ⟨g, cap, tl, rfl, hgb, hglt, hW⟩ := ho1.words (by simp)
    have HW := hide hW
    have HB1 := hide hb1
    clear ho1 hb1 hW HV
    have c0 : w1.cell? ⟨g, 0, none⟩ = some (.int .i64 (T : Int)) := HW.out.cell 0 (by simp)
    have c1 : w1.cell? ⟨g, 1, none⟩ = some (.int .i64 (E : Int)) := HW.out.cell 1 (by simp)
    have HX : Hid (Box2 w1 g (.int .i64 (T : Int)) (.int .i64 (E : Int))) := ⟨hglt, c0, c1⟩
    go_wp2_with fail
    by_cases hv : V = bl s
    · have HP := hide (HY.out (HI.out.2 hv))
      have hbe : (!(V == s.toList)) = false := by rw [Bool.not_eq_false', beq_iff_eq, ByteArray.toList_eq]; exact hv
      clear hv HI HN HY
      go_region_held3 (fun w' => w'.cell? ⟨g, 0, none⟩ = some (.int .i64 (T : Int)) ∧ w'.cell? ⟨g, 1, none⟩ = some (.int .i64 (E : Int)))
        (first
          | with_reducible exact HX.out.cells
          | with_reducible exact HX.out.drew.cells
          | with_reducible exact HX2.out.cells)
        (first
          | (go_at_call 12
             refine (HM.out _).mono ?_
             rintro e w2 ⟨rfl, hb2⟩
             have hb2' := below_of_drew' hb2
             have HB2 := hide (HB1.out.trans (hb2'.mono HB1.out.size))
             have HX2 := hide (HX.out.below hb2' HX.out.lt)
             obtain ⟨d0, d1⟩ := HX2.out.cells
             clear hb2 hb2'))
      all_goals go_wp2_with fail
      all_goals go_region
      all_goals go_wp2_with fail
      all_goals go_ret3
      all_goals exact HP.out _ _ rfl HB2.out.drew
    · have HP := hide (HN.out (fun h => hv (HI.out.1 h)))
      have hbe : (!(V == s.toList)) = true := by rw [ne_str hv]; rfl
      clear hv HI HN HY
      go_region_held3 (fun w' => w'.cell? ⟨g, 0, none⟩ = some (.int .i64 (T : Int)) ∧ w'.cell? ⟨g, 1, none⟩ = some (.int .i64 (E : Int)))
        (first
          | with_reducible exact HX.out.cells
          | with_reducible exact HX.out.drew.cells
          | with_reducible exact HX2.out.cells)
        (first
          | (go_at_call 12
             refine (HM.out _).mono ?_
             rintro e w2 ⟨rfl, hb2⟩
             have hb2' := below_of_drew' hb2
             have HB2 := hide (HB1.out.trans (hb2'.mono HB1.out.size))
             have HX2 := hide (HX.out.below hb2' HX.out.lt)
             obtain ⟨d0, d1⟩ := HX2.out.cells
             clear hb2 hb2'))
      all_goals go_wp2_with fail
      all_goals go_ret3
      all_goals exact HP.out _ _ rfl HB2.out
end Go.Proofs.Ytoaobhfooccliaa
