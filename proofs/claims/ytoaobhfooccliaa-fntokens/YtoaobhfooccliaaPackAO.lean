/-
  Texts of this proof, put together: TokA, TokB, TokC.
-/
import Derived.Test.YtoaobhfooccliaaPackAN
import Derived.Test.YtoaobhfooccliaaPackAK
import Derived.Test.YtoaobhfooccliaaPackAM
import Derived.Deep.RegionHeld3

/-
  Contracts of impl.tenantOk and grant.ok.
-/
namespace Go.Proofs.Ytoaobhfooccliaa
open Go.ChangeShapes Go.WideShapes Go.ChangeAt Go.RowKit

/-- block g holds a struct of two cells -/
def Box2 (w : World) (g : Nat) (v0 v1 : Value) : Prop := g < w.heap.size ∧ w.cell? ⟨g, 0, none⟩ = some v0 ∧ w.cell? ⟨g, 1, none⟩ = some v1
theorem Box2.below {w w' : World} {g B : Nat} {v0 v1 : Value} (h : Box2 w g v0 v1) (hb : Below B w w') (hg : g < B) : Box2 w' g v0 v1 :=
  ⟨Nat.lt_of_lt_of_le h.1 hb.size, (hb.cell (p := ⟨g, 0, none⟩) hg).trans h.2.1, (hb.cell (p := ⟨g, 1, none⟩) hg).trans h.2.2⟩
theorem Box2.new (w : World) (v0 v1 : Value) (T : TypeId) : Box2 (w.alloc (.cells #[v0, v1] T)) w.heap.size v0 v1 := ⟨by simp, by simp, by simp⟩
theorem Box2.cells {w : World} {g : Nat} {v0 v1 : Value} (h : Box2 w g v0 v1) : w.cell? ⟨g, 0, none⟩ = some v0 ∧ w.cell? ⟨g, 1, none⟩ = some v1 := h.2
theorem Box2.lt {w : World} {g : Nat} {v0 v1 : Value} (h : Box2 w g v0 v1) : g < w.heap.size := h.1
theorem Box2.drew {w : World} {g : Nat} {v0 v1 : Value} (h : Box2 w g v0 v1) : Box2 w.drew g v0 v1 := h

theorem tenantOk_any (t : Int) (w : World) : Calls Try.prog 39 #[.int .i64 t] w fun e w' => e = .returned (.bool (decide (1 ≤ t) && decide (t ≤ 99))) ∧ w = w' := by
  go_enter Try.func39, Try.ntmps39
  go_wp2
  all_goals go_ret
  all_goals (refine ⟨?_, rfl⟩; simp [*] <;> omega)

def grantOk (t e : Int) : Bool := (decide (1 ≤ t) && decide (t ≤ 99)) && decide (0 ≤ e) && decide (e ≤ 1000000)
theorem grantOk_true {t e : Int} (h : 1 ≤ t ∧ t ≤ 99 ∧ 0 ≤ e ∧ e ≤ 1000000) : grantOk t e = true := by
  unfold grantOk; simp; omega
theorem grantOk_false {t e : Int} (h : ¬ (1 ≤ t ∧ t ≤ 99 ∧ 0 ≤ e ∧ e ≤ 1000000)) : grantOk t e = false := by
  unfold grantOk; rw [Bool.eq_false_iff]; simp; omega
def OkPost (w : World) (b : Bool) (e : Ending) (w' : World) : Prop := e = .returned (.bool b) ∧ Below w.heap.size w w'

theorem grantOk_any (t n : Int) (w : World) : Calls Try.prog 32 #[.agg #[.int .i64 t, .int .i64 n]] w (OkPost w (grantOk t n)) := by
  unfold grantOk
  cases d1 : (decide (1 ≤ t) && decide (t ≤ 99)) <;> cases d2 : decide (0 ≤ n) <;> cases d3 : decide (n ≤ 1000000)
  all_goals
    go_enter Try.func32, Try.ntmps32
    go_wp2_with (go_at_call 39; refine (tenantOk_any _ _).mono ?_; rw [d1]; rintro e w' ⟨rfl, rfl⟩)
    go_ret
    exact ⟨rfl, (Below.refl _ _).alloc (Nat.le_refl _) _⟩
end Go.Proofs.Ytoaobhfooccliaa

/-
  Contract of tokenSecret.tag.
-/
namespace Go.Proofs.Ytoaobhfooccliaa
open Go.ChangeShapes Go.WideShapes Go.ChangeAt Go.RowKit

theorem tag_bad {k : List UInt8} {t e : Int} (hg : 1 ≤ t ∧ t ≤ 99 ∧ 0 ≤ e ∧ e ≤ 1000000) (h : ¬ tokOk k t e) : blockV k e (nonceL 2 t) = [] := by
  rw [blockV_nil]
  intro hb
  exact h ⟨hb.1, hg⟩

set_option maxHeartbeats 1000000 in
set_option maxRecDepth 20000 in
theorem tag_any (k : ByteArray) (t n : Int) (w : World) :
    Calls Try.prog 20 #[.string k, .agg #[.int .i64 t, .int .i64 n]] w (StrPost w (tagV (bl k) t n)) := by
  obtain ⟨V, hV⟩ : ∃ V, V = tagV (bl k) t n := ⟨_, rfl⟩
  have HV := hide hV
  rw [← hV]
  clear hV
  go_enter Try.func20, Try.ntmps20
  go_wp2_with fail
  refine (grantOk_any t n _).mono ?_
  rintro e w1 ⟨rfl, hb1⟩
  have HX := hide ((Box2.new w (.int .i64 t) (.int .i64 n) 40).below hb1 (by simp))
  have HB1 := hide (((Below.refl _ w).alloc (Nat.le_refl _) _).trans (hb1.mono (by simp)))
  clear hb1
  by_cases hg : 1 ≤ t ∧ t ≤ 99 ∧ 0 ≤ n ∧ n ≤ 1000000
  · rw [grantOk_true hg]
    have HG := hide hg
    obtain ⟨S, hS⟩ : ∃ S, S = blockV (bl k) n (nonceL 2 t) := ⟨_, rfl⟩
    have HS := hide hS
    have HBl := hide (fun W => iBlock_any k ⟨(nonceL 2 t).toArray⟩ n W)
    rw [bl_of (nonceL 2 t), ← hS] at HBl
    clear hg hS
    obtain ⟨c0, c1⟩ := HX.out.cells
    have hlt := HX.out.lt
    go_wp2_with fail
    go_region_held3 (fun w' => w'.cell? ⟨w.heap.size, 0, none⟩ = some (.int .i64 t) ∧ w'.cell? ⟨w.heap.size, 1, none⟩ = some (.int .i64 n))
      (first
        | with_reducible exact HX.out.cells
        | with_reducible exact HX.out.drew.cells
        | with_reducible exact HX2.out.cells
        | with_reducible exact HX3.out.cells)
      (first
        | (go_at_call 34
           refine (iNonce_any 2 t _).mono ?_
           rintro e w2 ⟨rfl, hb2⟩
           have hb2' := below_of_drew' hb2
           have HX2 := hide (HX.out.below hb2' HX.out.lt)
           have HB2 := hide (HB1.out.trans (hb2'.mono HB1.out.size))
           clear hb2 hb2')
        | (go_at_call 33
           refine (HBl.out _).mono ?_
           rintro e w3 ⟨rfl, hb3⟩
           have HX3 := hide (HX2.out.below hb3 HX2.out.lt)
           have HB3 := hide (HB2.out.trans (hb3.mono HB2.out.size))
           clear hb3))
    all_goals
      by_cases hk : tokOk (bl k) t n
      · have HV1 := hide (show V = S.take 8 by rw [HV.out, tagV_yes hk, tagL, ← HS.out])
        have hl : (ByteArray.mk S.toArray).size = 64 := by rw [size_of, HS.out, length_blockV (tok_block hk)]
        have HE := hide (ext_take (ByteArray.mk S.toArray) 8)
        rw [bl_of S, ← HV1.out] at HE
        generalize (ByteArray.mk S.toArray) = sb at hl HE ⊢
        clear hk
        go_wp2_with fail
        go_ret
        exact ⟨by rw [HE.out]; rfl, HB3.out⟩
      · have HV1 := hide (show V = [] by rw [HV.out, tagV_no hk])
        have hS0 : S = [] := by rw [HS.out]; exact tag_bad HG.out hk
        subst hS0
        clear hk
        go_wp2_with fail
        go_ret
        exact ⟨by rw [HV1.out]; rfl, HB3.out⟩
  · rw [grantOk_false hg]
    have HV1 := hide (show V = [] by rw [HV.out, tagV_no (fun h => hg h.2)])
    clear hg
    go_wp2_with fail
    go_ret
    exact ⟨by rw [HV1.out]; rfl, HB1.out⟩
end Go.Proofs.Ytoaobhfooccliaa

/-
  Contracts of impl.writeToken and impl.MintToken.
-/
namespace Go.Proofs.Ytoaobhfooccliaa
open Go.ChangeShapes Go.WideShapes Go.ChangeAt Go.RowKit

set_option maxHeartbeats 1000000 in
set_option maxRecDepth 20000 in
theorem writeToken_any (k : ByteArray) (t n : Int) (w : World) :
    Calls Try.prog 19 #[.agg #[.int .i64 t, .int .i64 n], .func (.func 20) #[.string k] #[]] w (StrPost w (tokV (bl k) t n)) := by
  obtain ⟨V, hV⟩ : ∃ V, V = tokV (bl k) t n := ⟨_, rfl⟩
  have HV := hide hV
  rw [← hV]
  clear hV
  go_enter Try.func19, Try.ntmps19
  go_wp2_with fail
  refine (tag_any k t n _).mono ?_
  rintro e w1 ⟨rfl, hb1⟩
  have HX := hide ((Box2.new w (.int .i64 t) (.int .i64 n) 40).below hb1 (by simp))
  have HB1 := hide (((Below.refl _ w).alloc (Nat.le_refl _) _).trans (hb1.mono (by simp)))
  clear hb1
  by_cases hk : tokOk (bl k) t n
  · rw [tagV_yes hk]
    obtain ⟨S, hS⟩ : ∃ S, S = tagL (bl k) t n := ⟨_, rfl⟩
    obtain ⟨VT, hT⟩ : ∃ VT, VT = varV t := ⟨_, rfl⟩
    obtain ⟨VE, hE⟩ : ∃ VE, VE = varV n := ⟨_, rfl⟩
    have HV1 := hide (show V = VT ++ VE ++ S by rw [HV.out, tokV_yes hk, hT, hE, hS])
    have hl : S.length = 8 := by rw [hS]; exact length_tagL hk
    have hlT : VT.length ≤ 7 := by rw [hT]; exact varV_len t
    have hlE : VE.length ≤ 7 := by rw [hE]; exact varV_len n
    have s1 : S.isEmpty = false := by
      cases S
      · simp at hl
      · rfl
    have ha1 := run_cat VT VE (by omega)
    have ha2 := run_cat (VT ++ VE) S (by rw [List.length_append]; omega)
    have HT := hide (fun W => iVar_any t W)
    have HE := hide (fun W => iVar_any n W)
    rw [← hT] at HT
    rw [← hE] at HE
    rw [← hS]
    clear hk hS hT hE hl hlT hlE
    obtain ⟨c0, c1⟩ := HX.out.cells
    have hlt := HX.out.lt
    go_wp2_with fail
    go_region_held3 (fun w' => w'.cell? ⟨w.heap.size, 0, none⟩ = some (.int .i64 t) ∧ w'.cell? ⟨w.heap.size, 1, none⟩ = some (.int .i64 n))
      (first
        | with_reducible exact HX.out.cells
        | with_reducible exact HX.out.drew.cells
        | with_reducible exact HX2.out.cells
        | with_reducible exact HX3.out.cells)
      (first
        | (have hq2 := HX2.out
           clear hq2
           go_at_call 31
           refine (HE.out _).mono ?_
           rintro e w3 ⟨rfl, hb3⟩
           have HX3 := hide (HX2.out.below hb3 HX2.out.lt)
           have HB3 := hide (HB2.out.trans (hb3.mono HB2.out.size))
           clear hb3)
        | (go_at_call 31
           refine (HT.out _).mono ?_
           rintro e w2 ⟨rfl, hb2⟩
           have hb2' := below_of_drew' hb2
           have HX2 := hide (HX.out.below hb2' HX.out.lt)
           have HB2 := hide (HB1.out.trans (hb2'.mono HB1.out.size))
           clear hb2 hb2'))
    all_goals go_wp2_with fail
    all_goals go_ret
    all_goals exact ⟨by rw [HV1.out, List.append_assoc]; rfl, HB3.out⟩
  · rw [tagV_no hk]
    have HV1 := hide (show V = [] by rw [HV.out, tokV_no hk])
    clear hk
    go_wp2_with fail
    go_ret
    exact ⟨by rw [HV1.out]; rfl, HB1.out⟩

theorem iMint_any (k : ByteArray) (t n : Int) (w : World) :
    Calls Try.prog 10 #[.string k, .int .i64 t, .int .i64 n] w (StrPost w (tokV (bl k) t n)) := by
  have hmf : ∀ (fn : Fn) (first cap : Array Value) (w : World), (Instr.makeFunc fn first cap).run Try.prog w = .ok (.func fn first cap) w := fun _ _ _ _ => rfl
  obtain ⟨V, hV⟩ : ∃ V, V = tokV (bl k) t n := ⟨_, rfl⟩
  have HW := hide (fun W => writeToken_any k t n W)
  rw [← hV] at HW ⊢
  clear hV
  go_enter Try.func10, Try.ntmps10
  go_wp2_with fail
  refine (HW.out _).mono ?_
  rintro e w1 ⟨rfl, hb1⟩
  have HB1 := hide hb1
  clear hb1
  go_wp2_with fail
  go_ret
  exact ⟨rfl, HB1.out⟩
end Go.Proofs.Ytoaobhfooccliaa
