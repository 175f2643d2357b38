/-
  Contract of tokenSecret.tag.
-/
import Derived.Test.YtoaobhfooccliaaTokA
namespace Go.Proofs.Ytoaobhfooccliaa
open Go.ChangeShapes Go.WideShapes Go.ChangeAt Go.RowKit

theorem tag_bad {k : List UInt8} {t e : Int} (hg : 1 ≤ t ∧ t ≤ 99 ∧ 0 ≤ e ∧ e ≤ 1000000) (h : ¬ tokOk k t e) : blockV k e (nonceL 2 t) = [] := by
  rw [blockV_nil]
  intro hb
  exact h ⟨hb.1, hg⟩

set_option maxHeartbeats 1000000 in
set_option maxRecDepth 20000 in
theorem tag_any (k : ByteArray) (t n : Int) (w : World) :
    Calls Try.prog 20 #[.string k, .agg #[.int .i64 t, .int .i64 n]] w (StrPost w (tagV (bl k) t n)) := by
  obtain ⟨V, hV⟩ : ∃ V, V = tagV (bl k) t n := ⟨_, rfl⟩
  have HV := hide hV
  rw [← hV]
  clear hV
  go_enter Try.func20, Try.ntmps20
  go_wp2_with fail
  refine (grantOk_any t n _).mono ?_
  rintro e w1 ⟨rfl, hb1⟩
  have HX := hide ((Box2.new w (.int .i64 t) (.int .i64 n) 40).below hb1 (by simp))
  have HB1 := hide (((Below.refl _ w).alloc (Nat.le_refl _) _).trans (hb1.mono (by simp)))
  clear hb1
  by_cases hg : 1 ≤ t ∧ t ≤ 99 ∧ 0 ≤ n ∧ n ≤ 1000000
  · rw [grantOk_true hg]
    have HG := hide hg
    obtain ⟨S, hS⟩ : ∃ S, S = blockV (bl k) n (nonceL 2 t) := ⟨_, rfl⟩
    have HS := hide hS
    have HBl := hide (fun W => iBlock_any k ⟨(nonceL 2 t).toArray⟩ n W)
    rw [bl_of (nonceL 2 t), ← hS] at HBl
    clear hg hS
    obtain ⟨c0, c1⟩ := HX.out.cells
    have hlt := HX.out.lt
    go_wp2_with fail
    go_region_held3 (fun w' => w'.cell? ⟨w.heap.size, 0, none⟩ = some (.int .i64 t) ∧ w'.cell? ⟨w.heap.size, 1, none⟩ = some (.int .i64 n))
      (first
        | with_reducible exact HX.out.cells
        | with_reducible exact HX.out.drew.cells
        | with_reducible exact HX2.out.cells
        | with_reducible exact HX3.out.cells)
      (first
        | (go_at_call 34
           refine (iNonce_any 2 t _).mono ?_
           rintro e w2 ⟨rfl, hb2⟩
           have hb2' := below_of_drew' hb2
           have HX2 := hide (HX.out.below hb2' HX.out.lt)
           have HB2 := hide (HB1.out.trans (hb2'.mono HB1.out.size))
           clear hb2 hb2')
        | (go_at_call 33
           refine (HBl.out _).mono ?_
           rintro e w3 ⟨rfl, hb3⟩
           have HX3 := hide (HX2.out.below hb3 HX2.out.lt)
           have HB3 := hide (HB2.out.trans (hb3.mono HB2.out.size))
           clear hb3))
    all_goals
      by_cases hk : tokOk (bl k) t n
      · have HV1 := hide (show V = S.take 8 by rw [HV.out, tagV_yes hk, tagL, ← HS.out])
        have hl : (ByteArray.mk S.toArray).size = 64 := by rw [size_of, HS.out, length_blockV (tok_block hk)]
        have HE := hide (ext_take (ByteArray.mk S.toArray) 8)
        rw [bl_of S, ← HV1.out] at HE
        generalize (ByteArray.mk S.toArray) = sb at hl HE ⊢
        clear hk
        go_wp2_with fail
        go_ret
        exact ⟨by rw [HE.out]; rfl, HB3.out⟩
      · have HV1 := hide (show V = [] by rw [HV.out, tagV_no hk])
        have hS0 : S = [] := by rw [HS.out]; exact tag_bad HG.out hk
        subst hS0
        clear hk
        go_wp2_with fail
        go_ret
        exact ⟨by rw [HV1.out]; rfl, HB3.out⟩
  · rw [grantOk_false hg]
    have HV1 := hide (show V = [] by rw [HV.out, tagV_no (fun h => hg h.2)])
    clear hg
    go_wp2_with fail
    go_ret
    exact ⟨by rw [HV1.out]; rfl, HB1.out⟩
end Go.Proofs.Ytoaobhfooccliaa
