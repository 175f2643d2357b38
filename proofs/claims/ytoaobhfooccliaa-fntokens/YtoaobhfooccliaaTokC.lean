/-
  Contracts of impl.writeToken and impl.MintToken.
-/
import Derived.Test.YtoaobhfooccliaaTokB
namespace Go.Proofs.Ytoaobhfooccliaa
open Go.ChangeShapes Go.WideShapes Go.ChangeAt Go.RowKit

set_option maxHeartbeats 1000000 in
set_option maxRecDepth 20000 in
theorem writeToken_any (k : ByteArray) (t n : Int) (w : World) :
    Calls Try.prog 19 #[.agg #[.int .i64 t, .int .i64 n], .func (.func 20) #[.string k] #[]] w (StrPost w (tokV (bl k) t n)) := by
  obtain ⟨V, hV⟩ : ∃ V, V = tokV (bl k) t n := ⟨_, rfl⟩
  have HV := hide hV
  rw [← hV]
  clear hV
  go_enter Try.func19, Try.ntmps19
  go_wp2_with fail
  refine (tag_any k t n _).mono ?_
  rintro e w1 ⟨rfl, hb1⟩
  have HX := hide ((Box2.new w (.int .i64 t) (.int .i64 n) 40).below hb1 (by simp))
  have HB1 := hide (((Below.refl _ w).alloc (Nat.le_refl _) _).trans (hb1.mono (by simp)))
  clear hb1
  by_cases hk : tokOk (bl k) t n
  · rw [tagV_yes hk]
    obtain ⟨S, hS⟩ : ∃ S, S = tagL (bl k) t n := ⟨_, rfl⟩
    obtain ⟨VT, hT⟩ : ∃ VT, VT = varV t := ⟨_, rfl⟩
    obtain ⟨VE, hE⟩ : ∃ VE, VE = varV n := ⟨_, rfl⟩
    have HV1 := hide (show V = VT ++ VE ++ S by rw [HV.out, tokV_yes hk, hT, hE, hS])
    have hl : S.length = 8 := by rw [hS]; exact length_tagL hk
    have hlT : VT.length ≤ 7 := by rw [hT]; exact varV_len t
    have hlE : VE.length ≤ 7 := by rw [hE]; exact varV_len n
    have s1 : S.isEmpty = false := by
      cases S
      · simp at hl
      · rfl
    have ha1 := run_cat VT VE (by omega)
    have ha2 := run_cat (VT ++ VE) S (by rw [List.length_append]; omega)
    have HT := hide (fun W => iVar_any t W)
    have HE := hide (fun W => iVar_any n W)
    rw [← hT] at HT
    rw [← hE] at HE
    rw [← hS]
    clear hk hS hT hE hl hlT hlE
    obtain ⟨c0, c1⟩ := HX.out.cells
    have hlt := HX.out.lt
    go_wp2_with fail
    go_region_held3 (fun w' => w'.cell? ⟨w.heap.size, 0, none⟩ = some (.int .i64 t) ∧ w'.cell? ⟨w.heap.size, 1, none⟩ = some (.int .i64 n))
      (first
        | with_reducible exact HX.out.cells
        | with_reducible exact HX.out.drew.cells
        | with_reducible exact HX2.out.cells
        | with_reducible exact HX3.out.cells)
      (first
        | (have hq2 := HX2.out
           clear hq2
           go_at_call 31
           refine (HE.out _).mono ?_
           rintro e w3 ⟨rfl, hb3⟩
           have HX3 := hide (HX2.out.below hb3 HX2.out.lt)
           have HB3 := hide (HB2.out.trans (hb3.mono HB2.out.size))
           clear hb3)
        | (go_at_call 31
           refine (HT.out _).mono ?_
           rintro e w2 ⟨rfl, hb2⟩
           have hb2' := below_of_drew' hb2
           have HX2 := hide (HX.out.below hb2' HX.out.lt)
           have HB2 := hide (HB1.out.trans (hb2'.mono HB1.out.size))
           clear hb2 hb2'))
    all_goals go_wp2_with fail
    all_goals go_ret
    all_goals exact ⟨by rw [HV1.out, List.append_assoc]; rfl, HB3.out⟩
  · rw [tagV_no hk]
    have HV1 := hide (show V = [] by rw [HV.out, tokV_no hk])
    clear hk
    go_wp2_with fail
    go_ret
    exact ⟨by rw [HV1.out]; rfl, HB1.out⟩

theorem iMint_any (k : ByteArray) (t n : Int) (w : World) :
    Calls Try.prog 10 #[.string k, .int .i64 t, .int .i64 n] w (StrPost w (tokV (bl k) t n)) := by
  have hmf : ∀ (fn : Fn) (first cap : Array Value) (w : World), (Instr.makeFunc fn first cap).run Try.prog w = .ok (.func fn first cap) w := fun _ _ _ _ => rfl
  obtain ⟨V, hV⟩ : ∃ V, V = tokV (bl k) t n := ⟨_, rfl⟩
  have HW := hide (fun W => writeToken_any k t n W)
  rw [← hV] at HW ⊢
  clear hV
  go_enter Try.func10, Try.ntmps10
  go_wp2_with fail
  refine (HW.out _).mono ?_
  rintro e w1 ⟨rfl, hb1⟩
  have HB1 := hide hb1
  clear hb1
  go_wp2_with fail
  go_ret
  exact ⟨rfl, HB1.out⟩
end Go.Proofs.Ytoaobhfooccliaa
