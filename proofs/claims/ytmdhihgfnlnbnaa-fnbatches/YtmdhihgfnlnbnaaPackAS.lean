/-
  Texts of this proof, put together: BatP.
-/
import Derived.Test.YtmdhihgfnlnbnaaPackAQ
import Derived.Test.YtmdhihgfnlnbnaaPackAR
import Derived.Test.YtmdhihgfnlnbnaaPackAN

/-
  Contracts of spec.l7Op and spec.BatchOk.
-/
namespace Go.Proofs.Ytmdhihgfnlnbnaa
open Go.ChangeShapes Go.WideShapes Go.ChangeAt Go.RowKit

theorem sBatchOk_any (a : Option Addr) (cap : Nat) (L : List Opn) (w : World) (hr : elOp.Rd w w.heap.size a L) (hl : L.length ≤ 2097152) :
    Calls Try.prog 21 #[.slice a L.length cap] w (BoolPost w (decide (batOk L))) := by
  have HR := hide hr
  clear hr
  obtain ⟨V, hV⟩ : ∃ V, V = decide (batOk L) := ⟨_, rfl⟩
  have HV := hide hV
  rw [← hV]
  obtain ⟨n, hn⟩ : ∃ n, n = L.length := ⟨_, rfl⟩
  have HN := hide hn
  rw [← hn] at hl
  rw [← hn]
  clear hn hV
  by_cases h1 : 1 ≤ n ∧ n ≤ 6
  · obtain ⟨h10, h11⟩ := h1
    go_enter Try.func21, Try.ntmps21
    go_wp2_with fail
    refine (in_yes (n : Int) 1 6 _ (by omega) (by omega)).mono ?_
    rintro e w1 ⟨rfl, rfl⟩
    go_wp2_with fail
    go_loopw [3] (fun i wr => ∃ j : Nat, i = .int .i64 j ∧ j ≤ n ∧ Hid (∀ i x, i < j → L[i]? = some x → opOk x) ∧ Hid (Below w.heap.size w wr)) (fun i _ => n - (intOf i).toNat)
    case atStart => exact ⟨0, rfl, by omega, fun i _ hi _ => by omega, Below.refl _ _⟩
    case round =>
      obtain ⟨j, rfl, hj, HO, HB⟩ := hrel
      by_cases hlt : j < n
      · have hjL : j < L.length := by rw [← HN.out]; exact hlt
        obtain ⟨b, off, rfl, hb, hcell⟩ := HR.out (by omega)
        obtain ⟨f0, f1, f2, hx⟩ := partsOp L[j]
        obtain ⟨c0, c1, c2⟩ := cellsOp hx (hcell j hjL)
        have d0 := (HB.out.cell (p := ⟨b, off + j * 3, none⟩) hb).trans c0
        have d1 := (HB.out.cell (p := ⟨b, off + j * 3 + 1, none⟩) hb).trans c1
        have d2 := (HB.out.cell (p := ⟨b, off + j * 3 + 2, none⟩) hb).trans c2
        have HX := hide (show L[j]? = some (f0, f1, f2) by rw [List.getElem?_eq_getElem hjL, hx])
        have hs := HB.out.size
        clear hcell c0 c1 c2 hx hjL
        go_wp2_with fail
        refine (l7Op_any f0 f1 f2 _).mono ?_
        rintro e w2 ⟨rfl, hb2⟩
        have HB2 := hide (HB.out.trans (hb2.mono hs))
        clear hb2 HB d0 d1 d2
        by_cases ho : opOk (f0, f1, f2)
        · rw [decide_eq_true ho]
          have HO1 := hide (show ∀ i x, i < j + 1 → L[i]? = some x → opOk x from fun i x hi hx => by
            rcases Nat.lt_or_ge i j with h | h
            · exact HO.out i x h hx
            · rw [show i = j by omega, HX.out] at hx
              rw [← Option.some.inj hx]
              exact ho)
          clear ho
          go_wp2_with fail
          go_roundw
          case rel => exact ⟨j + 1, by go_num, by omega, HO1, HB2⟩
          case measure => simp [intOf]; omega
        · rw [decide_eq_false ho]
          have HV1 := hide (show V = false from HV.out.trans (decide_eq_false fun h => ho (h.2.2 _ (List.mem_of_getElem? HX.out))))
          clear ho
          go_wp2_with fail
          go_ret
          exact ⟨by rw [HV1.out]; rfl, HB2.out⟩
      · have HV1 := hide (show V = true from HV.out.trans (decide_eq_true ⟨by rw [← HN.out]; omega, by rw [← HN.out]; omega, fun o ho => by
          obtain ⟨i, hi, e⟩ := List.getElem_of_mem ho
          exact HO.out i o (by rw [← HN.out] at hi; omega) (by rw [List.getElem?_eq_getElem hi, e])⟩))
        go_wp2_with fail
        go_ret
        exact ⟨by rw [HV1.out]; rfl, HB.out⟩
  · have HV1 := hide (show V = false from HV.out.trans (decide_eq_false fun h => h1 ⟨by have := h.1; rw [← HN.out] at this; exact this, by have := h.2.1; rw [← HN.out] at this; exact this⟩))
    have hk' : (n : Int) < 1 ∨ 6 < (n : Int) := by omega
    have HK := hide hk'
    clear hk' h1
    go_enter Try.func21, Try.ntmps21
    go_wp2_with fail
    refine (in_no (n : Int) 1 6 _ HK.out).mono ?_
    rintro e w1 ⟨rfl, rfl⟩
    go_wp2_with fail
    go_ret
    exact ⟨by rw [HV1.out]; rfl, Below.refl _ _⟩
end Go.Proofs.Ytmdhihgfnlnbnaa
