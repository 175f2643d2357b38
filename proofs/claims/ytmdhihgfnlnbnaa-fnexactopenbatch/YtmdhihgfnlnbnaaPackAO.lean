/-
  Texts of this proof, put together: OpkO, BatO.
-/
import Derived.Test.YtmdhihgfnlnbnaaPackAD
import Derived.Test.YtmdhihgfnlnbnaaPackAG
import Derived.Test.YtmdhihgfnlnbnaaPackAE
import Derived.StillTailTactics
import Derived.Deep.QuietTactic
import Derived.BigQuiet
import Derived.Test.YtmdhihgfnlnbnaaPackAF

/-
  Contracts of impl.keyOk, valOk and opOk.
-/
namespace Go.Proofs.Ytmdhihgfnlnbnaa
open Go.ChangeShapes Go.WideShapes Go.ChangeAt Go.RowKit

theorem keyOk_any (k : ByteArray) (w : World) :
    Calls Try.prog 68 #[.string k] w fun e w' => e = .returned (.bool (decide (1 ≤ k.size ∧ k.size ≤ 10))) ∧ w' = w := by
  by_cases h1 : 1 ≤ k.size
  · by_cases h2 : k.size ≤ 10
    · rw [decide_eq_true ⟨h1, h2⟩]
      go_enter Try.func68, Try.ntmps68
      go_wp2
      go_ret
      exact ⟨by simp; omega, rfl⟩
    · rw [decide_eq_false fun h => h2 h.2]
      go_enter Try.func68, Try.ntmps68
      go_wp2
      go_ret
      exact ⟨by simp; omega, rfl⟩
  · rw [decide_eq_false fun h => h1 h.1]
    go_enter Try.func68, Try.ntmps68
    go_wp2
    go_ret
    exact ⟨by simp, rfl⟩
theorem valOk_any (k : ByteArray) (w : World) :
    Calls Try.prog 69 #[.string k] w fun e w' => e = .returned (.bool (decide (k.size ≤ 16))) ∧ w' = w := by
  go_enter Try.func69, Try.ntmps69
  go_wp2
  go_ret
  exact ⟨by simp; omega, rfl⟩

theorem opOk_any (k : ByteArray) (d : Bool) (v : ByteArray) (w : World) :
    Calls Try.prog 67 #[.agg #[.string k, .bool d, .string v]] w (BoolPost w (decide (opOk (k, d, v)))) := by
  have hB := fun o => (Below.refl w.heap.size w).alloc (Nat.le_refl _) o
  by_cases hk : 1 ≤ k.size ∧ k.size ≤ 10
  · have HK := hide (decide_eq_true hk)
    by_cases hv : v.size ≤ 16
    · have HVV := hide (decide_eq_true hv)
      cases d with
      | false =>
        rw [decide_eq_true (show opOk (k, false, v) from ⟨hk.1, hk.2, hv, fun h => by cases h⟩)]
        clear hk hv
        go_enter Try.func67, Try.ntmps67
        go_wp2_with fail
        refine (keyOk_any k _).mono ?_
        rintro e w1 ⟨rfl, rfl⟩
        rw [HK.out]
        go_wp2_with fail
        refine (valOk_any v _).mono ?_
        rintro e w1 ⟨rfl, rfl⟩
        rw [HVV.out]
        go_wp2_with fail
        go_ret
        exact ⟨rfl, hB _⟩
      | true =>
        by_cases hz : v.size = 0
        · obtain rfl : v = ⟨#[]⟩ := by
            apply ba_ext
            have := bl_len v
            rw [hz] at this
            exact List.eq_nil_of_length_eq_zero this
          rw [decide_eq_true (show opOk (k, true, ⟨#[]⟩) from ⟨hk.1, hk.2, hv, fun _ => rfl⟩)]
          clear hk hv hz
          go_enter Try.func67, Try.ntmps67
          go_wp2_with fail
          refine (keyOk_any k _).mono ?_
          rintro e w1 ⟨rfl, rfl⟩
          rw [HK.out]
          go_wp2_with fail
          refine (valOk_any _ _).mono ?_
          rintro e w1 ⟨rfl, rfl⟩
          rw [HVV.out]
          go_wp2_with fail
          go_ret
          exact ⟨rfl, hB _⟩
        · rw [decide_eq_false (show ¬ opOk (k, true, v) from fun h => hz (h.2.2.2 rfl))]
          have hne : v ≠ ⟨#[]⟩ := fun h => hz (by rw [h]; rfl)
          have hne2 : v.toList.isEmpty = false := by
            rw [List.isEmpty_eq_false_iff]
            exact fun h => hne (ba_ext (by rw [ByteArray.toList_eq] at h; exact h))
          clear hk hv hz
          go_enter Try.func67, Try.ntmps67
          go_wp2_with fail
          refine (keyOk_any k _).mono ?_
          rintro e w1 ⟨rfl, rfl⟩
          rw [HK.out]
          go_wp2_with fail
          refine (valOk_any _ _).mono ?_
          rintro e w1 ⟨rfl, rfl⟩
          rw [HVV.out]
          go_wp2_with fail
          go_ret
          exact ⟨rfl, hB _⟩
    · have HVV := hide (decide_eq_false hv)
      rw [decide_eq_false (show ¬ opOk (k, d, v) from fun h => hv h.2.2.1)]
      clear hk hv
      go_enter Try.func67, Try.ntmps67
      go_wp2_with fail
      refine (keyOk_any k _).mono ?_
      rintro e w1 ⟨rfl, rfl⟩
      rw [HK.out]
      go_wp2_with fail
      refine (valOk_any _ _).mono ?_
      rintro e w1 ⟨rfl, rfl⟩
      rw [HVV.out]
      go_wp2_with fail
      go_ret
      exact ⟨rfl, hB _⟩
  · have HK := hide (decide_eq_false hk)
    rw [decide_eq_false (show ¬ opOk (k, d, v) from fun h => hk ⟨h.1, h.2.1⟩)]
    clear hk
    go_enter Try.func67, Try.ntmps67
    go_wp2_with fail
    refine (keyOk_any k _).mono ?_
    rintro e w1 ⟨rfl, rfl⟩
    rw [HK.out]
    go_wp2_with fail
    go_ret
    exact ⟨rfl, hB _⟩
end Go.Proofs.Ytmdhihgfnlnbnaa

/-
  Contracts of impl.keyOk, valOk, opOk and BatchOk.
-/
namespace Go.Proofs.Ytmdhihgfnlnbnaa
open Go.ChangeShapes Go.WideShapes Go.ChangeAt Go.RowKit

theorem iBatchOk_any (a : Option Addr) (cap : Nat) (L : List Opn) (w : World) (hr : elOp.Rd w w.heap.size a L) (hl : L.length ≤ 2097152) :
    Calls Try.prog 35 #[.slice a L.length cap] w (BoolPost w (decide (batOk L))) := by
  have HR := hide hr
  clear hr
  obtain ⟨V, hV⟩ : ∃ V, V = decide (batOk L) := ⟨_, rfl⟩
  have HV := hide hV
  rw [← hV]
  obtain ⟨n, hn⟩ : ∃ n, n = L.length := ⟨_, rfl⟩
  have HN := hide hn
  rw [← hn] at hl
  rw [← hn]
  clear hn hV
  by_cases h1 : n < 1
  · have HV1 := hide (show V = false from HV.out.trans (decide_eq_false fun h => by have := h.1; rw [← HN.out] at this; omega))
    go_enter Try.func35, Try.ntmps35
    go_wp2_with fail
    go_ret
    exact ⟨by rw [HV1.out]; rfl, Below.refl _ _⟩
  by_cases h2 : 6 < n
  · have HV1 := hide (show V = false from HV.out.trans (decide_eq_false fun h => by have := h.2.1; rw [← HN.out] at this; omega))
    go_enter Try.func35, Try.ntmps35
    go_wp2_with fail
    go_ret
    exact ⟨by rw [HV1.out]; rfl, Below.refl _ _⟩
  go_enter Try.func35, Try.ntmps35
  go_wp2_with fail
  go_loopw [15] (fun i wr => ∃ j : Nat, i = .int .i64 j ∧ j ≤ n ∧ Hid (∀ i x, i < j → L[i]? = some x → opOk x) ∧ Hid (Below w.heap.size w wr)) (fun i _ => n - (intOf i).toNat)
  case atStart => exact ⟨0, rfl, by omega, fun i _ hi _ => by omega, Below.refl _ _⟩
  case round =>
    obtain ⟨j, rfl, hj, HO, HB⟩ := hrel
    by_cases hlt : j < n
    · have hjL : j < L.length := by rw [← HN.out]; exact hlt
      obtain ⟨b, off, rfl, hb, hcell⟩ := HR.out (by omega)
      obtain ⟨f0, f1, f2, hx⟩ := partsOp L[j]
      obtain ⟨c0, c1, c2⟩ := cellsOp hx (hcell j hjL)
      have d0 := (HB.out.cell (p := ⟨b, off + j * 3, none⟩) hb).trans c0
      have d1 := (HB.out.cell (p := ⟨b, off + j * 3 + 1, none⟩) hb).trans c1
      have d2 := (HB.out.cell (p := ⟨b, off + j * 3 + 2, none⟩) hb).trans c2
      have HX := hide (show L[j]? = some (f0, f1, f2) by rw [List.getElem?_eq_getElem hjL, hx])
      have hs := HB.out.size
      clear hcell c0 c1 c2 hx hjL
      go_wp2_with fail
      refine (opOk_any f0 f1 f2 _).mono ?_
      rintro e w2 ⟨rfl, hb2⟩
      have HB2 := hide ((HB.out.alloc hs _).trans (hb2.mono (by simp <;> omega)))
      clear hb2 HB d0 d1 d2
      by_cases ho : opOk (f0, f1, f2)
      · rw [decide_eq_true ho]
        have HO1 := hide (show ∀ i x, i < j + 1 → L[i]? = some x → opOk x from fun i x hi hx => by
          rcases Nat.lt_or_ge i j with h | h
          · exact HO.out i x h hx
          · rw [show i = j by omega, HX.out] at hx
            rw [← Option.some.inj hx]
            exact ho)
        clear ho
        go_wp2_with fail
        go_roundw
        case rel => exact ⟨j + 1, by go_num, by omega, HO1, HB2⟩
        case measure => simp [intOf]; omega
      · rw [decide_eq_false ho]
        have HV1 := hide (show V = false from HV.out.trans (decide_eq_false fun h => ho (h.2.2 _ (List.mem_of_getElem? HX.out))))
        clear ho
        go_wp2_with fail
        go_ret
        exact ⟨by rw [HV1.out]; rfl, HB2.out⟩
    · have HV1 := hide (show V = true from HV.out.trans (decide_eq_true ⟨by rw [← HN.out]; omega, by rw [← HN.out]; omega, fun o ho => by
        obtain ⟨i, hi, e⟩ := List.getElem_of_mem ho
        exact HO.out i o (by rw [← HN.out] at hi; omega) (by rw [List.getElem?_eq_getElem hi, e])⟩))
      go_wp2_with fail
      go_ret
      exact ⟨by rw [HV1.out]; rfl, HB.out⟩
end Go.Proofs.Ytmdhihgfnlnbnaa
