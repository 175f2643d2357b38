/-
  Contracts of spec.l9Get and MemGet.
-/
import Derived.Test.YtphfakdbgohhgaaMemP
import Derived.Test.YtphfakdbgohhgaaResE
namespace Go.Proofs.Ytphfakdbgohhgaa
open Go.ChangeShapes Go.WideShapes Go.ChangeAt Go.RowKit

def EntBPost' (w : World) (f0 : ByteArray) (f1 : Int) (f2 : Bool) (f3 : ByteArray) (b : Bool) (e : Ending) (w' : World) : Prop :=
  e = .returned (.tuple #[.agg #[.string f0, .int .i64 f1, .bool f2, .string f3], .bool b]) ∧ Below w.heap.size w w'

theorem getE_first {k : ByteArray} {n : Int} {L : List En} {j : Nat} {x : En} (hj : L[j]? = some x) (hx : x.1 = k ∧ x.2.1 ≤ n) (hb : ∀ i y, i < j → L[i]? = some y → ¬ (y.1 = k ∧ y.2.1 ≤ n)) : getE k n L = some x := by
  obtain ⟨hl, rfl⟩ := List.getElem?_eq_some_iff.1 hj
  refine List.find?_eq_some_iff_getElem.mpr ⟨by simp [hx], j, hl, rfl, fun i hi => ?_⟩
  simp only [Bool.not_eq_true', decide_eq_false_iff_not]
  exact hb i _ hi (List.getElem?_eq_getElem (by omega))
theorem getE_never {k : ByteArray} {n : Int} {L : List En} (hb : ∀ i y, i < L.length → L[i]? = some y → ¬ (y.1 = k ∧ y.2.1 ≤ n)) : getE k n L = none :=
  getE_none.mpr fun x hx => by
    obtain ⟨i, hi, rfl⟩ := List.getElem_of_mem hx
    exact hb i _ hi (List.getElem?_eq_getElem hi)

set_option maxHeartbeats 2000000 in
set_option maxRecDepth 20000 in
theorem l9Get_any (a : Option Addr) (cap : Nat) (L : List En) (k : ByteArray) (q : Int) (w : World) (hr : elEnt.Rd w w.heap.size a L) (hl : L.length ≤ 2097152) (f0 : ByteArray) (f1 : Int) (f2 : Bool) (f3 : ByteArray) (hf : (getE k q L).getD zeroE = (f0, f1, f2, f3)) :
    Calls Try.prog 92 #[.slice a L.length cap, .string k, .int .i64 q] w (EntBPost' w f0 f1 f2 f3 (getE k q L).isSome) := by
  have HB := hide ((Below.refl w.heap.size w).alloc (Nat.le_refl _) (.cells #[.string ⟨#[]⟩, .int .i64 0, .bool false, .string ⟨#[]⟩] 26))
  have HR := hide ((hr.below HB.out (Nat.le_refl _)))
  have HX := hide (BoxV.new 26 w #[.string ⟨#[]⟩, .int .i64 0, .bool false, .string ⟨#[]⟩])
  obtain ⟨b, hb⟩ : ∃ b, b = (getE k q L).isSome := ⟨_, rfl⟩
  have HBB := hide hb
  have HF := hide hf
  rw [← hb]
  obtain ⟨n, hn⟩ : ∃ n, n = L.length := ⟨_, rfl⟩
  have HN := hide hn
  rw [← hn] at hl ⊢
  clear hr hb hf hn
  go_enter Try.func92, Try.ntmps92
  go_wp2_with fail
  obtain ⟨W, hW⟩ : ∃ W, W = w.alloc (.cells #[.string ⟨#[]⟩, .int .i64 0, .bool false, .string ⟨#[]⟩] 26) := ⟨_, rfl⟩
  rw [← hW] at HB HR HX ⊢
  clear hW
  go_loop [8] (fun i => ∃ j : Nat, i = .int .i64 j ∧ j ≤ n ∧ Hid (∀ i y, i < j → L[i]? = some y → ¬ (y.1 = k ∧ y.2.1 ≤ q))) (fun i => n - (intOf i).toNat)
  case atStart => exact ⟨0, rfl, by omega, fun i y hi => by omega⟩
  case round =>
    obtain ⟨j, rfl, hj, HA⟩ := hrel
    by_cases hlt : j < n
    · have hjL : j < L.length := by rw [← HN.out]; exact hlt
      obtain ⟨b', off, rfl, hb, hcell⟩ := HR.out (by omega)
      obtain ⟨g0, g1, g2, g3, hx⟩ := partsEnt L[j]
      obtain ⟨c0, c1, c2, c3⟩ := cellsEnt hx (hcell j hjL)
      have HJ := hide (show L[j]? = some (g0, g1, g2, g3) by rw [List.getElem?_eq_getElem hjL, hx])
      clear hcell hx hjL
      by_cases h1 : g0 = k
      · have z1 : (g0.toList == k.toList) = true := (keq_iff g0 k).2 h1
        by_cases h2 : g1 ≤ q
        · have hge := getE_first HJ.out ⟨h1, h2⟩ HA.out
          have HQ := hide (show (f0, f1, f2, f3) = ((g0, g1, g2, g3) : En) by rw [← HF.out, hge]; rfl)
          have HQB := hide (show b = true by rw [HBB.out, hge]; rfl)
          obtain ⟨y0, y1, y2, y3⟩ := HX.out.froz4
          obtain ⟨d0, d1, d2, d3⟩ := HX.out.four'
          clear h1 hge
          go_wp2_with fail
          refine bodyPost_ret (res_ent' rfl _ _ w.heap.size rfl (HX.out.all4 _ _ _ _)) rfl ?_
          rw [HQB.out]
          simp only [Prod.mk.injEq] at HQ
          obtain ⟨rfl, rfl, rfl, rfl⟩ := HQ.out
          exact ⟨rfl, below_four HB.out (Nat.le_refl _) _ _ _ _⟩
        · have HA1 := hide (show ∀ i y, i < j + 1 → L[i]? = some y → ¬ (y.1 = k ∧ y.2.1 ≤ q) from fun i y hi hy => by
            rcases Nat.lt_or_ge i j with h | h
            · exact HA.out i y h hy
            · rw [show i = j by omega, HJ.out] at hy
              rw [← Option.some.inj hy]
              exact fun h => h2 h.2)
          clear h1
          go_wp2_with fail
          go_round
          case rel => exact ⟨j + 1, by go_num, by omega, HA1⟩
          case measure => simp [intOf]; omega
      · have z1 : (g0.toList == k.toList) = false := keq_false h1
        have HA1 := hide (show ∀ i y, i < j + 1 → L[i]? = some y → ¬ (y.1 = k ∧ y.2.1 ≤ q) from fun i y hi hy => by
          rcases Nat.lt_or_ge i j with h | h
          · exact HA.out i y h hy
          · rw [show i = j by omega, HJ.out] at hy
            rw [← Option.some.inj hy]
            exact fun h => h1 h.1)
        clear h1
        go_wp2_with fail
        go_round
        case rel => exact ⟨j + 1, by go_num, by omega, HA1⟩
        case measure => simp [intOf]; omega
    · have hge := getE_never (k := k) (n := q) (L := L) (fun i y hi hy => HA.out i y (by have := HN.out; omega) hy)
      have HQ := hide (show (f0, f1, f2, f3) = zeroE by rw [← HF.out, hge]; rfl)
      have HQB := hide (show b = false by rw [HBB.out, hge]; rfl)
      obtain ⟨y0, y1, y2, y3⟩ := HX.out.froz4
      obtain ⟨d0, d1, d2, d3⟩ := HX.out.four'
      clear hge
      go_wp2_with fail
      refine bodyPost_ret (res_ent' rfl _ _ w.heap.size rfl (HX.out.all4 _ _ _ _)) rfl ?_
      rw [HQB.out]
      simp only [zeroE, Prod.mk.injEq] at HQ
      obtain ⟨rfl, rfl, rfl, rfl⟩ := HQ.out
      exact ⟨rfl, below_four HB.out (Nat.le_refl _) _ _ _ _⟩

end Go.Proofs.Ytphfakdbgohhgaa
