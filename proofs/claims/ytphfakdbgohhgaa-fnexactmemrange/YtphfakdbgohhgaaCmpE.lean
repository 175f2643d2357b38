/-
  Contracts of cmp.Compare over ints, of cmp.Or over two ints, and of the program's order of entries.
-/
import Derived.Test.YtphfakdbgohhgaaEntM
import Derived.Test.YtphfakdbgohhgaaCmpK
import Derived.Test.YtphfakdbgohhgaaRowEnt
import Derived.Test.YtphfakdbgohhgaaBoxW
import Derived.Test.YtphfakdbgohhgaaStrK
import Derived.Deep.RegionHeld3
namespace Go.Proofs.Ytphfakdbgohhgaa
open Go.ChangeShapes Go.WideShapes Go.ChangeAt Go.RowKit

def cmpZ (a b : Int) : Int := if a < b then -1 else if b < a then 1 else 0
theorem compareZ_any (a b : Int) (w : World) :
    Calls Try.prog 104 #[.int .i64 a, .int .i64 b] w fun e w' => e = .returned (.int .i64 (cmpZ a b)) ∧ w' = w := by
  unfold cmpZ
  by_cases h : a < b
  · rw [if_pos h]
    go_enter Try.func104, Try.ntmps104
    go_wp2
    go_ret
    exact ⟨rfl, rfl⟩
  · rw [if_neg h]
    by_cases h2 : b < a
    · rw [if_pos h2]
      go_enter Try.func104, Try.ntmps104
      go_wp2
      go_ret
      exact ⟨rfl, rfl⟩
    · rw [if_neg h2]
      go_enter Try.func104, Try.ntmps104
      go_wp2
      go_ret
      exact ⟨rfl, rfl⟩
def orZ (a b : Int) : Int := if a = 0 then b else a
theorem or2_any (g : Nat) (a b : Int) (w : World) (h0 : w.cell? ⟨g, 0, none⟩ = some (.int .i64 a)) (h1 : w.cell? ⟨g, 1, none⟩ = some (.int .i64 b)) :
    Calls Try.prog 102 #[.slice (some ⟨g, 0, none⟩) 2 2] w fun e w' => e = .returned (.int .i64 (orZ a b)) ∧ w' = w := by
  by_cases ha : a = 0
  · subst ha
    have HV := hide (show orZ 0 b = b from if_pos rfl)
    by_cases hb : b = 0
    · subst hb
      go_enter Try.func102, Try.ntmps102
      go_wp2_with fail
      go_loop [5, 8] (fun _ i => i = .int .i64 0 ∨ i = .int .i64 1 ∨ i = .int .i64 2) (fun _ i => 2 - (intOf i).toNat)
      case atStart => exact .inl rfl
      case round =>
        rcases hrel with rfl | rfl | rfl
        · go_wp2_with fail
          go_round
          case rel => exact .inr (.inl rfl)
          case measure => simp [intOf]
        · go_wp2_with fail
          go_round
          case rel => exact .inr (.inr rfl)
          case measure => simp [intOf]
        · go_wp2_with fail
          go_ret
          exact ⟨by rw [HV.out]; rfl, rfl⟩
    · have hb' : (b == 0) = false := beq_eq_false_iff_ne.2 hb
      go_enter Try.func102, Try.ntmps102
      go_wp2_with fail
      go_loop [5, 8] (fun _ i => i = .int .i64 0 ∨ i = .int .i64 1) (fun _ i => 2 - (intOf i).toNat)
      case atStart => exact .inl rfl
      case round =>
        rcases hrel with rfl | rfl
        · go_wp2_with fail
          go_round
          case rel => exact .inr rfl
          case measure => simp [intOf]
        · go_wp2_with fail
          go_ret
          exact ⟨by rw [HV.out]; rfl, rfl⟩
  · have ha' : (a == 0) = false := beq_eq_false_iff_ne.2 ha
    have HV := hide (show orZ a b = a from if_neg ha)
    go_enter Try.func102, Try.ntmps102
    go_wp2_with fail
    go_loop [5, 8] (fun _ i => i = .int .i64 0) (fun _ i => 2 - (intOf i).toNat)
    case atStart => exact rfl
    case round =>
      subst hrel
      go_wp2_with fail
      go_ret
      exact ⟨by rw [HV.out]; rfl, rfl⟩

/-- what the program's order of entries says -/
def cmpE (a b : En) : Int := orZ (cmpK a.1 b.1) (cmpZ b.2.1 a.2.1)
theorem cmpE_neg {a b : En} : cmpE a b < 0 ↔ ahead a b := by
  unfold cmpE orZ ahead
  have hz : cmpZ b.2.1 a.2.1 < 0 ↔ b.2.1 < a.2.1 := by unfold cmpZ; split <;> (try split) <;> omega
  by_cases h1 : kless a.1 b.1 = true
  · have : cmpK a.1 b.1 = -1 := if_pos h1
    simp [this, h1]
  · by_cases h2 : kless b.1 a.1 = true
    · have : cmpK a.1 b.1 = 1 := by unfold cmpK; rw [if_neg h1, if_pos h2]
      simp [this, h1, (kless_ne h2).symm]
    · have h0 : cmpK a.1 b.1 = 0 := by unfold cmpK; rw [if_neg h1, if_neg h2]
      have he : a.1 = b.1 := kless_tri (by simpa using h1) (by simpa using h2)
      rw [if_pos h0, hz, he, kless_irrefl]
      simp

set_option maxHeartbeats 1000000 in
theorem compareE_any (a0 : ByteArray) (a1 : Int) (a2 : Bool) (a3 : ByteArray) (b0 : ByteArray) (b1 : Int) (b2 : Bool) (b3 : ByteArray) (w : World) :
    Calls Try.prog 87 #[.agg #[], .agg #[.string a0, .int .i64 a1, .bool a2, .string a3], .agg #[.string b0, .int .i64 b1, .bool b2, .string b3]] w (IntPost w (cmpE (a0, a1, a2, a3) (b0, b1, b2, b3))) := by
  obtain ⟨z1, hz1⟩ : ∃ z1, z1 = cmpK a0 b0 := ⟨_, rfl⟩
  obtain ⟨z2, hz2⟩ : ∃ z2, z2 = cmpZ b1 a1 := ⟨_, rfl⟩
  have HV := hide (show cmpE (a0, a1, a2, a3) (b0, b1, b2, b3) = orZ z1 z2 by rw [hz1, hz2]; rfl)
  have H1 := hide (fun W => compare_any a0 b0 W)
  have H2 := hide (fun W => compareZ_any b1 a1 W)
  rw [← hz1] at H1
  rw [← hz2] at H2
  clear hz1 hz2
  obtain ⟨W, hW⟩ : ∃ W, W = ((w.alloc (.cells #[] 117)).alloc (.cells #[.string a0, .int .i64 a1, .bool a2, .string a3] 26)).alloc (.cells #[.string b0, .int .i64 b1, .bool b2, .string b3] 26) := ⟨_, rfl⟩
  have HX := hide (show BoxV 26 W (w.heap.size + 1) #[.string a0, .int .i64 a1, .bool a2, .string a3] by
    rw [hW]
    have := (BoxV.new 26 (w.alloc (.cells #[] 117)) #[.string a0, .int .i64 a1, .bool a2, .string a3]).alloc (.cells #[.string b0, .int .i64 b1, .bool b2, .string b3] 26)
    rwa [Go.Deep.nblk_alloc] at this)
  have HY := hide (show BoxV 26 W (w.heap.size + 1 + 1) #[.string b0, .int .i64 b1, .bool b2, .string b3] by
    rw [hW]
    have := BoxV.new 26 ((w.alloc (.cells #[] 117)).alloc (.cells #[.string a0, .int .i64 a1, .bool a2, .string a3] 26)) #[.string b0, .int .i64 b1, .bool b2, .string b3]
    rwa [Go.Deep.nblk_alloc, Go.Deep.nblk_alloc] at this)
  have HB := hide (show Below w.heap.size w W by
    rw [hW]
    exact (((Below.refl _ _).alloc (Nat.le_refl _) _).alloc (by simp) _).alloc (by simp; omega) _)
  have hw0 := HB.out.size
  go_enter Try.func87, Try.ntmps87
  go_wp2_with fail
  rw [← hW]
  clear hW
  have HO := hide (fun g W (h : BoxV 3 W g #[.int .i64 z1, .int .i64 z2]) => or2_any g z1 z2 W (h.cell 0 _ rfl) (h.cell 1 _ rfl))
  go_region_held3 (fun w' => w'.cell? ⟨w.heap.size + 1, 0, none⟩ = some (.string a0) ∧ w'.cell? ⟨w.heap.size + 1, 1, none⟩ = some (.int .i64 a1) ∧ w'.cell? ⟨w.heap.size + 1 + 1, 0, none⟩ = some (.string b0) ∧ w'.cell? ⟨w.heap.size + 1 + 1, 1, none⟩ = some (.int .i64 b1))
    (first
      | exact ⟨HX.out.cell 0 _ rfl, HX.out.cell 1 _ rfl, HY.out.cell 0 _ rfl, HY.out.cell 1 _ rfl⟩
      | exact ⟨(HX.out.alloc _).cell 0 _ rfl, (HX.out.alloc _).cell 1 _ rfl, (HY.out.alloc _).cell 0 _ rfl, (HY.out.alloc _).cell 1 _ rfl⟩)
    (first
      | (go_at_call 102
         refine (HO.out W.heap.size _ ?_).mono ?_
         · first
           | exact (BoxV.new 3 W _).drew
           | exact BoxV.new 3 W _
           | exact BoxV.new 3 W.drew _
         rintro e w3 ⟨rfl, rfl⟩)
      | (go_at_call 103
         refine (H1.out _).mono ?_
         rintro e w1 ⟨rfl, rfl⟩)
      | (go_at_call 104
         refine (H2.out _).mono ?_
         rintro e w2 ⟨rfl, rfl⟩))
  all_goals go_wp2_with fail
  all_goals go_ret
  all_goals exact ⟨by rw [HV.out]; rfl, (HB.out.alloc hw0 _).drew⟩
end Go.Proofs.Ytphfakdbgohhgaa
