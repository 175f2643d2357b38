/-
  Texts of this proof, put together: CmpE, MapP.
-/
import Derived.Test.YtphfakdbgohhgaaPackAB
import Derived.Test.YtphfakdbgohhgaaPackAS
import Derived.Test.YtphfakdbgohhgaaPackAK
import Derived.Test.YtphfakdbgohhgaaPackAI
import Derived.Test.YtphfakdbgohhgaaPackAN
import Derived.Deep.RegionHeld3
import Derived.Test.YtphfakdbgohhgaaPackAO
import Derived.WalkLawsBesides

/-
  Contracts of cmp.Compare over ints, of cmp.Or over two ints, and of the program's order of entries.
-/
namespace Go.Proofs.Ytphfakdbgohhgaa
open Go.ChangeShapes Go.WideShapes Go.ChangeAt Go.RowKit

def cmpZ (a b : Int) : Int := if a < b then -1 else if b < a then 1 else 0
theorem compareZ_any (a b : Int) (w : World) :
    Calls Try.prog 104 #[.int .i64 a, .int .i64 b] w fun e w' => e = .returned (.int .i64 (cmpZ a b)) ∧ w' = w := by
  unfold cmpZ
  by_cases h : a < b
  · rw [if_pos h]
    go_enter Try.func104, Try.ntmps104
    go_wp2
    go_ret
    exact ⟨rfl, rfl⟩
  · rw [if_neg h]
    by_cases h2 : b < a
    · rw [if_pos h2]
      go_enter Try.func104, Try.ntmps104
      go_wp2
      go_ret
      exact ⟨rfl, rfl⟩
    · rw [if_neg h2]
      go_enter Try.func104, Try.ntmps104
      go_wp2
      go_ret
      exact ⟨rfl, rfl⟩
def orZ (a b : Int) : Int := if a = 0 then b else a
theorem or2_any (g : Nat) (a b : Int) (w : World) (h0 : w.cell? ⟨g, 0, none⟩ = some (.int .i64 a)) (h1 : w.cell? ⟨g, 1, none⟩ = some (.int .i64 b)) :
    Calls Try.prog 102 #[.slice (some ⟨g, 0, none⟩) 2 2] w fun e w' => e = .returned (.int .i64 (orZ a b)) ∧ w' = w := by
  by_cases ha : a = 0
  · subst ha
    have HV := hide (show orZ 0 b = b from if_pos rfl)
    by_cases hb : b = 0
    · subst hb
      go_enter Try.func102, Try.ntmps102
      go_wp2_with fail
      go_loop [5, 8] (fun _ i => i = .int .i64 0 ∨ i = .int .i64 1 ∨ i = .int .i64 2) (fun _ i => 2 - (intOf i).toNat)
      case atStart => exact .inl rfl
      case round =>
        rcases hrel with rfl | rfl | rfl
        · go_wp2_with fail
          go_round
          case rel => exact .inr (.inl rfl)
          case measure => simp [intOf]
        · go_wp2_with fail
          go_round
          case rel => exact .inr (.inr rfl)
          case measure => simp [intOf]
        · go_wp2_with fail
          go_ret
          exact ⟨by rw [HV.out]; rfl, rfl⟩
    · have hb' : (b == 0) = false := beq_eq_false_iff_ne.2 hb
      go_enter Try.func102, Try.ntmps102
      go_wp2_with fail
      go_loop [5, 8] (fun _ i => i = .int .i64 0 ∨ i = .int .i64 1) (fun _ i => 2 - (intOf i).toNat)
      case atStart => exact .inl rfl
      case round =>
        rcases hrel with rfl | rfl
        · go_wp2_with fail
          go_round
          case rel => exact .inr rfl
          case measure => simp [intOf]
        · go_wp2_with fail
          go_ret
          exact ⟨by rw [HV.out]; rfl, rfl⟩
  · have ha' : (a == 0) = false := beq_eq_false_iff_ne.2 ha
    have HV := hide (show orZ a b = a from if_neg ha)
    go_enter Try.func102, Try.ntmps102
    go_wp2_with fail
    go_loop [5, 8] (fun _ i => i = .int .i64 0) (fun _ i => 2 - (intOf i).toNat)
    case atStart => exact rfl
    case round =>
      subst hrel
      go_wp2_with fail
      go_ret
      exact ⟨by rw [HV.out]; rfl, rfl⟩

/-- what the program's order of entries says -/
def cmpE (a b : En) : Int := orZ (cmpK a.1 b.1) (cmpZ b.2.1 a.2.1)
theorem cmpE_neg {a b : En} : cmpE a b < 0 ↔ ahead a b := by
  unfold cmpE orZ ahead
  have hz : cmpZ b.2.1 a.2.1 < 0 ↔ b.2.1 < a.2.1 := by unfold cmpZ; split <;> (try split) <;> omega
  by_cases h1 : kless a.1 b.1 = true
  · have : cmpK a.1 b.1 = -1 := if_pos h1
    simp [this, h1]
  · by_cases h2 : kless b.1 a.1 = true
    · have : cmpK a.1 b.1 = 1 := by unfold cmpK; rw [if_neg h1, if_pos h2]
      simp [this, h1, (kless_ne h2).symm]
    · have h0 : cmpK a.1 b.1 = 0 := by unfold cmpK; rw [if_neg h1, if_neg h2]
      have he : a.1 = b.1 := kless_tri (by simpa using h1) (by simpa using h2)
      rw [if_pos h0, hz, he, kless_irrefl]
      simp

set_option maxHeartbeats 1000000 in
theorem compareE_any (a0 : ByteArray) (a1 : Int) (a2 : Bool) (a3 : ByteArray) (b0 : ByteArray) (b1 : Int) (b2 : Bool) (b3 : ByteArray) (w : World) :
    Calls Try.prog 87 #[.agg #[], .agg #[.string a0, .int .i64 a1, .bool a2, .string a3], .agg #[.string b0, .int .i64 b1, .bool b2, .string b3]] w (IntPost w (cmpE (a0, a1, a2, a3) (b0, b1, b2, b3))) := by
  obtain ⟨z1, hz1⟩ : ∃ z1, z1 = cmpK a0 b0 := ⟨_, rfl⟩
  obtain ⟨z2, hz2⟩ : ∃ z2, z2 = cmpZ b1 a1 := ⟨_, rfl⟩
  have HV := hide (show cmpE (a0, a1, a2, a3) (b0, b1, b2, b3) = orZ z1 z2 by rw [hz1, hz2]; rfl)
  have H1 := hide (fun W => compare_any a0 b0 W)
  have H2 := hide (fun W => compareZ_any b1 a1 W)
  rw [← hz1] at H1
  rw [← hz2] at H2
  clear hz1 hz2
  obtain ⟨W, hW⟩ : ∃ W, W = ((w.alloc (.cells #[] 117)).alloc (.cells #[.string a0, .int .i64 a1, .bool a2, .string a3] 26)).alloc (.cells #[.string b0, .int .i64 b1, .bool b2, .string b3] 26) := ⟨_, rfl⟩
  have HX := hide (show BoxV 26 W (w.heap.size + 1) #[.string a0, .int .i64 a1, .bool a2, .string a3] by
    rw [hW]
    have := (BoxV.new 26 (w.alloc (.cells #[] 117)) #[.string a0, .int .i64 a1, .bool a2, .string a3]).alloc (.cells #[.string b0, .int .i64 b1, .bool b2, .string b3] 26)
    rwa [Go.Deep.nblk_alloc] at this)
  have HY := hide (show BoxV 26 W (w.heap.size + 1 + 1) #[.string b0, .int .i64 b1, .bool b2, .string b3] by
    rw [hW]
    have := BoxV.new 26 ((w.alloc (.cells #[] 117)).alloc (.cells #[.string a0, .int .i64 a1, .bool a2, .string a3] 26)) #[.string b0, .int .i64 b1, .bool b2, .string b3]
    rwa [Go.Deep.nblk_alloc, Go.Deep.nblk_alloc] at this)
  have HB := hide (show Below w.heap.size w W by
    rw [hW]
    exact (((Below.refl _ _).alloc (Nat.le_refl _) _).alloc (by simp) _).alloc (by simp; omega) _)
  have hw0 := HB.out.size
  go_enter Try.func87, Try.ntmps87
  go_wp2_with fail
  rw [← hW]
  clear hW
  have HO := hide (fun g W (h : BoxV 3 W g #[.int .i64 z1, .int .i64 z2]) => or2_any g z1 z2 W (h.cell 0 _ rfl) (h.cell 1 _ rfl))
  go_region_held3 (fun w' => w'.cell? ⟨w.heap.size + 1, 0, none⟩ = some (.string a0) ∧ w'.cell? ⟨w.heap.size + 1, 1, none⟩ = some (.int .i64 a1) ∧ w'.cell? ⟨w.heap.size + 1 + 1, 0, none⟩ = some (.string b0) ∧ w'.cell? ⟨w.heap.size + 1 + 1, 1, none⟩ = some (.int .i64 b1))
    (first
      | exact ⟨HX.out.cell 0 _ rfl, HX.out.cell 1 _ rfl, HY.out.cell 0 _ rfl, HY.out.cell 1 _ rfl⟩
      | exact ⟨(HX.out.alloc _).cell 0 _ rfl, (HX.out.alloc _).cell 1 _ rfl, (HY.out.alloc _).cell 0 _ rfl, (HY.out.alloc _).cell 1 _ rfl⟩)
    (first
      | (go_at_call 102
         refine (HO.out W.heap.size _ ?_).mono ?_
         · first
           | exact (BoxV.new 3 W _).drew
           | exact BoxV.new 3 W _
           | exact BoxV.new 3 W.drew _
         rintro e w3 ⟨rfl, rfl⟩)
      | (go_at_call 103
         refine (H1.out _).mono ?_
         rintro e w1 ⟨rfl, rfl⟩)
      | (go_at_call 104
         refine (H2.out _).mono ?_
         rintro e w2 ⟨rfl, rfl⟩))
  all_goals go_wp2_with fail
  all_goals go_ret
  all_goals exact ⟨by rw [HV.out]; rfl, (HB.out.alloc hw0 _).drew⟩
end Go.Proofs.Ytphfakdbgohhgaa

/-
  Contract of spec.MapOk.
-/
namespace Go.Proofs.Ytphfakdbgohhgaa
open Go.ChangeShapes Go.WideShapes Go.ChangeAt Go.RowKit

theorem kv_op (k v : ByteArray) : opOk (k, false, v) ↔ kvOk (k, v) := ⟨fun h => ⟨h.1, h.2.1, h.2.2.1⟩, fun h => ⟨h.1, h.2.1, h.2.2, fun h => by cases h⟩⟩

set_option maxHeartbeats 4000000 in
theorem sMapOk_any (a : Option Addr) (cap : Nat) (L : List KV) (w : World) (hr : elKV.Rd w w.heap.size a L) (hl : L.length ≤ 2097152) :
    Calls Try.prog 22 #[.slice a L.length cap] w (BoolPost w (decide (mapOk L))) := by
  have HR := hide hr
  clear hr
  obtain ⟨V, hV⟩ : ∃ V, V = decide (mapOk L) := ⟨_, rfl⟩
  have HV := hide hV
  rw [← hV]
  obtain ⟨n, hn⟩ : ∃ n, n = L.length := ⟨_, rfl⟩
  have HN := hide hn
  rw [← hn] at hl
  rw [← hn]
  clear hn hV
  go_enter Try.func22, Try.ntmps22
  go_wp2_with fail
  go_loopw [3] (fun i wr => ∃ j : Nat, i = .int .i64 j ∧ j ≤ n ∧ Hid (∀ i x, i < j → L[i]? = some x → kvOk x) ∧ Hid (∀ i (h : i + 1 < L.length), i + 1 < j → kless L[i].1 L[i + 1].1 = true) ∧ Hid (Below w.heap.size w wr)) (fun i _ => n - (intOf i).toNat)
  case atStart => exact ⟨0, rfl, by omega, fun i _ hi _ => by omega, fun i _ hi => by omega, Below.refl _ _⟩
  case round =>
    obtain ⟨j, rfl, hj, HO, HA, HB⟩ := hrel
    by_cases hlt : j < n
    · have hjL : j < L.length := by rw [← HN.out]; exact hlt
      obtain ⟨b, off, rfl, hb, hcell⟩ := HR.out (by omega)
      obtain ⟨f0, f1, hx⟩ := partsKV L[j]
      obtain ⟨c0, c1⟩ := cellsKV hx (hcell j hjL)
      have d0 := (HB.out.cell (p := ⟨b, off + j * 2, none⟩) hb).trans c0
      have d1 := (HB.out.cell (p := ⟨b, off + j * 2 + 1, none⟩) hb).trans c1
      have HX := hide (show L[j]? = some (f0, f1) by rw [List.getElem?_eq_getElem hjL, hx])
      have HJ := hide hjL
      have hs := HB.out.size
      have HCELL := hide hcell
      clear hcell c0 c1 hx hjL
      by_cases ho : opOk (f0, false, f1)
      · have HO1 := hide (show ∀ i x, i < j + 1 → L[i]? = some x → kvOk x from fun i x hi hx => by
          rcases Nat.lt_or_ge i j with h | h
          · exact HO.out i x h hx
          · rw [show i = j by omega, HX.out] at hx
            rw [← Option.some.inj hx]
            exact (kv_op _ _).1 ho)
        by_cases hp0 : j = 0
        · have z1 : decide (0 < j) = false := decide_eq_false (by omega)
          have HA1 := hide (show ∀ i (h : i + 1 < L.length), i + 1 < j + 1 → kless L[i].1 L[i + 1].1 = true from fun i _ hi => by omega)
          clear hp0
          have HD := hide (show ∀ w' : World, Below w.heap.size wr w' → w'.cell? ⟨b, off + j * 2, none⟩ = some (.string f0) ∧ w'.cell? ⟨b, off + j * 2 + 1, none⟩ = some (.string f1) from fun w' h => ⟨(h.cell (p := ⟨b, off + j * 2, none⟩) hb).trans d0, (h.cell (p := ⟨b, off + j * 2 + 1, none⟩) hb).trans d1⟩)
          go_wp2_with fail
          refine wp_region_held_drew (S := fun w' => w'.cell? ⟨b, off + j * 2, none⟩ = some (.string f0) ∧ w'.cell? ⟨b, off + j * 2 + 1, none⟩ = some (.string f1)) (by kernel_rfl) (HD.out _ (Below.refl _ _).drew) (fun hHeld => ?_)
          refine wpAnyH_take (i := 0) (v := ?_) rfl (by kernel_rfl) (by kernel_rfl) (by kernel_rfl) (fun _ _ _ h => h) (Or.inl ⟨by rfl, ?_⟩) (by assumption) ?_
          rotate_left 1
          · intro w hSw
            (try dsimp only at hSw)
            go_simp
            try with_reducible rfl
          go_simp
          refine wpAnyH_take (i := 1) (v := ?_) rfl (by kernel_rfl) (by kernel_rfl) (by kernel_rfl) (fun _ _ _ h => h) (Or.inl ⟨by rfl, ?_⟩) (by assumption) ?_
          rotate_left 1
          · intro w hSw
            (try dsimp only at hSw)
            go_simp
            try with_reducible rfl
          go_simp
          refine wpAnyH_take (i := 2) (v := ?_) rfl (by kernel_rfl) (by kernel_rfl) (by kernel_rfl) (fun _ _ _ h => h) (Or.inl ⟨by rfl, ?_⟩) (by assumption) ?_
          rotate_left 1
          · intro w hSw
            (try dsimp only at hSw)
            go_simp
            try with_reducible rfl
          go_simp
          refine wpAnyH_take (i := 3) (v := ?_) rfl (by kernel_rfl) (by kernel_rfl) (by kernel_rfl) (fun _ _ _ h => h) (Or.inl ⟨by rfl, ?_⟩) (by assumption) ?_
          rotate_left 1
          · intro w hSw
            (try dsimp only at hSw)
            go_simp
            try with_reducible rfl
          go_simp
          refine wpAnyH_take (i := 4) (v := ?_) rfl (by kernel_rfl) (by kernel_rfl) (by kernel_rfl) (fun _ _ _ h => h) (Or.inl ⟨by rfl, ?_⟩) (by assumption) ?_
          rotate_left 1
          · intro w hSw
            (try dsimp only at hSw)
            go_simp
            try with_reducible rfl
          go_simp
          refine wpAnyH_take (i := 5) (v := ?_) rfl (by kernel_rfl) (by kernel_rfl) (by kernel_rfl) (fun _ _ _ h => h) (Or.inl ⟨by rfl, ?_⟩) (by assumption) ?_
          rotate_left 1
          · intro w hSw
            (try dsimp only at hSw)
            go_simp
            try with_reducible rfl
          go_simp
          refine wpAnyH_take (i := 6) (v := ?_) rfl (by kernel_rfl) (by kernel_rfl) (by kernel_rfl) (fun _ _ _ h => h) (Or.inl ⟨by rfl, ?_⟩) (by assumption) ?_
          rotate_left 1
          · intro w hSw
            (try dsimp only at hSw)
            go_simp
            try with_reducible rfl
          go_simp
          refine wpAnyH_take (i := 7) (v := ?_) rfl (by kernel_rfl) (by kernel_rfl) (by kernel_rfl) (fun _ _ _ h => h) (Or.inl ⟨by rfl, ?_⟩) (by assumption) ?_
          rotate_left 1
          · intro w hSw
            (try dsimp only at hSw)
            go_simp
            try with_reducible rfl
          go_simp
          refine wpAnyH_take (i := 8) (v := ?_) rfl (by kernel_rfl) (by kernel_rfl) (by kernel_rfl) (fun _ _ _ h => h) (Or.inl ⟨by rfl, ?_⟩) (by assumption) ?_
          rotate_left 1
          · intro w hSw
            (try dsimp only at hSw)
            go_simp
            try with_reducible rfl
          go_simp
          refine wpAnyH_take (i := 9) (v := ?_) rfl (by kernel_rfl) (by kernel_rfl) (by kernel_rfl) (fun _ _ _ h => h) (Or.inl ⟨by rfl, ?_⟩) (by assumption) ?_
          rotate_left 1
          · intro w hSw
            (try dsimp only at hSw)
            go_simp
            try with_reducible rfl
          go_simp
          refine wpAnyH_take (i := 10) (v := ?_) rfl (by kernel_rfl) (by kernel_rfl) (by kernel_rfl) (fun _ _ _ h => h) (Or.inl ⟨by rfl, ?_⟩) (by assumption) ?_
          rotate_left 1
          · intro w hSw
            (try dsimp only at hSw)
            go_simp
            try with_reducible rfl
          go_simp
          refine wpAnyH_ready (rs := [11]) (by kernel_rfl) (by simp) ?_
          refine AllReadyH.cons rfl (fun K hK => ?_) AllReadyH.nil
          go_simp
          go_at_call 66
          refine (l7Op_any f0 false f1 _).mono ?_
          rintro e w2 ⟨rfl, hb2⟩
          have hb2' := below_of_drew' hb2
          have HW2 : Hid (Below w.heap.size wr w2) := hb2'.mono hs
          have HB2 := hide (HB.out.trans HW2.out)
          rw [decide_eq_true ho]
          clear hb2 hb2' hHeld
          refine hK.out _ _ (HD.out _ HW2.out) (fun hHeld => ?_)
          clear hK K
          go_simp
          refine wpAnyH_take (i := 12) (v := ?_) rfl (by kernel_rfl) (by kernel_rfl) (by kernel_rfl) (fun _ _ _ h => h) (Or.inl ⟨by rfl, ?_⟩) (by assumption) ?_
          rotate_left 1
          · intro w hSw
            (try dsimp only at hSw)
            go_simp
            try with_reducible rfl
          go_simp
          refine wpAnyH_take (i := 13) (v := ?_) rfl (by kernel_rfl) (by kernel_rfl) (by kernel_rfl) (fun _ _ _ h => h) (Or.inl ⟨by rfl, ?_⟩) (by assumption) ?_
          rotate_left 1
          · intro w hSw
            (try dsimp only at hSw)
            go_simp
            try with_reducible rfl
          go_simp
          refine wpAnyH_take (i := 14) (v := ?_) rfl (by kernel_rfl) (by kernel_rfl) (by kernel_rfl) (fun _ _ _ h => h) (Or.inl ⟨by rfl, ?_⟩) (by assumption) ?_
          rotate_left 1
          · intro w hSw
            (try dsimp only at hSw)
            go_simp
            try with_reducible rfl
          go_simp
          refine wpAnyH_take (i := 15) (v := ?_) rfl (by kernel_rfl) (by kernel_rfl) (by kernel_rfl) (fun _ _ _ h => h) (Or.inl ⟨by rfl, ?_⟩) (by assumption) ?_
          rotate_left 1
          · intro w hSw
            (try dsimp only at hSw)
            go_simp
            try with_reducible rfl
          go_simp
          refine wpAnyH_take (i := 16) (v := ?_) rfl (by kernel_rfl) (by kernel_rfl) (by kernel_rfl) (fun _ _ _ h => h) (Or.inl ⟨by rfl, ?_⟩) (by assumption) ?_
          rotate_left 1
          · intro w hSw
            (try dsimp only at hSw)
            go_simp
            try with_reducible rfl
          go_simp
          refine wpAnyH_take (i := 17) rfl (by kernel_rfl) (by kernel_rfl) (by kernel_rfl) (fun _ _ _ h => h) (Or.inr ⟨by rfl, rfl⟩) (by assumption) ?_
          go_simp
          refine wpAnyH_take (i := 18) rfl (by kernel_rfl) (by kernel_rfl) (by kernel_rfl) (fun _ _ _ h => h) (Or.inr ⟨by rfl, rfl⟩) (by assumption) ?_
          go_simp
          refine wpAnyH_take (i := 19) rfl (by kernel_rfl) (by kernel_rfl) (by kernel_rfl) (fun _ _ _ h => h) (Or.inr ⟨by rfl, rfl⟩) (by assumption) ?_
          go_simp
          refine wpAnyH_take (i := 20) rfl (by kernel_rfl) (by kernel_rfl) (by kernel_rfl) (fun _ _ _ h => h) (Or.inr ⟨by rfl, rfl⟩) (by assumption) ?_
          go_simp
          refine wpAnyH_take (i := 21) rfl (by kernel_rfl) (by kernel_rfl) (by kernel_rfl) (fun _ _ _ h => h) (Or.inr ⟨by rfl, rfl⟩) (by assumption) ?_
          go_simp
          refine wpAnyH_take (i := 22) rfl (by kernel_rfl) (by kernel_rfl) (by kernel_rfl) (fun _ _ _ h => h) (Or.inr ⟨by rfl, rfl⟩) (by assumption) ?_
          go_simp
          refine wpAnyH_take (i := 23) rfl (by kernel_rfl) (by kernel_rfl) (by kernel_rfl) (fun _ _ _ h => h) (Or.inr ⟨by rfl, rfl⟩) (by assumption) ?_
          go_simp
          refine wpAnyH_take (i := 24) rfl (by kernel_rfl) (by kernel_rfl) (by kernel_rfl) (fun _ _ _ h => h) (Or.inr ⟨by rfl, rfl⟩) (by assumption) ?_
          go_simp
          refine wpAnyH_take (i := 25) rfl (by kernel_rfl) (by kernel_rfl) (by kernel_rfl) (fun _ _ _ h => h) (Or.inr ⟨by rfl, rfl⟩) (by assumption) ?_
          go_simp
          refine wpAnyH_take (i := 26) rfl (by kernel_rfl) (by kernel_rfl) (by kernel_rfl) (fun _ _ _ h => h) (Or.inr ⟨by rfl, rfl⟩) (by assumption) ?_
          go_simp
          refine wpAnyH_take (i := 27) rfl (by kernel_rfl) (by kernel_rfl) (by kernel_rfl) (fun _ _ _ h => h) (Or.inr ⟨by rfl, rfl⟩) (by assumption) ?_
          go_simp
          refine wpAnyH_take (i := 28) rfl (by kernel_rfl) (by kernel_rfl) (by kernel_rfl) (fun _ _ _ h => h) (Or.inr ⟨by rfl, rfl⟩) (by assumption) ?_
          go_simp
          refine wpAnyH_take (i := 29) (v := ?_) rfl (by kernel_rfl) (by kernel_rfl) (by kernel_rfl) (fun _ _ _ h => h) (Or.inl ⟨by rfl, ?_⟩) (by assumption) ?_
          rotate_left 1
          · intro w hSw
            (try dsimp only at hSw)
            go_simp
            try with_reducible rfl
          go_simp
          refine wpAnyH_take (i := 30) (v := ?_) rfl (by kernel_rfl) (by kernel_rfl) (by kernel_rfl) (fun _ _ _ h => h) (Or.inl ⟨by rfl, ?_⟩) (by assumption) ?_
          rotate_left 1
          · intro w hSw
            (try dsimp only at hSw)
            go_simp
            try with_reducible rfl
          go_simp
          refine wpAnyH_done (by kernel_rfl) ?_ _
          clear hHeld
          go_wp2_with fail
          all_goals go_roundw
          all_goals first
            | (simp [intOf]; omega)
            | exact ⟨j + 1, by go_num, by omega, HO1, HA1, HB2.out⟩
        · obtain ⟨p, hp⟩ : ∃ p, j = p + 1 := ⟨j - 1, by omega⟩
          have HP := hide hp
          have hpn : p < n := by omega
          have z1 : decide (0 < j) = true := decide_eq_true (by omega)
          have wp1 : IntKind.i64.wrap ((j : Int) - 1) = (p : Int) := by rw [IntKind.wrap_i64]; omega
          have hpL : p < L.length := by have := HJ.out; omega
          obtain ⟨g0, g1, hy⟩ := partsKV (L[p]'hpL)
          obtain ⟨c0, _⟩ := cellsKV hy (HCELL.out p hpL)
          have e0 := (HB.out.cell (p := ⟨b, off + p * 2, none⟩) hb).trans c0
          have HY := hide (show L[p]? = some (g0, g1) by rw [List.getElem?_eq_getElem hpL, hy])
          clear c0 hp hp0 hy hpL
          by_cases hc : kless g0 f0 = true
          · have z2 : Op.bytesLess g0.toList f0.toList = true := hc
            have HA1 := hide (show ∀ i (h : i + 1 < L.length), i + 1 < j + 1 → kless L[i].1 L[i + 1].1 = true from fun i h hi => by
              rcases Nat.lt_or_ge (i + 1) j with h' | h'
              · exact HA.out i h h'
              · have e := HP.out
                obtain rfl : i = p := by omega
                subst e
                have e1 := HX.out
                have e2 := HY.out
                rw [List.getElem?_eq_getElem h] at e1
                rw [List.getElem?_eq_getElem (by omega)] at e2
                rw [Option.some.inj e1, Option.some.inj e2]
                exact hc)
            clear hc
            have HD := hide (show ∀ w' : World, Below w.heap.size wr w' → w'.cell? ⟨b, off + j * 2, none⟩ = some (.string f0) ∧ w'.cell? ⟨b, off + j * 2 + 1, none⟩ = some (.string f1) ∧ w'.cell? ⟨b, off + p * 2, none⟩ = some (.string g0) from fun w' h => ⟨(h.cell (p := ⟨b, off + j * 2, none⟩) hb).trans d0, (h.cell (p := ⟨b, off + j * 2 + 1, none⟩) hb).trans d1, (h.cell (p := ⟨b, off + p * 2, none⟩) hb).trans e0⟩)
            go_wp2_with fail
            go_region_held3 (fun w' => w'.cell? ⟨b, off + j * 2, none⟩ = some (.string f0) ∧ w'.cell? ⟨b, off + j * 2 + 1, none⟩ = some (.string f1) ∧ w'.cell? ⟨b, off + p * 2, none⟩ = some (.string g0))
              (first
                | with_reducible exact HD.out _ (Below.refl _ _)
                | with_reducible exact HD.out _ (Below.refl _ _).drew
                | with_reducible exact HD.out _ ((Below.refl _ _).alloc hs _)
                | with_reducible exact HD.out _ ((Below.refl _ _).alloc hs _).drew
                | with_reducible exact HD.out _ HW2.out)
              (first
                | (go_at_call 66
                   refine (l7Op_any f0 false f1 _).mono ?_
                   rintro e w2 ⟨rfl, hb2⟩
                   have hb2' := below_of_drew' hb2
                   have HW2 : Hid (Below w.heap.size wr w2) := hb2'.mono hs
                   have HB2 := hide (HB.out.trans HW2.out)
                   obtain ⟨k0, k1, k2⟩ := HD.out _ HW2.out
                   rw [decide_eq_true ho]
                   clear hb2 hb2'))
            all_goals go_wp2_with fail
            all_goals go_roundw
            all_goals first
              | (simp [intOf]; omega)
              | exact ⟨j + 1, by go_num, by omega, HO1, HA1, HB2.out⟩
          · have z2 : Op.bytesLess g0.toList f0.toList = false := by
              cases hh : Op.bytesLess g0.toList f0.toList with
              | false => rfl
              | true => exact absurd hh hc
            have HV1 := hide (show V = false from HV.out.trans (decide_eq_false fun h => by
              have e := HP.out
              subst e
              have e1 := HX.out
              have e2 := HY.out
              rw [List.getElem?_eq_getElem HJ.out] at e1
              rw [List.getElem?_eq_getElem (by have := HJ.out; omega)] at e2
              exact srt_no HJ.out (by rw [Option.some.inj e1, Option.some.inj e2]; exact hc) h.2))
            clear hc
            have HD := hide (show ∀ w' : World, Below w.heap.size wr w' → w'.cell? ⟨b, off + j * 2, none⟩ = some (.string f0) ∧ w'.cell? ⟨b, off + j * 2 + 1, none⟩ = some (.string f1) ∧ w'.cell? ⟨b, off + p * 2, none⟩ = some (.string g0) from fun w' h => ⟨(h.cell (p := ⟨b, off + j * 2, none⟩) hb).trans d0, (h.cell (p := ⟨b, off + j * 2 + 1, none⟩) hb).trans d1, (h.cell (p := ⟨b, off + p * 2, none⟩) hb).trans e0⟩)
            go_wp2_with fail
            go_region_held3 (fun w' => w'.cell? ⟨b, off + j * 2, none⟩ = some (.string f0) ∧ w'.cell? ⟨b, off + j * 2 + 1, none⟩ = some (.string f1) ∧ w'.cell? ⟨b, off + p * 2, none⟩ = some (.string g0))
              (first
                | with_reducible exact HD.out _ (Below.refl _ _)
                | with_reducible exact HD.out _ (Below.refl _ _).drew
                | with_reducible exact HD.out _ ((Below.refl _ _).alloc hs _)
                | with_reducible exact HD.out _ ((Below.refl _ _).alloc hs _).drew
                | with_reducible exact HD.out _ HW2.out)
              (first
                | (go_at_call 66
                   refine (l7Op_any f0 false f1 _).mono ?_
                   rintro e w2 ⟨rfl, hb2⟩
                   have hb2' := below_of_drew' hb2
                   have HW2 : Hid (Below w.heap.size wr w2) := hb2'.mono hs
                   have HB2 := hide (HB.out.trans HW2.out)
                   obtain ⟨k0, k1, k2⟩ := HD.out _ HW2.out
                   rw [decide_eq_true ho]
                   clear hb2 hb2'))
            all_goals go_wp2_with fail
            all_goals go_ret
            all_goals exact ⟨by rw [HV1.out]; rfl, HB2.out⟩
      · have HV1 := hide (show V = false from HV.out.trans (decide_eq_false fun h => ho ((kv_op _ _).2 (h.1 _ (List.mem_of_getElem? HX.out)))))
        have HD := hide (show ∀ w' : World, Below w.heap.size wr w' → w'.cell? ⟨b, off + j * 2, none⟩ = some (.string f0) ∧ w'.cell? ⟨b, off + j * 2 + 1, none⟩ = some (.string f1) from fun w' h => ⟨(h.cell (p := ⟨b, off + j * 2, none⟩) hb).trans d0, (h.cell (p := ⟨b, off + j * 2 + 1, none⟩) hb).trans d1⟩)
        go_wp2_with fail
        refine wp_region_held_drew (S := fun w' => w'.cell? ⟨b, off + j * 2, none⟩ = some (.string f0) ∧ w'.cell? ⟨b, off + j * 2 + 1, none⟩ = some (.string f1)) (by kernel_rfl) (HD.out _ (Below.refl _ _).drew) (fun hHeld => ?_)
        refine wpAnyH_take (i := 0) (v := ?_) rfl (by kernel_rfl) (by kernel_rfl) (by kernel_rfl) (fun _ _ _ h => h) (Or.inl ⟨by rfl, ?_⟩) (by assumption) ?_
        rotate_left 1
        · intro w hSw
          (try dsimp only at hSw)
          go_simp
          try with_reducible rfl
        go_simp
        refine wpAnyH_take (i := 1) (v := ?_) rfl (by kernel_rfl) (by kernel_rfl) (by kernel_rfl) (fun _ _ _ h => h) (Or.inl ⟨by rfl, ?_⟩) (by assumption) ?_
        rotate_left 1
        · intro w hSw
          (try dsimp only at hSw)
          go_simp
          try with_reducible rfl
        go_simp
        refine wpAnyH_take (i := 2) (v := ?_) rfl (by kernel_rfl) (by kernel_rfl) (by kernel_rfl) (fun _ _ _ h => h) (Or.inl ⟨by rfl, ?_⟩) (by assumption) ?_
        rotate_left 1
        · intro w hSw
          (try dsimp only at hSw)
          go_simp
          try with_reducible rfl
        go_simp
        refine wpAnyH_take (i := 3) (v := ?_) rfl (by kernel_rfl) (by kernel_rfl) (by kernel_rfl) (fun _ _ _ h => h) (Or.inl ⟨by rfl, ?_⟩) (by assumption) ?_
        rotate_left 1
        · intro w hSw
          (try dsimp only at hSw)
          go_simp
          try with_reducible rfl
        go_simp
        refine wpAnyH_take (i := 4) (v := ?_) rfl (by kernel_rfl) (by kernel_rfl) (by kernel_rfl) (fun _ _ _ h => h) (Or.inl ⟨by rfl, ?_⟩) (by assumption) ?_
        rotate_left 1
        · intro w hSw
          (try dsimp only at hSw)
          go_simp
          try with_reducible rfl
        go_simp
        refine wpAnyH_take (i := 5) (v := ?_) rfl (by kernel_rfl) (by kernel_rfl) (by kernel_rfl) (fun _ _ _ h => h) (Or.inl ⟨by rfl, ?_⟩) (by assumption) ?_
        rotate_left 1
        · intro w hSw
          (try dsimp only at hSw)
          go_simp
          try with_reducible rfl
        go_simp
        refine wpAnyH_take (i := 6) (v := ?_) rfl (by kernel_rfl) (by kernel_rfl) (by kernel_rfl) (fun _ _ _ h => h) (Or.inl ⟨by rfl, ?_⟩) (by assumption) ?_
        rotate_left 1
        · intro w hSw
          (try dsimp only at hSw)
          go_simp
          try with_reducible rfl
        go_simp
        refine wpAnyH_take (i := 7) (v := ?_) rfl (by kernel_rfl) (by kernel_rfl) (by kernel_rfl) (fun _ _ _ h => h) (Or.inl ⟨by rfl, ?_⟩) (by assumption) ?_
        rotate_left 1
        · intro w hSw
          (try dsimp only at hSw)
          go_simp
          try with_reducible rfl
        go_simp
        refine wpAnyH_take (i := 8) (v := ?_) rfl (by kernel_rfl) (by kernel_rfl) (by kernel_rfl) (fun _ _ _ h => h) (Or.inl ⟨by rfl, ?_⟩) (by assumption) ?_
        rotate_left 1
        · intro w hSw
          (try dsimp only at hSw)
          go_simp
          try with_reducible rfl
        go_simp
        refine wpAnyH_take (i := 9) (v := ?_) rfl (by kernel_rfl) (by kernel_rfl) (by kernel_rfl) (fun _ _ _ h => h) (Or.inl ⟨by rfl, ?_⟩) (by assumption) ?_
        rotate_left 1
        · intro w hSw
          (try dsimp only at hSw)
          go_simp
          try with_reducible rfl
        go_simp
        refine wpAnyH_take (i := 10) (v := ?_) rfl (by kernel_rfl) (by kernel_rfl) (by kernel_rfl) (fun _ _ _ h => h) (Or.inl ⟨by rfl, ?_⟩) (by assumption) ?_
        rotate_left 1
        · intro w hSw
          (try dsimp only at hSw)
          go_simp
          try with_reducible rfl
        go_simp
        refine wpAnyH_ready (rs := [11]) (by kernel_rfl) (by simp) ?_
        refine AllReadyH.cons rfl (fun K hK => ?_) AllReadyH.nil
        go_simp
        go_at_call 66
        refine (l7Op_any f0 false f1 _).mono ?_
        rintro e w2 ⟨rfl, hb2⟩
        have hb2' := below_of_drew' hb2
        have HW2 : Hid (Below w.heap.size wr w2) := hb2'.mono hs
        have HB2 := hide (HB.out.trans HW2.out)
        rw [decide_eq_false ho]
        clear hb2 hb2' hHeld
        refine hK.out _ _ (HD.out _ HW2.out) (fun hHeld => ?_)
        clear hK K
        go_simp
        refine wpAnyH_take (i := 12) (v := ?_) rfl (by kernel_rfl) (by kernel_rfl) (by kernel_rfl) (fun _ _ _ h => h) (Or.inl ⟨by rfl, ?_⟩) (by assumption) ?_
        rotate_left 1
        · intro w hSw
          (try dsimp only at hSw)
          go_simp
          try with_reducible rfl
        go_simp
        refine wpAnyH_take (i := 13) (v := ?_) rfl (by kernel_rfl) (by kernel_rfl) (by kernel_rfl) (fun _ _ _ h => h) (Or.inl ⟨by rfl, ?_⟩) (by assumption) ?_
        rotate_left 1
        · intro w hSw
          (try dsimp only at hSw)
          go_simp
          try with_reducible rfl
        go_simp
        refine wpAnyH_take (i := 14) rfl (by kernel_rfl) (by kernel_rfl) (by kernel_rfl) (fun _ _ _ h => h) (Or.inr ⟨by rfl, rfl⟩) (by assumption) ?_
        go_simp
        refine wpAnyH_take (i := 15) rfl (by kernel_rfl) (by kernel_rfl) (by kernel_rfl) (fun _ _ _ h => h) (Or.inr ⟨by rfl, rfl⟩) (by assumption) ?_
        go_simp
        refine wpAnyH_take (i := 16) rfl (by kernel_rfl) (by kernel_rfl) (by kernel_rfl) (fun _ _ _ h => h) (Or.inr ⟨by rfl, rfl⟩) (by assumption) ?_
        go_simp
        refine wpAnyH_take (i := 17) rfl (by kernel_rfl) (by kernel_rfl) (by kernel_rfl) (fun _ _ _ h => h) (Or.inr ⟨by rfl, rfl⟩) (by assumption) ?_
        go_simp
        refine wpAnyH_take (i := 18) rfl (by kernel_rfl) (by kernel_rfl) (by kernel_rfl) (fun _ _ _ h => h) (Or.inr ⟨by rfl, rfl⟩) (by assumption) ?_
        go_simp
        refine wpAnyH_take (i := 19) rfl (by kernel_rfl) (by kernel_rfl) (by kernel_rfl) (fun _ _ _ h => h) (Or.inr ⟨by rfl, rfl⟩) (by assumption) ?_
        go_simp
        refine wpAnyH_take (i := 20) rfl (by kernel_rfl) (by kernel_rfl) (by kernel_rfl) (fun _ _ _ h => h) (Or.inr ⟨by rfl, rfl⟩) (by assumption) ?_
        go_simp
        refine wpAnyH_take (i := 21) rfl (by kernel_rfl) (by kernel_rfl) (by kernel_rfl) (fun _ _ _ h => h) (Or.inr ⟨by rfl, rfl⟩) (by assumption) ?_
        go_simp
        refine wpAnyH_take (i := 22) rfl (by kernel_rfl) (by kernel_rfl) (by kernel_rfl) (fun _ _ _ h => h) (Or.inr ⟨by rfl, rfl⟩) (by assumption) ?_
        go_simp
        refine wpAnyH_take (i := 23) rfl (by kernel_rfl) (by kernel_rfl) (by kernel_rfl) (fun _ _ _ h => h) (Or.inr ⟨by rfl, rfl⟩) (by assumption) ?_
        go_simp
        refine wpAnyH_take (i := 24) rfl (by kernel_rfl) (by kernel_rfl) (by kernel_rfl) (fun _ _ _ h => h) (Or.inr ⟨by rfl, rfl⟩) (by assumption) ?_
        go_simp
        refine wpAnyH_take (i := 25) rfl (by kernel_rfl) (by kernel_rfl) (by kernel_rfl) (fun _ _ _ h => h) (Or.inr ⟨by rfl, rfl⟩) (by assumption) ?_
        go_simp
        refine wpAnyH_take (i := 26) rfl (by kernel_rfl) (by kernel_rfl) (by kernel_rfl) (fun _ _ _ h => h) (Or.inr ⟨by rfl, rfl⟩) (by assumption) ?_
        go_simp
        refine wpAnyH_take (i := 27) rfl (by kernel_rfl) (by kernel_rfl) (by kernel_rfl) (fun _ _ _ h => h) (Or.inr ⟨by rfl, rfl⟩) (by assumption) ?_
        go_simp
        refine wpAnyH_take (i := 28) rfl (by kernel_rfl) (by kernel_rfl) (by kernel_rfl) (fun _ _ _ h => h) (Or.inr ⟨by rfl, rfl⟩) (by assumption) ?_
        go_simp
        refine wpAnyH_take (i := 29) rfl (by kernel_rfl) (by kernel_rfl) (by kernel_rfl) (fun _ _ _ h => h) (Or.inr ⟨by rfl, rfl⟩) (by assumption) ?_
        go_simp
        refine wpAnyH_take (i := 30) (v := ?_) rfl (by kernel_rfl) (by kernel_rfl) (by kernel_rfl) (fun _ _ _ h => h) (Or.inl ⟨by rfl, ?_⟩) (by assumption) ?_
        rotate_left 1
        · intro w hSw
          (try dsimp only at hSw)
          go_simp
          try with_reducible rfl
        go_simp
        refine wpAnyH_done (by kernel_rfl) ?_ _
        clear hHeld
        go_wp2_with fail
        all_goals go_ret
        all_goals exact ⟨by rw [HV1.out]; rfl, HB2.out⟩
    · have HV1 := hide (show V = true from HV.out.trans (decide_eq_true ⟨fun o ho => by
        obtain ⟨i, hi, e⟩ := List.getElem_of_mem ho
        exact HO.out i o (by rw [← HN.out] at hi; omega) (by rw [List.getElem?_eq_getElem hi, e]), (srt_adj L).2 fun i h => HA.out i h (by rw [← HN.out] at h; omega)⟩))
      go_wp2_with fail
      go_ret
      exact ⟨by rw [HV1.out]; rfl, HB.out⟩
end Go.Proofs.Ytphfakdbgohhgaa
