/-
  Texts of this proof, put together: MemE.
-/
import Derived.Test.YtphfakdbgohhgaaPackAB
import Derived.Test.YtphfakdbgohhgaaPackAO
import Derived.Test.YtphfakdbgohhgaaPackAK
import Derived.Test.YtphfakdbgohhgaaPackAI
import Derived.StillTailTactics
import Derived.Deep.DeepCutAuto
import Derived.Deep.RegionHeld3
import Derived.Deep.QuietTactic
import Derived.BigQuiet

/-
  Contracts of spec.l9Ahead, l9Ent, l9Ents and MemOk.
-/
namespace Go.Proofs.Ytphfakdbgohhgaa
open Go.ChangeShapes Go.WideShapes Go.ChangeAt Go.RowKit

theorem l9Ahead_any (a0 : ByteArray) (a1 : Int) (a2 : Bool) (a3 : ByteArray) (b0 : ByteArray) (b1 : Int) (b2 : Bool) (b3 : ByteArray) (w : World) :
    Calls Try.prog 89 #[.agg #[.string a0, .int .i64 a1, .bool a2, .string a3], .agg #[.string b0, .int .i64 b1, .bool b2, .string b3]] w (BoolPost w (decide (ahead (a0, a1, a2, a3) (b0, b1, b2, b3)))) := by
  obtain ⟨V, hV⟩ : ∃ V, V = decide (ahead (a0, a1, a2, a3) (b0, b1, b2, b3)) := ⟨_, rfl⟩
  rw [← hV]
  have hB := hide (fun o o' => ((Below.refl w.heap.size w).alloc (Nat.le_refl _) o).alloc (by simp) o')
  cases h1 : kless a0 b0 with
  | true =>
    have HV := hide (show V = true from hV.trans (decide_eq_true (.inl h1)))
    have z1 : Op.bytesLess a0.toList b0.toList = true := h1
    clear hV h1
    go_enter Try.func89, Try.ntmps89
    go_wp2_with fail
    go_ret
    exact ⟨by rw [HV.out]; rfl, hB.out _ _⟩
  | false =>
    have z1 : Op.bytesLess a0.toList b0.toList = false := h1
    by_cases h2 : a0 = b0
    · have z2 : (a0.toList == b0.toList) = true := (keq_iff a0 b0).2 h2
      by_cases h3 : b1 < a1
      · have HV := hide (show V = true from hV.trans (decide_eq_true (.inr ⟨h2, h3⟩)))
        clear hV h1 h2
        go_enter Try.func89, Try.ntmps89
        go_wp2_with fail
        go_ret
        exact ⟨by rw [HV.out]; simp, hB.out _ _⟩
      · have HV := hide (show V = false from hV.trans (decide_eq_false (by rintro (h | ⟨_, h⟩); (rw [show kless a0 b0 = true from h] at h1; cases h1); exact h3 h)))
        clear hV h1 h2
        go_enter Try.func89, Try.ntmps89
        go_wp2_with fail
        go_ret
        exact ⟨by rw [HV.out]; simp, hB.out _ _⟩
    · have z2 : (a0.toList == b0.toList) = false := keq_false h2
      have HV := hide (show V = false from hV.trans (decide_eq_false (by rintro (h | ⟨h, _⟩); (rw [show kless a0 b0 = true from h] at h1; cases h1); exact h2 h)))
      clear hV h1 h2
      go_enter Try.func89, Try.ntmps89
      go_wp2_with fail
      go_ret
      exact ⟨by rw [HV.out]; rfl, hB.out _ _⟩

theorem l9Ent_any (f0 : ByteArray) (f1 : Int) (f2 : Bool) (f3 : ByteArray) (w : World) :
    Calls Try.prog 90 #[.agg #[.string f0, .int .i64 f1, .bool f2, .string f3]] w (BoolPost w (decide (entOk (f0, f1, f2, f3)))) := by
  obtain ⟨V, hV⟩ : ∃ V, V = decide (entOk (f0, f1, f2, f3)) := ⟨_, rfl⟩
  rw [← hV]
  have HB := hide ((Below.refl w.heap.size w).alloc (Nat.le_refl _) (.cells #[.string f0, .int .i64 f1, .bool f2, .string f3] 26))
  have hw0 := HB.out.size
  by_cases ho : opOk (f0, f2, f3)
  · have HO := hide (decide_eq_true ho)
    by_cases h0 : 0 ≤ f1 ∧ f1 ≤ 1000000
    · have HV := hide (show V = true from hV.trans (decide_eq_true ⟨ho, h0⟩))
      have HI := hide (fun W => in_yes f1 0 1000000 W h0.1 h0.2)
      clear hV ho h0
      go_enter Try.func90, Try.ntmps90
      go_wp2_with fail
      refine (l7Op_any f0 f2 f3 _).mono ?_
      rintro e w1 ⟨rfl, hb1⟩
      have HX := hide ((BoxV.new 26 w #[.string f0, .int .i64 f1, .bool f2, .string f3]).below hb1 (by simp))
      have c1 := HX.out.cell 1 _ rfl
      have HB1 := hide (HB.out.trans (hb1.mono hw0))
      rw [HO.out]
      clear hb1
      go_wp2_with fail
      refine (HI.out _).mono ?_
      rintro e w2 ⟨rfl, rfl⟩
      go_wp2_with fail
      go_ret
      exact ⟨by rw [HV.out]; rfl, HB1.out⟩
    · have HV := hide (show V = false from hV.trans (decide_eq_false fun h => h0 h.2))
      have HI := hide (fun W => in_no f1 0 1000000 W (by omega))
      clear hV ho h0
      go_enter Try.func90, Try.ntmps90
      go_wp2_with fail
      refine (l7Op_any f0 f2 f3 _).mono ?_
      rintro e w1 ⟨rfl, hb1⟩
      have HX := hide ((BoxV.new 26 w #[.string f0, .int .i64 f1, .bool f2, .string f3]).below hb1 (by simp))
      have c1 := HX.out.cell 1 _ rfl
      have HB1 := hide (HB.out.trans (hb1.mono hw0))
      rw [HO.out]
      clear hb1
      go_wp2_with fail
      refine (HI.out _).mono ?_
      rintro e w2 ⟨rfl, rfl⟩
      go_wp2_with fail
      go_ret
      exact ⟨by rw [HV.out]; rfl, HB1.out⟩
  · have HO := hide (decide_eq_false ho)
    have HV := hide (show V = false from hV.trans (decide_eq_false fun h => ho h.1))
    clear hV ho
    go_enter Try.func90, Try.ntmps90
    go_wp2_with fail
    refine (l7Op_any f0 f2 f3 _).mono ?_
    rintro e w1 ⟨rfl, hb1⟩
    have HB1 := hide (HB.out.trans (hb1.mono hw0))
    rw [HO.out]
    go_wp2_with fail
    go_ret
    exact ⟨by rw [HV.out]; rfl, HB1.out⟩

/-- entries, however many -/
def entsOk' (L : List En) : Prop := (∀ e ∈ L, entOk e) ∧ SrtE L
instance (L : List En) : Decidable (entsOk' L) := inferInstanceAs (Decidable (_ ∧ _))
theorem srtE_no' {L : List En} {p : Nat} (h1 : p + 1 < L.length) (h : ¬ ahead (L[p]'(by omega)) L[p + 1]) : ¬ SrtE L := fun hs => h ((srtE_adj L).1 hs p h1)
theorem at_of' {α : Type} {L : List α} {i : Nat} (h : i < L.length) {x : α} (hx : L[i]? = some x) : L[i] = x := by
  rw [List.getElem?_eq_getElem h] at hx
  exact Option.some.inj hx

set_option maxHeartbeats 4000000 in
set_option maxRecDepth 20000 in
theorem l9Ents_any (a : Option Addr) (cap : Nat) (L : List En) (w : World) (hr : elEnt.Rd w w.heap.size a L) (hl : L.length ≤ 2097152) :
    Calls Try.prog 60 #[.slice a L.length cap] w (BoolPost w (decide (entsOk' L))) := by
  have HR := hide hr
  clear hr
  obtain ⟨V, hV⟩ : ∃ V, V = decide (entsOk' L) := ⟨_, rfl⟩
  have HV := hide hV
  rw [← hV]
  obtain ⟨n, hn⟩ : ∃ n, n = L.length := ⟨_, rfl⟩
  have HN := hide hn
  rw [← hn] at hl
  rw [← hn]
  clear hn hV
  go_enter Try.func60, Try.ntmps60
  go_wp2_with fail
  go_loopw [3] (fun i wr => ∃ j : Nat, i = .int .i64 j ∧ j ≤ n ∧ Hid (∀ i x, i < j → L[i]? = some x → entOk x) ∧ Hid (∀ i (h : i + 1 < L.length), i + 1 < j → ahead L[i] L[i + 1]) ∧ Hid (Below w.heap.size w wr)) (fun i _ => n - (intOf i).toNat)
  case atStart => exact ⟨0, rfl, by omega, fun i _ hi _ => by omega, fun i _ hi => by omega, Below.refl _ _⟩
  case round =>
    obtain ⟨j, rfl, hj, HO, HA, HB⟩ := hrel
    by_cases hlt : j < n
    · have hjL : j < L.length := by rw [← HN.out]; exact hlt
      obtain ⟨b, off, rfl, hb, hcell⟩ := HR.out (by omega)
      obtain ⟨f0, f1, f2, f3, hx⟩ := partsEnt L[j]
      obtain ⟨c0, c1, c2, c3⟩ := cellsEnt hx (hcell j hjL)
      have d0 := (HB.out.cell (p := ⟨b, off + j * 4, none⟩) hb).trans c0
      have d1 := (HB.out.cell (p := ⟨b, off + j * 4 + 1, none⟩) hb).trans c1
      have d2 := (HB.out.cell (p := ⟨b, off + j * 4 + 2, none⟩) hb).trans c2
      have d3 := (HB.out.cell (p := ⟨b, off + j * 4 + 3, none⟩) hb).trans c3
      have HX := hide (show L[j]? = some (f0, f1, f2, f3) by rw [List.getElem?_eq_getElem hjL, hx])
      have HJ := hide hjL
      have hs := HB.out.size
      have HCELL := hide hcell
      clear hcell c0 c1 c2 c3 hx hjL
      have HD := hide (show ∀ w' : World, Below w.heap.size wr w' → w'.cell? ⟨b, off + j * 4, none⟩ = some (.string f0) ∧ w'.cell? ⟨b, off + j * 4 + 1, none⟩ = some (.int .i64 f1) ∧ w'.cell? ⟨b, off + j * 4 + 2, none⟩ = some (.bool f2) ∧ w'.cell? ⟨b, off + j * 4 + 3, none⟩ = some (.string f3) from fun w' h => ⟨(h.cell (p := ⟨b, off + j * 4, none⟩) hb).trans d0, (h.cell (p := ⟨b, off + j * 4 + 1, none⟩) hb).trans d1, (h.cell (p := ⟨b, off + j * 4 + 2, none⟩) hb).trans d2, (h.cell (p := ⟨b, off + j * 4 + 3, none⟩) hb).trans d3⟩)
      by_cases ho : entOk (f0, f1, f2, f3)
      · have HO1 := hide (show ∀ i x, i < j + 1 → L[i]? = some x → entOk x from fun i x hi hx => by
          rcases Nat.lt_or_ge i j with h | h
          · exact HO.out i x h hx
          · rw [show i = j by omega, HX.out] at hx
            rw [← Option.some.inj hx]
            exact ho)
        have HOD := hide (decide_eq_true ho)
        clear ho
        by_cases hp0 : j = 0
        · have z1 : decide (0 < j) = false := decide_eq_false (by omega)
          have HA1 := hide (show ∀ i (h : i + 1 < L.length), i + 1 < j + 1 → ahead L[i] L[i + 1] from fun i _ hi => by omega)
          clear hp0
          go_wp2_with fail
          refine wp_region_held_drew (S := fun w' => w'.cell? ⟨b, off + j * 4, none⟩ = some (.string f0) ∧ w'.cell? ⟨b, off + j * 4 + 1, none⟩ = some (.int .i64 f1) ∧ w'.cell? ⟨b, off + j * 4 + 2, none⟩ = some (.bool f2) ∧ w'.cell? ⟨b, off + j * 4 + 3, none⟩ = some (.string f3)) (by kernel_rfl) (HD.out _ (Below.refl _ _).drew) (fun hHeld => ?_)
          refine wpAnyH_take (i := 0) (v := ?_) rfl (by kernel_rfl) (by kernel_rfl) (by kernel_rfl) (fun _ _ _ h => h) (Or.inl ⟨by rfl, ?_⟩) (by assumption) ?_
          rotate_left 1
          · intro w hSw
            (try dsimp only at hSw)
            go_simp
            try with_reducible rfl
          go_simp
          refine wpAnyH_take (i := 1) (v := ?_) rfl (by kernel_rfl) (by kernel_rfl) (by kernel_rfl) (fun _ _ _ h => h) (Or.inl ⟨by rfl, ?_⟩) (by assumption) ?_
          rotate_left 1
          · intro w hSw
            (try dsimp only at hSw)
            go_simp
            try with_reducible rfl
          go_simp
          refine wpAnyH_take (i := 2) (v := ?_) rfl (by kernel_rfl) (by kernel_rfl) (by kernel_rfl) (fun _ _ _ h => h) (Or.inl ⟨by rfl, ?_⟩) (by assumption) ?_
          rotate_left 1
          · intro w hSw
            (try dsimp only at hSw)
            go_simp
            try with_reducible rfl
          go_simp
          refine wpAnyH_take (i := 3) (v := ?_) rfl (by kernel_rfl) (by kernel_rfl) (by kernel_rfl) (fun _ _ _ h => h) (Or.inl ⟨by rfl, ?_⟩) (by assumption) ?_
          rotate_left 1
          · intro w hSw
            (try dsimp only at hSw)
            go_simp
            try with_reducible rfl
          go_simp
          refine wpAnyH_ready (rs := [4]) (by kernel_rfl) (by simp) ?_
          refine AllReadyH.cons rfl (fun K hK => ?_) AllReadyH.nil
          go_simp
          go_at_call 90
          refine (l9Ent_any f0 f1 f2 f3 _).mono ?_
          rintro e w2 ⟨rfl, hb2⟩
          have hb2' := below_of_drew' hb2
          have HW2 : Hid (Below w.heap.size wr w2) := hb2'.mono hs
          have HB2 := hide (HB.out.trans HW2.out)
          rw [HOD.out]
          clear hb2 hb2' hHeld
          refine hK.out _ _ (HD.out _ HW2.out) (fun hHeld => ?_)
          clear hK K
          go_simp
          refine wpAnyH_take (i := 5) (v := ?_) rfl (by kernel_rfl) (by kernel_rfl) (by kernel_rfl) (fun _ _ _ h => h) (Or.inl ⟨by rfl, ?_⟩) (by assumption) ?_
          rotate_left 1
          · intro w hSw
            (try dsimp only at hSw)
            go_simp
            try with_reducible rfl
          go_simp
          refine wpAnyH_take (i := 6) (v := ?_) rfl (by kernel_rfl) (by kernel_rfl) (by kernel_rfl) (fun _ _ _ h => h) (Or.inl ⟨by rfl, ?_⟩) (by assumption) ?_
          rotate_left 1
          · intro w hSw
            (try dsimp only at hSw)
            go_simp
            try with_reducible rfl
          go_simp
          refine wpAnyH_take (i := 7) (v := ?_) rfl (by kernel_rfl) (by kernel_rfl) (by kernel_rfl) (fun _ _ _ h => h) (Or.inl ⟨by rfl, ?_⟩) (by assumption) ?_
          rotate_left 1
          · intro w hSw
            (try dsimp only at hSw)
            go_simp
            try with_reducible rfl
          go_simp
          refine wpAnyH_take (i := 8) (v := ?_) rfl (by kernel_rfl) (by kernel_rfl) (by kernel_rfl) (fun _ _ _ h => h) (Or.inl ⟨by rfl, ?_⟩) (by assumption) ?_
          rotate_left 1
          · intro w hSw
            (try dsimp only at hSw)
            go_simp
            try with_reducible rfl
          go_simp
          refine wpAnyH_take (i := 9) (v := ?_) rfl (by kernel_rfl) (by kernel_rfl) (by kernel_rfl) (fun _ _ _ h => h) (Or.inl ⟨by rfl, ?_⟩) (by assumption) ?_
          rotate_left 1
          · intro w hSw
            (try dsimp only at hSw)
            go_simp
            try with_reducible rfl
          go_simp
          refine wpAnyH_take (i := 10) rfl (by kernel_rfl) (by kernel_rfl) (by kernel_rfl) (fun _ _ _ h => h) (Or.inr ⟨by rfl, rfl⟩) (by assumption) ?_
          go_simp
          refine wpAnyH_take (i := 11) rfl (by kernel_rfl) (by kernel_rfl) (by kernel_rfl) (fun _ _ _ h => h) (Or.inr ⟨by rfl, rfl⟩) (by assumption) ?_
          go_simp
          refine wpAnyH_take (i := 12) rfl (by kernel_rfl) (by kernel_rfl) (by kernel_rfl) (fun _ _ _ h => h) (Or.inr ⟨by rfl, rfl⟩) (by assumption) ?_
          go_simp
          refine wpAnyH_take (i := 13) rfl (by kernel_rfl) (by kernel_rfl) (by kernel_rfl) (fun _ _ _ h => h) (Or.inr ⟨by rfl, rfl⟩) (by assumption) ?_
          go_simp
          refine wpAnyH_take (i := 14) rfl (by kernel_rfl) (by kernel_rfl) (by kernel_rfl) (fun _ _ _ h => h) (Or.inr ⟨by rfl, rfl⟩) (by assumption) ?_
          go_simp
          refine wpAnyH_take (i := 15) rfl (by kernel_rfl) (by kernel_rfl) (by kernel_rfl) (fun _ _ _ h => h) (Or.inr ⟨by rfl, rfl⟩) (by assumption) ?_
          go_simp
          refine wpAnyH_take (i := 16) rfl (by kernel_rfl) (by kernel_rfl) (by kernel_rfl) (fun _ _ _ h => h) (Or.inr ⟨by rfl, rfl⟩) (by assumption) ?_
          go_simp
          refine wpAnyH_take (i := 17) rfl (by kernel_rfl) (by kernel_rfl) (by kernel_rfl) (fun _ _ _ h => h) (Or.inr ⟨by rfl, rfl⟩) (by assumption) ?_
          go_simp
          refine wpAnyH_take (i := 18) rfl (by kernel_rfl) (by kernel_rfl) (by kernel_rfl) (fun _ _ _ h => h) (Or.inr ⟨by rfl, rfl⟩) (by assumption) ?_
          go_simp
          refine wpAnyH_take (i := 19) rfl (by kernel_rfl) (by kernel_rfl) (by kernel_rfl) (fun _ _ _ h => h) (Or.inr ⟨by rfl, rfl⟩) (by assumption) ?_
          go_simp
          refine wpAnyH_take (i := 20) rfl (by kernel_rfl) (by kernel_rfl) (by kernel_rfl) (fun _ _ _ h => h) (Or.inr ⟨by rfl, rfl⟩) (by assumption) ?_
          go_simp
          refine wpAnyH_take (i := 21) (v := ?_) rfl (by kernel_rfl) (by kernel_rfl) (by kernel_rfl) (fun _ _ _ h => h) (Or.inl ⟨by rfl, ?_⟩) (by assumption) ?_
          rotate_left 1
          · intro w hSw
            (try dsimp only at hSw)
            go_simp
            try with_reducible rfl
          go_simp
          refine wpAnyH_take (i := 22) (v := ?_) rfl (by kernel_rfl) (by kernel_rfl) (by kernel_rfl) (fun _ _ _ h => h) (Or.inl ⟨by rfl, ?_⟩) (by assumption) ?_
          rotate_left 1
          · intro w hSw
            (try dsimp only at hSw)
            go_simp
            try with_reducible rfl
          go_simp
          refine wpAnyH_done (by kernel_rfl) ?_ _
          clear hHeld
          go_wp2_with fail
          all_goals go_roundw
          all_goals first
            | (simp [intOf]; omega)
            | exact ⟨j + 1, by go_num, by omega, HO1, HA1, HB2.out⟩
        · obtain ⟨p, hp⟩ : ∃ p, j = p + 1 := ⟨j - 1, by omega⟩
          have HP := hide hp
          have hpn : p < n := by omega
          have z1 : decide (0 < j) = true := decide_eq_true (by omega)
          have wp1 : IntKind.i64.wrap ((j : Int) - 1) = (p : Int) := by rw [IntKind.wrap_i64]; omega
          have hpL : p < L.length := by have := HJ.out; omega
          obtain ⟨g0, g1, g2, g3, hy⟩ := partsEnt (L[p]'hpL)
          obtain ⟨c0, c1, c2, c3⟩ := cellsEnt hy (HCELL.out p hpL)
          have e0 := (HB.out.cell (p := ⟨b, off + p * 4, none⟩) hb).trans c0
          have e1 := (HB.out.cell (p := ⟨b, off + p * 4 + 1, none⟩) hb).trans c1
          have e2 := (HB.out.cell (p := ⟨b, off + p * 4 + 2, none⟩) hb).trans c2
          have e3 := (HB.out.cell (p := ⟨b, off + p * 4 + 3, none⟩) hb).trans c3
          have HY := hide (show L[p]? = some (g0, g1, g2, g3) by rw [List.getElem?_eq_getElem hpL, hy])
          clear c0 c1 c2 c3 hp hp0 hy hpL
          have HDE := hide (show ∀ w' : World, Below w.heap.size wr w' → w'.cell? ⟨b, off + p * 4, none⟩ = some (.string g0) ∧ w'.cell? ⟨b, off + p * 4 + 1, none⟩ = some (.int .i64 g1) ∧ w'.cell? ⟨b, off + p * 4 + 2, none⟩ = some (.bool g2) ∧ w'.cell? ⟨b, off + p * 4 + 3, none⟩ = some (.string g3) from fun w' h => ⟨(h.cell (p := ⟨b, off + p * 4, none⟩) hb).trans e0, (h.cell (p := ⟨b, off + p * 4 + 1, none⟩) hb).trans e1, (h.cell (p := ⟨b, off + p * 4 + 2, none⟩) hb).trans e2, (h.cell (p := ⟨b, off + p * 4 + 3, none⟩) hb).trans e3⟩)
          obtain ⟨U, hU⟩ : ∃ U, U = decide (ahead (g0, g1, g2, g3) (f0, f1, f2, f3)) := ⟨_, rfl⟩
          have HU := hide hU
          have HAH := hide (fun W => l9Ahead_any g0 g1 g2 g3 f0 f1 f2 f3 W)
          rw [← hU] at HAH
          clear hU
          go_wp2_with fail
          go_region_held3 (fun w' => (w'.cell? ⟨b, off + j * 4, none⟩ = some (.string f0) ∧ w'.cell? ⟨b, off + j * 4 + 1, none⟩ = some (.int .i64 f1) ∧ w'.cell? ⟨b, off + j * 4 + 2, none⟩ = some (.bool f2) ∧ w'.cell? ⟨b, off + j * 4 + 3, none⟩ = some (.string f3)) ∧ w'.cell? ⟨b, off + p * 4, none⟩ = some (.string g0) ∧ w'.cell? ⟨b, off + p * 4 + 1, none⟩ = some (.int .i64 g1) ∧ w'.cell? ⟨b, off + p * 4 + 2, none⟩ = some (.bool g2) ∧ w'.cell? ⟨b, off + p * 4 + 3, none⟩ = some (.string g3))
            (first
              | with_reducible exact ⟨HD.out _ (Below.refl _ _), HDE.out _ (Below.refl _ _)⟩
              | with_reducible exact ⟨HD.out _ (Below.refl _ _).drew, HDE.out _ (Below.refl _ _).drew⟩
              | with_reducible exact ⟨HD.out _ HW3.out, HDE.out _ HW3.out⟩
              | with_reducible exact ⟨HD.out _ HW2.out, HDE.out _ HW2.out⟩)
            (first
              | (have hq2 := HW2.out
                 clear hq2
                 go_at_call 89
                 refine (HAH.out _).mono ?_
                 rintro e w3 ⟨rfl, hb3⟩
                 have HW3 : Hid (Below w.heap.size wr w3) := HW2.out.trans (hb3.mono (Nat.le_trans hs HW2.out.size))
                 have HB3 := hide (HB.out.trans HW3.out)
                 clear hb3)
              | (go_at_call 90
                 refine (l9Ent_any f0 f1 f2 f3 _).mono ?_
                 rintro e w2 ⟨rfl, hb2⟩
                 have hb2' := below_of_drew' hb2
                 have HW2 : Hid (Below w.heap.size wr w2) := hb2'.mono hs
                 rw [HOD.out]
                 clear hb2 hb2'))
          all_goals cases U with
          | true =>
            have HA1 := hide (show ∀ i (h : i + 1 < L.length), i + 1 < j + 1 → ahead L[i] L[i + 1] from fun i h hi => by
              rcases Nat.lt_or_ge (i + 1) j with h' | h'
              · exact HA.out i h h'
              · have e := HP.out
                obtain rfl : i = p := by omega
                subst e
                rw [at_of' _ HY.out, at_of' _ HX.out]
                exact of_decide_eq_true HU.out.symm)
            go_wp2_with fail
            all_goals go_roundw
            all_goals first
              | (simp [intOf]; omega)
              | exact ⟨j + 1, by go_num, by omega, HO1, HA1, HB3.out⟩
          | false =>
            have HV1 := hide (show V = false from HV.out.trans (decide_eq_false fun h => by
              have e := HP.out
              subst e
              exact srtE_no' HJ.out (by rw [at_of' _ HY.out, at_of' _ HX.out]; exact of_decide_eq_false HU.out.symm) h.2))
            go_wp2_with fail
            all_goals go_ret
            all_goals exact ⟨by rw [HV1.out]; rfl, HB3.out⟩
      · have HV1 := hide (show V = false from HV.out.trans (decide_eq_false fun h => ho (h.1 _ (List.mem_of_getElem? HX.out))))
        have HOD := hide (decide_eq_false ho)
        clear ho
        go_wp2_with fail
        refine wp_region_held_drew (S := fun w' => w'.cell? ⟨b, off + j * 4, none⟩ = some (.string f0) ∧ w'.cell? ⟨b, off + j * 4 + 1, none⟩ = some (.int .i64 f1) ∧ w'.cell? ⟨b, off + j * 4 + 2, none⟩ = some (.bool f2) ∧ w'.cell? ⟨b, off + j * 4 + 3, none⟩ = some (.string f3)) (by kernel_rfl) (HD.out _ (Below.refl _ _).drew) (fun hHeld => ?_)
        refine wpAnyH_take (i := 0) (v := ?_) rfl (by kernel_rfl) (by kernel_rfl) (by kernel_rfl) (fun _ _ _ h => h) (Or.inl ⟨by rfl, ?_⟩) (by assumption) ?_
        rotate_left 1
        · intro w hSw
          (try dsimp only at hSw)
          go_simp
          try with_reducible rfl
        go_simp
        refine wpAnyH_take (i := 1) (v := ?_) rfl (by kernel_rfl) (by kernel_rfl) (by kernel_rfl) (fun _ _ _ h => h) (Or.inl ⟨by rfl, ?_⟩) (by assumption) ?_
        rotate_left 1
        · intro w hSw
          (try dsimp only at hSw)
          go_simp
          try with_reducible rfl
        go_simp
        refine wpAnyH_take (i := 2) (v := ?_) rfl (by kernel_rfl) (by kernel_rfl) (by kernel_rfl) (fun _ _ _ h => h) (Or.inl ⟨by rfl, ?_⟩) (by assumption) ?_
        rotate_left 1
        · intro w hSw
          (try dsimp only at hSw)
          go_simp
          try with_reducible rfl
        go_simp
        refine wpAnyH_take (i := 3) (v := ?_) rfl (by kernel_rfl) (by kernel_rfl) (by kernel_rfl) (fun _ _ _ h => h) (Or.inl ⟨by rfl, ?_⟩) (by assumption) ?_
        rotate_left 1
        · intro w hSw
          (try dsimp only at hSw)
          go_simp
          try with_reducible rfl
        go_simp
        refine wpAnyH_ready (rs := [4]) (by kernel_rfl) (by simp) ?_
        refine AllReadyH.cons rfl (fun K hK => ?_) AllReadyH.nil
        go_simp
        go_at_call 90
        refine (l9Ent_any f0 f1 f2 f3 _).mono ?_
        rintro e w2 ⟨rfl, hb2⟩
        have hb2' := below_of_drew' hb2
        have HW2 : Hid (Below w.heap.size wr w2) := hb2'.mono hs
        have HB2 := hide (HB.out.trans HW2.out)
        rw [HOD.out]
        clear hb2 hb2' hHeld
        refine hK.out _ _ (HD.out _ HW2.out) (fun hHeld => ?_)
        clear hK K
        go_simp
        refine wpAnyH_take (i := 5) (v := ?_) rfl (by kernel_rfl) (by kernel_rfl) (by kernel_rfl) (fun _ _ _ h => h) (Or.inl ⟨by rfl, ?_⟩) (by assumption) ?_
        rotate_left 1
        · intro w hSw
          (try dsimp only at hSw)
          go_simp
          try with_reducible rfl
        go_simp
        refine wpAnyH_take (i := 6) (v := ?_) rfl (by kernel_rfl) (by kernel_rfl) (by kernel_rfl) (fun _ _ _ h => h) (Or.inl ⟨by rfl, ?_⟩) (by assumption) ?_
        rotate_left 1
        · intro w hSw
          (try dsimp only at hSw)
          go_simp
          try with_reducible rfl
        go_simp
        refine wpAnyH_take (i := 7) rfl (by kernel_rfl) (by kernel_rfl) (by kernel_rfl) (fun _ _ _ h => h) (Or.inr ⟨by rfl, rfl⟩) (by assumption) ?_
        go_simp
        refine wpAnyH_take (i := 8) rfl (by kernel_rfl) (by kernel_rfl) (by kernel_rfl) (fun _ _ _ h => h) (Or.inr ⟨by rfl, rfl⟩) (by assumption) ?_
        go_simp
        refine wpAnyH_take (i := 9) rfl (by kernel_rfl) (by kernel_rfl) (by kernel_rfl) (fun _ _ _ h => h) (Or.inr ⟨by rfl, rfl⟩) (by assumption) ?_
        go_simp
        refine wpAnyH_take (i := 10) rfl (by kernel_rfl) (by kernel_rfl) (by kernel_rfl) (fun _ _ _ h => h) (Or.inr ⟨by rfl, rfl⟩) (by assumption) ?_
        go_simp
        refine wpAnyH_take (i := 11) rfl (by kernel_rfl) (by kernel_rfl) (by kernel_rfl) (fun _ _ _ h => h) (Or.inr ⟨by rfl, rfl⟩) (by assumption) ?_
        go_simp
        refine wpAnyH_take (i := 12) rfl (by kernel_rfl) (by kernel_rfl) (by kernel_rfl) (fun _ _ _ h => h) (Or.inr ⟨by rfl, rfl⟩) (by assumption) ?_
        go_simp
        refine wpAnyH_take (i := 13) rfl (by kernel_rfl) (by kernel_rfl) (by kernel_rfl) (fun _ _ _ h => h) (Or.inr ⟨by rfl, rfl⟩) (by assumption) ?_
        go_simp
        refine wpAnyH_take (i := 14) rfl (by kernel_rfl) (by kernel_rfl) (by kernel_rfl) (fun _ _ _ h => h) (Or.inr ⟨by rfl, rfl⟩) (by assumption) ?_
        go_simp
        refine wpAnyH_take (i := 15) rfl (by kernel_rfl) (by kernel_rfl) (by kernel_rfl) (fun _ _ _ h => h) (Or.inr ⟨by rfl, rfl⟩) (by assumption) ?_
        go_simp
        refine wpAnyH_take (i := 16) rfl (by kernel_rfl) (by kernel_rfl) (by kernel_rfl) (fun _ _ _ h => h) (Or.inr ⟨by rfl, rfl⟩) (by assumption) ?_
        go_simp
        refine wpAnyH_take (i := 17) rfl (by kernel_rfl) (by kernel_rfl) (by kernel_rfl) (fun _ _ _ h => h) (Or.inr ⟨by rfl, rfl⟩) (by assumption) ?_
        go_simp
        refine wpAnyH_take (i := 18) rfl (by kernel_rfl) (by kernel_rfl) (by kernel_rfl) (fun _ _ _ h => h) (Or.inr ⟨by rfl, rfl⟩) (by assumption) ?_
        go_simp
        refine wpAnyH_take (i := 19) rfl (by kernel_rfl) (by kernel_rfl) (by kernel_rfl) (fun _ _ _ h => h) (Or.inr ⟨by rfl, rfl⟩) (by assumption) ?_
        go_simp
        refine wpAnyH_take (i := 20) rfl (by kernel_rfl) (by kernel_rfl) (by kernel_rfl) (fun _ _ _ h => h) (Or.inr ⟨by rfl, rfl⟩) (by assumption) ?_
        go_simp
        refine wpAnyH_take (i := 21) rfl (by kernel_rfl) (by kernel_rfl) (by kernel_rfl) (fun _ _ _ h => h) (Or.inr ⟨by rfl, rfl⟩) (by assumption) ?_
        go_simp
        refine wpAnyH_take (i := 22) (v := ?_) rfl (by kernel_rfl) (by kernel_rfl) (by kernel_rfl) (fun _ _ _ h => h) (Or.inl ⟨by rfl, ?_⟩) (by assumption) ?_
        rotate_left 1
        · intro w hSw
          (try dsimp only at hSw)
          go_simp
          try with_reducible rfl
        go_simp
        refine wpAnyH_done (by kernel_rfl) ?_ _
        clear hHeld
        go_wp2_with fail
        all_goals go_ret
        all_goals exact ⟨by rw [HV1.out]; rfl, HB2.out⟩
    · have HV1 := hide (show V = true from HV.out.trans (decide_eq_true ⟨fun o ho => by
        obtain ⟨i, hi, e⟩ := List.getElem_of_mem ho
        exact HO.out i o (by rw [← HN.out] at hi; omega) (by rw [List.getElem?_eq_getElem hi, e]), (srtE_adj L).2 fun i h => HA.out i h (by rw [← HN.out] at h; omega)⟩))
      go_wp2_with fail
      go_ret
      exact ⟨by rw [HV1.out]; rfl, HB.out⟩

theorem sMemOk_any (a : Option Addr) (cap : Nat) (L : List En) (w : World) (hr : elEnt.Rd w w.heap.size a L) (hl : L.length ≤ 2097152) :
    Calls Try.prog 14 #[.slice a L.length cap] w (BoolPost w (decide (memOkL L))) := by
  have HC := hide (l9Ents_any a cap L w hr hl)
  clear hr
  obtain ⟨V, hV⟩ : ∃ V, V = decide (memOkL L) := ⟨_, rfl⟩
  obtain ⟨U, hU⟩ : ∃ U, U = decide (entsOk' L) := ⟨_, rfl⟩
  by_cases h : L.length ≤ 60
  · have HV := hide (show V = U by rw [hV, hU]; exact decide_eq_decide.2 ⟨fun k => k.2, fun k => ⟨h, k⟩⟩)
    rw [← hU] at HC
    rw [← hV]
    obtain ⟨n, hn⟩ : ∃ n, n = L.length := ⟨_, rfl⟩
    rw [← hn] at HC h ⊢
    clear hn hl hV hU
    go_enter Try.func14, Try.ntmps14
    go_wp2_with fail
    refine HC.out.mono ?_
    rintro e w1 ⟨rfl, hb1⟩
    have HB := hide hb1
    go_wp2_with fail
    go_ret
    exact ⟨by rw [HV.out]; rfl, HB.out⟩
  · have HV := hide (show V = false from hV.trans (decide_eq_false fun k => h k.1))
    rw [← hV]
    obtain ⟨n, hn⟩ : ∃ n, n = L.length := ⟨_, rfl⟩
    rw [← hn] at HC h ⊢
    clear hn hl hV hU
    go_enter Try.func14, Try.ntmps14
    go_wp2_with fail
    go_ret
    exact ⟨by rw [HV.out]; simp, Below.refl _ _⟩
end Go.Proofs.Ytphfakdbgohhgaa
