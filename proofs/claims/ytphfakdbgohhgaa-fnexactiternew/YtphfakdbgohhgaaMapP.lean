/-
  Contract of spec.MapOk.
-/
import Derived.Test.YtphfakdbgohhgaaSrtN
import Derived.Test.YtphfakdbgohhgaaOpkP
import Derived.Test.YtphfakdbgohhgaaRowKV
import Derived.WalkLawsBesides
import Derived.Deep.RegionHeld3
namespace Go.Proofs.Ytphfakdbgohhgaa
open Go.ChangeShapes Go.WideShapes Go.ChangeAt Go.RowKit

theorem kv_op (k v : ByteArray) : opOk (k, false, v) ↔ kvOk (k, v) := ⟨fun h => ⟨h.1, h.2.1, h.2.2.1⟩, fun h => ⟨h.1, h.2.1, h.2.2, fun h => by cases h⟩⟩

set_option maxHeartbeats 4000000 in
theorem sMapOk_any (a : Option Addr) (cap : Nat) (L : List KV) (w : World) (hr : elKV.Rd w w.heap.size a L) (hl : L.length ≤ 2097152) :
    Calls Try.prog 22 #[.slice a L.length cap] w (BoolPost w (decide (mapOk L))) := by
  have HR := hide hr
  clear hr
  obtain ⟨V, hV⟩ : ∃ V, V = decide (mapOk L) := ⟨_, rfl⟩
  have HV := hide hV
  rw [← hV]
  obtain ⟨n, hn⟩ : ∃ n, n = L.length := ⟨_, rfl⟩
  have HN := hide hn
  rw [← hn] at hl
  rw [← hn]
  clear hn hV
  go_enter Try.func22, Try.ntmps22
  go_wp2_with fail
  go_loopw [3] (fun i wr => ∃ j : Nat, i = .int .i64 j ∧ j ≤ n ∧ Hid (∀ i x, i < j → L[i]? = some x → kvOk x) ∧ Hid (∀ i (h : i + 1 < L.length), i + 1 < j → kless L[i].1 L[i + 1].1 = true) ∧ Hid (Below w.heap.size w wr)) (fun i _ => n - (intOf i).toNat)
  case atStart => exact ⟨0, rfl, by omega, fun i _ hi _ => by omega, fun i _ hi => by omega, Below.refl _ _⟩
  case round =>
    obtain ⟨j, rfl, hj, HO, HA, HB⟩ := hrel
    by_cases hlt : j < n
    · have hjL : j < L.length := by rw [← HN.out]; exact hlt
      obtain ⟨b, off, rfl, hb, hcell⟩ := HR.out (by omega)
      obtain ⟨f0, f1, hx⟩ := partsKV L[j]
      obtain ⟨c0, c1⟩ := cellsKV hx (hcell j hjL)
      have d0 := (HB.out.cell (p := ⟨b, off + j * 2, none⟩) hb).trans c0
      have d1 := (HB.out.cell (p := ⟨b, off + j * 2 + 1, none⟩) hb).trans c1
      have HX := hide (show L[j]? = some (f0, f1) by rw [List.getElem?_eq_getElem hjL, hx])
      have HJ := hide hjL
      have hs := HB.out.size
      have HCELL := hide hcell
      clear hcell c0 c1 hx hjL
      by_cases ho : opOk (f0, false, f1)
      · have HO1 := hide (show ∀ i x, i < j + 1 → L[i]? = some x → kvOk x from fun i x hi hx => by
          rcases Nat.lt_or_ge i j with h | h
          · exact HO.out i x h hx
          · rw [show i = j by omega, HX.out] at hx
            rw [← Option.some.inj hx]
            exact (kv_op _ _).1 ho)
        by_cases hp0 : j = 0
        · have z1 : decide (0 < j) = false := decide_eq_false (by omega)
          have HA1 := hide (show ∀ i (h : i + 1 < L.length), i + 1 < j + 1 → kless L[i].1 L[i + 1].1 = true from fun i _ hi => by omega)
          clear hp0
          have HD := hide (show ∀ w' : World, Below w.heap.size wr w' → w'.cell? ⟨b, off + j * 2, none⟩ = some (.string f0) ∧ w'.cell? ⟨b, off + j * 2 + 1, none⟩ = some (.string f1) from fun w' h => ⟨(h.cell (p := ⟨b, off + j * 2, none⟩) hb).trans d0, (h.cell (p := ⟨b, off + j * 2 + 1, none⟩) hb).trans d1⟩)
          go_wp2_with fail
          refine wp_region_held_drew (S := fun w' => w'.cell? ⟨b, off + j * 2, none⟩ = some (.string f0) ∧ w'.cell? ⟨b, off + j * 2 + 1, none⟩ = some (.string f1)) (by kernel_rfl) (HD.out _ (Below.refl _ _).drew) (fun hHeld => ?_)
          refine wpAnyH_take (i := 0) (v := ?_) rfl (by kernel_rfl) (by kernel_rfl) (by kernel_rfl) (fun _ _ _ h => h) (Or.inl ⟨by rfl, ?_⟩) (by assumption) ?_
          rotate_left 1
          · intro w hSw
            (try dsimp only at hSw)
            go_simp
            try with_reducible rfl
          go_simp
          refine wpAnyH_take (i := 1) (v := ?_) rfl (by kernel_rfl) (by kernel_rfl) (by kernel_rfl) (fun _ _ _ h => h) (Or.inl ⟨by rfl, ?_⟩) (by assumption) ?_
          rotate_left 1
          · intro w hSw
            (try dsimp only at hSw)
            go_simp
            try with_reducible rfl
          go_simp
          refine wpAnyH_take (i := 2) (v := ?_) rfl (by kernel_rfl) (by kernel_rfl) (by kernel_rfl) (fun _ _ _ h => h) (Or.inl ⟨by rfl, ?_⟩) (by assumption) ?_
          rotate_left 1
          · intro w hSw
            (try dsimp only at hSw)
            go_simp
            try with_reducible rfl
          go_simp
          refine wpAnyH_take (i := 3) (v := ?_) rfl (by kernel_rfl) (by kernel_rfl) (by kernel_rfl) (fun _ _ _ h => h) (Or.inl ⟨by rfl, ?_⟩) (by assumption) ?_
          rotate_left 1
          · intro w hSw
            (try dsimp only at hSw)
            go_simp
            try with_reducible rfl
          go_simp
          refine wpAnyH_take (i := 4) (v := ?_) rfl (by kernel_rfl) (by kernel_rfl) (by kernel_rfl) (fun _ _ _ h => h) (Or.inl ⟨by rfl, ?_⟩) (by assumption) ?_
          rotate_left 1
          · intro w hSw
            (try dsimp only at hSw)
            go_simp
            try with_reducible rfl
          go_simp
          refine wpAnyH_take (i := 5) (v := ?_) rfl (by kernel_rfl) (by kernel_rfl) (by kernel_rfl) (fun _ _ _ h => h) (Or.inl ⟨by rfl, ?_⟩) (by assumption) ?_
          rotate_left 1
          · intro w hSw
            (try dsimp only at hSw)
            go_simp
            try with_reducible rfl
          go_simp
          refine wpAnyH_take (i := 6) (v := ?_) rfl (by kernel_rfl) (by kernel_rfl) (by kernel_rfl) (fun _ _ _ h => h) (Or.inl ⟨by rfl, ?_⟩) (by assumption) ?_
          rotate_left 1
          · intro w hSw
            (try dsimp only at hSw)
            go_simp
            try with_reducible rfl
          go_simp
          refine wpAnyH_take (i := 7) (v := ?_) rfl (by kernel_rfl) (by kernel_rfl) (by kernel_rfl) (fun _ _ _ h => h) (Or.inl ⟨by rfl, ?_⟩) (by assumption) ?_
          rotate_left 1
          · intro w hSw
            (try dsimp only at hSw)
            go_simp
            try with_reducible rfl
          go_simp
          refine wpAnyH_take (i := 8) (v := ?_) rfl (by kernel_rfl) (by kernel_rfl) (by kernel_rfl) (fun _ _ _ h => h) (Or.inl ⟨by rfl, ?_⟩) (by assumption) ?_
          rotate_left 1
          · intro w hSw
            (try dsimp only at hSw)
            go_simp
            try with_reducible rfl
          go_simp
          refine wpAnyH_take (i := 9) (v := ?_) rfl (by kernel_rfl) (by kernel_rfl) (by kernel_rfl) (fun _ _ _ h => h) (Or.inl ⟨by rfl, ?_⟩) (by assumption) ?_
          rotate_left 1
          · intro w hSw
            (try dsimp only at hSw)
            go_simp
            try with_reducible rfl
          go_simp
          refine wpAnyH_take (i := 10) (v := ?_) rfl (by kernel_rfl) (by kernel_rfl) (by kernel_rfl) (fun _ _ _ h => h) (Or.inl ⟨by rfl, ?_⟩) (by assumption) ?_
          rotate_left 1
          · intro w hSw
            (try dsimp only at hSw)
            go_simp
            try with_reducible rfl
          go_simp
          refine wpAnyH_ready (rs := [11]) (by kernel_rfl) (by simp) ?_
          refine AllReadyH.cons rfl (fun K hK => ?_) AllReadyH.nil
          go_simp
          go_at_call 66
          refine (l7Op_any f0 false f1 _).mono ?_
          rintro e w2 ⟨rfl, hb2⟩
          have hb2' := below_of_drew' hb2
          have HW2 : Hid (Below w.heap.size wr w2) := hb2'.mono hs
          have HB2 := hide (HB.out.trans HW2.out)
          rw [decide_eq_true ho]
          clear hb2 hb2' hHeld
          refine hK.out _ _ (HD.out _ HW2.out) (fun hHeld => ?_)
          clear hK K
          go_simp
          refine wpAnyH_take (i := 12) (v := ?_) rfl (by kernel_rfl) (by kernel_rfl) (by kernel_rfl) (fun _ _ _ h => h) (Or.inl ⟨by rfl, ?_⟩) (by assumption) ?_
          rotate_left 1
          · intro w hSw
            (try dsimp only at hSw)
            go_simp
            try with_reducible rfl
          go_simp
          refine wpAnyH_take (i := 13) (v := ?_) rfl (by kernel_rfl) (by kernel_rfl) (by kernel_rfl) (fun _ _ _ h => h) (Or.inl ⟨by rfl, ?_⟩) (by assumption) ?_
          rotate_left 1
          · intro w hSw
            (try dsimp only at hSw)
            go_simp
            try with_reducible rfl
          go_simp
          refine wpAnyH_take (i := 14) (v := ?_) rfl (by kernel_rfl) (by kernel_rfl) (by kernel_rfl) (fun _ _ _ h => h) (Or.inl ⟨by rfl, ?_⟩) (by assumption) ?_
          rotate_left 1
          · intro w hSw
            (try dsimp only at hSw)
            go_simp
            try with_reducible rfl
          go_simp
          refine wpAnyH_take (i := 15) (v := ?_) rfl (by kernel_rfl) (by kernel_rfl) (by kernel_rfl) (fun _ _ _ h => h) (Or.inl ⟨by rfl, ?_⟩) (by assumption) ?_
          rotate_left 1
          · intro w hSw
            (try dsimp only at hSw)
            go_simp
            try with_reducible rfl
          go_simp
          refine wpAnyH_take (i := 16) (v := ?_) rfl (by kernel_rfl) (by kernel_rfl) (by kernel_rfl) (fun _ _ _ h => h) (Or.inl ⟨by rfl, ?_⟩) (by assumption) ?_
          rotate_left 1
          · intro w hSw
            (try dsimp only at hSw)
            go_simp
            try with_reducible rfl
          go_simp
          refine wpAnyH_take (i := 17) rfl (by kernel_rfl) (by kernel_rfl) (by kernel_rfl) (fun _ _ _ h => h) (Or.inr ⟨by rfl, rfl⟩) (by assumption) ?_
          go_simp
          refine wpAnyH_take (i := 18) rfl (by kernel_rfl) (by kernel_rfl) (by kernel_rfl) (fun _ _ _ h => h) (Or.inr ⟨by rfl, rfl⟩) (by assumption) ?_
          go_simp
          refine wpAnyH_take (i := 19) rfl (by kernel_rfl) (by kernel_rfl) (by kernel_rfl) (fun _ _ _ h => h) (Or.inr ⟨by rfl, rfl⟩) (by assumption) ?_
          go_simp
          refine wpAnyH_take (i := 20) rfl (by kernel_rfl) (by kernel_rfl) (by kernel_rfl) (fun _ _ _ h => h) (Or.inr ⟨by rfl, rfl⟩) (by assumption) ?_
          go_simp
          refine wpAnyH_take (i := 21) rfl (by kernel_rfl) (by kernel_rfl) (by kernel_rfl) (fun _ _ _ h => h) (Or.inr ⟨by rfl, rfl⟩) (by assumption) ?_
          go_simp
          refine wpAnyH_take (i := 22) rfl (by kernel_rfl) (by kernel_rfl) (by kernel_rfl) (fun _ _ _ h => h) (Or.inr ⟨by rfl, rfl⟩) (by assumption) ?_
          go_simp
          refine wpAnyH_take (i := 23) rfl (by kernel_rfl) (by kernel_rfl) (by kernel_rfl) (fun _ _ _ h => h) (Or.inr ⟨by rfl, rfl⟩) (by assumption) ?_
          go_simp
          refine wpAnyH_take (i := 24) rfl (by kernel_rfl) (by kernel_rfl) (by kernel_rfl) (fun _ _ _ h => h) (Or.inr ⟨by rfl, rfl⟩) (by assumption) ?_
          go_simp
          refine wpAnyH_take (i := 25) rfl (by kernel_rfl) (by kernel_rfl) (by kernel_rfl) (fun _ _ _ h => h) (Or.inr ⟨by rfl, rfl⟩) (by assumption) ?_
          go_simp
          refine wpAnyH_take (i := 26) rfl (by kernel_rfl) (by kernel_rfl) (by kernel_rfl) (fun _ _ _ h => h) (Or.inr ⟨by rfl, rfl⟩) (by assumption) ?_
          go_simp
          refine wpAnyH_take (i := 27) rfl (by kernel_rfl) (by kernel_rfl) (by kernel_rfl) (fun _ _ _ h => h) (Or.inr ⟨by rfl, rfl⟩) (by assumption) ?_
          go_simp
          refine wpAnyH_take (i := 28) rfl (by kernel_rfl) (by kernel_rfl) (by kernel_rfl) (fun _ _ _ h => h) (Or.inr ⟨by rfl, rfl⟩) (by assumption) ?_
          go_simp
          refine wpAnyH_take (i := 29) (v := ?_) rfl (by kernel_rfl) (by kernel_rfl) (by kernel_rfl) (fun _ _ _ h => h) (Or.inl ⟨by rfl, ?_⟩) (by assumption) ?_
          rotate_left 1
          · intro w hSw
            (try dsimp only at hSw)
            go_simp
            try with_reducible rfl
          go_simp
          refine wpAnyH_take (i := 30) (v := ?_) rfl (by kernel_rfl) (by kernel_rfl) (by kernel_rfl) (fun _ _ _ h => h) (Or.inl ⟨by rfl, ?_⟩) (by assumption) ?_
          rotate_left 1
          · intro w hSw
            (try dsimp only at hSw)
            go_simp
            try with_reducible rfl
          go_simp
          refine wpAnyH_done (by kernel_rfl) ?_ _
          clear hHeld
          go_wp2_with fail
          all_goals go_roundw
          all_goals first
            | (simp [intOf]; omega)
            | exact ⟨j + 1, by go_num, by omega, HO1, HA1, HB2.out⟩
        · obtain ⟨p, hp⟩ : ∃ p, j = p + 1 := ⟨j - 1, by omega⟩
          have HP := hide hp
          have hpn : p < n := by omega
          have z1 : decide (0 < j) = true := decide_eq_true (by omega)
          have wp1 : IntKind.i64.wrap ((j : Int) - 1) = (p : Int) := by rw [IntKind.wrap_i64]; omega
          have hpL : p < L.length := by have := HJ.out; omega
          obtain ⟨g0, g1, hy⟩ := partsKV (L[p]'hpL)
          obtain ⟨c0, _⟩ := cellsKV hy (HCELL.out p hpL)
          have e0 := (HB.out.cell (p := ⟨b, off + p * 2, none⟩) hb).trans c0
          have HY := hide (show L[p]? = some (g0, g1) by rw [List.getElem?_eq_getElem hpL, hy])
          clear c0 hp hp0 hy hpL
          by_cases hc : kless g0 f0 = true
          · have z2 : Op.bytesLess g0.toList f0.toList = true := hc
            have HA1 := hide (show ∀ i (h : i + 1 < L.length), i + 1 < j + 1 → kless L[i].1 L[i + 1].1 = true from fun i h hi => by
              rcases Nat.lt_or_ge (i + 1) j with h' | h'
              · exact HA.out i h h'
              · have e := HP.out
                obtain rfl : i = p := by omega
                subst e
                have e1 := HX.out
                have e2 := HY.out
                rw [List.getElem?_eq_getElem h] at e1
                rw [List.getElem?_eq_getElem (by omega)] at e2
                rw [Option.some.inj e1, Option.some.inj e2]
                exact hc)
            clear hc
            have HD := hide (show ∀ w' : World, Below w.heap.size wr w' → w'.cell? ⟨b, off + j * 2, none⟩ = some (.string f0) ∧ w'.cell? ⟨b, off + j * 2 + 1, none⟩ = some (.string f1) ∧ w'.cell? ⟨b, off + p * 2, none⟩ = some (.string g0) from fun w' h => ⟨(h.cell (p := ⟨b, off + j * 2, none⟩) hb).trans d0, (h.cell (p := ⟨b, off + j * 2 + 1, none⟩) hb).trans d1, (h.cell (p := ⟨b, off + p * 2, none⟩) hb).trans e0⟩)
            go_wp2_with fail
            go_region_held3 (fun w' => w'.cell? ⟨b, off + j * 2, none⟩ = some (.string f0) ∧ w'.cell? ⟨b, off + j * 2 + 1, none⟩ = some (.string f1) ∧ w'.cell? ⟨b, off + p * 2, none⟩ = some (.string g0))
              (first
                | with_reducible exact HD.out _ (Below.refl _ _)
                | with_reducible exact HD.out _ (Below.refl _ _).drew
                | with_reducible exact HD.out _ ((Below.refl _ _).alloc hs _)
                | with_reducible exact HD.out _ ((Below.refl _ _).alloc hs _).drew
                | with_reducible exact HD.out _ HW2.out)
              (first
                | (go_at_call 66
                   refine (l7Op_any f0 false f1 _).mono ?_
                   rintro e w2 ⟨rfl, hb2⟩
                   have hb2' := below_of_drew' hb2
                   have HW2 : Hid (Below w.heap.size wr w2) := hb2'.mono hs
                   have HB2 := hide (HB.out.trans HW2.out)
                   obtain ⟨k0, k1, k2⟩ := HD.out _ HW2.out
                   rw [decide_eq_true ho]
                   clear hb2 hb2'))
            all_goals go_wp2_with fail
            all_goals go_roundw
            all_goals first
              | (simp [intOf]; omega)
              | exact ⟨j + 1, by go_num, by omega, HO1, HA1, HB2.out⟩
          · have z2 : Op.bytesLess g0.toList f0.toList = false := by
              cases hh : Op.bytesLess g0.toList f0.toList with
              | false => rfl
              | true => exact absurd hh hc
            have HV1 := hide (show V = false from HV.out.trans (decide_eq_false fun h => by
              have e := HP.out
              subst e
              have e1 := HX.out
              have e2 := HY.out
              rw [List.getElem?_eq_getElem HJ.out] at e1
              rw [List.getElem?_eq_getElem (by have := HJ.out; omega)] at e2
              exact srt_no HJ.out (by rw [Option.some.inj e1, Option.some.inj e2]; exact hc) h.2))
            clear hc
            have HD := hide (show ∀ w' : World, Below w.heap.size wr w' → w'.cell? ⟨b, off + j * 2, none⟩ = some (.string f0) ∧ w'.cell? ⟨b, off + j * 2 + 1, none⟩ = some (.string f1) ∧ w'.cell? ⟨b, off + p * 2, none⟩ = some (.string g0) from fun w' h => ⟨(h.cell (p := ⟨b, off + j * 2, none⟩) hb).trans d0, (h.cell (p := ⟨b, off + j * 2 + 1, none⟩) hb).trans d1, (h.cell (p := ⟨b, off + p * 2, none⟩) hb).trans e0⟩)
            go_wp2_with fail
            go_region_held3 (fun w' => w'.cell? ⟨b, off + j * 2, none⟩ = some (.string f0) ∧ w'.cell? ⟨b, off + j * 2 + 1, none⟩ = some (.string f1) ∧ w'.cell? ⟨b, off + p * 2, none⟩ = some (.string g0))
              (first
                | with_reducible exact HD.out _ (Below.refl _ _)
                | with_reducible exact HD.out _ (Below.refl _ _).drew
                | with_reducible exact HD.out _ ((Below.refl _ _).alloc hs _)
                | with_reducible exact HD.out _ ((Below.refl _ _).alloc hs _).drew
                | with_reducible exact HD.out _ HW2.out)
              (first
                | (go_at_call 66
                   refine (l7Op_any f0 false f1 _).mono ?_
                   rintro e w2 ⟨rfl, hb2⟩
                   have hb2' := below_of_drew' hb2
                   have HW2 : Hid (Below w.heap.size wr w2) := hb2'.mono hs
                   have HB2 := hide (HB.out.trans HW2.out)
                   obtain ⟨k0, k1, k2⟩ := HD.out _ HW2.out
                   rw [decide_eq_true ho]
                   clear hb2 hb2'))
            all_goals go_wp2_with fail
            all_goals go_ret
            all_goals exact ⟨by rw [HV1.out]; rfl, HB2.out⟩
      · have HV1 := hide (show V = false from HV.out.trans (decide_eq_false fun h => ho ((kv_op _ _).2 (h.1 _ (List.mem_of_getElem? HX.out)))))
        have HD := hide (show ∀ w' : World, Below w.heap.size wr w' → w'.cell? ⟨b, off + j * 2, none⟩ = some (.string f0) ∧ w'.cell? ⟨b, off + j * 2 + 1, none⟩ = some (.string f1) from fun w' h => ⟨(h.cell (p := ⟨b, off + j * 2, none⟩) hb).trans d0, (h.cell (p := ⟨b, off + j * 2 + 1, none⟩) hb).trans d1⟩)
        go_wp2_with fail
        refine wp_region_held_drew (S := fun w' => w'.cell? ⟨b, off + j * 2, none⟩ = some (.string f0) ∧ w'.cell? ⟨b, off + j * 2 + 1, none⟩ = some (.string f1)) (by kernel_rfl) (HD.out _ (Below.refl _ _).drew) (fun hHeld => ?_)
        refine wpAnyH_take (i := 0) (v := ?_) rfl (by kernel_rfl) (by kernel_rfl) (by kernel_rfl) (fun _ _ _ h => h) (Or.inl ⟨by rfl, ?_⟩) (by assumption) ?_
        rotate_left 1
        · intro w hSw
          (try dsimp only at hSw)
          go_simp
          try with_reducible rfl
        go_simp
        refine wpAnyH_take (i := 1) (v := ?_) rfl (by kernel_rfl) (by kernel_rfl) (by kernel_rfl) (fun _ _ _ h => h) (Or.inl ⟨by rfl, ?_⟩) (by assumption) ?_
        rotate_left 1
        · intro w hSw
          (try dsimp only at hSw)
          go_simp
          try with_reducible rfl
        go_simp
        refine wpAnyH_take (i := 2) (v := ?_) rfl (by kernel_rfl) (by kernel_rfl) (by kernel_rfl) (fun _ _ _ h => h) (Or.inl ⟨by rfl, ?_⟩) (by assumption) ?_
        rotate_left 1
        · intro w hSw
          (try dsimp only at hSw)
          go_simp
          try with_reducible rfl
        go_simp
        refine wpAnyH_take (i := 3) (v := ?_) rfl (by kernel_rfl) (by kernel_rfl) (by kernel_rfl) (fun _ _ _ h => h) (Or.inl ⟨by rfl, ?_⟩) (by assumption) ?_
        rotate_left 1
        · intro w hSw
          (try dsimp only at hSw)
          go_simp
          try with_reducible rfl
        go_simp
        refine wpAnyH_take (i := 4) (v := ?_) rfl (by kernel_rfl) (by kernel_rfl) (by kernel_rfl) (fun _ _ _ h => h) (Or.inl ⟨by rfl, ?_⟩) (by assumption) ?_
        rotate_left 1
        · intro w hSw
          (try dsimp only at hSw)
          go_simp
          try with_reducible rfl
        go_simp
        refine wpAnyH_take (i := 5) (v := ?_) rfl (by kernel_rfl) (by kernel_rfl) (by kernel_rfl) (fun _ _ _ h => h) (Or.inl ⟨by rfl, ?_⟩) (by assumption) ?_
        rotate_left 1
        · intro w hSw
          (try dsimp only at hSw)
          go_simp
          try with_reducible rfl
        go_simp
        refine wpAnyH_take (i := 6) (v := ?_) rfl (by kernel_rfl) (by kernel_rfl) (by kernel_rfl) (fun _ _ _ h => h) (Or.inl ⟨by rfl, ?_⟩) (by assumption) ?_
        rotate_left 1
        · intro w hSw
          (try dsimp only at hSw)
          go_simp
          try with_reducible rfl
        go_simp
        refine wpAnyH_take (i := 7) (v := ?_) rfl (by kernel_rfl) (by kernel_rfl) (by kernel_rfl) (fun _ _ _ h => h) (Or.inl ⟨by rfl, ?_⟩) (by assumption) ?_
        rotate_left 1
        · intro w hSw
          (try dsimp only at hSw)
          go_simp
          try with_reducible rfl
        go_simp
        refine wpAnyH_take (i := 8) (v := ?_) rfl (by kernel_rfl) (by kernel_rfl) (by kernel_rfl) (fun _ _ _ h => h) (Or.inl ⟨by rfl, ?_⟩) (by assumption) ?_
        rotate_left 1
        · intro w hSw
          (try dsimp only at hSw)
          go_simp
          try with_reducible rfl
        go_simp
        refine wpAnyH_take (i := 9) (v := ?_) rfl (by kernel_rfl) (by kernel_rfl) (by kernel_rfl) (fun _ _ _ h => h) (Or.inl ⟨by rfl, ?_⟩) (by assumption) ?_
        rotate_left 1
        · intro w hSw
          (try dsimp only at hSw)
          go_simp
          try with_reducible rfl
        go_simp
        refine wpAnyH_take (i := 10) (v := ?_) rfl (by kernel_rfl) (by kernel_rfl) (by kernel_rfl) (fun _ _ _ h => h) (Or.inl ⟨by rfl, ?_⟩) (by assumption) ?_
        rotate_left 1
        · intro w hSw
          (try dsimp only at hSw)
          go_simp
          try with_reducible rfl
        go_simp
        refine wpAnyH_ready (rs := [11]) (by kernel_rfl) (by simp) ?_
        refine AllReadyH.cons rfl (fun K hK => ?_) AllReadyH.nil
        go_simp
        go_at_call 66
        refine (l7Op_any f0 false f1 _).mono ?_
        rintro e w2 ⟨rfl, hb2⟩
        have hb2' := below_of_drew' hb2
        have HW2 : Hid (Below w.heap.size wr w2) := hb2'.mono hs
        have HB2 := hide (HB.out.trans HW2.out)
        rw [decide_eq_false ho]
        clear hb2 hb2' hHeld
        refine hK.out _ _ (HD.out _ HW2.out) (fun hHeld => ?_)
        clear hK K
        go_simp
        refine wpAnyH_take (i := 12) (v := ?_) rfl (by kernel_rfl) (by kernel_rfl) (by kernel_rfl) (fun _ _ _ h => h) (Or.inl ⟨by rfl, ?_⟩) (by assumption) ?_
        rotate_left 1
        · intro w hSw
          (try dsimp only at hSw)
          go_simp
          try with_reducible rfl
        go_simp
        refine wpAnyH_take (i := 13) (v := ?_) rfl (by kernel_rfl) (by kernel_rfl) (by kernel_rfl) (fun _ _ _ h => h) (Or.inl ⟨by rfl, ?_⟩) (by assumption) ?_
        rotate_left 1
        · intro w hSw
          (try dsimp only at hSw)
          go_simp
          try with_reducible rfl
        go_simp
        refine wpAnyH_take (i := 14) rfl (by kernel_rfl) (by kernel_rfl) (by kernel_rfl) (fun _ _ _ h => h) (Or.inr ⟨by rfl, rfl⟩) (by assumption) ?_
        go_simp
        refine wpAnyH_take (i := 15) rfl (by kernel_rfl) (by kernel_rfl) (by kernel_rfl) (fun _ _ _ h => h) (Or.inr ⟨by rfl, rfl⟩) (by assumption) ?_
        go_simp
        refine wpAnyH_take (i := 16) rfl (by kernel_rfl) (by kernel_rfl) (by kernel_rfl) (fun _ _ _ h => h) (Or.inr ⟨by rfl, rfl⟩) (by assumption) ?_
        go_simp
        refine wpAnyH_take (i := 17) rfl (by kernel_rfl) (by kernel_rfl) (by kernel_rfl) (fun _ _ _ h => h) (Or.inr ⟨by rfl, rfl⟩) (by assumption) ?_
        go_simp
        refine wpAnyH_take (i := 18) rfl (by kernel_rfl) (by kernel_rfl) (by kernel_rfl) (fun _ _ _ h => h) (Or.inr ⟨by rfl, rfl⟩) (by assumption) ?_
        go_simp
        refine wpAnyH_take (i := 19) rfl (by kernel_rfl) (by kernel_rfl) (by kernel_rfl) (fun _ _ _ h => h) (Or.inr ⟨by rfl, rfl⟩) (by assumption) ?_
        go_simp
        refine wpAnyH_take (i := 20) rfl (by kernel_rfl) (by kernel_rfl) (by kernel_rfl) (fun _ _ _ h => h) (Or.inr ⟨by rfl, rfl⟩) (by assumption) ?_
        go_simp
        refine wpAnyH_take (i := 21) rfl (by kernel_rfl) (by kernel_rfl) (by kernel_rfl) (fun _ _ _ h => h) (Or.inr ⟨by rfl, rfl⟩) (by assumption) ?_
        go_simp
        refine wpAnyH_take (i := 22) rfl (by kernel_rfl) (by kernel_rfl) (by kernel_rfl) (fun _ _ _ h => h) (Or.inr ⟨by rfl, rfl⟩) (by assumption) ?_
        go_simp
        refine wpAnyH_take (i := 23) rfl (by kernel_rfl) (by kernel_rfl) (by kernel_rfl) (fun _ _ _ h => h) (Or.inr ⟨by rfl, rfl⟩) (by assumption) ?_
        go_simp
        refine wpAnyH_take (i := 24) rfl (by kernel_rfl) (by kernel_rfl) (by kernel_rfl) (fun _ _ _ h => h) (Or.inr ⟨by rfl, rfl⟩) (by assumption) ?_
        go_simp
        refine wpAnyH_take (i := 25) rfl (by kernel_rfl) (by kernel_rfl) (by kernel_rfl) (fun _ _ _ h => h) (Or.inr ⟨by rfl, rfl⟩) (by assumption) ?_
        go_simp
        refine wpAnyH_take (i := 26) rfl (by kernel_rfl) (by kernel_rfl) (by kernel_rfl) (fun _ _ _ h => h) (Or.inr ⟨by rfl, rfl⟩) (by assumption) ?_
        go_simp
        refine wpAnyH_take (i := 27) rfl (by kernel_rfl) (by kernel_rfl) (by kernel_rfl) (fun _ _ _ h => h) (Or.inr ⟨by rfl, rfl⟩) (by assumption) ?_
        go_simp
        refine wpAnyH_take (i := 28) rfl (by kernel_rfl) (by kernel_rfl) (by kernel_rfl) (fun _ _ _ h => h) (Or.inr ⟨by rfl, rfl⟩) (by assumption) ?_
        go_simp
        refine wpAnyH_take (i := 29) rfl (by kernel_rfl) (by kernel_rfl) (by kernel_rfl) (fun _ _ _ h => h) (Or.inr ⟨by rfl, rfl⟩) (by assumption) ?_
        go_simp
        refine wpAnyH_take (i := 30) (v := ?_) rfl (by kernel_rfl) (by kernel_rfl) (by kernel_rfl) (fun _ _ _ h => h) (Or.inl ⟨by rfl, ?_⟩) (by assumption) ?_
        rotate_left 1
        · intro w hSw
          (try dsimp only at hSw)
          go_simp
          try with_reducible rfl
        go_simp
        refine wpAnyH_done (by kernel_rfl) ?_ _
        clear hHeld
        go_wp2_with fail
        all_goals go_ret
        all_goals exact ⟨by rw [HV1.out]; rfl, HB2.out⟩
    · have HV1 := hide (show V = true from HV.out.trans (decide_eq_true ⟨fun o ho => by
        obtain ⟨i, hi, e⟩ := List.getElem_of_mem ho
        exact HO.out i o (by rw [← HN.out] at hi; omega) (by rw [List.getElem?_eq_getElem hi, e]), (srt_adj L).2 fun i h => HA.out i h (by rw [← HN.out] at h; omega)⟩))
      go_wp2_with fail
      go_ret
      exact ⟨by rw [HV1.out]; rfl, HB.out⟩
end Go.Proofs.Ytphfakdbgohhgaa
