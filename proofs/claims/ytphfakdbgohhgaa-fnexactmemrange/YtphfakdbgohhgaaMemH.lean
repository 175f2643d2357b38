/-
  Contract of spec.l9Map.
-/
import Derived.Test.YtphfakdbgohhgaaMemG
import Derived.Test.YtphfakdbgohhgaaRowKV
namespace Go.Proofs.Ytphfakdbgohhgaa
open Go.ChangeShapes Go.WideShapes Go.ChangeAt Go.RowKit

theorem below_drewN {B : Nat} {w w' : World} (h : Below B w w') (r : Nat) : Below B w (w'.drewN r) := ⟨h.os, h.tape, h.output, h.size, h.block⟩
theorem El.Owns.drewN {α : Type} {e : El α} {B : Nat} {w : World} {v : Value} {L : List α} (h : e.Owns B w v L) (r : Nat) : e.Owns B (w.drewN r) v L := h
def KVPost' (w : World) (M : List KV) (e : Ending) (w' : World) : Prop := ∃ v, e = .returned v ∧ elKV.Owns w.heap.size w' v M ∧ Below w.heap.size w w'
/-- a row of one pair -/
theorem src_kv (wr : World) (k v : ByteArray) : elKV.Src (wr.alloc (.cells #[.string k, .string v] 41)) (.slice (some ⟨wr.heap.size, 0, none⟩) 1 1) [(k, v)] :=
  (El.Owns.lit (e := elKV) 0 wr [(k, v)] #[.string k, .string v] 1 rfl rfl (Nat.zero_le _) (by simp [maxLen])).src
theorem src_kv2 (wr : World) (o : Obj) (k v : ByteArray) : elKV.Src ((wr.alloc o).alloc (.cells #[.string k, .string v] 41)) (.slice (some ⟨wr.heap.size + 1, 0, none⟩) 1 1) [(k, v)] := by
  have h := src_kv (wr.alloc o) k v
  rwa [Go.Deep.nblk_alloc] at h
theorem nil_kv (w : World) {B : Nat} (hB : B ≤ w.heap.size) : elKV.Owns B (w.alloc (.cells #[] 41)) (.slice (some ⟨w.heap.size, 0, none⟩) 0 0) [] := El.Owns.lit (e := elKV) B w [] #[] 0 rfl rfl hB (by simp [maxLen])

set_option maxHeartbeats 4000000 in
set_option maxRecDepth 20000 in
theorem l9Map_any (a : Option Addr) (cap : Nat) (L : List En) (q : Int) (w : World) (hr : elEnt.Rd w w.heap.size a L) (hk : SrtE L) (hl : L.length ≤ 2097152) :
    Calls Try.prog 65 #[.slice a L.length cap, .int .i64 q] w (KVPost' w (mapE q L)) := by
  have HR := hide hr
  have HS := hide hk
  have HL := hide hl
  have HALL := hide (mapP_all q L)
  have HG := hide (fun W k f0 f1 f2 f3 h hf => l9Get_any a cap L k q W h hl f0 f1 f2 f3 hf)
  obtain ⟨n, hn⟩ : ∃ n, n = L.length := ⟨_, rfl⟩
  have HN := hide hn
  rw [← hn] at hl HALL HG ⊢
  have HB0 := hide ((Below.refl w.heap.size w).alloc (Nat.le_refl _) (.cells #[] 41))
  have HO0 := hide (nil_kv w (Nat.le_refl w.heap.size))
  clear hr hk hn
  go_enter Try.func65, Try.ntmps65
  go_wp2_with fail
  go_loopw [5, 6, 7, 8] (fun m i _ _ wr => ∃ (j y : Nat) (a5 : Option Addr) (c5 : Nat), m = .slice a5 y c5 ∧ i = .int .i64 j ∧ j ≤ n ∧ y ≤ j ∧ Hid ((mapP q L j).length = y) ∧ Hid (elKV.Owns w.heap.size wr (.slice a5 y c5) (mapP q L j)) ∧ Hid (Below w.heap.size w wr)) (fun _ i _ _ _ => n - (intOf i).toNat)
  case atStart => exact ⟨0, 0, _, _, rfl, rfl, by omega, by omega, hide (by rw [mapP_zero]; rfl), by rw [mapP_zero]; exact HO0, HB0⟩
  case round =>
    obtain ⟨j, y, a5, c5, rfl, rfl, hj, hyj, HY, HO, HB⟩ := hrel
    by_cases hlt : j < n
    · have hjL : j < L.length := by rw [← HN.out]; exact hlt
      obtain ⟨b, off, rfl, hb, hcell⟩ := HR.out (by omega)
      obtain ⟨g0, g1, g2, g3, hx⟩ := partsEnt L[j]
      obtain ⟨c0, c1, c2, c3⟩ := cellsEnt hx (hcell j hjL)
      have d0 := (HB.out.cell (p := ⟨b, off + j * 4, none⟩) hb).trans c0
      have HD1 := hide (show ∀ w' : World, Below w.heap.size w w' → w'.cell? ⟨b, off + j * 4 + 1, none⟩ = some (.int .i64 g1) from fun w' h => (h.cell (p := ⟨b, off + j * 4 + 1, none⟩) hb).trans c1)
      have HX := hide (show L[j]? = some (g0, g1, g2, g3) by rw [List.getElem?_eq_getElem hjL, hx])
      have HMEM := hide (show ((g0, g1, g2, g3) : En) ∈ L from hx ▸ List.getElem_mem hjL)
      have hs := HB.out.size
      clear hcell c0 c1 c2 c3 hx hjL
      obtain ⟨f0, f1, f2, f3, hf⟩ := partsEnt ((getE g0 q L).getD zeroE)
      have HC := hide (HG.out wr g0 f0 f1 f2 f3 ((HR.out.below HB.out (Nat.le_refl _)).mono hs) hf)
      cases hg : getE g0 q L with
      | none =>
        have HM := hide (mapP_no HX.out (vis_none (n := q) (L := L) (x := (g0, g1, g2, g3)) hg))
        rw [hg] at HC
        clear hf hg
        go_wp2_with fail
        refine HC.out.mono ?_
        rintro e w3 ⟨rfl, hb3⟩
        have HB3 := hide (HB.out.trans (hb3.mono hs))
        have HO3 := hide (HO.out.below hb3 (Nat.le_refl _))
        have hw3 := HB3.out.size
        clear hb3 HC d0
        go_wp2_with fail
        go_quiet (fail)
        go_wp2_with fail
        go_roundw
        case rel => exact ⟨j + 1, y, a5, c5, rfl, by go_num, by omega, by omega, by rw [HM.out]; exact HY, by rw [HM.out]; exact (HO3.out.alloc _).drewN _, below_drewN (HB3.out.alloc hw3 _) _⟩
        case measure => simp [intOf]; omega
      | some z =>
        have hz : z = (f0, f1, f2, f3) := by rw [hg] at hf; exact hf
        subst hz
        have HVG := hide (vis_get (n := q) HS.out HMEM.out hg)
        have HGE := hide hg
        rw [hg] at HC
        have HD2 := HD1
        clear hf hg HD1
        cases f2 with
        | true =>
          have HM := hide (mapP_no HX.out (fun h => by have := (HVG.out.1 h).1; cases this))
          go_wp2_with fail
          refine HC.out.mono ?_
          rintro e w3 ⟨rfl, hb3⟩
          have HB3 := hide (HB.out.trans (hb3.mono hs))
          have HO3 := hide (HO.out.below hb3 (Nat.le_refl _))
          have hw3 := HB3.out.size
          clear hb3 HC d0
          go_wp2_with fail
          go_quiet (fail)
          go_wp2_with fail
          go_roundw
          case rel => exact ⟨j + 1, y, a5, c5, rfl, by go_num, by omega, by omega, by rw [HM.out]; exact HY, by rw [HM.out]; exact (HO3.out.alloc _).drewN _, below_drewN (HB3.out.alloc hw3 _) _⟩
          case measure => simp [intOf]; omega
        | false =>
          by_cases h1 : f1 = g1
          · have hv := HVG.out.2 ⟨rfl, h1⟩
            have hq : ((f0, f1, false, f3) : En) = (g0, g1, g2, g3) := by
              have := hv.1
              rw [HGE.out] at this
              exact Option.some.inj this
            have HM := hide (mapP_yes HX.out hv)
            simp only [Prod.mk.injEq] at hq
            obtain ⟨rfl, q1, q2, rfl⟩ := hq
            clear q1 q2
            have he : (f1 == g1) = true := by rw [beq_iff_eq]; exact h1
            have HM' := hide (show (mapP q L j ++ [(f0, f3)]).length = y + 1 by rw [List.length_append, HY.out]; rfl)
            clear h1 hv
            go_wp2_with fail
            refine HC.out.mono ?_
            rintro e w3 ⟨rfl, hb3⟩
            have HB3 := hide (HB.out.trans (hb3.mono hs))
            have HO3 := hide (HO.out.below hb3 (Nat.le_refl _))
            have hw3 := HB3.out.size
            have d1 := HD2.out _ HB3.out
            have hbw : b < w3.heap.size := Nat.lt_of_lt_of_le hb hw3
            have HOa := hide (show ∀ r, elKV.Owns w.heap.size (((w3.alloc (.cells #[.string f0, .int .i64 f1, .bool false, .string f3] 26)).drewN r).alloc (.cells #[.string f0, .string f3] 41)) (.slice a5 y c5) (mapP q L j) from fun r => (show elKV.Owns w.heap.size ((w3.alloc (.cells #[.string f0, .int .i64 f1, .bool false, .string f3] 26)).drewN r) (.slice a5 y c5) (mapP q L j) from HO3.out.alloc _).alloc _)
            have HSa := hide (show ∀ r, elKV.Src (((w3.alloc (.cells #[.string f0, .int .i64 f1, .bool false, .string f3] 26)).drewN r).alloc (.cells #[.string f0, .string f3] 41)) (.slice (some ⟨w3.heap.size + 1, 0, none⟩) 1 1) [(f0, f3)] from fun r => by
              have h := src_kv ((w3.alloc (.cells #[.string f0, .int .i64 f1, .bool false, .string f3] 26)).drewN r) f0 f3
              rw [show ((w3.alloc (.cells #[.string f0, .int .i64 f1, .bool false, .string f3] 26)).drewN r).heap.size = w3.heap.size + 1 from Go.Deep.nblk_alloc _ _] at h
              exact h)
            have HBd := hide (show ∀ r, Below w.heap.size w ((w3.alloc (.cells #[.string f0, .int .i64 f1, .bool false, .string f3] 26)).drewN r) from fun r => below_drewN (HB3.out.alloc hw3 _) r)
            have HBa := hide (show ∀ r, Below w.heap.size w (((w3.alloc (.cells #[.string f0, .int .i64 f1, .bool false, .string f3] 26)).drewN r).alloc (.cells #[.string f0, .string f3] 41)) from fun r => (HBd.out r).alloc (HBd.out r).size _)
            clear hb3 HC d0
            go_wp2_with fail
            go_quiet (fail)
            go_wp2_with (at_builtin; go_loud (refine El.appendSrc (e := elKV) rfl (.tmp 43) (.tmp 49) 37 rfl Try.underlying37 _ _ infoKV rfl (by decide) (by decide) w.heap.size w _ _ _ (mapP q L j) [(f0, f3)] rfl rfl (hide (HOa.out _)) (hide (HSa.out _)) (hide (HBa.out _)) ((HBa.out _).size) (mapP q L j ++ [(f0, f3)]) (y + 1) rfl HM'.out (by omega) ?_); intro a6 c6 w6 HO6 HB6 hz6 _)
            go_roundw
            case rel => exact ⟨j + 1, y + 1, a6, c6, rfl, by go_num, by omega, by omega, by rw [HM.out]; exact HM', by rw [HM.out]; exact HO6, HB6⟩
            case measure => simp [intOf]; omega
          · have HM := hide (mapP_no HX.out (fun h => h1 (HVG.out.1 h).2))
            have he : (f1 == g1) = false := by rw [beq_eq_false_iff_ne]; exact h1
            clear h1
            go_wp2_with fail
            refine HC.out.mono ?_
            rintro e w3 ⟨rfl, hb3⟩
            have HB3 := hide (HB.out.trans (hb3.mono hs))
            have HO3 := hide (HO.out.below hb3 (Nat.le_refl _))
            have hw3 := HB3.out.size
            have d1 := HD2.out _ HB3.out
            have hbw : b < w3.heap.size := Nat.lt_of_lt_of_le hb hw3
            clear hb3 HC d0
            go_wp2_with fail
            go_quiet (fail)
            go_wp2_with fail
            go_roundw
            case rel => exact ⟨j + 1, y, a5, c5, rfl, by go_num, by omega, by omega, by rw [HM.out]; exact HY, by rw [HM.out]; exact (HO3.out.alloc _).drewN _, below_drewN (HB3.out.alloc hw3 _) _⟩
            case measure => simp [intOf]; omega
    · have hjn : j = n := by omega
      subst hjn
      go_wp2_with fail
      go_ret
      exact ⟨_, rfl, by rw [← HALL.out]; exact HO.out, HB.out⟩
end Go.Proofs.Ytphfakdbgohhgaa
