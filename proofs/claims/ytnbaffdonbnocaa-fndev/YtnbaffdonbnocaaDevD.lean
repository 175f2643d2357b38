/-
  Contract of spec.l5Copy.
-/
import Derived.Test.YtnbaffdonbnocaaDevC
namespace Go.Proofs.Ytnbaffdonbnocaa
open Go.ChangeShapes Go.WideShapes Go.ChangeAt Go.RowKit

theorem step_emptyT {ops : Array Oper} {o : Oper} {a : Act} {tm : Array Value} {K : Act → World → Prop} {Q : Exit → Act → World → Prop} {E : Prop} (hgd : o.guard = none) (s x : Operand)
    (ho : o.op = .call { callee := .builtin .append, args := #[s, x], argTypes := #[24, 24] })
    (wr : World) (B2 g n : Nat) (vx : Value) (cs : List ByteArray) (hs : a.eval s = .slice (some ⟨g, 0, none⟩) 0 0) (hx : a.eval x = vx) (hg : HoldsT wr g []) (hsrc : Hid (OwnsT B2 wr vx cs)) (hn : Hid (cs.length = n)) (hlen : Hid (cs.length ≤ 2097152))
    (h : ∀ a' c' w', Hid (OwnsT g w' (.slice a' n c') cs) → Hid (Only (some g) wr w') → K (a.put o.dst (.slice a' n c')) w') :
    if Region.wanted o (yielded ops tm) = true then Oper.wp Try.prog o a wr K Q else E := by
  have hw : Region.wanted o (yielded ops tm) = true := by simp [Region.wanted, hgd]
  rw [if_pos hw]
  have hlt : g < wr.heap.size := (Array.getElem?_eq_some_iff.1 hg).1
  have hown : OwnsT g wr (.slice (some ⟨g, 0, none⟩) 0 0) [] := hg.owns (Nat.le_refl _) (by simp [maxLen])
  obtain ⟨i0, hi, hz0, hz1, hz2⟩ := info_parts infoT
  have hl := hlen.out
  have fin : ∀ v' w', OwnsT g w' v' cs → Only (some g) wr w' → K (a.put o.dst v') w' := fun v' w' h1 h2 => by
    obtain ⟨a', c', rfl, _⟩ := h1.form
    rw [hn.out] at h1 ⊢
    exact h a' c' w' h1 h2
  have hsrc' := hsrc.out
  obtain ⟨hl', ⟨rfl, h0⟩ | ⟨g', cap, cur, rfl, hg', hh, hnn, hc, hss, ht⟩⟩ := hsrc'
  · obtain rfl : cs = [] := List.eq_nil_of_length_eq_zero h0
    have hrun := run_append_owned_none (P := Try.prog) (w := wr) g 24 o.type 9 i0 1 Try.underlying24 hi _ 0 [] hown
    unfold Oper.wp
    simp [execOp, ho, resolve, invoke, builtin, hs, hx, hrun, Result.andThen]
    exact fin _ wr hown (Only.refl _ _)
  · refine wp_append_own _ s x 24 ho g 9 i0 (.string ⟨#[]⟩) 1 16 Try.underlying24 hi hz0 hz1 hz2 rfl (by decide) _ 0 [] hs hown
      ⟨g', 0, none⟩ cs.length cap (strVals cs) hx (by rw [length_strVals]) ?_ (strVals_one cs) (by unfold maxLen; omega) (by omega) (by omega) ?_
    · intro j u hj
      have hjl : j < cs.length * 1 := by
        have := (List.getElem?_eq_some_iff.1 hj).1
        rwa [length_strVals] at this
      rw [addr_add0, ← hj, ← ht, List.getElem?_take, if_pos hjl]
      simp [World.cell?, hh]
    · intro v' w' h1 h2 _
      refine fin v' w' ?_ h2
      show World.ownsRow _ _ _ _ _ _ _
      simpa using h1

theorem step_emptyS {ops : Array Oper} {o : Oper} {a : Act} {tm : Array Value} {K : Act → World → Prop} {Q : Exit → Act → World → Prop} {E : Prop} (hgd : o.guard = none) (s x : Operand)
    (ho : o.op = .call { callee := .builtin .append, args := #[s, x], argTypes := #[25, 25] })
    (wr : World) (B2 g n : Nat) (vx : Value) (cs : List Slot) (hs : a.eval s = .slice (some ⟨g, 0, none⟩) 0 0) (hx : a.eval x = vx) (hg : HoldsS wr g []) (hsrc : Hid (OwnsS B2 wr vx cs)) (hn : Hid (cs.length = n)) (hlen : Hid (cs.length ≤ 2097152))
    (h : ∀ a' c' w', Hid (OwnsS g w' (.slice a' n c') cs) → Hid (Only (some g) wr w') → K (a.put o.dst (.slice a' n c')) w') :
    if Region.wanted o (yielded ops tm) = true then Oper.wp Try.prog o a wr K Q else E := by
  have hw : Region.wanted o (yielded ops tm) = true := by simp [Region.wanted, hgd]
  rw [if_pos hw]
  have hlt : g < wr.heap.size := (Array.getElem?_eq_some_iff.1 hg).1
  have hown : OwnsS g wr (.slice (some ⟨g, 0, none⟩) 0 0) [] := hg.owns (Nat.le_refl _) (by simp [maxLen])
  obtain ⟨i0, hi, hz0, hz1, hz2⟩ := info_parts infoS
  have hl := hlen.out
  have fin : ∀ v' w', OwnsS g w' v' cs → Only (some g) wr w' → K (a.put o.dst v') w' := fun v' w' h1 h2 => by
    obtain ⟨a', c', rfl, _⟩ := h1.form
    rw [hn.out] at h1 ⊢
    exact h a' c' w' h1 h2
  have hsrc' := hsrc.out
  obtain ⟨hl', ⟨rfl, h0⟩ | ⟨g', cap, cur, rfl, hg', hh, hnn, hc, hss, ht⟩⟩ := hsrc'
  · obtain rfl : cs = [] := List.eq_nil_of_length_eq_zero h0
    have hrun := run_append_owned_none (P := Try.prog) (w := wr) g 25 o.type 36 i0 2 Try.underlying25 hi _ 0 [] hown
    unfold Oper.wp
    simp [execOp, ho, resolve, invoke, builtin, hs, hx, hrun, Result.andThen]
    exact fin _ wr hown (Only.refl _ _)
  · refine wp_append_own _ s x 25 ho g 36 i0 (.agg #[.int .i64 0, .string ⟨#[]⟩]) 2 24 Try.underlying25 hi hz0 hz1 hz2 rfl (by decide) _ 0 [] hs hown
      ⟨g', 0, none⟩ cs.length cap (slotVals cs) hx (by rw [length_slotVals]) ?_ (slotVals_one cs) (by unfold maxLen; omega) (by omega) (by omega) ?_
    · intro j u hj
      have hjl : j < cs.length * 2 := by
        have := (List.getElem?_eq_some_iff.1 hj).1
        rwa [length_slotVals] at this
      rw [addr_add0, ← hj, ← ht, List.getElem?_take, if_pos hjl]
      simp [World.cell?, hh]
    · intro v' w' h1 h2 _
      refine fin v' w' ?_ h2
      show World.ownsRow _ _ _ _ _ _ _
      simpa using h1
/-- a row of strings and a row of slots never share a block -/
theorem apart {w : World} {v v' : Value} {B B' : Nat} {S : List ByteArray} {L : List Slot} (h : OwnsT B w v S) (h' : OwnsS B' w v' L) : ∀ k, v.ownBlock = some k → v'.ownBlock ≠ some k := by
  intro k e e'
  obtain ⟨_, ⟨rfl, _⟩ | ⟨g, cap, cur, rfl, _, hh, _⟩⟩ := h
  · cases e
  · obtain ⟨_, ⟨rfl, _⟩ | ⟨g', cap', cur', rfl, _, hh', _⟩⟩ := h'
    · cases e'
    · obtain rfl : g = k := Option.some.inj e
      obtain rfl : g' = g := Option.some.inj e'
      rw [hh] at hh'
      simp only [Option.some.injEq, Obj.cells.injEq] at hh'
      exact absurd hh'.2.1 (by decide)
theorem HoldsS.new0 (w : World) : HoldsS (w.alloc (.cells #[] 36)) w.heap.size [] := HoldsS.new w []
theorem OwnsT.past {w w' : World} {v : Value} {B g : Nat} {S : List ByteArray} (h : OwnsT B w v S) (hg : HoldsS w g []) (hk : Only (some g) w w') : OwnsT B w' v S :=
  h.only hk fun k e e' => apart h (hg.owns (Nat.zero_le _) (by simp [maxLen]) : OwnsS 0 w (.slice (some ⟨g, 0, none⟩) 0 0) []) k e (by rw [e']; rfl)
theorem HoldsS.past {w w' : World} {g g' : Nat} (h : HoldsS w g []) (hne : g ≠ g') (hk : Only (some g') w w') : HoldsS w' g [] :=
  h.block (hk.block g (Array.getElem?_eq_some_iff.1 h).1 (fun e => hne (Option.some.inj e)))

set_option maxHeartbeats 2000000 in
theorem l5Copy_any (B B' : Nat) (v v' : Value) (S : List ByteArray) (L : List Slot) (x : Int) (w : World) (hT : OwnsT B w v S) (hsl : S.length ≤ 2097152) (hO : OwnsS B' w v' L) (hl : L.length ≤ 2097152) :
    Calls Try.prog 38 #[.agg #[v, v', .int .i64 x]] w (DevPost w S L x) := by
  obtain ⟨a, cap, rfl, _⟩ := hT.form
  obtain ⟨a', cap', rfl, _⟩ := hO.form
  have HO := hide hO
  have HT := hide hT
  have HL := hide hl
  have HSL := hide hsl
  obtain ⟨n, hn⟩ : ∃ n, S.length = n := ⟨_, rfl⟩
  obtain ⟨m, hm⟩ : ∃ m, L.length = m := ⟨_, rfl⟩
  have HN := hide hn
  have HM := hide hm
  rw [hn] at HT ⊢
  rw [hm] at HO ⊢
  clear hl hO hn hm hT hsl
  obtain ⟨W, hW, hWs, hWb, hX, hY⟩ := two_boxes w (.slice a n cap) (.slice a' m cap') (.int .i64 x)
  go_enter Try.func38, Try.ntmps38
  go_wp2_with fail
  rw [← hW]
  have HX := hide hX
  have HY := hide hY
  have HWb := hide hWb
  have HO1 := hide (HO.out.below hWb (Nat.le_refl _))
  have HT1 := hide (HT.out.below hWb (Nat.le_refl _))
  have HWs := hide hWs
  clear hW hX hY hWb hWs HO HT
  obtain ⟨c0, c1, c2⟩ := HX.out.cells
  have T1 : Hid (HoldsT (W.alloc (.cells #[] 9)).drew W.heap.size []) := hide (HoldsT.new W [])
  have T2 : ∀ o, Hid (HoldsT ((W.alloc (.cells #[] 9)).alloc o).drew W.heap.size []) := fun o => hide ((HoldsT.new W []).alloc o).drew
  have T3 : ∀ o, Hid (HoldsT ((W.alloc o).alloc (.cells #[] 9)).drew (W.heap.size + 1) []) := fun o => by
    have := HoldsT.new (W.alloc o) []
    simp only [Go.Deep.nblk_alloc] at this
    exact this
  have P2 : ∀ o, Hid (HoldsS ((W.alloc o).alloc (.cells #[] 36)).drew (W.heap.size + 1) []) := fun o => by
    have := HoldsS.new (W.alloc o) []
    simp only [Go.Deep.nblk_alloc] at this
    exact this
  have P3 : ∀ o, Hid (HoldsS ((W.alloc (.cells #[] 36)).alloc o).drew W.heap.size []) := fun o =>
    hide ((HoldsS.new W []).block (Below.heap_alloc (W.alloc (.cells #[] 36)) o W.heap.size (by simp)))
  have BB : ∀ o, Hid (Below W.heap.size W (W.alloc o).drew) := fun o => hide (((Below.refl W.heap.size W).alloc (Nat.le_refl _) o).drew)
  have BB2 : ∀ o o2, Hid (Below W.heap.size W ((W.alloc o).alloc o2).drew) := fun o o2 => hide (((Below.refl W.heap.size W).alloc (Nat.le_refl _) o).alloc (by simp) o2).drew
  have Q1 : ∀ o, Hid (OwnsT B (W.alloc o).drew (.slice a n cap) S) := fun o => hide (HT1.out.alloc o).drew
  have Q2 : ∀ o o2, Hid (OwnsT B ((W.alloc o).alloc o2).drew (.slice a n cap) S) := fun o o2 => hide ((HT1.out.alloc o).alloc o2).drew
  have G0 : ∀ g, (some W.heap.size : Option Nat) = some g → W.heap.size ≤ g := fun g e => by cases e; exact Nat.le_refl _
  have G1 : ∀ g, (some (W.heap.size + 1) : Option Nat) = some g → W.heap.size ≤ g := fun g e => by cases e; exact Nat.le_succ _
  have GN0 : W.heap.size + 1 ≠ W.heap.size := by omega
  have GN1 : W.heap.size ≠ W.heap.size + 1 := by omega
  have S1 : ∀ o, W.heap.size ≤ (W.alloc o).drew.heap.size := fun o => by simp
  have S2 : ∀ o o2, W.heap.size ≤ ((W.alloc o).alloc o2).drew.heap.size := fun o o2 => by simp; omega
  go_region_held3 (fun w' => w'.cell? ⟨w.heap.size, 0, none⟩ = some (.slice a n cap) ∧ w'.cell? ⟨w.heap.size, 1, none⟩ = some (.slice a' m cap') ∧ w'.cell? ⟨w.heap.size, 2, none⟩ = some (.int .i64 x))
    (first
      | with_reducible exact HX.out.cells
      | with_reducible exact HX.out.drew.cells
      | with_reducible exact (HX.out.alloc _).drew.cells
      | with_reducible exact (HX.out.alloc _).cells
      | with_reducible exact ((HX.out.alloc _).alloc _).cells
      | with_reducible exact ((HX.out.alloc _).alloc _).drew.cells
      | with_reducible exact HX2.out.cells
      | with_reducible exact (HX2.out.alloc _).cells
      | with_reducible exact HX3.out.cells
      | with_reducible exact (((HX3.out.set_other (by simp) _).set_other (by simp) _).set_other (by simp) _).cells)
    (first
      | (refine step_emptyT rfl (.tmp 3) (.tmp 5) rfl _ B _ n (.slice a n cap) S rfl rfl (by first | with_reducible exact T1.out | with_reducible exact (T2 _).out | with_reducible exact (T3 _).out | exact T1.out | exact (T2 _).out | exact (T3 _).out) (by first | with_reducible exact Q1 _ | with_reducible exact Q2 _ _ | exact Q1 _ | exact Q2 _ _) HN HSL ?_
         intro a2 c2 w2 HT2 HN2
         have HB2 : Hid (Below W.heap.size W w2) := by
           first
           | with_reducible exact hide ((BB _).out.trans (HN2.out.below G0 (S1 _)))
           | with_reducible exact hide ((BB2 _ _).out.trans (HN2.out.below G0 (S2 _ _)))
           | with_reducible exact hide ((BB2 _ _).out.trans (HN2.out.below G1 (S2 _ _)))
         (try have HP2 : Hid (HoldsS w2 (W.heap.size + 1) []) := by with_reducible exact hide ((P2 _).out.past GN0 HN2.out))
         (try have HP2 : Hid (HoldsS w2 W.heap.size []) := by with_reducible exact hide ((P3 _).out.past GN1 HN2.out))
         have HT2' : Hid (OwnsT W.heap.size w2 (.slice a2 n c2) S) := hide (HT2.out.mono (by omega))
         have HX2 := hide (HX.out.below HB2.out HX.out.lt)
         have HY2 := hide (HY.out.below HB2.out HY.out.lt)
         have HO2 := hide (HO1.out.below HB2.out (Nat.le_refl _))
         clear HT2 HN2)
      | (refine step_emptyS rfl (.tmp 7) (.tmp 9) rfl _ B' _ m (.slice a' m cap') L rfl rfl (by first | with_reducible exact HP2.out | with_reducible exact HoldsS.new0 _) (by first | with_reducible exact HO2 | with_reducible exact hide (HO2.out.alloc _)) HM HL ?_
         intro a3 c3 w3 HO3 HN3
         have HT3 : Hid (OwnsT W.heap.size w3 (.slice a2 n c2) S) := by
           first
           | with_reducible exact hide (HT2'.out.past HP2.out HN3.out)
           | with_reducible exact hide ((HT2'.out.alloc _).past (HoldsS.new0 _) HN3.out)
         have HB3 : Hid (Below W.heap.size W w3) := by
           first
           | with_reducible exact hide (HB2.out.trans (HN3.out.below G0 HB2.out.size))
           | with_reducible exact hide (HB2.out.trans (HN3.out.below G1 HB2.out.size))
           | exact hide ((HB2.out.alloc HB2.out.size _).trans (HN3.out.below (fun g e => by cases e; exact HB2.out.size) (by have := HB2.out.size; simp; omega)))
         have HO3' : Hid (OwnsS W.heap.size w3 (.slice a3 m c3) L) := hide (HO3.out.mono (by first | omega | exact HB2.out.size))
         have HX3 := hide (HX.out.below HB3.out HX.out.lt)
         have HY3 := hide (HY.out.below HB3.out HY.out.lt)
         obtain ⟨y0, y1, y2⟩ := HY3.out.cells
         obtain ⟨z0, z1, z2⟩ := HY3.out.frozen
         clear HO3 HN3))
  all_goals go_wp2_with fail
  all_goals refine bodyPost_ret (res_dev rfl _ _ (w.heap.size + 1) rfl (((HY3.out.set0 _).set1 _).set2 _)) rfl ?_
  all_goals refine ⟨_, _, rfl, ?_, ?_, HWb.out.trans ((((HB3.out.mono HWb.out.size).setCell (by simp) _).setCell (by simp) _).setCell (by simp) _)⟩
  all_goals first
    | exact (((HT3.out.set_other (show _ < _ from HY.out.lt) _).set_other (show _ < _ from HY.out.lt) _).set_other (show _ < _ from HY.out.lt) _).mono HWb.out.size
    | exact (((HO3'.out.set_other (show _ < _ from HY.out.lt) _).set_other (show _ < _ from HY.out.lt) _).set_other (show _ < _ from HY.out.lt) _).mono HWb.out.size
end Go.Proofs.Ytnbaffdonbnocaa
