/-
  Contracts of impl.DevPut and spec.DevPut.
-/
import Derived.Test.YtnbaffdonbnocaaDevP
import Derived.Test.YtnbaffdonbnocaaDevD
namespace Go.Proofs.Ytnbaffdonbnocaa
open Go.ChangeShapes Go.WideShapes Go.ChangeAt Go.RowKit

/-- a device and a truth, as DevPut, DevFlush and DevFall answer them -/
structure DevR where
  S : List ByteArray
  L : List Slot
  x : Int
  ok : Bool
noncomputable def putV (S : List ByteArray) (L : List Slot) (x t : Int) (k : ByteArray) : DevR :=
  if devOkB S L x = true then (if devOkB S (L ++ [(t, k)]) (x + 1) = true then ⟨S, L ++ [(t, k)], x + 1, true⟩ else ⟨S, L, x, false⟩) else ⟨[], [], 0, false⟩
theorem putV_bad {S : List ByteArray} {L : List Slot} {x t : Int} {k : ByteArray} (h : devOkB S L x = false) : putV S L x t k = ⟨[], [], 0, false⟩ := by simp [putV, h]
theorem putV_yes {S : List ByteArray} {L : List Slot} {x t : Int} {k : ByteArray} (h : devOkB S L x = true) (h2 : devOkB S (L ++ [(t, k)]) (x + 1) = true) : putV S L x t k = ⟨S, L ++ [(t, k)], x + 1, true⟩ := by simp [putV, h, h2]
theorem putV_no {S : List ByteArray} {L : List Slot} {x t : Int} {k : ByteArray} (h : devOkB S L x = true) (h2 : devOkB S (L ++ [(t, k)]) (x + 1) = false) : putV S L x t k = ⟨S, L, x, false⟩ := by simp [putV, h, h2]
def DevBPost (w : World) (R : DevR) (e : Ending) (w' : World) : Prop :=
  ∃ v v', e = .returned (.tuple #[.agg #[v, v', .int .i64 R.x], .bool R.ok]) ∧ OwnsT w.heap.size w' v R.S ∧ OwnsS w.heap.size w' v' R.L ∧ Below w.heap.size w w'

theorem appendO {ops : Array Oper} {rest : List Oper} {o : Oper} {a : Act} {Q : Exit → Act → World → Prop} (hgd : o.guard = none) (s x : Operand)
    (ho : o.op = .call { callee := .builtin .append, args := #[s, x], argTypes := #[25, 25] })
    (B B2 : Nat) (wr : World) (v vx : Value) (l cs : List Slot) (hs : a.eval s = v) (hx : a.eval x = vx)
    (hown : Hid (OwnsS B wr v l)) (hsrc : Hid (OwnsS B2 wr vx cs)) (hB : B ≤ wr.heap.size) (M : List Slot) (n : Nat) (hM : l ++ cs = M) (hn : M.length = n) (hlen : n ≤ 1099511627776)
    (h : ∀ a' c' w', Hid (OwnsS B w' (.slice a' n c') M) → Hid (Only v.ownBlock wr w') → wpList Try.prog ops Q rest (a.put o.dst (.slice a' n c')) w') :
    wpList Try.prog ops Q (o :: rest) a wr := by
  obtain ⟨i0, hi, hz0, hz1, hz2⟩ := info_parts infoS
  have hlen' : l.length + cs.length ≤ 1099511627776 := by rw [← List.length_append, hM, hn]; exact hlen
  have fin : ∀ v' w', OwnsS B w' v' (l ++ cs) → Only v.ownBlock wr w' → wpList Try.prog ops Q rest (a.put o.dst v') w' := fun v' w' h1 h2 => by
    obtain ⟨a', c', rfl, _⟩ := h1.form
    rw [hM, hn] at h1 ⊢
    exact h a' c' w' h1 h2
  have hsrc' := hsrc.out
  obtain ⟨hl, ⟨rfl, h0⟩ | ⟨g, cap, cur, rfl, hg, hh, hn, hc, hss, ht⟩⟩ := hsrc'
  · obtain rfl : cs = [] := List.eq_nil_of_length_eq_zero h0
    refine wpList_append_own_none hgd s x 25 ho B 36 i0 2 Try.underlying25 hi v l.length (slotVals l) hs hown.out hx (fin v wr (by rw [List.append_nil]; exact hown.out) (Only.refl _ _))
  · refine wpList_plain hgd fun K hK => ?_
    refine wp_append_own _ s x 25 ho B 36 i0 (.agg #[.int .i64 0, .string ⟨#[]⟩]) 2 24 Try.underlying25 hi hz0 hz1 hz2 rfl (by decide) v l.length (slotVals l) hs hown.out
      ⟨g, 0, none⟩ cs.length cap (slotVals cs) hx (by rw [length_slotVals]) ?_ (slotVals_one cs) (by unfold maxLen; omega) (by omega) hB ?_
    · intro j u hj
      have hjl : j < cs.length * 2 := by
        have := (List.getElem?_eq_some_iff.1 hj).1
        rwa [length_slotVals] at this
      rw [addr_add0, ← hj, ← ht, List.getElem?_take, if_pos hjl]
      simp [World.cell?, hh]
    · intro v' w' h1 h2 _
      refine hK _ _ (fin v' w' ?_ h2)
      show World.ownsRow _ _ _ _ _ _ _
      rw [List.length_append, slotVals_append]
      exact h1
theorem OwnsS.offBox {B g : Nat} {w : World} {v v0 v1 v2 : Value} {L : List Slot} (h : OwnsS B w v L) (hx : BoxB 27 w g v0 v1 v2) : ∀ k, v.ownBlock = some k → k ≠ g := by
  intro k e e'
  obtain ⟨_, ⟨rfl, _⟩ | ⟨g', cap, cur, rfl, _, hh, _⟩⟩ := h
  · cases e
  · obtain rfl : g' = k := Option.some.inj e
    subst e'
    unfold BoxB at hx
    rw [hh] at hx
    simp only [Option.some.injEq, Obj.cells.injEq] at hx
    exact absurd hx.2.1 (by decide)
theorem OwnsT.offBox {B g : Nat} {w : World} {v v0 v1 v2 : Value} {S : List ByteArray} (h : OwnsT B w v S) (hx : BoxB 27 w g v0 v1 v2) : ∀ k, v.ownBlock = some k → k ≠ g := by
  intro k e e'
  obtain ⟨_, ⟨rfl, _⟩ | ⟨g', cap, cur, rfl, _, hh, _⟩⟩ := h
  · cases e
  · obtain rfl : g' = k := Option.some.inj e
    subst e'
    unfold BoxB at hx
    rw [hh] at hx
    simp only [Option.some.injEq, Obj.cells.injEq] at hx
    exact absurd hx.2.1 (by decide)

set_option maxHeartbeats 4000000 in
theorem iDevPut_any (B B' : Nat) (v v' : Value) (S : List ByteArray) (L : List Slot) (x t : Int) (k : ByteArray) (w : World) (hT : OwnsT B w v S) (hsl : S.length ≤ 2097151) (hO : OwnsS B' w v' L) (hl : L.length ≤ 2097151) :
    Calls Try.prog 16 #[.agg #[v, v', .int .i64 x], .int .i64 t, .string k] w (DevBPost w (putV S L x t k)) := by
  obtain ⟨a, cap, rfl, hrdT, _⟩ := hT.form
  obtain ⟨a', cap', rfl, hrdS, _⟩ := hO.form
  have HT := hide hT
  have HO := hide hO
  have HSL := hide hsl
  have HL := hide hl
  have HRT := hide hrdT
  have HRS := hide hrdS
  obtain ⟨R, hR⟩ : ∃ R, R = putV S L x t k := ⟨_, rfl⟩
  have HRR := hide hR
  rw [← hR]
  have HC := hide (fun W h1 h2 => iDevOk_any a a' cap cap' S L x W h1 (by have := HSL.out; omega) h2 (by have := HL.out; omega))
  have HK := hide (fun W (h1 : OwnsT B W (.slice a S.length cap) S) (h2 : OwnsS B' W (.slice a' L.length cap') L) => devClone_any B B' _ _ S L x W h1 (by have := HSL.out; omega) h2 (by have := HL.out; omega))
  obtain ⟨M, hM⟩ : ∃ M, L ++ [(t, k)] = M := ⟨_, rfl⟩
  have HML := hide (show M.length = L.length + 1 by rw [← hM]; simp)
  have HD := hide (fun c c' (b b' : Option Addr) W h1 h2 => iDevOk_any b b' c c' S M (x + 1) W h1 (by have := HSL.out; omega) h2 (by have := HL.out; have := HML.out; omega))
  have HMM := hide hM
  obtain ⟨n, hn⟩ : ∃ n, S.length = n := ⟨_, rfl⟩
  obtain ⟨m, hm⟩ : ∃ m, L.length = m := ⟨_, rfl⟩
  have HN := hide hn
  have HM := hide hm
  rw [hn] at HT HC HK HD hsl ⊢
  rw [hm] at HO HC HK HML hl ⊢
  have HMl := hide HML.out
  rw [HML.out] at HD
  clear hT hO hrdT hrdS hR hM hn hm
  obtain ⟨W, hW, hWs, hWb, hX, hY⟩ := two_boxes w (.slice a n cap) (.slice a' m cap') (.int .i64 x)
  go_enter Try.func16, Try.ntmps16
  go_wp2_with fail
  rw [← hW]
  have HX := hide hX
  have HY := hide hY
  have HWb := hide hWb
  have HT1 := hide (HT.out.below hWb (Nat.le_refl _))
  have HO1 := hide (HO.out.below hWb (Nat.le_refl _))
  have HRT1 := hide ((HRT.out.below hWb (Nat.le_refl _)).mono hWb.size)
  have HRS1 := hide ((HRS.out.below hWb (Nat.le_refl _)).mono hWb.size)
  clear hW hX hY hWb hWs HT HO HRT HRS
  refine (HC.out _ HRT1.out HRS1.out).mono ?_
  rintro e w1 ⟨rfl, hb1⟩
  have HX1 := hide (HX.out.below hb1 HX.out.lt)
  have HY1 := hide (HY.out.below hb1 HY.out.lt)
  have HT2 := hide (HT1.out.below hb1 (Nat.le_refl _))
  have HO2 := hide (HO1.out.below hb1 (Nat.le_refl _))
  have HB1 := hide (HWb.out.trans (hb1.mono HWb.out.size))
  clear hb1 HC HX HY HT1 HO1 HRT1 HRS1 HWb
  obtain ⟨c0, c1, c2⟩ := HX1.out.cells
  obtain ⟨y0, y1, y2⟩ := HY1.out.cells
  obtain ⟨z0, z1, z2⟩ := HY1.out.frozen
  cases hd : devOkB S L x with
  | false =>
    have HV := hide (HRR.out.trans (putV_bad hd))
    clear hd
    go_wp2_with fail
    refine bodyPost_ret (res_dev_tmp rfl _ _ (w.heap.size + 1) rfl (((HY1.out.set0 _).set1 _).set2 _)) rfl ?_
    rw [HV.out]
    exact ⟨_, _, rfl, OwnsT.nil _ _, OwnsS.nil _ _, ((HB1.out.setCell (by simp) _).setCell (by simp) _).setCell (by simp) _⟩
  | true =>
    have HDK := hide hd
    have hx0 := (yes_iff.1 hd).2.2.1
    have hx1 := (yes_iff.1 hd).2.2.2
    clear hd
    go_wp2_with fail
    refine (HK.out _ HT2.out HO2.out).mono ?_
    rintro e w2 ⟨v2, v3, rfl, ht2, ho2, hb2⟩
    obtain ⟨a2, cp2, rfl, _⟩ := ht2.form
    obtain ⟨a3, cp3, rfl, _⟩ := ho2.form
    rw [HN.out] at ht2 ⊢
    rw [HM.out] at ho2 ⊢
    have HTc := hide ht2
    have HOc := hide ho2
    have HB2 := hide hb2
    have hly1 := HY1.out.lt
    have hlx1 := HX1.out.lt
    have hw1 := HB1.out.size
    have hw12 := hb2.size
    clear hb2 ht2 ho2 c0 c1 c2 y0 y1 y2 z0 z1 z2
    have P1 : ∀ o1 o, Hid (OwnsS w1.heap.size ((w2.alloc o1).alloc o) (.slice a3 m cp3) L) := fun o1 o => hide ((HOc.out.alloc o1).alloc o)
    have P2 : ∀ o1, Hid (OwnsS 0 ((w2.alloc o1).alloc (.cells #[.int .i64 t, .string k] 36)) (.slice (some ⟨w2.heap.size + 1, 0, none⟩) 1 1) [(t, k)]) := fun o1 => by
      have := OwnsS.lit1 0 (w2.alloc o1) t k (Nat.zero_le _)
      simp only [Go.Deep.nblk_alloc] at this
      exact this
    have P3 : ∀ o1 o, w1.heap.size ≤ ((w2.alloc o1).alloc o).heap.size := fun o1 o => by simp; omega
    have P4 : ∀ o, Hid (BoxB 27 ((w2.alloc (.cells #[.slice a2 n cp2, .slice a3 m cp3, .int .i64 x] 27)).alloc o) w2.heap.size (.slice a2 n cp2) (.slice a3 m cp3) (.int .i64 x)) := fun o => hide ((BoxB.new _ w2 _ _ _).alloc o)
    have P5 : ∀ o1 o, Hid (Below w1.heap.size w1 ((w2.alloc o1).alloc o)) := fun o1 o => hide ((HB2.out.alloc HB2.out.size o1).alloc (by simp; omega) o)
    have P6 : ∀ o1 o, Hid (OwnsT w1.heap.size ((w2.alloc o1).alloc o) (.slice a2 n cp2) S) := fun o1 o => hide ((HTc.out.alloc o1).alloc o)
    have P7 : ∀ k, (Value.slice a3 m cp3).ownBlock = some k → w1.heap.size ≤ k ∧ k < w2.heap.size := fun k e => HOc.out.lt k e
    have P8 : ∀ o w4, Hid (Only (Value.slice a3 m cp3).ownBlock ((w2.alloc (.cells #[.slice a2 n cp2, .slice a3 m cp3, .int .i64 x] 27)).alloc o) w4) → Hid (BoxB 27 w4 w2.heap.size (.slice a2 n cp2) (.slice a3 m cp3) (.int .i64 x)) ∧ Hid (Below w1.heap.size w1 w4) ∧ Hid (OwnsT w1.heap.size w4 (.slice a2 n cp2) S) := fun o w4 HN4 =>
      ⟨hide ((P4 o).out.only HN4.out (fun e => by have := P7 _ e.symm; omega)), hide ((P5 _ _).out.trans (HN4.out.below (fun k e => (P7 k e).1) (P3 _ _))), hide ((P6 _ _).out.only HN4.out (fun k e e' => apart HTc.out HOc.out k e e'.symm))⟩
    go_wp2_with (at_builtin; go_loud ((refine appendO rfl (.tmp 16) (.tmp 20) rfl w1.heap.size 0 _ _ _ L [(t, k)] rfl rfl (P1 _ _) (P2 _) (P3 _ _) M (m + 1) HMM.out HML.out (by omega) ?_); intro a4 c4 w4 HO4 HN4; obtain ⟨HZ4, HB4, HT4⟩ := P8 _ _ HN4; clear HN4 P1 P2 P4 P5 P6 P8; obtain ⟨q0, q1, q2⟩ := HZ4.out.cells; obtain ⟨r0, r1, r2⟩ := HZ4.out.frozen))
    obtain ⟨W6, hW6⟩ : ∃ W6, W6 = (w4.setCell ⟨w2.heap.size, 1, none⟩ (.slice a4 (m + 1) c4)).setCell ⟨w2.heap.size, 2, none⟩ (.int .i64 (x + 1)) := ⟨_, rfl⟩
    have HZ6 := hide (show BoxB 27 W6 w2.heap.size (.slice a2 n cp2) (.slice a4 (m + 1) c4) (.int .i64 (x + 1)) from hW6 ▸ (HZ4.out.set1 _).set2 _)
    have HB6 := hide (show Below w1.heap.size w1 W6 from hW6 ▸ (HB4.out.setCell hw12 _).setCell hw12 _)
    have HT6 := hide (show OwnsT w1.heap.size W6 (.slice a2 n cp2) S from hW6 ▸ (HT4.out.set_ne (HT4.out.offBox HZ4.out) _).set_ne (HT4.out.offBox HZ4.out) _)
    have HO6 := hide (show OwnsS w1.heap.size W6 (.slice a4 (m + 1) c4) M from hW6 ▸ (HO4.out.set_ne (HO4.out.offBox HZ4.out) _).set_ne (HO4.out.offBox HZ4.out) _)
    clear HZ4 HB4 HT4 HO4 q0 q1 q2 r0 r1 r2
    rw [← hW6]
    clear hW6 P3 P7
    refine (HD.out _ _ _ _ _ HT6.out.rd HO6.out.rd).mono ?_
    rintro e w7 ⟨rfl, hb7⟩
    have HZ7 := hide (HZ6.out.below hb7 HZ6.out.lt)
    have HT7 := hide (HT6.out.below hb7 (Nat.le_refl _))
    have HO7 := hide (HO6.out.below hb7 (Nat.le_refl _))
    have HB7 := hide (HB6.out.trans (hb7.mono HB6.out.size))
    clear hb7 HZ6 HT6 HO6 HB6 HD
    have HX7 := hide (HX1.out.below HB7.out hlx1)
    have HY7 := hide (HY1.out.below HB7.out hly1)
    obtain ⟨q0, q1, q2⟩ := HZ7.out.cells
    obtain ⟨x0, x1, x2⟩ := HX7.out.cells
    obtain ⟨y0, y1, y2⟩ := HY7.out.cells
    obtain ⟨z0, z1, z2⟩ := HY7.out.frozen
    cases hd : devOkB S M (x + 1) with
    | true =>
      have HV := hide (HRR.out.trans (putV_yes HDK.out (by rw [HMM.out]; exact hd)))
      rw [HMM.out] at HV
      clear hd
      go_wp2_with fail
      refine bodyPost_ret (res_dev_tmp rfl _ _ (w.heap.size + 1) rfl (((HY7.out.set0 _).set1 _).set2 _)) rfl ?_
      rw [HV.out]
      refine ⟨_, _, rfl, ?_, ?_, ((HB1.out.trans (HB7.out.mono hw1)).setCell (by simp) _).setCell (by simp) _ |>.setCell (by simp) _⟩
      · exact (((HT7.out.set_other hly1 _).set_other hly1 _).set_other hly1 _).mono hw1
      · exact (((HO7.out.set_other hly1 _).set_other hly1 _).set_other hly1 _).mono hw1
    | false =>
      have HV := hide (HRR.out.trans (putV_no HDK.out (by rw [HMM.out]; exact hd)))
      clear hd
      go_wp2_with fail
      refine (HK.out _ (HT2.out.below HB7.out (Nat.le_refl _)) (HO2.out.below HB7.out (Nat.le_refl _))).mono ?_
      rintro e w8 ⟨v8, v9, rfl, ht8, ho8, hb8⟩
      have HT8 := hide ht8
      have HO8 := hide ho8
      have HB8 := hide (HB7.out.trans (hb8.mono HB7.out.size))
      have HY8 := hide (HY1.out.below HB8.out hly1)
      have h7 := HB7.out.size
      have hly7 : w.heap.size + 1 < w7.heap.size := by omega
      obtain ⟨a8, c8, rfl, _⟩ := ht8.form
      obtain ⟨a9, c9, rfl, _⟩ := ho8.form
      clear ht8 ho8 hb8 y0 y1 y2 z0 z1 z2 x0 x1 x2 q0 q1 q2
      obtain ⟨y0, y1, y2⟩ := HY8.out.cells
      obtain ⟨z0, z1, z2⟩ := HY8.out.frozen
      go_wp2_with fail
      refine bodyPost_ret (res_dev_tmp rfl _ _ (w.heap.size + 1) rfl (((HY8.out.set0 _).set1 _).set2 _)) rfl ?_
      rw [HV.out]
      refine ⟨_, _, rfl, ?_, ?_, ((HB1.out.trans (HB8.out.mono hw1)).setCell (by simp) _).setCell (by simp) _ |>.setCell (by simp) _⟩
      · exact (((HT8.out.set_other hly7 _).set_other hly7 _).set_other hly7 _).mono (by omega)
      · exact (((HO8.out.set_other hly7 _).set_other hly7 _).set_other hly7 _).mono (by omega)

set_option maxHeartbeats 4000000 in
theorem sDevPut_any (B B' : Nat) (v v' : Value) (S : List ByteArray) (L : List Slot) (x t : Int) (k : ByteArray) (w : World) (hT : OwnsT B w v S) (hsl : S.length ≤ 2097151) (hO : OwnsS B' w v' L) (hl : L.length ≤ 2097151) :
    Calls Try.prog 17 #[.agg #[v, v', .int .i64 x], .int .i64 t, .string k] w (DevBPost w (putV S L x t k)) := by
  obtain ⟨a, cap, rfl, hrdT, _⟩ := hT.form
  obtain ⟨a', cap', rfl, hrdS, _⟩ := hO.form
  have HT := hide hT
  have HO := hide hO
  have HSL := hide hsl
  have HL := hide hl
  have HRT := hide hrdT
  have HRS := hide hrdS
  obtain ⟨R, hR⟩ : ∃ R, R = putV S L x t k := ⟨_, rfl⟩
  have HRR := hide hR
  rw [← hR]
  have HC := hide (fun W h1 h2 => sDevOk_any a a' cap cap' S L x W h1 (by have := HSL.out; omega) h2 (by have := HL.out; omega))
  have HK := hide (fun W (h1 : OwnsT B W (.slice a S.length cap) S) (h2 : OwnsS B' W (.slice a' L.length cap') L) => l5Copy_any B B' _ _ S L x W h1 (by have := HSL.out; omega) h2 (by have := HL.out; omega))
  obtain ⟨M, hM⟩ : ∃ M, L ++ [(t, k)] = M := ⟨_, rfl⟩
  have HML := hide (show M.length = L.length + 1 by rw [← hM]; simp)
  have HD := hide (fun c c' (b b' : Option Addr) W h1 h2 => sDevOk_any b b' c c' S M (x + 1) W h1 (by have := HSL.out; omega) h2 (by have := HL.out; have := HML.out; omega))
  have HMM := hide hM
  obtain ⟨n, hn⟩ : ∃ n, S.length = n := ⟨_, rfl⟩
  obtain ⟨m, hm⟩ : ∃ m, L.length = m := ⟨_, rfl⟩
  have HN := hide hn
  have HM := hide hm
  rw [hn] at HT HC HK HD hsl ⊢
  rw [hm] at HO HC HK HML hl ⊢
  have HMl := hide HML.out
  rw [HML.out] at HD
  clear hT hO hrdT hrdS hR hM hn hm
  obtain ⟨W, hW, hWs, hWb, hX, hY⟩ := two_boxes w (.slice a n cap) (.slice a' m cap') (.int .i64 x)
  go_enter Try.func17, Try.ntmps17
  go_wp2_with fail
  rw [← hW]
  have HX := hide hX
  have HY := hide hY
  have HWb := hide hWb
  have HT1 := hide (HT.out.below hWb (Nat.le_refl _))
  have HO1 := hide (HO.out.below hWb (Nat.le_refl _))
  have HRT1 := hide ((HRT.out.below hWb (Nat.le_refl _)).mono hWb.size)
  have HRS1 := hide ((HRS.out.below hWb (Nat.le_refl _)).mono hWb.size)
  clear hW hX hY hWb hWs HT HO HRT HRS
  refine (HC.out _ HRT1.out HRS1.out).mono ?_
  rintro e w1 ⟨rfl, hb1⟩
  have HX1 := hide (HX.out.below hb1 HX.out.lt)
  have HY1 := hide (HY.out.below hb1 HY.out.lt)
  have HT2 := hide (HT1.out.below hb1 (Nat.le_refl _))
  have HO2 := hide (HO1.out.below hb1 (Nat.le_refl _))
  have HB1 := hide (HWb.out.trans (hb1.mono HWb.out.size))
  clear hb1 HC HX HY HT1 HO1 HRT1 HRS1 HWb
  obtain ⟨c0, c1, c2⟩ := HX1.out.cells
  obtain ⟨y0, y1, y2⟩ := HY1.out.cells
  obtain ⟨z0, z1, z2⟩ := HY1.out.frozen
  cases hd : devOkB S L x with
  | false =>
    have HV := hide (HRR.out.trans (putV_bad hd))
    clear hd
    go_wp2_with fail
    refine bodyPost_ret (res_dev_tmp rfl _ _ (w.heap.size + 1) rfl (((HY1.out.set0 _).set1 _).set2 _)) rfl ?_
    rw [HV.out]
    exact ⟨_, _, rfl, OwnsT.nil _ _, OwnsS.nil _ _, ((HB1.out.setCell (by simp) _).setCell (by simp) _).setCell (by simp) _⟩
  | true =>
    have HDK := hide hd
    have hx0 := (yes_iff.1 hd).2.2.1
    have hx1 := (yes_iff.1 hd).2.2.2
    clear hd
    go_wp2_with fail
    refine (HK.out _ HT2.out HO2.out).mono ?_
    rintro e w2 ⟨v2, v3, rfl, ht2, ho2, hb2⟩
    obtain ⟨a2, cp2, rfl, _⟩ := ht2.form
    obtain ⟨a3, cp3, rfl, _⟩ := ho2.form
    rw [HN.out] at ht2 ⊢
    rw [HM.out] at ho2 ⊢
    have HTc := hide ht2
    have HOc := hide ho2
    have HB2 := hide hb2
    have hly1 := HY1.out.lt
    have hlx1 := HX1.out.lt
    have hw1 := HB1.out.size
    have hw12 := hb2.size
    clear hb2 ht2 ho2 c0 c1 c2 y0 y1 y2 z0 z1 z2
    have P1 : ∀ o1 o, Hid (OwnsS w1.heap.size ((w2.alloc o1).alloc o) (.slice a3 m cp3) L) := fun o1 o => hide ((HOc.out.alloc o1).alloc o)
    have P2 : ∀ o1, Hid (OwnsS 0 ((w2.alloc o1).alloc (.cells #[.int .i64 t, .string k] 36)) (.slice (some ⟨w2.heap.size + 1, 0, none⟩) 1 1) [(t, k)]) := fun o1 => by
      have := OwnsS.lit1 0 (w2.alloc o1) t k (Nat.zero_le _)
      simp only [Go.Deep.nblk_alloc] at this
      exact this
    have P3 : ∀ o1 o, w1.heap.size ≤ ((w2.alloc o1).alloc o).heap.size := fun o1 o => by simp; omega
    have P4 : ∀ o, Hid (BoxB 27 ((w2.alloc (.cells #[.slice a2 n cp2, .slice a3 m cp3, .int .i64 x] 27)).alloc o) w2.heap.size (.slice a2 n cp2) (.slice a3 m cp3) (.int .i64 x)) := fun o => hide ((BoxB.new _ w2 _ _ _).alloc o)
    have P5 : ∀ o1 o, Hid (Below w1.heap.size w1 ((w2.alloc o1).alloc o)) := fun o1 o => hide ((HB2.out.alloc HB2.out.size o1).alloc (by simp; omega) o)
    have P6 : ∀ o1 o, Hid (OwnsT w1.heap.size ((w2.alloc o1).alloc o) (.slice a2 n cp2) S) := fun o1 o => hide ((HTc.out.alloc o1).alloc o)
    have P7 : ∀ k, (Value.slice a3 m cp3).ownBlock = some k → w1.heap.size ≤ k ∧ k < w2.heap.size := fun k e => HOc.out.lt k e
    have P8 : ∀ o w4, Hid (Only (Value.slice a3 m cp3).ownBlock ((w2.alloc (.cells #[.slice a2 n cp2, .slice a3 m cp3, .int .i64 x] 27)).alloc o) w4) → Hid (BoxB 27 w4 w2.heap.size (.slice a2 n cp2) (.slice a3 m cp3) (.int .i64 x)) ∧ Hid (Below w1.heap.size w1 w4) ∧ Hid (OwnsT w1.heap.size w4 (.slice a2 n cp2) S) := fun o w4 HN4 =>
      ⟨hide ((P4 o).out.only HN4.out (fun e => by have := P7 _ e.symm; omega)), hide ((P5 _ _).out.trans (HN4.out.below (fun k e => (P7 k e).1) (P3 _ _))), hide ((P6 _ _).out.only HN4.out (fun k e e' => apart HTc.out HOc.out k e e'.symm))⟩
    go_wp2_with (at_builtin; go_loud ((refine appendO rfl (.tmp 16) (.tmp 20) rfl w1.heap.size 0 _ _ _ L [(t, k)] rfl rfl (P1 _ _) (P2 _) (P3 _ _) M (m + 1) HMM.out HML.out (by omega) ?_); intro a4 c4 w4 HO4 HN4; obtain ⟨HZ4, HB4, HT4⟩ := P8 _ _ HN4; clear HN4 P1 P2 P4 P5 P6 P8; obtain ⟨q0, q1, q2⟩ := HZ4.out.cells; obtain ⟨r0, r1, r2⟩ := HZ4.out.frozen))
    obtain ⟨W6, hW6⟩ : ∃ W6, W6 = (w4.setCell ⟨w2.heap.size, 1, none⟩ (.slice a4 (m + 1) c4)).setCell ⟨w2.heap.size, 2, none⟩ (.int .i64 (x + 1)) := ⟨_, rfl⟩
    have HZ6 := hide (show BoxB 27 W6 w2.heap.size (.slice a2 n cp2) (.slice a4 (m + 1) c4) (.int .i64 (x + 1)) from hW6 ▸ (HZ4.out.set1 _).set2 _)
    have HB6 := hide (show Below w1.heap.size w1 W6 from hW6 ▸ (HB4.out.setCell hw12 _).setCell hw12 _)
    have HT6 := hide (show OwnsT w1.heap.size W6 (.slice a2 n cp2) S from hW6 ▸ (HT4.out.set_ne (HT4.out.offBox HZ4.out) _).set_ne (HT4.out.offBox HZ4.out) _)
    have HO6 := hide (show OwnsS w1.heap.size W6 (.slice a4 (m + 1) c4) M from hW6 ▸ (HO4.out.set_ne (HO4.out.offBox HZ4.out) _).set_ne (HO4.out.offBox HZ4.out) _)
    clear HZ4 HB4 HT4 HO4 q0 q1 q2 r0 r1 r2
    rw [← hW6]
    clear hW6 P3 P7
    refine (HD.out _ _ _ _ _ HT6.out.rd HO6.out.rd).mono ?_
    rintro e w7 ⟨rfl, hb7⟩
    have HZ7 := hide (HZ6.out.below hb7 HZ6.out.lt)
    have HT7 := hide (HT6.out.below hb7 (Nat.le_refl _))
    have HO7 := hide (HO6.out.below hb7 (Nat.le_refl _))
    have HB7 := hide (HB6.out.trans (hb7.mono HB6.out.size))
    clear hb7 HZ6 HT6 HO6 HB6 HD
    have HX7 := hide (HX1.out.below HB7.out hlx1)
    have HY7 := hide (HY1.out.below HB7.out hly1)
    obtain ⟨q0, q1, q2⟩ := HZ7.out.cells
    obtain ⟨x0, x1, x2⟩ := HX7.out.cells
    obtain ⟨y0, y1, y2⟩ := HY7.out.cells
    obtain ⟨z0, z1, z2⟩ := HY7.out.frozen
    cases hd : devOkB S M (x + 1) with
    | true =>
      have HV := hide (HRR.out.trans (putV_yes HDK.out (by rw [HMM.out]; exact hd)))
      rw [HMM.out] at HV
      clear hd
      go_wp2_with fail
      refine bodyPost_ret (res_dev_tmp rfl _ _ (w.heap.size + 1) rfl (((HY7.out.set0 _).set1 _).set2 _)) rfl ?_
      rw [HV.out]
      refine ⟨_, _, rfl, ?_, ?_, ((HB1.out.trans (HB7.out.mono hw1)).setCell (by simp) _).setCell (by simp) _ |>.setCell (by simp) _⟩
      · exact (((HT7.out.set_other hly1 _).set_other hly1 _).set_other hly1 _).mono hw1
      · exact (((HO7.out.set_other hly1 _).set_other hly1 _).set_other hly1 _).mono hw1
    | false =>
      have HV := hide (HRR.out.trans (putV_no HDK.out (by rw [HMM.out]; exact hd)))
      clear hd
      go_wp2_with fail
      refine (HK.out _ (HT2.out.below HB7.out (Nat.le_refl _)) (HO2.out.below HB7.out (Nat.le_refl _))).mono ?_
      rintro e w8 ⟨v8, v9, rfl, ht8, ho8, hb8⟩
      have HT8 := hide ht8
      have HO8 := hide ho8
      have HB8 := hide (HB7.out.trans (hb8.mono HB7.out.size))
      have HY8 := hide (HY1.out.below HB8.out hly1)
      have h7 := HB7.out.size
      have hly7 : w.heap.size + 1 < w7.heap.size := by omega
      obtain ⟨a8, c8, rfl, _⟩ := ht8.form
      obtain ⟨a9, c9, rfl, _⟩ := ho8.form
      clear ht8 ho8 hb8 y0 y1 y2 z0 z1 z2 x0 x1 x2 q0 q1 q2
      obtain ⟨y0, y1, y2⟩ := HY8.out.cells
      obtain ⟨z0, z1, z2⟩ := HY8.out.frozen
      go_wp2_with fail
      refine bodyPost_ret (res_dev_tmp rfl _ _ (w.heap.size + 1) rfl (((HY8.out.set0 _).set1 _).set2 _)) rfl ?_
      rw [HV.out]
      refine ⟨_, _, rfl, ?_, ?_, ((HB1.out.trans (HB8.out.mono hw1)).setCell (by simp) _).setCell (by simp) _ |>.setCell (by simp) _⟩
      · exact (((HT8.out.set_other hly7 _).set_other hly7 _).set_other hly7 _).mono (by omega)
      · exact (((HO8.out.set_other hly7 _).set_other hly7 _).set_other hly7 _).mono (by omega)
end Go.Proofs.Ytnbaffdonbnocaa
