/-
  Texts of this proof, put together: WriD, WriE.
-/
import Derived.Test.YtdlkgpobjacgeaaGreatDoorPackAY
import Derived.Test.YtdlkgpobjacgeaaGreatDoorPackAJ
import Derived.Test.YtdlkgpobjacgeaaGreatDoorPackAH
import Derived.Deep.RegionHeld3

/-
  Contract of impl's (*blockWriter).entry.
-/
namespace Go.Proofs.YtdlkgpobjacgeaaGreatDoor
open Go.ChangeShapes Go.WideShapes Go.ChangeAt Go.RowKit

/-- a writer behind some calls, beside what else lay there -/
structure At1 (g : Nat) (W : World) (X k : List UInt8) (P : List Nat) (v u : Value) (w' : World) : Prop where
  wri : WriAt w' g X k P v u
  bent : Bent g W w'
theorem At1.step {g B : Nat} {W w' w2 : World} {X k : List UInt8} {P : List Nat} {v u : Value} (h : At1 g W X k P v u w') (hb : Below B w' w2) (hB : w'.heap.size ≤ B) : At1 g W X k P v u w2 :=
  ⟨h.wri.kept hb hB, h.bent.trans (Bent.of_below hb hB (Nat.le_trans (Nat.le_of_lt h.wri.lt) hB))⟩
theorem At1.drew {g : Nat} {W w' : World} {X k : List UInt8} {P : List Nat} {v u : Value} (h : At1 g W X k P v u w') : At1 g W X k P v u w'.drew :=
  ⟨h.wri.drew, ⟨h.bent.below.drew, h.bent.keep⟩⟩
theorem At1.alloc {g : Nat} {W w' : World} {X k : List UInt8} {P : List Nat} {v u : Value} (h : At1 g W X k P v u w') (o : Obj) : At1 g W X k P v u (w'.alloc o) :=
  h.step ((Below.refl w'.heap.size w').alloc (Nat.le_refl _) o) (Nat.le_refl _)
theorem bl_of' (l : List UInt8) : bl ⟨l.toArray⟩ = l := bl_of l
theorem strs5 (w : World) (a b c d e : ByteArray) : elStr.Holds (w.alloc (.cells #[.string a, .string b, .string c, .string d, .string e] 9)) w.heap.size [a, b, c, d, e] := El.Holds.new (e := elStr) w [a, b, c, d, e]
theorem strs1 (w : World) (a : ByteArray) : elStr.Holds (w.alloc (.cells #[.string a] 9)) w.heap.size [a] := El.Holds.new (e := elStr) w [a]

set_option maxHeartbeats 4000000 in
set_option maxRecDepth 20000 in
theorem entry_any {w : World} {g : Nat} {X k : List UInt8} {P : List Nat} (hw : Wri w g X k P) (hX : X.length ≤ 1000000) (hk : k.length ≤ 1000) (f0 : ByteArray) (f1 : Int) (f2 : Bool) (f3 : ByteArray) (he : entOk (f0, f1, f2, f3)) :
    Calls Tryz.prog 102 #[.pointer (some ⟨g, 0, none⟩), .agg #[.string f0, .int .i64 f1, .bool f2, .string f3]] w (RestPost g (X ++ entL (comL k (bl f0)) (f0, f1, f2, f3)) (bl f0) P w) := by
  obtain ⟨v, u, hx⟩ := hw
  obtain ⟨b1, b2, b3, b4⟩ := entOk_bd he
  simp only at b1 b2 b3 b4
  have hsl := (comL_le k (bl f0)).2
  have HCP := hide (fun W => commonPrefix_any ⟨k.toArray⟩ f0 (by rw [size_of]; omega) W)
  rw [bl_of k] at HCP
  obtain ⟨sh, hsh⟩ : ∃ sh, sh = comL k (bl f0) := ⟨_, rfl⟩
  rw [← hsh] at HCP hsl ⊢
  have hsl10 : sh ≤ 10 := by omega
  rw [bl_len] at hsl b1
  obtain ⟨s1, hs1⟩ : ∃ s1 : ByteArray, s1 = ⟨((bl f0).drop sh).toArray⟩ := ⟨_, rfl⟩
  have hex : f0.extract sh f0.size = s1 := by rw [hs1]; exact ext_drop f0 sh
  have hl1 : s1.size ≤ 10 := by rw [hs1, size_of, List.length_drop, bl_len]; omega
  have e1 : bl s1 = (bl f0).drop sh := by rw [hs1]; rfl
  have HV1 := hide (fun W => iVar_any (sh : Int) W)
  have HT1 := hide (fun W => sizedText_any s1 (by omega) W)
  have HV2 := hide (fun W => iVar_any f1 W)
  have HT2 := hide (fun W => sizedText_any f3 (by rw [bl_len] at b2; omega) W)
  have HMK := hide (fun W => markOf_any f2 W)
  have q1 := varV_len' (sh : Int)
  have q2 := piece_len (s := s1) (by omega)
  have q3 := varV_len' f1
  have q4 := piece_len (s := f3) (by rw [bl_len] at b2; omega)
  have v1 : varV (sh : Int) = varL sh := by rw [varV, if_pos (by omega)]; rfl
  have v2 : varV f1 = varL f1.toNat := by rw [varV, if_pos (by omega)]
  have HE := hide (show entL sh (f0, f1, f2, f3) = varV (sh : Int) ++ (pieceL (bl s1) ++ (varV f1 ++ (mkB f2 ++ pieceL (bl f3)))) by
    rw [v1, v2, e1, entL]
    cases f2 <;> rfl)
  obtain ⟨L1, hL1⟩ : ∃ L1, L1 = varV (sh : Int) := ⟨_, rfl⟩
  obtain ⟨L2, hL2⟩ : ∃ L2, L2 = pieceL (bl s1) := ⟨_, rfl⟩
  obtain ⟨L3, hL3⟩ : ∃ L3, L3 = varV f1 := ⟨_, rfl⟩
  obtain ⟨L4, hL4⟩ : ∃ L4, L4 = mkB f2 := ⟨_, rfl⟩
  obtain ⟨L5, hL5⟩ : ∃ L5, L5 = pieceL (bl f3) := ⟨_, rfl⟩
  have q5 : L4.length ≤ 1 := by rw [hL4]; cases f2 <;> decide
  rw [← hL1] at HV1 HE q1
  rw [← hL2] at HT1 HE q2
  rw [← hL3] at HV2 HE q3
  rw [← hL4] at HMK HE
  rw [← hL5] at HT2 HE q4
  rw [bl_len] at b2
  have HSZ : Hid (∀ s ∈ [(⟨L1.toArray⟩ : ByteArray), ⟨L2.toArray⟩, ⟨L3.toArray⟩, ⟨L4.toArray⟩, ⟨L5.toArray⟩], s.size ≤ 1000) := by
    intro s hs
    simp only [List.mem_cons, List.not_mem_nil, or_false] at hs
    rcases hs with rfl | rfl | rfl | rfl | rfl <;> rw [size_of] <;> omega
  have HCAT := hide (show X ++ entL sh (f0, f1, f2, f3) = X ++ catL [(⟨L1.toArray⟩ : ByteArray), ⟨L2.toArray⟩, ⟨L3.toArray⟩, ⟨L4.toArray⟩, ⟨L5.toArray⟩] by
    rw [HE.out]
    simp only [catL, List.flatMap_cons, List.flatMap_nil, bl_of, List.append_nil])
  rw [HCAT.out]
  have HX := hide hX
  have hgl := hx.lt
  obtain ⟨W, hW⟩ : ∃ W, W = w.alloc (.cells #[.string f0, .int .i64 f1, .bool f2, .string f3] 30) := ⟨_, rfl⟩
  obtain ⟨b, hb⟩ : ∃ b, b = w.heap.size := ⟨_, rfl⟩
  have hbx : BoxV 30 W b #[.string f0, .int .i64 f1, .bool f2, .string f3] := by rw [hW, hb]; exact BoxV.new _ w _
  have hx1 : WriAt W g X k P v u := by rw [hW]; exact hx.alloc _
  have HBW := hide (show Below g w W by rw [hW]; exact (Below.refl g w).alloc (by omega) _)
  have hbg : b ≠ g := by omega
  have HA1 := hide (show At1 g W X k P v u W from ⟨hx1, Bent.refl _ _⟩)
  have HD := hide (fun (w' : World) (h : Bent g W w') => BoxV.four' (show BoxV 30 w' b #[.string f0, .int .i64 f1, .bool f2, .string f3] from h.keep b _ _ _ hbg (by decide) hbx))
  have HD1 := hide (fun (w' : World) (h : At1 g W X k P v u w') => show w'.cell? ⟨g, 1, none⟩ = some (.string ⟨k.toArray⟩) ∧ w'.cell? ⟨b, 0, none⟩ = some (.string f0) from ⟨h.wri.box.cell 1 _ rfl, (HD.out w' h.bent).1⟩)
  clear hs1 hL1 hL2 hL3 hL4 hL5 q1 q2 q3 q4 q5 v1 v2 e1 hsh hx hx1 hbx he hk hX HE
  subst hb
  go_enter Tryz.func102, Tryz.ntmps102
  go_upto_region 1 with (fail)
  rw [← hW]
  clear hW
  go_region_held3 (fun w' => w'.cell? ⟨g, 1, none⟩ = some (.string ⟨k.toArray⟩) ∧ w'.cell? ⟨w.heap.size, 0, none⟩ = some (.string f0))
    (first
      | with_reducible exact HD1.out _ HA1.out
      | with_reducible exact HD1.out _ HA1.out.drew
      | with_reducible exact HD1.out _ HA2.out)
    (first
      | (go_at_call 115
         refine (HCP.out _).mono ?_
         rintro e w2 ⟨rfl, hb2⟩
         have HA2 : Hid (At1 g W X k P v u w2) := HA1.out.step (below_of_drew' hb2) (Nat.le_refl _)
         clear hb2))
  all_goals
    clear HD1
    go_upto_region 2 with (fail)
    go_region_held3 (fun w' => w'.cell? ⟨w.heap.size, 0, none⟩ = some (.string f0) ∧ w'.cell? ⟨w.heap.size, 1, none⟩ = some (.int .i64 f1) ∧ w'.cell? ⟨w.heap.size, 2, none⟩ = some (.bool f2) ∧ w'.cell? ⟨w.heap.size, 3, none⟩ = some (.string f3))
      (first
        | with_reducible exact HD.out _ HA2.out.bent
        | with_reducible exact HD.out _ HA2.out.drew.bent
        | with_reducible exact HD.out _ HA3.out.bent
        | with_reducible exact HD.out _ HA4.out.bent
        | with_reducible exact HD.out _ HA5.out.bent
        | with_reducible exact HD.out _ HA7.out.bent
        | with_reducible exact HD.out _ (HA7.out.alloc _).bent
        | with_reducible exact HD.out _ HA8.out)
      (first
        | (have hq7 := HA7.out
           clear hq7
           go_at_call 36
           refine (write_any g _ X k P [⟨L1.toArray⟩, ⟨L2.toArray⟩, ⟨L3.toArray⟩, ⟨L4.toArray⟩, ⟨L5.toArray⟩] 5 _ (HA7.out.alloc _).wri (strs5 _ _ _ _ _ _) rfl (by decide) HSZ.out HX.out).mono ?_
           rintro e w8 ⟨rfl, hv8, hb8⟩
           have HV8 := hide hv8
           have HA8 := hide ((HA7.out.alloc _).bent.trans hb8)
           clear hv8 hb8)
        | (have hq6 := HA6.out
           clear hq6
           go_at_call 38
           refine (HT2.out _).mono ?_
           rintro e w7 ⟨rfl, hb7⟩
           have HA7 := hide (HA5.out.step hb7 (Nat.le_refl _))
           clear hb7)
        | (have hq5 := HA5.out
           clear hq5
           go_at_call 116
           refine (HMK.out _).mono ?_
           rintro e w6 ⟨rfl, rfl⟩
           have HA6 : Hid True := trivial)
        | (have hq4 := HA4.out
           clear hq4
           go_at_call 37
           refine (HV2.out _).mono ?_
           rintro e w5 ⟨rfl, hb5⟩
           have HA5 := hide (HA4.out.step hb5 (Nat.le_refl _))
           clear hb5)
        | (have hq3 := HA3.out
           clear hq3
           go_at_call 38
           refine (HT1.out _).mono ?_
           rintro e w4 ⟨rfl, hb4⟩
           have HA4 := hide (HA3.out.step hb4 (Nat.le_refl _))
           clear hb4)
        | (go_at_call 37
           refine (HV1.out _).mono ?_
           rintro e w3 ⟨rfl, hb3⟩
           have HA3 := hide (HA2.out.step (below_of_drew' hb3) (Nat.le_refl _))
           clear hb3))
    all_goals
      obtain ⟨v7, hv7⟩ := HV8.out
      obtain ⟨c0, c1, c2⟩ := hv7.box.three
      have z1 := hv7.box.frozen 1
      have hgl7 := hv7.lt
      obtain ⟨d0, d1, d2, d3⟩ := HD.out _ HA8.out
      have HR := hide (hv7.set1 (bl f0))
      rw [str_of] at HR
      have HB7 := hide ((HBW.out.trans HA8.out.below).setCell (p := ⟨g, 1, none⟩) (Nat.le_refl g) (.string f0))
      clear hv7
      go_wp2_with fail
      go_end0
      exact ⟨rfl, ⟨_, _, HR.out⟩, HB7.out⟩
end Go.Proofs.YtdlkgpobjacgeaaGreatDoor

/-
  Contract of impl's (*blockWriter).finish.
-/
namespace Go.Proofs.YtdlkgpobjacgeaaGreatDoor
open Go.ChangeShapes Go.WideShapes Go.ChangeAt Go.RowKit

theorem varsL_next {P : List Nat} {j : Nat} (h : j < P.length) : varsL (P.take (j + 1)) = varsL (P.take j) ++ varL (wd P j) := by
  rw [List.take_add_one, List.getElem?_eq_getElem h, Option.toList, varsL_snoc]
  congr 2
  simp [wd, h]
theorem varL_varV {n : Nat} (h : n ≤ 562949953421311) : varV (n : Int) = varL n := by rw [varV, if_pos (by omega)]; rfl
set_option maxHeartbeats 4000000 in
set_option maxRecDepth 20000 in
theorem finish_any {w : World} {g : Nat} {X k : List UInt8} {P : List Nat} (hw : Wri w g X k P) (hX : X.length ≤ 60000) (hP : P.length ≤ 100) (hp : ∀ x ∈ P, x ≤ 60000) :
    Calls Tryz.prog 103 #[.pointer (some ⟨g, 0, none⟩)] w (RestPost g (X ++ (varL P.length ++ (varsL P ++ lowB X.length 2))) k P w) := by
  obtain ⟨v, u, hx⟩ := hw
  obtain ⟨a, c, rfl⟩ := hx.rest.form'
  have HSZ := hide (size_any ⟨v, _, hx⟩)
  have HP := hide hp
  obtain ⟨m, hm⟩ : ∃ m, m = X.length := ⟨_, rfl⟩
  have HM := hide hm
  have HF := hide (fun W => iFixed_yes m 2 W (by omega) (by omega) (by show m < 65536; omega))
  obtain ⟨F, hF⟩ : ∃ F, F = lowB X.length 2 := ⟨_, rfl⟩
  have lF : F.length = 2 := by rw [hF, length_lowB]
  have HFS : Hid (∀ s ∈ [(⟨F.toArray⟩ : ByteArray)], s.size ≤ 1000) := by
    intro s hs
    rw [List.mem_singleton] at hs
    rw [hs, size_of]
    omega
  rw [← hF]
  rw [← hm] at HSZ hX hF
  rw [← hF] at HF
  obtain ⟨n, hn⟩ : ∃ n, n = P.length := ⟨_, rfl⟩
  have HN := hide hn
  have HV1 := hide (fun W => iVar_any (n : Int) W)
  rw [varL_varV (by omega)] at HV1
  rw [← hn] at hx hP ⊢
  have l1 := varL_len7 n (by omega)
  obtain ⟨L1, hL1⟩ : ∃ L1, L1 = varL n := ⟨_, rfl⟩
  rw [← hL1] at HV1 l1 ⊢
  have HLS : Hid (∀ s ∈ [(⟨L1.toArray⟩ : ByteArray)], s.size ≤ 1000) := by
    intro s hs
    rw [List.mem_singleton] at hs
    rw [hs, size_of]
    omega
  have HX := hide (show X.length ≤ 1000000 by have := HM.out; omega)
  have hgl := hx.lt
  have HA1 := hide (show At1 g w X k P v (.slice a n c) w from ⟨hx, Bent.refl _ _⟩)
  have HD := hide (fun (w' : World) (Y : List UInt8) (z : Value) (h : At1 g w Y k P z (.slice a n c) w') => show w'.cell? ⟨g, 2, none⟩ = some (.slice a n c) from h.wri.box.cell 2 _ rfl)
  clear hx hp hm hn hF hL1
  go_enter Tryz.func103, Tryz.ntmps103
  go_wp2_with (first | (go_at_call 114; refine HSZ.out.mono ?_; rintro e w' ⟨rfl, rfl⟩))
  go_region_held3 (fun w' => w'.cell? ⟨g, 2, none⟩ = some (.slice a n c))
    (first
      | with_reducible exact HD.out _ _ _ HA1.out
      | with_reducible exact HD.out _ _ _ HA1.out.drew
      | with_reducible exact HD.out _ _ _ HA2.out
      | with_reducible exact HD.out _ _ _ (HA2.out.alloc _)
      | with_reducible exact HD.out _ _ _ HA3.out)
    (first
      | (have hq2 := HA2.out
         clear hq2
         go_at_call 36
         refine (write_any g _ X k P [⟨L1.toArray⟩] 1 _ (HA2.out.alloc _).wri (strs1 _ _) rfl (by decide) HLS.out HX.out).mono ?_
         rintro e w3 ⟨rfl, ⟨v3, hv3⟩, hb3⟩
         have HA3 := hide (show At1 g w (X ++ catL [⟨L1.toArray⟩]) k P v3 (.slice a n c) w3 from ⟨hv3, (HA2.out.alloc _).bent.trans hb3⟩)
         clear hv3 hb3)
      | (go_at_call 37
         refine (HV1.out _).mono ?_
         rintro e w2 ⟨rfl, hb2⟩
         have HA2 := hide (HA1.out.step (below_of_drew' hb2) (Nat.le_refl _))
         clear hb2))
  all_goals
    have c2 := HD.out _ _ _ HA3.out
    have hgl3 := HA3.out.wri.lt
    have HX3 := hide (show X ++ catL [(⟨L1.toArray⟩ : ByteArray)] = X ++ L1 ++ varsL (P.take 0) by simp [catL, bl_of, varsL])
    have HLen := hide (show (X ++ catL [(⟨L1.toArray⟩ : ByteArray)]).length ≤ 70000 + 7 * 0 by
      have := HM.out
      simp only [catL, List.flatMap_cons, List.flatMap_nil, bl_of, List.append_nil, List.length_append]
      omega)
    go_wp2_with fail
    clear c2 HA1
    go_loopw [25] (fun i wr => ∃ (j : Nat) (Y : List UInt8) (z : Value), i = .int .i64 j ∧ j ≤ n ∧ Hid (Y = X ++ L1 ++ varsL (P.take j)) ∧ Hid (Y.length ≤ 70000 + 7 * j) ∧ Hid (At1 g w Y k P z (.slice a n c) wr)) (fun i _ => n - (intOf i).toNat)
    case atStart => exact ⟨0, _, v3, rfl, by omega, HX3, HLen, HA3⟩
    case round =>
      obtain ⟨j, Y, z, rfl, hj, HY, HL, HA⟩ := hrel
      have hglr := HA.out.wri.lt
      by_cases hlt : j < n
      · have hjP : j < P.length := by have := HN.out; omega
        obtain ⟨r, cap, tl, he, hr1, hr2, hW⟩ := HA.out.wri.rest.words (by omega)
        have d0 := hW.cell j hjP
        injection he with e1 e2 e3
        subst e1
        clear e2 e3 hW
        have hx0 := HP.out (wd P j) (by
          have : wd P j = P[j] := by simp [wd, hjP]
          rw [this]
          exact List.getElem_mem _)
        have HYn := hide (show Y ++ varL (wd P j) = X ++ L1 ++ varsL (P.take (j + 1)) by rw [HY.out, varsL_next hjP, List.append_assoc])
        obtain ⟨x, hx⟩ : ∃ x, x = wd P j := ⟨_, rfl⟩
        rw [← hx] at d0 hx0 HYn
        have HVx := hide (fun W => iVar_any (x : Int) W)
        rw [varL_varV (by omega)] at HVx
        have lx := varL_len7 x (by omega)
        obtain ⟨Lx, hLx⟩ : ∃ Lx, Lx = varL x := ⟨_, rfl⟩
        rw [← hLx] at HVx lx HYn
        have HSx : Hid (∀ s ∈ [(⟨Lx.toArray⟩ : ByteArray)], s.size ≤ 1000) := by
          intro s hs
          rw [List.mem_singleton] at hs
          rw [hs, size_of]
          omega
        have HXx := hide (show Y.length ≤ 1000000 by have := HL.out; omega)
        have HLn := hide (show (Y ++ Lx).length ≤ 70000 + 7 * (j + 1) by have := HL.out; rw [List.length_append]; omega)
        have HCx := hide (show Y ++ catL [(⟨Lx.toArray⟩ : ByteArray)] = Y ++ Lx by simp [catL, bl_of])
        clear hx hLx hx0 lx hjP hr1 hr2
        go_wp2_with fail
        go_region_held3 (fun _ => True) (trivial)
          (first
            | (have hq4 := HA4.out
               clear hq4
               go_at_call 36
               refine (write_any g _ Y k P [⟨Lx.toArray⟩] 1 _ (HA4.out.alloc _).wri (strs1 _ _) rfl (by decide) HSx.out HXx.out).mono ?_
               rw [HCx.out]
               rintro e w5 ⟨rfl, ⟨v5, hv5⟩, hb5⟩
               have HA5 := hide (show At1 g w (Y ++ Lx) k P v5 (.slice (some ⟨r, 0, none⟩) n c) w5 from ⟨hv5, (HA4.out.alloc _).bent.trans hb5⟩)
               clear hv5 hb5)
            | (go_at_call 37
               refine (HVx.out _).mono ?_
               rintro e w4 ⟨rfl, hb4⟩
               have HA4 := hide (HA.out.step (below_of_drew' hb4) (Nat.le_refl _))
               clear hb4))
        all_goals go_wp2_with fail
        all_goals go_roundw
        all_goals first
          | (simp [intOf]; omega)
          | exact ⟨j + 1, Y ++ Lx, v5, by go_num, by omega, HYn, HLn, HA5⟩
      · have HYe := hide (show Y ++ catL [(⟨F.toArray⟩ : ByteArray)] = X ++ (L1 ++ (varsL P ++ F)) by
          rw [HY.out, List.take_of_length_le (by have := HN.out; omega)]
          simp [catL, bl_of])
        have HXx := hide (show Y.length ≤ 1000000 by have := HL.out; omega)
        go_wp2_with fail
        go_region_held3 (fun _ => True) (trivial)
          (first
            | (have hq4 := HA4.out
               clear hq4
               go_at_call 36
               refine (write_any g _ Y k P [⟨F.toArray⟩] 1 _ (HA4.out.alloc _).wri (strs1 _ _) rfl (by decide) HFS.out HXx.out).mono ?_
               rw [HYe.out]
               rintro e w5 ⟨rfl, ⟨v5, hv5⟩, hb5⟩
               have HA5 := hide (show At1 g w (X ++ (L1 ++ (varsL P ++ F))) k P v5 (.slice a n c) w5 from ⟨hv5, (HA4.out.alloc _).bent.trans hb5⟩)
               clear hv5 hb5)
            | (go_at_call 117
               refine (HF.out _).mono ?_
               rintro e w4 ⟨rfl, hb4⟩
               have HA4 := hide (HA.out.step (below_of_drew' hb4) (Nat.le_refl _))
               clear hb4))
        all_goals go_wp2_with fail
        all_goals go_end0
        all_goals exact ⟨rfl, ⟨_, _, HA5.out.wri⟩, HA5.out.bent.below⟩
end Go.Proofs.YtdlkgpobjacgeaaGreatDoor
