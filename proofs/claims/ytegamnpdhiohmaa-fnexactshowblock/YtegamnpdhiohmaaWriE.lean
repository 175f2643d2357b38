/-
  Contract of impl's (*blockWriter).finish.
-/
import Derived.Test.YtegamnpdhiohmaaWriD
namespace Go.Proofs.Ytegamnpdhiohmaa
open Go.ChangeShapes Go.WideShapes Go.ChangeAt Go.RowKit

theorem varsL_next {P : List Nat} {j : Nat} (h : j < P.length) : varsL (P.take (j + 1)) = varsL (P.take j) ++ varL (wd P j) := by
  rw [List.take_add_one, List.getElem?_eq_getElem h, Option.toList, varsL_snoc]
  congr 2
  simp [wd, h]
theorem varL_varV {n : Nat} (h : n ≤ 562949953421311) : varV (n : Int) = varL n := by rw [varV, if_pos (by omega)]; rfl
set_option maxHeartbeats 4000000 in
set_option maxRecDepth 20000 in
theorem finish_any {w : World} {g : Nat} {X k : List UInt8} {P : List Nat} (hw : Wri w g X k P) (hX : X.length ≤ 60000) (hP : P.length ≤ 100) (hp : ∀ x ∈ P, x ≤ 60000) :
    Calls Try.prog 24 #[.pointer (some ⟨g, 0, none⟩)] w (RestPost g (X ++ (varL P.length ++ (varsL P ++ lowB X.length 2))) k P w) := by
  obtain ⟨v, u, hx⟩ := hw
  obtain ⟨a, c, rfl⟩ := hx.rest.form'
  have HSZ := hide (size_any ⟨v, _, hx⟩)
  have HP := hide hp
  obtain ⟨m, hm⟩ : ∃ m, m = X.length := ⟨_, rfl⟩
  have HM := hide hm
  have HF := hide (fun W => iFixed_yes m 2 W (by omega) (by omega) (by show m < 65536; omega))
  obtain ⟨F, hF⟩ : ∃ F, F = lowB X.length 2 := ⟨_, rfl⟩
  have lF : F.length = 2 := by rw [hF, length_lowB]
  have HFS : Hid (∀ s ∈ [(⟨F.toArray⟩ : ByteArray)], s.size ≤ 1000) := by
    intro s hs
    rw [List.mem_singleton] at hs
    rw [hs, size_of]
    omega
  rw [← hF]
  rw [← hm] at HSZ hX hF
  rw [← hF] at HF
  obtain ⟨n, hn⟩ : ∃ n, n = P.length := ⟨_, rfl⟩
  have HN := hide hn
  have HV1 := hide (fun W => iVar_any (n : Int) W)
  rw [varL_varV (by omega)] at HV1
  rw [← hn] at hx hP ⊢
  have l1 := varL_len7 n (by omega)
  obtain ⟨L1, hL1⟩ : ∃ L1, L1 = varL n := ⟨_, rfl⟩
  rw [← hL1] at HV1 l1 ⊢
  have HLS : Hid (∀ s ∈ [(⟨L1.toArray⟩ : ByteArray)], s.size ≤ 1000) := by
    intro s hs
    rw [List.mem_singleton] at hs
    rw [hs, size_of]
    omega
  have HX := hide (show X.length ≤ 1000000 by have := HM.out; omega)
  have hgl := hx.lt
  have HA1 := hide (show At1 g w X k P v (.slice a n c) w from ⟨hx, Bent.refl _ _⟩)
  have HD := hide (fun (w' : World) (Y : List UInt8) (z : Value) (h : At1 g w Y k P z (.slice a n c) w') => show w'.cell? ⟨g, 2, none⟩ = some (.slice a n c) from h.wri.box.cell 2 _ rfl)
  clear hx hp hm hn hF hL1
  go_enter Try.func24, Try.ntmps24
  go_wp2_with (first | (go_at_call 50; refine HSZ.out.mono ?_; rintro e w' ⟨rfl, rfl⟩))
  go_region_held3 (fun w' => w'.cell? ⟨g, 2, none⟩ = some (.slice a n c))
    (first
      | with_reducible exact HD.out _ _ _ HA1.out
      | with_reducible exact HD.out _ _ _ HA1.out.drew
      | with_reducible exact HD.out _ _ _ HA2.out
      | with_reducible exact HD.out _ _ _ (HA2.out.alloc _)
      | with_reducible exact HD.out _ _ _ HA3.out)
    (first
      | (have hq2 := HA2.out
         clear hq2
         go_at_call 52
         refine (write_any g _ X k P [⟨L1.toArray⟩] 1 _ (HA2.out.alloc _).wri (strs1 _ _) rfl (by decide) HLS.out HX.out).mono ?_
         rintro e w3 ⟨rfl, ⟨v3, hv3⟩, hb3⟩
         have HA3 := hide (show At1 g w (X ++ catL [⟨L1.toArray⟩]) k P v3 (.slice a n c) w3 from ⟨hv3, (HA2.out.alloc _).bent.trans hb3⟩)
         clear hv3 hb3)
      | (go_at_call 53
         refine (HV1.out _).mono ?_
         rintro e w2 ⟨rfl, hb2⟩
         have HA2 := hide (HA1.out.step (below_of_drew' hb2) (Nat.le_refl _))
         clear hb2))
  all_goals
    have c2 := HD.out _ _ _ HA3.out
    have hgl3 := HA3.out.wri.lt
    have HX3 := hide (show X ++ catL [(⟨L1.toArray⟩ : ByteArray)] = X ++ L1 ++ varsL (P.take 0) by simp [catL, bl_of, varsL])
    have HLen := hide (show (X ++ catL [(⟨L1.toArray⟩ : ByteArray)]).length ≤ 70000 + 7 * 0 by
      have := HM.out
      simp only [catL, List.flatMap_cons, List.flatMap_nil, bl_of, List.append_nil, List.length_append]
      omega)
    go_wp2_with fail
    clear c2 HA1
    go_loopw [25] (fun i wr => ∃ (j : Nat) (Y : List UInt8) (z : Value), i = .int .i64 j ∧ j ≤ n ∧ Hid (Y = X ++ L1 ++ varsL (P.take j)) ∧ Hid (Y.length ≤ 70000 + 7 * j) ∧ Hid (At1 g w Y k P z (.slice a n c) wr)) (fun i _ => n - (intOf i).toNat)
    case atStart => exact ⟨0, _, v3, rfl, by omega, HX3, HLen, HA3⟩
    case round =>
      obtain ⟨j, Y, z, rfl, hj, HY, HL, HA⟩ := hrel
      have hglr := HA.out.wri.lt
      by_cases hlt : j < n
      · have hjP : j < P.length := by have := HN.out; omega
        obtain ⟨r, cap, tl, he, hr1, hr2, hW⟩ := HA.out.wri.rest.words (by omega)
        have d0 := hW.cell j hjP
        injection he with e1 e2 e3
        subst e1
        clear e2 e3 hW
        have hx0 := HP.out (wd P j) (by
          have : wd P j = P[j] := by simp [wd, hjP]
          rw [this]
          exact List.getElem_mem _)
        have HYn := hide (show Y ++ varL (wd P j) = X ++ L1 ++ varsL (P.take (j + 1)) by rw [HY.out, varsL_next hjP, List.append_assoc])
        obtain ⟨x, hx⟩ : ∃ x, x = wd P j := ⟨_, rfl⟩
        rw [← hx] at d0 hx0 HYn
        have HVx := hide (fun W => iVar_any (x : Int) W)
        rw [varL_varV (by omega)] at HVx
        have lx := varL_len7 x (by omega)
        obtain ⟨Lx, hLx⟩ : ∃ Lx, Lx = varL x := ⟨_, rfl⟩
        rw [← hLx] at HVx lx HYn
        have HSx : Hid (∀ s ∈ [(⟨Lx.toArray⟩ : ByteArray)], s.size ≤ 1000) := by
          intro s hs
          rw [List.mem_singleton] at hs
          rw [hs, size_of]
          omega
        have HXx := hide (show Y.length ≤ 1000000 by have := HL.out; omega)
        have HLn := hide (show (Y ++ Lx).length ≤ 70000 + 7 * (j + 1) by have := HL.out; rw [List.length_append]; omega)
        have HCx := hide (show Y ++ catL [(⟨Lx.toArray⟩ : ByteArray)] = Y ++ Lx by simp [catL, bl_of])
        clear hx hLx hx0 lx hjP hr1 hr2
        go_wp2_with fail
        go_region_held3 (fun _ => True) (trivial)
          (first
            | (have hq4 := HA4.out
               clear hq4
               go_at_call 52
               refine (write_any g _ Y k P [⟨Lx.toArray⟩] 1 _ (HA4.out.alloc _).wri (strs1 _ _) rfl (by decide) HSx.out HXx.out).mono ?_
               rw [HCx.out]
               rintro e w5 ⟨rfl, ⟨v5, hv5⟩, hb5⟩
               have HA5 := hide (show At1 g w (Y ++ Lx) k P v5 (.slice (some ⟨r, 0, none⟩) n c) w5 from ⟨hv5, (HA4.out.alloc _).bent.trans hb5⟩)
               clear hv5 hb5)
            | (go_at_call 53
               refine (HVx.out _).mono ?_
               rintro e w4 ⟨rfl, hb4⟩
               have HA4 := hide (HA.out.step (below_of_drew' hb4) (Nat.le_refl _))
               clear hb4))
        all_goals go_wp2_with fail
        all_goals go_roundw
        all_goals first
          | (simp [intOf]; omega)
          | exact ⟨j + 1, Y ++ Lx, v5, by go_num, by omega, HYn, HLn, HA5⟩
      · have HYe := hide (show Y ++ catL [(⟨F.toArray⟩ : ByteArray)] = X ++ (L1 ++ (varsL P ++ F)) by
          rw [HY.out, List.take_of_length_le (by have := HN.out; omega)]
          simp [catL, bl_of])
        have HXx := hide (show Y.length ≤ 1000000 by have := HL.out; omega)
        go_wp2_with fail
        go_region_held3 (fun _ => True) (trivial)
          (first
            | (have hq4 := HA4.out
               clear hq4
               go_at_call 52
               refine (write_any g _ Y k P [⟨F.toArray⟩] 1 _ (HA4.out.alloc _).wri (strs1 _ _) rfl (by decide) HFS.out HXx.out).mono ?_
               rw [HYe.out]
               rintro e w5 ⟨rfl, ⟨v5, hv5⟩, hb5⟩
               have HA5 := hide (show At1 g w (X ++ (L1 ++ (varsL P ++ F))) k P v5 (.slice a n c) w5 from ⟨hv5, (HA4.out.alloc _).bent.trans hb5⟩)
               clear hv5 hb5)
            | (go_at_call 56
               refine (HF.out _).mono ?_
               rintro e w4 ⟨rfl, hb4⟩
               have HA4 := hide (HA.out.step (below_of_drew' hb4) (Nat.le_refl _))
               clear hb4))
        all_goals go_wp2_with fail
        all_goals go_end0
        all_goals exact ⟨rfl, ⟨_, _, HA5.out.wri⟩, HA5.out.bent.below⟩
end Go.Proofs.Ytegamnpdhiohmaa
