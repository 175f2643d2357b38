/-
  Contracts of impl.DevFlush and impl.DevFall, spec.l5Land, spec.DevFlush and spec.DevFall.
-/
import Derived.Test.YtnbaffdonbnocaaDevS
import Derived.Test.YtnbaffdonbnocaaDevP
namespace Go.Proofs.Ytnbaffdonbnocaa
open Go.ChangeShapes Go.WideShapes Go.ChangeAt Go.RowKit

set_option maxHeartbeats 4000000 in
theorem iDevFlush_any (B B' : Nat) (v v' : Value) (S : List ByteArray) (L : List Slot) (x : Int) (w : World) (hT : OwnsT B w v S) (hsl : S.length ≤ 2097151) (hO : OwnsS B' w v' L) (hl : L.length ≤ 2097151) :
    Calls Try.prog 14 #[.agg #[v, v', .int .i64 x]] w (DevBPost w (fallV S L x (fun _ => true))) := by
  obtain ⟨a, cap, rfl, hrdT, _⟩ := hT.form
  obtain ⟨a', cap', rfl, hrdS, _⟩ := hO.form
  have HT := hide hT
  have HO := hide hO
  have HSL := hide hsl
  have HL := hide hl
  have HRT := hide hrdT
  have HRS := hide hrdS
  obtain ⟨R, hR⟩ : ∃ R, R = fallV S L x (fun _ => true) := ⟨_, rfl⟩
  have HRR := hide hR
  rw [← hR]
  have HC := hide (fun W h1 h2 => iDevOk_any a a' cap cap' S L x W h1 (by have := HSL.out; omega) h2 (by have := HL.out; omega))
  have HK := hide (fun W (h1 : OwnsT B W (.slice a S.length cap) S) (h2 : OwnsS B' W (.slice a' L.length cap') L) hd => settleAll_any B B' _ _ S L x W h1 h2 hd)
  obtain ⟨n, hn⟩ : ∃ n, S.length = n := ⟨_, rfl⟩
  obtain ⟨m, hm⟩ : ∃ m, L.length = m := ⟨_, rfl⟩
  have HM := hide hm
  rw [hn] at HT HC HK hsl ⊢
  rw [hm] at HO HC HK hl ⊢
  clear hT hO hrdT hrdS hR hn hm
  have hmf : ∀ (fn : Fn) (first cap : Array Value) (w : World), (Instr.makeFunc fn first cap).run Try.prog w = .ok (.func fn first cap) w := fun _ _ _ _ => rfl
  obtain ⟨W, hW, hWs, hWb, hX, hY⟩ := two_boxes w (.slice a n cap) (.slice a' m cap') (.int .i64 x)
  go_enter Try.func14, Try.ntmps14
  go_wp2_with fail
  rw [← hW]
  have HX := hide hX
  have HY := hide hY
  have HWb := hide hWb
  have HT1 := hide (HT.out.below hWb (Nat.le_refl _))
  have HO1 := hide (HO.out.below hWb (Nat.le_refl _))
  have HRT1 := hide ((HRT.out.below hWb (Nat.le_refl _)).mono hWb.size)
  have HRS1 := hide ((HRS.out.below hWb (Nat.le_refl _)).mono hWb.size)
  clear hW hX hY hWb hWs HT HO HRT HRS
  refine (HC.out _ HRT1.out HRS1.out).mono ?_
  rintro e w1 ⟨rfl, hb1⟩
  have HX1 := hide (HX.out.below hb1 HX.out.lt)
  have HY1 := hide (HY.out.below hb1 HY.out.lt)
  have HT2 := hide (HT1.out.below hb1 (Nat.le_refl _))
  have HO2 := hide (HO1.out.below hb1 (Nat.le_refl _))
  have HB1 := hide (HWb.out.trans (hb1.mono HWb.out.size))
  clear hb1 HC HX HY HT1 HO1 HRT1 HRS1 HWb
  obtain ⟨c0, c1, c2⟩ := HX1.out.cells
  obtain ⟨y0, y1, y2⟩ := HY1.out.cells
  obtain ⟨z0, z1, z2⟩ := HY1.out.frozen
  cases hd : devOkB S L x with
  | false =>
    have HV := hide (HRR.out.trans (fallV_bad hd))
    clear hd
    go_wp2_with fail
    refine bodyPost_ret (res_dev_tmp rfl _ _ (w.heap.size + 1) rfl (((HY1.out.set0 _).set1 _).set2 _)) rfl ?_
    rw [HV.out]
    exact ⟨_, _, rfl, OwnsT.nil _ _, OwnsS.nil _ _, ((HB1.out.setCell (by simp) _).setCell (by simp) _).setCell (by simp) _⟩
  | true =>
    have HV := hide (HRR.out.trans (fallV_ok hd))
    have HG := hide (yes_iff.1 hd)
    clear hd
    go_wp2_with fail
    refine (HK.out _ HT2.out HO2.out HG.out).mono ?_
    rintro e w2 ⟨v2, v3, rfl, ht2, ho2, hb2⟩
    obtain ⟨a2, cp2, rfl, _⟩ := ht2.form
    obtain ⟨a3, cp3, rfl, _⟩ := ho2.form
    have HY2 := hide (HY1.out.below hb2 HY1.out.lt)
    have HTc := hide ht2
    have HOc := hide ho2
    have HB2 := hide (HB1.out.trans (hb2.mono HB1.out.size))
    have hly1 := HY1.out.lt
    have hw1 := HB1.out.size
    clear hb2 ht2 ho2 c0 c1 c2 y0 y1 y2 z0 z1 z2
    obtain ⟨y0, y1, y2⟩ := HY2.out.cells
    obtain ⟨z0, z1, z2⟩ := HY2.out.frozen
    go_wp2_with fail
    refine bodyPost_ret (res_dev_tmp rfl _ _ (w.heap.size + 1) rfl (((HY2.out.set0 _).set1 _).set2 _)) rfl ?_
    rw [HV.out, HM.out]
    refine ⟨_, _, rfl, ?_, ?_, ((HB2.out.setCell (by simp) _).setCell (by simp) _).setCell (by simp) _⟩
    · exact (((HTc.out.set_other hly1 _).set_other hly1 _).set_other hly1 _).mono hw1
    · exact (((HOc.out.set_other hly1 _).set_other hly1 _).set_other hly1 _).mono hw1
end Go.Proofs.Ytnbaffdonbnocaa
