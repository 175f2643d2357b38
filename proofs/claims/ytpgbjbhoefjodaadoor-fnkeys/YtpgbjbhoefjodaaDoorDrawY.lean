/-
  Contract of spec.DrawKeyAdd: what the law needs of it.
-/
import Derived.Test.YtpgbjbhoefjodaaDoorDrawX
namespace Go.Proofs.YtpgbjbhoefjodaaDoor
open Go.ChangeShapes Go.WideShapes Go.ChangeAt Go.RowKit

def pick7 : List Int := [1, 2, 3, 5, 99, 0, 100]
set_option maxHeartbeats 1000000 in
theorem drawKeyAdd_any {B : Nat} (a : Option Addr) (cap : Nat) (bs : List Int) (w : World) (hB : B ≤ w.heap.size) (hc : CodeAt B w a bs) (hm : bs.length ≤ 1048576) :
    Calls Tryd.prog 14 #[.slice a bs.length cap] w (AddDrawn w) := by
  have H := hide (hc.keep (fun k hk => Below.heap_alloc w (.cells #[.string ⟨#[]⟩, .slice none 0 0, .int .i64 0] 31) k (by omega)))
  clear hc
  obtain ⟨W, hW⟩ : ∃ W, W = w.alloc (.cells #[.string ⟨#[]⟩, .slice none 0 0, .int .i64 0] 31) := ⟨_, rfl⟩
  have hs : W.heap.size = w.heap.size + 1 := by rw [hW, Go.Deep.nblk_alloc]
  have HR := hide (show BoxB 31 W w.heap.size (.string ⟨#[]⟩) (.slice none 0 0) (.int .i64 0) from hW ▸ BoxB.new _ w _ _ _)
  have HB := hide (show Below w.heap.size w W from hW ▸ (Below.refl _ _).alloc (Nat.le_refl _) _)
  go_enter Tryd.func14, Tryd.ntmps14
  go_wp2_with fail
  rw [← hW] at H ⊢
  clear hW
  refine (l1New_any a cap bs W (by omega) H.out hm).mono ?_
  rintro e w1 ⟨rfl, hc1, hb1⟩
  rw [hs] at hc1 hb1 ⊢
  have HC1 := hide hc1
  have HB1 := hide (HB.out.trans (hb1.mono (by omega)))
  have HR1 := hide (HR.out.below hb1 (by omega))
  clear hc1 hb1 HR HB
  generalize newC bs = c1 at HC1
  go_wp2_with fail
  refine (l4Some_any HC1.out).mono ?_
  rintro e w2 ⟨c2, m, a', n', cp, L, x, rfl, ho2, hl2, hc2, ht2⟩
  have HC2 := hide hc2
  have HB2 := hide (HB1.out.trans (ht2.below (by omega) HB1.out.size))
  have HR2 := hide (HR1.out.turned ht2 (by omega))
  have HO2 := hide (ho2.mono HB1.out.size)
  have HL := hide hl2
  have hne2 : w.heap.size ≠ w2.heap.size := by have := HR2.out.lt; omega
  have HQ3 := hide (fun k hk => (show k ≠ w.heap.size + 1 by have := (ho2.lt k hk).1; have := HC1.out.lt; omega))
  have hne3 : w2.heap.size ≠ w.heap.size + 1 := by have := HC2.out.lt; omega
  have HQ := hide (fun k hk => (show k ≠ w.heap.size by have := (ho2.lt k hk).1; have := HR1.out.lt; omega))
  clear hc2 ht2 ho2 hl2 HC1 HB1 HR1
  obtain ⟨W3, hW3⟩ : ∃ W3, W3 = w2.alloc (.cells #[.string m, .slice a' n' cp, .int .i64 x] 31) := ⟨_, rfl⟩
  have HC3 := hide (show Cursor B (w.heap.size + 1) a cap bs W3 c2 from hW3 ▸ HC2.out.keep ((Below.refl _ _).alloc HC2.out.lt _))
  have HB3 := hide (show Below w.heap.size w W3 from hW3 ▸ HB2.out.alloc HB2.out.size _)
  have HR3 := hide (show BoxB 31 W3 w.heap.size (.string ⟨#[]⟩) (.slice none 0 0) (.int .i64 0) from hW3 ▸ HR2.out.alloc _)
  have HD3 := hide (show BoxB 31 W3 w2.heap.size (.string m) (.slice a' n' cp) (.int .i64 x) from hW3 ▸ BoxB.new _ w2 _ _ _)
  have HO3 := hide (show OwnsS w.heap.size W3 (.slice a' n' cp) L from hW3 ▸ HO2.out.alloc _)
  have hlt3 := HC3.out.lt
  have hs3 : W3.heap.size = w2.heap.size + 1 := by rw [hW3, Go.Deep.nblk_alloc]
  go_wp2_with fail
  rw [← hW3, ← hs3]
  clear hW3 HC2 HB2 HR2 HO2
  refine (l1PickInt_any (c := c2) W3.heap.size 7 pick7 (by omega) (by omega) (by simp) (by omega) (fun j hj => ints_new 3 W3 pick7 j hj) (HC3.out.keep ((Below.refl _ _).alloc hlt3 _))).mono ?_
  rintro e w5 ⟨rfl, hc5, ht5⟩
  generalize pick7[(cBelow bs ((7 : Nat) : Int) c2).toNat]?.getD 0 = t5
  generalize aBelow bs ((7 : Nat) : Int) c2 = c5 at hc5
  have HC5 := hide hc5
  have HB5 := hide ((HB3.out.alloc HB3.out.size _).trans (ht5.below (by omega) (by rw [Go.Deep.nblk_alloc]; have := HB3.out.size; omega)))
  have HR5 := hide ((HR3.out.alloc _).turned ht5 (by omega))
  have HD5 := hide ((HD3.out.alloc _).turned ht5 hne3)
  have HO5 := hide ((HO3.out.alloc _).turned' ht5 HQ3.out)
  clear hc5 ht5 HC3 HB3 HR3 HD3 HO3
  go_upto_region 4 with (fail)
  go_region_held3 (fun w' => w'.cell? ⟨w2.heap.size, 0, none⟩ = some (.string m) ∧ w'.cell? ⟨w2.heap.size, 1, none⟩ = some (.slice a' n' cp) ∧ w'.cell? ⟨w2.heap.size, 2, none⟩ = some (.int .i64 x))
    (first
      | with_reducible exact HD5.out.cells
      | with_reducible exact HD5.out.drew.cells
      | with_reducible exact HD4.out.cells
      | with_reducible exact (((HD4.out.set_other hne2 _).set_other hne2 _).set_other hne2 _).cells)
    (first
      | (go_at_call 23
         refine (l3Key_any (c := c5) (by with_reducible exact HC5.out.drew)).mono ?_
         rintro e w4 ⟨rfl, hc4, ht4⟩
         generalize cKey bs c5 = k4
         have ht4' : Turned (w.heap.size + 1) w5 w4 := (Turned.refl _ w5).drew.trans ht4
         have HB4 := hide (HB5.out.trans (ht4'.below (by omega) HB5.out.size))
         have HR4 := hide (HR5.out.turned ht4' (by omega))
         have HD4 := hide (HD5.out.turned ht4' hne3)
         have HO4 := hide (HO5.out.turned' ht4' HQ3.out)
         obtain ⟨y0, y1, y2⟩ := HR4.out.cells
         obtain ⟨z0, z1, z2⟩ := HR4.out.frozen
         clear hc4 ht4 ht4'))
  go_wp2_with fail
  refine bodyPost_ret (res_dev_tmp2 rfl _ _ w.heap.size rfl (((HR4.out.set0 _).set1 _).set2 _)) rfl ?_
  exact ⟨m, a', n', cp, L, x, _, _, rfl, ((HO4.out.set_ne HQ.out _).set_ne HQ.out _).set_ne HQ.out _, HL.out, ((HB4.out.setCell (Nat.le_refl _) _).setCell (Nat.le_refl _) _).setCell (Nat.le_refl _) _⟩
end Go.Proofs.YtpgbjbhoefjodaaDoor
