/-
  Contracts of spec.DrawKeyWipe and spec.DrawKeyAdd: what the law needs of them.
-/
import Derived.Test.YtpgbjbhoefjodaaDoorDrawE
import Derived.Test.YtpgbjbhoefjodaaDoorDrawW
namespace Go.Proofs.YtpgbjbhoefjodaaDoor
open Go.ChangeShapes Go.WideShapes Go.ChangeAt Go.RowKit

theorem res_dev_tmp2 {fn : Func} {p u u' : Tmp} (h : fn.results = #[.cell p 31, .tmp u, .tmp u']) (tmps : Array Value) (w : World) (g : Nat) (ht : tmps.getD p undef = .pointer (some ⟨g, 0, none⟩)) {v0 v1 v2 : Value} (hx : BoxB 31 w g v0 v1 v2) :
    (results fn tmps).run Tryd.prog w = .ok (.tuple #[.agg #[v0, v1, v2], tmps.getD u undef, tmps.getD u' undef]) w := by
  obtain ⟨c0, c1, c2⟩ := hx.cells
  rw [Array.getD_eq_getD_getElem?] at ht
  simp only [results, h]
  simp [ht, go_sem, c0, c1, c2]
theorem OwnsS.turned' {B : Nat} {w w' : World} {g : Nat} {v : Value} {L : List Slot} (h : OwnsS B w v L) (ht : Turned g w w') (hne : ∀ k, v.ownBlock = some k → k ≠ g) : OwnsS B w' v L := by
  obtain ⟨hl, ⟨rfl, h0⟩ | ⟨k, cap, cur, rfl, hg, hh, hr⟩⟩ := h
  · exact ⟨hl, .inl ⟨rfl, h0⟩⟩
  · exact ⟨hl, .inr ⟨k, cap, cur, rfl, hg, (ht.block k (Array.getElem?_eq_some_iff.1 hh).1 (fun e => hne k rfl (Option.some.inj e))).trans hh, hr⟩⟩
def WipeDrawn (w : World) (e : Ending) (w' : World) : Prop :=
  ∃ (m : ByteArray) (a' : Option Addr) (n' cp : Nat) (L : List Slot) (x t : Int), e = .returned (.tuple #[.agg #[.string m, .slice a' n' cp, .int .i64 x], .int .i64 t]) ∧ OwnsS w.heap.size w' (.slice a' n' cp) L ∧ L.length ≤ 5 ∧ Below w.heap.size w w'
def AddDrawn (w : World) (e : Ending) (w' : World) : Prop :=
  ∃ (m : ByteArray) (a' : Option Addr) (n' cp : Nat) (L : List Slot) (x t : Int) (k : List UInt8), e = .returned (.tuple #[.agg #[.string m, .slice a' n' cp, .int .i64 x], .int .i64 t, .string ⟨k.toArray⟩]) ∧ OwnsS w.heap.size w' (.slice a' n' cp) L ∧ L.length ≤ 5 ∧ Below w.heap.size w w'

set_option maxHeartbeats 4000000 in
theorem drawKeyWipe_any {B : Nat} (a : Option Addr) (cap : Nat) (bs : List Int) (w : World) (hB : B ≤ w.heap.size) (hc : CodeAt B w a bs) (hm : bs.length ≤ 1048576) :
    Calls Tryd.prog 11 #[.slice a bs.length cap] w (WipeDrawn w) := by
  have H := hide (hc.keep (fun k hk => Below.heap_alloc w (.cells #[.string ⟨#[]⟩, .slice none 0 0, .int .i64 0] 31) k (by omega)))
  clear hc
  obtain ⟨W, hW⟩ : ∃ W, W = w.alloc (.cells #[.string ⟨#[]⟩, .slice none 0 0, .int .i64 0] 31) := ⟨_, rfl⟩
  have hs : W.heap.size = w.heap.size + 1 := by rw [hW, Go.Deep.nblk_alloc]
  have HR := hide (show BoxB 31 W w.heap.size (.string ⟨#[]⟩) (.slice none 0 0) (.int .i64 0) from hW ▸ BoxB.new _ w _ _ _)
  have HB := hide (show Below w.heap.size w W from hW ▸ (Below.refl _ _).alloc (Nat.le_refl _) _)
  go_enter Tryd.func11, Tryd.ntmps11
  go_wp2_with fail
  rw [← hW] at H ⊢
  clear hW
  refine (l1New_any a cap bs W (by omega) H.out hm).mono ?_
  rintro e w1 ⟨rfl, hc1, hb1⟩
  rw [hs] at hc1 hb1 ⊢
  have HC1 := hide hc1
  have HB1 := hide (HB.out.trans (hb1.mono (by omega)))
  have HR1 := hide (HR.out.below hb1 (by omega))
  clear hc1 hb1 HR HB
  generalize newC bs = c1 at HC1
  go_wp2_with fail
  refine (l4Some_any HC1.out).mono ?_
  rintro e w2 ⟨c2, m, a', n', cp, L, x, rfl, ho2, hl2, hc2, ht2⟩
  have HC2 := hide hc2
  have HB2 := hide (HB1.out.trans (ht2.below (by omega) HB1.out.size))
  have HR2 := hide (HR1.out.turned ht2 (by omega))
  have HO2 := hide (ho2.mono HB1.out.size)
  have HL := hide hl2
  have hne2 : w.heap.size ≠ w2.heap.size := by have := HR2.out.lt; omega
  have HQ3 := hide (fun k hk => (show k ≠ w.heap.size + 1 by have := (ho2.lt k hk).1; have := HC1.out.lt; omega))
  have hne3 : w2.heap.size ≠ w.heap.size + 1 := by have := HC2.out.lt; omega
  have HQ := hide (fun k hk => (show k ≠ w.heap.size by have := (ho2.lt k hk).1; have := HR1.out.lt; omega))
  clear hc2 ht2 ho2 hl2 HC1 HB1 HR1
  obtain ⟨W3, hW3⟩ : ∃ W3, W3 = w2.alloc (.cells #[.string m, .slice a' n' cp, .int .i64 x] 31) := ⟨_, rfl⟩
  have HC3 := hide (show Cursor B (w.heap.size + 1) a cap bs W3 c2 from hW3 ▸ HC2.out.keep ((Below.refl _ _).alloc HC2.out.lt _))
  have HB3 := hide (show Below w.heap.size w W3 from hW3 ▸ HB2.out.alloc HB2.out.size _)
  have HR3 := hide (show BoxB 31 W3 w.heap.size (.string ⟨#[]⟩) (.slice none 0 0) (.int .i64 0) from hW3 ▸ HR2.out.alloc _)
  have HD3 := hide (show BoxB 31 W3 w2.heap.size (.string m) (.slice a' n' cp) (.int .i64 x) from hW3 ▸ BoxB.new _ w2 _ _ _)
  have HO3 := hide (show OwnsS w.heap.size W3 (.slice a' n' cp) L from hW3 ▸ HO2.out.alloc _)
  go_upto_region 3 with (fail)
  rw [← hW3]
  clear hW3 HC2 HB2 HR2 HO2
  go_region_held3 (fun w' => w'.cell? ⟨w2.heap.size, 0, none⟩ = some (.string m) ∧ w'.cell? ⟨w2.heap.size, 1, none⟩ = some (.slice a' n' cp) ∧ w'.cell? ⟨w2.heap.size, 2, none⟩ = some (.int .i64 x))
    (first
      | with_reducible exact HD3.out.cells
      | with_reducible exact HD3.out.drew.cells
      | with_reducible exact HD4.out.cells
      | with_reducible exact (((HD4.out.set_other hne2 _).set_other hne2 _).set_other hne2 _).cells)
    (first
      | (go_at_call 24
         refine (l1Below_any 6 (by omega) (c := c2) (by with_reducible exact HC3.out.drew)).mono ?_
         rintro e w4 ⟨rfl, hc4, ht4⟩
         generalize cBelow bs 6 c2 = t4
         have ht4' : Turned (w.heap.size + 1) W3 w4 := (Turned.refl _ W3).drew.trans ht4
         have HB4 := hide (HB3.out.trans (ht4'.below (by omega) HB3.out.size))
         have HR4 := hide (HR3.out.turned ht4' (by omega))
         have HD4 := hide (HD3.out.turned ht4' hne3)
         have HO4 := hide (HO3.out.turned' ht4' HQ3.out)
         obtain ⟨y0, y1, y2⟩ := HR4.out.cells
         obtain ⟨z0, z1, z2⟩ := HR4.out.frozen
         clear hc4 ht4 ht4'))
  go_wp2_with fail
  refine bodyPost_ret (res_dev_tmp rfl _ _ w.heap.size rfl (((HR4.out.set0 _).set1 _).set2 _)) rfl ?_
  exact ⟨m, a', n', cp, L, x, _, rfl, ((HO4.out.set_ne HQ.out _).set_ne HQ.out _).set_ne HQ.out _, HL.out, ((HB4.out.setCell (Nat.le_refl _) _).setCell (Nat.le_refl _) _).setCell (Nat.le_refl _) _⟩
end Go.Proofs.YtpgbjbhoefjodaaDoor
