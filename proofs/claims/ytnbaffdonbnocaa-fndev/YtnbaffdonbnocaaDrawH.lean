/-
  Contracts of spec.DrawDevFall and spec.DrawDevPut: what the law needs of them.
-/
import Derived.Test.YtnbaffdonbnocaaDrawG
import Derived.Test.YtnbaffdonbnocaaDrawW
namespace Go.Proofs.Ytnbaffdonbnocaa
open Go.ChangeShapes Go.WideShapes Go.ChangeAt Go.RowKit

theorem res_dev_tmp2 {fn : Func} {p u u' : Tmp} (h : fn.results = #[.cell p 27, .tmp u, .tmp u']) (tmps : Array Value) (w : World) (g : Nat) (ht : tmps.getD p undef = .pointer (some ⟨g, 0, none⟩)) {v0 v1 v2 : Value} (hx : BoxB 27 w g v0 v1 v2) :
    (results fn tmps).run Try.prog w = .ok (.tuple #[.agg #[v0, v1, v2], tmps.getD u undef, tmps.getD u' undef]) w := by
  obtain ⟨c0, c1, c2⟩ := hx.cells
  rw [Array.getD_eq_getD_getElem?] at ht
  simp only [results, h]
  simp [ht, go_sem, c0, c1, c2]
theorem OwnsS.turned' {B : Nat} {w w' : World} {g : Nat} {v : Value} {L : List Slot} (h : OwnsS B w v L) (ht : Turned g w w') (hne : ∀ k, v.ownBlock = some k → k ≠ g) : OwnsS B w' v L := by
  obtain ⟨hl, ⟨rfl, h0⟩ | ⟨k, cap, cur, rfl, hg, hh, hr⟩⟩ := h
  · exact ⟨hl, .inl ⟨rfl, h0⟩⟩
  · exact ⟨hl, .inr ⟨k, cap, cur, rfl, hg, (ht.block k (Array.getElem?_eq_some_iff.1 hh).1 (fun e => hne k rfl (Option.some.inj e))).trans hh, hr⟩⟩
theorem OwnsT.turned' {B : Nat} {w w' : World} {g : Nat} {v : Value} {S : List ByteArray} (h : OwnsT B w v S) (ht : Turned g w w') (hne : ∀ k, v.ownBlock = some k → k ≠ g) : OwnsT B w' v S := by
  obtain ⟨hl, ⟨rfl, h0⟩ | ⟨k, cap, cur, rfl, hg, hh, hr⟩⟩ := h
  · exact ⟨hl, .inl ⟨rfl, h0⟩⟩
  · exact ⟨hl, .inr ⟨k, cap, cur, rfl, hg, (ht.block k (Array.getElem?_eq_some_iff.1 hh).1 (fun e => hne k rfl (Option.some.inj e))).trans hh, hr⟩⟩
def FallDrawn (w : World) (e : Ending) (w' : World) : Prop :=
  ∃ (a1 : Option Addr) (n1 e1 : Nat) (S : List ByteArray) (a2 : Option Addr) (n2 e2 : Nat) (L : List Slot) (x t : Int), e = .returned (.tuple #[.agg #[.slice a1 n1 e1, .slice a2 n2 e2, .int .i64 x], .int .i64 t]) ∧ OwnsT w.heap.size w' (.slice a1 n1 e1) S ∧ OwnsS w.heap.size w' (.slice a2 n2 e2) L ∧ (S.length ≤ 16 ∧ L.length ≤ 22) ∧ t < 9223372036854775808 ∧ Below w.heap.size w w'
def PutDrawn (w : World) (e : Ending) (w' : World) : Prop :=
  ∃ (a1 : Option Addr) (n1 e1 : Nat) (S : List ByteArray) (a2 : Option Addr) (n2 e2 : Nat) (L : List Slot) (x t : Int) (k : ByteArray), e = .returned (.tuple #[.agg #[.slice a1 n1 e1, .slice a2 n2 e2, .int .i64 x], .int .i64 t, .string k]) ∧ OwnsT w.heap.size w' (.slice a1 n1 e1) S ∧ OwnsS w.heap.size w' (.slice a2 n2 e2) L ∧ (S.length ≤ 16 ∧ L.length ≤ 22) ∧ Below w.heap.size w w'

set_option maxHeartbeats 4000000 in
theorem drawDevFall_any {B : Nat} (a : Option Addr) (cap : Nat) (bs : List Int) (w : World) (hB : B ≤ w.heap.size) (hc : CodeAt B w a bs) (hm : bs.length ≤ 1048576) :
    Calls Try.prog 10 #[.slice a bs.length cap] w (FallDrawn w) := by
  have H := hide (hc.keep (fun k hk => Below.heap_alloc w (.cells #[.slice none 0 0, .slice none 0 0, .int .i64 0] 27) k (by omega)))
  clear hc
  obtain ⟨W, hW⟩ : ∃ W, W = w.alloc (.cells #[.slice none 0 0, .slice none 0 0, .int .i64 0] 27) := ⟨_, rfl⟩
  have hs : W.heap.size = w.heap.size + 1 := by rw [hW, Go.Deep.nblk_alloc]
  have HR := hide (show BoxB 27 W w.heap.size (.slice none 0 0) (.slice none 0 0) (.int .i64 0) from hW ▸ BoxB.new _ w _ _ _)
  have HB := hide (show Below w.heap.size w W from hW ▸ (Below.refl _ _).alloc (Nat.le_refl _) _)
  go_enter Try.func10, Try.ntmps10
  go_wp2_with fail
  rw [← hW] at H ⊢
  clear hW
  refine (l1New_any a cap bs W (by omega) H.out hm).mono ?_
  rintro e w1 ⟨rfl, hc1, hb1⟩
  rw [hs] at hc1 hb1 ⊢
  have HC1 := hide hc1
  have HB1 := hide (HB.out.trans (hb1.mono (by omega)))
  have HR1 := hide (HR.out.below hb1 (by omega))
  clear hc1 hb1 HR HB
  generalize newC bs = c1 at HC1
  go_wp2_with fail
  refine (l5Some_any HC1.out).mono ?_
  rintro e w2 ⟨c2, a1, n1, e1, S, a2, n2, e2, L, x, rfl, hT2, ho2, hl2, hl2', hc2, ht2⟩
  have HC2 := hide hc2
  have HB2 := hide (HB1.out.trans (ht2.below (by omega) HB1.out.size))
  have HR2 := hide (HR1.out.turned ht2 (by omega))
  have HO2 := hide (ho2.mono HB1.out.size)
  have HT2 := hide (hT2.mono HB1.out.size)
  have HL := hide (And.intro hl2 hl2')
  have hne2 : w.heap.size ≠ w2.heap.size := by have := HR2.out.lt; omega
  have hne3 : w2.heap.size ≠ w.heap.size + 1 := by have := HC2.out.lt; omega
  have hlc := HC1.out.lt
  have HQ3 := hide (fun k (hk : (Value.slice a2 n2 e2).ownBlock = some k) => (show k ≠ w.heap.size + 1 by have := (ho2.lt k hk).1; omega))
  have HP3 := hide (fun k (hk : (Value.slice a1 n1 e1).ownBlock = some k) => (show k ≠ w.heap.size + 1 by have := (hT2.lt k hk).1; omega))
  clear hc2 ht2 ho2 hT2 hl2 hl2' HC1 HB1 HR1
  obtain ⟨W3, hW3⟩ : ∃ W3, W3 = w2.alloc (.cells #[.slice a1 n1 e1, .slice a2 n2 e2, .int .i64 x] 27) := ⟨_, rfl⟩
  have HC3 := hide (show Cursor B (w.heap.size + 1) a cap bs W3 c2 from hW3 ▸ HC2.out.keep ((Below.refl _ _).alloc HC2.out.lt _))
  have HB3 := hide (show Below w.heap.size w W3 from hW3 ▸ HB2.out.alloc HB2.out.size _)
  have HR3 := hide (show BoxB 27 W3 w.heap.size (.slice none 0 0) (.slice none 0 0) (.int .i64 0) from hW3 ▸ HR2.out.alloc _)
  have HD3 := hide (show BoxB 27 W3 w2.heap.size (.slice a1 n1 e1) (.slice a2 n2 e2) (.int .i64 x) from hW3 ▸ BoxB.new _ w2 _ _ _)
  have HO3 := hide (show OwnsS w.heap.size W3 (.slice a2 n2 e2) L from hW3 ▸ HO2.out.alloc _)
  have HT3 := hide (show OwnsT w.heap.size W3 (.slice a1 n1 e1) S from hW3 ▸ HT2.out.alloc _)
  go_upto_region 3 with (fail)
  rw [← hW3]
  clear hW3 HC2 HB2 HR2 HO2 HT2
  go_region_held3 (fun w' => w'.cell? ⟨w2.heap.size, 0, none⟩ = some (.slice a1 n1 e1) ∧ w'.cell? ⟨w2.heap.size, 1, none⟩ = some (.slice a2 n2 e2) ∧ w'.cell? ⟨w2.heap.size, 2, none⟩ = some (.int .i64 x))
    (first
      | with_reducible exact HD3.out.cells
      | with_reducible exact HD3.out.drew.cells
      | with_reducible exact HD4.out.cells
      | with_reducible exact HD5.out.cells
      | with_reducible exact (((HD5.out.set_other hne2 _).set_other hne2 _).set_other hne2 _).cells)
    (first
      | (go_at_call 29
         refine (l1Below_any 9 (by omega) (c := c4) (by with_reducible exact HC4.out)).mono ?_
         rintro e w5 ⟨rfl, hc5, ht5⟩
         generalize aBelow bs 9 c4 = c5 at *
         generalize cBelow bs 9 c4 = t5 at *
         have HB5 := hide (HB4.out.trans (ht5.below (by omega) HB4.out.size))
         have HR5 := hide (HR4.out.turned ht5 (by omega))
         have HD5 := hide (HD4.out.turned ht5 hne3)
         have HO5 := hide (HO4.out.turned' ht5 HQ3.out)
         have HT5 := hide (HT4.out.turned' ht5 HP3.out)
         obtain ⟨y0, y1, y2⟩ := HR5.out.cells
         obtain ⟨z0, z1, z2⟩ := HR5.out.frozen
         clear hc5 ht5)
      | (go_at_call 29
         refine (l1Below_any 256 (by omega) (c := c2) (by with_reducible exact HC3.out.drew)).mono ?_
         rintro e w4 ⟨rfl, hc4, ht4⟩
         generalize aBelow bs 256 c2 = c4 at *
         generalize cBelow bs 256 c2 = t4 at *
         have ht4' : Turned (w.heap.size + 1) W3 w4 := (Turned.refl _ W3).drew.trans ht4
         have HC4 := hide hc4
         have HB4 := hide (HB3.out.trans (ht4'.below (by omega) HB3.out.size))
         have HR4 := hide (HR3.out.turned ht4' (by omega))
         have HD4 := hide (HD3.out.turned ht4' hne3)
         have HO4 := hide (HO3.out.turned' ht4' HQ3.out)
         have HT4 := hide (HT3.out.turned' ht4' HP3.out)
         clear hc4 ht4 ht4'))
  go_wp2_with fail
  refine bodyPost_ret (res_dev_tmp rfl _ _ w.heap.size rfl (((HR5.out.set0 _).set1 _).set2 _)) rfl ?_
  have nS := HO5.out.offBox HR5.out
  have nT := HT5.out.offBox HR5.out
  exact ⟨a1, n1, e1, S, a2, n2, e2, L, x, _, rfl, ((HT5.out.set_ne nT _).set_ne nT _).set_ne nT _, ((HO5.out.set_ne nS _).set_ne nS _).set_ne nS _, HL.out, by rw [IntKind.wrap_i64]; omega, ((HB5.out.setCell (Nat.le_refl _) _).setCell (Nat.le_refl _) _).setCell (Nat.le_refl _) _⟩

set_option maxHeartbeats 4000000 in
theorem drawDevPut_any {B : Nat} (a : Option Addr) (cap : Nat) (bs : List Int) (w : World) (hB : B ≤ w.heap.size) (hc : CodeAt B w a bs) (hm : bs.length ≤ 1048576) :
    Calls Try.prog 15 #[.slice a bs.length cap] w (PutDrawn w) := by
  have H := hide (hc.keep (fun k hk => Below.heap_alloc w (.cells #[.slice none 0 0, .slice none 0 0, .int .i64 0] 27) k (by omega)))
  clear hc
  obtain ⟨W, hW⟩ : ∃ W, W = w.alloc (.cells #[.slice none 0 0, .slice none 0 0, .int .i64 0] 27) := ⟨_, rfl⟩
  have hs : W.heap.size = w.heap.size + 1 := by rw [hW, Go.Deep.nblk_alloc]
  have HR := hide (show BoxB 27 W w.heap.size (.slice none 0 0) (.slice none 0 0) (.int .i64 0) from hW ▸ BoxB.new _ w _ _ _)
  have HB := hide (show Below w.heap.size w W from hW ▸ (Below.refl _ _).alloc (Nat.le_refl _) _)
  go_enter Try.func15, Try.ntmps15
  go_wp2_with fail
  rw [← hW] at H ⊢
  clear hW
  refine (l1New_any a cap bs W (by omega) H.out hm).mono ?_
  rintro e w1 ⟨rfl, hc1, hb1⟩
  rw [hs] at hc1 hb1 ⊢
  have HC1 := hide hc1
  have HB1 := hide (HB.out.trans (hb1.mono (by omega)))
  have HR1 := hide (HR.out.below hb1 (by omega))
  clear hc1 hb1 HR HB
  generalize newC bs = c1 at HC1
  go_wp2_with fail
  refine (l5Some_any HC1.out).mono ?_
  rintro e w2 ⟨c2, a1, n1, e1, S, a2, n2, e2, L, x, rfl, hT2, ho2, hl2, hl2', hc2, ht2⟩
  have HC2 := hide hc2
  have HB2 := hide (HB1.out.trans (ht2.below (by omega) HB1.out.size))
  have HR2 := hide (HR1.out.turned ht2 (by omega))
  have HO2 := hide (ho2.mono HB1.out.size)
  have HT2 := hide (hT2.mono HB1.out.size)
  have HL := hide (And.intro hl2 hl2')
  have hne2 : w.heap.size ≠ w2.heap.size := by have := HR2.out.lt; omega
  have hne3 : w2.heap.size ≠ w.heap.size + 1 := by have := HC2.out.lt; omega
  have hlc := HC1.out.lt
  have HQ3 := hide (fun k (hk : (Value.slice a2 n2 e2).ownBlock = some k) => (show k ≠ w.heap.size + 1 by have := (ho2.lt k hk).1; omega))
  have HP3 := hide (fun k (hk : (Value.slice a1 n1 e1).ownBlock = some k) => (show k ≠ w.heap.size + 1 by have := (hT2.lt k hk).1; omega))
  clear hc2 ht2 ho2 hT2 hl2 hl2' HC1 HB1 HR1
  obtain ⟨W3, hW3⟩ : ∃ W3, W3 = w2.alloc (.cells #[.slice a1 n1 e1, .slice a2 n2 e2, .int .i64 x] 27) := ⟨_, rfl⟩
  have HC3 := hide (show Cursor B (w.heap.size + 1) a cap bs W3 c2 from hW3 ▸ HC2.out.keep ((Below.refl _ _).alloc HC2.out.lt _))
  have HB3 := hide (show Below w.heap.size w W3 from hW3 ▸ HB2.out.alloc HB2.out.size _)
  have HR3 := hide (show BoxB 27 W3 w.heap.size (.slice none 0 0) (.slice none 0 0) (.int .i64 0) from hW3 ▸ HR2.out.alloc _)
  have HD3 := hide (show BoxB 27 W3 w2.heap.size (.slice a1 n1 e1) (.slice a2 n2 e2) (.int .i64 x) from hW3 ▸ BoxB.new _ w2 _ _ _)
  have HO3 := hide (show OwnsS w.heap.size W3 (.slice a2 n2 e2) L from hW3 ▸ HO2.out.alloc _)
  have HT3 := hide (show OwnsT w.heap.size W3 (.slice a1 n1 e1) S from hW3 ▸ HT2.out.alloc _)
  have hb4 := cBelow_bd bs 8 c2 (by omega)
  go_wp2_with fail
  rw [← hW3]
  clear hW3 HC2 HB2 HR2 HO2 HT2
  refine (l1Below_any 8 (by omega) HC3.out).mono ?_
  rintro e w5 ⟨rfl, hc5, ht5⟩
  generalize aBelow bs 8 c2 = c5 at *
  generalize cBelow bs 8 c2 = t5 at *
  have HC5 := hide hc5
  have HB5 := hide (HB3.out.trans (ht5.below (by omega) HB3.out.size))
  have HR5 := hide (HR3.out.turned ht5 (by omega))
  have HD5 := hide (HD3.out.turned ht5 hne3)
  have HO5 := hide (HO3.out.turned' ht5 HQ3.out)
  have HT5 := hide (HT3.out.turned' ht5 HP3.out)
  clear hc5 ht5 HC3 HB3 HR3 HD3 HO3 HT3
  go_upto_region 4 with (fail)
  go_region_held3 (fun w' => w'.cell? ⟨w2.heap.size, 0, none⟩ = some (.slice a1 n1 e1) ∧ w'.cell? ⟨w2.heap.size, 1, none⟩ = some (.slice a2 n2 e2) ∧ w'.cell? ⟨w2.heap.size, 2, none⟩ = some (.int .i64 x))
    (first
      | with_reducible exact HD5.out.cells
      | with_reducible exact HD5.out.drew.cells
      | with_reducible exact HD4.out.cells
      | with_reducible exact (((HD4.out.set_other hne2 _).set_other hne2 _).set_other hne2 _).cells)
    (first
      | (go_at_call 36
         refine (l1Text_any 6 (by omega) (by omega) (c := c5) (by with_reducible exact HC5.out.drew)).mono ?_
         rintro e w4 ⟨rfl, hc4, ht4⟩
         generalize cText bs 6 c5 = k4
         have ht4' : Turned (w.heap.size + 1) w5 w4 := (Turned.refl _ w5).drew.trans ht4
         have HB4 := hide (HB5.out.trans (ht4'.below (by omega) HB5.out.size))
         have HR4 := hide (HR5.out.turned ht4' (by omega))
         have HD4 := hide (HD5.out.turned ht4' hne3)
         have HO4 := hide (HO5.out.turned' ht4' HQ3.out)
         have HT4 := hide (HT5.out.turned' ht4' HP3.out)
         obtain ⟨y0, y1, y2⟩ := HR4.out.cells
         obtain ⟨z0, z1, z2⟩ := HR4.out.frozen
         clear hc4 ht4 ht4'))
  go_wp2_with fail
  refine bodyPost_ret (res_dev_tmp2 rfl _ _ w.heap.size rfl (((HR4.out.set0 _).set1 _).set2 _)) rfl ?_
  have nS := HO4.out.offBox HR4.out
  have nT := HT4.out.offBox HR4.out
  exact ⟨a1, n1, e1, S, a2, n2, e2, L, x, _, _, rfl, ((HT4.out.set_ne nT _).set_ne nT _).set_ne nT _, ((HO4.out.set_ne nS _).set_ne nS _).set_ne nS _, HL.out, ((HB4.out.setCell (Nat.le_refl _) _).setCell (Nat.le_refl _) _).setCell (Nat.le_refl _) _⟩
end Go.Proofs.Ytnbaffdonbnocaa
