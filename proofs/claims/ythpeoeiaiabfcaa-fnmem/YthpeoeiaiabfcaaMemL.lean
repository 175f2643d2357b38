/-
  Contracts of spec.DrawMemPut and DrawMemRange: what the law needs of them.
-/
import Derived.Test.YthpeoeiaiabfcaaMemK
import Derived.Test.YthpeoeiaiabfcaaDrawW
import Derived.Test.YthpeoeiaiabfcaaFourR
import Derived.Deep.RegionHeld3
import Derived.Deep.DeepCutAuto
namespace Go.Proofs.Ythpeoeiaiabfcaa
open Go.ChangeShapes Go.WideShapes Go.ChangeAt Go.RowKit

/-- a result that is a value, and an entry in a block of its own -/
theorem res_ent2 {fn : Func} {p u : Tmp} (h : fn.results = #[.tmp u, .cell p 26]) (tmps : Array Value) (w : World) (g : Nat) (ht : tmps.getD p undef = .pointer (some ⟨g, 0, none⟩)) {v0 v1 v2 v3 : Value} (hx : BoxV 26 w g #[v0, v1, v2, v3]) :
    (results fn tmps).run Try.prog w = .ok (.tuple #[tmps.getD u undef, .agg #[v0, v1, v2, v3]]) w := by
  obtain ⟨c0, c1, c2, c3⟩ := hx.four'
  rw [Array.getD_eq_getD_getElem?] at ht
  simp only [results, h]
  simp [ht, go_sem, c0, c1, c2, c3]
theorem BoxV.turned {T : TypeId} {w w' : World} {g k : Nat} {vs : Array Value} (h : BoxV T w k vs) (ht : Turned g w w') (hne : k ≠ g) : BoxV T w' k vs := (ht.block k h.lt (fun e => hne (Option.some.inj e))).trans h
def PutDrawn (w : World) (e : Ending) (w' : World) : Prop :=
  ∃ (a1 : Option Addr) (n1 c1 : Nat) (L : List En) (f0 : ByteArray) (f1 : Int) (f2 : Bool) (f3 : ByteArray), e = .returned (.tuple #[.slice a1 n1 c1, .agg #[.string f0, .int .i64 f1, .bool f2, .string f3]]) ∧ L.length = n1 ∧ n1 ≤ 61 ∧ elEnt.Owns w.heap.size w' (.slice a1 n1 c1) L ∧ Below w.heap.size w w'
def RangeDrawn (w : World) (e : Ending) (w' : World) : Prop :=
  ∃ (a1 : Option Addr) (n1 c1 : Nat) (L : List En) (f t : ByteArray) (q : Int), e = .returned (.tuple #[.slice a1 n1 c1, .string f, .string t, .int .i64 q]) ∧ L.length = n1 ∧ n1 ≤ 61 ∧ elEnt.Owns w.heap.size w' (.slice a1 n1 c1) L ∧ Below w.heap.size w w'

set_option maxHeartbeats 4000000 in
set_option maxRecDepth 20000 in
theorem drawMemPut_any {B : Nat} (a : Option Addr) (cap : Nat) (bs : List Int) (w : World) (hB : B ≤ w.heap.size) (hc : CodeAt B w a bs) (hm : bs.length ≤ 1048576) :
    Calls Try.prog 10 #[.slice a bs.length cap] w (PutDrawn w) := by
  have H := hide (hc.keep (fun k hk => Below.heap_alloc w (.cells #[.string ⟨#[]⟩, .int .i64 0, .bool false, .string ⟨#[]⟩] 26) k (by omega)))
  clear hc
  obtain ⟨W, hW⟩ : ∃ W, W = w.alloc (.cells #[.string ⟨#[]⟩, .int .i64 0, .bool false, .string ⟨#[]⟩] 26) := ⟨_, rfl⟩
  have hs : W.heap.size = w.heap.size + 1 := by rw [hW, Go.Deep.nblk_alloc]
  have HR := hide (show BoxV 26 W w.heap.size #[.string ⟨#[]⟩, .int .i64 0, .bool false, .string ⟨#[]⟩] from hW ▸ BoxV.new _ w _)
  have HB := hide (show Below w.heap.size w W from hW ▸ (Below.refl _ _).alloc (Nat.le_refl _) _)
  go_enter Try.func10, Try.ntmps10
  go_wp2_with fail
  rw [← hW] at H ⊢
  clear hW
  refine (l1New_any a cap bs W (by omega) H.out hm).mono ?_
  rintro e w1 ⟨rfl, hc1, hb1⟩
  rw [hs] at hc1 hb1 ⊢
  have HC1 := hide (show CurS B (w.heap.size + 1) a cap bs w1 from ⟨_, hc1⟩)
  have HB1 := hide (HB.out.trans (hb1.mono (by omega)))
  have HR1 := hide (HR.out.below hb1 (by omega))
  have hz1 := HC1.out.lt
  clear hc1 hb1 HR HB H
  go_wp2_with fail
  refine (l9Any_some 14 (by omega) (by omega) HC1.out).mono ?_
  rintro e w2 ⟨v2, L, rfl, ho2, hl2, hc2, ht2⟩
  obtain ⟨a1, c1, rfl, _⟩ := ho2.form
  obtain ⟨n1, hn1⟩ : ∃ n1, L.length = n1 := ⟨_, rfl⟩
  have HN := hide hn1
  rw [hn1] at ho2 hl2 ⊢
  have HL := hide hl2
  have HO2 := hide (ho2.mono (show w.heap.size + 1 + 1 ≤ w1.heap.size by omega))
  have HB2 := hide (HB1.out.trans (ht2.below (by omega) HB1.out.size))
  have HR2 := hide (HR1.out.turned ht2 (by omega))
  have HC2 := hide hc2
  clear hc2 ht2 ho2 hl2 hn1 HB1 HR1 HC1
  go_wp2_with fail
  refine (l7Key_some HC2.out).mono ?_
  rintro e w3 ⟨ky, rfl, hc3, ht3⟩
  have HO3 := hide (HO2.out.turned ht3 (by omega))
  have HB3 := hide (HB2.out.trans (ht3.below (by omega) HB2.out.size))
  have HR3 := hide (HR2.out.turned ht3 (by omega))
  have HC3 := hide hc3
  clear hc3 ht3 HO2 HB2 HR2 HC2
  go_wp2_with fail
  refine (below_some 20 (by omega) (by omega) HC3.out).mono ?_
  rintro e w4 ⟨x4, hx4, rfl, hc4, ht4⟩
  have HO4 := hide (HO3.out.turned ht4 (by omega))
  have HB4 := hide (HB3.out.trans (ht4.below (by omega) HB3.out.size))
  have HR4 := hide (HR3.out.turned ht4 (by omega))
  have HC4 := hide hc4
  clear hc4 ht4 HO3 HB3 HR3 HC3
  go_wp2_with fail
  refine (text_some 3 (by omega) HC4.out).mono ?_
  rintro e w5 ⟨tx, _, rfl, hc5, ht5⟩
  have HO5 := hide (HO4.out.turned ht5 (by omega))
  have HB5 := hide (HB4.out.trans (ht5.below (by omega) HB4.out.size))
  have HR5 := hide (HR4.out.turned ht5 (by omega))
  have hs5 := HB5.out.size
  have hr5 := HR5.out.lt
  have hc5lt := hc5.lt
  have hown : ∀ i, (Value.slice a1 n1 c1).ownBlock = some i → i < w5.heap.size := fun i hi => (HO5.out.lt i hi).2
  have hb5 := (Below.refl w5.heap.size w5).alloc (Nat.le_refl _) (.cells #[.string ky, .int .i64 (x4 : Int), .bool false, .string ⟨tx.toArray⟩] 26)
  have HXa := hide (BoxV.new 26 w5 #[.string ky, .int .i64 (x4 : Int), .bool false, .string ⟨tx.toArray⟩])
  have HOa := hide (HO5.out.alloc (.cells #[.string ky, .int .i64 (x4 : Int), .bool false, .string ⟨tx.toArray⟩] 26))
  have HBa := hide (HB5.out.alloc hs5 (.cells #[.string ky, .int .i64 (x4 : Int), .bool false, .string ⟨tx.toArray⟩] 26))
  have HRa := hide (HR5.out.alloc (.cells #[.string ky, .int .i64 (x4 : Int), .bool false, .string ⟨tx.toArray⟩] 26))
  have HCa := hide (hc5.keep (hb5.mono (by omega)))
  clear hc5 ht5 HO4 HB4 HR4 HC4 hb5
  go_wp2_with fail
  refine (once_some 4 (by omega) HCa.out).mono ?_
  rintro e w6 ⟨b, rfl, hc6, ht6⟩
  have HX6 := hide (HXa.out.turned ht6 (by omega))
  have HO6 := hide (HOa.out.turned ht6 (by omega))
  have HB6 := hide (HBa.out.trans (ht6.below (by omega) HBa.out.size))
  have HR6 := hide (HRa.out.turned ht6 (by omega))
  have hx6 := HX6.out.lt
  have hr6 := HR6.out.lt
  clear hc6 ht6 HXa HOa HBa HRa HCa
  obtain ⟨c0, c1', c2, c3⟩ := HX6.out.four'
  obtain ⟨z0, z1, z2, z3⟩ := HX6.out.froz4
  obtain ⟨d0, d1, d2, d3⟩ := HR6.out.four'
  obtain ⟨y0, y1, y2, y3⟩ := HR6.out.froz4
  have hne : w5.heap.size ≠ w.heap.size := by omega
  have hne' : w.heap.size ≠ w5.heap.size := by omega
  cases b with
  | true =>
    have HXW := hide (show BoxV 26 (w6.setCell ⟨w5.heap.size, 2, none⟩ (.bool true)) w5.heap.size #[.string ky, .int .i64 (x4 : Int), .bool true, .string ⟨tx.toArray⟩] from HX6.out.four2 _)
    have HOW := hide (HO6.out.set_ne (p := ⟨w5.heap.size, 2, none⟩) (fun i hi => Nat.ne_of_lt (hown i hi)) (.bool true))
    have HRW := hide (HR6.out.set_other (p := ⟨w5.heap.size, 2, none⟩) hne (.bool true))
    have HBW := hide (HB6.out.setCell (p := ⟨w5.heap.size, 2, none⟩) hs5 (.bool true))
    go_upto_region 6 with (fail)
    obtain ⟨W6, hW6⟩ : ∃ W, W = w6.setCell ⟨w5.heap.size, 2, none⟩ (.bool true) := ⟨_, rfl⟩
    rw [← hW6] at HXW HOW HRW HBW ⊢
    clear hW6 c0 c1' c2 c3 z0 z1 z2 z3 d0 d1 d2 d3 y0 y1 y2 y3 HX6 HO6 HR6 HB6 hx6 hr6
    have hx6 := HXW.out.lt
    have hr6 := HRW.out.lt
    obtain ⟨c0, c1', c2, c3⟩ := HXW.out.four'
    obtain ⟨d0, d1, d2, d3⟩ := HRW.out.four'
    obtain ⟨y0, y1, y2, y3⟩ := HRW.out.froz4
    go_region_held3 (fun w' => w'.cell? ⟨w5.heap.size, 0, none⟩ = some (.string ky) ∧ w'.cell? ⟨w5.heap.size, 1, none⟩ = some (.int .i64 (x4 : Int)) ∧ w'.cell? ⟨w5.heap.size, 2, none⟩ = some (.bool true) ∧ w'.cell? ⟨w5.heap.size, 3, none⟩ = some (.string ⟨tx.toArray⟩))
      (first
        | with_reducible exact HXW.out.four'
        | with_reducible exact HXW.out.drew.four'
        | exact (((((HXW.out.set_other (p := ⟨w.heap.size, 0, none⟩) hne' _).set_other (p := ⟨w.heap.size, 1, none⟩) hne' _).set_other (p := ⟨w.heap.size, 2, none⟩) hne' _).set_other (p := ⟨w.heap.size, 3, none⟩) hne' _)).four')
      (fail)
    all_goals go_wp2_with fail
    all_goals refine bodyPost_ret (res_ent2 rfl _ _ w.heap.size rfl (HRW.out.all4 _ _ _ _)) rfl ?_
    all_goals exact ⟨a1, n1, c1, L, _, _, _, _, rfl, HN.out, HL.out, ((((HOW.out.set_other (by show w.heap.size < _; omega) _).set_other (by show w.heap.size < _; omega) _).set_other (by show w.heap.size < _; omega) _).set_other (by show w.heap.size < _; omega) _).mono (by omega), (below_four HBW.out (Nat.le_refl _) _ _ _ _).drew⟩
  | false =>
    go_wp2_with fail
    go_region_held3 (fun w' => w'.cell? ⟨w5.heap.size, 0, none⟩ = some (.string ky) ∧ w'.cell? ⟨w5.heap.size, 1, none⟩ = some (.int .i64 (x4 : Int)) ∧ w'.cell? ⟨w5.heap.size, 2, none⟩ = some (.bool false) ∧ w'.cell? ⟨w5.heap.size, 3, none⟩ = some (.string ⟨tx.toArray⟩))
      (first
        | with_reducible exact HX6.out.four'
        | with_reducible exact HX6.out.drew.four'
        | exact (((((HX6.out.set_other (p := ⟨w.heap.size, 0, none⟩) hne' _).set_other (p := ⟨w.heap.size, 1, none⟩) hne' _).set_other (p := ⟨w.heap.size, 2, none⟩) hne' _).set_other (p := ⟨w.heap.size, 3, none⟩) hne' _)).four')
      (fail)
    all_goals go_wp2_with fail
    all_goals refine bodyPost_ret (res_ent2 rfl _ _ w.heap.size rfl (HR6.out.all4 _ _ _ _)) rfl ?_
    all_goals exact ⟨a1, n1, c1, L, _, _, _, _, rfl, HN.out, HL.out, ((((HO6.out.set_other (by show w.heap.size < _; omega) _).set_other (by show w.heap.size < _; omega) _).set_other (by show w.heap.size < _; omega) _).set_other (by show w.heap.size < _; omega) _).mono (by omega), (below_four HB6.out (Nat.le_refl _) _ _ _ _).drew⟩

set_option maxHeartbeats 4000000 in
set_option maxRecDepth 20000 in
theorem drawMemRange_any {B : Nat} (a : Option Addr) (cap : Nat) (bs : List Int) (w : World) (hB : B ≤ w.heap.size) (hc : CodeAt B w a bs) (hm : bs.length ≤ 1048576) :
    Calls Try.prog 16 #[.slice a bs.length cap] w (RangeDrawn w) := by
  have H := hide hc
  clear hc
  go_enter Try.func16, Try.ntmps16
  go_wp2_with fail
  refine (l1New_any a cap bs w hB H.out hm).mono ?_
  rintro e w1 ⟨rfl, hc1, hb1⟩
  have HC1 := hide (show CurS B w.heap.size a cap bs w1 from ⟨_, hc1⟩)
  have HB1 := hide hb1
  have hz1 := HC1.out.lt
  clear hc1 hb1 H
  go_wp2_with fail
  refine (l9Any_some 14 (by omega) (by omega) HC1.out).mono ?_
  rintro e w2 ⟨v2, L, rfl, ho2, hl2, hc2, ht2⟩
  obtain ⟨a1, c1, rfl, _⟩ := ho2.form
  obtain ⟨n1, hn1⟩ : ∃ n1, L.length = n1 := ⟨_, rfl⟩
  have HN := hide hn1
  rw [hn1] at ho2 hl2 ⊢
  have HL := hide hl2
  have HO2 := hide (ho2.mono (show w.heap.size + 1 ≤ w1.heap.size by omega))
  have HB2 := hide (HB1.out.trans (ht2.below (by omega) HB1.out.size))
  have HC2 := hide hc2
  clear hc2 ht2 ho2 hl2 hn1 HB1 HC1
  go_wp2_with fail
  refine (l7Key_some HC2.out).mono ?_
  rintro e w3 ⟨ky, rfl, hc3, ht3⟩
  have HO3 := hide (HO2.out.turned ht3 (by omega))
  have HB3 := hide (HB2.out.trans (ht3.below (by omega) HB2.out.size))
  have HC3 := hide hc3
  clear hc3 ht3 HO2 HB2 HC2
  go_wp2_with fail
  refine (pick_new 5 _ [⟨#[]⟩, ⟨#[98]⟩, ⟨#[99]⟩, ⟨#[97, 98, 99]⟩, ⟨#[97]⟩] rfl (by omega) (by omega) rfl HC3.out).mono ?_
  rintro e w4 ⟨s4, _, rfl, hc4, ht4⟩
  have HO4 := hide (HO3.out.turned ht4 (by omega))
  have HB4 := hide (HB3.out.trans (ht4.below (by omega) HB3.out.size))
  have HC4 := hide hc4
  clear hc4 ht4 HO3 HB3 HC3
  go_wp2_with fail
  refine (below_some 22 (by omega) (by omega) HC4.out).mono ?_
  rintro e w5 ⟨x5, hx5, rfl, hc5, ht5⟩
  have HO5 := hide (HO4.out.turned ht5 (by omega))
  have HB5 := hide (HB4.out.trans (ht5.below (by omega) HB4.out.size))
  clear hc5 ht5 HO4 HB4 HC4
  go_wp2_with fail
  refine bodyPost_ret (four_results rfl _ _ _) rfl ?_
  exact ⟨a1, n1, c1, L, _, _, _, rfl, HN.out, HL.out, HO5.out.mono (by omega), HB5.out⟩
end Go.Proofs.Ythpeoeiaiabfcaa
