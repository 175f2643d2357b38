/-
  Texts of this proof, put together: OrdEntC.
-/
import Derived.Test.YtphfakdbgohhgaaPackAV
import Derived.Test.YtphfakdbgohhgaaPackAX
import Derived.Laws.CopyRow
import Derived.StillTailTactics
import Derived.Deep.DeepCutAuto
import Derived.BigQuiet
import Derived.Deep.RegionHeld3
import Derived.Deep.Slices

/-
  Contracts of slices.Clone and impl.insertInOrder over rows of impl.Ent. (Written by mkord.py.)
-/
namespace Go.Proofs.Ytphfakdbgohhgaa
open Go.ChangeShapes Go.WideShapes Go.ChangeAt Go.RowKit

theorem cloneEnt_any (B : Nat) (v : Value) (L : List EntE) (w : World) (hO : elEnt.Owns B w v L) (hl : L.length ≤ 2097152) :
    Calls Try.prog 58 #[v] w (RowPostEnt w L) := by
  have HO := hide hO
  obtain ⟨h1, ⟨rfl, h0⟩ | ⟨g, cap, cur, rfl, hr⟩⟩ := hO
  · obtain rfl : L = [] := List.eq_nil_of_length_eq_zero h0
    have hq := fun W => Lib.run_eql_slice_nil (P := Try.prog) W 24 26 none 0 0 0 0 Try.underlying24
    clear HO h1 h0
    go_enter Try.func58, Try.ntmps58
    go_wp2_with fail
    go_ret
    exact ⟨_, rfl, El.Owns.nil _ _, Below.refl _ _⟩
  · obtain ⟨n, hn⟩ : ∃ n, n = L.length := ⟨_, rfl⟩
    have HN := hide hn.symm
    rw [← hn] at hl HO
    rw [← hn]
    have hq := fun W => Lib.run_eql_slice_nil (P := Try.prog) W 24 26 (some ⟨g, 0, none⟩) n cap 0 0 Try.underlying24
    clear h1 hr hn
    have P1 : Hid (elEnt.Owns w.heap.size (w.alloc (.cells #[] 26)) (.slice (some ⟨w.heap.size, 0, none⟩) 0 0) []) := El.Owns.lit (e := elEnt) w.heap.size w [] #[] 0 rfl rfl (Nat.le_refl _) (by simp [maxLen])
    have P2 : ∀ o, Hid (elEnt.Src (w.alloc o) (.slice (some ⟨g, 0, none⟩) n cap) L) := fun o => HO.out.src.alloc o
    have P3 : ∀ o, Hid (Below w.heap.size w (w.alloc o)) := fun o => (Below.refl _ _).alloc (Nat.le_refl _) _
    have P4 : ∀ o, w.heap.size ≤ (w.alloc o).heap.size := fun o => by simp
    go_enter Try.func58, Try.ntmps58
    go_wp2_with (at_builtin; go_loud (refine El.appendSrc (e := elEnt) rfl (.tmp 5) (.tmp 6) 24 rfl Try.underlying24 _ _ infoEnt rfl (by decide) (by decide) w.heap.size w _ _ _ [] L rfl rfl P1 (P2 _) (P3 _) (P4 _) L n rfl HN.out (by omega) ?_); intro a' c' w' HO' HB' hsz' _)
    go_ret
    exact ⟨_, rfl, HO'.out, HB'.out⟩

theorem runHeadEnt (a : Option Addr) (n cap p : Nat) (h : p ≤ cap) (w : World) : (Instr.slice 24 (.slice a n cap) none (some (.int .i64 (p : Int))) none).run Try.prog w = .ok (.slice a p cap) w := by
  obtain ⟨i0, hi0, hz0, hz1, hz2⟩ := info_parts infoEnt
  rw [run_slice_h (P := Try.prog) w 24 a n cap (by kernel_rfl) .i64 (p : Int) (by omega) (by omega)]
  rw [show Try.prog.elem 24 = 26 by kernel_rfl]
  simp [sizeOf, typeInfo, hi0, hz1, sliced, map_add0']
theorem runCutEnt (a : Option Addr) (n cap l : Nat) (h : l ≤ n) (w : World) : (Instr.slice 24 (.slice a n cap) (some (.int .i64 (l : Int))) none none).run Try.prog w = .ok (.slice (if cap = l then a else a.map (·.add (l * 4))) (n - l) (cap - l)) w := by
  obtain ⟨i0, hi0, hz0, hz1, hz2⟩ := info_parts infoEnt
  rw [run_slice_l (P := Try.prog) w 24 a n cap (by kernel_rfl) .i64 (l : Int) (by omega) (by omega)]
  rw [show Try.prog.elem 24 = 26 by kernel_rfl]
  simp [sizeOf, typeInfo, hi0, hz1, sliced]

set_option maxHeartbeats 2000000 in
set_option maxRecDepth 20000 in
theorem insertEnt_any (B : Nat) (a : Option Addr) (cap : Nat) (L : List EntE) (x0 : ByteArray) (x1 : Int) (x2 : Bool) (x3 : ByteArray) (p : Nat) (w : World) (hO : elEnt.Owns B w (.slice a L.length cap) L) (hpl : p ≤ L.length)
    (ho1 : ∀ i (h : i < L.length), i < p → cmpE L[i] (x0, x1, x2, x3) < 0) (ho2 : ∀ i (h : i < L.length), p ≤ i → 0 ≤ cmpE L[i] (x0, x1, x2, x3)) (hl : L.length ≤ 2097151) :
    Calls Try.prog 88 #[.slice a L.length cap, .agg #[.string x0, .int .i64 x1, .bool x2, .string x3], .func (.func 87) #[.agg #[]] #[]] w (RowPostEnt w (L.take p ++ (x0, x1, x2, x3) :: L.drop p)) := by
  have HO := hide hO
  have hcap : L.length ≤ cap := by
    obtain ⟨a', c', q, _, h, _⟩ := hO.form
    simp only [Value.slice.injEq] at q
    omega
  have HS := hide (fun W hr => searchEnt_any a cap L x0 x1 x2 x3 p W hr hpl ho1 ho2 (by omega))
  obtain ⟨M, hM⟩ : ∃ M, L.take p ++ (x0, x1, x2, x3) :: L.drop p = M := ⟨_, rfl⟩
  have HM := hide (show L.take p ++ [(x0, x1, x2, x3)] ++ L.drop p = M by rw [← hM]; simp)
  rw [hM]
  have T0 := hide (HO.out.src_take rfl p hpl)
  have T2 := hide (HO.out.src_drop rfl p hpl)
  have N0 := hide (show (L.take p).length = p by rw [List.length_take]; omega)
  have N2 := hide (show (L.drop p).length = L.length - p by rw [List.length_drop])
  have HR := hide (show elEnt.Rd w w.heap.size a L from by
    obtain ⟨a', c', q, h, _⟩ := hO.form
    simp only [Value.slice.injEq] at q
    rw [q.1]
    exact h)
  clear ho1 ho2
  obtain ⟨n, hn⟩ : ∃ n, L.length = n := ⟨_, rfl⟩
  have HN := hide hn
  rw [hn] at HO HS hl hcap hpl T2 N2 ⊢
  have s1 := runHeadEnt a n cap p (by omega)
  have s2 := runCutEnt a n cap p hpl
  change Hid (elEnt.Src w (.slice (if cap = p then a else a.map (·.add (p * 4))) (n - p) (cap - p)) (L.drop p)) at T2
  obtain ⟨a2, ha2⟩ : ∃ a2, (if cap = p then a else a.map (·.add (p * 4))) = a2 := ⟨_, rfl⟩
  rw [ha2] at s2 T2
  obtain ⟨n2, hn2⟩ : ∃ n2, n - p = n2 := ⟨_, rfl⟩
  obtain ⟨c2, hc2⟩ : ∃ c2, cap - p = c2 := ⟨_, rfl⟩
  rw [hn2] at N2
  rw [hn2, hc2] at s2 T2
  have HN2 := hide hn2
  clear hO hn hM ha2 hn2 hc2
  have hpi : (p : Int) ≤ (cap : Int) := by omega
  have hpn : (p : Int) ≤ (n : Int) := by omega
  have hB := fun o => (Below.refl w.heap.size w).alloc (Nat.le_refl _) o
  go_enter Try.func88, Try.ntmps88
  go_wp2_with fail
  refine (HS.out _ ((HR.out.below (hB _) (Nat.le_refl _)).mono (by simp))).mono ?_
  rintro e w1 ⟨fd, rfl, hb1⟩
  have HX1 := hide ((BoxV.new 26 w #[.string x0, .int .i64 x1, .bool x2, .string x3]).below hb1 (by simp))
  have HB1 := hide ((hB _).trans (hb1.mono (by simp)))
  clear hb1 hB
  have hlx := HX1.out.lt
  go_wp2_with fail
  have hC : Calls Try.prog 105 #[.slice (some ⟨w1.heap.size + 1, 0, none⟩) 3 3] ((w1.alloc (.cells #[.string x0, .int .i64 x1, .bool x2, .string x3] 26)).alloc (.cells #[.slice a p cap, .slice (some ⟨w1.heap.size, 0, none⟩) 1 1, .slice a2 n2 c2] 24)).drew (RowPostEnt ((w1.alloc (.cells #[.string x0, .int .i64 x1, .bool x2, .string x3] 26)).alloc (.cells #[.slice a p cap, .slice (some ⟨w1.heap.size, 0, none⟩) 1 1, .slice a2 n2 c2] 24)).drew M) := by
    have h := concat3Ent_any (w1.heap.size + 1) (.slice a p cap) (.slice (some ⟨w1.heap.size, 0, none⟩) 1 1) (.slice a2 n2 c2) (L.take p) [(x0, x1, x2, x3)] (L.drop p)
      ((w1.alloc (.cells #[.string x0, .int .i64 x1, .bool x2, .string x3] 26)).alloc (.cells #[.slice a p cap, .slice (some ⟨w1.heap.size, 0, none⟩) 1 1, .slice a2 n2 c2] 24)).drew
      (show _ < (World.alloc _ _).heap.size by simp)
      (show (World.alloc _ _).cell? _ = _ by simp) (show (World.alloc _ _).cell? _ = _ by simp) (show (World.alloc _ _).cell? _ = _ by simp)
      (((T0.out.keep HB1.out (Nat.le_refl _)).alloc _).alloc _).drew (((El.Owns.lit (e := elEnt) 0 w1 [(x0, x1, x2, x3)] _ 1 rfl rfl (Nat.zero_le _) (by simp [maxLen])).src).alloc _).drew (((T2.out.keep HB1.out (Nat.le_refl _)).alloc _).alloc _).drew
      (by simp; omega) (by rw [N0.out, N2.out]; have := HN2.out; simp; omega)
    rw [HM.out] at h
    exact h
  have HC := hide hC
  clear hC
  go_region_held3 (fun w' => w'.cell? ⟨w.heap.size, 0, none⟩ = some (.string x0) ∧ w'.cell? ⟨w.heap.size, 1, none⟩ = some (.int .i64 x1) ∧ w'.cell? ⟨w.heap.size, 2, none⟩ = some (.bool x2) ∧ w'.cell? ⟨w.heap.size, 3, none⟩ = some (.string x3))
    (first
      | with_reducible exact ⟨HX1.out.cell 0 _ rfl, HX1.out.cell 1 _ rfl, HX1.out.cell 2 _ rfl, HX1.out.cell 3 _ rfl⟩
      | with_reducible exact ⟨HX1.out.drew.cell 0 _ rfl, HX1.out.drew.cell 1 _ rfl, HX1.out.drew.cell 2 _ rfl, HX1.out.drew.cell 3 _ rfl⟩
      | with_reducible exact ⟨(HX1.out.alloc _).drew.cell 0 _ rfl, (HX1.out.alloc _).drew.cell 1 _ rfl, (HX1.out.alloc _).drew.cell 2 _ rfl, (HX1.out.alloc _).drew.cell 3 _ rfl⟩
      | with_reducible exact ⟨((HX1.out.alloc _).alloc _).drew.cell 0 _ rfl, ((HX1.out.alloc _).alloc _).drew.cell 1 _ rfl, ((HX1.out.alloc _).alloc _).drew.cell 2 _ rfl, ((HX1.out.alloc _).alloc _).drew.cell 3 _ rfl⟩
      | exact ⟨HX1.out.cell 0 _ rfl, HX1.out.cell 1 _ rfl, HX1.out.cell 2 _ rfl, HX1.out.cell 3 _ rfl⟩
      | exact ⟨(HX1.out.alloc _).cell 0 _ rfl, (HX1.out.alloc _).cell 1 _ rfl, (HX1.out.alloc _).cell 2 _ rfl, (HX1.out.alloc _).cell 3 _ rfl⟩
      | exact ⟨((HX1.out.alloc _).alloc _).cell 0 _ rfl, ((HX1.out.alloc _).alloc _).cell 1 _ rfl, ((HX1.out.alloc _).alloc _).cell 2 _ rfl, ((HX1.out.alloc _).alloc _).cell 3 _ rfl⟩
      | exact ⟨HX2.out.cell 0 _ rfl, HX2.out.cell 1 _ rfl, HX2.out.cell 2 _ rfl, HX2.out.cell 3 _ rfl⟩)
    (first
      | (go_at_call 105
         refine HC.out.mono ?_
         rintro e w2 ⟨v2, rfl, ho2, hb2⟩
         have HO2 := hide ho2
         have hb2' := below_drew' hb2
         have HB2 := hide (hb2'.mono (show w1.heap.size ≤ _ by simp; omega))
         have HB3 := hide ((((Below.refl w1.heap.size w1).alloc (Nat.le_refl _) _).alloc (by simp) _).trans HB2.out)
         have HX2 := hide (HX1.out.below HB3.out hlx)
         clear ho2 hb2 hb2'))
  all_goals go_wp2_with fail
  all_goals go_ret
  all_goals exact ⟨_, rfl, HO2.out.mono (show w.heap.size ≤ (World.drew (World.alloc _ _)).heap.size from by have := HB1.out.size; show w.heap.size ≤ (World.alloc _ _).heap.size; simp; omega), HB1.out.trans (HB3.out.mono HB1.out.size)⟩
end Go.Proofs.Ytphfakdbgohhgaa
