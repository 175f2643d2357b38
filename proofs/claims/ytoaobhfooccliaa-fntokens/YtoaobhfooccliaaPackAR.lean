/-
  Texts of this proof, put together: TokD, TokS.
-/
import Derived.Test.YtoaobhfooccliaaPackAO
import Derived.Test.YtoaobhfooccliaaPackAI
import Derived.Laws.StructEq
import Derived.Test.YtoaobhfooccliaaPackAQ
import Derived.Test.YtoaobhfooccliaaPackAL
import Derived.Test.YtoaobhfooccliaaPackAE

/-
  Contracts of impl.claimOf and impl.ReadToken.
-/
namespace Go.Proofs.Ytoaobhfooccliaa
open Go.ChangeShapes Go.WideShapes Go.ChangeAt Go.RowKit

/-- block g is a struct of two cells, known whole -/
def BoxT (T : TypeId) (w : World) (g : Nat) (v0 v1 : Value) : Prop := w.heap[g]? = some (.cells #[v0, v1] T (0, 0))
theorem BoxT.new (T : TypeId) (w : World) (v0 v1 : Value) : BoxT T (w.alloc (.cells #[v0, v1] T)) w.heap.size v0 v1 := Go.Deep.blk_alloc_new w _
theorem BoxT.lt {T : TypeId} {w : World} {g : Nat} {v0 v1 : Value} (h : BoxT T w g v0 v1) : g < w.heap.size := (Array.getElem?_eq_some_iff.1 h).1
theorem BoxT.below {T : TypeId} {w w' : World} {g B : Nat} {v0 v1 : Value} (h : BoxT T w g v0 v1) (hb : Below B w w') (hg : g < B) : BoxT T w' g v0 v1 := (hb.block g hg).trans h
theorem BoxT.drew {T : TypeId} {w : World} {g : Nat} {v0 v1 : Value} (h : BoxT T w g v0 v1) : BoxT T w.drew g v0 v1 := h
theorem BoxT.cells {T : TypeId} {w : World} {g : Nat} {v0 v1 : Value} (h : BoxT T w g v0 v1) : w.cell? ⟨g, 0, none⟩ = some v0 ∧ w.cell? ⟨g, 1, none⟩ = some v1 := by
  unfold BoxT at h
  exact ⟨by simp [World.cell?, h], by simp [World.cell?, h]⟩
theorem BoxT.frozen {T : TypeId} {w : World} {g : Nat} {v0 v1 : Value} (h : BoxT T w g v0 v1) : w.frozen? ⟨g, 0, none⟩ = false ∧ w.frozen? ⟨g, 1, none⟩ = false :=
  ⟨frozen_of_row w g 0 _ T h, frozen_of_row w g 1 _ T h⟩
theorem BoxT.set0 {T : TypeId} {w : World} {g : Nat} {v0 v1 : Value} (h : BoxT T w g v0 v1) (u : Value) : BoxT T (w.setCell ⟨g, 0, none⟩ u) g u v1 := heap_setCell_same w g 0 _ T u h
theorem BoxT.set1 {T : TypeId} {w : World} {g : Nat} {v0 v1 : Value} (h : BoxT T w g v0 v1) (u : Value) : BoxT T (w.setCell ⟨g, 1, none⟩ u) g v0 u := heap_setCell_same w g 1 _ T u h
theorem res_grant {fn : Func} {p : Tmp} (h : fn.results = #[.cell p 40]) (tmps : Array Value) (w : World) (g : Nat) (ht : tmps.getD p undef = .pointer (some ⟨g, 0, none⟩)) {v0 v1 : Value} (hx : BoxT 40 w g v0 v1) :
    (results fn tmps).run Try.prog w = .ok (.agg #[v0, v1]) w := by
  obtain ⟨c0, c1⟩ := hx.cells
  rw [Array.getD_eq_getD_getElem?] at ht
  simp only [results, h]
  simp [ht, go_sem, c0, c1]

def ClaimPost (w : World) (t n : Nat) (e : Ending) (w' : World) : Prop := e = .returned (.agg #[.int .i64 (t : Int), .int .i64 (n : Int)]) ∧ Below w.heap.size w w'

set_option maxRecDepth 20000 in
theorem claimOf_any (s : ByteArray) (hm : s.size ≤ maxLen) (w : World) :
    Calls Try.prog 18 #[.string s] w (ClaimPost w (claimT (bl s)) (claimE (bl s))) := by
  obtain ⟨T, hT⟩ : ∃ T, T = claimT (bl s) := ⟨_, rfl⟩
  obtain ⟨Z, hZ⟩ : ∃ Z, Z = szT (bl s) := ⟨_, rfl⟩
  obtain ⟨E, hE⟩ : ∃ E, E = claimE (bl s) := ⟨_, rfl⟩
  obtain ⟨Y, hY⟩ : ∃ Y, Y = szE (bl s) := ⟨_, rfl⟩
  have hz : Z ≤ s.size := by have := (size_claim (bl s)).1; rw [bl_len] at this; omega
  have hzi : (Z : Int) ≤ (s.size : Int) := by omega
  have hzn : (0 : Int) ≤ (Z : Int) := by omega
  obtain ⟨s2, hs2⟩ : ∃ s2 : ByteArray, s2 = ⟨((bl s).drop Z).toArray⟩ := ⟨_, rfl⟩
  have ec : s.extract Z s.size = s2 := by rw [hs2]; exact ext_drop s Z
  have HR := hide (fun W => iReadVar_any s W hm)
  have HR2 := hide (fun W => iReadVar_any s2 W (by rw [hs2, size_of, List.length_drop, bl_len]; unfold maxLen at hm ⊢; omega))
  unfold RvPost at HR HR2
  rw [show (readVarL (bl s)).1 = T from hT.symm, show (readVarL (bl s)).2 = Z from hZ.symm] at HR
  rw [show (readVarL (bl s2)).1 = E by rw [hE, hs2, hZ]; rfl, show (readVarL (bl s2)).2 = Y by rw [hY, hs2, hZ]; rfl] at HR2
  rw [← hT, ← hE]
  unfold maxLen at hm
  clear hT hZ hE hY hs2
  go_enter Try.func18, Try.ntmps18
  go_wp2_with fail
  refine (HR.out _).mono ?_
  rintro e w1 ⟨rfl, hb1⟩
  have HX1 := hide ((BoxT.new 40 w (.int .i64 0) (.int .i64 0)).below hb1 (by simp))
  have HB1 := hide (((Below.refl _ w).alloc (Nat.le_refl _) _).trans (hb1.mono (by simp)))
  clear hb1 HR
  go_wp2_with fail
  refine (HR2.out _).mono ?_
  rintro e w2 ⟨rfl, hb2⟩
  have HX2 := hide (HX1.out.below hb2 HX1.out.lt)
  have HB2 := hide (HB1.out.trans (hb2.mono HB1.out.size))
  clear hb2 HX1 HB1 HR2
  obtain ⟨z0, z1⟩ := HX2.out.frozen
  obtain ⟨c0, c1⟩ := HX2.out.cells
  have hlt := HX2.out.lt
  go_wp2_with fail
  refine bodyPost_ret (res_grant rfl _ _ w.heap.size rfl ((HX2.out.set0 _).set1 _)) rfl ?_
  exact ⟨rfl, (HB2.out.setCell (by simp) _).setCell (by simp) _⟩

def ReadPost (w : World) (k s : List UInt8) (e : Ending) (w' : World) : Prop :=
  e = .returned (.tuple #[.int .i64 (rtT k s), .int .i64 (rtE k s), .bool (rtB k s)]) ∧ Below w.heap.size w w'
theorem readPost_no {w w' : World} {k s : List UInt8} {e : Ending} (h : ¬ isTok k s) (he : e = .returned (.tuple #[.int .i64 0, .int .i64 0, .bool false])) (hb : Below w.heap.size w w') : ReadPost w k s e w' := by
  obtain ⟨h1, h2, h3⟩ := rt_no h
  unfold ReadPost; rw [h1, h2, h3]; exact ⟨he, hb⟩
theorem readPost_yes {w w' : World} {k s : List UInt8} {e : Ending} (h : isTok k s) (he : e = .returned (.tuple #[.int .i64 (claimT s : Int), .int .i64 (claimE s : Int), .bool true])) (hb : Below w.heap.size w w') : ReadPost w k s e w' := by
  obtain ⟨h1, h2, h3⟩ := rt_yes h
  unfold ReadPost; rw [h1, h2, h3]; exact ⟨he, hb⟩

set_option maxHeartbeats 1000000 in
set_option maxRecDepth 20000 in
theorem iReadToken_any (k s : ByteArray) (hm : s.size ≤ maxLen) (w : World) :
    Calls Try.prog 8 #[.string k, .string s] w (ReadPost w (bl k) (bl s)) := by
  have hmf : ∀ (fn : Fn) (first cap : Array Value) (w : World), (Instr.makeFunc fn first cap).run Try.prog w = .ok (.func fn first cap) w := fun _ _ _ _ => rfl
  have HY := hide (fun (h : isTok (bl k) (bl s)) e w' => readPost_yes (w := w) (w' := w') (e := e) h)
  have HN := hide (fun (h : ¬ isTok (bl k) (bl s)) e w' => readPost_no (w := w) (w' := w') (e := e) h)
  have HI := hide (isTok_iff (bl k) (bl s))
  have HC := hide (fun W => claimOf_any s hm W)
  obtain ⟨T, hT⟩ : ∃ T, T = claimT (bl s) := ⟨_, rfl⟩
  obtain ⟨E, hE⟩ : ∃ E, E = claimE (bl s) := ⟨_, rfl⟩
  rw [← hT, ← hE] at HC HI HY
  have HW := hide (fun W => writeToken_any k T E W)
  clear hT hE hm
  go_enter Try.func8, Try.ntmps8
  go_wp2_with fail
  refine (HC.out _).mono ?_
  rintro e w1 ⟨rfl, hb1⟩
  have HB1 := hide hb1
  clear hb1 HC
  by_cases h0 : T = 0 ∧ E = 0
  · have hno : ¬ isTok (bl k) (bl s) := fun h => (HI.out.1 h).1 h0
    have HP := hide (HN.out hno)
    obtain ⟨rfl, rfl⟩ := h0
    clear hno HI HY HN
    go_wp2_with fail
    go_ret3
    exact HP.out _ _ rfl (HB1.out.alloc HB1.out.size _)
  · obtain ⟨V, hV⟩ : ∃ V, V = tokV (bl k) T E := ⟨_, rfl⟩
    rw [← hV] at HW HI
    have H0 := hide h0
    have hcase : ¬ T = 0 ∨ T = 0 ∧ ¬ E = 0 := by omega
    clear h0 hV
    have HX := hide (BoxT.new 40 w1 (.int .i64 (T : Int)) (.int .i64 (E : Int)))
    have HB2 := hide (HB1.out.alloc HB1.out.size (.cells #[.int .i64 (T : Int), .int .i64 (E : Int)] 40))
    rcases hcase with hT | ⟨rfl, hE⟩
    all_goals
      go_wp2_with fail
      refine (HW.out _).mono ?_
      rintro e w2 ⟨rfl, hb2⟩
      have HX2 := hide (HX.out.below hb2 HX.out.lt)
      have HB3 := hide (HB2.out.trans (hb2.mono HB2.out.size))
      obtain ⟨c0, c1⟩ := HX2.out.cells
      have hlt := HX2.out.lt
      clear hb2 HX HB2
      by_cases hv : V = bl s
      · have HP := hide (HY.out (HI.out.2 ⟨H0.out, hv⟩))
        rw [hv, ← ba_mk s]
        clear hv HI HN HY
        go_wp2_with fail
        go_region
        all_goals go_wp2_with fail
        all_goals go_ret3
        all_goals exact HP.out _ _ rfl HB3.out.drew
      · have HP := hide (HN.out (fun h => hv (HI.out.1 h).2))
        have hns := ne_str hv
        clear hv HI HN HY
        go_wp2_with fail
        go_ret3
        exact HP.out _ _ rfl HB3.out
end Go.Proofs.Ytoaobhfooccliaa

/-
  Contracts of spec.MintToken and spec.ReadToken.
-/
namespace Go.Proofs.Ytoaobhfooccliaa
open Go.ChangeShapes Go.WideShapes Go.ChangeAt Go.RowKit

set_option maxHeartbeats 1000000 in
set_option maxRecDepth 20000 in
theorem sMint_any (k : ByteArray) (t n : Int) (w : World) :
    Calls Try.prog 12 #[.string k, .int .i64 t, .int .i64 n] w (StrPost w (tokV (bl k) t n)) := by
  obtain ⟨V, hV⟩ : ∃ V, V = tokV (bl k) t n := ⟨_, rfl⟩
  have HV := hide hV
  rw [← hV]
  clear hV
  by_cases hk : k.size = 32
  · have k1 : ((k.size : Int) != 32) = false := by rw [bne_eq_false_iff_eq]; omega
    have HK := hide (show (bl k).length = 32 by rw [bl_len]; exact hk)
    clear hk
    by_cases ht : 1 ≤ t ∧ t ≤ 99
    · have HT := hide ht
      clear ht
      by_cases hn : 0 ≤ n ∧ n ≤ 1000000
      · have hok : tokOk (bl k) t n := ⟨HK.out, HT.out.1, HT.out.2, hn.1, hn.2⟩
        obtain ⟨S, hS⟩ : ∃ S, S = blockV (bl k) n (nonceL 2 t) := ⟨_, rfl⟩
        obtain ⟨VT, hVT⟩ : ∃ VT, VT = varV t := ⟨_, rfl⟩
        obtain ⟨VE, hVE⟩ : ∃ VE, VE = varV n := ⟨_, rfl⟩
        obtain ⟨G, hG⟩ : ∃ G, G = S.take 8 := ⟨_, rfl⟩
        have HV1 := hide (show V = VT ++ VE ++ G by rw [HV.out, tokV_yes hok, hVT, hVE, hG, hS]; rfl)
        have hlS : (ByteArray.mk S.toArray).size = 64 := by rw [size_of, hS]; exact length_blockV (tok_block hok)
        have hlG : G.length = 8 := by rw [hG, hS]; exact length_tagL hok
        have hlT : VT.length ≤ 7 := by rw [hVT]; exact varV_len t
        have hlE : VE.length ≤ 7 := by rw [hVE]; exact varV_len n
        have ex := ext_take (ByteArray.mk S.toArray) 8
        rw [bl_of S, ← hG] at ex
        have ha1 := run_cat VT VE (by omega)
        have ha2 := run_cat (VT ++ VE) G (by rw [List.length_append]; omega)
        have HVT := hide (fun W => sVar_any t W)
        have HVE := hide (fun W => sVar_any n W)
        have HBl := hide (fun W => sBlock_any k ⟨(nonceL 2 t).toArray⟩ n W)
        rw [bl_of (nonceL 2 t), ← hS] at HBl
        rw [← hVT] at HVT
        rw [← hVE] at HVE
        have HNn := hide hn
        unfold StrPost at HBl
        generalize (ByteArray.mk S.toArray) = sb at hlS ex HBl
        clear hok hS hVT hVE hG hlG hlT hlE hn
        go_enter Try.func12, Try.ntmps12
        go_wp2_with fail
        refine (in_yes t 1 99 _ HT.out.1 HT.out.2).mono ?_
        rintro e w' ⟨rfl, rfl⟩
        go_wp2_with fail
        refine (in_yes n 0 1000000 _ HNn.out.1 HNn.out.2).mono ?_
        rintro e w' ⟨rfl, rfl⟩
        go_wp2_with fail
        refine (HVT.out _).mono ?_
        rintro e w1 ⟨rfl, hb1⟩
        have HB1 := hide hb1
        clear hb1
        go_wp2_with fail
        refine (HVE.out _).mono ?_
        rintro e w2 ⟨rfl, hb2⟩
        have HB2 := hide (HB1.out.trans (hb2.mono HB1.out.size))
        clear hb2 HB1
        go_wp2_with fail
        refine (sNonce_any 2 t _).mono ?_
        rintro e w3 ⟨rfl, hb3⟩
        have HB3 := hide (HB2.out.trans (hb3.mono HB2.out.size))
        clear hb3 HB2
        go_wp2_with fail
        refine (HBl.out _).mono ?_
        rintro e w4 ⟨rfl, hb4⟩
        have HB4 := hide (HB3.out.trans (hb4.mono HB3.out.size))
        clear hb4 HB3
        go_wp2_with fail
        go_ret
        exact ⟨by rw [HV1.out, List.append_assoc]; rfl, HB4.out⟩
      · have HV1 := hide (show V = [] by rw [HV.out, tokV_no (fun h => hn h.2.2.2)])
        have HNn := hide (show n < 0 ∨ 1000000 < n by omega)
        clear hn
        go_enter Try.func12, Try.ntmps12
        go_wp2_with fail
        refine (in_yes t 1 99 _ HT.out.1 HT.out.2).mono ?_
        rintro e w' ⟨rfl, rfl⟩
        go_wp2_with fail
        refine (in_no n 0 1000000 _ HNn.out).mono ?_
        rintro e w' ⟨rfl, rfl⟩
        go_wp2_with fail
        go_ret
        exact ⟨by rw [HV1.out]; rfl, Below.refl _ _⟩
    · have HV1 := hide (show V = [] by rw [HV.out, tokV_no (fun h => ht ⟨h.2.1, h.2.2.1⟩)])
      have HTn := hide (show t < 1 ∨ 99 < t by omega)
      clear ht
      go_enter Try.func12, Try.ntmps12
      go_wp2_with fail
      refine (in_no t 1 99 _ HTn.out).mono ?_
      rintro e w' ⟨rfl, rfl⟩
      go_wp2_with fail
      go_ret
      exact ⟨by rw [HV1.out]; rfl, Below.refl _ _⟩
  · have k1 : ((k.size : Int) != 32) = true := by rw [bne_iff_ne]; omega
    have HV1 := hide (show V = [] by rw [HV.out, tokV_no (fun h => hk (by have := h.1; rwa [bl_len] at this))])
    clear hk
    go_enter Try.func12, Try.ntmps12
    go_wp2_with fail
    go_ret
    exact ⟨by rw [HV1.out]; rfl, Below.refl _ _⟩
end Go.Proofs.Ytoaobhfooccliaa
