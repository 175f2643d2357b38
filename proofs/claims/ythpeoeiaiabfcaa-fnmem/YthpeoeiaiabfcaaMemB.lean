/-
  Contracts of the program's list: with, reach; of impl.MemPut and impl.MemGet.
-/
import Derived.Test.YthpeoeiaiabfcaaMemA
import Derived.Test.YthpeoeiaiabfcaaBoxN
import Derived.Test.YthpeoeiaiabfcaaOrdEntC
namespace Go.Proofs.Ythpeoeiaiabfcaa
open Go.ChangeShapes Go.WideShapes Go.ChangeAt Go.RowKit

/-- a box of a list, of an entry and of a result, laid one behind the other -/
theorem three_boxes (w : World) {T U V : TypeId} (xs ys zs : Array Value) : ∃ W, W = ((w.alloc (.cells xs T)).alloc (.cells ys U)).alloc (.cells zs V) ∧ W.heap.size = w.heap.size + 1 + 1 + 1 ∧ Below w.heap.size w W ∧
    BoxV T W w.heap.size xs ∧ BoxV U W (w.heap.size + 1) ys ∧ BoxV V W (w.heap.size + 1 + 1) zs := by
  refine ⟨_, rfl, by simp, (((Below.refl _ _).alloc (Nat.le_refl _) _).alloc (by simp) _).alloc (by simp; omega) _, ((BoxV.new T w xs).alloc _).alloc _, ?_, ?_⟩
  · have h := (BoxV.new U (w.alloc (.cells xs T)) ys).alloc (.cells zs V)
    rwa [Go.Deep.nblk_alloc] at h
  · have h := BoxV.new V ((w.alloc (.cells xs T)).alloc (.cells ys U)) zs
    rwa [Go.Deep.nblk_alloc, Go.Deep.nblk_alloc] at h
def WithPost (w : World) (L : List En) (e : Ending) (w' : World) : Prop :=
  ∃ v, e = .returned (.agg #[v, .func (.func 60) #[.agg #[]] #[]]) ∧ elEnt.Owns w.heap.size w' v L ∧ Below w.heap.size w w'

set_option maxHeartbeats 1000000 in
set_option maxRecDepth 20000 in
theorem with_any (B : Nat) (a : Option Addr) (cap : Nat) (L : List En) (x0 : ByteArray) (x1 : Int) (x2 : Bool) (x3 : ByteArray) (w : World) (hO : elEnt.Owns B w (.slice a L.length cap) L) (hs : SrtE L) (hl : L.length ≤ 2097151) :
    Calls Try.prog 43 #[.agg #[.slice a L.length cap, .func (.func 60) #[.agg #[]] #[]], .agg #[.string x0, .int .i64 x1, .bool x2, .string x3]] w (WithPost w (insI (x0, x1, x2, x3) L)) := by
  have HO := hide hO
  obtain ⟨M, hM⟩ : ∃ M, M = insI (x0, x1, x2, x3) L := ⟨_, rfl⟩
  have HI := hide (fun W (h : elEnt.Owns B W (.slice a L.length cap) L) => insertEnt_any B a cap L x0 x1 x2 x3 (posI (x0, x1, x2, x3) L) W h (posI_le _ _) (fun i h hi => cmpE_neg.2 (posI_before _ L i h hi)) (fun i h hi => Int.not_lt.1 fun hn => posI_after hs i h hi (cmpE_neg.1 hn)) hl)
  rw [show L.take (posI (x0, x1, x2, x3) L) ++ (x0, x1, x2, x3) :: L.drop (posI (x0, x1, x2, x3) L) = M from hM.symm] at HI
  rw [← hM]
  obtain ⟨n, hn⟩ : ∃ n, n = L.length := ⟨_, rfl⟩
  rw [← hn] at HO HI ⊢
  clear hO hs hl hn hM
  obtain ⟨W, hW, hz, hWb, hA, hX, hR⟩ := three_boxes (T := 67) (U := 26) (V := 67) w #[.slice a n cap, .func (.func 60) #[.agg #[]] #[]] #[.string x0, .int .i64 x1, .bool x2, .string x3] #[.slice none 0 0, .nilFunc]
  have HA := hide hA
  have HX := hide hX
  have HRR := hide hR
  have HWB := hide hWb
  have HZ := hide hz
  go_enter Try.func43, Try.ntmps43
  go_wp2_with fail
  rw [← hW]
  clear hW hz hWb hA hX hR
  refine (HI.out _ (HO.out.below HWB.out (Nat.le_refl _))).mono ?_
  rintro e w1 ⟨v, rfl, ho, hb⟩
  obtain ⟨a1, c1, rfl, _⟩ := ho.form
  obtain ⟨m, hm⟩ : ∃ m, m = M.length := ⟨_, rfl⟩
  rw [← hm] at ho ⊢
  clear hm
  have HV := hide ho
  have HB1 := hide hb
  have HA1 := hide (HA.out.below hb HA.out.lt)
  have HR1 := hide (HRR.out.below hb HRR.out.lt)
  have hza : w.heap.size < W.heap.size := HA.out.lt
  have hzr : w.heap.size + 1 + 1 < W.heap.size := HRR.out.lt
  clear ho hb HA HRR HI HO
  obtain ⟨k0, k1⟩ := HA1.out.two'
  obtain ⟨z0, z1⟩ := HA1.out.froz2
  obtain ⟨d0, d1⟩ := HR1.out.two'
  obtain ⟨y0, y1⟩ := HR1.out.froz2
  go_wp2_with fail
  refine bodyPost_ret (res_list rfl _ _ (w.heap.size + 1 + 1) rfl (((HR1.out.set_other (p := ⟨w.heap.size, 0, none⟩) (by show w.heap.size ≠ _; omega) _).two0 _).two1 _)) rfl ?_
  exact ⟨_, rfl, (((HV.out.set_other hza _).set_other hzr _).set_other hzr _).mono (Nat.le_of_lt hza), HWB.out.trans ((((HB1.out.mono (Nat.le_of_lt hza)).setCell (p := ⟨w.heap.size, 0, none⟩) (Nat.le_refl _) _).setCell (p := ⟨w.heap.size + 1 + 1, 0, none⟩) (by show w.heap.size ≤ w.heap.size + 1 + 1; omega) _).setCell (p := ⟨w.heap.size + 1 + 1, 1, none⟩) (by show w.heap.size ≤ w.heap.size + 1 + 1; omega) _)⟩

/-- a result that is an entry in a block of its own, and a bool -/
theorem res_ent {fn : Func} {p u : Tmp} (h : fn.results = #[.cell p 26, .tmp u]) (tmps : Array Value) (w : World) (g : Nat) (ht : tmps.getD p undef = .pointer (some ⟨g, 0, none⟩)) {v0 v1 v2 v3 : Value} (hx : BoxV 26 w g #[v0, v1, v2, v3]) :
    (results fn tmps).run Try.prog w = .ok (.tuple #[.agg #[v0, v1, v2, v3], tmps.getD u undef]) w := by
  obtain ⟨c0, c1, c2, c3⟩ := hx.four'
  rw [Array.getD_eq_getD_getElem?] at ht
  simp only [results, h]
  simp [ht, go_sem, c0, c1, c2, c3]
def EntBPost (w : World) (f0 : ByteArray) (f1 : Int) (f2 : Bool) (f3 : ByteArray) (b : Bool) (e : Ending) (w' : World) : Prop :=
  e = .returned (.tuple #[.agg #[.string f0, .int .i64 f1, .bool f2, .string f3], .bool b]) ∧ Below w.heap.size w w'

set_option maxHeartbeats 2000000 in
set_option maxRecDepth 20000 in
theorem reach_any (a : Option Addr) (cap : Nat) (L : List En) (x0 : ByteArray) (x1 : Int) (x2 : Bool) (x3 : ByteArray) (w : World) (hr : elEnt.Rd w w.heap.size a L) (hs : SrtE L) (hl : L.length ≤ 2097152)
    (f0 : ByteArray) (f1 : Int) (f2 : Bool) (f3 : ByteArray) (b : Bool) (hf : b = true → L[posI (x0, x1, x2, x3) L]? = some (f0, f1, f2, f3)) (hg : b = false → posI (x0, x1, x2, x3) L = L.length ∧ (f0, f1, f2, f3) = zeroE) :
    Calls Try.prog 47 #[.agg #[.slice a L.length cap, .func (.func 60) #[.agg #[]] #[]], .agg #[.string x0, .int .i64 x1, .bool x2, .string x3]] w (EntBPost w f0 f1 f2 f3 b) := by
  have HR := hide hr
  have HF := hide hf
  have HG := hide hg
  obtain ⟨p, hp⟩ : ∃ p, p = posI (x0, x1, x2, x3) L := ⟨_, rfl⟩
  have HI := hide (fun W (h : elEnt.Rd W W.heap.size a L) => searchEnt_any a cap L x0 x1 x2 x3 (posI (x0, x1, x2, x3) L) W h (posI_le _ _) (fun i h hi => cmpE_neg.2 (posI_before _ L i h hi)) (fun i h hi => Int.not_lt.1 fun hn => posI_after hs i h hi (cmpE_neg.1 hn)) hl)
  rw [← hp] at HI HF HG
  have hpl : p ≤ L.length := hp ▸ posI_le _ _
  obtain ⟨n, hn⟩ : ∃ n, n = L.length := ⟨_, rfl⟩
  have HN := hide hn
  rw [← hn] at HI HG hpl hl ⊢
  clear hr hs hn hf hg hp
  obtain ⟨W, hW, hz, hWb, hA, hX, hRR⟩ := three_boxes (T := 67) (U := 26) (V := 26) w #[.slice a n cap, .func (.func 60) #[.agg #[]] #[]] #[.string x0, .int .i64 x1, .bool x2, .string x3] #[.string ⟨#[]⟩, .int .i64 0, .bool false, .string ⟨#[]⟩]
  have HA := hide hA
  have HX := hide hX
  have HRR := hide hRR
  have HWB := hide hWb
  go_enter Try.func47, Try.ntmps47
  go_wp2_with fail
  rw [← hW]
  clear hW hz hWb hA hX hRR
  refine (HI.out _ ((HR.out.below HWB.out (Nat.le_refl _)).mono HWB.out.size)).mono ?_
  rintro e w1 ⟨fd, rfl, hb⟩
  have HB1 := hide hb
  have HA1 := hide (HA.out.below hb HA.out.lt)
  have HR1 := hide (HRR.out.below hb HRR.out.lt)
  have hzr : w.heap.size + 1 + 1 < W.heap.size := HRR.out.lt
  have hw1 := HB1.out.size
  have HBW := hide (HWB.out.trans (HB1.out.mono HWB.out.size))
  clear hb HA HRR HI
  obtain ⟨c0, c1⟩ := HA1.out.two'
  obtain ⟨d0, d1, d2, d3⟩ := HR1.out.four'
  obtain ⟨y0, y1, y2, y3⟩ := HR1.out.froz4
  cases b with
  | true =>
    have hf := HF.out rfl
    obtain ⟨hpL, hx⟩ := List.getElem?_eq_some_iff.1 hf
    have hpn : p < n := by rw [HN.out]; exact hpL
    have hne : ((p : Int) == (n : Int)) = false := by rw [beq_eq_false_iff_ne]; omega
    obtain ⟨b, o, rfl, hb, hc⟩ := HR.out (by omega)
    obtain ⟨p0, p1, p2, p3⟩ := cellsEnt hx (hc p hpL)
    have e0 := (HBW.out.cell (p := ⟨b, o + p * 4, none⟩) hb).trans p0
    have e1 := (HBW.out.cell (p := ⟨b, o + p * 4 + 1, none⟩) hb).trans p1
    have e2 := (HBW.out.cell (p := ⟨b, o + p * 4 + 2, none⟩) hb).trans p2
    have e3 := (HBW.out.cell (p := ⟨b, o + p * 4 + 3, none⟩) hb).trans p3
    clear hf hpL hx hc p0 p1 p2 p3
    go_wp2_with fail
    refine bodyPost_ret (res_ent rfl _ _ (w.heap.size + 1 + 1) rfl (HR1.out.all4 _ _ _ _)) rfl ?_
    exact ⟨rfl, below_four HBW.out (by omega) _ _ _ _⟩
  | false =>
    obtain ⟨hpe, hz⟩ := HG.out rfl
    subst hpe
    simp only [zeroE, Prod.mk.injEq] at hz
    obtain ⟨rfl, rfl, rfl, rfl⟩ := hz
    have hlr : w.heap.size + 1 + 1 < w1.heap.size := HR1.out.lt
    go_wp2_with fail
    refine bodyPost_ret (res_ent rfl _ _ (w.heap.size + 1 + 1) rfl ((HR1.out.all4 _ _ _ _).alloc _)) rfl ?_
    exact ⟨rfl, (below_four HBW.out (by omega) _ _ _ _).alloc (by simp; omega) _⟩
end Go.Proofs.Ythpeoeiaiabfcaa
