/-
  Texts of this proof, put together: ListO.
-/
import Derived.Test.YtmdhihgfnlnbnaaPackBD
import Derived.Maps.AppendAt

/-
  Contract of impl.listOf.
-/
namespace Go.Proofs.Ytmdhihgfnlnbnaa
open Go.ChangeShapes Go.WideShapes Go.ChangeAt Go.RowKit Go.Shelf
attribute [local go_sem] Oper.semAt_some

def KVPost (w : World) (L : List KV) (e : Ending) (w' : World) : Prop := ∃ v, e = .returned v ∧ elKV.Owns w.heap.size w' v L ∧ Below w.heap.size w w'
theorem Turn.putObj {B g : Nat} (W : World) (l : Nat) (o' : Obj) (hl : B ≤ l) (hlt : l < W.heap.size) : Turn B g W (W.putObj l o') := by
  have h := grownBy_putObj' W l o'
  exact ⟨h.os, h.tape, h.output, h.size, fun i hi _ => h.block i (by omega) (fun e => by have := Option.some.inj e; omega)⟩

set_option maxRecDepth 100000 in
set_option maxHeartbeats 4000000 in
theorem listOf_any (ak av : Option Addr) (ck cv : Nat) (L : List KV) (hl : L.length ≤ 1048576) (w : World) (hk : elStr.Rd w w.heap.size ak (L.map Prod.fst)) (hv : elStr.Rd w w.heap.size av (L.map Prod.snd)) :
    Calls Try.prog 41 #[.agg #[.slice ak L.length ck, .slice av L.length cv]] w (KVPost w L) := by
  have HK := hide hk
  have HV := hide hv
  clear hk hv
  obtain ⟨n, hn⟩ : ∃ n, L.length = n := ⟨_, rfl⟩
  have HN := hide hn
  have hnl : n ≤ 1048576 := by omega
  rw [hn]
  clear hn
  refine (callsIn_wide (n := 6)).1 ?_
  refine callsIn_of_wp_marks Try.func41 rfl trivial ?_ rfl
  simp only [Try.ntmps41, List.size_toArray, List.length_cons, List.length_nil, Nat.reduceAdd, Nat.reduceSub, Array.replicate_succ, Array.replicate_zero, List.push_toArray, List.append_toArray, List.nil_append, List.cons_append]
  gi_wp2
  refine ⟨trivial, (all_in Fence.wide _ trivial rfl _ _).mono ?_⟩
  rintro e w3 ⟨rfl, hw3⟩
  have hs3 : w3.heap.size = w.heap.size + 3 := by rw [hw3]; simp
  have HB3 := hide (show Below w.heap.size w w3 by rw [hw3]; exact (((Below.refl _ _).alloc (Nat.le_refl _) _).alloc (by simp) _).alloc (by simp <;> omega) _)
  have HX := hide (show BoxV 59 w3 w.heap.size #[.slice ak n ck, .slice av n cv] by rw [hw3]; exact ((BoxV.new _ w _).alloc _).alloc _)
  have HL := hide (show Boxed w3 (w.heap.size + 1) 24 (.slice none 0 0) by
    rw [hw3]
    have := (Boxed.new (w.alloc (.cells #[.slice ak n ck, .slice av n cv] 59)) 24 (.slice none 0 0)).alloc (.cells #[.pointer (some ⟨w.heap.size, 0, none⟩)] 95)
    rwa [Go.Deep.nblk_alloc] at this)
  have HP := hide (show Boxed w3 (w.heap.size + 2) 95 (.pointer (some ⟨w.heap.size, 0, none⟩)) by
    rw [hw3]
    have := Boxed.new ((w.alloc (.cells #[.slice ak n ck, .slice av n cv] 59)).alloc (.cells #[.slice none 0 0] 24)) 95 (.pointer (some ⟨w.heap.size, 0, none⟩))
    rwa [Go.Deep.nblk_alloc, Go.Deep.nblk_alloc] at this)
  simp only [Go.Deep.nblk_alloc]
  have hadd : w.heap.size + 1 + 1 = w.heap.size + 2 := rfl
  rw [hadd]
  clear hw3 hadd
  gi_wp2
  obtain ⟨i0, hi, hz0, hz1, hz2⟩ := info_parts infoKV
  refine wpIn_rangeFunc_ownF rfl (by omega) (gf := 94) (lb := #[.pointer (some ⟨w.heap.size + 2, 0, none⟩)]) rfl trivial (enters_of Try.func94 (by kernel_rfl) rfl)
    (encs := fun x : KV => #[Value.string x.1, Value.string x.2]) (Kp := Turn (w.heap.size + 3) (w.heap.size + 1)) (S := fun ys => ys = L) (Sp := fun pre => pre <+: L) (N := L.length) (w0 := w3)
    (fun l J Jx V hV _ _ hY h0 => all1_in Fence.wide (6 - 1) trivial rfl (by omega) l (w.heap.size + 2) w.heap.size (w.heap.size + 1) (w.heap.size + 3) ak av ck cv L (by have := HN.out; omega) J Jx hY V (by omega) (by omega) (by omega) (by omega)
      ((hV.cell (p := ⟨w.heap.size + 2, 0, none⟩) (by show w.heap.size + 2 < _; omega)).trans HP.out.cell)
      (by rw [HN.out]; exact (hV.cell (p := ⟨w.heap.size, 0, none⟩) (by show w.heap.size < _; omega)).trans HX.out.two.1)
      (by rw [HN.out]; exact (hV.cell (p := ⟨w.heap.size, 1, none⟩) (by show w.heap.size < _; omega)).trans HX.out.two.2)
      ((HK.out.below (HB3.out.trans (hV.mono HB3.out.size)) (Nat.le_refl _)).mono (by omega))
      ((HV.out.below (HB3.out.trans (hV.mono HB3.out.size)) (Nat.le_refl _)).mono (by omega)) (by omega) h0)
    (fun h k => h.trans k) (fun V l o o' hle ho _ _ => Turn.putObj V l o' (by omega) (Array.getElem?_eq_some_iff.1 ho).1) (Below.refl _ _) (fun _ => rfl)
    (fun pre V => (∃ v, Boxed V (w.heap.size + 1) 24 v ∧ V.ownsRow (w.heap.size + 3) 56 2 v pre.length (elKV.vals pre) ∧ True) ∧ Turn (w.heap.size + 3) (w.heap.size + 1) w3 V)
    (fun _ _ _ => False)
    (OwnFrom.and (Own.from (holdsRow_own _ _ _ _ _ (fun pre : List KV => pre.length) (fun pre => elKV.vals pre) (fun _ _ => True)) _) (fun _ X Y row hs hg hr => hs.trans ⟨hg.os, hg.tape, hg.output, hg.size, fun i hi _ => hg.block i (by have := hs.size; omega) (fun e => by have := (hr i e.symm).1; omega)⟩))
    (fun _ _ _ _ _ hs _ _ => hs)
    ⟨⟨_, HL.out, El.Owns.nil (e := elKV) _ _, trivial⟩, Turn.refl _ _ _⟩
    (fun x => { tmps := #[.agg #[.slice ak n ck, .slice av n cv], .pointer (some ⟨w.heap.size, 0, none⟩), .slice none 0 0, .pointer (some ⟨w.heap.size + 1, 0, none⟩), .string x.1, .string x.2, .func (.func 94) #[] #[.pointer (some ⟨w.heap.size + 2, 0, none⟩)], .string x.1, .string x.2, undef, undef, undef, undef, undef, undef, undef], defers := [] }) ?assign ?body ?done ?stop
  case assign =>
    intro l x V K hK
    gi_wp2
    exact hK
  case body =>
    rintro l pre x V ⟨⟨v, hv, hrow, _⟩, hB⟩ hpl
    have hc := hv.cell
    have hsz := hB.size
    have hpl' : pre.length < 1048576 := by have := HN.out; omega
    have hcells : ∀ j u, ([Value.string x.1, .string x.2] : List Value)[j]? = some u → (V.alloc (.cells #[.string x.1, .string x.2] 56)).cell? ((⟨V.heap.size, 0, none⟩ : Addr).add j) = some u := fun j u hj => by
      rw [addr_add, Nat.zero_add]
      match j, hj with
      | 0, hj => obtain rfl := Option.some.inj hj; simp
      | 1, hj => obtain rfl := Option.some.inj hj; simp
    have hone : ∀ u ∈ ([Value.string x.1, .string x.2] : List Value), u.oneCell' = true := fun u hu => by
      simp only [List.mem_cons, List.not_mem_nil, or_false] at hu
      rcases hu with rfl | rfl <;> rfl
    have hni : (w.heap.size + 3) ≤ V.heap.size := by omega
    obtain ⟨ax, cx, rfl, _⟩ := (show elKV.Owns (w.heap.size + 3) V v pre from hrow).form
    gi_wp2_with (gi_at_builtin; refine wpListIn_append_own _ rfl _ _ 24 rfl (w.heap.size + 3) 56 i0 (.agg #[.string ⟨#[]⟩, .string ⟨#[]⟩]) 2 32 Try.underlying24 hi hz0 hz1 hz2 rfl (by decide) _ _ _ rfl (hrow.alloc _) ⟨V.heap.size, 0, none⟩ 1 1 [.string x.1, .string x.2] rfl rfl hcells hone (by unfold maxLen; omega) (by omega) (by simp; omega) ?_; intro v' w1 hown' hgrow _; obtain ⟨g', cap', rfl⟩ := ownsRow_succ hown'; have hv1 := (hv.alloc (.cells #[.string x.1, .string x.2] 56)).kept hgrow (hv.not_row (by decide) hrow); have hc1 := hv1.cell; have hf1 := hv1.frozen)
    have hTr : Turn (w.heap.size + 3) (w.heap.size + 1) V (w1.setCell ⟨w.heap.size + 1, 0, none⟩ (.slice (some ⟨g', 0, none⟩) (pre.length + 1) cap')) := by
      have h1 : Turn (w.heap.size + 3) (w.heap.size + 1) V w1 := (Turn.of_below ((Below.refl _ V).alloc hni _) (Nat.le_refl _)).trans (Turn.of_only hgrow (fun k e => (hrow.lt k e).1) (by simp; omega))
      exact h1.trans (Turn.set 0 w1 _)
    refine ⟨?_, ?_, ⟨_, hv1.set _, ?_, trivial⟩, ?_⟩
    · exact (hv.appended (n₀ := 0) (by decide) (El.Owns.mono (e := elKV) hrow (Nat.zero_le _)) (Nat.zero_le _) (Nat.zero_le _) (show w1.ownsRow 0 56 2 _ (pre.length + 1) (elKV.vals pre ++ [.string x.1, .string x.2]) from ⟨hown'.1, hown'.2.imp id (fun ⟨g, c, u, e1, _, e2⟩ => ⟨g, c, u, e1, Nat.zero_le _, e2⟩)⟩) hgrow).2.2.2.1
    · exact hTr
    · rw [List.length_append, elKV.vals_append]
      exact hown'.kept (grownBy_setCell' w1 _ _) (.inr (hv1.not_row (by decide) hown').symm)
    · exact hB.trans hTr
  case done =>
    rintro D ys V hD rfl ⟨⟨v, hv, hrow, _⟩, hT⟩ hK
    obtain ⟨ax, cx, rfl, _⟩ := (show elKV.Owns (w.heap.size + 3) V v ys from hrow).form
    have hc := hv.cell
    gi_wp2
    refine ⟨by simp, .inl ⟨_, _, rfl, run_takeDeferred hK, ?_⟩⟩
    have hBV : Below w.heap.size w V := HB3.out.trans ⟨hT.os, hT.tape, hT.output, hT.size, fun i hi => hT.block i (by omega) (by omega)⟩
    have hO : elKV.Owns w.heap.size (V.putObj D (.deferred none)) (.slice ax ys.length cx) ys := El.Owns.mono (e := elKV) (B := w.heap.size + 3) (show elKV.Owns _ _ _ _ from ownsRow_putObj hrow _ hK rfl) (by omega)
    refine ⟨.slice ax ys.length cx, ?_, ⟨.slice ax ys.length cx, rfl, hO, hBV.trans (belowK_b (w := w) (Nat.le_refl _) V D _ _ (by omega) hK rfl rfl)⟩⟩
    simp [results, Try.f41, go_sem]
  case stop =>
    rintro D c pre V _ _ h _
    exact h.elim
end Go.Proofs.Ytmdhihgfnlnbnaa
