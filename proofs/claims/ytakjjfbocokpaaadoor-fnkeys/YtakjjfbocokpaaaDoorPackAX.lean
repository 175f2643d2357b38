/-
  Texts of this proof, put together: SlotC, KeyR.
-/
import Derived.Test.YtakjjfbocokpaaaDoorPackAW
import Derived.Test.YtakjjfbocokpaaaDoorPackAU
import Derived.Laws.CopyRow
import Derived.StillTailTactics
import Derived.Deep.RegionHeld3

/-
  Contracts of slices.Clone.
-/
namespace Go.Proofs.YtakjjfbocokpaaaDoor
open Go.ChangeShapes Go.WideShapes Go.ChangeAt Go.RowKit
set_option maxRecDepth 20000

theorem sliceClone_any (B : Nat) (v : Value) (L : List Slot) (w : World) (hO : OwnsS B w v L) (hl : L.length ≤ 2097152) :
    Calls Tryd.prog 93 #[v] w (SlotsPost w L) := by
  have HO := hide hO
  obtain ⟨h1, ⟨rfl, h0⟩ | ⟨g, cap, cur, rfl, hr⟩⟩ := hO
  · obtain rfl : L = [] := List.eq_nil_of_length_eq_zero h0
    have hq := fun W => Lib.run_eql_slice_nil (P := Tryd.prog) W 29 74 none 0 0 0 0 Tryd.underlying29
    clear HO h1 h0
    go_enter Tryd.func93, Tryd.ntmps93
    go_wp2_with fail
    go_ret
    exact ⟨_, rfl, OwnsS.nil _ _, Below.refl _ _⟩
  · obtain ⟨n, hn⟩ : ∃ n, n = L.length := ⟨_, rfl⟩
    have HN := hide hn.symm
    rw [← hn] at hl HO
    rw [← hn]
    have hq := fun W => Lib.run_eql_slice_nil (P := Tryd.prog) W 29 74 (some ⟨g, 0, none⟩) n cap 0 0 Tryd.underlying29
    clear h1 hr hn
    have P1 : Hid (OwnsS w.heap.size (w.alloc (.cells #[] 74)) (.slice (some ⟨w.heap.size, 0, none⟩) 0 0) []) := OwnsS.lit0 _ w (Nat.le_refl _)
    have P2 : ∀ o, Hid (OwnsS B (w.alloc o) (.slice (some ⟨g, 0, none⟩) n cap) L) := fun o => HO.out.alloc o
    have P3 : ∀ o, Hid (Below w.heap.size w (w.alloc o)) := fun o => (Below.refl _ _).alloc (Nat.le_refl _) _
    have P4 : ∀ o, w.heap.size ≤ (w.alloc o).heap.size := fun o => by simp
    go_enter Tryd.func93, Tryd.ntmps93
    go_wp2_with (at_builtin; go_loud (refine appendS rfl (.tmp 5) (.tmp 6) rfl w.heap.size B w _ _ _ [] L rfl rfl P1 (P2 _) (P3 _) (P4 _) L n rfl HN.out (by omega) ?_); intro a' c' w' HO' HB' hsz')
    go_ret
    exact ⟨_, rfl, HO'.out, HB'.out⟩

end Go.Proofs.YtakjjfbocokpaaaDoor

/-
  Contracts of (impl.KeyDev).withSlots, (impl.KeyDev).clone, impl.removeAt.
-/
namespace Go.Proofs.YtakjjfbocokpaaaDoor
open Go.ChangeShapes Go.WideShapes Go.ChangeAt Go.RowKit
set_option maxRecDepth 20000

theorem withSlots_any (m : ByteArray) (v : Value) (x : Int) (a : Option Addr) (n cap : Nat) (w : World) :
    Calls Tryd.prog 60 #[.agg #[.string m, v, .int .i64 x], .slice a n cap] w fun e w' => e = .returned (.agg #[.string m, .slice a n cap, .int .i64 x]) ∧ Below w.heap.size w w' := by
  go_enter Tryd.func60, Tryd.ntmps60
  go_wp2_with fail
  exact bodyPost_ret (v := .agg #[.string m, .slice a n cap, .int .i64 x]) (by simp [results, Tryd.results60, go_sem]) rfl ⟨rfl, ((Below.refl _ _).alloc (Nat.le_refl _) _).alloc (by simp) _⟩

theorem slotVals_drop (L : List Slot) (n : Nat) : slotVals (L.drop n) = (slotVals L).drop (n * 2) := by
  induction L generalizing n with
  | nil => simp [slotVals]
  | cons s r ih =>
    cases n with
    | zero => simp
    | succ n => rw [List.drop_succ_cons, slotVals_cons, ih, show (n + 1) * 2 = n * 2 + 1 + 1 by omega, List.drop_succ_cons, List.drop_succ_cons]
def slideL (L : List Slot) (at_ : Nat) : List Slot := L.take at_ ++ (L.drop (at_ + 1) ++ L.drop (L.length - 1))
theorem length_slideL (L : List Slot) (i : Nat) (h : i < L.length) : (slideL L i).length = L.length := by simp [slideL]; omega
theorem slide_end (L : List Slot) (i : Nat) (h : i < L.length) : ((slideL L i).set (L.length - 1) zeroS).take (L.length - 1) = L.eraseIdx i := by
  have e : L.eraseIdx i = L.take i ++ L.drop (i + 1) := List.eraseIdx_eq_take_drop_succ L i
  have hl : (L.take i ++ L.drop (i + 1)).length = L.length - 1 := by simp; omega
  rw [List.take_set_of_le (Nat.le_refl _), e, slideL, ← List.append_assoc, ← hl, List.take_left]

theorem take_three {α : Type} (A M C : List α) (N : Nat) (h : A.length + M.length ≤ N) : (A ++ (M ++ C)).take N = A ++ (M ++ C.take (N - A.length - M.length)) := by
  rw [List.take_append, List.take_append, List.take_of_length_le (by omega : A.length ≤ N), List.take_of_length_le (by omega : M.length ≤ N - A.length)]
theorem OwnsS.row {B g n cap : Nat} {w : World} {L : List Slot} (h : OwnsS B w (.slice (some ⟨g, 0, none⟩) n cap) L) (hn : L.length = n) : ∃ cur, w.heap[g]? = some (.cells cur 74 (0, 0)) ∧ B ≤ g ∧ n ≤ cap ∧ cap ≤ maxLen ∧ cur.size = cap * 2 ∧ cur.toList.take (n * 2) = slotVals L := by
  subst hn
  obtain ⟨_, ⟨e, _⟩ | ⟨g', cap', cur, e, hg, hh, h1, h2, h3, h4⟩⟩ := h
  · simp at e
  · simp only [Value.slice.injEq, Option.some.injEq, Addr.mk.injEq, and_true, true_and] at e
    obtain ⟨rfl, rfl⟩ := e
    exact ⟨cur, hh, hg, h1, h2, h3, h4⟩
theorem OwnsS.of_row {B g n cap : Nat} {w : World} {L : List Slot} {cur : Array Value} (hh : w.heap[g]? = some (.cells cur 74 (0, 0))) (hg : B ≤ g) (hn : L.length = n) (h1 : n ≤ cap) (h2 : cap ≤ maxLen) (h3 : cur.size = cap * 2) (h4 : cur.toList.take (n * 2) = slotVals L) : OwnsS B w (.slice (some ⟨g, 0, none⟩) n cap) L := by
  subst hn
  exact ⟨length_slotVals L, .inr ⟨g, cap, cur, rfl, hg, hh, h1, h2, h3, h4⟩⟩
theorem OwnsS.cut {B g n cap : Nat} {w : World} {L : List Slot} (h : OwnsS B w (.slice (some ⟨g, 0, none⟩) n cap) L) (hn : L.length = n) (k : Nat) (hk : k ≤ n) : OwnsS B w (.slice (some ⟨g, 0, none⟩) k cap) (L.take k) := by
  obtain ⟨cur, hh, hg, h1, h2, h3, h4⟩ := h.row hn
  refine OwnsS.of_row hh hg (by rw [List.length_take]; omega) (by omega) h2 h3 ?_
  rw [slotVals_take, ← h4, List.take_take, Nat.min_eq_left (by omega)]
/-- cells stored over a row that is owned -/
theorem OwnsS.over {B g n cap : Nat} {w : World} {L M : List Slot} {cur : Array Value} (k : Nat) (hh : w.heap[g]? = some (.cells cur 74 (0, 0))) (hg : B ≤ g) (h1 : n ≤ cap) (h2 : cap ≤ maxLen) (h3 : cur.size = cap * 2) (h4 : cur.toList.take (n * 2) = slotVals L) (hn : L.length = n) (hk : k + M.length ≤ n) :
    OwnsS B (w.setRow g (cur.toList.take (k * 2) ++ slotVals M ++ cur.toList.drop (k * 2 + (slotVals M).length)).toArray) (.slice (some ⟨g, 0, none⟩) n cap) (L.take k ++ (M ++ L.drop (k + M.length))) := by
  refine OwnsS.of_row (setRow_heap w g _ _ _ _ hh) hg (by simp; omega) h1 h2 (by simp [length_slotVals]; omega) ?_
  have hm := length_slotVals M
  have t1 : cur.toList.take (k * 2) = slotVals (L.take k) := by rw [slotVals_take, ← h4, List.take_take, Nat.min_eq_left (by omega)]
  have t2 : (cur.toList.drop (k * 2 + (slotVals M).length)).take (n * 2 - (k * 2 + (slotVals M).length)) = slotVals (L.drop (k + M.length)) := by
    rw [slotVals_drop, ← h4, List.drop_take, hm]
    congr 1
    · omega
    · congr 1; omega
  have hc : (cur.toList.take (k * 2)).length = k * 2 := by rw [List.length_take, Array.length_toList, h3]; omega
  rw [List.toList_toArray, List.append_assoc, take_three _ _ _ _ (by rw [hc, hm]; omega), hc, Nat.sub_sub, slotVals_append, slotVals_append, t1, t2]

/-- copy(out[i:], out[i+1:]) on a row that is owned -/
theorem wpList_copyS {ops : Array Oper} {rest : List Oper} {o : Oper} {a : Act} {Q : Exit → Act → World → Prop} (hgd : o.guard = none) (d s : Operand)
    (ho : o.op = .call { callee := .builtin .copy, args := #[d, s], argTypes := #[29, 29] }) (B : Nat) (w : World) (g n cap i r c1 c2 : Nat) (sp : Addr) (L : List Slot)
    (hd : a.eval d = .slice (some ⟨g, i * 2, none⟩) (r + 1) c1) (hs : a.eval s = .slice (some sp) r c2) (hsp : Hid (0 < r → sp = ⟨g, (i + 1) * 2, none⟩))
    (hO : Hid (OwnsS B w (.slice (some ⟨g, 0, none⟩) n cap) L)) (hn : L.length = n) (hi : i + r + 1 = n)
    (h : ∀ w', Hid (OwnsS B w' (.slice (some ⟨g, 0, none⟩) n cap) (slideL L i)) → Hid (Only (some g) w w') → wpList Tryd.prog ops Q rest (a.put o.dst (goInt r)) w') :
    wpList Tryd.prog ops Q (o :: rest) a w := by
  obtain ⟨cur, hh, hg, h1, h2, h3, h4⟩ := hO.out.row hn
  obtain ⟨i0, hi0, hz0, hz1, hz2⟩ := info_parts infoS
  have hml : (L.drop (i + 1)).length = r := by rw [List.length_drop]; omega
  have hvl : (slotVals (L.drop (i + 1))).length = r * 2 := by rw [length_slotVals, hml]
  have hsrc : ∀ j v, (slotVals (L.drop (i + 1)))[j]? = some v → w.cell? (sp.add j) = some v := fun j v hv => by
    have hj : j < r * 2 := by have := (List.getElem?_eq_some_iff.1 hv).1; omega
    rw [hsp.out (by omega), addr_add]
    rw [slotVals_drop, List.getElem?_drop, ← h4, List.getElem?_take] at hv
    rw [if_pos (by omega)] at hv
    simp only [Array.getElem?_toList] at hv
    simp [World.cell?, hh, hv]
  have hl := run_loadCells_list (P := Tryd.prog) w sp (slotVals (L.drop (i + 1))) hsrc
  rw [hvl] at hl
  have hst := run_storeCells_at Tryd.prog g (i * 2) 74 (slotVals (L.drop (i + 1))) 0 cur w hh (by rw [hvl, h3]; omega) (slotVals_one _)
  have hov := OwnsS.over (M := L.drop (i + 1)) i hh hg h1 h2 h3 h4 hn (by rw [hml]; omega)
  refine wpList_plain hgd fun K hK => ?_
  have hrun : (Builtin.copy_ #[29, 29] o.type #[.slice (some ⟨g, i * 2, none⟩) (r + 1) c1, .slice (some sp) r c2]).run Tryd.prog w =
      .ok (goInt r) (w.setRow g (cur.toList.take (i * 2) ++ slotVals (L.drop (i + 1)) ++ cur.toList.drop (i * 2 + (slotVals (L.drop (i + 1))).length)).toArray) := by
    simp [Builtin.copy_, run_underlying Tryd.underlying29, Builtin.lenOf, Builtin.firstCells, sizeOf, typeInfo, hi0, hz1, hl, hst, show Nat.min r (r + 1) = r from Nat.min_eq_left (by omega)]
  unfold Oper.wp
  simp [execOp, ho, resolve, invoke, builtin, hd, hs, hrun, Result.andThen]
  refine hK _ _ (h _ ?_ ⟨rfl, rfl, rfl, by simp [World.setRow], fun k _ hk => setRow_other w g k _ (fun e => hk (by simp [e]))⟩)
  show OwnsS _ _ _ _
  rw [hml, show i + r = L.length - 1 by omega] at hov
  simpa [slideL] using hov

/-- clear(out[last:]) on a row that is owned -/
theorem run_clearS (B : Nat) (w : World) (g n cap i c1 : Nat) (L : List Slot) (hO : OwnsS B w (.slice (some ⟨g, 0, none⟩) n cap) L) (hn : L.length = n) (hi : i + 1 = n) :
    ∃ w', (∀ ty, (Builtin.clear_ #[29] ty #[.slice (some ⟨g, i * 2, none⟩) 1 c1]).run Tryd.prog w = .ok (.tuple #[]) w') ∧ OwnsS B w' (.slice (some ⟨g, 0, none⟩) n cap) (L.set i zeroS) ∧ Only (some g) w w' := by
  obtain ⟨cur, hh, hg, h1, h2, h3, h4⟩ := hO.row hn
  obtain ⟨i0, hi0, hz0, hz1, hz2⟩ := info_parts infoS
  have hvl : (slotVals [zeroS]).length = 2 := rfl
  have hst := run_storeCells_at Tryd.prog g (i * 2) 74 (slotVals [zeroS]) 0 cur w hh (by rw [hvl, h3]; omega) (slotVals_one _)
  have hov := OwnsS.over (M := [zeroS]) i hh hg h1 h2 h3 h4 hn (by simp; omega)
  have hzc : (Builtin.zeroCells #[.int .i64 0, .string ⟨#[]⟩] 1).toList = slotVals [zeroS] := by
    rw [show Builtin.zeroCells #[.int .i64 0, .string ⟨#[]⟩] 1 = madeCells #[.int .i64 0, .string ⟨#[]⟩] (1 * 2) from rfl, made_slots]
    rfl
  refine ⟨w.setRow g (cur.toList.take (i * 2) ++ slotVals [zeroS] ++ cur.toList.drop (i * 2 + (slotVals [zeroS]).length)).toArray, fun ty => ?_, ?_, ⟨rfl, rfl, rfl, by simp [World.setRow], fun k _ hk => setRow_other w g k _ (fun e => hk (by simp [e]))⟩⟩
  · simp [Builtin.clear_, run_underlying Tryd.underlying29, zeroValue, typeInfo, hi0, hz0, Value.cells, hzc, hst]
  · have e : L.take i ++ ([zeroS] ++ L.drop (i + [zeroS].length)) = L.set i zeroS := by
      rw [List.set_eq_take_append_cons_drop, if_pos (by omega)]
      rfl
    rw [e] at hov
    exact hov

theorem run_cutS (a : Option Addr) (n cap l : Nat) (h : l ≤ n) (w : World) : (Instr.slice 29 (.slice a n cap) (some (.int .i64 (l : Int))) none none).run Tryd.prog w = .ok (.slice (if cap = l then a else a.map (·.add (l * 2))) (n - l) (cap - l)) w := by
  obtain ⟨i0, hi0, hz0, hz1, hz2⟩ := info_parts infoS
  rw [run_slice_l (P := Tryd.prog) w 29 a n cap (by kernel_rfl) .i64 (l : Int) (by omega) (by omega)]
  rw [show Tryd.prog.elem 29 = 74 by kernel_rfl]
  simp [sizeOf, typeInfo, hi0, hz1, sliced]
/-- .. where the place lies before the end of the capacity -/
theorem run_cutS_in (g o n cap l : Nat) (h : l ≤ n) (hc : l < cap) (w : World) : (Instr.slice 29 (.slice (some ⟨g, o, none⟩) n cap) (some (.int .i64 (l : Int))) none none).run Tryd.prog w = .ok (.slice (some ⟨g, o + l * 2, none⟩) (n - l) (cap - l)) w := by
  rw [run_cutS _ n cap l h, if_neg (by omega), Option.map_some, addr_add]
theorem run_cutS_some (g o n cap l : Nat) (h : l ≤ n) : ∃ sp : Addr, (l < cap → sp = ⟨g, o + l * 2, none⟩) ∧ ∀ w, (Instr.slice 29 (.slice (some ⟨g, o, none⟩) n cap) (some (.int .i64 (l : Int))) none none).run Tryd.prog w = .ok (.slice (some sp) (n - l) (cap - l)) w := by
  by_cases hc : cap = l
  · exact ⟨⟨g, o, none⟩, fun h => by omega, fun w => by rw [run_cutS _ n cap l h, if_pos hc]⟩
  · exact ⟨⟨g, o + l * 2, none⟩, fun _ => rfl, fun w => by rw [run_cutS _ n cap l h, if_neg hc, Option.map_some, addr_add]⟩

theorem removeAt_any (B : Nat) (v : Value) (L : List Slot) (i : Nat) (w : World) (hO : OwnsS B w v L) (hi : i < L.length) (hl : L.length ≤ 2097152) :
    Calls Tryd.prog 61 #[v, .int .i64 i] w (SlotsPost w (L.eraseIdx i)) := by
  have HO := hide hO
  have HL := hide hl
  have HE := hide (slide_end L i hi)
  have HSL := hide (length_slideL L i hi)
  clear hO
  obtain ⟨n, hn⟩ : ∃ n, L.length = n := ⟨_, rfl⟩
  have HN := hide hn
  rw [hn] at hi hl HE HSL
  clear hn
  go_enter Tryd.func61, Tryd.ntmps61
  go_wp2_with fail
  refine (sliceClone_any B v L _ HO.out HL.out).mono ?_
  rintro e w1 ⟨v1, rfl, ho1, hb1⟩
  obtain ⟨a1, cap, rfl, _, hc1, hc2⟩ := ho1.form
  obtain ⟨g, rfl, hg, hgz⟩ := ho1.pos (by rw [HN.out]; omega)
  rw [HN.out] at ho1 hc1 ⊢
  have HO1 := hide ho1
  have HB1 := hide hb1
  clear ho1 hb1 HO
  obtain ⟨r, hr⟩ : ∃ r, i + r + 1 = n := ⟨n - i - 1, by omega⟩
  have HR := hide hr
  obtain ⟨i1, hi1⟩ : ∃ i1, i + 1 = i1 := ⟨_, rfl⟩
  have HI1 := hide hi1
  obtain ⟨c3, hc3⟩ : ∃ c3, cap - i = c3 := ⟨_, rfl⟩
  obtain ⟨c4, hc4⟩ : ∃ c4, cap - i1 = c4 := ⟨_, rfl⟩
  have s1 := run_cutS_in g 0 n cap i (by omega) (by omega)
  obtain ⟨sp, hsp, s2⟩ := run_cutS_some g 0 n cap i1 (by omega)
  rw [show n - i = r + 1 by omega, Nat.zero_add, hc3] at s1
  rw [show n - i1 = r by omega, hc4] at s2
  have HSP := hide (show 0 < r → sp = ⟨g, (i + 1) * 2, none⟩ from fun h => by rw [hsp (by omega), Nat.zero_add, hi1])
  have wi : IntKind.i64.wrap ((i : Int) + 1) = (i1 : Int) := by rw [IntKind.wrap_i64]; omega
  clear hr hi1 hsp hc3 hc4
  go_wp2_with fail
  go_still_tail 7, (by kernel_rfl)
  change wpList _ _ _ _ _ w1.drew
  clear s1 s2 wi
  refine wpList_copyS rfl (.tmp 14) (.tmp 18) rfl w.heap.size w1.drew g n cap i r c3 c4 sp L rfl rfl HSP (show OwnsS _ w1.drew _ _ from HO1.out) HN.out HR.out ?_
  intro w2 HO2 HT2
  have HT2' := hide (HT2.out.of_drew)
  clear HT2
  obtain ⟨q, hq⟩ : ∃ q, q + 1 = n := ⟨n - 1, by omega⟩
  have HQ := hide hq
  have wq : IntKind.i64.wrap ((n : Int) - 1) = (q : Int) := by rw [IntKind.wrap_i64]; omega
  obtain ⟨c5, hc5⟩ : ∃ c5, cap - q = c5 := ⟨_, rfl⟩
  have s3 := run_cutS_in g 0 n cap q (by omega) (by omega)
  rw [show n - q = 1 by omega, Nat.zero_add, hc5] at s3
  have en : (n : Int) - 1 = (q : Int) := by omega
  rw [en]
  obtain ⟨w3, rcl, ho3, ht3⟩ := run_clearS w.heap.size w2 g n cap q c5 (slideL L i) HO2.out HSL.out HQ.out
  have HO3 := hide (show OwnsS w.heap.size w3 (.slice (some ⟨g, 0, none⟩) q cap) (L.eraseIdx i) from by
    have := ho3.cut (by rw [List.length_set, HSL.out]) q (by omega)
    rw [← HE.out, show n - 1 = q by omega]
    exact this)
  have HT3 := hide (HT2'.out.trans ht3)
  have hqc : q ≤ cap := by omega
  clear hq hc5 wq en ho3 ht3
  go_wp2_with fail
  go_ret
  refine ⟨_, rfl, HO3.out, HB1.out.trans (HT3.out.below (fun g' e => ?_) HB1.out.size)⟩
  simp only [Option.some.injEq] at e
  omega

/-- a device's box and the box of a result, laid one behind the other -/
theorem two_boxes (w : World) (v0 v1 v2 : Value) : ∃ W, W = (w.alloc (.cells #[v0, v1, v2] 31)).alloc (.cells #[.string ⟨#[]⟩, .slice none 0 0, .int .i64 0] 31) ∧ W.heap.size = w.heap.size + 1 + 1 ∧ Below w.heap.size w W ∧
    BoxB 31 W w.heap.size v0 v1 v2 ∧ BoxB 31 W (w.heap.size + 1) (.string ⟨#[]⟩) (.slice none 0 0) (.int .i64 0) := by
  refine ⟨_, rfl, by simp, ((Below.refl _ _).alloc (Nat.le_refl _) _).alloc (by simp) _, (BoxB.new _ w _ _ _).alloc _, ?_⟩
  have := BoxB.new 31 (w.alloc (.cells #[v0, v1, v2] 31)) (.string ⟨#[]⟩) (.slice none 0 0) (.int .i64 0)
  simp only [Go.Deep.nblk_alloc] at this
  exact this

set_option maxHeartbeats 2000000 in
theorem devClone_any (B : Nat) (m : ByteArray) (v : Value) (L : List Slot) (x : Int) (w : World) (hO : OwnsS B w v L) (hl : L.length ≤ 2097152) :
    Calls Tryd.prog 59 #[.agg #[.string m, v, .int .i64 x]] w (DevPost w m L x) := by
  obtain ⟨a, cap, rfl, _⟩ := hO.form
  have HO := hide hO
  have HL := hide hl
  obtain ⟨n, hn⟩ : ∃ n, L.length = n := ⟨_, rfl⟩
  have HN := hide hn
  rw [hn] at HO ⊢
  clear hl hO hn
  obtain ⟨W, hW, hWs, hWb, hX, hY⟩ := two_boxes w (.string m) (.slice a n cap) (.int .i64 x)
  go_enter Tryd.func59, Tryd.ntmps59
  go_wp2_with fail
  rw [← hW]
  have HX := hide hX
  have HY := hide hY
  have HWb := hide hWb
  have HWs := hide hWs
  have HO1 := hide (HO.out.below hWb (Nat.le_refl _))
  clear hW hX hY hWb hWs HO
  obtain ⟨c0, c1, c2⟩ := HX.out.cells
  go_region_held3 (fun w' => w'.cell? ⟨w.heap.size, 0, none⟩ = some (.string m) ∧ w'.cell? ⟨w.heap.size, 1, none⟩ = some (.slice a n cap) ∧ w'.cell? ⟨w.heap.size, 2, none⟩ = some (.int .i64 x))
    (first
      | exact ⟨c0, c1, c2⟩
      | exact ⟨d0, d1, d2⟩
      | exact ⟨e0, e1, e2⟩
      | exact (((HX3.out.set_other (by simp) _).set_other (by simp) _).set_other (by simp) _).cells)
    (first
      | (go_at_call 60; refine (withSlots_any m _ x a2 n cap2 _).mono ?_; rintro e w3 ⟨rfl, hb3⟩; have HO3 := hide (HO2.out.below hb3 (Nat.le_refl _)); have HX3 := hide (HX2.out.below hb3 HX2.out.lt); have HY3 := hide (HY2.out.below hb3 HY2.out.lt); have HB3 := hide (HB2.out.trans (hb3.mono HB2.out.size)); clear hb3; obtain ⟨e0, e1, e2⟩ := HX3.out.cells; obtain ⟨y0, y1, y2⟩ := HY3.out.cells; obtain ⟨z0, z1, z2⟩ := HY3.out.frozen)
      | (go_at_call 93; refine (sliceClone_any B _ L _ (show OwnsS B W.drew _ _ from HO1.out) HL.out).mono ?_; rintro e w2 ⟨v2, rfl, ho2, hb2⟩; obtain ⟨a2, cap2, rfl, _⟩ := ho2.form; rw [HN.out] at ho2 ⊢; have HO2 := hide ho2; have HB2 := hide (below_of_drew hb2); have HX2 := hide (HX.out.below HB2.out HX.out.lt); have HY2 := hide (HY.out.below HB2.out HY.out.lt); clear ho2 hb2; obtain ⟨d0, d1, d2⟩ := HX2.out.cells))
  all_goals go_wp2_with fail
  all_goals refine bodyPost_ret (res_dev rfl _ _ (w.heap.size + 1) rfl (((HY3.out.set0 _).set1 _).set2 _)) rfl ?_
  all_goals refine ⟨_, rfl, ?_, HWb.out.trans ((((HB3.out.mono HWb.out.size).setCell (by simp) _).setCell (by simp) _).setCell (by simp) _)⟩
  all_goals exact (((HO3.out.set_other (show _ < _ from HY.out.lt) _).set_other (show _ < _ from HY.out.lt) _).set_other (show _ < _ from HY.out.lt) _).mono HWb.out.size
end Go.Proofs.YtakjjfbocokpaaaDoor
