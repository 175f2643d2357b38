/-
  Texts of this proof, put together: LogG, LogT.
-/
import Derived.Test.YtakjjfbocokpaaaDoorPackAU
import Derived.Test.YtakjjfbocokpaaaDoorPackAX
import Derived.Test.YtakjjfbocokpaaaDoorPackAY
import Derived.Maps.AppendAt
import Derived.WalkMore
import Derived.Test.YtakjjfbocokpaaaDoorPackAQ
import Derived.Test.YtakjjfbocokpaaaDoorPackAO
import Derived.Test.YtakjjfbocokpaaaDoorPackAI
import Derived.Deep.DeepCutAuto

/-
  Contract of impl.ScanRows, where the table of the program holds its sixteen words.
-/
namespace Go.Proofs.YtakjjfbocokpaaaDoor
open Go.ChangeShapes Go.WideShapes Go.ChangeAt Go.RowKit Go.Shelf
attribute [local go_sem] Oper.semAt_some

theorem info_row {P : Program} {t : TypeId} {z : Option Value} {n b : Nat} (h : (P.info? t).map (fun i => (i.zero, i.size, i.bytes)) = some (z, n, b)) : ∃ i, P.info? t = some i ∧ i.zero = z ∧ i.size = n ∧ i.bytes = b := by
  cases hi : P.info? t with
  | none => rw [hi] at h; simp at h
  | some i =>
    rw [hi] at h
    simp at h
    exact ⟨i, rfl, h.1, h.2.1, h.2.2⟩
theorem bxBel {W W' : World} {B B' : Nat} {T : TypeId} {v : Value} (h : Boxed W B T v) (hb : Below B' W W') (hB : B < B') : Boxed W' B T v := (hb.block B hB).trans h
theorem BoxV.own {β : Type} (T : TypeId) (g : Nat) (vs : Array Value) : Own (fun (_ : β) W => BoxV T W g vs) := fun _ X _ _ hs hg hr =>
  (hg.block g hs.lt (fun e => by obtain ⟨o, ho, hc⟩ := hr g e.symm; rw [show X.heap[g]? = _ from hs] at ho; cases ho; cases hc)).trans hs
/-- what stands when the rows pre are found -/
def ScanI (w : World) (s : ByteArray) (pre : List Lg) (V : World) : Prop :=
  ((∃ v, Boxed V (w.heap.size + 1) 43 v ∧ V.ownsRow w.heap.size 49 5 v pre.length (elLogRow.vals pre) ∧ True) ∧ Boxed V (w.heap.size + 1 + 1) 3 (.int .i64 ((rowsS pre).length : Nat))) ∧
  (Boxed V w.heap.size 9 (.string s) ∧ Below w.heap.size w V) ∧ ((∀ r ∈ pre, rowOkL r) ∧ rowsS pre <+: bl s)
theorem keeps_below {V V1 : World} (h : Below V.heap.size V V1) : KeepsOthers V V1 := ⟨h.size, fun k _ hk _ => (h.block k (Array.getElem?_eq_some_iff.1 hk).1).trans hk⟩
theorem ScanI.step {w V1 w1 : World} {s : ByteArray} {pre : List Lg} {x : Lg} {v v' : Value} {tmp : Obj} {e : Nat} (hv : Boxed V1 (w.heap.size + 1) 43 v) (hrow : V1.ownsRow w.heap.size 49 5 v pre.length (elLogRow.vals pre))
    (hE : Boxed V1 (w.heap.size + 1 + 1) 3 (.int .i64 ((rowsS pre).length : Nat))) (hS : Boxed V1 w.heap.size 9 (.string s)) (hB : Below w.heap.size w V1)
    (hp : (∀ r ∈ pre ++ [x], rowOkL r) ∧ rowsS (pre ++ [x]) <+: bl s) (he : e = (rowsS (pre ++ [x])).length)
    (hown' : w1.ownsRow w.heap.size 49 5 v' (pre.length + 1) (elLogRow.vals pre ++ elLogRow.enc x)) (hgrow : (V1.alloc tmp).grownBy w1 v.ownBlock) :
    KeepsOthers V1 ((w1.setCell ⟨w.heap.size + 1, 0, none⟩ v').setCell ⟨w.heap.size + 1 + 1, 0, none⟩ (.int .i64 (e : Nat))) ∧
    ScanI w s (pre ++ [x]) ((w1.setCell ⟨w.heap.size + 1, 0, none⟩ v').setCell ⟨w.heap.size + 1 + 1, 0, none⟩ (.int .i64 (e : Nat))) := by
  subst he
  obtain ⟨a1, a2, a3, a4, a5⟩ := hv.appended (by decide) hrow hB.size (by omega) hown' hgrow
  have hE1 := ((hE.alloc tmp).kept hgrow (hE.not_row (by decide) hrow)).other (show w.heap.size + 1 + 1 ≠ w.heap.size + 1 by omega) v'
  have hS1 := ((hS.alloc tmp).kept hgrow (hS.not_row (by decide) hrow)).other (show w.heap.size ≠ w.heap.size + 1 by omega) v'
  refine ⟨a4.trans (KeepsOthers.setCell _ _ _), ⟨⟨v', a2.other (by omega) _, ?_, trivial⟩, hE1.set _⟩, ⟨hS1.other (by omega) _, (hB.trans a5).setCell (by simp; omega) _⟩, hp⟩
  rw [List.length_append, elLogRow.vals_append]
  have h1 : elLogRow.vals [x] = elLogRow.enc x := by simp [El.vals]
  rw [h1]
  exact a3.kept (grownBy_setCell' _ _ _) (.inr (hE1.not_row (by decide) a3).symm)
/-- behind the boxes that ScanRows lays -/
theorem scan_boxes (w : World) (s : ByteArray) : ∃ W, W = ((w.alloc (.cells #[.string s] 9)).alloc (.cells #[.slice none 0 0] 43)).alloc (.cells #[.int .i64 0] 3) ∧ Below w.heap.size w W ∧ W.heap.size = w.heap.size + 1 + 1 + 1 ∧
    Boxed W w.heap.size 9 (.string s) ∧ Boxed W (w.heap.size + 1) 43 (.slice none 0 0) ∧ Boxed W (w.heap.size + 1 + 1) 3 (.int .i64 0) := by
  refine ⟨_, rfl, ((((Below.refl _ _).alloc (Nat.le_refl _) _).alloc (by simp) _).alloc (by simp <;> omega) _), by simp, ?_, ?_, ?_⟩
  · exact ((Boxed.new w 9 (.string s)).alloc _).alloc _
  · have := ((Boxed.new (w.alloc (.cells #[.string s] 9)) 43 (.slice none 0 0)).alloc (.cells #[.int .i64 0] 3))
    simp only [Go.Deep.nblk_alloc] at this
    exact this
  · have := (Boxed.new ((w.alloc (.cells #[.string s] 9)).alloc (.cells #[.slice none 0 0] 43)) 3 (.int .i64 0))
    simp only [Go.Deep.nblk_alloc] at this
    exact this

theorem ScanI.own (w : World) (s : ByteArray) (B : Nat) (hB : w.heap.size ≤ B) : OwnFrom B (ScanI w s) :=
  OwnFrom.and (OwnFrom.and (Own.from (holdsRow_own _ _ _ _ _ (fun pre : List Lg => pre.length) (fun pre => elLogRow.vals pre) (fun _ _ => True)) _) (Own.from (boxed_own _ _ _) _))
    (OwnFrom.and (OwnFrom.and (Own.from (boxed_own _ _ _) _) (ownFrom_below (Nat.le_refl _) hB)) (ownFrom_pure _ _))
def ScanX (w : World) (s : ByteArray) (c : Code) (pre : List Lg) (V : World) : Prop :=
  c = .exit 0 ∧ ∃ ini last, pre = ini ++ [last] ∧ ScanI w s ini V ∧ ¬ (showR last ≠ [] ∧ showR last <+: (bl s).drop (rowsS ini).length)
theorem ScanX.own (w : World) (s : ByteArray) (B : Nat) (hB : w.heap.size ≤ B) (c : Code) : OwnFrom B (ScanX w s c) :=
  fun _ X Y row hs hg hr => by obtain ⟨h1, ini, last, h2, h3, h4⟩ := hs; exact ⟨h1, ini, last, h2, ScanI.own w s B hB ini X Y row h3 hg hr, h4⟩
def ScanPost (w : World) (S : List UInt8) (e : Ending) (w' : World) : Prop :=
  ∃ v, e = .returned (.tuple #[v, .int .i64 (endV S : Nat)]) ∧ elLogRow.Owns w.heap.size w' v (scanV S) ∧ Below w.heap.size w w'
/-- however the loop is left, the rows found are those of the string -/
theorem scan_left {S : List UInt8} {xs : List Lg} (h : allR S xs ∧ (∀ r ∈ xs, rowOkL r) ∧ rowsS xs <+: S) : scanV S = xs ∧ endV S = (rowsS xs).length := by
  obtain ⟨⟨k, rfl, hr⟩, h1, h2⟩ := h
  have e := cl_done h1 h2 hr
  exact ⟨e, by rw [endV, e]⟩
theorem scan_broke {S : List UInt8} {ini : List Lg} {last : Lg} (h : someR S (ini ++ [last])) (h1 : ∀ r ∈ ini, rowOkL r) (h2 : rowsS ini <+: S) (hn : ¬ (showR last ≠ [] ∧ showR last <+: S.drop (rowsS ini).length)) : scanV S = ini ∧ endV S = (rowsS ini).length := by
  obtain ⟨k, hk⟩ := h
  rw [clN_succ] at hk
  obtain ⟨rfl, e5⟩ := List.append_inj' hk rfl
  obtain rfl : last = rowU (restN k S) := by simpa using e5
  have e := cl_stop h1 h2 hn
  exact ⟨e, by rw [endV, e]⟩

set_option maxRecDepth 100000 in
set_option maxHeartbeats 800000 in
theorem iScan_any (s : ByteArray) (hm : s.size ≤ 1048576) (w : World) (h0 : 1 < w.heap.size) (hT : Hid (CrcTabIn w)) :
    Calls Tryd.prog 28 #[.string s] w (ScanPost w (bl s)) := by
  refine (callsIn_wide (n := 6)).1 ?_
  refine callsIn_of_wp_marks Tryd.func28 rfl trivial ?_ rfl
  simp only [Tryd.ntmps28, List.size_toArray, List.length_cons, List.length_nil, Nat.reduceAdd, Nat.reduceSub, Array.replicate_succ, Array.replicate_zero, List.push_toArray, List.append_toArray, List.nil_append, List.cons_append]
  obtain ⟨W, hW, hWb, hWs, hS, hL, hE⟩ := scan_boxes w s
  have cS := hS.cell
  have HWb := hide hWb
  have HWs := hide hWs
  have HS := hide hS
  have HL := hide hL
  have HE := hide hE
  clear hWb hWs hS hL hE
  rw [hW] at cS
  gi_wp2
  refine (wpIn_wide (n := 6)).2 (wp_scope_straight ((wpIn_wide (n := 6)).1 ?_))
  gi_wp2
  refine wpIn_label ?_
  gi_wp2
  rw [← hW]
  refine ⟨trivial, (claimed_in _ s _).mono ?_⟩
  rintro e w3 ⟨rfl, hw3⟩
  have hs3 : w3.heap.size = w.heap.size + 1 + 1 + 1 + 1 := by rw [hw3, World.size_alloc, HWs.out]
  have hal : Below W.heap.size W w3 := by rw [hw3]; exact (Below.refl _ _).alloc (Nat.le_refl _) _
  have HB3 := hide (HWb.out.trans (hal.mono HWb.out.size))
  have HS3 := hide (bxBel HS.out hal HS.out.lt)
  have HL3 := hide (bxBel HL.out hal HL.out.lt)
  have HE3 := hide (bxBel HE.out hal HE.out.lt)
  have HP3 := hide (show Boxed w3 W.heap.size 9 (.string s) by rw [hw3]; exact Boxed.new W _ _)
  have hWs := HWs.out
  rw [hWs] at HP3
  clear hw3 hal hW cS HWb HS HL HE
  gi_wp2
  obtain ⟨i0, hi, hz0, hz1, hz2⟩ := info_row infoLogRow
  have hle : w.heap.size ≤ w3.heap.size := by omega
  have hI0 : ScanI w s [] w3 := ⟨⟨⟨_, HL3.out, El.Owns.nil (e := elLogRow) _ _, trivial⟩, HE3.out⟩, ⟨HS3.out, HB3.out⟩, fun r hr => by simp at hr, List.nil_prefix⟩
  have hseq := claimed_stops (6 - 1) (by omega) (w.heap.size + 1 + 1 + 1) s hm w3 (by omega) HP3.out.cell
  refine wpIn_rangeFunc_ownH (α := Lg) (encs := encR) (Kp := fun _ _ => True) (S := allR (bl s)) (Sp := someR (bl s)) (N := s.size) (w0 := w3) rfl (by omega) (gf := 97) (lb := #[.pointer (some ⟨w.heap.size + 1 + 1 + 1, 0, none⟩)]) ?hg trivial ?ent hseq ?kt ?kb ?b0 ?ps (ScanI w s) (ScanX w s) ?i ?ix ?h0
    (fun y a'' V => ∃ Bx, BoxV 49 V Bx #[.int .i64 y.1, .int .i64 y.2.1, .int .i64 y.2.2.1, .string y.2.2.2.1, .bool y.2.2.2.2] ∧ a'' = { tmps := #[.string s, .pointer (some ⟨w.heap.size, 0, none⟩), .slice none 0 0, .int .i64 0, .pointer (some ⟨w.heap.size + 1, 0, none⟩), .pointer (some ⟨w.heap.size + 1 + 1, 0, none⟩), .pointer (some ⟨Bx, 0, none⟩), undef, .string s, .func (.func 97) #[] #[.pointer (some ⟨w.heap.size + 1 + 1 + 1, 0, none⟩)],
        .agg #[.int .i64 y.1, .int .i64 y.2.1, .int .i64 y.2.2.1, .string y.2.2.2.1, .bool y.2.2.2.2], undef, undef, undef, undef, undef, undef, undef, undef, undef, undef, undef, undef, undef, undef, undef, undef, undef, undef, undef, undef, undef, undef], defers := [] })
    ?hAx ?assign ?body ?done ?stop
  case hg => rfl
  case ent => exact enters_of Tryd.func97 (by kernel_rfl) rfl
  case kt => exact fun _ _ => trivial
  case kb => exact fun _ _ _ _ _ _ _ _ => trivial
  case b0 => exact Below.refl _ _
  case ps => exact fun _ => rfl
  case i => exact ScanI.own w s _ hle
  case ix => exact ScanX.own w s _ hle
  case h0 => exact hI0
  case hAx => exact (fun y a'' _ X Y row hs hg hr => by obtain ⟨Bx, h2, h3⟩ := hs; exact ⟨Bx, BoxV.own _ Bx _ () X Y row h2 hg (fun r e => (hr r e).2), h3⟩)
  case assign =>
    rintro l pre ⟨y0, y1, y2, y3, y4⟩ V K hI hK
    dsimp only [encR]
    gi_wp2
    refine hK _ _ ((KeepsOthers.alloc _ _).from _) trivial ?_ ⟨V.heap.size, BoxV.new _ V _, rfl⟩
    exact ScanI.own w s _ hle pre V _ none hI (World.grownBy_alloc V _ none) (fun r e => by cases e)
  case body =>
    rintro l pre ⟨t, b, n, x, y⟩ a'' V hl ⟨r, hr⟩ hI ⟨Bx, bP, rfl⟩ hlt
    dsimp only at bP ⊢
    have hT1 := hide (hT.out.below hI.2.1.2 h0)
    have HSR := hide (iShowRow_any t b n x y V (Nat.lt_of_lt_of_le h0 hI.2.1.2.size) hT1)
    obtain ⟨F, hF⟩ : ∃ F, F = showR (t, b, n, x, y) := ⟨_, rfl⟩
    have HF := hide hF
    have hFl := showR_len (t, b, n, x, y)
    rw [← hF] at HSR hFl
    clear hF
    obtain ⟨c0, c1, c2, c3, c4⟩ := bP.five
    gi_wp2
    refine ⟨trivial, (callsIn_wide.2 HSR.out).mono ?_⟩
    rintro e V1 ⟨rfl, hb1⟩
    have hI1 := ScanI.own w s _ hle pre V V1 none hI (grown_of_below hb1) (fun r e => by cases e)
    have bP1 := bP.below hb1 bP.lt
    have hK1 := keeps_below hb1
    obtain ⟨⟨⟨v, hv, hrow, _⟩, hE⟩, ⟨hS, hB⟩, hok, hpre⟩ := id hI1
    clear c0 c1 c2 c3 c4 HSR hT1 hb1
    obtain ⟨c0, c1, c2, c3, c4⟩ := bP1.five
    have cS := hS.cell
    have cE := hE.cell
    have cV := hv.cell
    have hpl := hpre.length_le
    rw [bl_len] at hpl
    obtain ⟨E, hEe⟩ : ∃ E, E = (rowsS pre).length := ⟨_, rfl⟩
    rw [← hEe] at cE hpl
    have HEe := hide hEe
    clear hEe
    by_cases hF0 : F = []
    · have hF1 : F.isEmpty = true := List.isEmpty_iff.mpr hF0
      have HX : ScanX w s (.exit 0) (pre ++ [(t, b, n, x, y)]) V1 := ⟨rfl, pre, _, rfl, hI1, fun h => h.1 (HF.out ▸ hF0)⟩
      have hKf := hK1.from w3.heap.size
      clear hF0
      gi_wp2
      exact ⟨hKf, HX⟩
    · have hF1 : F.isEmpty = false := List.isEmpty_eq_false_iff.mpr hF0
      have HU := hide (ext_drop s E)
      have HPX := hide (fun W => hasPrefix_any ⟨((bl s).drop E).toArray⟩ ⟨F.toArray⟩ W)
      rw [bl_of ((bl s).drop E), bl_of F] at HPX
      obtain ⟨U, hU⟩ : ∃ U, U = (bl s).drop E := ⟨_, rfl⟩
      rw [← hU] at HU HPX
      have hus := HU.out
      have hE0 : (0 : Int) ≤ (E : Int) := by omega
      have hE1 : (E : Int) ≤ (s.size : Int) := by omega
      by_cases hpx : F <+: U
      · rw [decide_eq_true hpx] at HPX
        obtain ⟨q1, q2, q3, q4⟩ := pre_step hok hpre (x := (t, b, n, x, y)) (by rw [← HF.out]; exact hF0) (by rw [← HF.out, ← HEe.out, ← hU]; exact hpx)
        rw [← HF.out, ← HEe.out] at q3
        rw [bl_len] at q4
        clear hF0 hpx hU
        have hpc : pre.length < 1048576 := by omega
        have hcells : ∀ j u, ([Value.int .i64 t, .int .i64 b, .int .i64 n, .string x, .bool y] : List Value)[j]? = some u → (V1.alloc (.cells #[.int .i64 t, .int .i64 b, .int .i64 n, .string x, .bool y] 49)).cell? ((⟨V1.heap.size, 0, none⟩ : Addr).add j) = some u := fun j u hj => by
          rw [addr_add, Nat.zero_add]
          match j, hj with
          | 0, hj => obtain rfl := Option.some.inj hj; simp
          | 1, hj => obtain rfl := Option.some.inj hj; simp
          | 2, hj => obtain rfl := Option.some.inj hj; simp
          | 3, hj => obtain rfl := Option.some.inj hj; simp
          | 4, hj => obtain rfl := Option.some.inj hj; simp
        have hone : ∀ u ∈ ([Value.int .i64 t, .int .i64 b, .int .i64 n, .string x, .bool y] : List Value), u.oneCell' = true := fun u hu => by
          simp only [List.mem_cons, List.not_mem_nil, or_false] at hu
          rcases hu with rfl | rfl | rfl | rfl | rfl <;> rfl
        have hBs := hB.size
        gi_wp2
        refine ⟨trivial, (callsIn_wide.2 (HPX.out _)).mono ?_⟩
        rintro e V2 ⟨rfl, rfl⟩
        gi_wp2_with (gi_at_builtin; refine wpListIn_append_own _ rfl _ _ 43 rfl w.heap.size 49 i0 (.agg #[.int .i64 0, .int .i64 0, .int .i64 0, .string ⟨#[]⟩, .bool false]) 5 48 Tryd.underlying43 hi hz0 hz1 hz2 rfl (by decide) _ _ _ rfl (hrow.alloc _) ⟨V1.heap.size, 0, none⟩ 1 1 [.int .i64 t, .int .i64 b, .int .i64 n, .string x, .bool y] rfl rfl hcells hone (by unfold maxLen; omega) (by omega) (by simp; omega) ?_; intro v' w1 hown' hgrow _; obtain ⟨g', cap', rfl⟩ := ownsRow_succ hown'; have hv1 := (hv.alloc (.cells #[.int .i64 t, .int .i64 b, .int .i64 n, .string x, .bool y] 49)).kept hgrow (hv.not_row (by decide) hrow); have hc1 := hv1.cell; have hf1 := hv1.frozen; have hE1' := (hE.alloc (.cells #[.int .i64 t, .int .i64 b, .int .i64 n, .string x, .bool y] 49)).kept hgrow (hE.not_row (by decide) hrow); rw [← HEe.out] at hE1'; have hc2 := hE1'.cell; have hf2 := hE1'.frozen)
        obtain ⟨g1, g2⟩ := ScanI.step (w := w) (s := s) (x := (t, b, n, x, y)) (e := E + F.length) hv hrow hE hS hB ⟨q1, q2⟩ q3.symm hown' hgrow
        exact ⟨(hK1.trans g1).from _, trivial, g2⟩
      · rw [decide_eq_false hpx] at HPX
        have HX : ScanX w s (.exit 0) (pre ++ [(t, b, n, x, y)]) V1 := ⟨rfl, pre, _, rfl, hI1, fun h => hpx (by rw [HF.out, hU, HEe.out]; exact h.2)⟩
        have hKf := hK1.from w3.heap.size
        clear hF0 hpx hU
        gi_wp2
        refine ⟨trivial, (callsIn_wide.2 (HPX.out _)).mono ?_⟩
        rintro e V2 ⟨rfl, rfl⟩
        gi_wp2
        exact ⟨hKf, HX⟩
  case done =>
    rintro D ys V hD hall hI hK
    obtain ⟨⟨⟨v, hv, hrow, _⟩, hE⟩, ⟨hS, hB⟩, hok, hpre⟩ := id hI
    obtain ⟨e1, e2⟩ := scan_left ⟨hall, hok, hpre⟩
    obtain ⟨ax, cx, rfl, _⟩ := (show elLogRow.Owns w.heap.size V v ys from hrow).form
    have hcv := hv.cell
    have hce := hE.cell
    gi_wp2
    gi_region
    all_goals gi_wp2
    all_goals rw [Exit.noGoto_ret]
    all_goals refine ⟨by simp, .inl ⟨_, _, rfl, run_takeDeferred (b := D) (w := V.drew) hK, ?_⟩⟩
    all_goals
      have hBV : Below w.heap.size w V.drew := hB.drew
      have hO : elLogRow.Owns w.heap.size (V.drew.putObj D (.deferred none)) (.slice ax ys.length cx) ys := show elLogRow.Owns _ _ _ _ from ownsRow_putObj (show V.drew.ownsRow _ _ _ _ _ _ from hrow) _ hK rfl
      refine ⟨.tuple #[.slice ax ys.length cx, .int .i64 ((rowsS ys).length : Nat)], ?_, ⟨.slice ax ys.length cx, by rw [e2], by rw [e1]; exact hO, hBV.trans (belowK_b (w := w) (Nat.le_refl _) V.drew D _ _ (by omega) hK rfl rfl)⟩⟩
      simp [results, Tryd.f28, go_sem]
  case stop =>
    rintro D c pre V hD hsome ⟨rfl, ini, last, rfl, hI, hn⟩ hK
    obtain ⟨⟨⟨v, hv, hrow, _⟩, hE⟩, ⟨hS, hB⟩, hok, hpre⟩ := id hI
    obtain ⟨e1, e2⟩ := scan_broke hsome hok hpre hn
    obtain ⟨ax, cx, rfl, _⟩ := (show elLogRow.Owns w.heap.size V v ini from hrow).form
    have hcv := hv.cell
    have hce := hE.cell
    gi_wp2
    gi_region
    all_goals gi_wp2
    all_goals rw [Exit.noGoto_ret]
    all_goals refine ⟨by simp, .inl ⟨_, _, rfl, run_takeDeferred (b := D) (w := V.drew) hK, ?_⟩⟩
    all_goals
      have hBV : Below w.heap.size w V.drew := hB.drew
      have hO : elLogRow.Owns w.heap.size (V.drew.putObj D (.deferred none)) (.slice ax ini.length cx) ini := show elLogRow.Owns _ _ _ _ from ownsRow_putObj (show V.drew.ownsRow _ _ _ _ _ _ from hrow) _ hK rfl
      refine ⟨.tuple #[.slice ax ini.length cx, .int .i64 ((rowsS ini).length : Nat)], ?_, ⟨.slice ax ini.length cx, by rw [e2], by rw [e1]; exact hO, hBV.trans (belowK_b (w := w) (Nat.le_refl _) V.drew D _ _ (by omega) hK rfl rfl)⟩⟩
      simp [results, Tryd.f28, go_sem]
end Go.Proofs.YtakjjfbocokpaaaDoor

/-
  Contract of spec.ScanRows.
-/
namespace Go.Proofs.YtakjjfbocokpaaaDoor
open Go.ChangeShapes Go.WideShapes Go.ChangeAt Go.RowKit

/-- no row more at place p -/
theorem scan_end {S : List UInt8} {pre : List Lg} {p : Nat} (h : scanV S = pre ++ scanV (S.drop p)) (hp : p = (rowsS pre).length) (hn : ¬ goodU (S.drop p)) : scanV S = pre ∧ endV S = p := by
  rw [scan_stop hn, List.append_nil] at h
  exact ⟨h, by rw [endV, h, hp]⟩
/-- one row more -/
theorem scan_more {S : List UInt8} {pre : List Lg} {p e : Nat} {r : Lg} (h : scanV S = pre ++ scanV (S.drop p)) (hp : p = (rowsS pre).length) (hg : goodU (S.drop p)) (hr : rowU (S.drop p) = r) (he : e = p + (showR r).length) :
    scanV S = (pre ++ [r]) ++ scanV (S.drop e) ∧ e = (rowsS (pre ++ [r])).length := by
  refine ⟨?_, by rw [rowsS_append, rowsS_one, List.length_append, ← hp, he]⟩
  rw [h, scan_step hg, hr, List.drop_drop, ← he]
  simp
theorem litRow (B : Nat) (w : World) (hB : B ≤ w.heap.size) : elLogRow.Owns B (w.alloc (.cells #[] 49)) (.slice (some ⟨w.heap.size, 0, none⟩) 0 0) [] :=
  El.Owns.lit B w [] #[] 0 rfl rfl hB (by decide)

set_option maxHeartbeats 1000000 in
set_option maxRecDepth 20000 in
theorem sScan_any (s : ByteArray) (hm : s.size ≤ 1048576) (w : World) :
    Calls Tryd.prog 29 #[.string s] w (ScanPost w (bl s)) := by
  have hm' : s.size ≤ 1099511627775 := by omega
  have HL0 := hide (litRow w.heap.size w (Nat.le_refl _))
  have HB0 := hide ((Below.refl w.heap.size w).alloc (Nat.le_refl _) (.cells #[] 49))
  go_enter Tryd.func29, Tryd.ntmps29
  go_wp2_with fail
  go_loopw [4, 5] (fun o i wr => ∃ (p j : Nat) (a' : Option Addr) (c' : Nat) (pre : List Lg), o = .slice a' j c' ∧ i = .int .i64 p ∧ p ≤ s.size ∧ pre.length = j ∧ Hid (scanV (bl s) = pre ++ scanV ((bl s).drop p)) ∧ Hid (p = (rowsS pre).length) ∧ Hid (elLogRow.Owns w.heap.size wr (.slice a' j c') pre) ∧ Hid (Below w.heap.size w wr)) (fun _ i _ => s.size - (intOf i).toNat)
  case atStart => exact ⟨0, 0, _, _, [], rfl, rfl, by omega, rfl, by simp [Hid], by simp [Hid, rowsS], HL0, HB0⟩
  case round =>
    obtain ⟨p, j, a', c', pre, rfl, rfl, hp, hpre, HX, HPL, HO, HB⟩ := hrel
    have hs := HB.out.size
    have hjs : j ≤ 1048576 := by
      have h1 := scan_len (bl s)
      have h2 := congrArg List.length HX.out
      rw [List.length_append] at h2
      rw [bl_len] at h1
      omega
    have HV := hide (fun W => l6Vars_any s hm' ((p + 4 : Nat) : Int) 3 (by omega) W)
    rw [show (3 : Int).toNat = 3 from rfl] at HV
    have HSC := hide (scan_at (bl s) p (by rw [bl_len]; exact hp))
    unfold rowAt at HSC
    obtain ⟨Q, hQ⟩ : ∃ Q, Q = (varsF (bl s) 3 ((p + 4 : Nat) : Int)).2 := ⟨_, rfl⟩
    obtain ⟨L, hL⟩ : ∃ L, L = (varsF (bl s) 3 ((p + 4 : Nat) : Int)).1 := ⟨_, rfl⟩
    rw [← hQ, ← hL] at HV HSC
    have hcast : (((p + 4 : Nat) : Int)) = (p : Int) + 4 := by omega
    rw [hcast] at HV
    have HT := hide (fun W => l6Take_any s hm' Q W)
    obtain ⟨TB, hTB⟩ : ∃ TB, TB = takeB (bl s) Q := ⟨_, rfl⟩
    obtain ⟨TE, hTE⟩ : ∃ TE, TE = takeE (bl s) Q := ⟨_, rfl⟩
    rw [← hTB, ← hTE] at HT HSC
    clear hQ hL hTB hTE hcast
    unfold VarsPost at HV
    rcases HSC.out with ⟨h1, hng⟩ | ⟨a, b, c, e, hL, hTE, hpe, heS, hcase⟩
    · obtain ⟨e1, e2⟩ := scan_end HX.out HPL.out hng
      have hd : decide (TE < 0) = true := decide_eq_true (by omega)
      have HE1 := hide e1
      have HE2 := hide e2
      clear hng e1 e2 h1 HSC
      go_wp2_with fail
      refine (HV.out _).mono ?_
      rintro e w1 ⟨v, rfl, ho, hb1⟩
      have HB1 := hide (HB.out.trans (hb1.mono HB.out.size))
      have HO1 := hide (HO.out.below hb1 (Nat.le_refl _))
      clear hb1 ho
      go_wp2_with fail
      refine (HT.out _).mono ?_
      rintro e w2 ⟨rfl, hb2⟩
      have HB2 := hide (HB1.out.trans (hb2.mono HB1.out.size))
      have HO2 := hide (HO1.out.below hb2 (Nat.le_refl _))
      clear hb2
      go_wp2_with fail
      go_ret2
      exact ⟨_, by rw [HE2.out]; rfl, by rw [HE1.out]; exact HO2.out, HB2.out⟩
    · rw [bl_len] at heS
      subst hL
      subst hTE
      have hd : decide ((e : Int) < 0) = false := decide_eq_false (by omega)
      have HSR := hide (fun W => sShowRow_any (a : Int) (b : Int) (c : Int) ⟨TB.toArray⟩ false W)
      have HEX := hide (show s.extract p e = ⟨(((bl s).drop p).take (e - p)).toArray⟩ by have := ext_mid s p (e - p); rwa [show p + (e - p) = e by omega] at this)
      obtain ⟨SH, hSH⟩ : ∃ SH, SH = showR ((a : Int), (b : Int), (c : Int), ⟨TB.toArray⟩, false) := ⟨_, rfl⟩
      obtain ⟨CU, hCU⟩ : ∃ CU, CU = ((bl s).drop p).take (e - p) := ⟨_, rfl⟩
      rw [← hSH, ← hCU] at hcase
      rw [← hSH] at HSR
      rw [← hCU] at HEX
      have hex := HEX.out
      have HCASE := hide hcase
      have hshl := showR_len ((a : Int), (b : Int), (c : Int), ⟨TB.toArray⟩, false)
      rw [← hSH] at hshl
      have HSH := hide hSH
      clear HSC hSH hCU hcase HEX
      go_wp2_with fail
      refine (HV.out _).mono ?_
      rintro e' w1 ⟨v, rfl, ho, hb1⟩
      obtain ⟨g, cap, tl, rfl, hgb, hglt, hW⟩ := ho.words (by simp)
      have c0 : w1.cell? ⟨g, 0, none⟩ = some (.int .i64 (a : Int)) := hW.cell 0 (by simp)
      have c1 : w1.cell? ⟨g, 1, none⟩ = some (.int .i64 (b : Int)) := hW.cell 1 (by simp)
      have c2 : w1.cell? ⟨g, 2, none⟩ = some (.int .i64 (c : Int)) := hW.cell 2 (by simp)
      have HB1 := hide (HB.out.trans (hb1.mono HB.out.size))
      have HO1 := hide (HO.out.below hb1 (Nat.le_refl _))
      clear hb1 ho hW
      go_wp2_with fail
      refine (HT.out _).mono ?_
      rintro e' w3 ⟨rfl, hb2⟩
      have hgl3 : g < w3.heap.size := Nat.lt_of_lt_of_le hglt hb2.size
      have d0 := (hb2.cell (p := ⟨g, 0, none⟩) hglt).trans c0
      have d1 := (hb2.cell (p := ⟨g, 1, none⟩) hglt).trans c1
      have d2 := (hb2.cell (p := ⟨g, 2, none⟩) hglt).trans c2
      have HB2 := hide (HB1.out.trans (hb2.mono HB1.out.size))
      have HO2 := hide (HO1.out.below hb2 (Nat.le_refl _))
      clear hb2 c0 c1 c2
      go_upto_region 7 with (fail)
      go_cut [9] (fun r wc => ∃ W4, W4 = wc ∧ r = .pointer (some ⟨w3.heap.size, 0, none⟩) ∧ Hid (BoxV 49 wc w3.heap.size #[.int .i64 (a : Int), .int .i64 (b : Int), .int .i64 (c : Int), .string ⟨TB.toArray⟩, .bool false]) ∧ Hid (Below w3.heap.size w3 wc))
      case first =>
        go_wp2_with fail
        go_region
        all_goals go_wp2_with fail
        all_goals go_meet
        all_goals exact ⟨_, rfl, rfl, BoxV.new _ w3.drew _, (Below.refl _ w3).drew.alloc (Nat.le_refl _) _⟩
      case rest =>
      obtain ⟨W4, rfl, rfl, HBX, HB3⟩ := hcut
      have HB4 := hide (HB2.out.trans (HB3.out.mono HB2.out.size))
      have HO4 := hide (HO2.out.below HB3.out (Nat.le_refl _))
      have HD := hide (fun (w' : World) (h : Below W4.heap.size W4 w') => (HBX.out.below h HBX.out.lt).five)
      have hz4 := HBX.out.lt
      obtain ⟨k0, k1, k2, k3, k4⟩ := HBX.out.five
      clear d0 d1 d2 HB3 HB2 HO2 HB1 HO1 hglt hgb hgl3
      rcases HCASE.out with ⟨⟨n1, n2⟩, hg, hr, hee⟩ | ⟨hbad, hng⟩
      · rw [HSH.out] at hee
        obtain ⟨m1, m2⟩ := scan_more HX.out HPL.out hg hr hee
        have hsp : 0 < SH.length := List.length_pos_iff.2 n1
        rw [← HSH.out] at hee
        have HX1 := hide m1
        have HPL1 := hide m2
        have hse : SH.isEmpty = false := List.isEmpty_eq_false_iff.mpr n1
        have hlt : p < e := by omega
        subst n2
        clear m1 m2 hg hr hee n1 HCASE hsp
        go_wp2_with fail
        go_region_held3 (fun w' => w'.cell? ⟨w3.heap.size, 0, none⟩ = some (.int .i64 (a : Int)) ∧ w'.cell? ⟨w3.heap.size, 1, none⟩ = some (.int .i64 (b : Int)) ∧ w'.cell? ⟨w3.heap.size, 2, none⟩ = some (.int .i64 (c : Int)) ∧ w'.cell? ⟨w3.heap.size, 3, none⟩ = some (.string ⟨TB.toArray⟩) ∧ w'.cell? ⟨w3.heap.size, 4, none⟩ = some (.bool false))
          (first
            | with_reducible exact HD.out _ (Below.refl _ _)
            | with_reducible exact HD.out _ (Below.refl _ _).drew
            | with_reducible exact HD.out _ HW5.out
            | with_reducible exact HD.out _ HW6.out)
          (first
            | (have hq5 := HW5.out
               clear hq5
               go_at_call 40
               refine (HSR.out _).mono ?_
               rintro e' w6 ⟨rfl, hb6⟩
               have HW6 := hide (HW5.out.trans (hb6.mono HW5.out.size))
               clear hb6)
            | (go_at_call 40
               refine (HSR.out _).mono ?_
               rintro e' w5 ⟨rfl, hb5⟩
               have HW5 := hide (below_of_drew' hb5)
               clear hb5))
        all_goals
          have HB6 := hide (HB4.out.trans (HW6.out.mono HB4.out.size))
          have HO6 := hide (HO4.out.below HW6.out (Nat.le_refl _))
          have HOa := hide (HO6.out.alloc (.cells #[.int .i64 (a : Int), .int .i64 (b : Int), .int .i64 (c : Int), .string ⟨TB.toArray⟩, .bool false] 49))
          have HSa : Hid (elLogRow.Rd (w6.alloc (.cells #[.int .i64 (a : Int), .int .i64 (b : Int), .int .i64 (c : Int), .string ⟨TB.toArray⟩, .bool false] 49)) (w6.alloc (.cells #[.int .i64 (a : Int), .int .i64 (b : Int), .int .i64 (c : Int), .string ⟨TB.toArray⟩, .bool false] 49)).heap.size (some ⟨w6.heap.size, 0, none⟩) [((a : Int), (b : Int), (c : Int), ⟨TB.toArray⟩, false)]) := El.Holds.rd (El.Holds.new (e := elLogRow) w6 [((a : Int), (b : Int), (c : Int), ⟨TB.toArray⟩, false)])
          have HBa := hide (HB6.out.alloc HB6.out.size (.cells #[.int .i64 (a : Int), .int .i64 (b : Int), .int .i64 (c : Int), .string ⟨TB.toArray⟩, .bool false] 49))
          have hBa : w.heap.size ≤ (w6.alloc (.cells #[.int .i64 (a : Int), .int .i64 (b : Int), .int .i64 (c : Int), .string ⟨TB.toArray⟩, .bool false] 49)).heap.size := HBa.out.size
          have hjl : (pre ++ [(((a : Int), (b : Int), (c : Int), ⟨TB.toArray⟩, false) : Lg)]).length = j + 1 := by rw [List.length_append, hpre]; rfl
          obtain ⟨f0, f1, f2, f3, f4⟩ := HD.out _ HW6.out
          go_wp2_with (at_builtin; refine El.append rfl (.tmp 53) (.tmp 55) 43 rfl Tryd.underlying43 _ _ infoLogRow rfl (by decide) (by decide) w.heap.size w _ _ (some ⟨w6.heap.size, 0, none⟩) 1 1 pre [((a : Int), (b : Int), (c : Int), ⟨TB.toArray⟩, false)] rfl rfl rfl (fun h => by cases h) HOa HSa (fun p hp => ⟨_, _, (Option.some.inj hp).symm⟩) HBa hBa _ (j + 1) rfl hjl (by omega) ?_; intro a5 c5 w8 HO8 HB8 HG8 hz8)
          go_wp2_with fail
          go_roundw
        all_goals first
          | exact ⟨e, j + 1, a5, c5, _, rfl, rfl, heS, hjl, HX1, HPL1, HO8, HB8⟩
          | (simp [intOf]; omega)
      · obtain ⟨e1, e2⟩ := scan_end HX.out HPL.out hng
        have HE1 := hide e1
        have HE2 := hide e2
        clear e1 e2 hng HCASE
        by_cases h0 : SH = []
        · subst h0
          clear hbad
          go_wp2_with fail
          refine wp_region_held_drew (S := (fun w' => w'.cell? ⟨w3.heap.size, 0, none⟩ = some (.int .i64 (a : Int)) ∧ w'.cell? ⟨w3.heap.size, 1, none⟩ = some (.int .i64 (b : Int)) ∧ w'.cell? ⟨w3.heap.size, 2, none⟩ = some (.int .i64 (c : Int)) ∧ w'.cell? ⟨w3.heap.size, 3, none⟩ = some (.string ⟨TB.toArray⟩) ∧ w'.cell? ⟨w3.heap.size, 4, none⟩ = some (.bool false))) (by kernel_rfl) (HD.out _ (Below.refl _ _).drew) (fun hHeld => ?_)
          refine wpAnyH_take (i := 0) (v := ?_) rfl (by kernel_rfl) (by kernel_rfl) (by kernel_rfl) (fun _ _ _ h => h) (Or.inl ⟨by rfl, ?_⟩) (by assumption) ?_
          rotate_left 1
          · intro w hSw
            (try dsimp only at hSw)
            go_simp
            try with_reducible rfl
          go_simp
          refine wpAnyH_ready (rs := [1]) (by kernel_rfl) (by simp) ?_
          refine AllReadyH.cons rfl (fun K hK => ?_) AllReadyH.nil
          go_simp
          go_at_call 40
          refine (HSR.out _).mono ?_
          rintro e' w5 ⟨rfl, hb5⟩
          have HW5 := hide (below_of_drew' hb5)
          clear hb5 hHeld
          refine hK.out _ _ (HD.out _ HW5.out) (fun hHeld => ?_)
          clear hK K
          go_simp
          refine wpAnyH_take (i := 2) (v := ?_) rfl (by kernel_rfl) (by kernel_rfl) (by kernel_rfl) (fun _ _ _ h => h) (Or.inl ⟨by rfl, ?_⟩) (by assumption) ?_
          rotate_left 1
          · intro w hSw
            (try dsimp only at hSw)
            go_simp
            try with_reducible rfl
          go_simp
          refine wpAnyH_take (i := 3) (v := ?_) rfl (by kernel_rfl) (by kernel_rfl) (by kernel_rfl) (fun _ _ _ h => h) (Or.inl ⟨by rfl, ?_⟩) (by assumption) ?_
          rotate_left 1
          · intro w hSw
            (try dsimp only at hSw)
            go_simp
            try with_reducible rfl
          go_simp
          refine wpAnyH_take (i := 4) rfl (by kernel_rfl) (by kernel_rfl) (by kernel_rfl) (fun _ _ _ h => h) (Or.inr ⟨by rfl, rfl⟩) (by assumption) ?_
          go_simp
          refine wpAnyH_take (i := 5) rfl (by kernel_rfl) (by kernel_rfl) (by kernel_rfl) (fun _ _ _ h => h) (Or.inr ⟨by rfl, rfl⟩) (by assumption) ?_
          go_simp
          refine wpAnyH_take (i := 6) rfl (by kernel_rfl) (by kernel_rfl) (by kernel_rfl) (fun _ _ _ h => h) (Or.inr ⟨by rfl, rfl⟩) (by assumption) ?_
          go_simp
          refine wpAnyH_take (i := 7) rfl (by kernel_rfl) (by kernel_rfl) (by kernel_rfl) (fun _ _ _ h => h) (Or.inr ⟨by rfl, rfl⟩) (by assumption) ?_
          go_simp
          refine wpAnyH_take (i := 8) rfl (by kernel_rfl) (by kernel_rfl) (by kernel_rfl) (fun _ _ _ h => h) (Or.inr ⟨by rfl, rfl⟩) (by assumption) ?_
          go_simp
          refine wpAnyH_take (i := 9) rfl (by kernel_rfl) (by kernel_rfl) (by kernel_rfl) (fun _ _ _ h => h) (Or.inr ⟨by rfl, rfl⟩) (by assumption) ?_
          go_simp
          refine wpAnyH_take (i := 10) rfl (by kernel_rfl) (by kernel_rfl) (by kernel_rfl) (fun _ _ _ h => h) (Or.inr ⟨by rfl, rfl⟩) (by assumption) ?_
          go_simp
          refine wpAnyH_take (i := 11) (v := ?_) rfl (by kernel_rfl) (by kernel_rfl) (by kernel_rfl) (fun _ _ _ h => h) (Or.inl ⟨by rfl, ?_⟩) (by assumption) ?_
          rotate_left 1
          · intro w hSw
            (try dsimp only at hSw)
            go_simp
            try with_reducible rfl
          go_simp
          refine wpAnyH_done (by kernel_rfl) ?_ _
          clear hHeld
          go_wp2_with fail
          go_ret2
          exact ⟨_, by rw [HE2.out]; rfl, by rw [HE1.out]; exact HO4.out.below HW5.out (Nat.le_refl _), HB4.out.trans (HW5.out.mono HB4.out.size)⟩
        · have hse : SH.isEmpty = false := List.isEmpty_eq_false_iff.mpr h0
          have hne : (SH == CU) = false := by
            rw [beq_eq_false_iff_ne]
            rcases hbad with h | h
            · exact absurd h h0
            · exact h
          clear hbad h0
          go_wp2_with fail
          go_region_held3 (fun w' => w'.cell? ⟨w3.heap.size, 0, none⟩ = some (.int .i64 (a : Int)) ∧ w'.cell? ⟨w3.heap.size, 1, none⟩ = some (.int .i64 (b : Int)) ∧ w'.cell? ⟨w3.heap.size, 2, none⟩ = some (.int .i64 (c : Int)) ∧ w'.cell? ⟨w3.heap.size, 3, none⟩ = some (.string ⟨TB.toArray⟩) ∧ w'.cell? ⟨w3.heap.size, 4, none⟩ = some (.bool false))
            (first
              | with_reducible exact HD.out _ (Below.refl _ _)
              | with_reducible exact HD.out _ (Below.refl _ _).drew
              | with_reducible exact HD.out _ HW5.out
              | with_reducible exact HD.out _ HW6.out)
            (first
              | (have hq5 := HW5.out
                 clear hq5
                 go_at_call 40
                 refine (HSR.out _).mono ?_
                 rintro e' w6 ⟨rfl, hb6⟩
                 have HW6 := hide (HW5.out.trans (hb6.mono HW5.out.size))
                 clear hb6)
              | (go_at_call 40
                 refine (HSR.out _).mono ?_
                 rintro e' w5 ⟨rfl, hb5⟩
                 have HW5 := hide (below_of_drew' hb5)
                 clear hb5))
          all_goals go_wp2_with fail
          all_goals go_ret2
          all_goals exact ⟨_, by rw [HE2.out]; rfl, by rw [HE1.out]; exact HO4.out.below HW6.out (Nat.le_refl _), HB4.out.trans (HW6.out.mono HB4.out.size)⟩
end Go.Proofs.YtakjjfbocokpaaaDoor
