/-
  Plain mathematics for chapter 8: rows as strings, and the rows that a string begins with.
-/
import Derived.Test.YtakjjfbocokpaaaDoorLogN
import Derived.Test.YtakjjfbocokpaaaDoorMathC
import Derived.Test.YtakjjfbocokpaaaDoorMathJ
import Derived.Test.YtakjjfbocokpaaaDoorFixedI
import Derived.Test.YtakjjfbocokpaaaDoorVarI
import Derived.Test.YtakjjfbocokpaaaDoorCutV
namespace Go.Proofs.YtakjjfbocokpaaaDoor
open Go.ChangeShapes Go.WideShapes Go.ChangeAt Go.RowKit

abbrev Lg := Int × Int × Int × ByteArray × Bool
/-- the sum ahead of a row -/
def sumL (l : List UInt8) : List UInt8 := fixedV (4294967295 - (crcRun 4294967295 l : Int)) 4
theorem sumL_len (l : List UInt8) : (sumL l).length = 4 := by
  have h := crcRun_lt l 4294967295 (by decide)
  obtain ⟨c, hc⟩ : ∃ c : Nat, 4294967295 - (crcRun 4294967295 l : Int) = (c : Int) := ⟨(4294967295 - (crcRun 4294967295 l : Int)).toNat, by omega⟩
  have hc2 : c < 4294967296 := by omega
  rw [sumL, hc, fixedV, if_pos ⟨by decide, by decide, by omega⟩, fixedL, if_pos, length_lowB]
  · rfl
  · show c / 256 ^ 4 = 0
    exact Nat.div_eq_of_lt (by omega)
def restL (r : Lg) : List UInt8 := varV r.1 ++ varV r.2.1 ++ varV r.2.2.1 ++ pieceL (bl r.2.2.2.1)
def rowOkL (r : Lg) : Prop := (1 ≤ r.1 ∧ r.1 ≤ 99) ∧ atOk r.2.1 r.2.2.1 ∧ r.2.2.2.1.size ≤ 300
instance (r : Lg) : Decidable (rowOkL r) := by unfold rowOkL; infer_instance
def showR (r : Lg) : List UInt8 := if rowOkL r then sumL (restL r) ++ restL r else []
theorem showR_yes {r : Lg} (h : rowOkL r) : showR r = sumL (restL r) ++ restL r := if_pos h
theorem showR_no {r : Lg} (h : ¬ rowOkL r) : showR r = [] := if_neg h
theorem showR_pos {r : Lg} (h : rowOkL r) : 4 ≤ (showR r).length := by
  rw [showR_yes h, List.length_append, sumL_len]; omega
theorem showR_ne {r : Lg} (h : rowOkL r) : showR r ≠ [] := fun e => by
  have := showR_pos h
  rw [e] at this
  simp at this
theorem ok_of_show {r : Lg} (h : showR r ≠ []) : rowOkL r := Classical.byContradiction fun hn => h (showR_no hn)
/-- the row, not synced -/
def bare (r : Lg) : Lg := (r.1, r.2.1, r.2.2.1, r.2.2.2.1, false)
theorem show_bare (r : Lg) : showR (bare r) = showR r := rfl
theorem ok_bare {r : Lg} (h : rowOkL r) : rowOkL (bare r) := h
theorem varV_nat {x : Int} (h0 : 0 ≤ x) (h1 : x ≤ 562949953421311) : varV x = varL x.toNat := if_pos ⟨h0, h1⟩
theorem restL_len {r : Lg} (h : rowOkL r) : (restL r).length ≤ 328 := by
  obtain ⟨⟨h1, h2⟩, ⟨h3, h4, h5, h6⟩, h7⟩ := h
  have a := varL_len7 r.1.toNat (by omega)
  have b := varL_len7 r.2.1.toNat (by omega)
  have c := varL_len7 r.2.2.1.toNat (by omega)
  have d := varL_len7 (bl r.2.2.2.1).length (by rw [bl_len]; omega)
  rw [restL, varV_nat (by omega) (by omega), varV_nat h3 (by omega), varV_nat h5 (by omega), pieceL, List.length_append, List.length_append, List.length_append, List.length_append]
  have := bl_len r.2.2.2.1
  omega
theorem showR_len (r : Lg) : (showR r).length ≤ 332 := by
  by_cases h : rowOkL r
  · rw [showR_yes h, List.length_append, sumL_len]
    have := restL_len h
    omega
  · rw [showR_no h]; simp

/-- the only row that u can begin with, and what follows it -/
def rowU (u : List UInt8) : Lg :=
  (((cutVn (u.drop 4) : Nat) : Int), ((cutVn (cutVr (u.drop 4)) : Nat) : Int), ((cutVn (cutVr (cutVr (u.drop 4))) : Nat) : Int), ⟨(cutT (cutVr (cutVr (cutVr (u.drop 4))))).toArray⟩, false)
def rowR (u : List UInt8) : List UInt8 := cutR (cutVr (cutVr (cutVr (u.drop 4))))
theorem rowU_show {r : Lg} (h : rowOkL r) (x : List UInt8) : rowU (showR r ++ x) = bare r ∧ rowR (showR r ++ x) = x := by
  obtain ⟨⟨h1, h2⟩, ⟨h3, h4, h5, h6⟩, h7⟩ := id h
  have e : (showR r ++ x).drop 4 = varL r.1.toNat ++ (varL r.2.1.toNat ++ (varL r.2.2.1.toNat ++ (pieceL (bl r.2.2.2.1) ++ x))) := by
    have : showR r ++ x = sumL (restL r) ++ (restL r ++ x) := by rw [showR_yes h, List.append_assoc]
    rw [this, ← sumL_len (restL r), List.drop_left, restL, varV_nat (by omega) (by omega), varV_nat h3 (by omega), varV_nat h5 (by omega)]
    simp only [List.append_assoc]
  obtain ⟨a1, a2⟩ := cutV_var r.1.toNat (by omega) (varL r.2.1.toNat ++ (varL r.2.2.1.toNat ++ (pieceL (bl r.2.2.2.1) ++ x)))
  obtain ⟨b1, b2⟩ := cutV_var r.2.1.toNat (by omega) (varL r.2.2.1.toNat ++ (pieceL (bl r.2.2.2.1) ++ x))
  obtain ⟨c1, c2⟩ := cutV_var r.2.2.1.toNat (by omega) (pieceL (bl r.2.2.2.1) ++ x)
  obtain ⟨d1, d2⟩ := cut_piece (bl r.2.2.2.1) x (by rw [bl_len]; omega)
  constructor
  · rw [rowU, e, a1, a2, b1, b2, c1, c2, d1, mk_bl, Int.toNat_of_nonneg (by omega), Int.toNat_of_nonneg h3, Int.toNat_of_nonneg h5]
    rfl
  · rw [rowR, e, a2, b2, c2, d2]

def goodU (u : List UInt8) : Prop := showR (rowU u) ≠ [] ∧ showR (rowU u) <+: u
instance (u : List UInt8) : Decidable (goodU u) := by unfold goodU; infer_instance
theorem good_show {r : Lg} (h : rowOkL r) (x : List UInt8) : goodU (showR r ++ x) := by
  have e := (rowU_show h x).1
  rw [goodU, e, show_bare]
  exact ⟨showR_ne h, List.prefix_append _ _⟩
/-- a good string is a row's, and what follows -/
theorem good_split {u : List UInt8} (h : goodU u) : rowOkL (rowU u) ∧ u = showR (rowU u) ++ u.drop (showR (rowU u)).length := by
  obtain ⟨h1, x, h2⟩ := h
  refine ⟨ok_of_show h1, ?_⟩
  have : u.drop (showR (rowU u)).length = x := by
    have e : u.drop (showR (rowU u)).length = (showR (rowU u) ++ x).drop (showR (rowU u)).length := by rw [h2]
    rw [e, List.drop_left]
  rw [this, h2]
theorem bare_rowU (u : List UInt8) : bare (rowU u) = rowU u := rfl
theorem good_rest {u : List UInt8} (h : goodU u) : rowR u = u.drop (showR (rowU u)).length := by
  obtain ⟨h1, h2⟩ := good_split h
  have := (rowU_show h1 (u.drop (showR (rowU u)).length)).2
  rwa [← h2] at this

def scanF : Nat → List UInt8 → List Lg
  | 0, _ => []
  | k + 1, u => if goodU u then rowU u :: scanF k (u.drop (showR (rowU u)).length) else []
def scanV (u : List UInt8) : List Lg := scanF u.length u
theorem scanF_enough : ∀ (k : Nat) (u : List UInt8), u.length ≤ k → ∀ k', u.length ≤ k' → scanF k u = scanF k' u
  | 0, u, h, k', _ => by
    have hu : u = [] := List.length_eq_zero_iff.mp (by omega)
    subst hu
    cases k' with
    | zero => rfl
    | succ j =>
      have : ¬ goodU [] := fun hg => hg.1 (List.eq_nil_of_prefix_nil hg.2)
      rw [scanF, scanF, if_neg this]
  | k + 1, u, h, k', h' => by
    by_cases hg : goodU u
    · have hp := showR_pos (good_split hg).1
      have hl := congrArg List.length (good_split hg).2
      rw [List.length_append] at hl
      cases k' with
      | zero => omega
      | succ j => rw [scanF, scanF, if_pos hg, if_pos hg, scanF_enough k _ (by omega) j (by omega)]
    · cases k' with
      | zero => rw [scanF, scanF, if_neg hg]
      | succ j => rw [scanF, scanF, if_neg hg, if_neg hg]
theorem scan_step {u : List UInt8} (h : goodU u) : scanV u = rowU u :: scanV (u.drop (showR (rowU u)).length) := by
  have hp := showR_pos (good_split h).1
  have hl := congrArg List.length (good_split h).2
  rw [List.length_append] at hl
  obtain ⟨k, hk⟩ : ∃ k, u.length = k + 1 := ⟨u.length - 1, by omega⟩
  rw [scanV, hk, scanF, if_pos h, scanV, scanF_enough k _ (by omega) _ (Nat.le_refl _)]
theorem scan_stop {u : List UInt8} (h : ¬ goodU u) : scanV u = [] := by
  unfold scanV
  cases u.length with
  | zero => rfl
  | succ k => rw [scanF, if_neg h]
def rowsS (L : List Lg) : List UInt8 := L.flatMap showR
theorem rowsS_append (L M : List Lg) : rowsS (L ++ M) = rowsS L ++ rowsS M := by simp [rowsS]
theorem rowsS_one (r : Lg) : rowsS [r] = showR r := by simp [rowsS]
theorem rowsS_cons (r : Lg) (L : List Lg) : rowsS (r :: L) = showR r ++ rowsS L := by simp [rowsS]
theorem scan_rows : ∀ (k : Nat) (u : List UInt8), u.length ≤ k → rowsS (scanV u) <+: u
  | 0, u, h => by
    have hu : u = [] := List.length_eq_zero_iff.mp (by omega)
    subst hu
    exact List.prefix_refl _
  | k + 1, u, h => by
    by_cases hg : goodU u
    · obtain ⟨h1, h2⟩ := good_split hg
      have hp := showR_pos h1
      have hl := congrArg List.length h2
      rw [List.length_append] at hl
      obtain ⟨x, hx⟩ := scan_rows k (u.drop (showR (rowU u)).length) (by omega)
      refine ⟨x, ?_⟩
      rw [scan_step hg, rowsS_cons, List.append_assoc, hx]
      exact h2.symm
    · rw [scan_stop hg]
      exact List.nil_prefix
def endV (u : List UInt8) : Nat := (rowsS (scanV u)).length
theorem end_le (u : List UInt8) : endV u ≤ u.length := (scan_rows u.length u (Nat.le_refl _)).length_le
theorem rows_end (u : List UInt8) : rowsS (scanV u) = u.take (endV u) := by
  obtain ⟨x, hx⟩ := scan_rows u.length u (Nat.le_refl _)
  have e : u.take (endV u) = (rowsS (scanV u) ++ x).take (endV u) := by rw [hx]
  rw [e, endV, List.take_left]
theorem scan_ok : ∀ (k : Nat) (u : List UInt8), u.length ≤ k → ∀ r ∈ scanV u, rowOkL r
  | 0, u, h => by
    have hu : u = [] := List.length_eq_zero_iff.mp (by omega)
    subst hu
    intro r hr
    simp [scanV, scanF] at hr
  | k + 1, u, h => by
    by_cases hg : goodU u
    · obtain ⟨h1, h2⟩ := good_split hg
      have hp := showR_pos h1
      have hl := congrArg List.length h2
      rw [List.length_append] at hl
      rw [scan_step hg]
      intro r hr
      rcases List.mem_cons.mp hr with rfl | hr
      · exact h1
      · exact scan_ok k _ (by omega) r hr
    · rw [scan_stop hg]
      intro r hr
      simp at hr
theorem rows_long : ∀ (L : List Lg), (∀ r ∈ L, rowOkL r) → L.length ≤ (rowsS L).length
  | [], _ => Nat.zero_le _
  | r :: L, h => by
    have h1 := showR_pos (h r (by simp))
    have h2 := rows_long L fun x hx => h x (by simp [hx])
    rw [rowsS_cons, List.length_append, List.length_cons]
    omega
theorem scan_len (u : List UInt8) : (scanV u).length ≤ u.length :=
  Nat.le_trans (rows_long _ (scan_ok u.length u (Nat.le_refl _))) (end_le u)
/-- of a string that is cut off, the rows are the first ones of the whole -/
theorem good_mono {u v : List UInt8} (h : u <+: v) (hg : goodU u) : goodU v ∧ rowU v = rowU u := by
  obtain ⟨x, rfl⟩ := h
  obtain ⟨h1, h2⟩ := good_split hg
  have e : u ++ x = showR (rowU u) ++ (u.drop (showR (rowU u)).length ++ x) := by rw [← List.append_assoc, ← h2]
  rw [e]
  exact ⟨good_show h1 _, (rowU_show h1 _).1.trans (bare_rowU u)⟩
theorem scan_mono : ∀ (k : Nat) (u v : List UInt8), u.length ≤ k → u <+: v → scanV u <+: scanV v
  | 0, u, v, h, _ => by
    have hu : u = [] := List.length_eq_zero_iff.mp (by omega)
    subst hu
    exact List.nil_prefix
  | k + 1, u, v, h, hp => by
    by_cases hg : goodU u
    · obtain ⟨h1, h2⟩ := good_mono hp hg
      obtain ⟨h3, h4⟩ := good_split hg
      have hps := showR_pos h3
      have hl := congrArg List.length h4
      rw [List.length_append] at hl
      rw [scan_step hg, scan_step h1, h2]
      obtain ⟨x, rfl⟩ := hp
      have hd : (u ++ x).drop (showR (rowU u)).length = u.drop (showR (rowU u)).length ++ x := List.drop_append_of_le_length (by omega)
      rw [hd]
      obtain ⟨y, hy⟩ := scan_mono k (u.drop (showR (rowU u)).length) (u.drop (showR (rowU u)).length ++ x) (by omega) (List.prefix_append _ _)
      exact ⟨y, by rw [← hy, List.cons_append]⟩
    · rw [scan_stop hg]
      exact List.nil_prefix
theorem scan_cut (u : List UInt8) (k : Nat) : scanV (u.take k) = (scanV u).take (scanV (u.take k)).length ∧ endV (u.take k) ≤ k := by
  refine ⟨List.prefix_iff_eq_take.mp (scan_mono _ _ _ (Nat.le_refl _) (List.take_prefix _ _)), ?_⟩
  have h1 := end_le (u.take k)
  rw [List.length_take] at h1
  omega
theorem show_one : showR (1, 0, 0, ⟨#[]⟩, false) ≠ [] := showR_ne ⟨⟨by decide, by decide⟩, ⟨by decide, by decide, by decide, by decide⟩, by decide⟩
end Go.Proofs.YtakjjfbocokpaaaDoor
