/-
  Texts of this proof, put together: LogV, StrK, ShowP, OwnI, LogE, MathU.
-/
import Derived.Test.YtakjjfbocokpaaaDoorPackAD
import Derived.Test.YtakjjfbocokpaaaDoorPackAC
import Derived.Test.YtakjjfbocokpaaaDoorPackAG
import Derived.Test.YtakjjfbocokpaaaDoorPackAA
import Derived.Test.YtakjjfbocokpaaaDoorPackAJ
import Derived.WalkKit
import Derived.ProofKit
import Derived.Test.YtakjjfbocokpaaaDoorPackAM

/-
  Plain mathematics for chapter 8: rows as strings, and the rows that a string begins with.
-/
namespace Go.Proofs.YtakjjfbocokpaaaDoor
open Go.ChangeShapes Go.WideShapes Go.ChangeAt Go.RowKit

abbrev Lg := Int × Int × Int × ByteArray × Bool
/-- the sum ahead of a row -/
def sumL (l : List UInt8) : List UInt8 := fixedV (4294967295 - (crcRun 4294967295 l : Int)) 4
theorem sumL_len (l : List UInt8) : (sumL l).length = 4 := by
  have h := crcRun_lt l 4294967295 (by decide)
  obtain ⟨c, hc⟩ : ∃ c : Nat, 4294967295 - (crcRun 4294967295 l : Int) = (c : Int) := ⟨(4294967295 - (crcRun 4294967295 l : Int)).toNat, by omega⟩
  have hc2 : c < 4294967296 := by omega
  rw [sumL, hc, fixedV, if_pos ⟨by decide, by decide, by omega⟩, fixedL, if_pos, length_lowB]
  · rfl
  · show c / 256 ^ 4 = 0
    exact Nat.div_eq_of_lt (by omega)
def restL (r : Lg) : List UInt8 := varV r.1 ++ varV r.2.1 ++ varV r.2.2.1 ++ pieceL (bl r.2.2.2.1)
def rowOkL (r : Lg) : Prop := (1 ≤ r.1 ∧ r.1 ≤ 99) ∧ atOk r.2.1 r.2.2.1 ∧ r.2.2.2.1.size ≤ 300
instance (r : Lg) : Decidable (rowOkL r) := by unfold rowOkL; infer_instance
def showR (r : Lg) : List UInt8 := if rowOkL r then sumL (restL r) ++ restL r else []
theorem showR_yes {r : Lg} (h : rowOkL r) : showR r = sumL (restL r) ++ restL r := if_pos h
theorem showR_no {r : Lg} (h : ¬ rowOkL r) : showR r = [] := if_neg h
theorem showR_pos {r : Lg} (h : rowOkL r) : 4 ≤ (showR r).length := by
  rw [showR_yes h, List.length_append, sumL_len]; omega
theorem showR_ne {r : Lg} (h : rowOkL r) : showR r ≠ [] := fun e => by
  have := showR_pos h
  rw [e] at this
  simp at this
theorem ok_of_show {r : Lg} (h : showR r ≠ []) : rowOkL r := Classical.byContradiction fun hn => h (showR_no hn)
/-- the row, not synced -/
def bare (r : Lg) : Lg := (r.1, r.2.1, r.2.2.1, r.2.2.2.1, false)
theorem show_bare (r : Lg) : showR (bare r) = showR r := rfl
theorem ok_bare {r : Lg} (h : rowOkL r) : rowOkL (bare r) := h
theorem varV_nat {x : Int} (h0 : 0 ≤ x) (h1 : x ≤ 562949953421311) : varV x = varL x.toNat := if_pos ⟨h0, h1⟩
theorem restL_len {r : Lg} (h : rowOkL r) : (restL r).length ≤ 328 := by
  obtain ⟨⟨h1, h2⟩, ⟨h3, h4, h5, h6⟩, h7⟩ := h
  have a := varL_len7 r.1.toNat (by omega)
  have b := varL_len7 r.2.1.toNat (by omega)
  have c := varL_len7 r.2.2.1.toNat (by omega)
  have d := varL_len7 (bl r.2.2.2.1).length (by rw [bl_len]; omega)
  rw [restL, varV_nat (by omega) (by omega), varV_nat h3 (by omega), varV_nat h5 (by omega), pieceL, List.length_append, List.length_append, List.length_append, List.length_append]
  have := bl_len r.2.2.2.1
  omega
theorem showR_len (r : Lg) : (showR r).length ≤ 332 := by
  by_cases h : rowOkL r
  · rw [showR_yes h, List.length_append, sumL_len]
    have := restL_len h
    omega
  · rw [showR_no h]; simp

/-- the only row that u can begin with, and what follows it -/
def rowU (u : List UInt8) : Lg :=
  (((cutVn (u.drop 4) : Nat) : Int), ((cutVn (cutVr (u.drop 4)) : Nat) : Int), ((cutVn (cutVr (cutVr (u.drop 4))) : Nat) : Int), ⟨(cutT (cutVr (cutVr (cutVr (u.drop 4))))).toArray⟩, false)
def rowR (u : List UInt8) : List UInt8 := cutR (cutVr (cutVr (cutVr (u.drop 4))))
theorem rowU_show {r : Lg} (h : rowOkL r) (x : List UInt8) : rowU (showR r ++ x) = bare r ∧ rowR (showR r ++ x) = x := by
  obtain ⟨⟨h1, h2⟩, ⟨h3, h4, h5, h6⟩, h7⟩ := id h
  have e : (showR r ++ x).drop 4 = varL r.1.toNat ++ (varL r.2.1.toNat ++ (varL r.2.2.1.toNat ++ (pieceL (bl r.2.2.2.1) ++ x))) := by
    have : showR r ++ x = sumL (restL r) ++ (restL r ++ x) := by rw [showR_yes h, List.append_assoc]
    rw [this, ← sumL_len (restL r), List.drop_left, restL, varV_nat (by omega) (by omega), varV_nat h3 (by omega), varV_nat h5 (by omega)]
    simp only [List.append_assoc]
  obtain ⟨a1, a2⟩ := cutV_var r.1.toNat (by omega) (varL r.2.1.toNat ++ (varL r.2.2.1.toNat ++ (pieceL (bl r.2.2.2.1) ++ x)))
  obtain ⟨b1, b2⟩ := cutV_var r.2.1.toNat (by omega) (varL r.2.2.1.toNat ++ (pieceL (bl r.2.2.2.1) ++ x))
  obtain ⟨c1, c2⟩ := cutV_var r.2.2.1.toNat (by omega) (pieceL (bl r.2.2.2.1) ++ x)
  obtain ⟨d1, d2⟩ := cut_piece (bl r.2.2.2.1) x (by rw [bl_len]; omega)
  constructor
  · rw [rowU, e, a1, a2, b1, b2, c1, c2, d1, mk_bl, Int.toNat_of_nonneg (by omega), Int.toNat_of_nonneg h3, Int.toNat_of_nonneg h5]
    rfl
  · rw [rowR, e, a2, b2, c2, d2]

def goodU (u : List UInt8) : Prop := showR (rowU u) ≠ [] ∧ showR (rowU u) <+: u
instance (u : List UInt8) : Decidable (goodU u) := by unfold goodU; infer_instance
theorem good_show {r : Lg} (h : rowOkL r) (x : List UInt8) : goodU (showR r ++ x) := by
  have e := (rowU_show h x).1
  rw [goodU, e, show_bare]
  exact ⟨showR_ne h, List.prefix_append _ _⟩
/-- a good string is a row's, and what follows -/
theorem good_split {u : List UInt8} (h : goodU u) : rowOkL (rowU u) ∧ u = showR (rowU u) ++ u.drop (showR (rowU u)).length := by
  obtain ⟨h1, x, h2⟩ := h
  refine ⟨ok_of_show h1, ?_⟩
  have : u.drop (showR (rowU u)).length = x := by
    have e : u.drop (showR (rowU u)).length = (showR (rowU u) ++ x).drop (showR (rowU u)).length := by rw [h2]
    rw [e, List.drop_left]
  rw [this, h2]
theorem bare_rowU (u : List UInt8) : bare (rowU u) = rowU u := rfl
theorem good_rest {u : List UInt8} (h : goodU u) : rowR u = u.drop (showR (rowU u)).length := by
  obtain ⟨h1, h2⟩ := good_split h
  have := (rowU_show h1 (u.drop (showR (rowU u)).length)).2
  rwa [← h2] at this

def scanF : Nat → List UInt8 → List Lg
  | 0, _ => []
  | k + 1, u => if goodU u then rowU u :: scanF k (u.drop (showR (rowU u)).length) else []
def scanV (u : List UInt8) : List Lg := scanF u.length u
theorem scanF_enough : ∀ (k : Nat) (u : List UInt8), u.length ≤ k → ∀ k', u.length ≤ k' → scanF k u = scanF k' u
  | 0, u, h, k', _ => by
    have hu : u = [] := List.length_eq_zero_iff.mp (by omega)
    subst hu
    cases k' with
    | zero => rfl
    | succ j =>
      have : ¬ goodU [] := fun hg => hg.1 (List.eq_nil_of_prefix_nil hg.2)
      rw [scanF, scanF, if_neg this]
  | k + 1, u, h, k', h' => by
    by_cases hg : goodU u
    · have hp := showR_pos (good_split hg).1
      have hl := congrArg List.length (good_split hg).2
      rw [List.length_append] at hl
      cases k' with
      | zero => omega
      | succ j => rw [scanF, scanF, if_pos hg, if_pos hg, scanF_enough k _ (by omega) j (by omega)]
    · cases k' with
      | zero => rw [scanF, scanF, if_neg hg]
      | succ j => rw [scanF, scanF, if_neg hg, if_neg hg]
theorem scan_step {u : List UInt8} (h : goodU u) : scanV u = rowU u :: scanV (u.drop (showR (rowU u)).length) := by
  have hp := showR_pos (good_split h).1
  have hl := congrArg List.length (good_split h).2
  rw [List.length_append] at hl
  obtain ⟨k, hk⟩ : ∃ k, u.length = k + 1 := ⟨u.length - 1, by omega⟩
  rw [scanV, hk, scanF, if_pos h, scanV, scanF_enough k _ (by omega) _ (Nat.le_refl _)]
theorem scan_stop {u : List UInt8} (h : ¬ goodU u) : scanV u = [] := by
  unfold scanV
  cases u.length with
  | zero => rfl
  | succ k => rw [scanF, if_neg h]
def rowsS (L : List Lg) : List UInt8 := L.flatMap showR
theorem rowsS_append (L M : List Lg) : rowsS (L ++ M) = rowsS L ++ rowsS M := by simp [rowsS]
theorem rowsS_one (r : Lg) : rowsS [r] = showR r := by simp [rowsS]
theorem rowsS_cons (r : Lg) (L : List Lg) : rowsS (r :: L) = showR r ++ rowsS L := by simp [rowsS]
theorem scan_rows : ∀ (k : Nat) (u : List UInt8), u.length ≤ k → rowsS (scanV u) <+: u
  | 0, u, h => by
    have hu : u = [] := List.length_eq_zero_iff.mp (by omega)
    subst hu
    exact List.prefix_refl _
  | k + 1, u, h => by
    by_cases hg : goodU u
    · obtain ⟨h1, h2⟩ := good_split hg
      have hp := showR_pos h1
      have hl := congrArg List.length h2
      rw [List.length_append] at hl
      obtain ⟨x, hx⟩ := scan_rows k (u.drop (showR (rowU u)).length) (by omega)
      refine ⟨x, ?_⟩
      rw [scan_step hg, rowsS_cons, List.append_assoc, hx]
      exact h2.symm
    · rw [scan_stop hg]
      exact List.nil_prefix
def endV (u : List UInt8) : Nat := (rowsS (scanV u)).length
theorem end_le (u : List UInt8) : endV u ≤ u.length := (scan_rows u.length u (Nat.le_refl _)).length_le
theorem rows_end (u : List UInt8) : rowsS (scanV u) = u.take (endV u) := by
  obtain ⟨x, hx⟩ := scan_rows u.length u (Nat.le_refl _)
  have e : u.take (endV u) = (rowsS (scanV u) ++ x).take (endV u) := by rw [hx]
  rw [e, endV, List.take_left]
theorem scan_ok : ∀ (k : Nat) (u : List UInt8), u.length ≤ k → ∀ r ∈ scanV u, rowOkL r
  | 0, u, h => by
    have hu : u = [] := List.length_eq_zero_iff.mp (by omega)
    subst hu
    intro r hr
    simp [scanV, scanF] at hr
  | k + 1, u, h => by
    by_cases hg : goodU u
    · obtain ⟨h1, h2⟩ := good_split hg
      have hp := showR_pos h1
      have hl := congrArg List.length h2
      rw [List.length_append] at hl
      rw [scan_step hg]
      intro r hr
      rcases List.mem_cons.mp hr with rfl | hr
      · exact h1
      · exact scan_ok k _ (by omega) r hr
    · rw [scan_stop hg]
      intro r hr
      simp at hr
theorem rows_long : ∀ (L : List Lg), (∀ r ∈ L, rowOkL r) → L.length ≤ (rowsS L).length
  | [], _ => Nat.zero_le _
  | r :: L, h => by
    have h1 := showR_pos (h r (by simp))
    have h2 := rows_long L fun x hx => h x (by simp [hx])
    rw [rowsS_cons, List.length_append, List.length_cons]
    omega
theorem scan_len (u : List UInt8) : (scanV u).length ≤ u.length :=
  Nat.le_trans (rows_long _ (scan_ok u.length u (Nat.le_refl _))) (end_le u)
/-- of a string that is cut off, the rows are the first ones of the whole -/
theorem good_mono {u v : List UInt8} (h : u <+: v) (hg : goodU u) : goodU v ∧ rowU v = rowU u := by
  obtain ⟨x, rfl⟩ := h
  obtain ⟨h1, h2⟩ := good_split hg
  have e : u ++ x = showR (rowU u) ++ (u.drop (showR (rowU u)).length ++ x) := by rw [← List.append_assoc, ← h2]
  rw [e]
  exact ⟨good_show h1 _, (rowU_show h1 _).1.trans (bare_rowU u)⟩
theorem scan_mono : ∀ (k : Nat) (u v : List UInt8), u.length ≤ k → u <+: v → scanV u <+: scanV v
  | 0, u, v, h, _ => by
    have hu : u = [] := List.length_eq_zero_iff.mp (by omega)
    subst hu
    exact List.nil_prefix
  | k + 1, u, v, h, hp => by
    by_cases hg : goodU u
    · obtain ⟨h1, h2⟩ := good_mono hp hg
      obtain ⟨h3, h4⟩ := good_split hg
      have hps := showR_pos h3
      have hl := congrArg List.length h4
      rw [List.length_append] at hl
      rw [scan_step hg, scan_step h1, h2]
      obtain ⟨x, rfl⟩ := hp
      have hd : (u ++ x).drop (showR (rowU u)).length = u.drop (showR (rowU u)).length ++ x := List.drop_append_of_le_length (by omega)
      rw [hd]
      obtain ⟨y, hy⟩ := scan_mono k (u.drop (showR (rowU u)).length) (u.drop (showR (rowU u)).length ++ x) (by omega) (List.prefix_append _ _)
      exact ⟨y, by rw [← hy, List.cons_append]⟩
    · rw [scan_stop hg]
      exact List.nil_prefix
theorem scan_cut (u : List UInt8) (k : Nat) : scanV (u.take k) = (scanV u).take (scanV (u.take k)).length ∧ endV (u.take k) ≤ k := by
  refine ⟨List.prefix_iff_eq_take.mp (scan_mono _ _ _ (Nat.le_refl _) (List.take_prefix _ _)), ?_⟩
  have h1 := end_le (u.take k)
  rw [List.length_take] at h1
  omega
theorem show_one : showR (1, 0, 0, ⟨#[]⟩, false) ≠ [] := showR_ne ⟨⟨by decide, by decide⟩, ⟨by decide, by decide, by decide, by decide⟩, by decide⟩
end Go.Proofs.YtakjjfbocokpaaaDoor

/-
  Strings as lists of bytes, in the words of the walk; l1In where its answer is known.
-/
namespace Go.Proofs.YtakjjfbocokpaaaDoor
open Go.ChangeShapes Go.WideShapes Go.ChangeAt Go.RowKit

theorem bl_of (l : List UInt8) : bl ⟨l.toArray⟩ = l := rfl
theorem size_of (l : List UInt8) : (ByteArray.mk l.toArray).size = l.length := by simp [ByteArray.size]
theorem run_cat (a b : List UInt8) (h : a.length + b.length ≤ 1048576) (W : World) : (Op.stringOp .add ⟨a.toArray⟩ ⟨b.toArray⟩).run Tryd.prog W = .ok (.string ⟨(a ++ b).toArray⟩) W := by
  rw [run_string_add_sum (P := Tryd.prog) (w := W) _ _ (by rw [size_of, size_of]; omega), ByteArray.mk_append_mk]
theorem below_of_drew' {w w' : World} (h : Below w.drew.heap.size w.drew w') : Below w.heap.size w w' := ⟨h.os, h.tape, h.output, h.size, h.block⟩
theorem ne_str {a : List UInt8} {s : ByteArray} (h : a ≠ bl s) : (a == s.toList) = false := by
  rw [beq_eq_false_iff_ne, ByteArray.toList_eq]
  exact h
theorem str_of (s : ByteArray) : (⟨(bl s).toArray⟩ : ByteArray) = s := by
  obtain ⟨⟨l⟩⟩ := s
  rfl
theorem cut_mk (l : List UInt8) (d : Nat) : (ByteArray.mk l.toArray).extract d l.length = ⟨(l.drop d).toArray⟩ := by
  have := ext_drop (ByteArray.mk l.toArray) d
  rw [size_of] at this
  exact this
theorem in_yes (x a b : Int) (w : World) (h0 : a ≤ x) (h1 : x ≤ b) :
    Calls Tryd.prog 52 #[.int .i64 x, .int .i64 a, .int .i64 b] w fun e w' => e = .returned (.bool true) ∧ w = w' :=
  (l1In_any x a b w).mono fun e w' ⟨he, hw⟩ => ⟨by rw [he, decide_eq_true h0, decide_eq_true h1]; rfl, hw⟩
theorem in_no (x a b : Int) (w : World) (h : x < a ∨ b < x) :
    Calls Tryd.prog 52 #[.int .i64 x, .int .i64 a, .int .i64 b] w fun e w' => e = .returned (.bool false) ∧ w = w' :=
  (l1In_any x a b w).mono fun e w' ⟨he, hw⟩ => ⟨by
    rw [he]
    rcases h with h | h
    · rw [decide_eq_false (by omega : ¬ a ≤ x)]; rfl
    · rw [decide_eq_false (by omega : ¬ x ≤ b), Bool.and_false], hw⟩
end Go.Proofs.YtakjjfbocokpaaaDoor

/-
  Contracts of impl.sizedText and of spec.l6Piece.
-/
namespace Go.Proofs.YtakjjfbocokpaaaDoor
open Go.ChangeShapes Go.WideShapes Go.ChangeAt Go.RowKit

theorem varV_len' (n : Int) : (varV n).length ≤ 7 := by
  unfold varV
  split
  · exact varL_len7 _ (by omega)
  · exact Nat.zero_le _
theorem piece_var {s : ByteArray} (h : s.size ≤ 1000) : pieceL (bl s) = varV (s.size : Int) ++ bl s := by
  rw [pieceL, varV, if_pos (by omega), bl_len]
  rfl
theorem piece_len {s : ByteArray} (h : s.size ≤ 1000) : (pieceL (bl s)).length ≤ 7 + s.size := by
  rw [piece_var h, List.length_append, bl_len]
  have := varV_len' (s.size : Int)
  omega
theorem run_cat_s (a : List UInt8) (s : ByteArray) (h : a.length + s.size ≤ 1048576) (W : World) : (Op.stringOp .add ⟨a.toArray⟩ s).run Tryd.prog W = .ok (.string ⟨(a ++ bl s).toArray⟩) W := by
  have := run_cat a (bl s) (by rw [bl_len]; exact h) W
  rwa [str_of] at this

theorem sizedText_any (s : ByteArray) (hs : s.size ≤ 1000) (w : World) : Calls Tryd.prog 74 #[.string s] w (StrPost w (pieceL (bl s))) := by
  have HT := hide (fun W => iVar_any (s.size : Int) W)
  obtain ⟨VT, hT⟩ : ∃ VT, VT = varV (s.size : Int) := ⟨_, rfl⟩
  have hv := varV_len' (s.size : Int)
  have HV := hide (piece_var hs)
  rw [← hT] at HT HV hv
  have ha := run_cat_s VT s (by omega)
  clear hT hs hv
  go_enter Tryd.func74, Tryd.ntmps74
  go_wp2_with fail
  refine (HT.out _).mono ?_
  rintro e w1 ⟨rfl, hb1⟩
  have HB1 := hide hb1
  clear hb1
  go_wp2_with fail
  go_ret
  exact ⟨by rw [HV.out]; rfl, HB1.out⟩
theorem l6Piece_any (s : ByteArray) (hs : s.size ≤ 1000) (w : World) : Calls Tryd.prog 84 #[.string s] w (StrPost w (pieceL (bl s))) := by
  have HT := hide (fun W => sVar_any (s.size : Int) W)
  obtain ⟨VT, hT⟩ : ∃ VT, VT = varV (s.size : Int) := ⟨_, rfl⟩
  have hv := varV_len' (s.size : Int)
  have HV := hide (piece_var hs)
  rw [← hT] at HT HV hv
  have ha := run_cat_s VT s (by omega)
  clear hT hs hv
  go_enter Tryd.func84, Tryd.ntmps84
  go_wp2_with fail
  refine (HT.out _).mono ?_
  rintro e w1 ⟨rfl, hb1⟩
  have HB1 := hide hb1
  clear hb1
  go_wp2_with fail
  go_ret
  exact ⟨by rw [HV.out]; rfl, HB1.out⟩

end Go.Proofs.YtakjjfbocokpaaaDoor

/-
  A slice of ints that the call itself owns: appended to, and read as words.
-/
namespace Go.Proofs.YtakjjfbocokpaaaDoor
open Go.ChangeShapes Go.WideShapes Go.ChangeAt Go.RowKit

theorem infoI : (Tryd.prog.info? 3).map (fun i => (i.zero, i.size, i.bytes)) = some (some (.int .i64 0), 1, 8) := by kernel_rfl
theorem wordVals_one (k : IntKind) (L : List Nat) : ∀ v ∈ wordVals k L, v.oneCell' = true := by
  intro v hv
  simp [wordVals] at hv
  obtain ⟨c, _, rfl⟩ := hv
  rfl
theorem wordVals_append (k : IntKind) (L M : List Nat) : wordVals k L ++ wordVals k M = wordVals k (L ++ M) := by simp [wordVals]
theorem wordVals_some (k : IntKind) (L : List Nat) (j : Nat) (v : Value) (h : (wordVals k L)[j]? = some v) : ∃ _ : j < L.length, v = .int k (wd L j : Nat) := by
  have hj : j < L.length := by have := (List.getElem?_eq_some_iff.1 h).1; simpa [wordVals] using this
  refine ⟨hj, ?_⟩
  have : (wordVals k L)[j]? = some (.int k (wd L j : Nat)) := by simp [wordVals, wd, hj]
  rw [this] at h
  exact (Option.some.inj h).symm

def OwnsW (B : Nat) (w : World) (v : Value) (L : List Nat) : Prop := w.ownsRow B 3 1 v L.length (wordVals .i64 L)
theorem OwnsW.lit (B : Nat) (w : World) (L : List Nat) (hB : B ≤ w.heap.size) (hl : L.length ≤ maxLen) : OwnsW B (w.alloc (.cells (wordVals .i64 L).toArray 3)) (.slice (some ⟨w.heap.size, 0, none⟩) L.length L.length) L := by
  have := World.ownsRow_lit (base := B) (e := 3) (size := 1) w (wordVals .i64 L).toArray L.length hB hl (by simp [length_wordVals])
  simpa [OwnsW] using this
/-- What is owned and not empty is a block of words. -/
theorem OwnsW.words {B : Nat} {w : World} {v : Value} {L : List Nat} (h : OwnsW B w v L) (hp : 0 < L.length) : ∃ g cap tl, v = .slice (some ⟨g, 0, none⟩) L.length cap ∧ B ≤ g ∧ g < w.heap.size ∧ Words .i64 3 tl w g L := by
  obtain ⟨hl, ⟨rfl, h0⟩ | ⟨g, cap, cur, rfl, hg, hh, hn, hc, hs, ht⟩⟩ := h
  · omega
  · refine ⟨g, cap, cur.toList.drop L.length, rfl, hg, ?_, ?_⟩
    · exact (Array.getElem?_eq_some_iff.1 hh).1
    · unfold Words
      rw [Nat.mul_one] at ht
      rw [← ht, List.take_append_drop]
      exact hh

theorem wp_appendW {o : Oper} {a : Act} {K : Act → World → Prop} {Q : Exit → Act → World → Prop} (s x : Operand)
    (ho : o.op = .call { callee := .builtin .append, args := #[s, x], argTypes := #[77, 77] })
    (B : Nat) (w0 wr : World) (ad : Addr) (v : Value) (l cs : List Nat) (m c : Nat) (hs : a.eval s = v) (hx : a.eval x = .slice (some ad) m c)
    (hown : OwnsW B wr v l) (hbel : Below B w0 wr) (hB : B ≤ wr.heap.size)
    (hc : ∀ j, j < cs.length → wr.cell? (ad.add j) = some (.int .i64 (wd cs j : Nat))) (hm : cs.length = m) (hlen : l.length + m ≤ 1099511627776)
    (h : ∀ v' w', Hid (OwnsW B w' v' (l ++ cs)) → Hid (Below B w0 w') → wr.heap.size ≤ w'.heap.size → K (a.put o.dst v') w') :
    o.wp Tryd.prog a wr K Q := by
  obtain ⟨i0, hi, hz0, hz1, hz2⟩ := info_parts infoI
  refine wp_append_own _ s x 77 ho B 3 i0 (.int .i64 0) 1 8 Tryd.underlying77 hi hz0 hz1 hz2 rfl (by decide) v l.length (wordVals .i64 l) hs hown
    ad m c (wordVals .i64 cs) hx (by rw [length_wordVals, hm]; omega) ?_ (wordVals_one _ cs) (by unfold maxLen; omega) (by omega) hB ?_
  · intro j u hj
    obtain ⟨hj', rfl⟩ := wordVals_some _ cs j u hj
    exact hc j hj'
  · intro v' w' h1 h2 _
    refine h v' w' ?_ ?_ h2.size
    · show World.ownsRow _ _ _ _ _ _ _
      rw [List.length_append, hm]
      rwa [wordVals_append] at h1
    · exact Below.grown hbel h2 hB (fun k hk => (World.ownsRow.lt hown k hk).1)

theorem Words.new (T : TypeId) (k : IntKind) (w : World) (L : List Nat) : Words k T [] (w.alloc (.cells (wordVals k L).toArray T)) w.heap.size L := by
  unfold Words; rw [List.append_nil]; exact Go.Deep.blk_alloc_new w _
/-- what is appended lies in a new block -/
theorem appendW {ops : Array Oper} {rest : List Oper} {o : Oper} {a : Act} {Q : Exit → Act → World → Prop} (hgd : o.guard = none) (s x : Operand)
    (ho : o.op = .call { callee := .builtin .append, args := #[s, x], argTypes := #[77, 77] })
    (B : Nat) (w0 wr : World) (v : Value) (l cs : List Nat) (m : Nat) (vs : Array Value) (hs : a.eval s = v) (hx : a.eval x = .slice (some ⟨wr.heap.size, 0, none⟩) m m)
    (hown : Hid (OwnsW B wr v l)) (hbel : Hid (Below B w0 wr)) (hB : B ≤ wr.heap.size)
    (hv : vs = (wordVals .i64 cs).toArray) (hm : cs.length = m) (hlen : l.length + m ≤ 1099511627776)
    (h : ∀ v' w', Hid (OwnsW B w' v' (l ++ cs)) → Hid (Below B w0 w') → wr.heap.size < w'.heap.size → wpList Tryd.prog ops Q rest (a.put o.dst v') w') :
    wpList Tryd.prog ops Q (o :: rest) a (wr.alloc (.cells vs 3)) := by
  subst hv
  refine wpList_plain hgd fun K hK => ?_
  refine wp_appendW s x ho B w0 _ ⟨wr.heap.size, 0, none⟩ v l cs m m hs hx (World.ownsRow.alloc (h := hown.out) (o := .cells (wordVals .i64 cs).toArray 3)) (hbel.out.alloc hB _) (by rw [Go.Deep.nblk_alloc]; omega) (fun j hj => by rw [addr_add0]; exact (Words.new 3 .i64 wr cs).cell j hj) hm hlen fun v' w' h1 h2 h3 => hK _ _ (h v' w' h1 h2 ?_)
  rw [Go.Deep.nblk_alloc] at h3
  omega
/-- what is appended, to a new slice without a cell, are the words of block g -/
theorem appendCopy {ops : Array Oper} {rest : List Oper} {o : Oper} {a : Act} {Q : Exit → Act → World → Prop} (hgd : o.guard = none) (s x : Operand)
    (ho : o.op = .call { callee := .builtin .append, args := #[s, x], argTypes := #[77, 77] })
    (wr : World) (cs : List Nat) (m c g : Nat) (tl : List Value) (hs : a.eval s = .slice (some ⟨wr.heap.size, 0, none⟩) 0 0) (hx : a.eval x = .slice (some ⟨g, 0, none⟩) m c)
    (hw : Hid (Words .i64 3 tl wr g cs)) (hg : g < wr.heap.size) (hm : cs.length = m) (hlen : m ≤ 1099511627776)
    (h : ∀ v' w', Hid (OwnsW wr.heap.size w' v' cs) → Hid (Below wr.heap.size wr w') → wr.heap.size < w'.heap.size → wpList Tryd.prog ops Q rest (a.put o.dst v') w') :
    wpList Tryd.prog ops Q (o :: rest) a (wr.alloc (.cells #[] 3)) := by
  refine wpList_plain hgd fun K hK => ?_
  refine wp_appendW s x ho wr.heap.size wr _ ⟨g, 0, none⟩ _ [] cs m c hs hx (OwnsW.lit _ wr [] (Nat.le_refl _) (by unfold maxLen; simp)) ((Below.refl _ _).alloc (Nat.le_refl _) _) (by rw [Go.Deep.nblk_alloc]; omega) (fun j hj => by rw [addr_add0]; exact (hw.out.alloc hg _).cell j hj) hm (by simp; omega) fun v' w' h1 h2 h3 => hK _ _ (h v' w' h1 h2 ?_)
  rw [Go.Deep.nblk_alloc] at h3
  omega
end Go.Proofs.YtakjjfbocokpaaaDoor

/-
  Plain mathematics for chapter 8: the rows that a string claims to hold, one after another.
-/
namespace Go.Proofs.YtakjjfbocokpaaaDoor
open Go.ChangeShapes Go.WideShapes Go.ChangeAt Go.RowKit

def clN : Nat → List UInt8 → List Lg
  | 0, _ => []
  | k + 1, u => rowU u :: clN k (rowR u)
def restN : Nat → List UInt8 → List UInt8
  | 0, u => u
  | k + 1, u => restN k (rowR u)
theorem clN_len : ∀ k u, (clN k u).length = k
  | 0, _ => rfl
  | k + 1, u => by rw [clN, List.length_cons, clN_len k]
theorem restN_succ : ∀ k u, restN (k + 1) u = rowR (restN k u)
  | 0, _ => rfl
  | k + 1, u => by rw [restN, restN_succ k, restN]
theorem clN_succ : ∀ k u, clN (k + 1) u = clN k u ++ [rowU (restN k u)]
  | 0, _ => rfl
  | k + 1, u => by rw [clN, clN_succ k, clN, restN, List.cons_append]
theorem rowR_le (u : List UInt8) : (rowR u).length ≤ u.length - 4 := by
  unfold rowR
  have h1 := cutR_le (cutVr (cutVr (cutVr (u.drop 4))))
  have h2 := cutVr_le (cutVr (cutVr (u.drop 4)))
  have h3 := cutVr_le (cutVr (u.drop 4))
  have h4 := cutVr_le (u.drop 4)
  have h5 : (u.drop 4).length = u.length - 4 := List.length_drop ..
  omega
theorem rowR_lt {u : List UInt8} (h : u ≠ []) : (rowR u).length < u.length := by
  have := rowR_le u
  have := List.length_pos_iff.2 h
  omega
/-- if all rows claimed so far stand there, they are the first rows -/
theorem cl_good : ∀ k u, (∀ r ∈ clN k u, rowOkL r) → rowsS (clN k u) <+: u → scanV u = clN k u ++ scanV (restN k u) ∧ u = rowsS (clN k u) ++ restN k u
  | 0, u, _, _ => ⟨rfl, rfl⟩
  | k + 1, u, h, hp => by
    have h1 : rowOkL (rowU u) := h _ (by simp [clN])
    rw [clN, rowsS_cons] at hp
    have h2 : showR (rowU u) <+: u := (List.prefix_append _ _).trans hp
    have hg : goodU u := ⟨showR_ne h1, h2⟩
    have h3 := good_rest hg
    have h4 := (good_split hg).2
    rw [← h3] at h4
    have h5 : rowsS (clN k (rowR u)) <+: rowR u := by
      rw [h4] at hp
      have e : rowU (showR (rowU u) ++ rowR u) = rowU u := by rw [← h4]
      have e2 : rowR (showR (rowU u) ++ rowR u) = rowR u := by rw [← h4]
      rw [e, e2] at hp
      exact (List.prefix_append_right_inj _).mp hp
    obtain ⟨i1, i2⟩ := cl_good k (rowR u) (fun r hr => h r (by simp [clN, hr])) h5
    constructor
    · rw [scan_step hg, ← h3, i1, clN, restN, List.cons_append]
    · rw [clN, rowsS_cons, restN, List.append_assoc, ← i2]
      exact h4
/-- a whole string of rows -/
theorem cl_done {k : Nat} {u : List UInt8} (h : ∀ r ∈ clN k u, rowOkL r) (hp : rowsS (clN k u) <+: u) (he : restN k u = []) : scanV u = clN k u := by
  rw [(cl_good k u h hp).1, he]
  simp [scanV, scanF]
/-- the row behind does not stand there -/
theorem cl_stop {k : Nat} {u : List UInt8} (h : ∀ r ∈ clN k u, rowOkL r) (hp : rowsS (clN k u) <+: u) (hn : ¬ (showR (rowU (restN k u)) ≠ [] ∧ showR (rowU (restN k u)) <+: u.drop (rowsS (clN k u)).length)) : scanV u = clN k u := by
  obtain ⟨h1, h2⟩ := cl_good k u h hp
  have e : u.drop (rowsS (clN k u)).length = restN k u := by
    have e0 : u.drop (rowsS (clN k u)).length = (rowsS (clN k u) ++ restN k u).drop (rowsS (clN k u)).length := by rw [← h2]
    rw [e0, List.drop_left]
  rw [e] at hn
  rw [h1, scan_stop hn, List.append_nil]
/-- one row more that stands there -/
theorem pre_step {pre : List Lg} {x : Lg} {u : List UInt8} (h : ∀ r ∈ pre, rowOkL r) (hp : rowsS pre <+: u) (h1 : showR x ≠ []) (h2 : showR x <+: u.drop (rowsS pre).length) :
    (∀ r ∈ pre ++ [x], rowOkL r) ∧ rowsS (pre ++ [x]) <+: u ∧ (rowsS (pre ++ [x])).length = (rowsS pre).length + (showR x).length ∧ (rowsS (pre ++ [x])).length ≤ u.length := by
  have hc : rowsS (pre ++ [x]) = rowsS pre ++ showR x := by rw [rowsS_append, rowsS_one]
  have h4 : rowsS (pre ++ [x]) <+: u := by
    obtain ⟨y, hy⟩ := hp
    have e : u.drop (rowsS pre).length = y := by
      have e0 : u.drop (rowsS pre).length = (rowsS pre ++ y).drop (rowsS pre).length := by rw [hy]
      rw [e0, List.drop_left]
    rw [e] at h2
    obtain ⟨z, hz⟩ := h2
    exact ⟨z, by rw [hc, List.append_assoc, hz, hy]⟩
  refine ⟨fun r hr => ?_, h4, by rw [hc, List.length_append], h4.length_le⟩
  rcases List.mem_append.mp hr with hr | hr
  · exact h r hr
  · rw [List.mem_singleton] at hr
    rw [hr]
    exact ok_of_show h1
end Go.Proofs.YtakjjfbocokpaaaDoor

/-
  What Wrap and Unwrap answer, on lists of bytes: nothing here speaks of the program.
-/
namespace Go.Proofs.YtakjjfbocokpaaaDoor
open Go.RowKit

def crcI (l : List UInt8) : Int := 4294967295 - (crcRun 4294967295 l : Int)
theorem crcI_bd (l : List UInt8) : 0 ≤ crcI l ∧ crcI l < 4294967296 := by
  have := crcRun_lt l 4294967295 (by omega)
  unfold crcI
  omega
def wrapOk (m : List UInt8) (n : Int) (k : List UInt8) : Prop := k.length = 32 ∧ m.length = 32 ∧ 0 ≤ n ∧ n ≤ 562949953421311
instance (m : List UInt8) (n : Int) (k : List UInt8) : Decidable (wrapOk m n k) := inferInstanceAs (Decidable (_ ∧ _))
/-- the stream that hides a key, and brings it back -/
def hideV (m : List UInt8) (n : Int) (k : List UInt8) : List UInt8 := streamV m 0 (nonceL 1 n) k
def wrapV (m : List UInt8) (n : Int) (k : List UInt8) : List UInt8 := if wrapOk m n k then fixedV (crcI (hideV m n k)) 4 ++ hideV m n k else []
theorem nonceL_bad (n : Int) (h : ¬ (0 ≤ n ∧ n ≤ 562949953421311)) : nonceL 1 n = [] := by unfold nonceL; rw [if_neg (by omega)]
theorem strOk_of_wrap {m : List UInt8} {n : Int} {k : List UInt8} (hm : m.length = 32) (hn : 0 ≤ n ∧ n ≤ 562949953421311) (hk : k.length = 32) : StrOk m 0 (nonceL 1 n) k := by
  have h := length_nonceL 1 n ⟨by omega, by omega, hn.1, hn.2⟩
  refine ⟨⟨hm, h, by omega, by omega⟩, ⟨hm, h, ?_, ?_⟩⟩ <;> rw [hk] <;> simp
theorem length_hideV {m : List UInt8} {n : Int} {k : List UInt8} (h : wrapOk m n k) : (hideV m n k).length = 32 := by
  unfold hideV
  rw [streamV_ok (strOk_of_wrap h.2.1 h.2.2 h.1), length_strL, h.1]
theorem hideV_bad {m : List UInt8} {n : Int} {k : List UInt8} (hk : k.length = 32) (h : ¬ wrapOk m n k) : hideV m n k = [] := by
  unfold hideV
  refine streamV_no fun hs => h ⟨hk, hs.1.1, ?_⟩
  refine Decidable.byContradiction fun hn => ?_
  have h2 := hs.1.2.1
  rw [nonceL_bad n hn] at h2
  simp at h2
theorem fixedV4 (c : Int) (h : 0 ≤ c ∧ c < 4294967296) : (fixedV c 4).length = 4 := by
  unfold fixedV
  rw [if_pos ⟨by omega, by omega, h.1⟩]
  unfold fixedL
  rw [if_pos (by rw [show (4 : Int).toNat = 4 from rfl]; exact Nat.div_eq_of_lt (by omega)), length_lowB]
  rfl
theorem length_wrapV {m : List UInt8} {n : Int} {k : List UInt8} (h : wrapOk m n k) : (wrapV m n k).length = 36 := by
  unfold wrapV
  rw [if_pos h, List.length_append, fixedV4 _ (crcI_bd _), length_hideV h]
def unOk (m : List UInt8) (n : Int) (s : List UInt8) : Prop := s.length = 36 ∧ wrapV m n (hideV m n (s.drop 4)) = s
instance (m : List UInt8) (n : Int) (s : List UInt8) : Decidable (unOk m n s) := inferInstanceAs (Decidable (_ ∧ _))
def unKey (m : List UInt8) (n : Int) (s : List UInt8) : List UInt8 := if unOk m n s then hideV m n (s.drop 4) else []
def unB (m : List UInt8) (n : Int) (s : List UInt8) : Bool := decide (unOk m n s)
theorem unKey_yes {m : List UInt8} {n : Int} {s : List UInt8} (h : unOk m n s) : unKey m n s = hideV m n (s.drop 4) ∧ unB m n s = true := ⟨by unfold unKey; rw [if_pos h], decide_eq_true h⟩
theorem unKey_no {m : List UInt8} {n : Int} {s : List UInt8} (h : ¬ unOk m n s) : unKey m n s = [] ∧ unB m n s = false := ⟨by unfold unKey; rw [if_neg h], decide_eq_false h⟩
theorem unOk_ok {m : List UInt8} {n : Int} {s : List UInt8} (h : unOk m n s) : m.length = 32 ∧ 0 ≤ n ∧ n ≤ 562949953421311 := by
  obtain ⟨h1, h2⟩ := h
  by_cases hw : wrapOk m n (hideV m n (s.drop 4))
  · exact hw.2
  · unfold wrapV at h2
    rw [if_neg hw] at h2
    rw [← h2] at h1
    simp at h1
end Go.Proofs.YtakjjfbocokpaaaDoor
