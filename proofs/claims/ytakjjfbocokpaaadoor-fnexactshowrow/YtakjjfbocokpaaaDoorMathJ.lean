/-
  Batches cut off a string one piece behind another, as the program reads them. Nothing here speaks of the program.
-/
import Derived.Test.YtakjjfbocokpaaaDoorMathV
namespace Go.Proofs.YtakjjfbocokpaaaDoor
open Go.RowKit

/-- the sized text that l begins with, and what follows it -/
def cutT (l : List UInt8) : List UInt8 := if (l.length : Int) - (readVarL l).2 < (readVarL l).1 then [] else (l.drop (readVarL l).2).take (readVarL l).1
def cutR (l : List UInt8) : List UInt8 := if (l.length : Int) - (readVarL l).2 < (readVarL l).1 then l else l.drop ((readVarL l).2 + (readVarL l).1)
def cutO (l : List UInt8) : Opn :=
  if l = [] then (⟨#[]⟩, false, ⟨#[]⟩) else if l.take 1 = [1] then (⟨(cutT (l.drop 1)).toArray⟩, true, ⟨#[]⟩) else (⟨(cutT (l.drop 1)).toArray⟩, false, ⟨(cutT (cutR (l.drop 1))).toArray⟩)
def cutS (l : List UInt8) : List UInt8 := if l = [] then [] else if l.take 1 = [1] then cutR (l.drop 1) else cutR (cutR (l.drop 1))
def cutN : Nat → List UInt8 → List Opn
  | 0, _ => []
  | n + 1, l => cutO l :: cutN n (cutS l)
def claimL (s : List UInt8) : List Opn := cutN (min (readVarL s).1 6) (s.drop (readVarL s).2)
theorem length_cutN : ∀ n l, (cutN n l).length = n
  | 0, _ => rfl
  | n + 1, l => by rw [cutN, List.length_cons, length_cutN]
theorem length_claimL (s : List UInt8) : (claimL s).length ≤ 6 := by rw [claimL, length_cutN]; omega
theorem cut_far {l : List UInt8} {x n : Nat} (hr : readVarL l = (x, n)) (h : (l.length : Int) - n < x) : cutT l = [] ∧ cutR l = l := by
  unfold cutT cutR
  rw [hr]
  exact ⟨if_pos h, if_pos h⟩
theorem cut_near {l : List UInt8} {x n : Nat} (hr : readVarL l = (x, n)) (h : ¬ (l.length : Int) - n < x) : cutT l = (l.drop n).take x ∧ cutR l = l.drop (n + x) := by
  unfold cutT cutR
  rw [hr]
  exact ⟨if_neg h, if_neg h⟩
theorem cutR_le (l : List UInt8) : (cutR l).length ≤ l.length := by
  unfold cutR
  split
  · omega
  · rw [List.length_drop]; omega
theorem cutT_le (l : List UInt8) : (cutT l).length ≤ l.length := by
  unfold cutT
  split
  · simp
  · rw [List.length_take, List.length_drop]; omega
theorem cutS_le (l : List UInt8) : (cutS l).length ≤ l.length := by
  unfold cutS
  have h1 := cutR_le (l.drop 1)
  have h2 := cutR_le (cutR (l.drop 1))
  rw [List.length_drop] at h1
  split
  · simp
  · split
    · omega
    · omega
theorem cut_piece (p r : List UInt8) (hp : p.length ≤ 562949953421311) : cutT (pieceL p ++ r) = p ∧ cutR (pieceL p ++ r) = r := by
  have e : pieceL p ++ r = varL p.length ++ (p ++ r) := by rw [pieceL, List.append_assoc]
  have hr := readVarL_var p.length hp (p ++ r)
  rw [← e] at hr
  have hl : (pieceL p ++ r).length = (varL p.length).length + p.length + r.length := by rw [e, List.length_append, List.length_append]; omega
  obtain ⟨h1, h2⟩ := cut_near hr (by rw [hl]; omega)
  have hd : (pieceL p ++ r).drop (varL p.length).length = p ++ r := by rw [e]; exact drop_pre _ _
  rw [h1, h2, ← List.drop_drop, hd]
  exact ⟨List.take_left, List.drop_left⟩
theorem cutO_del {l : List UInt8} (h0 : l ≠ []) (h : l.take 1 = [1]) : cutO l = (⟨(cutT (l.drop 1)).toArray⟩, true, ⟨#[]⟩) ∧ cutS l = cutR (l.drop 1) := by
  unfold cutO cutS
  rw [if_neg h0, if_neg h0]
  exact ⟨if_pos h, if_pos h⟩
theorem cutO_put {l : List UInt8} (h0 : l ≠ []) (h : ¬ l.take 1 = [1]) : cutO l = (⟨(cutT (l.drop 1)).toArray⟩, false, ⟨(cutT (cutR (l.drop 1))).toArray⟩) ∧ cutS l = cutR (cutR (l.drop 1)) := by
  unfold cutO cutS
  rw [if_neg h0, if_neg h0]
  exact ⟨if_neg h, if_neg h⟩
theorem cut_op {o : Opn} (ho : opOk o) (r : List UInt8) : cutO (opL o ++ r) = o ∧ cutS (opL o ++ r) = r := by
  obtain ⟨h1, h2⟩ := opOk_len ho
  obtain ⟨k, d, v⟩ := o
  cases d with
  | true =>
    have hv : v = ⟨#[]⟩ := size_zero (ho.2.2.2 rfl)
    subst hv
    have e : opL (k, true, ⟨#[]⟩) ++ r = 1 :: (pieceL (bl k) ++ r) := by simp [opL]
    obtain ⟨c1, c2⟩ := cut_piece (bl k) r h1
    obtain ⟨d1, d2⟩ := cutO_del (l := 1 :: (pieceL (bl k) ++ r)) (by simp) (by simp)
    rw [e, d1, d2, List.drop_succ_cons, List.drop_zero, c1, c2, mk_bl]
    exact ⟨rfl, rfl⟩
  | false =>
    have e : opL (k, false, v) ++ r = 0 :: (pieceL (bl k) ++ (pieceL (bl v) ++ r)) := by simp [opL]
    obtain ⟨c1, c2⟩ := cut_piece (bl k) (pieceL (bl v) ++ r) h1
    obtain ⟨c3, c4⟩ := cut_piece (bl v) r h2
    obtain ⟨d1, d2⟩ := cutO_put (l := 0 :: (pieceL (bl k) ++ (pieceL (bl v) ++ r))) (by simp) (by simp)
    rw [e, d1, d2, List.drop_succ_cons, List.drop_zero, c1, c2, c3, c4, mk_bl, mk_bl]
    exact ⟨rfl, rfl⟩
theorem cut_ops : ∀ (l : List Opn) (r : List UInt8), (∀ o ∈ l, opOk o) → cutN l.length (opsL l ++ r) = l
  | [], r, _ => rfl
  | o :: l, r, ho => by
    obtain ⟨h1, h2⟩ := cut_op (ho o (by simp)) (opsL l ++ r)
    have e : opsL (o :: l) ++ r = opL o ++ (opsL l ++ r) := by rw [opsL_cons, List.append_assoc]
    rw [List.length_cons, cutN, e, h1, h2, cut_ops l r fun x hx => ho x (by simp [hx])]
theorem claim_show {l : List Opn} (h : batOk l) : claimL (showL l) = l := by
  rw [showL_yes h]
  have hr := readVarL_var l.length (by have := h.2.1; omega) (opsL l)
  have hd : (varL l.length ++ opsL l).drop (varL l.length).length = opsL l := drop_pre _ _
  have hm : min l.length 6 = l.length := by have := h.2.1; omega
  rw [claimL, hr]
  simp only
  rw [hd, hm]
  have := cut_ops l [] h.2.2
  rwa [List.append_nil] at this
theorem claim_yes {s : List UInt8} (hs : s ≠ []) (h : showL (claimL s) = s) : readM s = claimL s ∧ readQ s = true :=
  read_of (Classical.byContradiction fun hn => hs (by rw [← h, showL_no hn])) h
theorem claim_no {s : List UInt8} (h : s = [] ∨ showL (claimL s) ≠ s) : readM s = [] ∧ readQ s = false :=
  read_none fun l hl e => by
    rcases h with h | h
    · exact showL_pos hl (e.trans h)
    · exact h (by rw [← e, claim_show hl])
end Go.Proofs.YtakjjfbocokpaaaDoor
