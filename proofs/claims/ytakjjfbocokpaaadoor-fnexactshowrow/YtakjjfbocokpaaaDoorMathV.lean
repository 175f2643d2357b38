/-
  Batches as strings: what ShowBatch writes and ReadBatch accepts. Nothing here speaks of the program.
-/
import Derived.Test.YtakjjfbocokpaaaDoorMathH
import Derived.Test.YtakjjfbocokpaaaDoorVarsM
namespace Go.Proofs.YtakjjfbocokpaaaDoor
open Go.RowKit

/-- bytes behind their length -/
def pieceL (s : List UInt8) : List UInt8 := varL s.length ++ s
def opL (o : Opn) : List UInt8 := if o.2.1 = true then 1 :: pieceL (bl o.1) else 0 :: (pieceL (bl o.1) ++ pieceL (bl o.2.2))
def opsL (l : List Opn) : List UInt8 := l.flatMap opL
theorem opsL_cons (o : Opn) (l : List Opn) : opsL (o :: l) = opL o ++ opsL l := by simp [opsL]
theorem opsL_append (l m : List Opn) : opsL (l ++ m) = opsL l ++ opsL m := by simp [opsL]
def showL (l : List Opn) : List UInt8 := if batOk l then varL l.length ++ opsL l else []
theorem showL_yes {l : List Opn} (h : batOk l) : showL l = varL l.length ++ opsL l := if_pos h
theorem showL_no {l : List Opn} (h : ¬ batOk l) : showL l = [] := if_neg h
theorem showL_pos {l : List Opn} (h : batOk l) : showL l ≠ [] := by
  rw [showL_yes h]
  intro e
  have := congrArg List.length e
  rw [List.length_append] at this
  have hp := varL_pos l.length
  rw [List.length_nil] at this
  omega
/-- l6Take: so many bytes behind their number, from place p on; where they end, -1 where they do not stand there -/
def takeB (s : List UInt8) (p : Int) : List UInt8 :=
  if (varsF s 1 p).2 < 0 ∨ (s.length : Int) - (varsF s 1 p).2 < ((varsF s 1 p).1.headD 0 : Nat) then [] else (s.drop (varsF s 1 p).2.toNat).take ((varsF s 1 p).1.headD 0)
def takeE (s : List UInt8) (p : Int) : Int :=
  if (varsF s 1 p).2 < 0 ∨ (s.length : Int) - (varsF s 1 p).2 < ((varsF s 1 p).1.headD 0 : Nat) then -1 else (varsF s 1 p).2 + ((varsF s 1 p).1.headD 0 : Nat)
theorem drop_pre (pre r : List UInt8) : (pre ++ r).drop pre.length = r := List.drop_left
theorem vars_piece (pre s r : List UInt8) (hs : s.length ≤ 562949953421311) : varsF (pre ++ pieceL s ++ r) 1 (pre.length : Nat) = ([s.length], ((pre.length + (varL s.length).length : Nat) : Int)) := by
  have hd : (pre ++ pieceL s ++ r).drop pre.length = varL s.length ++ (s ++ r) := by rw [List.append_assoc, drop_pre, pieceL, List.append_assoc]
  have hr := readVarL_var s.length hs (s ++ r)
  have hp := varL_pos s.length
  have h0 : (readVarL ((pre ++ pieceL s ++ r).drop pre.length)).2 ≠ 0 := by rw [hd, hr]; simp only; omega
  rw [varsF_step _ 0 pre.length (by rw [List.length_append, List.length_append]; omega) h0, hd, hr, varsF_zero]
theorem take_piece (pre s r : List UInt8) (hs : s.length ≤ 562949953421311) : takeB (pre ++ pieceL s ++ r) (pre.length : Nat) = s ∧ takeE (pre ++ pieceL s ++ r) (pre.length : Nat) = ((pre.length + (pieceL s).length : Nat) : Int) := by
  have hv := vars_piece pre s r hs
  have hl : (pre ++ pieceL s ++ r).length = pre.length + (varL s.length).length + s.length + r.length := by rw [List.length_append, List.length_append, pieceL, List.length_append]; omega
  have hno : ¬ (((pre.length + (varL s.length).length : Nat) : Int) < 0 ∨ ((pre ++ pieceL s ++ r).length : Int) - ((pre.length + (varL s.length).length : Nat) : Int) < (([s.length] : List Nat).headD 0 : Nat)) := by
    rw [hl]
    simp only [List.headD_cons]
    omega
  constructor
  · unfold takeB
    rw [hv]
    simp only
    rw [if_neg hno, Int.toNat_natCast, List.headD_cons]
    have hd : (pre ++ pieceL s ++ r).drop (pre.length + (varL s.length).length) = s ++ r := by
      rw [show pre ++ pieceL s ++ r = (pre ++ varL s.length) ++ (s ++ r) by simp [pieceL], show pre.length + (varL s.length).length = (pre ++ varL s.length).length by rw [List.length_append]]
      exact drop_pre _ _
    rw [hd]
    exact List.take_left
  · unfold takeE
    rw [hv]
    simp only
    rw [if_neg hno, List.headD_cons, pieceL, List.length_append]
    omega

/-- the operation that stands at place p, and where it ends: as the specification reads it -/
def opAt (s : List UInt8) (p : Nat) : Opn × Int :=
  if s[p]? = some 1 then ((⟨(takeB s (p + 1 : Nat)).toArray⟩, true, ⟨#[]⟩), takeE s (p + 1 : Nat))
  else ((⟨(takeB s (p + 1 : Nat)).toArray⟩, false, ⟨(takeB s (takeE s (p + 1 : Nat))).toArray⟩), takeE s (takeE s (p + 1 : Nat)))
def opsAt (s : List UInt8) : Nat → Nat → Option (List Opn × Nat)
  | 0, p => some ([], p)
  | n + 1, p => if s.length ≤ p then none else if (opAt s p).2 < 0 then none else (opsAt s n (opAt s p).2.toNat).map fun r => ((opAt s p).1 :: r.1, r.2)
theorem mk_bl (s : ByteArray) : (⟨(bl s).toArray⟩ : ByteArray) = s := (ba_mk s).symm
theorem opOk_len {o : Opn} (h : opOk o) : (bl o.1).length ≤ 562949953421311 ∧ (bl o.2.2).length ≤ 562949953421311 := by
  rw [bl_len, bl_len]
  exact ⟨by have := h.2.1; omega, by have := h.2.2.1; omega⟩
theorem size_zero {s : ByteArray} (h : s.size = 0) : s = ⟨#[]⟩ := ba_ext (by
  have := bl_len s
  rw [h] at this
  exact List.eq_nil_of_length_eq_zero this)
theorem opAt_op (pre r : List UInt8) {o : Opn} (ho : opOk o) : opAt (pre ++ opL o ++ r) pre.length = (o, ((pre.length + (opL o).length : Nat) : Int)) := by
  obtain ⟨h1, h2⟩ := opOk_len ho
  obtain ⟨k, d, v⟩ := o
  cases d with
  | true =>
    have hv : v = ⟨#[]⟩ := size_zero (ho.2.2.2 rfl)
    subst hv
    have e : pre ++ opL (k, true, ⟨#[]⟩) ++ r = (pre ++ [1]) ++ pieceL (bl k) ++ r := by simp [opL]
    have hb : (pre ++ opL (k, true, ⟨#[]⟩) ++ r)[pre.length]? = some 1 := by simp [opL]
    have ht := take_piece (pre ++ [1]) (bl k) r h1
    rw [← e, show (pre ++ [(1 : UInt8)]).length = pre.length + 1 by simp] at ht
    rw [opAt, if_pos hb, ht.1, ht.2, mk_bl]
    simp [opL]
    omega
  | false =>
    have e : pre ++ opL (k, false, v) ++ r = (pre ++ [0]) ++ pieceL (bl k) ++ (pieceL (bl v) ++ r) := by simp [opL]
    have e2 : pre ++ opL (k, false, v) ++ r = (pre ++ [0] ++ pieceL (bl k)) ++ pieceL (bl v) ++ r := by simp [opL]
    have hb : ¬ (pre ++ opL (k, false, v) ++ r)[pre.length]? = some 1 := by simp [opL]
    have ht := take_piece (pre ++ [0]) (bl k) (pieceL (bl v) ++ r) h1
    rw [← e, show (pre ++ [(0 : UInt8)]).length = pre.length + 1 by simp] at ht
    have ht2 := take_piece (pre ++ [0] ++ pieceL (bl k)) (bl v) r h2
    rw [← e2, show (pre ++ [(0 : UInt8)] ++ pieceL (bl k)).length = pre.length + 1 + (pieceL (bl k)).length by simp only [List.length_append, List.length_cons, List.length_nil]] at ht2
    rw [opAt, if_neg hb, ht.1, ht.2, ht2.1, ht2.2, mk_bl, mk_bl]
    simp [opL]
    omega
theorem opL_pos (o : Opn) : 0 < (opL o).length := by unfold opL; split <;> simp
theorem opsAt_ops : ∀ (l : List Opn) (pre r : List UInt8), (∀ o ∈ l, opOk o) → opsAt (pre ++ opsL l ++ r) l.length pre.length = some (l, pre.length + (opsL l).length)
  | [], pre, r, _ => by simp [opsAt, opsL]
  | o :: l, pre, r, ho => by
    have e : pre ++ opsL (o :: l) ++ r = pre ++ opL o ++ (opsL l ++ r) := by simp [opsL_cons]
    have e2 : pre ++ opsL (o :: l) ++ r = (pre ++ opL o) ++ opsL l ++ r := by simp [opsL_cons]
    have h1 := opAt_op pre (opsL l ++ r) (ho o (by simp))
    rw [← e] at h1
    have h2 := opsAt_ops l (pre ++ opL o) r fun x hx => ho x (by simp [hx])
    rw [← e2, List.length_append] at h2
    have hp := opL_pos o
    have hl : ¬ (pre ++ opsL (o :: l) ++ r).length ≤ pre.length := by rw [e]; simp; omega
    rw [List.length_cons, opsAt, if_neg hl, h1]
    simp only
    rw [if_neg (by omega), Int.toNat_natCast, h2, Option.map_some, opsL_cons, List.length_append, Nat.add_assoc]
/-- the batch that s can be a text of -/
def parseL (s : List UInt8) : List Opn :=
  if (varsF s 1 0).2 < 0 ∨ 6 < (varsF s 1 0).1.headD 0 then [] else ((opsAt s ((varsF s 1 0).1.headD 0) (varsF s 1 0).2.toNat).map Prod.fst).getD []
theorem parseL_show {l : List Opn} (h : batOk l) : parseL (showL l) = l := by
  rw [showL_yes h]
  have hv : varsF (varL l.length ++ opsL l) 1 0 = ([l.length], (((varL l.length).length : Nat) : Int)) := by
    have hr := readVarL_var l.length (by have := h.2.1; omega) (opsL l)
    have hp := varL_pos l.length
    have e0 : (varL l.length ++ opsL l).drop 0 = varL l.length ++ opsL l := rfl
    rw [show (0 : Int) = ((0 : Nat) : Int) from rfl, varsF_step _ 0 0 (by omega) (by rw [e0, hr]; simp only; omega), e0, hr, varsF_zero, Nat.zero_add]
  have ho := opsAt_ops l (varL l.length) [] h.2.2
  rw [List.append_nil] at ho
  have hno : ¬ ((((varL l.length).length : Nat) : Int) < 0 ∨ 6 < ([l.length] : List Nat).headD 0) := by
    rw [List.headD_cons]
    have := h.2.1
    omega
  unfold parseL
  rw [hv]
  exact (if_neg hno).trans (by rw [List.headD_cons, Int.toNat_natCast, ho]; rfl)
theorem showL_inj {l l' : List Opn} (h : batOk l) (h' : batOk l') (e : showL l = showL l') : l = l' := by rw [← parseL_show h, e, parseL_show h']

/-- s is the text of a batch -/
def isBat (s : List UInt8) : Prop := s ≠ [] ∧ showL (parseL s) = s
instance (s : List UInt8) : Decidable (isBat s) := inferInstanceAs (Decidable (_ ∧ _))
theorem isBat_ok {s : List UInt8} (h : isBat s) : batOk (parseL s) := Classical.byContradiction fun hn => h.1 (by rw [← h.2, showL_no hn])
theorem isBat_iff (s : List UInt8) : isBat s ↔ ∃ l, batOk l ∧ showL l = s := by
  constructor
  · exact fun h => ⟨_, isBat_ok h, h.2⟩
  · rintro ⟨l, hl, rfl⟩
    exact ⟨showL_pos hl, by rw [parseL_show hl]⟩
/-- what ReadBatch answers -/
def readM (s : List UInt8) : List Opn := if isBat s then parseL s else []
def readQ (s : List UInt8) : Bool := decide (isBat s)
theorem read_of {s : List UInt8} {l : List Opn} (hl : batOk l) (h : showL l = s) : readM s = l ∧ readQ s = true := by
  have hb : isBat s := (isBat_iff s).2 ⟨l, hl, h⟩
  refine ⟨?_, decide_eq_true hb⟩
  rw [readM, if_pos hb, ← h, parseL_show hl]
theorem read_none {s : List UInt8} (h : ∀ l, batOk l → showL l ≠ s) : readM s = [] ∧ readQ s = false := by
  have hb : ¬ isBat s := fun hb => by
    obtain ⟨l, hl, e⟩ := (isBat_iff s).1 hb
    exact h l hl e
  exact ⟨if_neg hb, decide_eq_false hb⟩
theorem read_show {s : List UInt8} (h : readQ s = true) : batOk (readM s) ∧ showL (readM s) = s := by
  have hb : isBat s := of_decide_eq_true h
  rw [readM, if_pos hb]
  exact ⟨isBat_ok hb, hb.2⟩
end Go.Proofs.YtakjjfbocokpaaaDoor
