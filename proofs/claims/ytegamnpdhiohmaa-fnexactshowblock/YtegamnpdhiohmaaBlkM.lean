/-
  Blocks of entries as strings: what ShowBlock writes and ReadBlock accepts. Nothing here speaks of the program.
-/
import Derived.Test.YtegamnpdhiohmaaMathJ
import Derived.Test.YtegamnpdhiohmaaCutV
import Derived.Test.YtegamnpdhiohmaaEntM
import Derived.Test.YtegamnpdhiohmaaBeM
namespace Go.Proofs.Ytegamnpdhiohmaa
open Go.RowKit

/-- how many bytes two strings share at their beginning -/
def comL : List UInt8 → List UInt8 → Nat
  | a :: l, b :: m => if a = b then comL l m + 1 else 0
  | [], _ => 0
  | _ :: _, [] => 0
theorem comL_nil (m : List UInt8) : comL [] m = 0 := by cases m <;> rfl
theorem comL_le : ∀ l m : List UInt8, comL l m ≤ l.length ∧ comL l m ≤ m.length
  | [], m => by rw [comL_nil]; exact ⟨Nat.zero_le _, Nat.zero_le _⟩
  | a :: l, [] => ⟨Nat.zero_le _, Nat.zero_le _⟩
  | a :: l, b :: m => by
    have := comL_le l m
    rw [comL]
    split
    · simp only [List.length_cons]; omega
    · exact ⟨Nat.zero_le _, Nat.zero_le _⟩
theorem comL_take : ∀ l m : List UInt8, l.take (comL l m) = m.take (comL l m)
  | [], m => by rw [comL_nil]; simp
  | a :: l, [] => by simp [comL]
  | a :: l, b :: m => by
    rw [comL]
    split
    · next h => rw [List.take_succ_cons, List.take_succ_cons, comL_take l m, h]
    · simp
/-- as a loop finds it: so far all bytes were the same -/
theorem comL_at : ∀ (l m : List UInt8) (n : Nat), n ≤ l.length → n ≤ m.length → l.take n = m.take n → (n = l.length ∨ n = m.length ∨ l[n]? ≠ m[n]?) → comL l m = n
  | [], m, n, h1, _, _, _ => by
    rw [comL_nil]
    simp at h1
    exact h1.symm
  | a :: l, [], n, _, h2, _, _ => by
    simp at h2
    rw [h2]
    rfl
  | a :: l, b :: m, 0, _, _, _, h => by
    rcases h with h | h | h
    · simp at h
    · simp at h
    · rw [comL, if_neg]
      intro e
      apply h
      simp [e]
  | a :: l, b :: m, n + 1, h1, h2, h3, h => by
    rw [List.take_succ_cons, List.take_succ_cons] at h3
    injection h3 with e1 e2
    rw [comL, if_pos e1, comL_at l m n (by simpa using h1) (by simpa using h2) e2 (by simpa using h)]
def dmark (d : Bool) : UInt8 := if d = true then 1 else 0
/-- an entry behind a key of which it shares sh bytes -/
def entL (sh : Nat) (e : En) : List UInt8 := varL sh ++ (pieceL ((bl e.1).drop sh) ++ (varL e.2.1.toNat ++ (dmark e.2.2.1 :: pieceL (bl e.2.2.2))))
/-- the key ahead, as far as entry i looks at it -/
def lastL (i : Nat) (last : List UInt8) : List UInt8 := if i % 4 = 0 then [] else last
def shL (i : Nat) (last : List UInt8) (e : En) : Nat := comL (lastL i last) (bl e.1)
def entsL : Nat → List UInt8 → List En → List UInt8
  | _, _, [] => []
  | i, last, e :: L => entL (shL i last e) e ++ entsL (i + 1) (bl e.1) L
def lastK : List UInt8 → List En → List UInt8
  | last, [] => last
  | _, e :: L => lastK (bl e.1) L
theorem lastK_snoc (e : En) : ∀ (L : List En) (last : List UInt8), lastK last (L ++ [e]) = bl e.1
  | [], _ => rfl
  | x :: L, _ => lastK_snoc e L (bl x.1)
theorem entsL_snoc (e : En) : ∀ (L : List En) (i : Nat) (last : List UInt8), entsL i last (L ++ [e]) = entsL i last L ++ entL (shL (i + L.length) (lastK last L) e) e
  | [], i, last => by simp [entsL, lastK]
  | x :: L, i, last => by
    rw [List.cons_append, entsL, entsL_snoc e L (i + 1) (bl x.1), entsL, lastK, List.append_assoc, List.length_cons, show i + 1 + L.length = i + (L.length + 1) by omega]
theorem entsL_append : ∀ (L M : List En) (i : Nat) (last : List UInt8), entsL i last (L ++ M) = entsL i last L ++ entsL (i + L.length) (lastK last L) M
  | [], M, i, last => by simp [entsL, lastK]
  | x :: L, M, i, last => by
    rw [List.cons_append, entsL, entsL_append L M (i + 1) (bl x.1), entsL, lastK, List.append_assoc, List.length_cons, show i + 1 + L.length = i + (L.length + 1) by omega]
theorem shL_le (i : Nat) (last : List UInt8) (e : En) : shL i last e ≤ last.length ∧ shL i last e ≤ (bl e.1).length := by
  have h := comL_le (lastL i last) (bl e.1)
  unfold shL
  refine ⟨?_, h.2⟩
  unfold lastL at h ⊢
  split at h
  · next h0 => rw [if_pos h0]; exact Nat.le_trans h.1 (by simp)
  · next h0 => rw [if_neg h0]; exact h.1
theorem shL_take (i : Nat) (last : List UInt8) (e : En) : last.take (shL i last e) ++ (bl e.1).drop (shL i last e) = bl e.1 := by
  have h := comL_take (lastL i last) (bl e.1)
  have h2 : last.take (shL i last e) = (bl e.1).take (shL i last e) := by
    unfold shL lastL at *
    split
    · next h0 => rw [comL_nil]; simp
    · next h0 => rw [if_neg h0] at h; exact h
  rw [h2, List.take_append_drop]
theorem entL_pos (sh : Nat) (e : En) : 0 < (entL sh e).length := by
  unfold entL
  rw [List.length_append]
  have := varL_pos sh
  omega
theorem entOk_bd {e : En} (h : entOk e) : (bl e.1).length ≤ 10 ∧ (bl e.2.2.2).length ≤ 16 ∧ 0 ≤ e.2.1 ∧ e.2.1 ≤ 1000000 := by
  rw [bl_len, bl_len]
  exact ⟨h.1.2.1, h.1.2.2.1, h.2.1, h.2.2⟩
theorem pieceL_len (s : List UInt8) (h : s.length ≤ 1000) : (pieceL s).length ≤ 7 + s.length := by
  rw [pieceL, List.length_append]
  have := varL_len7 s.length (by omega)
  omega
theorem entL_len {sh : Nat} {e : En} (h : entOk e) (hs : sh ≤ (bl e.1).length) : (entL sh e).length ≤ 60 := by
  obtain ⟨h1, h2, h3, h4⟩ := entOk_bd h
  unfold entL
  have k1 := varL_len7 sh (by omega)
  have k2 := pieceL_len ((bl e.1).drop sh) (by rw [List.length_drop]; omega)
  have k3 := varL_len7 e.2.1.toNat (by omega)
  have k4 := pieceL_len (bl e.2.2.2) (by omega)
  rw [List.length_drop] at k2
  simp only [List.length_append, List.length_cons]
  omega
theorem entsL_len : ∀ (L : List En) (i : Nat) (last : List UInt8), (∀ e ∈ L, entOk e) → (entsL i last L).length ≤ 60 * L.length
  | [], _, _, _ => Nat.zero_le _
  | e :: L, i, last, h => by
    have h1 := entL_len (h e (by simp)) (shL_le i last e).2
    have h2 := entsL_len L (i + 1) (bl e.1) fun x hx => h x (by simp [hx])
    rw [entsL, List.length_append, List.length_cons]
    omega
theorem entsL_long : ∀ (L : List En) (i : Nat) (last : List UInt8), L.length ≤ (entsL i last L).length
  | [], _, _ => Nat.zero_le _
  | e :: L, i, last => by
    have h1 := entL_pos (shL i last e) e
    have h2 := entsL_long L (i + 1) (bl e.1)
    rw [entsL, List.length_append, List.length_cons]
    omega

/-- where the restarts of the first j entries begin -/
def plcL (L : List En) (j : Nat) : List Nat := ((List.range j).filter fun i => decide (i % 4 = 0)).map fun i => (entsL 0 [] (L.take i)).length
theorem plcL_zero (L : List En) : plcL L 0 = [] := rfl
theorem plcL_yes (L : List En) {j : Nat} (h : j % 4 = 0) : plcL L (j + 1) = plcL L j ++ [(entsL 0 [] (L.take j)).length] := by
  unfold plcL
  rw [List.range_succ, List.filter_append, List.map_append]
  simp [h]
theorem plcL_no (L : List En) {j : Nat} (h : ¬ j % 4 = 0) : plcL L (j + 1) = plcL L j := by
  unfold plcL
  rw [List.range_succ, List.filter_append, List.map_append]
  simp [h]
theorem plcL_len (L : List En) (j : Nat) : (plcL L j).length ≤ j := by
  unfold plcL
  rw [List.length_map]
  have := List.length_filter_le (fun i => decide (i % 4 = 0)) (List.range j)
  rw [List.length_range] at this
  exact this
def varsL (P : List Nat) : List UInt8 := P.flatMap varL
theorem varsL_snoc (P : List Nat) (n : Nat) : varsL (P ++ [n]) = varsL P ++ varL n := by simp [varsL]
def tailL (L : List En) : List UInt8 := varL (plcL L L.length).length ++ (varsL (plcL L L.length) ++ lowB (entsL 0 [] L).length 2)
def blkOk (L : List En) : Prop := 1 ≤ L.length ∧ L.length ≤ 16 ∧ (∀ e ∈ L, entOk e) ∧ SrtE L
instance (L : List En) : Decidable (blkOk L) := by unfold blkOk SrtE; infer_instance
def showK (L : List En) : List UInt8 := if blkOk L then entsL 0 [] L ++ tailL L else []
theorem showK_yes {L : List En} (h : blkOk L) : showK L = entsL 0 [] L ++ tailL L := if_pos h
theorem showK_no {L : List En} (h : ¬ blkOk L) : showK L = [] := if_neg h
theorem tailL_two (L : List En) : 2 ≤ (tailL L).length := by
  unfold tailL
  rw [List.length_append, List.length_append, length_lowB]
  omega
theorem showK_pos {L : List En} (h : blkOk L) : showK L ≠ [] := by
  rw [showK_yes h]
  intro e
  have := congrArg List.length e
  have := tailL_two L
  rw [List.length_append, List.length_nil] at *
  omega
theorem ok_of_showK {L : List En} (h : showK L ≠ []) : blkOk L := Classical.byContradiction fun hn => h (showK_no hn)

/-- where the restarts of s begin, by its last two bytes -/
def endK (s : List UInt8) : Nat := if s.length < 2 then 0 else (be ((s.drop (s.length - 2)).take 2)).toNat
theorem endK_show {L : List En} (h : blkOk L) : endK (showK L) = (entsL 0 [] L).length := by
  have h2 := tailL_two L
  have hl := entsL_len L 0 [] h.2.2.1
  have h16 := h.2.1
  rw [showK_yes h, endK, if_neg (by rw [List.length_append]; omega)]
  have e : entsL 0 [] L ++ tailL L = (entsL 0 [] L ++ (varL (plcL L L.length).length ++ varsL (plcL L L.length))) ++ lowB (entsL 0 [] L).length 2 := by
    unfold tailL
    simp only [List.append_assoc]
  have h3 : (entsL 0 [] L ++ tailL L).length - 2 = (entsL 0 [] L ++ (varL (plcL L L.length).length ++ varsL (plcL L L.length))).length := by
    rw [e, List.length_append, length_lowB]
    omega
  rw [h3, e, drop_pre, List.take_of_length_le (by rw [length_lowB]; omega), be_lowB, Int.toNat_natCast]
  exact Nat.mod_eq_of_lt (by show _ < 65536; omega)
/-- the only entry that l can begin with behind the key last, and what follows it -/
def cutE (last l : List UInt8) : En :=
  (⟨(last.take (cutVn l) ++ cutT (cutVr l)).toArray⟩, ((cutVn (cutR (cutVr l)) : Nat) : Int), decide ((cutVr (cutR (cutVr l))).take 1 = [1]), ⟨(cutT ((cutVr (cutR (cutVr l))).drop 1)).toArray⟩)
def cutF (l : List UInt8) : List UInt8 := cutR ((cutVr (cutR (cutVr l))).drop 1)
theorem cutF_le (l : List UInt8) : (cutF l).length ≤ l.length := by
  unfold cutF
  have h1 := cutR_le ((cutVr (cutR (cutVr l))).drop 1)
  have h2 := cutVr_le (cutR (cutVr l))
  have h3 := cutR_le (cutVr l)
  have h4 := cutVr_le l
  rw [List.length_drop] at h1
  omega
theorem cut_ent {e : En} (he : entOk e) (i : Nat) (last r : List UInt8) : cutE last (entL (shL i last e) e ++ r) = e ∧ cutF (entL (shL i last e) e ++ r) = r := by
  obtain ⟨h1, h2, h3, h4⟩ := entOk_bd he
  have hs := (shL_le i last e).2
  have ht := shL_take i last e
  obtain ⟨sh, hsh⟩ : ∃ sh, sh = shL i last e := ⟨_, rfl⟩
  rw [← hsh] at hs ht ⊢
  clear hsh
  have e0 : entL sh e ++ r = varL sh ++ (pieceL ((bl e.1).drop sh) ++ (varL e.2.1.toNat ++ (dmark e.2.2.1 :: (pieceL (bl e.2.2.2) ++ r)))) := by simp [entL]
  obtain ⟨a1, a2⟩ := cutV_var sh (by omega) (pieceL ((bl e.1).drop sh) ++ (varL e.2.1.toNat ++ (dmark e.2.2.1 :: (pieceL (bl e.2.2.2) ++ r))))
  obtain ⟨b1, b2⟩ := cut_piece ((bl e.1).drop sh) (varL e.2.1.toNat ++ (dmark e.2.2.1 :: (pieceL (bl e.2.2.2) ++ r))) (by rw [List.length_drop]; omega)
  obtain ⟨c1, c2⟩ := cutV_var e.2.1.toNat (by omega) (dmark e.2.2.1 :: (pieceL (bl e.2.2.2) ++ r))
  obtain ⟨d1, d2⟩ := cut_piece (bl e.2.2.2) r (by omega)
  obtain ⟨k, n, d, v⟩ := e
  simp only at *
  constructor
  · unfold cutE
    rw [e0, a1, a2, b1, b2, c1, c2, List.drop_succ_cons, List.drop_zero, d1, ht, mk_bl, mk_bl, Int.toNat_of_nonneg h3]
    cases d <;> rfl
  · unfold cutF
    rw [e0, a2, b2, c2, List.drop_succ_cons, List.drop_zero, d2]
def claimN : Nat → List UInt8 → List UInt8 → List En
  | 0, _, _ => []
  | n + 1, last, l => if l = [] then [] else cutE last l :: claimN n (bl (cutE last l).1) (cutF l)
theorem claimN_nil (n : Nat) (last : List UInt8) : claimN n last [] = [] := by cases n <;> simp [claimN]
theorem claimN_more (n : Nat) (last : List UInt8) {l : List UInt8} (h : l ≠ []) : claimN (n + 1) last l = cutE last l :: claimN n (bl (cutE last l).1) (cutF l) := by rw [claimN, if_neg h]
theorem claimN_len : ∀ (n : Nat) (last l : List UInt8), (claimN n last l).length ≤ n
  | 0, _, _ => Nat.le_refl _
  | n + 1, last, l => by
    by_cases h : l = []
    · rw [h, claimN_nil]; exact Nat.zero_le _
    · rw [claimN_more n last h, List.length_cons]
      have := claimN_len n (bl (cutE last l).1) (cutF l)
      omega
theorem claimN_ents : ∀ (L : List En) (n i : Nat) (last : List UInt8), (∀ e ∈ L, entOk e) → L.length ≤ n → claimN n last (entsL i last L) = L
  | [], n, i, last, _, _ => claimN_nil n last
  | e :: L, n, i, last, h, hn => by
    obtain ⟨m, rfl⟩ : ∃ m, n = m + 1 := ⟨n - 1, by rw [List.length_cons] at hn; omega⟩
    have hne : entsL i last (e :: L) ≠ [] := by
      intro h0
      have h1 := entsL_long (e :: L) i last
      rw [h0] at h1
      simp at h1
    obtain ⟨c1, c2⟩ := cut_ent (h e (by simp)) i last (entsL (i + 1) (bl e.1) L)
    rw [claimN_more m last hne]
    have e1 : entsL i last (e :: L) = entL (shL i last e) e ++ entsL (i + 1) (bl e.1) L := rfl
    rw [e1, c1, c2, claimN_ents L m (i + 1) (bl e.1) (fun x hx => h x (by simp [hx])) (by rw [List.length_cons] at hn; omega)]
/-- the only entries that a block s can have -/
def claimK (s : List UInt8) : List En := claimN 16 [] (s.take (endK s))
theorem claimK_len (s : List UInt8) : (claimK s).length ≤ 16 := claimN_len _ _ _
theorem claimK_show {L : List En} (h : blkOk L) : claimK (showK L) = L := by
  rw [claimK, endK_show h, showK_yes h, List.take_left]
  exact claimN_ents L 16 0 [] h.2.2.1 h.2.1
theorem showK_inj {L M : List En} (h : blkOk L) (k : blkOk M) (e : showK L = showK M) : L = M := by rw [← claimK_show h, e, claimK_show k]

/-- s is the text of a block -/
def isBlk (s : List UInt8) : Prop := s ≠ [] ∧ showK (claimK s) = s
instance (s : List UInt8) : Decidable (isBlk s) := inferInstanceAs (Decidable (_ ∧ _))
theorem isBlk_iff (s : List UInt8) : isBlk s ↔ ∃ L, blkOk L ∧ showK L = s := by
  constructor
  · exact fun h => ⟨_, ok_of_showK (by rw [h.2]; exact h.1), h.2⟩
  · rintro ⟨L, hL, rfl⟩
    exact ⟨showK_pos hL, by rw [claimK_show hL]⟩
/-- what ReadBlock answers -/
def readK (s : List UInt8) : List En := if isBlk s then claimK s else []
def readKQ (s : List UInt8) : Bool := decide (isBlk s)
theorem readK_of {s : List UInt8} {L : List En} (hL : blkOk L) (h : showK L = s) : readK s = L ∧ readKQ s = true := by
  have hb : isBlk s := (isBlk_iff s).2 ⟨L, hL, h⟩
  refine ⟨?_, decide_eq_true hb⟩
  rw [readK, if_pos hb, ← h, claimK_show hL]
theorem readK_none {s : List UInt8} (h : ∀ L, blkOk L → showK L ≠ s) : readK s = [] ∧ readKQ s = false := by
  have hb : ¬ isBlk s := fun hb => by
    obtain ⟨L, hL, e⟩ := (isBlk_iff s).1 hb
    exact h L hL e
  exact ⟨if_neg hb, decide_eq_false hb⟩
theorem readK_show {s : List UInt8} (h : readKQ s = true) : blkOk (readK s) ∧ showK (readK s) = s := by
  have hb : isBlk s := of_decide_eq_true h
  rw [readK, if_pos hb]
  exact ⟨ok_of_showK (by rw [hb.2]; exact hb.1), hb.2⟩
theorem readK_yes {s : List UInt8} (hs : s ≠ []) (h : showK (claimK s) = s) : readK s = claimK s ∧ readKQ s = true :=
  readK_of (ok_of_showK (by rw [h]; exact hs)) h
theorem readK_no {s : List UInt8} (h : s = [] ∨ showK (claimK s) ≠ s) : readK s = [] ∧ readKQ s = false :=
  readK_none fun L hL e => by
    rcases h with h | h
    · exact showK_pos hL (e.trans h)
    · exact h (by rw [← e, claimK_show hL])
/-- an entry read from place p on, as the specification reads it -/
theorem ent_at {e : En} (he : entOk e) (i : Nat) (last pre r S : List UInt8) (hS : S = pre ++ entL (shL i last e) e ++ r) :
    ∃ p1 p2 p3 p4 : Nat, varsF S 1 (pre.length : Nat) = ([shL i last e], (p1 : Int)) ∧ takeB S (p1 : Int) = (bl e.1).drop (shL i last e) ∧ takeE S (p1 : Int) = (p2 : Int) ∧
      varsF S 1 (p2 : Int) = ([e.2.1.toNat], (p3 : Int)) ∧ p3 < S.length ∧ S[p3]? = some (dmark e.2.2.1) ∧ takeB S ((p3 + 1 : Nat) : Int) = bl e.2.2.2 ∧ takeE S ((p3 + 1 : Nat) : Int) = (p4 : Int) ∧ p4 = (pre ++ entL (shL i last e) e).length := by
  obtain ⟨h1, h2, h3, h4⟩ := entOk_bd he
  have hs := (shL_le i last e).2
  obtain ⟨sh, hsh⟩ : ∃ sh, sh = shL i last e := ⟨_, rfl⟩
  rw [← hsh] at hs hS ⊢
  clear hsh
  have vars_at : ∀ (q : List UInt8) (n : Nat) (t : List UInt8), n ≤ 562949953421311 → varsF (q ++ varL n ++ t) 1 (q.length : Nat) = ([n], ((q.length + (varL n).length : Nat) : Int)) := by
    intro q n t hn
    have hd : (q ++ varL n ++ t).drop q.length = varL n ++ t := by rw [List.append_assoc, drop_pre]
    have hr := readVarL_var n hn t
    have hp := varL_pos n
    have h0 : (readVarL ((q ++ varL n ++ t).drop q.length)).2 ≠ 0 := by rw [hd, hr]; simp only; omega
    rw [varsF_step _ 0 q.length (by rw [List.length_append, List.length_append]; omega) h0, hd, hr, varsF_zero]
  have e1 : S = pre ++ varL sh ++ (pieceL ((bl e.1).drop sh) ++ (varL e.2.1.toNat ++ (dmark e.2.2.1 :: (pieceL (bl e.2.2.2) ++ r)))) := by rw [hS]; simp [entL]
  have e2 : S = (pre ++ varL sh) ++ pieceL ((bl e.1).drop sh) ++ (varL e.2.1.toNat ++ (dmark e.2.2.1 :: (pieceL (bl e.2.2.2) ++ r))) := by rw [hS]; simp [entL]
  have e3 : S = (pre ++ varL sh ++ pieceL ((bl e.1).drop sh)) ++ varL e.2.1.toNat ++ (dmark e.2.2.1 :: (pieceL (bl e.2.2.2) ++ r)) := by rw [hS]; simp [entL]
  have e4 : S = (pre ++ varL sh ++ pieceL ((bl e.1).drop sh) ++ varL e.2.1.toNat) ++ (dmark e.2.2.1 :: (pieceL (bl e.2.2.2) ++ r)) := by rw [hS]; simp [entL]
  have e5 : S = (pre ++ varL sh ++ pieceL ((bl e.1).drop sh) ++ varL e.2.1.toNat ++ [dmark e.2.2.1]) ++ pieceL (bl e.2.2.2) ++ r := by rw [hS]; simp [entL]
  have k1 := vars_at pre sh (pieceL ((bl e.1).drop sh) ++ (varL e.2.1.toNat ++ (dmark e.2.2.1 :: (pieceL (bl e.2.2.2) ++ r)))) (by omega)
  have k2 := take_piece (pre ++ varL sh) ((bl e.1).drop sh) (varL e.2.1.toNat ++ (dmark e.2.2.1 :: (pieceL (bl e.2.2.2) ++ r))) (by rw [List.length_drop]; omega)
  have k3 := vars_at (pre ++ varL sh ++ pieceL ((bl e.1).drop sh)) e.2.1.toNat (dmark e.2.2.1 :: (pieceL (bl e.2.2.2) ++ r)) (by omega)
  have k5 := take_piece (pre ++ varL sh ++ pieceL ((bl e.1).drop sh) ++ varL e.2.1.toNat ++ [dmark e.2.2.1]) (bl e.2.2.2) r (by omega)
  rw [← e1] at k1
  rw [← e2] at k2
  rw [← e3] at k3
  rw [← e5] at k5
  have q1 : (pre ++ varL sh).length = pre.length + (varL sh).length := List.length_append
  have q2 : (pre ++ varL sh ++ pieceL ((bl e.1).drop sh)).length = (pre ++ varL sh).length + (pieceL ((bl e.1).drop sh)).length := List.length_append
  have q3 : (pre ++ varL sh ++ pieceL ((bl e.1).drop sh) ++ varL e.2.1.toNat).length = (pre ++ varL sh ++ pieceL ((bl e.1).drop sh)).length + (varL e.2.1.toNat).length := List.length_append
  have q4 : (pre ++ varL sh ++ pieceL ((bl e.1).drop sh) ++ varL e.2.1.toNat ++ [dmark e.2.2.1]).length = (pre ++ varL sh ++ pieceL ((bl e.1).drop sh) ++ varL e.2.1.toNat).length + 1 := by rw [List.length_append]; rfl
  refine ⟨(pre ++ varL sh).length, (pre ++ varL sh ++ pieceL ((bl e.1).drop sh)).length, (pre ++ varL sh ++ pieceL ((bl e.1).drop sh) ++ varL e.2.1.toNat).length, (pre ++ varL sh ++ pieceL ((bl e.1).drop sh) ++ varL e.2.1.toNat).length + 1 + (pieceL (bl e.2.2.2)).length, ?_, k2.1, ?_, ?_, ?_, ?_, ?_, ?_, ?_⟩
  · rw [k1, q1]
  · rw [k2.2, q2]
  · rw [k3, q3]
  · have hl := congrArg List.length e4
    rw [List.length_append, List.length_cons] at hl
    omega
  · rw [e4, List.getElem?_append_right (Nat.le_refl _), Nat.sub_self]
    rfl
  · rw [q4] at k5
    exact k5.1
  · rw [q4] at k5
    exact k5.2
  · simp [entL]
    omega
end Go.Proofs.Ytegamnpdhiohmaa
