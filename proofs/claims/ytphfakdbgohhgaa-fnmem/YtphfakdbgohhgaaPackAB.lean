/-
  Texts of this proof, put together: Bytes, MathG, MathH, EntM, MemN, MemO, SrtN.
-/
import Derived.Test.YtphfakdbgohhgaaPackAA
import Derived.Lib.Strings

/-
  The bytes of a string as a list.
-/
namespace Go.Proofs.Ytphfakdbgohhgaa
open Go.RowKit

def bl (s : ByteArray) : List UInt8 := s.data.toList
theorem bl_len (s : ByteArray) : (bl s).length = s.size := by simp [bl]
theorem bl_at (s : ByteArray) (k : Nat) (h : k < s.size) (hb : k < (bl s).length) : (bl s)[k]'hb = s[k]'h := by simp [bl]; rfl
theorem bl_take (s : ByteArray) (k : Nat) (h : k < s.size) : (bl s).take (k + 1) = (bl s).take k ++ [s[k]] := take_snoc s k h

theorem bl_extract (s : ByteArray) (k : Nat) : (s.extract 0 k).toList = (bl s).take k := by
  rw [ByteArray.toList_eq, Lib.extract_data]; rfl
theorem ba_ext {a b : ByteArray} (h : a.data.toList = b.data.toList) : a = b := by
  cases a; cases b; simp only at h; congr 1; exact Array.toList_inj.1 h
theorem ext_take (s : ByteArray) (k : Nat) : s.extract 0 k = ⟨((bl s).take k).toArray⟩ := ba_ext (by rw [Lib.extract_data]; rfl)
theorem ext_drop (s : ByteArray) (k : Nat) : s.extract k s.size = ⟨((bl s).drop k).toArray⟩ := ba_ext (by
  rw [Lib.extract_data, List.take_of_length_le (by rw [List.length_drop]; have := bl_len s; unfold bl at this; omega)]; rfl)
theorem ba_mk (s : ByteArray) : s = ⟨(bl s).toArray⟩ := ba_ext rfl
end Go.Proofs.Ytphfakdbgohhgaa

/-
  The order of strings, byte by byte: nothing here speaks of the program.
-/
namespace Go.Proofs.Ytphfakdbgohhgaa
open Go.RowKit

theorem bless_irrefl : ∀ a : List UInt8, Op.bytesLess a a = false
  | [] => rfl
  | c :: r => by simp [Op.bytesLess, bless_irrefl r]
theorem bless_trans : ∀ a b c : List UInt8, Op.bytesLess a b = true → Op.bytesLess b c = true → Op.bytesLess a c = true
  | _, [], _, h, _ => by simp [Op.bytesLess] at h
  | _, _ :: _, [], _, h => by simp [Op.bytesLess] at h
  | [], _ :: _, _ :: _, _, _ => rfl
  | x :: a, y :: b, z :: c, h, k => by
    simp only [Op.bytesLess, Bool.or_eq_true, decide_eq_true_eq, Bool.and_eq_true, beq_iff_eq] at h k ⊢
    rcases h with h | ⟨rfl, h⟩
    · rcases k with k | ⟨rfl, _⟩
      · exact Or.inl (UInt8.lt_trans h k)
      · exact Or.inl h
    · rcases k with k | ⟨rfl, k⟩
      · exact Or.inl k
      · exact Or.inr ⟨rfl, bless_trans a b c h k⟩
theorem bless_tri : ∀ a b : List UInt8, Op.bytesLess a b = false → Op.bytesLess b a = false → a = b
  | [], [], _, _ => rfl
  | [], _ :: _, h, _ => by simp [Op.bytesLess] at h
  | _ :: _, [], _, h => by simp [Op.bytesLess] at h
  | x :: a, y :: b, h, k => by
    simp only [Op.bytesLess, Bool.or_eq_false_iff, decide_eq_false_iff_not, Bool.and_eq_false_iff, beq_eq_false_iff_ne] at h k
    have hxy : x = y := by
      rcases Nat.lt_trichotomy x.toNat y.toNat with hl | he | hg
      · exact absurd (UInt8.lt_iff_toNat_lt.2 hl) h.1
      · exact UInt8.toNat_inj.1 he
      · exact absurd (UInt8.lt_iff_toNat_lt.2 hg) k.1
    subst hxy
    rw [bless_tri a b (h.2.resolve_left fun hn => hn rfl) (k.2.resolve_left fun hn => hn rfl)]

/-- one string before another -/
def kless (x y : ByteArray) : Bool := Op.bytesLess x.toList y.toList
theorem kless_irrefl (x : ByteArray) : kless x x = false := bless_irrefl _
theorem kless_trans {x y z : ByteArray} (h : kless x y = true) (k : kless y z = true) : kless x z = true := bless_trans _ _ _ h k
theorem kless_asymm {x y : ByteArray} (h : kless x y = true) : kless y x = false := by
  cases k : kless y x with
  | false => rfl
  | true => have := kless_trans h k; rw [kless_irrefl] at this; cases this
theorem toList_inj' {x y : ByteArray} (h : x.toList = y.toList) : x = y := by
  rw [ByteArray.toList_eq, ByteArray.toList_eq] at h
  exact ba_ext h
theorem kless_tri {x y : ByteArray} (h : kless x y = false) (k : kless y x = false) : x = y := toList_inj' (bless_tri _ _ h k)
theorem kless_ne {x y : ByteArray} (h : kless x y = true) : x ≠ y := fun e => by rw [e, kless_irrefl] at h; cases h
theorem kless_of_ne {x y : ByteArray} (h : kless x y = false) (hn : x ≠ y) : kless y x = true := by
  cases k : kless y x with
  | true => rfl
  | false => exact absurd (kless_tri h k) hn
theorem keq_iff (x y : ByteArray) : (x.toList == y.toList) = true ↔ x = y := by
  rw [beq_iff_eq]
  exact ⟨toList_inj', fun h => by rw [h]⟩
theorem keq_self (x : ByteArray) : (x.toList == x.toList) = true := by simp
theorem keq_false {x y : ByteArray} (h : x ≠ y) : (x.toList == y.toList) = false := by
  rw [beq_eq_false_iff_ne]
  exact fun e => h (toList_inj' e)
end Go.Proofs.Ytphfakdbgohhgaa

/-
  Sorted maps of strings, batches on them: nothing here speaks of the program.
-/
namespace Go.Proofs.Ytphfakdbgohhgaa
open Go.RowKit

/-- a key and its value -/
abbrev KV := ByteArray × ByteArray
/-- a key, 'deleted', a value -/
abbrev Opn := ByteArray × Bool × ByteArray
def kvOk (x : KV) : Prop := 1 ≤ x.1.size ∧ x.1.size ≤ 10 ∧ x.2.size ≤ 16
def opOk (o : Opn) : Prop := 1 ≤ o.1.size ∧ o.1.size ≤ 10 ∧ o.2.2.size ≤ 16 ∧ (o.2.1 = true → o.2.2.size = 0)
instance (x : KV) : Decidable (kvOk x) := inferInstanceAs (Decidable (_ ∧ _))
instance (o : Opn) : Decidable (opOk o) := inferInstanceAs (Decidable (_ ∧ _))
def Srt (L : List KV) : Prop := L.Pairwise fun x y => kless x.1 y.1 = true
instance (L : List KV) : Decidable (Srt L) := inferInstanceAs (Decidable (List.Pairwise _ _))
/-- neighbours in order: all in order -/
theorem srt_adj (L : List KV) : Srt L ↔ ∀ i (h : i + 1 < L.length), kless L[i].1 L[i + 1].1 = true := by
  constructor
  · intro h i hi
    exact List.pairwise_iff_getElem.1 h i (i + 1) (by omega) hi (by omega)
  · intro h
    refine List.pairwise_iff_getElem.2 ?_
    intro i j hi hj hij
    obtain ⟨d, rfl⟩ : ∃ d, j = i + 1 + d := ⟨j - i - 1, by omega⟩
    clear hij
    induction d with
    | zero => exact h i hj
    | succ d ih => exact kless_trans (ih (by omega)) (h (i + 1 + d) hj)
def mapOk (L : List KV) : Prop := (∀ x ∈ L, kvOk x) ∧ Srt L
instance (L : List KV) : Decidable (mapOk L) := inferInstanceAs (Decidable (_ ∧ _))
def batOk (l : List Opn) : Prop := 1 ≤ l.length ∧ l.length ≤ 6 ∧ ∀ o ∈ l, opOk o
instance (l : List Opn) : Decidable (batOk l) := inferInstanceAs (Decidable (_ ∧ _))

/-- how many keys lie before k -/
def posK (k : ByteArray) (L : List KV) : Nat := (L.takeWhile fun x => kless x.1 k).length
theorem posK_le (k : ByteArray) (L : List KV) : posK k L ≤ L.length := by
  unfold posK
  exact (List.takeWhile_sublist _).length_le
theorem posK_cons_yes {k : ByteArray} {x : KV} (L : List KV) (h : kless x.1 k = true) : posK k (x :: L) = posK k L + 1 := by simp [posK, h]
theorem posK_cons_no {k : ByteArray} {x : KV} (L : List KV) (h : kless x.1 k = false) : posK k (x :: L) = 0 := by simp [posK, h]
theorem posK_before (k : ByteArray) : ∀ (L : List KV) (i : Nat) (h : i < L.length), i < posK k L → kless L[i].1 k = true
  | [], i, h, _ => by simp at h
  | x :: L, i, h, hp => by
    cases hx : kless x.1 k with
    | false => rw [posK_cons_no L hx] at hp; omega
    | true =>
      rw [posK_cons_yes L hx] at hp
      cases i with
      | zero => simpa using hx
      | succ i => simpa using posK_before k L i (by simpa using h) (by omega)
theorem posK_at (k : ByteArray) : ∀ (L : List KV) (h : posK k L < L.length), kless L[posK k L].1 k = false
  | [], h => by simp at h
  | x :: L, h => by
    cases hx : kless x.1 k with
    | false => simp [posK_cons_no L hx, hx]
    | true =>
      have e := posK_cons_yes L hx
      have h' : posK k L < L.length := by rw [e] at h; simpa using h
      simp only [e, List.getElem_cons_succ]
      exact posK_at k L h'
theorem posK_after {k : ByteArray} {L : List KV} (hs : Srt L) (i : Nat) (h : i < L.length) (hp : posK k L ≤ i) : kless L[i].1 k = false := by
  have h0 := posK_at k L (by omega)
  rcases Nat.lt_or_ge (posK k L) i with hlt | hge
  · have h1 := List.pairwise_iff_getElem.1 hs (posK k L) i (by omega) h hlt
    cases hc : kless L[i].1 k with
    | false => rfl
    | true => rw [kless_trans h1 hc] at h0; cases h0
  · have e : posK k L = i := by omega
    simpa [e] using h0
/-- the place that a search finds -/
theorem posK_unique {k : ByteArray} {L : List KV} (p : Nat) (hp : p ≤ L.length) (h1 : ∀ i (h : i < L.length), i < p → kless L[i].1 k = true) (h2 : ∀ h : p < L.length, kless L[p].1 k = false) : p = posK k L := by
  have hl := posK_le k L
  rcases Nat.lt_trichotomy p (posK k L) with h | h | h
  · have := posK_before k L p (by omega) h
    rw [h2 (by omega)] at this
    cases this
  · exact h
  · have := posK_at k L (by omega)
    rw [h1 (posK k L) (by omega) h] at this
    cases this
/-- k is contained -/
def hasK (k : ByteArray) (L : List KV) : Prop := ∃ h : posK k L < L.length, L[posK k L].1 = k
instance (k : ByteArray) (L : List KV) : Decidable (hasK k L) := inferInstanceAs (Decidable (∃ _, _))
theorem hasK_of {k : ByteArray} {L : List KV} (hs : Srt L) (i : Nat) (h : i < L.length) (hk : L[i].1 = k) : i = posK k L ∧ hasK k L := by
  have e : i = posK k L := by
    refine posK_unique i (by omega) (fun j hj hji => ?_) (fun _ => by rw [hk]; exact kless_irrefl k)
    have := List.pairwise_iff_getElem.1 hs j i hj h hji
    rwa [hk] at this
  subst e
  exact ⟨rfl, h, hk⟩
theorem hasK_no {k : ByteArray} {L : List KV} (hs : Srt L) (hn : ¬ hasK k L) (i : Nat) (h : i < L.length) : L[i].1 ≠ k := fun hk => hn (hasK_of hs i h hk).2

def putK (k v : ByteArray) (L : List KV) : List KV := L.take (posK k L) ++ (k, v) :: L.drop (if hasK k L then posK k L + 1 else posK k L)
def delK (k : ByteArray) (L : List KV) : List KV := if hasK k L then L.take (posK k L) ++ L.drop (posK k L + 1) else L
def putO (L : List KV) (o : Opn) : List KV := if o.2.1 = true then delK o.1 L else putK o.1 o.2.2 L
def applyL (L : List KV) (l : List Opn) : List KV := l.foldl putO L

theorem mem_take' {α : Type} {l : List α} {n : Nat} {x : α} (h : x ∈ l.take n) : x ∈ l := List.mem_of_mem_take h
theorem srt_take {L : List KV} (h : Srt L) (n : Nat) : Srt (L.take n) := List.Pairwise.sublist (List.take_sublist n L) h
theorem srt_drop {L : List KV} (h : Srt L) (n : Nat) : Srt (L.drop n) := List.Pairwise.sublist (List.drop_sublist n L) h
theorem take_less {k : ByteArray} {L : List KV} {x : KV} (h : x ∈ L.take (posK k L)) : kless x.1 k = true := by
  obtain ⟨i, hi, rfl⟩ := List.getElem_of_mem h
  rw [List.length_take] at hi
  rw [List.getElem_take]
  exact posK_before k L i (by omega) (by omega)
theorem drop_more {k : ByteArray} {L : List KV} (hs : Srt L) {x : KV} (h : x ∈ L.drop (if hasK k L then posK k L + 1 else posK k L)) : kless k x.1 = true := by
  obtain ⟨i, hi, rfl⟩ := List.getElem_of_mem h
  rw [List.length_drop] at hi
  rw [List.getElem_drop]
  by_cases hk : hasK k L
  · simp only [if_pos hk] at hi ⊢
    obtain ⟨hl, he⟩ := hk
    have := List.pairwise_iff_getElem.1 hs (posK k L) (posK k L + 1 + i) hl (by omega) (by omega)
    rwa [he] at this
  · simp only [if_neg hk] at hi ⊢
    exact kless_of_ne (posK_after hs _ (by omega) (by omega)) (hasK_no hs hk _ (by omega))
theorem srt_putK {L : List KV} (hs : Srt L) (k v : ByteArray) : Srt (putK k v L) := by
  unfold putK Srt
  rw [List.pairwise_append]
  refine ⟨srt_take hs _, ?_, ?_⟩
  · rw [List.pairwise_cons]
    exact ⟨fun x hx => drop_more hs hx, srt_drop hs _⟩
  · intro x hx y hy
    rcases List.mem_cons.1 hy with rfl | hy
    · exact take_less hx
    · exact kless_trans (take_less hx) (drop_more hs hy)
theorem srt_delK {L : List KV} (hs : Srt L) (k : ByteArray) : Srt (delK k L) := by
  unfold delK
  split
  · unfold Srt
    rw [List.pairwise_append]
    refine ⟨srt_take hs _, srt_drop hs _, fun x hx y hy => kless_trans (take_less hx) (drop_more hs ?_)⟩
    rename_i hk
    rw [if_pos hk]
    exact hy
  · exact hs
theorem mapOk_putO {L : List KV} (h : mapOk L) {o : Opn} (ho : opOk o) : mapOk (putO L o) := by
  unfold putO
  split
  · refine ⟨fun x hx => h.1 x ?_, srt_delK h.2 _⟩
    unfold delK at hx
    split at hx
    · rcases List.mem_append.1 hx with hx | hx
      · exact List.mem_of_mem_take hx
      · exact List.mem_of_mem_drop hx
    · exact hx
  · refine ⟨fun x hx => ?_, srt_putK h.2 _ _⟩
    unfold putK at hx
    rcases List.mem_append.1 hx with hx | hx
    · exact h.1 x (List.mem_of_mem_take hx)
    · rcases List.mem_cons.1 hx with rfl | hx
      · exact ⟨ho.1, ho.2.1, ho.2.2.1⟩
      · exact h.1 x (List.mem_of_mem_drop hx)
theorem mapOk_applyL : ∀ (l : List Opn) (L : List KV), mapOk L → (∀ o ∈ l, opOk o) → mapOk (applyL L l)
  | [], _, h, _ => h
  | o :: l, L, h, ho => mapOk_applyL l (putO L o) (mapOk_putO h (ho o (by simp))) fun x hx => ho x (by simp [hx])
theorem applyL_snoc (L : List KV) (l : List Opn) (o : Opn) : applyL L (l ++ [o]) = putO (applyL L l) o := by simp [applyL]

/-- the map behind a batch, and whether both are valid -/
def applyM (m : List KV) (l : List Opn) : List KV := if mapOk m then (if batOk l then applyL m l else m) else []
def applyB (m : List KV) (l : List Opn) : Bool := decide (mapOk m ∧ batOk l)
theorem apply_one {m : List KV} (hm : mapOk m) {o : Opn} (ho : opOk o) : applyM m [o] = putO m o ∧ applyB m [o] = true := by
  have hb : batOk [o] := ⟨by simp, by simp, fun x hx => by rw [List.mem_singleton.1 hx]; exact ho⟩
  exact ⟨by rw [applyM, if_pos hm, if_pos hb]; rfl, decide_eq_true ⟨hm, hb⟩⟩

/-- a scan: what lies before k, then k, then what lies behind (as the specification puts it) -/
def scanP (k v : ByteArray) : Bool → List KV → List KV
  | put, [] => if put = true then [] else [(k, v)]
  | put, x :: r => (if put = false ∧ kless x.1 k = false then [(k, v)] else []) ++ (if x.1 = k then [] else [x]) ++ scanP k v (put || !(kless x.1 k)) r
theorem scanP_done (k v : ByteArray) : ∀ L : List KV, (∀ x ∈ L, x.1 ≠ k) → scanP k v true L = L
  | [], _ => rfl
  | x :: r, h => by
    rw [scanP, if_neg (by simp), if_neg (h x (by simp)), Bool.true_or, scanP_done k v r fun y hy => h y (by simp [hy])]
    rfl
theorem scanP_put (k v : ByteArray) : ∀ L : List KV, Srt L → scanP k v false L = putK k v L
  | [], _ => by simp [scanP, putK, posK, hasK]
  | x :: r, hs => by
    have hr : Srt r := (List.pairwise_cons.1 hs).2
    cases hx : kless x.1 k with
    | true =>
      have hne := kless_ne hx
      have e := posK_cons_yes r hx
      have hh : hasK k (x :: r) ↔ hasK k r := by
        unfold hasK
        simp only [e, List.length_cons, List.getElem_cons_succ]
        exact ⟨fun ⟨a, b⟩ => ⟨by omega, b⟩, fun ⟨a, b⟩ => ⟨by omega, b⟩⟩
      rw [scanP, if_neg (by simp [hx]), if_neg hne, hx, Bool.not_true, Bool.or_false, scanP_put k v r hr]
      unfold putK
      rw [e]
      by_cases hk : hasK k r
      · rw [if_pos hk, if_pos (hh.2 hk)]; rfl
      · rw [if_neg hk, if_neg (fun h => hk (hh.1 h))]; rfl
    | false =>
      have e := posK_cons_no r hx
      have hno : ∀ y ∈ r, y.1 ≠ k := fun y hy he => by
        have := (List.pairwise_cons.1 hs).1 y hy
        rw [he, hx] at this
        cases this
      rw [scanP, if_pos ⟨rfl, hx⟩, hx, Bool.not_false, Bool.or_true, scanP_done k v r hno]
      unfold putK
      rw [e]
      by_cases hk : x.1 = k
      · have hh : hasK k (x :: r) := ⟨by rw [e]; simp, by simp only [e]; simpa using hk⟩
        rw [if_pos hk, if_pos hh]
        simp
      · have hh : ¬ hasK k (x :: r) := fun ⟨_, b⟩ => hk (by simp only [e, List.getElem_cons_zero] at b; exact b)
        rw [if_neg hk, if_neg hh]
        simp
theorem scanP_del (k v : ByteArray) : ∀ L : List KV, Srt L → scanP k v true L = delK k L
  | [], _ => by simp [scanP, delK, hasK]
  | x :: r, hs => by
    have hr : Srt r := (List.pairwise_cons.1 hs).2
    cases hx : kless x.1 k with
    | true =>
      have hne := kless_ne hx
      have e := posK_cons_yes r hx
      have hh : hasK k (x :: r) ↔ hasK k r := by
        unfold hasK
        simp only [e, List.length_cons, List.getElem_cons_succ]
        exact ⟨fun ⟨a, b⟩ => ⟨by omega, b⟩, fun ⟨a, b⟩ => ⟨by omega, b⟩⟩
      rw [scanP, if_neg (by simp), if_neg hne, Bool.true_or, scanP_del k v r hr]
      unfold delK
      by_cases hk : hasK k r
      · rw [if_pos hk, if_pos (hh.2 hk), e]; rfl
      · rw [if_neg hk, if_neg (fun h => hk (hh.1 h))]; rfl
    | false =>
      have e := posK_cons_no r hx
      have hno : ∀ y ∈ r, y.1 ≠ k := fun y hy he => by
        have := (List.pairwise_cons.1 hs).1 y hy
        rw [he, hx] at this
        cases this
      rw [scanP, if_neg (by simp), Bool.true_or, scanP_done k v r hno]
      unfold delK
      by_cases hk : x.1 = k
      · have hh : hasK k (x :: r) := ⟨by rw [e]; simp, by simp only [e]; simpa using hk⟩
        rw [if_pos hk, if_pos hh, e]
        simp
      · have hh : ¬ hasK k (x :: r) := fun ⟨_, b⟩ => hk (by simp only [e, List.getElem_cons_zero] at b; exact b)
        rw [if_neg hk, if_neg hh]
        simp
/-- the length of all keys and values -/
def bytesL (L : List KV) : Nat := (L.map fun x => x.1.size + x.2.size).sum
theorem bytesL_snoc (L : List KV) (x : KV) : bytesL (L ++ [x]) = bytesL L + (x.1.size + x.2.size) := by simp [bytesL]
def bytesV (L : List KV) : Nat := if mapOk L then bytesL L else 0
end Go.Proofs.Ytphfakdbgohhgaa

/-
  Plain mathematics for chapter 9: entries in order, what is put, found and visible. Nothing here speaks of a program.
-/
namespace Go.Proofs.Ytphfakdbgohhgaa
open Go.RowKit

/-- an entry: key, number, deleted, value -/
abbrev En := ByteArray × Int × Bool × ByteArray
def entOk (e : En) : Prop := opOk (e.1, e.2.2.1, e.2.2.2) ∧ 0 ≤ e.2.1 ∧ e.2.1 ≤ 1000000
instance (e : En) : Decidable (entOk e) := by unfold entOk opOk; infer_instance
def ahead (a b : En) : Prop := kless a.1 b.1 = true ∨ a.1 = b.1 ∧ b.2.1 < a.2.1
instance (a b : En) : Decidable (ahead a b) := by unfold ahead; infer_instance
theorem ahead_irrefl (a : En) : ¬ ahead a a := by
  rintro (h | ⟨_, h⟩)
  · rw [kless_irrefl] at h; cases h
  · omega
theorem ahead_trans {a b c : En} (h : ahead a b) (k : ahead b c) : ahead a c := by
  rcases h with h | ⟨h1, h2⟩ <;> rcases k with k | ⟨k1, k2⟩
  · exact .inl (kless_trans h k)
  · exact .inl (by rw [← k1]; exact h)
  · exact .inl (by rw [h1]; exact k)
  · exact .inr ⟨h1.trans k1, by omega⟩
theorem ahead_asymm {a b : En} (h : ahead a b) : ¬ ahead b a := fun k => ahead_irrefl a (ahead_trans h k)
theorem ahead_ne {a b : En} (h : ahead a b) : ¬ (a.1 = b.1 ∧ a.2.1 = b.2.1) := by
  rintro ⟨h1, h2⟩
  rcases h with h | ⟨_, h⟩
  · exact kless_ne h h1
  · omega
theorem ahead_tri {a b : En} (h : ¬ ahead a b) (k : ¬ ahead b a) : a.1 = b.1 ∧ a.2.1 = b.2.1 := by
  have e : a.1 = b.1 := by
    refine kless_tri ?_ ?_
    · cases hh : kless a.1 b.1 with
      | false => rfl
      | true => exact absurd (.inl hh) h
    · cases hh : kless b.1 a.1 with
      | false => rfl
      | true => exact absurd (.inl hh) k
  refine ⟨e, ?_⟩
  have h1 : ¬ b.2.1 < a.2.1 := fun hh => h (.inr ⟨e, hh⟩)
  have h2 : ¬ a.2.1 < b.2.1 := fun hh => k (.inr ⟨e.symm, hh⟩)
  omega
def SrtE (L : List En) : Prop := L.Pairwise ahead
theorem srtE_adj (L : List En) : SrtE L ↔ ∀ i (h : i + 1 < L.length), ahead L[i] L[i + 1] := by
  constructor
  · intro hs i h
    exact List.pairwise_iff_getElem.mp hs i (i + 1) (by omega) h (by omega)
  · intro h
    refine List.pairwise_iff_getElem.mpr fun i j hi hj hij => ?_
    obtain ⟨d, rfl⟩ : ∃ d, j = i + 1 + d := ⟨j - i - 1, by omega⟩
    clear hij
    induction d with
    | zero => exact h i hj
    | succ d ih => exact ahead_trans (ih (by omega)) (h (i + 1 + d) hj)
def memOkL (L : List En) : Prop := L.length ≤ 60 ∧ (∀ e ∈ L, entOk e) ∧ SrtE L

/-- e ahead of the first entry that it stands ahead of -/
def insE (e : En) : List En → List En
  | [] => [e]
  | x :: L => if ahead e x then e :: x :: L else x :: insE e L
theorem insE_len (e : En) : ∀ L, (insE e L).length = L.length + 1
  | [] => rfl
  | x :: L => by
    rw [insE]
    split
    · rfl
    · rw [List.length_cons, insE_len e L, List.length_cons]
theorem mem_insE {e x : En} : ∀ {L : List En}, x ∈ insE e L ↔ x = e ∨ x ∈ L
  | [] => by simp [insE]
  | y :: L => by
    rw [insE]
    split
    · simp
    · rw [List.mem_cons, mem_insE, List.mem_cons]
      constructor
      · rintro (h | h | h)
        · exact .inr (.inl h)
        · exact .inl h
        · exact .inr (.inr h)
      · rintro (h | h | h)
        · exact .inr (.inl h)
        · exact .inl h
        · exact .inr (.inr h)
/-- where e goes: as a place -/
def posE (e : En) (L : List En) : Nat := (L.takeWhile fun x => !decide (ahead e x)).length
theorem posE_le (e : En) (L : List En) : posE e L ≤ L.length := by
  have := (List.takeWhile_prefix (l := L) fun x => !decide (ahead e x)).length_le
  exact this
theorem insE_pos (e : En) : ∀ L, insE e L = L.take (posE e L) ++ e :: L.drop (posE e L)
  | [] => rfl
  | x :: L => by
    rw [insE, posE]
    by_cases h : ahead e x
    · simp [h]
    · have ih := insE_pos e L
      unfold posE at ih
      simp [h, ih]
theorem posE_before (e : En) : ∀ (L : List En) (i : Nat) (h : i < L.length), i < posE e L → ¬ ahead e L[i]
  | [], i, h, _ => absurd h (by simp)
  | x :: L, i, h, hp => by
    by_cases hx : ahead e x
    · unfold posE at hp
      simp [hx] at hp
    · cases i with
      | zero => exact hx
      | succ i =>
        have hp' : i < posE e L := by
          unfold posE at hp ⊢
          simp [hx] at hp
          exact hp
        exact posE_before e L i (by simpa using h) hp'
theorem posE_at (e : En) : ∀ (L : List En) (h : posE e L < L.length), ahead e L[posE e L]
  | [], h => absurd h (by simp [posE])
  | x :: L, h => by
    by_cases hx : ahead e x
    · have h0 : posE e (x :: L) = 0 := by unfold posE; simp [hx]
      simp [h0, hx]
    · have h1 : posE e (x :: L) = posE e L + 1 := by unfold posE; simp [hx]
      have h' : posE e L < L.length := by rw [h1] at h; simpa using h
      have := posE_at e L h'
      simp [h1, this]
/-- the place is the only one with all that stands ahead of it not behind e, and e ahead of what stands there -/
theorem posE_unique {e : En} {L : List En} (p : Nat) (hp : p ≤ L.length) (h1 : ∀ i (h : i < L.length), i < p → ¬ ahead e L[i]) (h2 : ∀ h : p < L.length, ahead e L[p]) : p = posE e L := by
  rcases Nat.lt_trichotomy p (posE e L) with h | h | h
  · have hl : p < L.length := Nat.lt_of_lt_of_le h (posE_le e L)
    exact absurd (h2 hl) (posE_before e L p hl h)
  · exact h
  · have hl : posE e L < L.length := by omega
    exact absurd (posE_at e L hl) (h1 _ hl h)
theorem srt_insE {e : En} : ∀ {L : List En}, SrtE L → (SrtE (insE e L) ↔ ∀ x ∈ L, ¬ (x.1 = e.1 ∧ x.2.1 = e.2.1))
  | [], _ => by simp [insE, SrtE]
  | y :: L, hs => by
    obtain ⟨h1, h2⟩ := List.pairwise_cons.mp hs
    rw [insE]
    split
    · next h =>
      constructor
      · intro hp x hx hk
        exact ahead_ne ((List.pairwise_cons.mp hp).1 x hx) ⟨hk.1.symm, hk.2.symm⟩
      · intro _
        refine List.pairwise_cons.mpr ⟨fun x hx => ?_, hs⟩
        rcases List.mem_cons.mp hx with rfl | hx
        · exact h
        · exact ahead_trans h (h1 x hx)
    · next h =>
      have ih := srt_insE (e := e) (L := L) h2
      constructor
      · intro hp x hx hk
        obtain ⟨p1, p2⟩ := List.pairwise_cons.mp hp
        rcases List.mem_cons.mp hx with rfl | hx
        · exact ahead_ne (p1 e (mem_insE.mpr (.inl rfl))) hk
        · exact ih.mp p2 x hx hk
      · intro hn
        refine List.pairwise_cons.mpr ⟨fun x hx => ?_, ih.mpr fun x hx => hn x (List.mem_cons_of_mem _ hx)⟩
        rcases mem_insE.mp hx with rfl | hx
        · by_cases hy : ahead y x
          · exact hy
          · exact absurd (ahead_tri hy h) (hn y (by simp))
        · exact h1 x hx
/-- what MemPut asks -/
def canPut (e : En) (L : List En) : Prop := memOkL (insE e L)
theorem canPut_iff {e : En} {L : List En} (h : memOkL L) : canPut e L ↔ L.length < 60 ∧ entOk e ∧ ∀ x ∈ L, ¬ (x.1 = e.1 ∧ x.2.1 = e.2.1) := by
  obtain ⟨h1, h2, h3⟩ := h
  unfold canPut memOkL
  rw [insE_len, srt_insE h3]
  constructor
  · rintro ⟨p1, p2, p3⟩
    exact ⟨by omega, p2 e (mem_insE.mpr (.inl rfl)), p3⟩
  · rintro ⟨p1, p2, p3⟩
    refine ⟨by omega, fun x hx => ?_, p3⟩
    rcases mem_insE.mp hx with rfl | hx
    · exact p2
    · exact h2 x hx

/-- the first entry of the key with a number of at most n -/
def getE (k : ByteArray) (n : Int) (L : List En) : Option En := L.find? fun x => decide (x.1 = k ∧ x.2.1 ≤ n)
theorem getE_some {k : ByteArray} {n : Int} {L : List En} {x : En} (h : getE k n L = some x) : x ∈ L ∧ x.1 = k ∧ x.2.1 ≤ n := by
  have h1 := List.mem_of_find?_eq_some h
  have h2 := List.find?_some h
  simp only [decide_eq_true_eq] at h2
  exact ⟨h1, h2⟩
theorem getE_none {k : ByteArray} {n : Int} {L : List En} : getE k n L = none ↔ ∀ x ∈ L, ¬ (x.1 = k ∧ x.2.1 ≤ n) := by
  unfold getE
  rw [List.find?_eq_none]
  simp
/-- of entries in order it is the one with the greatest number -/
theorem getE_of {k : ByteArray} {n : Int} : ∀ {L : List En} {x : En}, SrtE L → x ∈ L → x.1 = k → x.2.1 ≤ n → (∀ y ∈ L, y.1 = k → y.2.1 ≤ n → y.2.1 ≤ x.2.1) → getE k n L = some x
  | [], x, _, h, _, _, _ => absurd h (by simp)
  | y :: L, x, hs, hx, hk, hn, hg => by
    obtain ⟨h1, h2⟩ := List.pairwise_cons.mp hs
    unfold getE
    rw [List.find?_cons]
    by_cases hy : y.1 = k ∧ y.2.1 ≤ n
    · simp only [hy, and_self, decide_true]
      rcases List.mem_cons.mp hx with rfl | hx
      · rfl
      · exfalso
        have ha := h1 x hx
        have := hg y (by simp) hy.1 hy.2
        rcases ha with ha | ⟨_, ha⟩
        · exact kless_ne ha (hy.1.trans hk.symm)
        · omega
    · simp only [hy, decide_false]
      rcases List.mem_cons.mp hx with rfl | hx
      · exact absurd ⟨hk, hn⟩ hy
      · exact getE_of h2 hx hk hn fun z hz => hg z (List.mem_cons_of_mem _ hz)
theorem srtE_same {L : List En} (hs : SrtE L) {x y : En} (hx : x ∈ L) (hy : y ∈ L) (h : x.1 = y.1 ∧ x.2.1 = y.2.1) : x = y := by
  obtain ⟨i, hi, rfl⟩ := List.getElem_of_mem hx
  obtain ⟨j, hj, rfl⟩ := List.getElem_of_mem hy
  rcases Nat.lt_trichotomy i j with hij | rfl | hij
  · exact absurd h (ahead_ne (List.pairwise_iff_getElem.mp hs i j hi hj hij))
  · rfl
  · exact absurd ⟨h.1.symm, h.2.symm⟩ (ahead_ne (List.pairwise_iff_getElem.mp hs j i hj hi hij))
/-- each entry is found at its own number -/
theorem getE_self {L : List En} (hs : SrtE L) {x : En} (hx : x ∈ L) : getE x.1 x.2.1 L = some x :=
  getE_of hs hx rfl (by omega) fun _ _ _ h => h

/-- the map that is visible at n -/
def mapE (n : Int) (L : List En) : List KV := (L.filter fun x => decide (getE x.1 n L = some x ∧ x.2.2.1 = false)).map fun x => (x.1, x.2.2.2)
theorem mapE_ok {n : Int} {L : List En} (h : memOkL L) : mapOk (mapE n L) := by
  obtain ⟨_, h2, h3⟩ := h
  constructor
  · intro z hz
    obtain ⟨x, hx, rfl⟩ := List.mem_map.mp hz
    have hm := (List.mem_filter.mp hx).1
    obtain ⟨⟨o1, o2, o3, _⟩, _⟩ := h2 x hm
    exact ⟨o1, o2, o3⟩
  · unfold Srt mapE
    rw [List.pairwise_map]
    refine List.Pairwise.imp_of_mem ?_ (List.Pairwise.sublist List.filter_sublist h3)
    intro x y hx hy hxy
    obtain ⟨_, px⟩ := List.mem_filter.mp hx
    obtain ⟨_, py⟩ := List.mem_filter.mp hy
    simp only [decide_eq_true_eq] at px py
    rcases hxy with h | ⟨h, h'⟩
    · exact h
    · exfalso
      have e := px.1
      rw [h, py.1] at e
      have := Option.some.inj e
      rw [this] at h'
      omega
theorem mapE_len (n : Int) (L : List En) : (mapE n L).length ≤ L.length := by
  unfold mapE
  rw [List.length_map]
  exact List.length_filter_le _ _
/-- one entry more at the end of what was looked at -/
def visE (n : Int) (L : List En) (x : En) : Prop := getE x.1 n L = some x ∧ x.2.2.1 = false
def withinK (k f t : ByteArray) : Prop := kless k f = false ∧ (t.size = 0 ∨ kless k t = true)
instance (k f t : ByteArray) : Decidable (withinK k f t) := by unfold withinK; infer_instance
def rangeE (f t : ByteArray) (M : List KV) : List KV := M.filter fun x => decide (withinK x.1 f t)
end Go.Proofs.Ytphfakdbgohhgaa

/-
  More mathematics of chapter 9: where the program puts and finds an entry, what it shows of a map row by row, what each function answers. Nothing here speaks of a program.
-/
namespace Go.Proofs.Ytphfakdbgohhgaa
open Go.RowKit

instance (L : List En) : Decidable (SrtE L) := inferInstanceAs (Decidable (List.Pairwise _ _))
instance (L : List En) : Decidable (memOkL L) := inferInstanceAs (Decidable (_ ∧ _))
/-- the first place whose entry does not stand ahead of e -/
def posI (e : En) (L : List En) : Nat := (L.takeWhile fun x => decide (ahead x e)).length
theorem posI_le (e : En) (L : List En) : posI e L ≤ L.length := (List.takeWhile_prefix (l := L) fun x => decide (ahead x e)).length_le
theorem posI_before (e : En) : ∀ (L : List En) (i : Nat) (h : i < L.length), i < posI e L → ahead L[i] e
  | [], i, h, _ => absurd h (by simp)
  | x :: L, i, h, hp => by
    by_cases hx : ahead x e
    · cases i with
      | zero => exact hx
      | succ i =>
        have hp' : i < posI e L := by
          unfold posI at hp ⊢
          simp [hx] at hp
          exact hp
        exact posI_before e L i (by simpa using h) hp'
    · unfold posI at hp
      simp [hx] at hp
theorem posI_at (e : En) : ∀ (L : List En) (h : posI e L < L.length), ¬ ahead L[posI e L] e
  | [], h => absurd h (by simp [posI])
  | x :: L, h => by
    by_cases hx : ahead x e
    · have h1 : posI e (x :: L) = posI e L + 1 := by unfold posI; simp [hx]
      have h' : posI e L < L.length := by rw [h1] at h; simpa using h
      have := posI_at e L h'
      simp [h1, this]
    · have h0 : posI e (x :: L) = 0 := by unfold posI; simp [hx]
      simp [h0, hx]
theorem posI_after {e : En} {L : List En} (hs : SrtE L) (i : Nat) (h : i < L.length) (hp : posI e L ≤ i) : ¬ ahead L[i] e := by
  have h0 := posI_at e L (by omega)
  rcases Nat.lt_or_ge (posI e L) i with hlt | hge
  · exact fun ha => h0 (ahead_trans (List.pairwise_iff_getElem.mp hs _ i (by omega) h hlt) ha)
  · have : i = posI e L := by omega
    subst this
    exact h0
def insI (e : En) (L : List En) : List En := L.take (posI e L) ++ e :: L.drop (posI e L)
theorem insI_len (e : En) (L : List En) : (insI e L).length = L.length + 1 := by
  have := posI_le e L
  unfold insI
  rw [List.length_append, List.length_cons, List.length_take, List.length_drop]
  omega
theorem insI_new {e : En} {L : List En} (hn : ∀ x ∈ L, ¬ (x.1 = e.1 ∧ x.2.1 = e.2.1)) : insI e L = insE e L := by
  have : posI e L = posE e L := posE_unique (posI e L) (posI_le e L) (fun i h hi => ahead_asymm (posI_before e L i h hi)) fun h => by
    have h1 := posI_at e L h
    by_cases h2 : ahead e L[posI e L]
    · exact h2
    · exact absurd (ahead_tri h1 h2) (hn _ (List.getElem_mem h))
  rw [insE_pos, ← this]
  rfl
theorem insI_old {e x : En} {L : List En} (hx : x ∈ L) (hk : x.1 = e.1 ∧ x.2.1 = e.2.1) : ¬ SrtE (insI e L) := by
  intro hs
  unfold insI SrtE at hs
  rw [← List.take_append_drop (posI e L) L] at hx
  obtain ⟨_, h2, h3⟩ := List.pairwise_append.mp hs
  rcases List.mem_append.mp hx with h | h
  · exact ahead_ne (h3 x h e (by simp)) hk
  · exact ahead_ne ((List.pairwise_cons.mp h2).1 x h) ⟨hk.1.symm, hk.2.symm⟩
theorem insI_ok {e : En} {L : List En} (h : memOkL L) : memOkL (insI e L) ↔ memOkL (insE e L) := by
  by_cases hn : ∀ x ∈ L, ¬ (x.1 = e.1 ∧ x.2.1 = e.2.1)
  · rw [insI_new hn]
  · have hx : ∃ x ∈ L, x.1 = e.1 ∧ x.2.1 = e.2.1 := by
      simp only [Classical.not_forall, Classical.not_not] at hn
      obtain ⟨x, hx, hk⟩ := hn
      exact ⟨x, hx, hk⟩
    obtain ⟨x, hx, hk⟩ := hx
    exact ⟨fun k => absurd k.2.2 (insI_old hx hk), fun k => absurd hk ((canPut_iff h).mp k |>.2.2 x hx)⟩
theorem insI_eq {e : En} {L : List En} (h : memOkL L) (k : memOkL (insE e L)) : insI e L = insE e L := insI_new ((canPut_iff h).mp k).2.2
/-- what MemPut answers -/
def putM (L : List En) (e : En) : List En := if memOkL L then (if memOkL (insE e L) then insE e L else L) else []
def putB (L : List En) (e : En) : Bool := decide (memOkL L) && decide (memOkL (insE e L))
theorem putM_bad {L : List En} {e : En} (h : ¬ memOkL L) : putM L e = [] ∧ putB L e = false := by unfold putM putB; rw [if_neg h, decide_eq_false h]; exact ⟨rfl, rfl⟩
theorem putM_no {L : List En} {e : En} (h : memOkL L) (k : ¬ memOkL (insE e L)) : putM L e = L ∧ putB L e = false := by unfold putM putB; rw [if_pos h, if_neg k, decide_eq_false k, Bool.and_false]; exact ⟨rfl, rfl⟩
theorem putM_yes {L : List En} {e : En} (h : memOkL L) (k : memOkL (insE e L)) : putM L e = insE e L ∧ putB L e = true := by unfold putM putB; rw [if_pos h, if_pos k, decide_eq_true h, decide_eq_true k]; exact ⟨rfl, rfl⟩
theorem putM_len (L : List En) (e : En) : (putM L e).length ≤ L.length + 1 := by
  unfold putM
  split
  · split
    · rw [insE_len]; omega
    · omega
  · simp

/-- the zero entry -/
def zeroE : En := (⟨#[]⟩, 0, false, ⟨#[]⟩)
/-- what MemGet answers -/
def getM (L : List En) (k : ByteArray) (n : Int) : En := if memOkL L then (getE k n L).getD zeroE else zeroE
def getB (L : List En) (k : ByteArray) (n : Int) : Bool := decide (memOkL L) && (getE k n L).isSome
/-- the program's way to find it: the first entry that does not stand ahead of the key at n -/
theorem getE_reach {L : List En} (hs : SrtE L) (k : ByteArray) (n : Int) (d : Bool) (v : ByteArray) :
    (∀ h : posI (k, n, d, v) L < L.length, L[posI (k, n, d, v) L].1 = k → getE k n L = some L[posI (k, n, d, v) L]) ∧
    ((∀ h : posI (k, n, d, v) L < L.length, L[posI (k, n, d, v) L].1 ≠ k) → getE k n L = none) := by
  have key : ∀ i (h : i < L.length), L[i].1 = k ∧ L[i].2.1 ≤ n → posI (k, n, d, v) L ≤ i := fun i h hk => by
    apply Nat.le_of_not_lt
    intro hlt
    rcases posI_before (k, n, d, v) L i h hlt with ha | ⟨_, ha⟩
    · exact kless_ne ha hk.1
    · have : n < L[i].2.1 := ha
      omega
  constructor
  · intro h hk
    have h1 := posI_at (k, n, d, v) L h
    refine List.find?_eq_some_iff_getElem.mpr ⟨?_, posI (k, n, d, v) L, h, rfl, fun i hi => ?_⟩
    · simp only [decide_eq_true_eq]
      refine ⟨hk, ?_⟩
      apply Int.le_of_not_gt
      intro hgt
      exact h1 (.inr ⟨hk, hgt⟩)
    · simp only [Bool.not_eq_true', decide_eq_false_iff_not]
      exact fun hh => absurd (key i (by omega) hh) (by omega)
  · intro hno
    refine getE_none.mpr fun x hx hk => ?_
    obtain ⟨i, hi, rfl⟩ := List.getElem_of_mem hx
    have hp := key i hi hk
    have hl : posI (k, n, d, v) L < L.length := by omega
    have hne := hno hl
    have h1 := posI_at (k, n, d, v) L hl
    have hk2 : kless k L[posI (k, n, d, v) L].1 = true := by
      cases hc : kless L[posI (k, n, d, v) L].1 k with
      | true => exact absurd (.inl hc) h1
      | false => exact kless_of_ne hc hne
    rcases Nat.lt_or_ge (posI (k, n, d, v) L) i with hlt | hge
    · have ha := List.pairwise_iff_getElem.mp hs _ i hl hi hlt
      rcases ha with ha | ⟨ha, _⟩
      · rw [hk.1] at ha
        rw [kless_asymm ha] at hk2
        cases hk2
      · exact hne (ha.trans hk.1)
    · have : i = posI (k, n, d, v) L := by omega
      subst this
      exact hne hk.1

/-! ### the map, row by row -/
def vis (n : Int) (L : List En) (x : En) : Prop := getE x.1 n L = some x ∧ x.2.2.1 = false
instance (n : Int) (L : List En) (x : En) : Decidable (vis n L x) := by unfold vis; infer_instance
def mapP (n : Int) (L : List En) (j : Nat) : List KV := ((L.take j).filter fun x => decide (vis n L x)).map fun x => (x.1, x.2.2.2)
theorem mapP_zero (n : Int) (L : List En) : mapP n L 0 = [] := by simp [mapP]
theorem mapP_all (n : Int) (L : List En) : mapP n L L.length = mapE n L := by unfold mapP mapE vis; rw [List.take_length]
theorem mapP_len (n : Int) (L : List En) (j : Nat) : (mapP n L j).length ≤ j := by
  unfold mapP
  rw [List.length_map]
  refine Nat.le_trans (List.length_filter_le _ _) ?_
  rw [List.length_take]
  omega
theorem take_at {α : Type} {L : List α} {j : Nat} {x : α} (h : L[j]? = some x) : L.take (j + 1) = L.take j ++ [x] := by
  obtain ⟨hj, rfl⟩ := List.getElem?_eq_some_iff.1 h
  rw [List.take_succ_eq_append_getElem hj]
theorem mapP_yes {n : Int} {L : List En} {j : Nat} {x : En} (h : L[j]? = some x) (hv : vis n L x) : mapP n L (j + 1) = mapP n L j ++ [(x.1, x.2.2.2)] := by
  unfold mapP
  rw [take_at h, List.filter_append, List.map_append]
  simp [hv]
theorem mapP_no {n : Int} {L : List En} {j : Nat} {x : En} (h : L[j]? = some x) (hv : ¬ vis n L x) : mapP n L (j + 1) = mapP n L j := by
  unfold mapP
  rw [take_at h, List.filter_append, List.map_append]
  simp [hv]
/-- which entry is the one that its key shows -/
theorem first_iff {n : Int} {L : List En} {j : Nat} (hs : SrtE L) (hj : j < L.length) : getE L[j].1 n L = some L[j] ↔ L[j].2.1 ≤ n ∧ ∀ i (h : i < j), ¬ (L[i].1 = L[j].1 ∧ L[i].2.1 ≤ n) := by
  constructor
  · intro h
    refine ⟨(getE_some h).2.2, fun i hi hk => ?_⟩
    obtain ⟨_, i0, h0, he, hb⟩ := List.find?_eq_some_iff_getElem.mp h
    have : i0 = j := by
      rcases Nat.lt_trichotomy i0 j with hl | hl | hl
      · exact absurd ⟨congrArg (·.1) he, congrArg (·.2.1) he⟩ (ahead_ne (List.pairwise_iff_getElem.mp hs i0 j h0 hj hl))
      · exact hl
      · exact absurd ⟨(congrArg (·.1) he).symm, (congrArg (·.2.1) he).symm⟩ (ahead_ne (List.pairwise_iff_getElem.mp hs j i0 hj h0 hl))
    have hbi := hb i (by omega)
    simp only [Bool.not_eq_true', decide_eq_false_iff_not] at hbi
    exact hbi hk
  · rintro ⟨h1, h2⟩
    refine List.find?_eq_some_iff_getElem.mpr ⟨by simp [h1], j, hj, rfl, fun i hi => ?_⟩
    simp only [Bool.not_eq_true', decide_eq_false_iff_not]
    exact h2 i hi
/-- the last key of which a version was shown (or would have been, were it not deleted): what the program keeps -/
def LastOk (n : Int) (L : List En) (j : Nat) (last : ByteArray) : Prop :=
  (last = ⟨#[]⟩ ∨ ∃ i, ∃ h : i < L.length, i < j ∧ L[i].2.1 ≤ n ∧ L[i].1 = last) ∧ ∀ i (h : i < L.length), i < j → L[i].2.1 ≤ n → kless last L[i].1 = false
theorem last_zero (n : Int) (L : List En) : LastOk n L 0 ⟨#[]⟩ := ⟨.inl rfl, fun i _ hi => by omega⟩
theorem last_eq {n : Int} {L : List En} {j : Nat} {last : ByteArray} (hs : SrtE L) (hk : ∀ x ∈ L, entOk x) (h : LastOk n L j last) (hj : j < L.length) : L[j].1 = last ↔ ∃ i, ∃ h : i < j, L[i].1 = L[j].1 ∧ L[i].2.1 ≤ n := by
  constructor
  · intro he
    rcases h.1 with h0 | ⟨i, hi, hij, h1, h2⟩
    · have := (hk _ (List.getElem_mem hj)).1.1
      rw [he, h0] at this
      exact absurd this (by decide)
    · exact ⟨i, hij, h2.trans he.symm, h1⟩
  · rintro ⟨i, hij, h1, h2⟩
    have hil : i < L.length := by omega
    have h3 := h.2 i hil hij h2
    rcases h.1 with h0 | ⟨m, hm, hmj, h4, h5⟩
    · have := (hk _ (List.getElem_mem hil)).1.1
      have he : L[i].1 = last := by
        refine (kless_tri h3 ?_).symm
        rw [h0]
        unfold kless
        rw [show (⟨#[]⟩ : ByteArray).toList = [] from by rw [ByteArray.toList_eq]]
        cases hc : L[i].1.toList <;> rfl
      rw [he, h0] at this
      exact absurd this (by decide)
    · have ha := List.pairwise_iff_getElem.mp hs m j hm hj hmj
      have h6 : kless L[j].1 L[m].1 = false := by
        rcases ha with ha | ⟨ha, _⟩
        · exact kless_asymm ha
        · rw [ha, kless_irrefl]
      rw [h5] at h6
      rw [h1] at h3
      exact (kless_tri h3 h6).symm
theorem last_skip {n : Int} {L : List En} {j : Nat} {last : ByteArray} (h : LastOk n L j last) (hj : j < L.length) (hc : n < L[j].2.1 ∨ L[j].1 = last) : LastOk n L (j + 1) last := by
  refine ⟨?_, fun i hi hij hn => ?_⟩
  · rcases h.1 with h0 | ⟨i, hi, hij, h1, h2⟩
    · exact .inl h0
    · exact .inr ⟨i, hi, by omega, h1, h2⟩
  · rcases Nat.lt_or_ge i j with hlt | hge
    · exact h.2 i hi hlt hn
    · have : i = j := by omega
      subst this
      rcases hc with hc | hc
      · omega
      · rw [hc, kless_irrefl]
theorem last_new {n : Int} {L : List En} {j : Nat} {last : ByteArray} (hs : SrtE L) (_ : LastOk n L j last) (hj : j < L.length) (hn : L[j].2.1 ≤ n) : LastOk n L (j + 1) L[j].1 := by
  refine ⟨.inr ⟨j, hj, by omega, hn, rfl⟩, fun i hi hij hni => ?_⟩
  rcases Nat.lt_or_ge i j with hlt | hge
  · rcases List.pairwise_iff_getElem.mp hs i j hi hj hlt with ha | ⟨ha, _⟩
    · exact kless_asymm ha
    · rw [ha, kless_irrefl]
  · have : i = j := by omega
    subst this
    exact kless_irrefl _
/-- what the program does with entry j -/
theorem vis_iff {n : Int} {L : List En} {j : Nat} {last : ByteArray} (hs : SrtE L) (hk : ∀ x ∈ L, entOk x) (h : LastOk n L j last) (hj : j < L.length) : vis n L L[j] ↔ ¬ (n < L[j].2.1 ∨ L[j].1 = last) ∧ L[j].2.2.1 = false := by
  unfold vis
  rw [first_iff hs hj, last_eq hs hk h hj]
  constructor
  · rintro ⟨⟨h1, h2⟩, h3⟩
    refine ⟨?_, h3⟩
    rintro (hc | ⟨i, hi, hc⟩)
    · omega
    · exact h2 i hi hc
  · rintro ⟨h1, h2⟩
    exact ⟨⟨by omega, fun i hi hc => h1 (.inr ⟨i, hi, hc⟩)⟩, h2⟩
/-- the specification's test of entry j -/
theorem vis_get {n : Int} {L : List En} {x y : En} (hs : SrtE L) (hx : x ∈ L) (hy : getE x.1 n L = some y) : vis n L x ↔ y.2.2.1 = false ∧ y.2.1 = x.2.1 := by
  obtain ⟨h1, h2, _⟩ := getE_some hy
  unfold vis
  rw [hy]
  constructor
  · rintro ⟨h, h3⟩
    obtain rfl := Option.some.inj h
    exact ⟨h3, rfl⟩
  · rintro ⟨h3, h4⟩
    obtain rfl := srtE_same hs h1 hx ⟨h2, h4⟩
    exact ⟨rfl, h3⟩
theorem vis_none {n : Int} {L : List En} {x : En} (hy : getE x.1 n L = none) : ¬ vis n L x := fun h => by
  have := h.1
  rw [hy] at this
  cases this
/-- what MemMap and MemRange answer -/
def mapM (L : List En) (n : Int) : List KV := if memOkL L then mapE n L else []
theorem mapM_len (L : List En) (n : Int) : (mapM L n).length ≤ L.length := by
  unfold mapM
  split
  · exact mapE_len n L
  · simp
def rangP (f t : ByteArray) (M : List KV) (j : Nat) : List KV := (M.take j).filter fun x => decide (withinK x.1 f t)
theorem rangP_zero (f t : ByteArray) (M : List KV) : rangP f t M 0 = [] := by simp [rangP]
theorem rangP_all (f t : ByteArray) (M : List KV) : rangP f t M M.length = rangeE f t M := by unfold rangP rangeE; rw [List.take_length]
theorem rangP_len (f t : ByteArray) (M : List KV) (j : Nat) : (rangP f t M j).length ≤ j := by
  refine Nat.le_trans (List.length_filter_le _ _) ?_
  rw [List.length_take]
  omega
theorem rangP_yes {f t : ByteArray} {M : List KV} {j : Nat} {x : KV} (h : M[j]? = some x) (hv : withinK x.1 f t) : rangP f t M (j + 1) = rangP f t M j ++ [x] := by
  unfold rangP
  rw [take_at h, List.filter_append]
  simp [hv]
theorem rangP_no {f t : ByteArray} {M : List KV} {j : Nat} {x : KV} (h : M[j]? = some x) (hv : ¬ withinK x.1 f t) : rangP f t M (j + 1) = rangP f t M j := by
  unfold rangP
  rw [take_at h, List.filter_append]
  simp [hv]
theorem rangE_len (f t : ByteArray) (M : List KV) : (rangeE f t M).length ≤ M.length := List.length_filter_le _ _

/-! ### the specification's way to put an entry, element by element -/
def outP (e : En) (L : List En) (j : Nat) : List En := if j ≤ posE e L then L.take j else L.take (posE e L) ++ e :: (L.drop (posE e L)).take (j - posE e L)
theorem outP_zero (e : En) (L : List En) : outP e L 0 = [] := by unfold outP; rw [if_pos (Nat.zero_le _)]; rfl
theorem outP_len (e : En) (L : List En) (j : Nat) : (outP e L j).length ≤ j + 1 := by
  unfold outP
  split
  · rw [List.length_take]; omega
  · rw [List.length_append, List.length_cons, List.length_take, List.length_take]; omega
theorem outP_step {e x : En} {L : List En} {j : Nat} (h : L[j]? = some x) (hne : j ≠ posE e L) : outP e L (j + 1) = outP e L j ++ [x] := by
  unfold outP
  rcases Nat.lt_or_ge j (posE e L) with hlt | hge
  · rw [if_pos (by omega), if_pos (by omega), take_at h]
  · rw [if_neg (by omega), if_neg (by omega)]
    have h1 : (L.drop (posE e L))[j - posE e L]? = some x := by rw [List.getElem?_drop, show posE e L + (j - posE e L) = j by omega]; exact h
    rw [show j + 1 - posE e L = (j - posE e L) + 1 by omega, take_at h1]
    simp
theorem outP_put {e x : En} {L : List En} {j : Nat} (h : L[j]? = some x) (he : j = posE e L) : outP e L (j + 1) = (outP e L j ++ [e]) ++ [x] := by
  subst he
  unfold outP
  rw [if_neg (by omega), if_pos (Nat.le_refl _), show posE e L + 1 - posE e L = 1 by omega]
  obtain ⟨hj, rfl⟩ := List.getElem?_eq_some_iff.1 h
  rw [take1_drop L (posE e L) hj]
  simp
theorem outP_end {e : En} {L : List En} (h : posE e L < L.length) : outP e L L.length = insE e L := by
  unfold outP
  rw [if_neg (by omega), insE_pos, List.take_of_length_le (l := L.drop (posE e L)) (by rw [List.length_drop]; omega)]
theorem outP_last {e : En} {L : List En} (h : L.length ≤ posE e L) : outP e L L.length ++ [e] = insE e L := by
  have hp : posE e L = L.length := Nat.le_antisymm (posE_le e L) h
  unfold outP
  rw [if_pos h, insE_pos, hp, List.drop_length]
theorem ahead_pos {e x : En} {L : List En} {j : Nat} (h : L[j]? = some x) (hj : j ≤ posE e L) : ahead e x ↔ j = posE e L := by
  obtain ⟨hl, rfl⟩ := List.getElem?_eq_some_iff.1 h
  constructor
  · intro ha
    rcases Nat.lt_or_ge j (posE e L) with hlt | hge
    · exact absurd ha (posE_before e L j hl hlt)
    · omega
  · intro he
    subst he
    exact posE_at e L hl
end Go.Proofs.Ytphfakdbgohhgaa

/-
  What the law of chapter 9 asks, on lists. Nothing here speaks of a program.
-/
namespace Go.Proofs.Ytphfakdbgohhgaa
open Go.RowKit

theorem put_letters (L : List En) (e : En) : (putB L e = true ∧ memOkL L ∧ memOkL (insE e L) ∧ putM L e = insE e L) ∨ (putB L e = false ∧ memOkL L ∧ putM L e = L) ∨ (putB L e = false ∧ ¬ memOkL L ∧ putM L e = []) := by
  by_cases h : memOkL L
  · by_cases k : memOkL (insE e L)
    · obtain ⟨h1, h2⟩ := putM_yes h k
      exact .inl ⟨h2, h, k, h1⟩
    · obtain ⟨h1, h2⟩ := putM_no h k
      exact .inr (.inl ⟨h2, h, h1⟩)
  · obtain ⟨h1, h2⟩ := putM_bad (e := e) h
    exact .inr (.inr ⟨h2, h, h1⟩)
theorem get_self {M : List En} (h : memOkL M) {x : En} (hx : x ∈ M) : getM M x.1 x.2.1 = x ∧ getB M x.1 x.2.1 = true := by
  have hs := getE_self h.2.2 hx
  unfold getM getB
  rw [if_pos h, hs, decide_eq_true h]
  exact ⟨rfl, rfl⟩
theorem mapM_ok (K : List En) (q : Int) : mapOk (mapM K q) := by
  unfold mapM
  split
  · next h => exact mapE_ok h
  · exact ⟨fun x hx => by simp at hx, List.Pairwise.nil⟩
theorem rangP_more (f t : ByteArray) (M : List KV) (j d : Nat) : ∃ s, rangP f t M (j + d) = rangP f t M j ++ s := by
  unfold rangP
  rw [List.take_add, List.filter_append]
  exact ⟨_, rfl⟩
theorem rangP_at {f t : ByteArray} {M : List KV} {j : Nat} {x : KV} (h : M[j]? = some x) (hv : withinK x.1 f t) : (rangeE f t M)[(rangP f t M j).length]? = some x := by
  obtain ⟨hj, _⟩ := List.getElem?_eq_some_iff.1 h
  obtain ⟨s, hs⟩ := rangP_more f t M (j + 1) (M.length - (j + 1))
  rw [show j + 1 + (M.length - (j + 1)) = M.length by omega, rangP_all, rangP_yes h hv] at hs
  rw [hs]
  simp
end Go.Proofs.Ytphfakdbgohhgaa

/-
  Two neighbours out of order. Nothing here speaks of a program.
-/
namespace Go.Proofs.Ytphfakdbgohhgaa
open Go.RowKit

theorem srt_no {L : List KV} {p : Nat} (h1 : p + 1 < L.length) (h : ¬ kless (L[p]'(by omega)).1 L[p + 1].1 = true) : ¬ Srt L := fun hs => h ((srt_adj L).1 hs p h1)
end Go.Proofs.Ytphfakdbgohhgaa
