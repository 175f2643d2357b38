/-
  Sorted maps of strings, batches on them: nothing here speaks of the program.
-/
import Derived.Test.YtphfakdbgohhgaaMathG
namespace Go.Proofs.Ytphfakdbgohhgaa
open Go.RowKit

/-- a key and its value -/
abbrev KV := ByteArray × ByteArray
/-- a key, 'deleted', a value -/
abbrev Opn := ByteArray × Bool × ByteArray
def kvOk (x : KV) : Prop := 1 ≤ x.1.size ∧ x.1.size ≤ 10 ∧ x.2.size ≤ 16
def opOk (o : Opn) : Prop := 1 ≤ o.1.size ∧ o.1.size ≤ 10 ∧ o.2.2.size ≤ 16 ∧ (o.2.1 = true → o.2.2.size = 0)
instance (x : KV) : Decidable (kvOk x) := inferInstanceAs (Decidable (_ ∧ _))
instance (o : Opn) : Decidable (opOk o) := inferInstanceAs (Decidable (_ ∧ _))
def Srt (L : List KV) : Prop := L.Pairwise fun x y => kless x.1 y.1 = true
instance (L : List KV) : Decidable (Srt L) := inferInstanceAs (Decidable (List.Pairwise _ _))
/-- neighbours in order: all in order -/
theorem srt_adj (L : List KV) : Srt L ↔ ∀ i (h : i + 1 < L.length), kless L[i].1 L[i + 1].1 = true := by
  constructor
  · intro h i hi
    exact List.pairwise_iff_getElem.1 h i (i + 1) (by omega) hi (by omega)
  · intro h
    refine List.pairwise_iff_getElem.2 ?_
    intro i j hi hj hij
    obtain ⟨d, rfl⟩ : ∃ d, j = i + 1 + d := ⟨j - i - 1, by omega⟩
    clear hij
    induction d with
    | zero => exact h i hj
    | succ d ih => exact kless_trans (ih (by omega)) (h (i + 1 + d) hj)
def mapOk (L : List KV) : Prop := (∀ x ∈ L, kvOk x) ∧ Srt L
instance (L : List KV) : Decidable (mapOk L) := inferInstanceAs (Decidable (_ ∧ _))
def batOk (l : List Opn) : Prop := 1 ≤ l.length ∧ l.length ≤ 6 ∧ ∀ o ∈ l, opOk o
instance (l : List Opn) : Decidable (batOk l) := inferInstanceAs (Decidable (_ ∧ _))

/-- how many keys lie before k -/
def posK (k : ByteArray) (L : List KV) : Nat := (L.takeWhile fun x => kless x.1 k).length
theorem posK_le (k : ByteArray) (L : List KV) : posK k L ≤ L.length := by
  unfold posK
  exact (List.takeWhile_sublist _).length_le
theorem posK_cons_yes {k : ByteArray} {x : KV} (L : List KV) (h : kless x.1 k = true) : posK k (x :: L) = posK k L + 1 := by simp [posK, h]
theorem posK_cons_no {k : ByteArray} {x : KV} (L : List KV) (h : kless x.1 k = false) : posK k (x :: L) = 0 := by simp [posK, h]
theorem posK_before (k : ByteArray) : ∀ (L : List KV) (i : Nat) (h : i < L.length), i < posK k L → kless L[i].1 k = true
  | [], i, h, _ => by simp at h
  | x :: L, i, h, hp => by
    cases hx : kless x.1 k with
    | false => rw [posK_cons_no L hx] at hp; omega
    | true =>
      rw [posK_cons_yes L hx] at hp
      cases i with
      | zero => simpa using hx
      | succ i => simpa using posK_before k L i (by simpa using h) (by omega)
theorem posK_at (k : ByteArray) : ∀ (L : List KV) (h : posK k L < L.length), kless L[posK k L].1 k = false
  | [], h => by simp at h
  | x :: L, h => by
    cases hx : kless x.1 k with
    | false => simp [posK_cons_no L hx, hx]
    | true =>
      have e := posK_cons_yes L hx
      have h' : posK k L < L.length := by rw [e] at h; simpa using h
      simp only [e, List.getElem_cons_succ]
      exact posK_at k L h'
theorem posK_after {k : ByteArray} {L : List KV} (hs : Srt L) (i : Nat) (h : i < L.length) (hp : posK k L ≤ i) : kless L[i].1 k = false := by
  have h0 := posK_at k L (by omega)
  rcases Nat.lt_or_ge (posK k L) i with hlt | hge
  · have h1 := List.pairwise_iff_getElem.1 hs (posK k L) i (by omega) h hlt
    cases hc : kless L[i].1 k with
    | false => rfl
    | true => rw [kless_trans h1 hc] at h0; cases h0
  · have e : posK k L = i := by omega
    simpa [e] using h0
/-- the place that a search finds -/
theorem posK_unique {k : ByteArray} {L : List KV} (p : Nat) (hp : p ≤ L.length) (h1 : ∀ i (h : i < L.length), i < p → kless L[i].1 k = true) (h2 : ∀ h : p < L.length, kless L[p].1 k = false) : p = posK k L := by
  have hl := posK_le k L
  rcases Nat.lt_trichotomy p (posK k L) with h | h | h
  · have := posK_before k L p (by omega) h
    rw [h2 (by omega)] at this
    cases this
  · exact h
  · have := posK_at k L (by omega)
    rw [h1 (posK k L) (by omega) h] at this
    cases this
/-- k is contained -/
def hasK (k : ByteArray) (L : List KV) : Prop := ∃ h : posK k L < L.length, L[posK k L].1 = k
instance (k : ByteArray) (L : List KV) : Decidable (hasK k L) := inferInstanceAs (Decidable (∃ _, _))
theorem hasK_of {k : ByteArray} {L : List KV} (hs : Srt L) (i : Nat) (h : i < L.length) (hk : L[i].1 = k) : i = posK k L ∧ hasK k L := by
  have e : i = posK k L := by
    refine posK_unique i (by omega) (fun j hj hji => ?_) (fun _ => by rw [hk]; exact kless_irrefl k)
    have := List.pairwise_iff_getElem.1 hs j i hj h hji
    rwa [hk] at this
  subst e
  exact ⟨rfl, h, hk⟩
theorem hasK_no {k : ByteArray} {L : List KV} (hs : Srt L) (hn : ¬ hasK k L) (i : Nat) (h : i < L.length) : L[i].1 ≠ k := fun hk => hn (hasK_of hs i h hk).2

def putK (k v : ByteArray) (L : List KV) : List KV := L.take (posK k L) ++ (k, v) :: L.drop (if hasK k L then posK k L + 1 else posK k L)
def delK (k : ByteArray) (L : List KV) : List KV := if hasK k L then L.take (posK k L) ++ L.drop (posK k L + 1) else L
def putO (L : List KV) (o : Opn) : List KV := if o.2.1 = true then delK o.1 L else putK o.1 o.2.2 L
def applyL (L : List KV) (l : List Opn) : List KV := l.foldl putO L

theorem mem_take' {α : Type} {l : List α} {n : Nat} {x : α} (h : x ∈ l.take n) : x ∈ l := List.mem_of_mem_take h
theorem srt_take {L : List KV} (h : Srt L) (n : Nat) : Srt (L.take n) := List.Pairwise.sublist (List.take_sublist n L) h
theorem srt_drop {L : List KV} (h : Srt L) (n : Nat) : Srt (L.drop n) := List.Pairwise.sublist (List.drop_sublist n L) h
theorem take_less {k : ByteArray} {L : List KV} {x : KV} (h : x ∈ L.take (posK k L)) : kless x.1 k = true := by
  obtain ⟨i, hi, rfl⟩ := List.getElem_of_mem h
  rw [List.length_take] at hi
  rw [List.getElem_take]
  exact posK_before k L i (by omega) (by omega)
theorem drop_more {k : ByteArray} {L : List KV} (hs : Srt L) {x : KV} (h : x ∈ L.drop (if hasK k L then posK k L + 1 else posK k L)) : kless k x.1 = true := by
  obtain ⟨i, hi, rfl⟩ := List.getElem_of_mem h
  rw [List.length_drop] at hi
  rw [List.getElem_drop]
  by_cases hk : hasK k L
  · simp only [if_pos hk] at hi ⊢
    obtain ⟨hl, he⟩ := hk
    have := List.pairwise_iff_getElem.1 hs (posK k L) (posK k L + 1 + i) hl (by omega) (by omega)
    rwa [he] at this
  · simp only [if_neg hk] at hi ⊢
    exact kless_of_ne (posK_after hs _ (by omega) (by omega)) (hasK_no hs hk _ (by omega))
theorem srt_putK {L : List KV} (hs : Srt L) (k v : ByteArray) : Srt (putK k v L) := by
  unfold putK Srt
  rw [List.pairwise_append]
  refine ⟨srt_take hs _, ?_, ?_⟩
  · rw [List.pairwise_cons]
    exact ⟨fun x hx => drop_more hs hx, srt_drop hs _⟩
  · intro x hx y hy
    rcases List.mem_cons.1 hy with rfl | hy
    · exact take_less hx
    · exact kless_trans (take_less hx) (drop_more hs hy)
theorem srt_delK {L : List KV} (hs : Srt L) (k : ByteArray) : Srt (delK k L) := by
  unfold delK
  split
  · unfold Srt
    rw [List.pairwise_append]
    refine ⟨srt_take hs _, srt_drop hs _, fun x hx y hy => kless_trans (take_less hx) (drop_more hs ?_)⟩
    rename_i hk
    rw [if_pos hk]
    exact hy
  · exact hs
theorem mapOk_putO {L : List KV} (h : mapOk L) {o : Opn} (ho : opOk o) : mapOk (putO L o) := by
  unfold putO
  split
  · refine ⟨fun x hx => h.1 x ?_, srt_delK h.2 _⟩
    unfold delK at hx
    split at hx
    · rcases List.mem_append.1 hx with hx | hx
      · exact List.mem_of_mem_take hx
      · exact List.mem_of_mem_drop hx
    · exact hx
  · refine ⟨fun x hx => ?_, srt_putK h.2 _ _⟩
    unfold putK at hx
    rcases List.mem_append.1 hx with hx | hx
    · exact h.1 x (List.mem_of_mem_take hx)
    · rcases List.mem_cons.1 hx with rfl | hx
      · exact ⟨ho.1, ho.2.1, ho.2.2.1⟩
      · exact h.1 x (List.mem_of_mem_drop hx)
theorem mapOk_applyL : ∀ (l : List Opn) (L : List KV), mapOk L → (∀ o ∈ l, opOk o) → mapOk (applyL L l)
  | [], _, h, _ => h
  | o :: l, L, h, ho => mapOk_applyL l (putO L o) (mapOk_putO h (ho o (by simp))) fun x hx => ho x (by simp [hx])
theorem applyL_snoc (L : List KV) (l : List Opn) (o : Opn) : applyL L (l ++ [o]) = putO (applyL L l) o := by simp [applyL]

/-- the map behind a batch, and whether both are valid -/
def applyM (m : List KV) (l : List Opn) : List KV := if mapOk m then (if batOk l then applyL m l else m) else []
def applyB (m : List KV) (l : List Opn) : Bool := decide (mapOk m ∧ batOk l)
theorem apply_one {m : List KV} (hm : mapOk m) {o : Opn} (ho : opOk o) : applyM m [o] = putO m o ∧ applyB m [o] = true := by
  have hb : batOk [o] := ⟨by simp, by simp, fun x hx => by rw [List.mem_singleton.1 hx]; exact ho⟩
  exact ⟨by rw [applyM, if_pos hm, if_pos hb]; rfl, decide_eq_true ⟨hm, hb⟩⟩

/-- a scan: what lies before k, then k, then what lies behind (as the specification puts it) -/
def scanP (k v : ByteArray) : Bool → List KV → List KV
  | put, [] => if put = true then [] else [(k, v)]
  | put, x :: r => (if put = false ∧ kless x.1 k = false then [(k, v)] else []) ++ (if x.1 = k then [] else [x]) ++ scanP k v (put || !(kless x.1 k)) r
theorem scanP_done (k v : ByteArray) : ∀ L : List KV, (∀ x ∈ L, x.1 ≠ k) → scanP k v true L = L
  | [], _ => rfl
  | x :: r, h => by
    rw [scanP, if_neg (by simp), if_neg (h x (by simp)), Bool.true_or, scanP_done k v r fun y hy => h y (by simp [hy])]
    rfl
theorem scanP_put (k v : ByteArray) : ∀ L : List KV, Srt L → scanP k v false L = putK k v L
  | [], _ => by simp [scanP, putK, posK, hasK]
  | x :: r, hs => by
    have hr : Srt r := (List.pairwise_cons.1 hs).2
    cases hx : kless x.1 k with
    | true =>
      have hne := kless_ne hx
      have e := posK_cons_yes r hx
      have hh : hasK k (x :: r) ↔ hasK k r := by
        unfold hasK
        simp only [e, List.length_cons, List.getElem_cons_succ]
        exact ⟨fun ⟨a, b⟩ => ⟨by omega, b⟩, fun ⟨a, b⟩ => ⟨by omega, b⟩⟩
      rw [scanP, if_neg (by simp [hx]), if_neg hne, hx, Bool.not_true, Bool.or_false, scanP_put k v r hr]
      unfold putK
      rw [e]
      by_cases hk : hasK k r
      · rw [if_pos hk, if_pos (hh.2 hk)]; rfl
      · rw [if_neg hk, if_neg (fun h => hk (hh.1 h))]; rfl
    | false =>
      have e := posK_cons_no r hx
      have hno : ∀ y ∈ r, y.1 ≠ k := fun y hy he => by
        have := (List.pairwise_cons.1 hs).1 y hy
        rw [he, hx] at this
        cases this
      rw [scanP, if_pos ⟨rfl, hx⟩, hx, Bool.not_false, Bool.or_true, scanP_done k v r hno]
      unfold putK
      rw [e]
      by_cases hk : x.1 = k
      · have hh : hasK k (x :: r) := ⟨by rw [e]; simp, by simp only [e]; simpa using hk⟩
        rw [if_pos hk, if_pos hh]
        simp
      · have hh : ¬ hasK k (x :: r) := fun ⟨_, b⟩ => hk (by simp only [e, List.getElem_cons_zero] at b; exact b)
        rw [if_neg hk, if_neg hh]
        simp
theorem scanP_del (k v : ByteArray) : ∀ L : List KV, Srt L → scanP k v true L = delK k L
  | [], _ => by simp [scanP, delK, hasK]
  | x :: r, hs => by
    have hr : Srt r := (List.pairwise_cons.1 hs).2
    cases hx : kless x.1 k with
    | true =>
      have hne := kless_ne hx
      have e := posK_cons_yes r hx
      have hh : hasK k (x :: r) ↔ hasK k r := by
        unfold hasK
        simp only [e, List.length_cons, List.getElem_cons_succ]
        exact ⟨fun ⟨a, b⟩ => ⟨by omega, b⟩, fun ⟨a, b⟩ => ⟨by omega, b⟩⟩
      rw [scanP, if_neg (by simp), if_neg hne, Bool.true_or, scanP_del k v r hr]
      unfold delK
      by_cases hk : hasK k r
      · rw [if_pos hk, if_pos (hh.2 hk), e]; rfl
      · rw [if_neg hk, if_neg (fun h => hk (hh.1 h))]; rfl
    | false =>
      have e := posK_cons_no r hx
      have hno : ∀ y ∈ r, y.1 ≠ k := fun y hy he => by
        have := (List.pairwise_cons.1 hs).1 y hy
        rw [he, hx] at this
        cases this
      rw [scanP, if_neg (by simp), Bool.true_or, scanP_done k v r hno]
      unfold delK
      by_cases hk : x.1 = k
      · have hh : hasK k (x :: r) := ⟨by rw [e]; simp, by simp only [e]; simpa using hk⟩
        rw [if_pos hk, if_pos hh, e]
        simp
      · have hh : ¬ hasK k (x :: r) := fun ⟨_, b⟩ => hk (by simp only [e, List.getElem_cons_zero] at b; exact b)
        rw [if_neg hk, if_neg hh]
        simp
/-- the length of all keys and values -/
def bytesL (L : List KV) : Nat := (L.map fun x => x.1.size + x.2.size).sum
theorem bytesL_snoc (L : List KV) (x : KV) : bytesL (L ++ [x]) = bytesL L + (x.1.size + x.2.size) := by simp [bytesL]
def bytesV (L : List KV) : Nat := if mapOk L then bytesL L else 0
end Go.Proofs.Ytphfakdbgohhgaa
