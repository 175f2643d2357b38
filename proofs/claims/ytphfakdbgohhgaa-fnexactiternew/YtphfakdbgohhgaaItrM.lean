/-
  What the functions of chapter 14 answer, on lists: nothing here speaks of the program.
-/
import Derived.Test.YtphfakdbgohhgaaEntM
namespace Go.Proofs.Ytphfakdbgohhgaa
open Go.RowKit

section
variable {p : KV → Bool} {L : List KV}
/-- the first place from i on at which p holds; the length if there is none -/
def fstI (p : KV → Bool) (L : List KV) (i : Nat) : Nat := i + ((L.drop i).takeWhile fun x => !p x).length
theorem fstI_end {i : Nat} (h : L.length ≤ i) : fstI p L i = i := by
  unfold fstI
  rw [List.drop_of_length_le h]
  rfl
theorem fstI_yes {i : Nat} (h : i < L.length) (hp : p L[i] = true) : fstI p L i = i := by
  unfold fstI
  rw [List.drop_eq_getElem_cons h, List.takeWhile_cons, hp]
  rfl
theorem fstI_no {i : Nat} (h : i < L.length) (hp : p L[i] = false) : fstI p L i = fstI p L (i + 1) := by
  unfold fstI
  rw [List.drop_eq_getElem_cons h, List.takeWhile_cons, hp]
  simp
  omega
theorem fstI_bd {i : Nat} (h : i ≤ L.length) : i ≤ fstI p L i ∧ fstI p L i ≤ L.length := by
  unfold fstI
  have h1 := (List.takeWhile_sublist (fun x => !p x) (l := L.drop i)).length_le
  rw [List.length_drop] at h1
  omega
theorem fstI_is {i j : Nat} (hi : i ≤ j) (hj : j ≤ L.length) (hb : ∀ k (hk : k < L.length), i ≤ k → k < j → p L[k] = false) (ha : ∀ h : j < L.length, p L[j] = true) : fstI p L i = j := by
  obtain ⟨d, rfl⟩ : ∃ d, j = i + d := ⟨j - i, by omega⟩
  induction d generalizing i with
  | zero =>
    rcases Nat.lt_or_ge i L.length with h | h
    · exact fstI_yes h (ha h)
    · exact fstI_end h
  | succ d ih =>
    have h1 : i < L.length := by omega
    rw [fstI_no h1 (hb i h1 (Nat.le_refl _) (by omega)), ih (i := i + 1) (by omega) (by omega) (fun k hk h2 h3 => hb k hk (by omega) (by omega)) (fun h => by simp only [show i + 1 + d = i + (d + 1) by omega] at h ⊢; exact ha h)]
    omega
theorem fstI_has {i : Nat} (h : i ≤ L.length) : (∀ k (hk : k < L.length), i ≤ k → k < fstI p L i → p L[k] = false) ∧ ∀ h : fstI p L i < L.length, p L[fstI p L i] = true := by
  obtain ⟨d, hd⟩ : ∃ d, L.length = i + d := ⟨L.length - i, by omega⟩
  induction d generalizing i with
  | zero =>
    rw [fstI_end (by omega)]
    exact ⟨fun k hk h1 h2 => by omega, fun h => by omega⟩
  | succ d ih =>
    have h1 : i < L.length := by omega
    cases hp : p L[i] with
    | true =>
      have e := fstI_yes h1 hp
      rw [e]
      exact ⟨fun k hk h1 h2 => by omega, fun h => hp⟩
    | false =>
      have e := fstI_no h1 hp
      obtain ⟨q1, q2⟩ := ih (i := i + 1) (by omega) (by omega)
      rw [e]
      refine ⟨fun k hk h2 h3 => ?_, q2⟩
      rcases Nat.lt_or_ge k (i + 1) with h4 | h4
      · obtain rfl : k = i := by omega
        exact hp
      · exact q1 k hk h4 h3

/-- the last place ahead of n at which p holds; -1 if there is none -/
def lstI (p : KV → Bool) (L : List KV) : Nat → Int
  | 0 => -1
  | n + 1 => if h : n < L.length then (if p L[n] then (n : Int) else lstI p L n) else lstI p L n
theorem lstI_zero : lstI p L 0 = -1 := rfl
theorem lstI_yes {n : Nat} (h : n < L.length) (hp : p L[n] = true) : lstI p L (n + 1) = (n : Int) := by
  unfold lstI
  rw [dif_pos h, if_pos hp]
theorem lstI_no {n : Nat} (h : n < L.length) (hp : p L[n] = false) : lstI p L (n + 1) = lstI p L n := by
  rw [lstI, dif_pos h, if_neg (by rw [hp]; simp)]
theorem lstI_bd : ∀ n : Nat, -1 ≤ lstI p L n ∧ lstI p L n < n ∧ lstI p L n < L.length
  | 0 => by rw [lstI_zero]; omega
  | n + 1 => by
    obtain ⟨h1, h2, h3⟩ := lstI_bd n
    unfold lstI
    split
    · split <;> omega
    · omega
theorem lstI_is {n : Nat} : ∀ {d j : Nat}, j + d = n → n ≤ L.length → (∀ k (hk : k < L.length), j ≤ k → k < n → p L[k] = false) → (0 < j → ∀ hl : j - 1 < L.length, p (L[j - 1]'hl) = true) → lstI p L n = (j : Int) - 1 := by
  intro d j hj hn hb ha
  induction d generalizing n with
  | zero =>
    obtain rfl : j = n := hj
    cases j with
    | zero => rw [lstI_zero]; rfl
    | succ j =>
      rw [lstI_yes (n := j) (by omega) (ha (by omega) (by omega))]
      omega
  | succ d ih =>
    cases n with
    | zero => omega
    | succ n =>
      rw [lstI_no (by omega) (hb n (by omega) (by omega) (by omega))]
      exact ih (by omega) (by omega) (fun k hk h1 h2 => hb k hk h1 (by omega))
end

/-- an iterator: list, bounds, place -/
abbrev ItE := List KV × ByteArray × ByteArray × Int
def itOk (x : ItE) : Prop := mapOk x.1 ∧ -1 ≤ x.2.2.2 ∧ x.2.2.2 ≤ (x.1.length : Int)
instance (x : ItE) : Decidable (itOk x) := inferInstanceAs (Decidable (_ ∧ _))
def zeroIt : ItE := ([], ⟨#[]⟩, ⟨#[]⟩, 0)
def inIt (f t : ByteArray) (y : KV) : Bool := decide (withinK y.1 f t)
/-- what is answered at place j -/
def goV (x : ItE) (j : Int) : ItE × KV × Bool :=
  if h : 0 ≤ j ∧ j < (x.1.length : Int) then ((x.1, x.2.1, x.2.2.1, j), x.1[j.toNat]'(by omega), true) else ((x.1, x.2.1, x.2.2.1, j), (⟨#[]⟩, ⟨#[]⟩), false)
theorem goV_yes {x : ItE} {j : Nat} (h : j < x.1.length) : goV x (j : Int) = ((x.1, x.2.1, x.2.2.1, (j : Int)), x.1[j], true) := by
  unfold goV
  rw [dif_pos ⟨by omega, by omega⟩]
  simp
theorem goV_end (x : ItE) : goV x (x.1.length : Int) = ((x.1, x.2.1, x.2.2.1, (x.1.length : Int)), (⟨#[]⟩, ⟨#[]⟩), false) := by
  unfold goV
  rw [dif_neg (by omega)]
theorem goV_ahead (x : ItE) : goV x (-1) = ((x.1, x.2.1, x.2.2.1, -1), (⟨#[]⟩, ⟨#[]⟩), false) := by
  unfold goV
  rw [dif_neg (by omega)]
def noV : ItE × KV × Bool := (zeroIt, (⟨#[]⟩, ⟨#[]⟩), false)
/-- the first place from i on within the bounds whose key is at least g -/
def upI (x : ItE) (g : ByteArray) (i : Nat) : Nat := fstI (fun y => inIt x.2.1 x.2.2.1 y && !kless y.1 g) x.1 (min x.1.length i)
/-- the last place ahead of n -/
def dnI (x : ItE) (n : Nat) : Int := lstI (inIt x.2.1 x.2.2.1) x.1 n
def nextV (x : ItE) : ItE × KV × Bool := if itOk x then goV x (upI x ⟨#[]⟩ (x.2.2.2 + 1).toNat : Nat) else noV
def prevV (x : ItE) : ItE × KV × Bool := if itOk x then goV x (dnI x x.2.2.2.toNat) else noV
def seekV (x : ItE) (k : ByteArray) : ItE × KV × Bool := if itOk x then goV x (upI x k 0 : Nat) else noV
theorem upI_yes {x : ItE} {g : ByteArray} {i : Nat} (h : i < x.1.length) (h1 : withinK x.1[i].1 x.2.1 x.2.2.1) (h2 : kless x.1[i].1 g = false) : upI x g i = i := by
  unfold upI
  rw [Nat.min_eq_right (by omega)]
  refine fstI_yes h ?_
  rw [inIt, decide_eq_true h1, h2]
  rfl
theorem upI_no {x : ItE} {g : ByteArray} {i : Nat} (h : i < x.1.length) (h1 : ¬ (withinK x.1[i].1 x.2.1 x.2.2.1 ∧ kless x.1[i].1 g = false)) : upI x g i = upI x g (i + 1) := by
  unfold upI
  rw [Nat.min_eq_right (show i ≤ x.1.length by omega), Nat.min_eq_right (show i + 1 ≤ x.1.length by omega)]
  refine fstI_no h ?_
  rw [inIt, Bool.and_eq_false_iff]
  by_cases hw : withinK x.1[i].1 x.2.1 x.2.2.1
  · right
    cases hk : kless x.1[i].1 g with
    | false => exact absurd ⟨hw, hk⟩ h1
    | true => rfl
  · left
    exact decide_eq_false hw
theorem upI_end {x : ItE} {g : ByteArray} {i : Nat} (h : x.1.length ≤ i) : upI x g i = x.1.length := by
  unfold upI
  rw [Nat.min_eq_left h, fstI_end (Nat.le_refl _)]
theorem dnI_zero (x : ItE) : dnI x 0 = -1 := rfl
theorem dnI_yes {x : ItE} {n : Nat} (h : n < x.1.length) (h1 : withinK x.1[n].1 x.2.1 x.2.2.1) : dnI x (n + 1) = (n : Int) := lstI_yes h (decide_eq_true h1)
theorem dnI_no {x : ItE} {n : Nat} (h : n < x.1.length) (h1 : ¬ withinK x.1[n].1 x.2.1 x.2.2.1) : dnI x (n + 1) = dnI x n := lstI_no h (decide_eq_false h1)
theorem kless_empty (k : ByteArray) : kless k ⟨#[]⟩ = false := by
  unfold kless
  rw [show (⟨#[]⟩ : ByteArray).toList = [] by rw [ByteArray.toList_eq]]
  cases k.toList <;> rfl
def newV (L : List KV) (f t : ByteArray) : ItE × Bool := if mapOk L then ((L, f, t, -1), true) else (zeroIt, false)

/-! In a map in order the bounds are places. -/
theorem posK_iff {L : List KV} (hs : Srt L) (k : ByteArray) {i : Nat} (h : i < L.length) : kless L[i].1 k = true ↔ i < posK k L := by
  constructor
  · intro hk
    refine Decidable.byContradiction fun hn => ?_
    have hp : posK k L < L.length := by omega
    have h1 := posK_at k L hp
    rcases Nat.lt_or_eq_of_le (show posK k L ≤ i by omega) with h2 | h2
    · have h3 := List.pairwise_iff_getElem.1 hs (posK k L) i hp h h2
      have := kless_trans h3 hk
      rw [h1] at this
      cases this
    · simp only [h2] at h1
      rw [h1] at hk
      cases hk
  · intro hi
    exact posK_before k L i h hi
/-- behind the last place within the bounds -/
def hiK (t : ByteArray) (L : List KV) : Nat := if t.size = 0 then L.length else posK t L
theorem hiK_le (t : ByteArray) (L : List KV) : hiK t L ≤ L.length := by
  unfold hiK
  split
  · exact Nat.le_refl _
  · exact posK_le t L
theorem inIt_iff {L : List KV} (hs : Srt L) (f t : ByteArray) {i : Nat} (h : i < L.length) : inIt f t L[i] = true ↔ posK f L ≤ i ∧ i < hiK t L := by
  unfold inIt
  rw [decide_eq_true_iff]
  unfold withinK
  rw [← Bool.not_eq_true, posK_iff hs f h, posK_iff hs t h]
  unfold hiK
  split <;> rename_i h0
  · constructor <;> rintro ⟨h1, _⟩
    · exact ⟨by omega, h⟩
    · exact ⟨by omega, .inl h0⟩
  · constructor
    · rintro ⟨h1, h2 | h2⟩
      · exact absurd h2 h0
      · exact ⟨by omega, h2⟩
    · rintro ⟨h1, h2⟩
      exact ⟨by omega, .inr h2⟩
theorem fst_in {L : List KV} (hs : Srt L) (f t : ByteArray) {i : Nat} (h : i ≤ L.length) : fstI (inIt f t) L i = if max i (posK f L) < hiK t L then max i (posK f L) else L.length := by
  have h1 := posK_le f L
  have h2 := hiK_le t L
  split <;> rename_i h3
  · refine fstI_is (by omega) (by omega) (fun k hk q1 q2 => ?_) fun q => (inIt_iff hs f t q).2 ⟨by omega, h3⟩
    rw [← Bool.not_eq_true, inIt_iff hs f t hk]
    omega
  · refine fstI_is (by omega) (by omega) (fun k hk q1 q2 => ?_) fun q => by omega
    rw [← Bool.not_eq_true, inIt_iff hs f t hk]
    omega
theorem seek_in {L : List KV} (hs : Srt L) (f t g : ByteArray) : fstI (fun y => inIt f t y && !kless y.1 g) L 0 = if max (posK g L) (posK f L) < hiK t L then max (posK g L) (posK f L) else L.length := by
  have h1 := posK_le f L
  have h2 := hiK_le t L
  have h4 := posK_le g L
  have key : ∀ k (hk : k < L.length), (inIt f t L[k] && !kless L[k].1 g) = true ↔ (posK f L ≤ k ∧ k < hiK t L) ∧ posK g L ≤ k := by
    intro k hk
    rw [Bool.and_eq_true, inIt_iff hs f t hk, Bool.not_eq_true', ← Bool.not_eq_true, posK_iff hs g hk]
    omega
  split <;> rename_i h3
  · refine fstI_is (by omega) (by omega) (fun k hk q1 q2 => ?_) fun q => (key _ q).2 ⟨⟨by omega, h3⟩, by omega⟩
    rw [← Bool.not_eq_true, key k hk]
    omega
  · refine fstI_is (by omega) (by omega) (fun k hk q1 q2 => ?_) fun q => by omega
    rw [← Bool.not_eq_true, key k hk]
    omega
theorem lst_in {L : List KV} (hs : Srt L) (f t : ByteArray) {n : Nat} (h : n ≤ L.length) : lstI (inIt f t) L n = if posK f L < min n (hiK t L) then ((min n (hiK t L) : Nat) : Int) - 1 else -1 := by
  have h1 := posK_le f L
  have h2 := hiK_le t L
  split <;> rename_i h3
  · refine lstI_is (d := n - min n (hiK t L)) (by omega) h (fun k hk q1 q2 => ?_) fun q1 q2 => (inIt_iff hs f t q2).2 ⟨by omega, by omega⟩
    rw [← Bool.not_eq_true, inIt_iff hs f t hk]
    omega
  · have := lstI_is (p := inIt f t) (L := L) (n := n) (d := n) (j := 0) (by omega) h (fun k hk q1 q2 => by
      rw [← Bool.not_eq_true, inIt_iff hs f t hk]
      omega) (fun q => by omega)
    rw [this]
    rfl
end Go.Proofs.Ytphfakdbgohhgaa
