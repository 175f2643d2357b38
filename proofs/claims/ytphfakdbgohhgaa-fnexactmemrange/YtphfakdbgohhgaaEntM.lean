/-
  Plain mathematics for chapter 9: entries in order, what is put, found and visible. Nothing here speaks of a program.
-/
import Derived.Test.YtphfakdbgohhgaaMathH
namespace Go.Proofs.Ytphfakdbgohhgaa
open Go.RowKit

/-- an entry: key, number, deleted, value -/
abbrev En := ByteArray × Int × Bool × ByteArray
def entOk (e : En) : Prop := opOk (e.1, e.2.2.1, e.2.2.2) ∧ 0 ≤ e.2.1 ∧ e.2.1 ≤ 1000000
instance (e : En) : Decidable (entOk e) := by unfold entOk opOk; infer_instance
def ahead (a b : En) : Prop := kless a.1 b.1 = true ∨ a.1 = b.1 ∧ b.2.1 < a.2.1
instance (a b : En) : Decidable (ahead a b) := by unfold ahead; infer_instance
theorem ahead_irrefl (a : En) : ¬ ahead a a := by
  rintro (h | ⟨_, h⟩)
  · rw [kless_irrefl] at h; cases h
  · omega
theorem ahead_trans {a b c : En} (h : ahead a b) (k : ahead b c) : ahead a c := by
  rcases h with h | ⟨h1, h2⟩ <;> rcases k with k | ⟨k1, k2⟩
  · exact .inl (kless_trans h k)
  · exact .inl (by rw [← k1]; exact h)
  · exact .inl (by rw [h1]; exact k)
  · exact .inr ⟨h1.trans k1, by omega⟩
theorem ahead_asymm {a b : En} (h : ahead a b) : ¬ ahead b a := fun k => ahead_irrefl a (ahead_trans h k)
theorem ahead_ne {a b : En} (h : ahead a b) : ¬ (a.1 = b.1 ∧ a.2.1 = b.2.1) := by
  rintro ⟨h1, h2⟩
  rcases h with h | ⟨_, h⟩
  · exact kless_ne h h1
  · omega
theorem ahead_tri {a b : En} (h : ¬ ahead a b) (k : ¬ ahead b a) : a.1 = b.1 ∧ a.2.1 = b.2.1 := by
  have e : a.1 = b.1 := by
    refine kless_tri ?_ ?_
    · cases hh : kless a.1 b.1 with
      | false => rfl
      | true => exact absurd (.inl hh) h
    · cases hh : kless b.1 a.1 with
      | false => rfl
      | true => exact absurd (.inl hh) k
  refine ⟨e, ?_⟩
  have h1 : ¬ b.2.1 < a.2.1 := fun hh => h (.inr ⟨e, hh⟩)
  have h2 : ¬ a.2.1 < b.2.1 := fun hh => k (.inr ⟨e.symm, hh⟩)
  omega
def SrtE (L : List En) : Prop := L.Pairwise ahead
theorem srtE_adj (L : List En) : SrtE L ↔ ∀ i (h : i + 1 < L.length), ahead L[i] L[i + 1] := by
  constructor
  · intro hs i h
    exact List.pairwise_iff_getElem.mp hs i (i + 1) (by omega) h (by omega)
  · intro h
    refine List.pairwise_iff_getElem.mpr fun i j hi hj hij => ?_
    obtain ⟨d, rfl⟩ : ∃ d, j = i + 1 + d := ⟨j - i - 1, by omega⟩
    clear hij
    induction d with
    | zero => exact h i hj
    | succ d ih => exact ahead_trans (ih (by omega)) (h (i + 1 + d) hj)
def memOkL (L : List En) : Prop := L.length ≤ 60 ∧ (∀ e ∈ L, entOk e) ∧ SrtE L

/-- e ahead of the first entry that it stands ahead of -/
def insE (e : En) : List En → List En
  | [] => [e]
  | x :: L => if ahead e x then e :: x :: L else x :: insE e L
theorem insE_len (e : En) : ∀ L, (insE e L).length = L.length + 1
  | [] => rfl
  | x :: L => by
    rw [insE]
    split
    · rfl
    · rw [List.length_cons, insE_len e L, List.length_cons]
theorem mem_insE {e x : En} : ∀ {L : List En}, x ∈ insE e L ↔ x = e ∨ x ∈ L
  | [] => by simp [insE]
  | y :: L => by
    rw [insE]
    split
    · simp
    · rw [List.mem_cons, mem_insE, List.mem_cons]
      constructor
      · rintro (h | h | h)
        · exact .inr (.inl h)
        · exact .inl h
        · exact .inr (.inr h)
      · rintro (h | h | h)
        · exact .inr (.inl h)
        · exact .inl h
        · exact .inr (.inr h)
/-- where e goes: as a place -/
def posE (e : En) (L : List En) : Nat := (L.takeWhile fun x => !decide (ahead e x)).length
theorem posE_le (e : En) (L : List En) : posE e L ≤ L.length := by
  have := (List.takeWhile_prefix (l := L) fun x => !decide (ahead e x)).length_le
  exact this
theorem insE_pos (e : En) : ∀ L, insE e L = L.take (posE e L) ++ e :: L.drop (posE e L)
  | [] => rfl
  | x :: L => by
    rw [insE, posE]
    by_cases h : ahead e x
    · simp [h]
    · have ih := insE_pos e L
      unfold posE at ih
      simp [h, ih]
theorem posE_before (e : En) : ∀ (L : List En) (i : Nat) (h : i < L.length), i < posE e L → ¬ ahead e L[i]
  | [], i, h, _ => absurd h (by simp)
  | x :: L, i, h, hp => by
    by_cases hx : ahead e x
    · unfold posE at hp
      simp [hx] at hp
    · cases i with
      | zero => exact hx
      | succ i =>
        have hp' : i < posE e L := by
          unfold posE at hp ⊢
          simp [hx] at hp
          exact hp
        exact posE_before e L i (by simpa using h) hp'
theorem posE_at (e : En) : ∀ (L : List En) (h : posE e L < L.length), ahead e L[posE e L]
  | [], h => absurd h (by simp [posE])
  | x :: L, h => by
    by_cases hx : ahead e x
    · have h0 : posE e (x :: L) = 0 := by unfold posE; simp [hx]
      simp [h0, hx]
    · have h1 : posE e (x :: L) = posE e L + 1 := by unfold posE; simp [hx]
      have h' : posE e L < L.length := by rw [h1] at h; simpa using h
      have := posE_at e L h'
      simp [h1, this]
/-- the place is the only one with all that stands ahead of it not behind e, and e ahead of what stands there -/
theorem posE_unique {e : En} {L : List En} (p : Nat) (hp : p ≤ L.length) (h1 : ∀ i (h : i < L.length), i < p → ¬ ahead e L[i]) (h2 : ∀ h : p < L.length, ahead e L[p]) : p = posE e L := by
  rcases Nat.lt_trichotomy p (posE e L) with h | h | h
  · have hl : p < L.length := Nat.lt_of_lt_of_le h (posE_le e L)
    exact absurd (h2 hl) (posE_before e L p hl h)
  · exact h
  · have hl : posE e L < L.length := by omega
    exact absurd (posE_at e L hl) (h1 _ hl h)
theorem srt_insE {e : En} : ∀ {L : List En}, SrtE L → (SrtE (insE e L) ↔ ∀ x ∈ L, ¬ (x.1 = e.1 ∧ x.2.1 = e.2.1))
  | [], _ => by simp [insE, SrtE]
  | y :: L, hs => by
    obtain ⟨h1, h2⟩ := List.pairwise_cons.mp hs
    rw [insE]
    split
    · next h =>
      constructor
      · intro hp x hx hk
        exact ahead_ne ((List.pairwise_cons.mp hp).1 x hx) ⟨hk.1.symm, hk.2.symm⟩
      · intro _
        refine List.pairwise_cons.mpr ⟨fun x hx => ?_, hs⟩
        rcases List.mem_cons.mp hx with rfl | hx
        · exact h
        · exact ahead_trans h (h1 x hx)
    · next h =>
      have ih := srt_insE (e := e) (L := L) h2
      constructor
      · intro hp x hx hk
        obtain ⟨p1, p2⟩ := List.pairwise_cons.mp hp
        rcases List.mem_cons.mp hx with rfl | hx
        · exact ahead_ne (p1 e (mem_insE.mpr (.inl rfl))) hk
        · exact ih.mp p2 x hx hk
      · intro hn
        refine List.pairwise_cons.mpr ⟨fun x hx => ?_, ih.mpr fun x hx => hn x (List.mem_cons_of_mem _ hx)⟩
        rcases mem_insE.mp hx with rfl | hx
        · by_cases hy : ahead y x
          · exact hy
          · exact absurd (ahead_tri hy h) (hn y (by simp))
        · exact h1 x hx
/-- what MemPut asks -/
def canPut (e : En) (L : List En) : Prop := memOkL (insE e L)
theorem canPut_iff {e : En} {L : List En} (h : memOkL L) : canPut e L ↔ L.length < 60 ∧ entOk e ∧ ∀ x ∈ L, ¬ (x.1 = e.1 ∧ x.2.1 = e.2.1) := by
  obtain ⟨h1, h2, h3⟩ := h
  unfold canPut memOkL
  rw [insE_len, srt_insE h3]
  constructor
  · rintro ⟨p1, p2, p3⟩
    exact ⟨by omega, p2 e (mem_insE.mpr (.inl rfl)), p3⟩
  · rintro ⟨p1, p2, p3⟩
    refine ⟨by omega, fun x hx => ?_, p3⟩
    rcases mem_insE.mp hx with rfl | hx
    · exact p2
    · exact h2 x hx

/-- the first entry of the key with a number of at most n -/
def getE (k : ByteArray) (n : Int) (L : List En) : Option En := L.find? fun x => decide (x.1 = k ∧ x.2.1 ≤ n)
theorem getE_some {k : ByteArray} {n : Int} {L : List En} {x : En} (h : getE k n L = some x) : x ∈ L ∧ x.1 = k ∧ x.2.1 ≤ n := by
  have h1 := List.mem_of_find?_eq_some h
  have h2 := List.find?_some h
  simp only [decide_eq_true_eq] at h2
  exact ⟨h1, h2⟩
theorem getE_none {k : ByteArray} {n : Int} {L : List En} : getE k n L = none ↔ ∀ x ∈ L, ¬ (x.1 = k ∧ x.2.1 ≤ n) := by
  unfold getE
  rw [List.find?_eq_none]
  simp
/-- of entries in order it is the one with the greatest number -/
theorem getE_of {k : ByteArray} {n : Int} : ∀ {L : List En} {x : En}, SrtE L → x ∈ L → x.1 = k → x.2.1 ≤ n → (∀ y ∈ L, y.1 = k → y.2.1 ≤ n → y.2.1 ≤ x.2.1) → getE k n L = some x
  | [], x, _, h, _, _, _ => absurd h (by simp)
  | y :: L, x, hs, hx, hk, hn, hg => by
    obtain ⟨h1, h2⟩ := List.pairwise_cons.mp hs
    unfold getE
    rw [List.find?_cons]
    by_cases hy : y.1 = k ∧ y.2.1 ≤ n
    · simp only [hy, and_self, decide_true]
      rcases List.mem_cons.mp hx with rfl | hx
      · rfl
      · exfalso
        have ha := h1 x hx
        have := hg y (by simp) hy.1 hy.2
        rcases ha with ha | ⟨_, ha⟩
        · exact kless_ne ha (hy.1.trans hk.symm)
        · omega
    · simp only [hy, decide_false]
      rcases List.mem_cons.mp hx with rfl | hx
      · exact absurd ⟨hk, hn⟩ hy
      · exact getE_of h2 hx hk hn fun z hz => hg z (List.mem_cons_of_mem _ hz)
theorem srtE_same {L : List En} (hs : SrtE L) {x y : En} (hx : x ∈ L) (hy : y ∈ L) (h : x.1 = y.1 ∧ x.2.1 = y.2.1) : x = y := by
  obtain ⟨i, hi, rfl⟩ := List.getElem_of_mem hx
  obtain ⟨j, hj, rfl⟩ := List.getElem_of_mem hy
  rcases Nat.lt_trichotomy i j with hij | rfl | hij
  · exact absurd h (ahead_ne (List.pairwise_iff_getElem.mp hs i j hi hj hij))
  · rfl
  · exact absurd ⟨h.1.symm, h.2.symm⟩ (ahead_ne (List.pairwise_iff_getElem.mp hs j i hj hi hij))
/-- each entry is found at its own number -/
theorem getE_self {L : List En} (hs : SrtE L) {x : En} (hx : x ∈ L) : getE x.1 x.2.1 L = some x :=
  getE_of hs hx rfl (by omega) fun _ _ _ h => h

/-- the map that is visible at n -/
def mapE (n : Int) (L : List En) : List KV := (L.filter fun x => decide (getE x.1 n L = some x ∧ x.2.2.1 = false)).map fun x => (x.1, x.2.2.2)
theorem mapE_ok {n : Int} {L : List En} (h : memOkL L) : mapOk (mapE n L) := by
  obtain ⟨_, h2, h3⟩ := h
  constructor
  · intro z hz
    obtain ⟨x, hx, rfl⟩ := List.mem_map.mp hz
    have hm := (List.mem_filter.mp hx).1
    obtain ⟨⟨o1, o2, o3, _⟩, _⟩ := h2 x hm
    exact ⟨o1, o2, o3⟩
  · unfold Srt mapE
    rw [List.pairwise_map]
    refine List.Pairwise.imp_of_mem ?_ (List.Pairwise.sublist List.filter_sublist h3)
    intro x y hx hy hxy
    obtain ⟨_, px⟩ := List.mem_filter.mp hx
    obtain ⟨_, py⟩ := List.mem_filter.mp hy
    simp only [decide_eq_true_eq] at px py
    rcases hxy with h | ⟨h, h'⟩
    · exact h
    · exfalso
      have e := px.1
      rw [h, py.1] at e
      have := Option.some.inj e
      rw [this] at h'
      omega
theorem mapE_len (n : Int) (L : List En) : (mapE n L).length ≤ L.length := by
  unfold mapE
  rw [List.length_map]
  exact List.length_filter_le _ _
/-- one entry more at the end of what was looked at -/
def visE (n : Int) (L : List En) (x : En) : Prop := getE x.1 n L = some x ∧ x.2.2.1 = false
def withinK (k f t : ByteArray) : Prop := kless k f = false ∧ (t.size = 0 ∨ kless k t = true)
instance (k f t : ByteArray) : Decidable (withinK k f t) := by unfold withinK; infer_instance
def rangeE (f t : ByteArray) (M : List KV) : List KV := M.filter fun x => decide (withinK x.1 f t)
end Go.Proofs.Ytphfakdbgohhgaa
