/-
  More mathematics of chapter 9: where the program puts and finds an entry, what it shows of a map row by row, what each function answers. Nothing here speaks of a program.
-/
import Derived.Test.YtphfakdbgohhgaaEntM
namespace Go.Proofs.Ytphfakdbgohhgaa
open Go.RowKit

instance (L : List En) : Decidable (SrtE L) := inferInstanceAs (Decidable (List.Pairwise _ _))
instance (L : List En) : Decidable (memOkL L) := inferInstanceAs (Decidable (_ ∧ _))
/-- the first place whose entry does not stand ahead of e -/
def posI (e : En) (L : List En) : Nat := (L.takeWhile fun x => decide (ahead x e)).length
theorem posI_le (e : En) (L : List En) : posI e L ≤ L.length := (List.takeWhile_prefix (l := L) fun x => decide (ahead x e)).length_le
theorem posI_before (e : En) : ∀ (L : List En) (i : Nat) (h : i < L.length), i < posI e L → ahead L[i] e
  | [], i, h, _ => absurd h (by simp)
  | x :: L, i, h, hp => by
    by_cases hx : ahead x e
    · cases i with
      | zero => exact hx
      | succ i =>
        have hp' : i < posI e L := by
          unfold posI at hp ⊢
          simp [hx] at hp
          exact hp
        exact posI_before e L i (by simpa using h) hp'
    · unfold posI at hp
      simp [hx] at hp
theorem posI_at (e : En) : ∀ (L : List En) (h : posI e L < L.length), ¬ ahead L[posI e L] e
  | [], h => absurd h (by simp [posI])
  | x :: L, h => by
    by_cases hx : ahead x e
    · have h1 : posI e (x :: L) = posI e L + 1 := by unfold posI; simp [hx]
      have h' : posI e L < L.length := by rw [h1] at h; simpa using h
      have := posI_at e L h'
      simp [h1, this]
    · have h0 : posI e (x :: L) = 0 := by unfold posI; simp [hx]
      simp [h0, hx]
theorem posI_after {e : En} {L : List En} (hs : SrtE L) (i : Nat) (h : i < L.length) (hp : posI e L ≤ i) : ¬ ahead L[i] e := by
  have h0 := posI_at e L (by omega)
  rcases Nat.lt_or_ge (posI e L) i with hlt | hge
  · exact fun ha => h0 (ahead_trans (List.pairwise_iff_getElem.mp hs _ i (by omega) h hlt) ha)
  · have : i = posI e L := by omega
    subst this
    exact h0
def insI (e : En) (L : List En) : List En := L.take (posI e L) ++ e :: L.drop (posI e L)
theorem insI_len (e : En) (L : List En) : (insI e L).length = L.length + 1 := by
  have := posI_le e L
  unfold insI
  rw [List.length_append, List.length_cons, List.length_take, List.length_drop]
  omega
theorem insI_new {e : En} {L : List En} (hn : ∀ x ∈ L, ¬ (x.1 = e.1 ∧ x.2.1 = e.2.1)) : insI e L = insE e L := by
  have : posI e L = posE e L := posE_unique (posI e L) (posI_le e L) (fun i h hi => ahead_asymm (posI_before e L i h hi)) fun h => by
    have h1 := posI_at e L h
    by_cases h2 : ahead e L[posI e L]
    · exact h2
    · exact absurd (ahead_tri h1 h2) (hn _ (List.getElem_mem h))
  rw [insE_pos, ← this]
  rfl
theorem insI_old {e x : En} {L : List En} (hx : x ∈ L) (hk : x.1 = e.1 ∧ x.2.1 = e.2.1) : ¬ SrtE (insI e L) := by
  intro hs
  unfold insI SrtE at hs
  rw [← List.take_append_drop (posI e L) L] at hx
  obtain ⟨_, h2, h3⟩ := List.pairwise_append.mp hs
  rcases List.mem_append.mp hx with h | h
  · exact ahead_ne (h3 x h e (by simp)) hk
  · exact ahead_ne ((List.pairwise_cons.mp h2).1 x h) ⟨hk.1.symm, hk.2.symm⟩
theorem insI_ok {e : En} {L : List En} (h : memOkL L) : memOkL (insI e L) ↔ memOkL (insE e L) := by
  by_cases hn : ∀ x ∈ L, ¬ (x.1 = e.1 ∧ x.2.1 = e.2.1)
  · rw [insI_new hn]
  · have hx : ∃ x ∈ L, x.1 = e.1 ∧ x.2.1 = e.2.1 := by
      simp only [Classical.not_forall, Classical.not_not] at hn
      obtain ⟨x, hx, hk⟩ := hn
      exact ⟨x, hx, hk⟩
    obtain ⟨x, hx, hk⟩ := hx
    exact ⟨fun k => absurd k.2.2 (insI_old hx hk), fun k => absurd hk ((canPut_iff h).mp k |>.2.2 x hx)⟩
theorem insI_eq {e : En} {L : List En} (h : memOkL L) (k : memOkL (insE e L)) : insI e L = insE e L := insI_new ((canPut_iff h).mp k).2.2
/-- what MemPut answers -/
def putM (L : List En) (e : En) : List En := if memOkL L then (if memOkL (insE e L) then insE e L else L) else []
def putB (L : List En) (e : En) : Bool := decide (memOkL L) && decide (memOkL (insE e L))
theorem putM_bad {L : List En} {e : En} (h : ¬ memOkL L) : putM L e = [] ∧ putB L e = false := by unfold putM putB; rw [if_neg h, decide_eq_false h]; exact ⟨rfl, rfl⟩
theorem putM_no {L : List En} {e : En} (h : memOkL L) (k : ¬ memOkL (insE e L)) : putM L e = L ∧ putB L e = false := by unfold putM putB; rw [if_pos h, if_neg k, decide_eq_false k, Bool.and_false]; exact ⟨rfl, rfl⟩
theorem putM_yes {L : List En} {e : En} (h : memOkL L) (k : memOkL (insE e L)) : putM L e = insE e L ∧ putB L e = true := by unfold putM putB; rw [if_pos h, if_pos k, decide_eq_true h, decide_eq_true k]; exact ⟨rfl, rfl⟩
theorem putM_len (L : List En) (e : En) : (putM L e).length ≤ L.length + 1 := by
  unfold putM
  split
  · split
    · rw [insE_len]; omega
    · omega
  · simp

/-- the zero entry -/
def zeroE : En := (⟨#[]⟩, 0, false, ⟨#[]⟩)
/-- what MemGet answers -/
def getM (L : List En) (k : ByteArray) (n : Int) : En := if memOkL L then (getE k n L).getD zeroE else zeroE
def getB (L : List En) (k : ByteArray) (n : Int) : Bool := decide (memOkL L) && (getE k n L).isSome
/-- the program's way to find it: the first entry that does not stand ahead of the key at n -/
theorem getE_reach {L : List En} (hs : SrtE L) (k : ByteArray) (n : Int) (d : Bool) (v : ByteArray) :
    (∀ h : posI (k, n, d, v) L < L.length, L[posI (k, n, d, v) L].1 = k → getE k n L = some L[posI (k, n, d, v) L]) ∧
    ((∀ h : posI (k, n, d, v) L < L.length, L[posI (k, n, d, v) L].1 ≠ k) → getE k n L = none) := by
  have key : ∀ i (h : i < L.length), L[i].1 = k ∧ L[i].2.1 ≤ n → posI (k, n, d, v) L ≤ i := fun i h hk => by
    apply Nat.le_of_not_lt
    intro hlt
    rcases posI_before (k, n, d, v) L i h hlt with ha | ⟨_, ha⟩
    · exact kless_ne ha hk.1
    · have : n < L[i].2.1 := ha
      omega
  constructor
  · intro h hk
    have h1 := posI_at (k, n, d, v) L h
    refine List.find?_eq_some_iff_getElem.mpr ⟨?_, posI (k, n, d, v) L, h, rfl, fun i hi => ?_⟩
    · simp only [decide_eq_true_eq]
      refine ⟨hk, ?_⟩
      apply Int.le_of_not_gt
      intro hgt
      exact h1 (.inr ⟨hk, hgt⟩)
    · simp only [Bool.not_eq_true', decide_eq_false_iff_not]
      exact fun hh => absurd (key i (by omega) hh) (by omega)
  · intro hno
    refine getE_none.mpr fun x hx hk => ?_
    obtain ⟨i, hi, rfl⟩ := List.getElem_of_mem hx
    have hp := key i hi hk
    have hl : posI (k, n, d, v) L < L.length := by omega
    have hne := hno hl
    have h1 := posI_at (k, n, d, v) L hl
    have hk2 : kless k L[posI (k, n, d, v) L].1 = true := by
      cases hc : kless L[posI (k, n, d, v) L].1 k with
      | true => exact absurd (.inl hc) h1
      | false => exact kless_of_ne hc hne
    rcases Nat.lt_or_ge (posI (k, n, d, v) L) i with hlt | hge
    · have ha := List.pairwise_iff_getElem.mp hs _ i hl hi hlt
      rcases ha with ha | ⟨ha, _⟩
      · rw [hk.1] at ha
        rw [kless_asymm ha] at hk2
        cases hk2
      · exact hne (ha.trans hk.1)
    · have : i = posI (k, n, d, v) L := by omega
      subst this
      exact hne hk.1

/-! ### the map, row by row -/
def vis (n : Int) (L : List En) (x : En) : Prop := getE x.1 n L = some x ∧ x.2.2.1 = false
instance (n : Int) (L : List En) (x : En) : Decidable (vis n L x) := by unfold vis; infer_instance
def mapP (n : Int) (L : List En) (j : Nat) : List KV := ((L.take j).filter fun x => decide (vis n L x)).map fun x => (x.1, x.2.2.2)
theorem mapP_zero (n : Int) (L : List En) : mapP n L 0 = [] := by simp [mapP]
theorem mapP_all (n : Int) (L : List En) : mapP n L L.length = mapE n L := by unfold mapP mapE vis; rw [List.take_length]
theorem mapP_len (n : Int) (L : List En) (j : Nat) : (mapP n L j).length ≤ j := by
  unfold mapP
  rw [List.length_map]
  refine Nat.le_trans (List.length_filter_le _ _) ?_
  rw [List.length_take]
  omega
theorem take_at {α : Type} {L : List α} {j : Nat} {x : α} (h : L[j]? = some x) : L.take (j + 1) = L.take j ++ [x] := by
  obtain ⟨hj, rfl⟩ := List.getElem?_eq_some_iff.1 h
  rw [List.take_succ_eq_append_getElem hj]
theorem mapP_yes {n : Int} {L : List En} {j : Nat} {x : En} (h : L[j]? = some x) (hv : vis n L x) : mapP n L (j + 1) = mapP n L j ++ [(x.1, x.2.2.2)] := by
  unfold mapP
  rw [take_at h, List.filter_append, List.map_append]
  simp [hv]
theorem mapP_no {n : Int} {L : List En} {j : Nat} {x : En} (h : L[j]? = some x) (hv : ¬ vis n L x) : mapP n L (j + 1) = mapP n L j := by
  unfold mapP
  rw [take_at h, List.filter_append, List.map_append]
  simp [hv]
/-- which entry is the one that its key shows -/
theorem first_iff {n : Int} {L : List En} {j : Nat} (hs : SrtE L) (hj : j < L.length) : getE L[j].1 n L = some L[j] ↔ L[j].2.1 ≤ n ∧ ∀ i (h : i < j), ¬ (L[i].1 = L[j].1 ∧ L[i].2.1 ≤ n) := by
  constructor
  · intro h
    refine ⟨(getE_some h).2.2, fun i hi hk => ?_⟩
    obtain ⟨_, i0, h0, he, hb⟩ := List.find?_eq_some_iff_getElem.mp h
    have : i0 = j := by
      rcases Nat.lt_trichotomy i0 j with hl | hl | hl
      · exact absurd ⟨congrArg (·.1) he, congrArg (·.2.1) he⟩ (ahead_ne (List.pairwise_iff_getElem.mp hs i0 j h0 hj hl))
      · exact hl
      · exact absurd ⟨(congrArg (·.1) he).symm, (congrArg (·.2.1) he).symm⟩ (ahead_ne (List.pairwise_iff_getElem.mp hs j i0 hj h0 hl))
    have hbi := hb i (by omega)
    simp only [Bool.not_eq_true', decide_eq_false_iff_not] at hbi
    exact hbi hk
  · rintro ⟨h1, h2⟩
    refine List.find?_eq_some_iff_getElem.mpr ⟨by simp [h1], j, hj, rfl, fun i hi => ?_⟩
    simp only [Bool.not_eq_true', decide_eq_false_iff_not]
    exact h2 i hi
/-- the last key of which a version was shown (or would have been, were it not deleted): what the program keeps -/
def LastOk (n : Int) (L : List En) (j : Nat) (last : ByteArray) : Prop :=
  (last = ⟨#[]⟩ ∨ ∃ i, ∃ h : i < L.length, i < j ∧ L[i].2.1 ≤ n ∧ L[i].1 = last) ∧ ∀ i (h : i < L.length), i < j → L[i].2.1 ≤ n → kless last L[i].1 = false
theorem last_zero (n : Int) (L : List En) : LastOk n L 0 ⟨#[]⟩ := ⟨.inl rfl, fun i _ hi => by omega⟩
theorem last_eq {n : Int} {L : List En} {j : Nat} {last : ByteArray} (hs : SrtE L) (hk : ∀ x ∈ L, entOk x) (h : LastOk n L j last) (hj : j < L.length) : L[j].1 = last ↔ ∃ i, ∃ h : i < j, L[i].1 = L[j].1 ∧ L[i].2.1 ≤ n := by
  constructor
  · intro he
    rcases h.1 with h0 | ⟨i, hi, hij, h1, h2⟩
    · have := (hk _ (List.getElem_mem hj)).1.1
      rw [he, h0] at this
      exact absurd this (by decide)
    · exact ⟨i, hij, h2.trans he.symm, h1⟩
  · rintro ⟨i, hij, h1, h2⟩
    have hil : i < L.length := by omega
    have h3 := h.2 i hil hij h2
    rcases h.1 with h0 | ⟨m, hm, hmj, h4, h5⟩
    · have := (hk _ (List.getElem_mem hil)).1.1
      have he : L[i].1 = last := by
        refine (kless_tri h3 ?_).symm
        rw [h0]
        unfold kless
        rw [show (⟨#[]⟩ : ByteArray).toList = [] from by rw [ByteArray.toList_eq]]
        cases hc : L[i].1.toList <;> rfl
      rw [he, h0] at this
      exact absurd this (by decide)
    · have ha := List.pairwise_iff_getElem.mp hs m j hm hj hmj
      have h6 : kless L[j].1 L[m].1 = false := by
        rcases ha with ha | ⟨ha, _⟩
        · exact kless_asymm ha
        · rw [ha, kless_irrefl]
      rw [h5] at h6
      rw [h1] at h3
      exact (kless_tri h3 h6).symm
theorem last_skip {n : Int} {L : List En} {j : Nat} {last : ByteArray} (h : LastOk n L j last) (hj : j < L.length) (hc : n < L[j].2.1 ∨ L[j].1 = last) : LastOk n L (j + 1) last := by
  refine ⟨?_, fun i hi hij hn => ?_⟩
  · rcases h.1 with h0 | ⟨i, hi, hij, h1, h2⟩
    · exact .inl h0
    · exact .inr ⟨i, hi, by omega, h1, h2⟩
  · rcases Nat.lt_or_ge i j with hlt | hge
    · exact h.2 i hi hlt hn
    · have : i = j := by omega
      subst this
      rcases hc with hc | hc
      · omega
      · rw [hc, kless_irrefl]
theorem last_new {n : Int} {L : List En} {j : Nat} {last : ByteArray} (hs : SrtE L) (_ : LastOk n L j last) (hj : j < L.length) (hn : L[j].2.1 ≤ n) : LastOk n L (j + 1) L[j].1 := by
  refine ⟨.inr ⟨j, hj, by omega, hn, rfl⟩, fun i hi hij hni => ?_⟩
  rcases Nat.lt_or_ge i j with hlt | hge
  · rcases List.pairwise_iff_getElem.mp hs i j hi hj hlt with ha | ⟨ha, _⟩
    · exact kless_asymm ha
    · rw [ha, kless_irrefl]
  · have : i = j := by omega
    subst this
    exact kless_irrefl _
/-- what the program does with entry j -/
theorem vis_iff {n : Int} {L : List En} {j : Nat} {last : ByteArray} (hs : SrtE L) (hk : ∀ x ∈ L, entOk x) (h : LastOk n L j last) (hj : j < L.length) : vis n L L[j] ↔ ¬ (n < L[j].2.1 ∨ L[j].1 = last) ∧ L[j].2.2.1 = false := by
  unfold vis
  rw [first_iff hs hj, last_eq hs hk h hj]
  constructor
  · rintro ⟨⟨h1, h2⟩, h3⟩
    refine ⟨?_, h3⟩
    rintro (hc | ⟨i, hi, hc⟩)
    · omega
    · exact h2 i hi hc
  · rintro ⟨h1, h2⟩
    exact ⟨⟨by omega, fun i hi hc => h1 (.inr ⟨i, hi, hc⟩)⟩, h2⟩
/-- the specification's test of entry j -/
theorem vis_get {n : Int} {L : List En} {x y : En} (hs : SrtE L) (hx : x ∈ L) (hy : getE x.1 n L = some y) : vis n L x ↔ y.2.2.1 = false ∧ y.2.1 = x.2.1 := by
  obtain ⟨h1, h2, _⟩ := getE_some hy
  unfold vis
  rw [hy]
  constructor
  · rintro ⟨h, h3⟩
    obtain rfl := Option.some.inj h
    exact ⟨h3, rfl⟩
  · rintro ⟨h3, h4⟩
    obtain rfl := srtE_same hs h1 hx ⟨h2, h4⟩
    exact ⟨rfl, h3⟩
theorem vis_none {n : Int} {L : List En} {x : En} (hy : getE x.1 n L = none) : ¬ vis n L x := fun h => by
  have := h.1
  rw [hy] at this
  cases this
/-- what MemMap and MemRange answer -/
def mapM (L : List En) (n : Int) : List KV := if memOkL L then mapE n L else []
theorem mapM_len (L : List En) (n : Int) : (mapM L n).length ≤ L.length := by
  unfold mapM
  split
  · exact mapE_len n L
  · simp
def rangP (f t : ByteArray) (M : List KV) (j : Nat) : List KV := (M.take j).filter fun x => decide (withinK x.1 f t)
theorem rangP_zero (f t : ByteArray) (M : List KV) : rangP f t M 0 = [] := by simp [rangP]
theorem rangP_all (f t : ByteArray) (M : List KV) : rangP f t M M.length = rangeE f t M := by unfold rangP rangeE; rw [List.take_length]
theorem rangP_len (f t : ByteArray) (M : List KV) (j : Nat) : (rangP f t M j).length ≤ j := by
  refine Nat.le_trans (List.length_filter_le _ _) ?_
  rw [List.length_take]
  omega
theorem rangP_yes {f t : ByteArray} {M : List KV} {j : Nat} {x : KV} (h : M[j]? = some x) (hv : withinK x.1 f t) : rangP f t M (j + 1) = rangP f t M j ++ [x] := by
  unfold rangP
  rw [take_at h, List.filter_append]
  simp [hv]
theorem rangP_no {f t : ByteArray} {M : List KV} {j : Nat} {x : KV} (h : M[j]? = some x) (hv : ¬ withinK x.1 f t) : rangP f t M (j + 1) = rangP f t M j := by
  unfold rangP
  rw [take_at h, List.filter_append]
  simp [hv]
theorem rangE_len (f t : ByteArray) (M : List KV) : (rangeE f t M).length ≤ M.length := List.length_filter_le _ _

/-! ### the specification's way to put an entry, element by element -/
def outP (e : En) (L : List En) (j : Nat) : List En := if j ≤ posE e L then L.take j else L.take (posE e L) ++ e :: (L.drop (posE e L)).take (j - posE e L)
theorem outP_zero (e : En) (L : List En) : outP e L 0 = [] := by unfold outP; rw [if_pos (Nat.zero_le _)]; rfl
theorem outP_len (e : En) (L : List En) (j : Nat) : (outP e L j).length ≤ j + 1 := by
  unfold outP
  split
  · rw [List.length_take]; omega
  · rw [List.length_append, List.length_cons, List.length_take, List.length_take]; omega
theorem outP_step {e x : En} {L : List En} {j : Nat} (h : L[j]? = some x) (hne : j ≠ posE e L) : outP e L (j + 1) = outP e L j ++ [x] := by
  unfold outP
  rcases Nat.lt_or_ge j (posE e L) with hlt | hge
  · rw [if_pos (by omega), if_pos (by omega), take_at h]
  · rw [if_neg (by omega), if_neg (by omega)]
    have h1 : (L.drop (posE e L))[j - posE e L]? = some x := by rw [List.getElem?_drop, show posE e L + (j - posE e L) = j by omega]; exact h
    rw [show j + 1 - posE e L = (j - posE e L) + 1 by omega, take_at h1]
    simp
theorem outP_put {e x : En} {L : List En} {j : Nat} (h : L[j]? = some x) (he : j = posE e L) : outP e L (j + 1) = (outP e L j ++ [e]) ++ [x] := by
  subst he
  unfold outP
  rw [if_neg (by omega), if_pos (Nat.le_refl _), show posE e L + 1 - posE e L = 1 by omega]
  obtain ⟨hj, rfl⟩ := List.getElem?_eq_some_iff.1 h
  rw [take1_drop L (posE e L) hj]
  simp
theorem outP_end {e : En} {L : List En} (h : posE e L < L.length) : outP e L L.length = insE e L := by
  unfold outP
  rw [if_neg (by omega), insE_pos, List.take_of_length_le (l := L.drop (posE e L)) (by rw [List.length_drop]; omega)]
theorem outP_last {e : En} {L : List En} (h : L.length ≤ posE e L) : outP e L L.length ++ [e] = insE e L := by
  have hp : posE e L = L.length := Nat.le_antisymm (posE_le e L) h
  unfold outP
  rw [if_pos h, insE_pos, hp, List.drop_length]
theorem ahead_pos {e x : En} {L : List En} {j : Nat} (h : L[j]? = some x) (hj : j ≤ posE e L) : ahead e x ↔ j = posE e L := by
  obtain ⟨hl, rfl⟩ := List.getElem?_eq_some_iff.1 h
  constructor
  · intro ha
    rcases Nat.lt_or_ge j (posE e L) with hlt | hge
    · exact absurd ha (posE_before e L j hl hlt)
    · omega
  · intro he
    subst he
    exact posE_at e L hl
end Go.Proofs.Ytphfakdbgohhgaa
