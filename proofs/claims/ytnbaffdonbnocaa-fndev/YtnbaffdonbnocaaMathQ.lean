/-
  What laws.FnDev asks, on lists: nothing here speaks of the program.
-/
import Derived.Test.YtnbaffdonbnocaaDevK
import Derived.Test.YtnbaffdonbnocaaDevL
namespace Go.Proofs.Ytnbaffdonbnocaa
open Go.RowKit

/-- what lands in a sector is what was there, or a cached write to it -/
theorem landL_mem {S : List ByteArray} {L : List Slot} {p : Nat → Bool} (n : Nat) (hn : S.length = n) (hc : ∀ i, i < L.length → PutOk n (tn L i) (ky L i)) (j : Nat) (hj : j ≤ L.length) (i : Nat) :
    st (landL S L p j) i = st S i ∨ ∃ k, k < j ∧ tn L k = i ∧ ky L k = st (landL S L p j) i := by
  induction j with
  | zero => exact .inl rfl
  | succ j ih =>
    have ih := ih (by omega)
    cases hp : p j with
    | false =>
      rw [landL_no hp]
      rcases ih with h | ⟨k, hk, h1, h2⟩
      · exact .inl h
      · exact .inr ⟨k, by omega, h1, h2⟩
    | true =>
      obtain ⟨h0, h1, _⟩ := hc j (by omega)
      rw [landL_yes hp, st_set _ _ _ _ (by rw [length_landL, hn]; omega)]
      by_cases e : (tn L j).toNat = i
      · rw [if_pos e]
        exact .inr ⟨j, by omega, by omega, rfl⟩
      · rw [if_neg e]
        rcases ih with h | ⟨k, hk, h1, h2⟩
        · exact .inl h
        · exact .inr ⟨k, by omega, h1, h2⟩
theorem landL_good {S : List ByteArray} {L : List Slot} {x : Int} {p : Nat → Bool} (h : DevGood S L x) : DevGood (landL S L p L.length) [] x := by
  obtain ⟨⟨s1, s2, s3⟩, ⟨c1, c2⟩, hx⟩ := h
  refine ⟨⟨by rw [length_landL]; exact s1, by rw [length_landL]; exact s2, fun i hi => ?_⟩, ⟨by simp, fun i hi => by simp at hi⟩, hx⟩
  rw [length_landL] at hi
  rcases landL_mem (p := p) S.length rfl c2 L.length (Nat.le_refl _) i with h | ⟨k, hk, h1, h2⟩
  · rw [h]; exact s3 i hi
  · rw [← h2]; exact (c2 k hk).2.2
/-- what is read is what a flush would land -/
theorem lastF_land {S : List ByteArray} {L : List Slot} (hc : ∀ i, i < L.length → PutOk S.length (tn L i) (ky L i)) (j : Nat) (hj : j ≤ L.length) (i : Nat) :
    lastF S L i j = st (landL S L (fun _ => true) j) i := by
  induction j with
  | zero => simp [lastF, landL]
  | succ j ih =>
    obtain ⟨h0, h1, _⟩ := hc j (by omega)
    rw [landL_yes rfl, st_set _ _ _ _ (by rw [length_landL]; omega)]
    by_cases e : tn L j = i
    · rw [lastF_yes e, if_pos (by omega)]
    · rw [lastF_no e, if_neg (by omega)]
      exact ih (by omega)
theorem readS_good {S : List ByteArray} {L : List Slot} {x : Int} (h : DevGood S L x) (i : Nat) (hi : i < S.length) : readS S L x i = lastF S L i L.length := by
  rw [readS, if_pos ⟨yes_true h, by omega, by omega⟩]
theorem readS_land {S : List ByteArray} {L : List Slot} {x : Int} {p : Nat → Bool} (h : DevGood S L x) (i : Nat) (hi : i < S.length) : readS (landL S L p L.length) [] x i = st (landL S L p L.length) i := by
  rw [readS_good (landL_good h) i (by rw [length_landL]; exact hi)]
  simp [lastF]
theorem readS_flush {S : List ByteArray} {L : List Slot} {x : Int} (h : DevGood S L x) (i : Nat) (hi : i < S.length) : readS (landL S L (fun _ => true) L.length) [] x i = readS S L x i := by
  rw [readS_land h i hi, readS_good h i hi, lastF_land h.2.1.2 L.length (Nat.le_refl _) i]
theorem readB_good {S : List ByteArray} {L : List Slot} {x : Int} (h : DevGood S L x) (i : Nat) (hi : i < S.length) : readB S L x i = true := yes_true ⟨yes_true h, by omega, by omega⟩
/-- what was put is read -/
theorem read_put {S : List ByteArray} {L : List Slot} {x t : Int} {k : ByteArray} (h : (putV S L x t k).ok = true) :
    readS (putV S L x t k).S (putV S L x t k).L (putV S L x t k).x t = k ∧ readB (putV S L x t k).S (putV S L x t k).L (putV S L x t k).x t = true ∧ (putV S L x t k).x = x + 1 ∧ 0 ≤ x ∧ x ≤ 1000000 := by
  cases h1 : devOkB S L x with
  | false => rw [putV_bad h1] at h; cases h
  | true =>
    cases h2 : devOkB S (L ++ [(t, k)]) (x + 1) with
    | false => rw [putV_no h1 h2] at h; cases h
    | true =>
      rw [putV_yes h1 h2]
      have g := yes_iff.1 h2
      have hl : (L ++ [(t, k)]).length = L.length + 1 := by simp
      have ht : tn (L ++ [(t, k)]) L.length = t := by simp [tn, List.getD]
      have hk : ky (L ++ [(t, k)]) L.length = k := by simp [ky, List.getD]
      obtain ⟨p0, p1, _⟩ := g.2.1.2 L.length (by rw [hl]; omega)
      rw [ht] at p0 p1
      refine ⟨?_, yes_true ⟨h2, p0, p1⟩, rfl, (yes_iff.1 h1).2.2⟩
      show readS S (L ++ [(t, k)]) (x + 1) t = k
      rw [readS, if_pos ⟨h2, p0, p1⟩, hl, lastF_yes ht, hk]
end Go.Proofs.Ytnbaffdonbnocaa
