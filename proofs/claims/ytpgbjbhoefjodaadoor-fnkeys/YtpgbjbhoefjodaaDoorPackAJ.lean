/-
  Texts of this proof, put together: MathU, MathB.
-/
import Derived.Test.YtpgbjbhoefjodaaDoorPackAH
import Derived.Test.YtpgbjbhoefjodaaDoorPackAB
import Derived.Test.YtpgbjbhoefjodaaDoorPackAI
import Derived.Test.YtpgbjbhoefjodaaDoorPackAA

/-
  What Wrap and Unwrap answer, on lists of bytes: nothing here speaks of the program.
-/
namespace Go.Proofs.YtpgbjbhoefjodaaDoor
open Go.RowKit

def crcI (l : List UInt8) : Int := 4294967295 - (crcRun 4294967295 l : Int)
theorem crcI_bd (l : List UInt8) : 0 ≤ crcI l ∧ crcI l < 4294967296 := by
  have := crcRun_lt l 4294967295 (by omega)
  unfold crcI
  omega
def wrapOk (m : List UInt8) (n : Int) (k : List UInt8) : Prop := k.length = 32 ∧ m.length = 32 ∧ 0 ≤ n ∧ n ≤ 562949953421311
instance (m : List UInt8) (n : Int) (k : List UInt8) : Decidable (wrapOk m n k) := inferInstanceAs (Decidable (_ ∧ _))
/-- the stream that hides a key, and brings it back -/
def hideV (m : List UInt8) (n : Int) (k : List UInt8) : List UInt8 := streamV m 0 (nonceL 1 n) k
def wrapV (m : List UInt8) (n : Int) (k : List UInt8) : List UInt8 := if wrapOk m n k then fixedV (crcI (hideV m n k)) 4 ++ hideV m n k else []
theorem nonceL_bad (n : Int) (h : ¬ (0 ≤ n ∧ n ≤ 562949953421311)) : nonceL 1 n = [] := by unfold nonceL; rw [if_neg (by omega)]
theorem strOk_of_wrap {m : List UInt8} {n : Int} {k : List UInt8} (hm : m.length = 32) (hn : 0 ≤ n ∧ n ≤ 562949953421311) (hk : k.length = 32) : StrOk m 0 (nonceL 1 n) k := by
  have h := length_nonceL 1 n ⟨by omega, by omega, hn.1, hn.2⟩
  refine ⟨⟨hm, h, by omega, by omega⟩, ⟨hm, h, ?_, ?_⟩⟩ <;> rw [hk] <;> simp
theorem length_hideV {m : List UInt8} {n : Int} {k : List UInt8} (h : wrapOk m n k) : (hideV m n k).length = 32 := by
  unfold hideV
  rw [streamV_ok (strOk_of_wrap h.2.1 h.2.2 h.1), length_strL, h.1]
theorem hideV_bad {m : List UInt8} {n : Int} {k : List UInt8} (hk : k.length = 32) (h : ¬ wrapOk m n k) : hideV m n k = [] := by
  unfold hideV
  refine streamV_no fun hs => h ⟨hk, hs.1.1, ?_⟩
  refine Decidable.byContradiction fun hn => ?_
  have h2 := hs.1.2.1
  rw [nonceL_bad n hn] at h2
  simp at h2
theorem fixedV4 (c : Int) (h : 0 ≤ c ∧ c < 4294967296) : (fixedV c 4).length = 4 := by
  unfold fixedV
  rw [if_pos ⟨by omega, by omega, h.1⟩]
  unfold fixedL
  rw [if_pos (by rw [show (4 : Int).toNat = 4 from rfl]; exact Nat.div_eq_of_lt (by omega)), length_lowB]
  rfl
theorem length_wrapV {m : List UInt8} {n : Int} {k : List UInt8} (h : wrapOk m n k) : (wrapV m n k).length = 36 := by
  unfold wrapV
  rw [if_pos h, List.length_append, fixedV4 _ (crcI_bd _), length_hideV h]
def unOk (m : List UInt8) (n : Int) (s : List UInt8) : Prop := s.length = 36 ∧ wrapV m n (hideV m n (s.drop 4)) = s
instance (m : List UInt8) (n : Int) (s : List UInt8) : Decidable (unOk m n s) := inferInstanceAs (Decidable (_ ∧ _))
def unKey (m : List UInt8) (n : Int) (s : List UInt8) : List UInt8 := if unOk m n s then hideV m n (s.drop 4) else []
def unB (m : List UInt8) (n : Int) (s : List UInt8) : Bool := decide (unOk m n s)
theorem unKey_yes {m : List UInt8} {n : Int} {s : List UInt8} (h : unOk m n s) : unKey m n s = hideV m n (s.drop 4) ∧ unB m n s = true := ⟨by unfold unKey; rw [if_pos h], decide_eq_true h⟩
theorem unKey_no {m : List UInt8} {n : Int} {s : List UInt8} (h : ¬ unOk m n s) : unKey m n s = [] ∧ unB m n s = false := ⟨by unfold unKey; rw [if_neg h], decide_eq_false h⟩
theorem unOk_ok {m : List UInt8} {n : Int} {s : List UInt8} (h : unOk m n s) : m.length = 32 ∧ 0 ≤ n ∧ n ≤ 562949953421311 := by
  obtain ⟨h1, h2⟩ := h
  by_cases hw : wrapOk m n (hideV m n (s.drop 4))
  · exact hw.2
  · unfold wrapV at h2
    rw [if_neg hw] at h2
    rw [← h2] at h1
    simp at h1
end Go.Proofs.YtpgbjbhoefjodaaDoor

/-
  What the law of the key device asks, on lists: nothing here speaks of the program.
-/
namespace Go.Proofs.YtpgbjbhoefjodaaDoor
open Go.RowKit

theorem wrap_un {m : List UInt8} {n : Int} {s : List UInt8} (h : unB m n s = true) : wrapV m n (unKey m n s) = s := by
  have h1 : unOk m n s := of_decide_eq_true h
  rw [(unKey_yes h1).1]
  exact h1.2
theorem wipe_ok {m : ByteArray} {L : List Slot} {x t : Int} (h : (wipeV m L x t).ok = true) :
    ∃ i, devOkB m L x = true ∧ x ≠ 1000000 ∧ slotIx L t = some i ∧ wipeV m L x t = ⟨m, L.eraseIdx i, x + 1, true⟩ := by
  cases hd : devOkB m L x with
  | false => rw [wipeV_bad hd] at h; cases h
  | true =>
    by_cases hx : x = 1000000
    · rw [wipeV_full hd hx] at h; cases h
    · cases hi : slotIx L t with
      | none => rw [wipeV_none hd hi] at h; cases h
      | some i => exact ⟨i, rfl, hx, rfl, wipeV_some hd hx hi⟩
theorem wipe_gone {m : ByteArray} {L : List Slot} {x t : Int} (h : (wipeV m L x t).ok = true) : keyOfV (wipeV m L x t).m (wipeV m L x t).L (wipeV m L x t).x t = noKey := by
  obtain ⟨i, hd, hx, hi, e⟩ := wipe_ok h
  rw [e]
  show keyOfV m (L.eraseIdx i) (x + 1) t = noKey
  unfold keyOfV
  split
  · rw [← filtL_some (devOkB_iff.1 hd).2.1.2.1 hi, slotIx_none (fun j hj => ?_)]
    · rfl
    · rw [tn_at _ j hj]
      have := List.getElem_mem hj
      have := (List.mem_filter.1 this).2
      simpa using this
  · rfl
theorem wipe_had {m : ByteArray} {L : List Slot} {x t : Int} (h : (wipeV m L x t).ok = true) : (keyOfV m L x t).size = 32 := by
  obtain ⟨i, hd, hx, hi, e⟩ := wipe_ok h
  rw [keyOfV_yes hd, hi]
  obtain ⟨hi', _⟩ := slotIx_of_some hi
  exact (slotOkB_iff.1 ((devOkB_iff.1 hd).2.1.2.2 i hi')).2.2
theorem wipe_x {m : ByteArray} {L : List Slot} {x t : Int} (h : (wipeV m L x t).ok = true) : (wipeV m L x t).x = x + 1 ∧ 0 ≤ x ∧ x ≤ 1000000 := by
  obtain ⟨i, hd, hx, hi, e⟩ := wipe_ok h
  rw [e]
  exact ⟨rfl, (devOkB_iff.1 hd).2.2⟩
theorem length_wipeV (m : ByteArray) (L : List Slot) (x t : Int) : (wipeV m L x t).L.length ≤ L.length := by
  unfold wipeV
  split
  · split
    · exact Nat.le_refl _
    · split
      · exact List.length_eraseIdx_le _ _
      · exact Nat.le_refl _
  · exact Nat.zero_le _
theorem add_ok {m : ByteArray} {L : List Slot} {x t : Int} {k : ByteArray} (h : (addV m L x t k).ok = true) : devOkB m L x = true ∧ devOkB m (insL L t k) x = true ∧ addV m L x t k = ⟨m, insL L t k, x, true⟩ := by
  cases hd : devOkB m L x with
  | false => rw [addV_bad hd] at h; cases h
  | true =>
    cases h2 : devOkB m (insL L t k) x with
    | false => rw [addV_no hd h2] at h; cases h
    | true => exact ⟨rfl, rfl, addV_yes hd h2⟩
theorem add_valid {m : ByteArray} {L : List Slot} {x t : Int} {k : ByteArray} (h : (addV m L x t k).ok = true) : devOkB (addV m L x t k).m (addV m L x t k).L (addV m L x t k).x = true := by
  obtain ⟨_, h2, e⟩ := add_ok h
  rw [e]; exact h2
theorem add_key {m : ByteArray} {L : List Slot} {x t : Int} {k : ByteArray} (h : (addV m L x t k).ok = true) : keyOfV (addV m L x t k).m (addV m L x t k).L (addV m L x t k).x t = k := by
  obtain ⟨_, h2, e⟩ := add_ok h
  rw [e]
  show keyOfV m (insL L t k) x t = k
  have hp := posL_le L t
  have hl : posL L t < (insL L t k).length := by rw [length_insL]; omega
  have hg : (insL L t k)[posL L t]? = some (t, k) := by
    unfold insL
    rw [List.getElem?_append_right (by rw [List.length_take]; omega), List.length_take, Nat.min_eq_left hp, Nat.sub_self]
    rfl
  have hg' : (insL L t k)[posL L t] = (t, k) := by
    rw [List.getElem?_eq_getElem hl] at hg
    exact Option.some.inj hg
  rw [keyOfV_yes h2, slotIx_some (posL L t) hl (by rw [tn_at _ _ hl, hg']) (fun j hj => ?_)]
  · show ky _ _ = k
    rw [ky_at _ _ hl, hg']
  · have := (Asc.lt (devOkB_iff.1 h2).2.1.2.1) j (posL L t) hj hl
    rw [tn_at _ (posL L t) hl, hg'] at this
    have h3 : tn (insL L t k) j < t := this
    omega
theorem add_same {m : ByteArray} {L : List Slot} {x t : Int} {k : ByteArray} (hd : devOkB m L x = true) (h : (addV m L x t k).ok = false) : addV m L x t k = ⟨m, L, x, false⟩ := by
  cases h2 : devOkB m (insL L t k) x with
  | false => exact addV_no hd h2
  | true => rw [addV_yes hd h2] at h; cases h
end Go.Proofs.YtpgbjbhoefjodaaDoor
