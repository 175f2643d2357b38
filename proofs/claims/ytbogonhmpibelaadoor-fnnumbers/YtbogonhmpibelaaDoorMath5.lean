/-
  Plain mathematics for reading hexadecimal digits: nothing here speaks of a program.
-/
import Derived.Test.YtbogonhmpibelaaDoorMath4
namespace Go.Proofs.YtbogonhmpibelaaDoor
open Go.RowKit

def hexV (c : UInt8) : Int := if 48 ≤ c.toNat ∧ c.toNat ≤ 57 then (c.toNat : Int) - 48 else if 97 ≤ c.toNat ∧ c.toNat ≤ 102 then (c.toNat : Int) - 87 else -1
theorem hexV_bd (c : UInt8) : -1 ≤ hexV c ∧ hexV c ≤ 15 := by unfold hexV; split <;> (try split) <;> omega
theorem hexV_hexD : ∀ k, k < 16 → hexV (hexD k) = (k : Int) := by decide
theorem hexD_eq : ∀ k, k < 16 → hexD k = UInt8.ofNat (if k < 10 then 48 + k else 87 + k) := by decide
theorem hexD_hexV (c : UInt8) (h : 0 ≤ hexV c) : hexD (hexV c).toNat = c := by
  have of (n : Nat) (h : n = c.toNat) : UInt8.ofNat n = c := by subst h; simp
  unfold hexV at h ⊢
  split
  · rw [hexD_eq _ (by omega), if_pos (by omega)]; exact of _ (by omega)
  · split
    · rw [hexD_eq _ (by omega), if_neg (by omega)]; exact of _ (by omega)
    · rename_i h1 h2
      rw [if_neg h1, if_neg h2] at h
      omega
theorem hexV_none (c : UInt8) (h : ∀ t, t < 16 → hexD t ≠ c) : hexV c = -1 := by
  have hb := hexV_bd c
  by_cases h0 : 0 ≤ hexV c
  · exact (h (hexV c).toNat (by omega) (hexD_hexV c h0)).elim
  · omega
def unhexL : List UInt8 → Option (List UInt8)
  | [] => some []
  | [_] => none
  | a :: b :: r => if hexV a < 0 ∨ hexV b < 0 then none else (unhexL r).map (UInt8.ofNat (16 * hexV a + hexV b).toNat :: ·)
theorem unhexL_odd : ∀ l : List UInt8, l.length % 2 = 1 → unhexL l = none
  | [], h => by simp at h
  | [_], _ => rfl
  | a :: b :: r, h => by
    rw [unhexL]
    split
    · rfl
    · rw [unhexL_odd r (by simp at h; omega)]; rfl
theorem drop2 (l : List UInt8) (j : Nat) (h : j + 1 < l.length) : l.drop j = l[j] :: l[j + 1] :: l.drop (j + 2) := by
  rw [List.drop_eq_getElem_cons (by omega), List.drop_eq_getElem_cons h]
theorem unhexL_bad (l : List UInt8) (j : Nat) (h : j + 1 < l.length) (hb : hexV l[j] < 0 ∨ hexV l[j + 1] < 0) : unhexL (l.drop j) = none := by
  rw [drop2 l j h, unhexL, if_pos hb]
theorem unhexL_step (l : List UInt8) (j : Nat) (h : j + 1 < l.length) (h1 : 0 ≤ hexV l[j]) (h2 : 0 ≤ hexV l[j + 1]) : unhexL (l.drop j) = (unhexL (l.drop (j + 2))).map (UInt8.ofNat (16 * hexV l[j] + hexV l[j + 1]).toNat :: ·) := by
  rw [drop2 l j h, unhexL, if_neg (by omega)]
theorem map_pre (o : Option (List UInt8)) (pre : List UInt8) (c : UInt8) : ((o.map (c :: ·)).map (pre ++ ·)) = o.map ((pre ++ [c]) ++ ·) := by cases o <;> simp
theorem splice_padTo (n : Nat) (pre cs : List UInt8) (h : pre.length + cs.length ≤ n) : splice (padTo n pre) pre.length cs = padTo n (pre ++ cs) := by
  unfold splice padTo
  rw [List.take_append_of_le_length (Nat.le_refl _), List.take_length, List.drop_append, List.drop_of_length_le (by omega), List.nil_append, List.drop_replicate, List.append_assoc, List.length_append]
  congr 3
  omega
theorem hex_join (x y : Int) (hx : 0 ≤ x) (hx1 : x ≤ 15) (hy : 0 ≤ y) (hy1 : y ≤ 15) : bits .or .i64 (x * 16) y = 16 * x + y := by
  rw [i64_join 4 (x * 16) y (by omega) (by omega) hy (by omega) (by omega) (by omega)]; omega
def unhexV (l : List UInt8) : List UInt8 × Bool := match unhexL l with | none => ([], false) | some r => (r, true)
theorem unhexV_none {l : List UInt8} (h : unhexL l = none) : unhexV l = ([], false) := by rw [unhexV, h]
theorem unhexV_some {l r : List UInt8} (h : unhexL l = some r) : unhexV l = (r, true) := by rw [unhexV, h]
end Go.Proofs.YtbogonhmpibelaaDoor
