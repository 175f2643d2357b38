/-
  Texts of this proof, put together: Conv, FixedI, NonL, Own, FixedS.
-/
import Derived.Test.YtakjjfbocokpaaaDoorPackAB
import Derived.Test.YtakjjfbocokpaaaDoorPackAA
import Derived.Laws.IdiomStrings
import Derived.OwnWalk

/-
  Slices of bytes made, and turned into strings, over this program.
-/
namespace Go.Proofs.YtakjjfbocokpaaaDoor
open Go.ChangeShapes Go.WideShapes Go.ChangeAt Go.RowKit

theorem info8 : (Tryd.prog.info? 5).map (fun i => (i.zero, i.size, i.bytes)) = some (some (.int .u8 0), 1, 1) := by kernel_rfl

theorem run_make8 (n : Nat) (hn : n ≤ 1099511627776) (w : World) : (Instr.makeSlice 22 (.int .i64 (n : Int)) (.int .i64 (n : Int))).run Tryd.prog w = .ok (.slice (some ⟨w.heap.size, 0, none⟩) n n) (w.alloc (.cells (byteVals (List.replicate n 0)).toArray 5)) := by
  obtain ⟨i, hi, hz0, hz1, hz2⟩ := info_parts info8
  have h := run_make (P := Tryd.prog) w 22 5 i (.int .u8 0) Tryd.underlying22 hi hz0 .i64 .i64 n n (by omega) (by omega) (by rw [hz2]; omega) (by omega)
  rw [h, hz1]
  simp [Value.cells, made_zero]

theorem run_conv1 (v : Int) (c : UInt8) (hc : v = (c.toNat : Int)) (w : World) : (convert 22 9 (.slice (some ⟨w.heap.size, 0, none⟩) 1 1)).run Tryd.prog (w.alloc (.cells #[.int .u8 v] 5)) = .ok (.string ⟨#[c]⟩) (w.alloc (.cells #[.int .u8 v] 5)) := by
  subst hc
  exact run_convert_bytes_back (P := Tryd.prog) _ 22 9 5 ⟨w.heap.size, 0, none⟩ 1 [c] Tryd.underlying22 Tryd.underlying5 Tryd.underlying9 (fun i hi => by rw [addr_add0]; exact (Holds8.new 5 w [c]).cell i hi)

theorem run_convTake (g k cap : Nat) (L l : List UInt8) (w : World) (h : Holds8 5 w g L) (hk : l.length = k) (hp : L.take k = l) : (convert 22 9 (.slice (some ⟨g, 0, none⟩) k cap)).run Tryd.prog w = .ok (.string ⟨l.toArray⟩) w := by
  subst hk
  refine run_convert_bytes_back (P := Tryd.prog) w 22 9 5 ⟨g, 0, none⟩ cap l Tryd.underlying22 Tryd.underlying5 Tryd.underlying9 (fun i hi => ?_)
  have hi2 : i < L.length := by
    have := congrArg List.length hp
    simp at this
    omega
  rw [addr_add0, h.cell i hi2]
  have : l[i] = L[i] := (List.getElem_of_eq hp.symm hi).trans List.getElem_take
  rw [this]

def StrPost (w : World) (l : List UInt8) (e : Ending) (w' : World) : Prop := e = .returned (.string ⟨l.toArray⟩) ∧ Below w.heap.size w w'
end Go.Proofs.YtakjjfbocokpaaaDoor

/-
  Contract of impl.Fixed.
-/
namespace Go.Proofs.YtakjjfbocokpaaaDoor
open Go.ChangeShapes Go.WideShapes Go.ChangeAt Go.RowKit

set_option maxRecDepth 40000 in
theorem iFixed_yes (n k : Nat) (w : World) (h1 : 1 ≤ k) (h7 : k ≤ 7) (hn : n < 256 ^ k) :
    Calls Tryd.prog 89 #[.int .i64 n, .int .i64 k] w (StrPost w (lowB n k)) := by
  have hz : ((n : Int) / 2 ^ (8 * k) != 0) = false := by
    rw [pow2_256, Int.ediv_eq_zero_of_lt (by omega) (by exact_mod_cast hn)]; rfl
  have hn0 : decide ((n : Int) < 0) = false := by simp
  have HN := hide hn
  clear hn
  have hmk := run_make8 k (by omega)
  go_enter Tryd.func89, Tryd.ntmps89
  go_wp2_with (go_at_call 110; refine (widthOk_any _ _).mono ?_; rintro e w' ⟨rfl, rfl⟩)
  go_loopw [6, 7] (fun a sh wr => ∃ j : Nat, j ≤ k ∧ a = .int .i64 j ∧ sh = .int .i64 (8 * (k : Int) - 8 - 8 * (j : Int)) ∧ Holds8 5 wr w.heap.size (rowOf (lowB n k) j) ∧ Below w.heap.size w wr ∧ w.heap.size < wr.heap.size)
    (fun a _ _ => k - (intOf a).toNat)
  case atStart =>
    refine ⟨0, Nat.zero_le _, rfl, by go_num, ?_, (Below.refl _ _).alloc (Nat.le_refl _) _, by simp⟩
    rw [rowOf_zero, length_lowB]
    exact Holds8.new _ _ _
  case round =>
    obtain ⟨j, hj, rfl, rfl, hrow, hbel, hsz⟩ := hrel
    have HR := hide hrow
    have HB := hide hbel
    clear hrow hbel
    by_cases hlt : j < k
    · obtain ⟨q, hq⟩ : ∃ q : Nat, k = j + 1 + q := ⟨k - 1 - j, by omega⟩
      have e : (8 * (k : Int) - 8 - 8 * (j : Int)) = ((8 * q : Nat) : Int) := by omega
      rw [e]
      have hq6 : q ≤ 6 := by omega
      have HQ := hide hq
      clear e hq
      have C1 := hide (show #[Value.int .u8 ((n : Int) / 2 ^ (8 * q) % 256)] = (byteVals (((lowB n k).drop j).take 1)).toArray by
        rw [take1_drop _ _ (by rw [length_lowB]; omega), lowB_at]
        have := HQ.out
        rw [pow2_256, show k - 1 - j = q by omega]
        simp [byteVals])
      have C2 := hide (show (((lowB n k).drop j).take 1).length = 1 by simp [length_lowB]; omega)
      have C3 := hide (show (rowOf (lowB n k) j).length = k by rw [length_rowOf _ _ (by rw [length_lowB]; omega), length_lowB])
      have C4 := hide (rowOf_step (lowB n k) j 1 (by rw [length_lowB]; omega))
      go_wp2_with (go_at_call 104; refine (put_new w.heap.size k j 1 (rowOf (lowB n k) j) (((lowB n k).drop j).take 1) _ wr HR.out hsz C1.out C3.out C2.out (by omega) (by omega) (by omega)).mono ?_; rintro e w' ⟨rfl, hrow', hbel', hsz'⟩)
      go_roundw
      case rel =>
        refine ⟨j + 1, by omega, rfl, ?_, by rw [← C4.out]; exact hrow', HB.out.trans hbel', by omega⟩
        have := HQ.out
        go_num
      case measure => simp [intOf]; omega
    · obtain rfl : j = k := by omega
      have hcv := fun W (hW : Holds8 5 W w.heap.size (lowB n j)) => run_convert_bytes_back (P := Tryd.prog) W 22 9 5 ⟨w.heap.size, 0, none⟩ j (lowB n j) Tryd.underlying22 Tryd.underlying5 Tryd.underlying9 (fun i hi => by rw [addr_add0]; exact hW.cell i hi)
      have h8 : Holds8 5 wr w.heap.size (lowB n j) := by
        have := HR.out
        rwa [show rowOf (lowB n j) j = lowB n j by have := rowOf_all (lowB n j); rwa [length_lowB] at this] at this
      have hcv := hcv wr h8
      rw [length_lowB] at hcv
      clear h8
      go_wp2
      go_ret
      exact ⟨rfl, HB.out⟩

set_option maxRecDepth 40000 in
theorem iFixed_no (n k : Int) (w : World) (h : ¬ (1 ≤ k ∧ k ≤ 7 ∧ 0 ≤ n ∧ n < ((256 ^ k.toNat : Nat) : Int))) (hb : n < 9223372036854775808) :
    Calls Tryd.prog 89 #[.int .i64 n, .int .i64 k] w (StrPost w []) := by
  by_cases hk : 1 ≤ k ∧ k ≤ 7
  · obtain ⟨k, rfl⟩ : ∃ m : Nat, k = (m : Int) := ⟨k.toNat, by omega⟩
    obtain ⟨hk1, hk2⟩ := hk
    by_cases hn : n < 0
    · have hd : decide (n < 0) = true := by simpa using hn
      clear h
      go_enter Tryd.func89, Tryd.ntmps89
      go_wp2_with (go_at_call 110; refine (widthOk_any _ _).mono ?_; rintro e w' ⟨rfl, rfl⟩)
      go_ret
      exact ⟨rfl, Below.refl _ _⟩
    · have hd : decide (n < 0) = false := by simpa using hn
      obtain ⟨n, rfl⟩ : ∃ m : Nat, n = (m : Int) := ⟨n.toNat, by omega⟩
      have hz : ((n : Int) / 2 ^ (8 * k) != 0) = true := by
        have : 256 ^ k ≤ n := by
          refine Nat.le_of_not_lt fun hc => h ⟨hk1, hk2, by omega, ?_⟩
          rw [Int.toNat_natCast]
          exact_mod_cast hc
        have h2 : 0 < n / 256 ^ k := Nat.div_pos this (Nat.pow_pos (by omega))
        have h3 : ((n / 256 ^ k : Nat) : Int) ≠ 0 := by omega
        rw [pow2_256, ← Int.natCast_ediv, bne_iff_ne]
        exact h3
      clear h
      go_enter Tryd.func89, Tryd.ntmps89
      go_wp2_with (go_at_call 110; refine (widthOk_any _ _).mono ?_; rintro e w' ⟨rfl, rfl⟩)
      go_ret
      exact ⟨rfl, Below.refl _ _⟩
  · have hd : (decide (1 ≤ k) && decide (k ≤ 7)) = false := by simp; omega
    clear h hk
    go_enter Tryd.func89, Tryd.ntmps89
    go_wp2_with (go_at_call 110; refine (widthOk_any _ _).mono ?_; rw [hd]; rintro e w' ⟨rfl, rfl⟩)
    go_ret
    exact ⟨rfl, Below.refl _ _⟩

/-- What spec.Fixed gives for a width within bounds and a number that isn't negative. -/
def fixedL (n k : Nat) : List UInt8 := if n / 256 ^ k = 0 then lowB n k else []

/-- Fixed, for whatever numbers. -/
def fixedV (n k : Int) : List UInt8 := if 1 ≤ k ∧ k ≤ 7 ∧ 0 ≤ n then fixedL n.toNat k.toNat else []

set_option maxRecDepth 40000 in
theorem iFixed_any (n k : Int) (w : World) (hb : n < 9223372036854775808) : Calls Tryd.prog 89 #[.int .i64 n, .int .i64 k] w (StrPost w (fixedV n k)) := by
  by_cases h : 1 ≤ k ∧ k ≤ 7 ∧ 0 ≤ n ∧ n < ((256 ^ k.toNat : Nat) : Int)
  · obtain ⟨h1, h2, h3, h4⟩ := h
    have h5 : n.toNat < 256 ^ k.toNat := by omega
    rw [fixedV, if_pos ⟨h1, h2, h3⟩, fixedL, if_pos (Nat.div_eq_of_lt h5)]
    have := iFixed_yes n.toNat k.toNat w (by omega) (by omega) h5
    rwa [Int.toNat_of_nonneg h3, Int.toNat_of_nonneg (by omega)] at this
  · have e : fixedV n k = [] := by
      unfold fixedV
      split
      · rename_i h'
        have h5 : 256 ^ k.toNat ≤ n.toNat := by
          refine Nat.le_of_not_lt fun hc => h ⟨h'.1, h'.2.1, h'.2.2, by omega⟩
        have := Nat.div_pos h5 (Nat.pow_pos (by omega))
        rw [fixedL, if_neg (by omega)]
      · rfl
    rw [e]
    exact iFixed_no n k w h hb
end Go.Proofs.YtakjjfbocokpaaaDoor

/-
  Split off NonceY: nonceHead, nonceL, length_nonceL, fixedV7.
-/
namespace Go.Proofs.YtakjjfbocokpaaaDoor
open Go.ChangeShapes Go.WideShapes Go.ChangeAt Go.RowKit

/-- The five bytes ahead of the number. -/
def nonceHead (k : Nat) : List UInt8 := [UInt8.ofNat k, 0, 0, 0, 0]
def nonceL (k n : Int) : List UInt8 := if 0 ≤ k ∧ k ≤ 255 ∧ 0 ≤ n ∧ n ≤ 562949953421311 then nonceHead k.toNat ++ lowB n.toNat 7 else []
theorem length_nonceL (k n : Int) (h : 0 ≤ k ∧ k ≤ 255 ∧ 0 ≤ n ∧ n ≤ 562949953421311) : (nonceL k n).length = 12 := by
  rw [nonceL, if_pos h, List.length_append, length_lowB]; rfl
theorem fixedV7 (n : Nat) (h : (n : Int) ≤ 562949953421311) : fixedV n 7 = lowB n 7 := by
  rw [fixedV, if_pos ⟨by decide, by decide, by omega⟩, fixedL, if_pos]
  · rfl
  · show n / 256 ^ 7 = 0
    exact Nat.div_eq_of_lt (by omega)
end Go.Proofs.YtakjjfbocokpaaaDoor

/-
  A slice of bytes that the call itself owns: appended to, and turned into a string.
-/
namespace Go.Proofs.YtakjjfbocokpaaaDoor
open Go.ChangeShapes Go.WideShapes Go.ChangeAt Go.RowKit

def Owns8 (B : Nat) (w : World) (v : Value) (l : List UInt8) : Prop := w.ownsRow B 5 1 v l.length (byteVals l)

theorem Owns8.lit (B : Nat) (w : World) (l : List UInt8) (hB : B ≤ w.heap.size) (hl : l.length ≤ maxLen) : Owns8 B (w.alloc (.cells (byteVals l).toArray 5)) (.slice (some ⟨w.heap.size, 0, none⟩) l.length l.length) l := by
  have := World.ownsRow_lit (base := B) (e := 5) (size := 1) w (byteVals l).toArray l.length hB hl (by simp [length_byteVals])
  simpa [Owns8] using this

theorem wp_append8 {o : Oper} {a : Act} {K : Act → World → Prop} {Q : Exit → Act → World → Prop} (s x : Operand)
    (ho : o.op = .call { callee := .builtin .append, args := #[s, x], argTypes := #[22, 22] })
    (B : Nat) (w0 wr : World) (ad : Addr) (v : Value) (l cs : List UInt8) (m : Nat) (hs : a.eval s = v) (hx : a.eval x = .slice (some ad) m m)
    (hown : Owns8 B wr v l) (hbel : Below B w0 wr) (hB : B ≤ wr.heap.size)
    (hc : ∀ j (h : j < cs.length), wr.cell? (ad.add j) = some (.int .u8 (cs[j].toNat : Int))) (hm : cs.length = m) (hlen : l.length + m ≤ 1099511627776)
    (h : ∀ v' w', Hid (Owns8 B w' v' (l ++ cs)) → Hid (Below B w0 w') → wr.heap.size ≤ w'.heap.size → K (a.put o.dst v') w') :
    o.wp Tryd.prog a wr K Q := by
  obtain ⟨i0, hi, hz0, hz1, hz2⟩ := info_parts info8
  refine wp_append_own _ s x 22 ho B 5 i0 (.int .u8 0) 1 1 Tryd.underlying22 hi hz0 hz1 hz2 rfl (by decide) v l.length (byteVals l) hs hown
    ad m m (byteVals cs) hx (by rw [length_byteVals, hm]; omega) ?_ (byteVals_one cs) (by unfold maxLen; omega) (by omega) hB ?_
  · intro j u hj
    obtain ⟨hj', rfl⟩ := byteVals_some cs j u hj
    exact hc j hj'
  · intro v' w' h1 h2 _
    refine h v' w' ?_ ?_ h2.size
    · show World.ownsRow _ _ _ _ _ _ _
      rw [List.length_append, hm]
      rwa [show byteVals l ++ byteVals cs = byteVals (l ++ cs) by simp [byteVals]] at h1
    · exact Below.grown hbel h2 hB (fun k hk => (World.ownsRow.lt hown k hk).1)

theorem append8 {ops : Array Oper} {rest : List Oper} {o : Oper} {a : Act} {Q : Exit → Act → World → Prop} (hgd : o.guard = none) (s x : Operand)
    (ho : o.op = .call { callee := .builtin .append, args := #[s, x], argTypes := #[22, 22] })
    (B : Nat) (w0 wr : World) (v : Value) (l cs : List UInt8) (m : Nat) (vs : Array Value) (hs : a.eval s = v) (hx : a.eval x = .slice (some ⟨wr.heap.size, 0, none⟩) m m)
    (hown : Hid (Owns8 B wr v l)) (hbel : Hid (Below B w0 wr)) (hB : B ≤ wr.heap.size)
    (hv : vs = (byteVals cs).toArray) (hm : cs.length = m) (hlen : l.length + m ≤ 1099511627776)
    (h : ∀ v' w', Hid (Owns8 B w' v' (l ++ cs)) → Hid (Below B w0 w') → wr.heap.size < w'.heap.size → wpList Tryd.prog ops Q rest (a.put o.dst v') w') :
    wpList Tryd.prog ops Q (o :: rest) a (wr.alloc (.cells vs 5)) := by
  subst hv
  refine wpList_plain hgd fun K hK => ?_
  refine wp_append8 s x ho B w0 _ ⟨wr.heap.size, 0, none⟩ v l cs m hs hx (World.ownsRow.alloc (h := hown.out) (o := .cells (byteVals cs).toArray 5)) (hbel.out.alloc hB _) (by rw [Go.Deep.nblk_alloc]; omega) (fun j hj => by rw [addr_add0]; exact (Holds8.new 5 wr cs).cell j hj) hm hlen fun v' w' h1 h2 h3 => hK _ _ (h v' w' h1 h2 ?_)
  rw [Go.Deep.nblk_alloc] at h3
  omega

/-- The same as a step of a region that draws its order. -/
theorem step_append8 {ops : Array Oper} {o : Oper} {a : Act} {K : Act → World → Prop} {Q : Exit → Act → World → Prop} {E : Prop} (hgd : o.guard = none) (s x : Operand)
    (ho : o.op = .call { callee := .builtin .append, args := #[s, x], argTypes := #[22, 22] })
    (B : Nat) (w0 wr : World) (v : Value) (l cs : List UInt8) (m : Nat) (vs : Array Value) (hs : a.eval s = v) (hx : a.eval x = .slice (some ⟨wr.heap.size, 0, none⟩) m m)
    (hown : Hid (Owns8 B wr v l)) (hbel : Hid (Below B w0 wr)) (hB : B ≤ wr.heap.size)
    (hv : vs = (byteVals cs).toArray) (hm : cs.length = m) (hlen : l.length + m ≤ 1099511627776)
    (h : ∀ v' w', Hid (Owns8 B w' v' (l ++ cs)) → Hid (Below B w0 w') → wr.heap.size < w'.heap.size → K (a.put o.dst v') w') :
    if Region.wanted o (yielded ops a.tmps) = true then Oper.wp Tryd.prog o a (wr.alloc (.cells vs 5)).drew K Q else E := by
  subst hv
  have hw : Region.wanted o (yielded ops a.tmps) = true := by simp [Region.wanted, hgd]
  rw [if_pos hw]
  refine wp_append8 s x ho B w0 _ ⟨wr.heap.size, 0, none⟩ v l cs m hs hx (World.ownsRow.alloc (h := hown.out) (o := .cells (byteVals cs).toArray 5)) (hbel.out.alloc hB _).drew (show B ≤ (wr.alloc _).heap.size by rw [Go.Deep.nblk_alloc]; omega) (fun j hj => by rw [addr_add0]; exact (Holds8.new 5 wr cs).cell j hj) hm hlen fun v' w' h1 h2 h3 => h v' w' h1 h2 ?_
  have : (wr.alloc (.cells (byteVals cs).toArray 5)).heap.size ≤ w'.heap.size := h3
  rw [Go.Deep.nblk_alloc] at this
  omega

theorem run_convOwn (B : Nat) (w : World) (v : Value) (l : List UInt8) (h : Owns8 B w v l) : (convert 22 9 v).run Tryd.prog w = .ok (.string ⟨l.toArray⟩) w := by
  obtain ⟨hl, ⟨rfl, h0⟩ | ⟨g, cap, cur, rfl, _, hg, hn, hc, hs, ht⟩⟩ := h
  · obtain rfl : l = [] := List.eq_nil_of_length_eq_zero h0
    rw [run_convert_bytes_string w _ _ 5 none 0 0 Tryd.underlying22 Tryd.underlying5 Tryd.underlying9]
    rfl
  · refine run_convert_bytes_back (P := Tryd.prog) w 22 9 5 ⟨g, 0, none⟩ cap l Tryd.underlying22 Tryd.underlying5 Tryd.underlying9 (fun j hj => ?_)
    rw [addr_add0]
    have e : cur[j]? = (byteVals l)[j]? := by
      rw [← ht, Nat.mul_one, List.getElem?_take, if_pos hj, Array.getElem?_toList]
    rw [byteVals_at l j hj] at e
    simp [World.cell?, hg, e]
end Go.Proofs.YtakjjfbocokpaaaDoor

/-
  Contract of spec.Fixed.
-/
namespace Go.Proofs.YtakjjfbocokpaaaDoor
open Go.ChangeShapes Go.WideShapes Go.ChangeAt Go.RowKit

set_option maxRecDepth 40000 in
theorem sFixed_yes (n k : Nat) (w : World) (h1 : 1 ≤ k) (h7 : k ≤ 7) (hb : n < 9223372036854775808) :
    Calls Tryd.prog 80 #[.int .i64 n, .int .i64 k] w (StrPost w (fixedL n k)) := by
  have hn0 : decide ((n : Int) < 0) = false := by simp
  go_enter Tryd.func80, Tryd.ntmps80
  go_wp2_with (go_at_call 52; refine (l1In_any _ _ _ _).mono ?_; rintro e w' ⟨rfl, rfl⟩)
  go_loopw [0, 5, 6] (fun x s i wr => ∃ j m : Nat, j ≤ k ∧ Hid (m = n / 256 ^ j) ∧ m < 9223372036854775808 ∧ x = .int .i64 m ∧ i = .int .i64 j ∧ s = .string ⟨(lowB n j).toArray⟩ ∧ Below w.heap.size w wr)
    (fun _ _ i _ => k - (intOf i).toNat)
  case atStart => exact ⟨0, n, Nat.zero_le _, by simp [Hid], hb, rfl, rfl, rfl, Below.refl _ _⟩
  case round =>
    obtain ⟨j, m, hj, HM, hm, rfl, rfl, rfl, hbel⟩ := hrel
    have HB := hide hbel
    clear hbel
    by_cases hlt : j < k
    · have hcv := run_conv1 ((m : Int) % 256) (UInt8.ofNat (m % 256)) (by simp) wr
      have C1 := hide (show (⟨#[UInt8.ofNat (m % 256)]⟩ : ByteArray) ++ ⟨(lowB n j).toArray⟩ = ⟨(lowB n (j + 1)).toArray⟩ by
        rw [show #[UInt8.ofNat (m % 256)] = [UInt8.ofNat (m % 256)].toArray from rfl, ByteArray.mk_append_mk, HM.out]; rfl)
      have C2 := hide (show m / 256 = n / 256 ^ (j + 1) by rw [HM.out, Nat.div_div_eq_div_mul, Nat.pow_succ])
      have hadd := run_string_add_sum (P := Tryd.prog) (w := wr.alloc (.cells #[.int .u8 ((m : Int) % 256)] 5)) ⟨#[UInt8.ofNat (m % 256)]⟩ ⟨(lowB n j).toArray⟩ (by simp [ByteArray.size, length_lowB]; omega)
      rw [C1.out] at hadd
      go_wp2
      go_roundw
      case rel => exact ⟨j + 1, m / 256, by omega, C2.out, by omega, by go_num, by go_num, rfl, HB.out.alloc HB.out.size _⟩
      case measure => simp [intOf]; omega
    · obtain rfl : j = k := by omega
      have C := hide (show fixedL n j = if m = 0 then lowB n j else [] by rw [fixedL, ← HM.out])
      by_cases h0 : m = 0
      · obtain rfl : 0 = m := h0.symm
        rw [if_pos rfl] at C
        go_wp2
        go_ret
        exact ⟨by rw [C.out]; rfl, HB.out⟩
      · rw [if_neg h0] at C
        have hp : 0 < m := by omega
        go_wp2
        go_ret
        exact ⟨by rw [C.out]; rfl, HB.out⟩

set_option maxRecDepth 40000 in
theorem sFixed_no (n k : Int) (w : World) (h : ¬ (1 ≤ k ∧ k ≤ 7 ∧ 0 ≤ n)) :
    Calls Tryd.prog 80 #[.int .i64 n, .int .i64 k] w (StrPost w []) := by
  by_cases hk : 1 ≤ k ∧ k ≤ 7
  · obtain ⟨hk1, hk2⟩ := hk
    have hd : decide (n < 0) = true := by simp; omega
    clear h
    go_enter Tryd.func80, Tryd.ntmps80
    go_wp2_with (go_at_call 52; refine (l1In_any _ _ _ _).mono ?_; rintro e w' ⟨rfl, rfl⟩)
    go_ret
    exact ⟨rfl, Below.refl _ _⟩
  · have hd : (decide (1 ≤ k) && decide (k ≤ 7)) = false := by simp; omega
    clear h hk
    go_enter Tryd.func80, Tryd.ntmps80
    go_wp2_with (go_at_call 52; refine (l1In_any _ _ _ _).mono ?_; rw [hd]; rintro e w' ⟨rfl, rfl⟩)
    go_ret
    exact ⟨rfl, Below.refl _ _⟩

set_option maxRecDepth 40000 in
theorem sFixed_any (n k : Int) (w : World) (hb : n < 9223372036854775808) : Calls Tryd.prog 80 #[.int .i64 n, .int .i64 k] w (StrPost w (fixedV n k)) := by
  by_cases h : 1 ≤ k ∧ k ≤ 7 ∧ 0 ≤ n
  · rw [fixedV, if_pos h]
    obtain ⟨h1, h2, h3⟩ := h
    have := sFixed_yes n.toNat k.toNat w (by omega) (by omega) (by omega)
    rwa [Int.toNat_of_nonneg h3, Int.toNat_of_nonneg (by omega)] at this
  · rw [fixedV, if_neg h]
    exact sFixed_no n k w h
end Go.Proofs.YtakjjfbocokpaaaDoor
